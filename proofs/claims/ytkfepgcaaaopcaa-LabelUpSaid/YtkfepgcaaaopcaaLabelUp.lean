/- hardtacklaw01.LabelUp answers true for every two strings, and leaves what lay as it lay. Conditions: none beyond the form's own. -/
import Derived.Test.YtkfepgcaaaopcaaLaw1
import Derived.Test.YtkfepgcaaaopcaaRows
import Derived.ProofKit
import Derived.ChangeOld
namespace Go.Proofs.Ytkfepgcaaaopcaa
open Go Go.RowKit Go.Shelf

theorem chk_name {s : ByteArray} (h : isName s = true) : chk s = 0 := by simp [chk, h]
theorem chk_none {s : ByteArray} (h : isName s = false) : chk s = 2 := by simp [chk, h]
theorem fl_len (ls : List (List UInt8)) : (fl ls).length = ls.length := by simp [fl]
theorem size_max {s : ByteArray} {ls : List (List UInt8)} (h : Rep s ls) : s.size ≤ maxLen := by have := h.len; unfold maxLen; omega

set_option maxRecDepth 100000 in
set_option maxHeartbeats 8000000 in
theorem labelUp_walk (a b : ByteArray) (w : World) (ha : a.size ≤ maxLen) (hb : b.size ≤ maxLen) :
    Calls Try.prog 3 #[.string a, .string b] w fun e w' => e = .returned (.bool true) ∧ Ext w w' := by
  have CL := Lib.hid fun W => lives1_any W
  have CP := Lib.hid fun W => Parent_any b W hb
  have CA := Lib.hid fun W => Check_any a W ha
  have CB := Lib.hid fun W => Check_any b W hb
  have CAB := Lib.hid fun W => Within_any a b W ha hb
  have CAR := Lib.hid fun W => Within_any a ⟨#[0]⟩ W ha (by decide)
  have HX := Lib.hid (Ext.refl w)
  cases hnb : isName b with
  | false =>
    have CC := Lib.hid fun W => (count_none hnb) ▸ Count_any b W hb
    rw [parent_none hnb] at CP
    rw [chk_none hnb] at CB
    cases hna : isName a with
    | false =>
      rw [chk_none hna] at CA
      clear hna hnb
      go_enter Try.func3, Try.ntmps3
      go_wp2_with (first
        | ((with_reducible refine (CL.out _).mono ?_); rintro e w' ⟨rfl, hx⟩; have HX := Lib.hid (HX.out.trans hx); clear hx)
        | ((with_reducible refine (CP.out _).mono ?_); rintro e w' ⟨rfl, hx⟩; have HX := Lib.hid (HX.out.trans hx); clear hx)
        | ((with_reducible refine (CC.out _).mono ?_); rintro e w' ⟨rfl, hx⟩; have HX := Lib.hid (HX.out.trans hx); clear hx)
        | ((with_reducible refine (CA.out _).mono ?_); rintro e w' ⟨rfl, hx⟩; have HX := Lib.hid (HX.out.trans hx); clear hx)
        | ((with_reducible refine (CB.out _).mono ?_); rintro e w' ⟨rfl, hx⟩; have HX := Lib.hid (HX.out.trans hx); clear hx))
      go_ret
      exact ⟨rfl, HX.out⟩
    | true =>
      rw [chk_name hna] at CA
      clear hna hnb
      go_enter Try.func3, Try.ntmps3
      go_wp2_with (first
        | ((with_reducible refine (CL.out _).mono ?_); rintro e w' ⟨rfl, hx⟩; have HX := Lib.hid (HX.out.trans hx); clear hx)
        | ((with_reducible refine (CP.out _).mono ?_); rintro e w' ⟨rfl, hx⟩; have HX := Lib.hid (HX.out.trans hx); clear hx)
        | ((with_reducible refine (CC.out _).mono ?_); rintro e w' ⟨rfl, hx⟩; have HX := Lib.hid (HX.out.trans hx); clear hx)
        | ((with_reducible refine (CA.out _).mono ?_); rintro e w' ⟨rfl, hx⟩; have HX := Lib.hid (HX.out.trans hx); clear hx)
        | ((with_reducible refine (CB.out _).mono ?_); rintro e w' ⟨rfl, hx⟩; have HX := Lib.hid (HX.out.trans hx); clear hx))
      go_ret
      exact ⟨rfl, HX.out⟩
  | true =>
    obtain ⟨ls, hr⟩ := rep_of_name hnb
    rw [chk_name hnb] at CB
    cases ls with
    | nil =>
      have CC := Lib.hid fun W => hr.count ▸ Count_any b W hb
      rw [parent_root hr] at CP
      cases hna : isName a with
      | false =>
        rw [chk_none hna] at CA
        clear hna hnb hr
        go_enter Try.func3, Try.ntmps3
        go_wp2_with (first
          | ((with_reducible refine (CL.out _).mono ?_); rintro e w' ⟨rfl, hx⟩; have HX := Lib.hid (HX.out.trans hx); clear hx)
          | ((with_reducible refine (CP.out _).mono ?_); rintro e w' ⟨rfl, hx⟩; have HX := Lib.hid (HX.out.trans hx); clear hx)
          | ((with_reducible refine (CC.out _).mono ?_); rintro e w' ⟨rfl, hx⟩; have HX := Lib.hid (HX.out.trans hx); clear hx)
          | ((with_reducible refine (CA.out _).mono ?_); rintro e w' ⟨rfl, hx⟩; have HX := Lib.hid (HX.out.trans hx); clear hx)
          | ((with_reducible refine (CB.out _).mono ?_); rintro e w' ⟨rfl, hx⟩; have HX := Lib.hid (HX.out.trans hx); clear hx))
        go_ret
        exact ⟨rfl, HX.out⟩
      | true =>
        rw [chk_name hna] at CA
        obtain ⟨la, hra⟩ := rep_of_name hna
        have hw : withinB a b = true := (within_iff hra hr).2 List.nil_suffix
        rw [hw] at CAB
        clear hna hnb hr hra hw
        go_enter Try.func3, Try.ntmps3
        go_wp2_with (first
          | ((with_reducible refine (CL.out _).mono ?_); rintro e w' ⟨rfl, hx⟩; have HX := Lib.hid (HX.out.trans hx); clear hx)
          | ((with_reducible refine (CP.out _).mono ?_); rintro e w' ⟨rfl, hx⟩; have HX := Lib.hid (HX.out.trans hx); clear hx)
          | ((with_reducible refine (CC.out _).mono ?_); rintro e w' ⟨rfl, hx⟩; have HX := Lib.hid (HX.out.trans hx); clear hx)
          | ((with_reducible refine (CA.out _).mono ?_); rintro e w' ⟨rfl, hx⟩; have HX := Lib.hid (HX.out.trans hx); clear hx)
          | ((with_reducible refine (CB.out _).mono ?_); rintro e w' ⟨rfl, hx⟩; have HX := Lib.hid (HX.out.trans hx); clear hx)
          | ((with_reducible refine (CAB.out _).mono ?_); rintro e w' ⟨rfl, hx⟩; have HX := Lib.hid (HX.out.trans hx); clear hx))
        go_ret
        exact ⟨rfl, HX.out⟩
    | cons l r =>
      obtain ⟨hp0, hrp⟩ := parent_cons hr
      obtain ⟨p, hpe⟩ : ∃ p, (parentR b).1 = p := ⟨_, rfl⟩
      rw [hpe] at hrp
      rw [hp0, hpe] at CP
      clear hp0 hpe
      have hp := size_max hrp
      obtain ⟨n, hn⟩ : ∃ n, r.length = n := ⟨_, rfl⟩
      have hn255 : n ≤ 255 := by
        have h1 := labelsB_length p
        rw [hrp.count, hn] at h1
        have h2 := hrp.len
        omega
      have CCb : Hid (∀ W, Calls Try.prog 12 #[.string b] W fun e w' => e = .returned (.int .i64 ((n : Int) + 1)) ∧ Ext W w') := Lib.hid fun W => by
        have h1 := Count_any b W hb
        rw [hr.count, List.length_cons, hn] at h1
        exact h1
      have CCp : Hid (∀ W, Calls Try.prog 12 #[.string p] W fun e w' => e = .returned (.int .i64 (n : Int)) ∧ Ext W w') := Lib.hid fun W => by
        have h1 := Count_any p W hp
        rw [hrp.count, hn] at h1
        exact h1
      have CBP := Lib.hid fun W => Within_any b p W hb hp
      have CPB := Lib.hid fun W => Within_any p b W hp hb
      have CAP := Lib.hid fun W => Within_any a p W ha hp
      have hbp : withinB b p = true := (within_iff hr hrp).2 (by simp [fl])
      have hpb : withinB p b = false := by
        cases h : withinB p b with
        | false => rfl
        | true =>
          have h1 := ((within_iff hrp hr).1 h).length_le
          simp [fl_len] at h1
          omega
      rw [hbp] at CBP
      rw [hpb] at CPB
      clear hbp hpb
      cases hna : isName a with
      | false =>
        rw [chk_none hna] at CA
        rw [within_none (.inl hna)] at CAB
        clear hna hnb hr hrp hn
        go_enter Try.func3, Try.ntmps3
        go_wp2_with (first
          | ((with_reducible refine (CL.out _).mono ?_); rintro e w' ⟨rfl, hx⟩; have HX := Lib.hid (HX.out.trans hx); clear hx)
          | ((with_reducible refine (CP.out _).mono ?_); rintro e w' ⟨rfl, hx⟩; have HX := Lib.hid (HX.out.trans hx); clear hx)
          | ((with_reducible refine (CCb.out _).mono ?_); rintro e w' ⟨rfl, hx⟩; have HX := Lib.hid (HX.out.trans hx); clear hx)
          | ((with_reducible refine (CCp.out _).mono ?_); rintro e w' ⟨rfl, hx⟩; have HX := Lib.hid (HX.out.trans hx); clear hx)
          | ((with_reducible refine (CBP.out _).mono ?_); rintro e w' ⟨rfl, hx⟩; have HX := Lib.hid (HX.out.trans hx); clear hx)
          | ((with_reducible refine (CPB.out _).mono ?_); rintro e w' ⟨rfl, hx⟩; have HX := Lib.hid (HX.out.trans hx); clear hx)
          | ((with_reducible refine (CAB.out _).mono ?_); rintro e w' ⟨rfl, hx⟩; have HX := Lib.hid (HX.out.trans hx); clear hx)
          | ((with_reducible refine (CA.out _).mono ?_); rintro e w' ⟨rfl, hx⟩; have HX := Lib.hid (HX.out.trans hx); clear hx))
        go_ret
        exact ⟨rfl, HX.out⟩
      | true =>
        rw [chk_name hna] at CA
        obtain ⟨la, hra⟩ := rep_of_name hna
        rw [(within_iff hra rep_root).2 List.nil_suffix] at CAR
        cases hab : withinB a b with
        | false =>
          rw [hab] at CAB
          clear hna hnb hr hrp hn hra hab
          go_enter Try.func3, Try.ntmps3
          go_wp2_with (first
            | ((with_reducible refine (CL.out _).mono ?_); rintro e w' ⟨rfl, hx⟩; have HX := Lib.hid (HX.out.trans hx); clear hx)
            | ((with_reducible refine (CP.out _).mono ?_); rintro e w' ⟨rfl, hx⟩; have HX := Lib.hid (HX.out.trans hx); clear hx)
            | ((with_reducible refine (CCb.out _).mono ?_); rintro e w' ⟨rfl, hx⟩; have HX := Lib.hid (HX.out.trans hx); clear hx)
            | ((with_reducible refine (CCp.out _).mono ?_); rintro e w' ⟨rfl, hx⟩; have HX := Lib.hid (HX.out.trans hx); clear hx)
            | ((with_reducible refine (CBP.out _).mono ?_); rintro e w' ⟨rfl, hx⟩; have HX := Lib.hid (HX.out.trans hx); clear hx)
            | ((with_reducible refine (CPB.out _).mono ?_); rintro e w' ⟨rfl, hx⟩; have HX := Lib.hid (HX.out.trans hx); clear hx)
            | ((with_reducible refine (CAB.out _).mono ?_); rintro e w' ⟨rfl, hx⟩; have HX := Lib.hid (HX.out.trans hx); clear hx)
            | ((with_reducible refine (CA.out _).mono ?_); rintro e w' ⟨rfl, hx⟩; have HX := Lib.hid (HX.out.trans hx); clear hx)
            | ((with_reducible refine (CAR.out _).mono ?_); rintro e w' ⟨rfl, hx⟩; have HX := Lib.hid (HX.out.trans hx); clear hx))
          go_ret
          exact ⟨rfl, HX.out⟩
        | true =>
          have h1 := (within_iff hra hr).1 hab
          have hap : withinB a p = true := (within_iff hra hrp).2 ((List.suffix_cons (List.map foldB l) (fl r)).trans h1)
          have h2 := h1.length_le
          rw [fl_len, fl_len, List.length_cons, hn] at h2
          obtain ⟨m, hm⟩ : ∃ m, la.length = m := ⟨_, rfl⟩
          rw [hm] at h2
          have CCa : Hid (∀ W, Calls Try.prog 12 #[.string a] W fun e w' => e = .returned (.int .i64 (m : Int)) ∧ Ext W w') := Lib.hid fun W => by
            have h1 := Count_any a W ha
            rw [hra.count, hm] at h1
            exact h1
          rw [hab] at CAB
          rw [hap] at CAP
          have h3 : (n : Int) + 1 ≤ (m : Int) := by omega
          clear hna hnb hr hrp hn hra hab h1 hap hm
          go_enter Try.func3, Try.ntmps3
          go_wp2_with (first
            | ((with_reducible refine (CL.out _).mono ?_); rintro e w' ⟨rfl, hx⟩; have HX := Lib.hid (HX.out.trans hx); clear hx)
            | ((with_reducible refine (CP.out _).mono ?_); rintro e w' ⟨rfl, hx⟩; have HX := Lib.hid (HX.out.trans hx); clear hx)
            | ((with_reducible refine (CCb.out _).mono ?_); rintro e w' ⟨rfl, hx⟩; have HX := Lib.hid (HX.out.trans hx); clear hx)
            | ((with_reducible refine (CCp.out _).mono ?_); rintro e w' ⟨rfl, hx⟩; have HX := Lib.hid (HX.out.trans hx); clear hx)
            | ((with_reducible refine (CBP.out _).mono ?_); rintro e w' ⟨rfl, hx⟩; have HX := Lib.hid (HX.out.trans hx); clear hx)
            | ((with_reducible refine (CPB.out _).mono ?_); rintro e w' ⟨rfl, hx⟩; have HX := Lib.hid (HX.out.trans hx); clear hx)
            | ((with_reducible refine (CAB.out _).mono ?_); rintro e w' ⟨rfl, hx⟩; have HX := Lib.hid (HX.out.trans hx); clear hx)
            | ((with_reducible refine (CA.out _).mono ?_); rintro e w' ⟨rfl, hx⟩; have HX := Lib.hid (HX.out.trans hx); clear hx)
            | ((with_reducible refine (CAR.out _).mono ?_); rintro e w' ⟨rfl, hx⟩; have HX := Lib.hid (HX.out.trans hx); clear hx)
            | ((with_reducible refine (CAP.out _).mono ?_); rintro e w' ⟨rfl, hx⟩; have HX := Lib.hid (HX.out.trans hx); clear hx)
            | ((with_reducible refine (CCa.out _).mono ?_); rintro e w' ⟨rfl, hx⟩; have HX := Lib.hid (HX.out.trans hx); clear hx))
          go_ret
          exact ⟨rfl, HX.out⟩

end Go.Proofs.Ytkfepgcaaaopcaa
