/- What hardtackref02's Common and Next do. Conditions: strings that Go can hold. -/
import Derived.Test.YtmmjhdkoccpdjaaRefC
import Derived.Test.YtmmjhdkoccpdjaaListA
namespace Go.Proofs.Ytmmjhdkoccpdjaa
open Go Go.RowKit Go.Shelf
attribute [local go_sem] Oper.semAt_some wide_fn wide_depth

theorem up255 {s x : ByteArray} (h : x ∈ upB s) : x.size ≤ 255 := by
  have := (upB_size _ s (Nat.le_refl _) x h).2
  exact name_le this

set_option maxRecDepth 100000 in
set_option maxHeartbeats 2000000 in
theorem RCommon_any (a b : ByteArray) (w : World) (ha : a.size ≤ maxLen) (hb : b.size ≤ maxLen) :
    Calls Try.prog 22 #[.string a, .string b] w fun e w' => e = .returned (.tuple #[.string (commonR a b).1, .int .i64 (commonR a b).2]) ∧ Ext w w' := by
  have CA := Lib.hid fun W => RCheck_any a W ha
  have CB := Lib.hid fun W => RCheck_any b W hb
  have CU := Lib.hid fun W => RUp_any a W ha
  have HX := Lib.hid (Ext.refl w)
  cases hna : isName a with
  | false =>
    rw [chk_none hna] at CA
    rw [common_none (.inl hna)]
    clear hna
    go_enter Try.func22, Try.ntmps22
    go_wp2_with fail
    refine (CA.out _).mono ?_
    rintro e w1 ⟨rfl, hx⟩
    have HX := Lib.hid (HX.out.trans hx); clear hx
    go_wp2
    go_ret2
    exact ⟨rfl, HX.out⟩
  | true =>
    cases hnb : isName b with
    | false =>
      rw [chk_name hna] at CA
      rw [chk_none hnb] at CB
      rw [common_none (.inr hnb)]
      clear hna hnb
      go_enter Try.func22, Try.ntmps22
      go_wp2_with fail
      refine (CA.out _).mono ?_
      rintro e w1 ⟨rfl, hx⟩
      have HX := Lib.hid (HX.out.trans hx); clear hx
      go_wp2_with fail
      refine (CB.out _).mono ?_
      rintro e w2 ⟨rfl, hx⟩
      have HX := Lib.hid (HX.out.trans hx); clear hx
      go_wp2
      go_ret2
      exact ⟨rfl, HX.out⟩
    | true =>
      have hsome : ∃ x, (upB a).find? (withinB b) = some x := by
        obtain ⟨x, y, h1, _⟩ := common_both hna hnb
        cases hf : (upB a).find? (withinB b) with
        | some x => exact ⟨x, rfl⟩
        | none => rw [commonR, hf] at h1; simp at h1
      have hlu := upB_len255 a
      have hmu : ∀ x ∈ upB a, x.size ≤ maxLen := fun x hx => by have := up255 hx; unfold maxLen; omega
      have Hsome := Lib.hid hsome; clear hsome
      have Hmu := Lib.hid hmu; clear hmu
      rw [chk_name hna] at CA
      rw [chk_name hnb] at CB
      clear hna hnb
      go_enter Try.func22, Try.ntmps22
      go_wp2_with fail
      refine (CA.out _).mono ?_
      rintro e w1 ⟨rfl, hx⟩
      have HX := Lib.hid (HX.out.trans hx); clear hx
      go_wp2_with fail
      refine (CB.out _).mono ?_
      rintro e w2 ⟨rfl, hx⟩
      have HX := Lib.hid (HX.out.trans hx); clear hx
      go_wp2_with fail
      refine (CU.out _).mono ?_
      rintro e w3 ⟨v, rfl, hv, hx⟩
      have HX := Lib.hid (HX.out.trans hx); clear hx
      obtain ⟨ao, cap, rfl, hsv2⟩ := hv.open
      have Hsv := Lib.hid hsv2; clear hsv2 hv
      obtain ⟨ul, hul⟩ : ∃ ul, upB a = ul := ⟨_, rfl⟩
      have hcr : commonR a b = match ul.find? (withinB b) with | some x => (x, 0) | none => (⟨#[]⟩, 2) := by rw [← hul]; rfl
      rw [hul] at Hsv Hsome Hmu hlu ⊢
      have Hcr := Lib.hid hcr; clear hcr
      clear hul
      go_wp2_with fail
      go_loopw [19] (fun i wr => ∃ k : Nat, k ≤ ul.length ∧ i = .int .i64 k ∧ (∀ x ∈ ul.take k, withinB b x = false) ∧ Ext w3 wr)
        (fun i _ => ul.length - (intOf i).toNat)
      case atStart => exact ⟨0, Nat.zero_le _, rfl, fun x hx => by simp at hx, Ext.refl _⟩
      case round =>
        obtain ⟨k, hk, rfl, hno, hx⟩ := hrel
        have Hx := Lib.hid hx; clear hx
        have Hno := Lib.hid hno; clear hno
        by_cases hlt : k < ul.length
        · obtain ⟨b0, off, rfl, hc⟩ := Hsv.out k hlt
          replace hc := Hx.out.keeps.cell hc trivial
          have hts := take_snoc ul k ⟨#[]⟩ hlt
          have hmem : (ul[k]?.getD ⟨#[]⟩) ∈ ul := by rw [List.getElem?_eq_getElem hlt]; exact List.getElem_mem hlt
          have hdk : ul.drop k = (ul[k]?.getD ⟨#[]⟩) :: ul.drop (k + 1) := by rw [List.getElem?_eq_getElem hlt]; exact List.drop_eq_getElem_cons hlt
          obtain ⟨x, hx⟩ : ∃ x, ul[k]?.getD ⟨#[]⟩ = x := ⟨_, rfl⟩
          rw [hx] at hc hts hmem hdk
          clear hx
          have CW := Lib.hid fun W => RWithin_any b x W hb (Hmu.out x hmem)
          cases hw : withinB b x with
          | true =>
            rw [hw] at CW
            have hf : ul.find? (withinB b) = some x := by
              rw [← List.take_append_drop k ul, List.find?_append, hdk, List.find?_cons, hw]
              have : (ul.take k).find? (withinB b) = none := List.find?_eq_none.2 fun y hy => by rw [Hno.out y hy]; simp
              rw [this]; rfl
            have Hf : Hid (commonR a b = (x, 0)) := Lib.hid (by rw [Hcr.out, hf])
            clear hf hw hts hmem hdk
            go_wp2_with fail
            refine (CW.out _).mono ?_
            rintro e w5 ⟨rfl, hx⟩
            have Hx := Lib.hid (Hx.out.trans hx); clear hx
            go_wp2
            go_ret2
            exact ⟨by rw [Hf.out]; rfl, HX.out.trans Hx.out⟩
          | false =>
            rw [hw] at CW
            have hno' : ∀ y ∈ ul.take (k + 1), withinB b y = false := fun y hy => by
              rw [hts] at hy
              rcases List.mem_append.1 hy with h | h
              · exact Hno.out y h
              · obtain rfl : y = x := by simpa using h
                exact hw
            have Hno' := Lib.hid hno'; clear hno' hw hts hmem hdk
            go_wp2_with fail
            refine (CW.out _).mono ?_
            rintro e w5 ⟨rfl, hx⟩
            have Hx := Lib.hid (Hx.out.trans hx); clear hx
            go_wp2
            go_roundw
            case rel => exact ⟨k + 1, by omega, by simp, Hno'.out, Hx.out⟩
            case measure => simp [intOf]; omega
        · exfalso
          obtain rfl : k = ul.length := by omega
          obtain ⟨x, hx⟩ := Hsome.out
          have h1 := List.find?_some hx
          have h2 := Hno.out x (by rw [List.take_length]; exact List.mem_of_find?_eq_some hx)
          rw [h2] at h1; cases h1

set_option maxRecDepth 100000 in
set_option maxHeartbeats 2000000 in
theorem RNext_any (z n : ByteArray) (w : World) (hz : z.size ≤ maxLen) (hn : n.size ≤ maxLen) :
    Calls Try.prog 24 #[.string z, .string n] w fun e w' => e = .returned (.tuple #[.string (nextR z n).1, .int .i64 (nextR z n).2]) ∧ Ext w w' := by
  have CA := Lib.hid fun W => RCheck_any z W hz
  have CB := Lib.hid fun W => RCheck_any n W hn
  have CD := Lib.hid fun W => RDepth_any n z W hn hz
  have CU := Lib.hid fun W => RUp_any n W hn
  have HX := Lib.hid (Ext.refl w)
  cases hna : isName z with
  | false =>
    rw [chk_none hna] at CA
    have hr : nextR z n = (⟨#[]⟩, 2) := by rw [nextR, if_pos (.inl hna)]
    rw [hr]
    clear hna hr
    go_enter Try.func24, Try.ntmps24
    go_wp2_with fail
    refine (CA.out _).mono ?_
    rintro e w1 ⟨rfl, hx⟩
    have HX := Lib.hid (HX.out.trans hx); clear hx
    go_wp2
    go_ret2
    exact ⟨rfl, HX.out⟩
  | true =>
    cases hnb : isName n with
    | false =>
      rw [chk_name hna] at CA
      rw [chk_none hnb] at CB
      have hr : nextR z n = (⟨#[]⟩, 2) := by rw [nextR, if_pos (.inr hnb)]
      rw [hr]
      clear hna hnb hr
      go_enter Try.func24, Try.ntmps24
      go_wp2_with fail
      refine (CA.out _).mono ?_
      rintro e w1 ⟨rfl, hx⟩
      have HX := Lib.hid (HX.out.trans hx); clear hx
      go_wp2_with fail
      refine (CB.out _).mono ?_
      rintro e w2 ⟨rfl, hx⟩
      have HX := Lib.hid (HX.out.trans hx); clear hx
      go_wp2
      go_ret2
      exact ⟨rfl, HX.out⟩
    | true =>
      have hnm := next_make hna hnb
      obtain ⟨hr1, hr2⟩ := depth_range (s := n) (z := z)
      have hs255 := name_le hnb
      rw [chk_name hna] at CA
      rw [chk_name hnb] at CB
      clear hna hnb
      obtain ⟨d, hd⟩ : ∃ d, depthB n z = d := ⟨_, rfl⟩
      rw [hd] at CD hnm hr1 hr2
      clear hd
      by_cases hd1 : d < 1
      · have hr := hnm.1 hd1
        rw [hr]
        clear hr hnm
        go_enter Try.func24, Try.ntmps24
        go_wp2_with fail
        refine (CA.out _).mono ?_
        rintro e w1 ⟨rfl, hx⟩
        have HX := Lib.hid (HX.out.trans hx); clear hx
        go_wp2_with fail
        refine (CB.out _).mono ?_
        rintro e w2 ⟨rfl, hx⟩
        have HX := Lib.hid (HX.out.trans hx); clear hx
        go_wp2_with fail
        refine (CD.out _).mono ?_
        rintro e w3 ⟨rfl, hx⟩
        have HX := Lib.hid (HX.out.trans hx); clear hx
        go_wp2
        go_ret2
        exact ⟨rfl, HX.out⟩
      · obtain ⟨k, hk⟩ : ∃ k : Nat, d = (k : Int) + 1 := ⟨(d - 1).toNat, by omega⟩
        subst hk
        obtain ⟨hlt, hr⟩ := hnm.2 k rfl
        have Hr := Lib.hid hr; clear hr hnm
        have hq : (k : Int) + 1 - 1 = k := by omega
        obtain ⟨ul, hul⟩ : ∃ ul, upB n = ul := ⟨_, rfl⟩
        rw [hul] at hlt Hr
        have Hul := Lib.hid hul; clear hul
        go_enter Try.func24, Try.ntmps24
        go_wp2_with fail
        refine (CA.out _).mono ?_
        rintro e w1 ⟨rfl, hx⟩
        have HX := Lib.hid (HX.out.trans hx); clear hx
        go_wp2_with fail
        refine (CB.out _).mono ?_
        rintro e w2 ⟨rfl, hx⟩
        have HX := Lib.hid (HX.out.trans hx); clear hx
        go_wp2_with fail
        refine (CD.out _).mono ?_
        rintro e w3 ⟨rfl, hx⟩
        have HX := Lib.hid (HX.out.trans hx); clear hx
        go_wp2_with fail
        refine (CU.out _).mono ?_
        rintro e w4 ⟨v, rfl, hv, hx⟩
        have HX := Lib.hid (HX.out.trans hx); clear hx
        rw [Hul.out] at hv
        obtain ⟨ao, cap, rfl, hsv2⟩ := hv.open
        obtain ⟨b0, off, rfl, hc⟩ := hsv2 k hlt
        clear hsv2 hv
        obtain ⟨m, hm⟩ : ∃ m, ul.length = m := ⟨_, rfl⟩
        rw [hm] at hlt ⊢
        obtain ⟨x, hx⟩ : ∃ x, ul[k]?.getD ⟨#[]⟩ = x := ⟨_, rfl⟩
        rw [hx] at hc Hr
        clear hm hx
        go_wp2
        go_ret2
        exact ⟨by rw [Hr.out]; rfl, HX.out⟩

end Go.Proofs.Ytmmjhdkoccpdjaa
