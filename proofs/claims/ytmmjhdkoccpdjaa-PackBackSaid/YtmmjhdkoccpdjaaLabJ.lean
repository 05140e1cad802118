/- What label's cutLabel does. Conditions: a text that Go can hold, of at most 2^47 bytes. -/
import Derived.Test.YtmmjhdkoccpdjaaLabI
namespace Go.Proofs.Ytmmjhdkoccpdjaa
open Go Go.RowKit Go.Shelf

set_option maxRecDepth 100000 in
set_option maxHeartbeats 1000000 in
theorem hasPrefix_any (s : ByteArray) (w : World) (hs : s.size ≤ maxLen) :
    Calls Try.prog 141 #[.string s, .string ⟨#[46]⟩] w fun e w' => e = .returned (.bool (decide (1 ≤ s.size ∧ ((s.extract 0 1).toList == [46]) = true))) ∧ w' = w := by
  unfold maxLen at hs
  by_cases h1 : 1 ≤ s.size
  · cases h2 : ((s.extract 0 1).toList == [46]) with
    | true =>
      go_enter Try.func141, Try.ntmps141
      go_wp2
      go_ret
      exact ⟨by simp [h1], rfl⟩
    | false =>
      go_enter Try.func141, Try.ntmps141
      go_wp2
      go_ret
      exact ⟨by simp, rfl⟩
  · go_enter Try.func141, Try.ntmps141
    go_wp2
    go_ret
    exact ⟨by simp, rfl⟩

set_option maxRecDepth 100000 in
set_option maxHeartbeats 1000000 in
theorem trimPrefixL_any (s : ByteArray) (w : World) (hs : s.size ≤ maxLen) :
    Calls Try.prog 139 #[.string s, .string ⟨#[46]⟩] w fun e w' => e = .returned (.string (trimDot s)) ∧ w' = w := by
  have HP := Lib.hid (hasPrefix_any s w hs)
  unfold maxLen at hs
  by_cases h : 1 ≤ s.size ∧ ((s.extract 0 1).toList == [46]) = true
  · have Ht : Hid (trimDot s = s.extract 1 s.size) := Lib.hid (by rw [trimDot, if_pos h])
    have Hd : Hid (decide (1 ≤ s.size ∧ ((s.extract 0 1).toList == [46]) = true) = true) := Lib.hid (decide_eq_true h)
    have h1 := h.1
    clear h
    go_enter Try.func139, Try.ntmps139
    go_wp2_with (go_at_call 141; refine HP.out.mono ?_; rintro e w' ⟨rfl, rfl⟩; rw [Hd.out])
    go_ret
    exact ⟨by rw [Ht.out]; rfl, rfl⟩
  · have Ht : Hid (trimDot s = s) := Lib.hid (by rw [trimDot, if_neg h])
    have Hd : Hid (decide (1 ≤ s.size ∧ ((s.extract 0 1).toList == [46]) = true) = false) := Lib.hid (decide_eq_false h)
    clear h
    go_enter Try.func139, Try.ntmps139
    go_wp2_with (go_at_call 141; refine HP.out.mono ?_; rintro e w' ⟨rfl, rfl⟩; rw [Hd.out])
    go_ret
    exact ⟨by rw [Ht.out]; rfl, rfl⟩

set_option maxHeartbeats 1000000 in
theorem TrimPrefix_any (s : ByteArray) (w : World) (hs : s.size ≤ maxLen) :
    Calls Try.prog 135 #[.string s, .string ⟨#[46]⟩] w fun e w' => e = .returned (.string (trimDot s)) ∧ w' = w := by
  have HP := Lib.hid (trimPrefixL_any s w hs)
  go_enter Try.func135, Try.ntmps135
  go_wp2_with (go_at_call 139; refine HP.out.mono ?_; rintro e w' ⟨rfl, rfl⟩)
  go_ret
  exact ⟨rfl, rfl⟩

set_option maxRecDepth 100000 in
set_option maxHeartbeats 4000000 in
theorem cutLabel_any (s : ByteArray) (w : World) (hs : s.size ≤ 140737488355328) :
    Calls Try.prog 127 #[.string s] w fun e w' => e = .returned (.tuple #[.string (cutR s).1, .string (cutR s).2.1, .int .i64 (cutR s).2.2]) ∧ Ext w w' := by
  obtain ⟨i0, hi, hz0, hz1, hz2⟩ := info_parts infoByte
  go_enter Try.func127, Try.ntmps127
  go_wp2_with fail
  go_loopw [0, 5] (fun x v wr => ∃ (t : ByteArray) (l : List UInt8), x = .string t ∧ wr.ownsRow w.heap.size 5 1 v l.length (Lib.byteCells l) ∧
      labR s = (labR t).map (fun y => (l ++ y.1, y.2)) ∧ t.size + l.length ≤ s.size ∧ Keeps (fun j => j < w.heap.size) w wr)
    (fun x _ _ => match x with | .string t => t.size | _ => 0)
  case atStart => exact ⟨s, [], rfl, World.ownsRow_nil _ _ _ _, by cases labR s <;> simp, by simp, Keeps.refl _ _⟩
  case round =>
    obtain ⟨t, l, rfl, hown, hlab, hsz, hk⟩ := hrel
    obtain ⟨ao, cap, rfl⟩ := ownsRow_slice hown
    have Hlab := Lib.hid hlab; clear hlab
    have Hk := Lib.hid hk; clear hk
    by_cases hend : t.size = 0 ∨ t[0]!.toNat = 46
    · have Hs : Hid (labR s = some (l, t)) := Lib.hid (by rw [Hlab.out, labR_end hend]; simp)
      have HP : Hid (Calls Try.prog 135 #[.string t, .string ⟨#[46]⟩] wr.drew fun e w' => e = .returned (.string (trimDot t)) ∧ w' = wr.drew) := Lib.hid (TrimPrefix_any t _ (by unfold maxLen; omega))
      have Hown := Lib.hid hown; clear hown
      have hq : (t.toList = []) ∨ (0 < t.size ∧ t.toList.isEmpty = false ∧ ∀ h : 0 < t.size, ((t[0].toNat : Int) != 46) = false) := by
        by_cases h0 : t.size = 0
        · left; rw [ByteArray.toList_eq]; exact List.eq_nil_of_length_eq_zero h0
        · right
          refine ⟨by omega, ?_, fun h => ?_⟩
          · rw [ByteArray.toList_eq, List.isEmpty_eq_false_iff]
            intro h1
            have h2 : t.data.toList.length = t.size := rfl
            rw [h1] at h2
            simp at h2
            omega
          · have := hend.resolve_left h0
            rw [getElem!_pos t 0 h] at this
            rw [this]; rfl
      clear hend
      by_cases hl : l.length = 0
      · obtain rfl : l = [] := List.eq_nil_of_length_eq_zero hl
        have Hc : Hid (cutR s = (⟨#[]⟩, ⟨#[]⟩, 6)) := Lib.hid (by rw [cutR, Hs.out]; rfl)
        clear hl
        rcases hq with h0 | ⟨h0, h1, h2⟩
        · go_wp2
          go_ret3
          exact ⟨by rw [Hc.out]; rfl, Hk.out.ext fun _ h => h⟩
        · have h3 := h2 h0
          clear h2
          go_wp2
          go_ret3
          exact ⟨by rw [Hc.out]; rfl, Hk.out.ext fun _ h => h⟩
      · have hl' : (((l.length : Nat) : Int) == 0) = false := by rw [beq_eq_false_iff_ne]; omega
        have Hc : Hid (cutR s = (⟨l.toArray⟩, trimDot t, 0)) := Lib.hid (by
          rw [cutR, Hs.out]; simp only []; rw [if_neg (fun h => hl (by rw [h]; rfl))])
        have hback : (convert 95 9 (.slice ao l.length cap)).run Try.prog wr.drew = .ok (.string ⟨l.toArray⟩) wr.drew := by
          rcases Hown.out.2 with ⟨_, h⟩ | ⟨g, cap', cur, he, hg, hh, r⟩
          · exact absurd h hl
          · cases he
            refine run_convert_bytes_back wr.drew 95 9 5 ⟨g, 0, none⟩ cap l Try.underlying95 Try.underlying5 Try.underlying9 (fun j hj => ?_)
            have := Hown.out.cells (g := g) rfl j (.int .u8 l[j].toNat) (by simp [Lib.byteCells, hj])
            have hp : (⟨g, 0, none⟩ : Addr).add j = ⟨g, j, none⟩ := by unfold Addr.add; split <;> simp_all
            rw [hp] at this ⊢
            exact this
        have hmx : Try.prog.follows .mixedOrders = true := by kernel_rfl
        clear hl
        rcases hq with h0 | ⟨h0, h1, h2⟩
        · go_wp2_with fail
          refine wp_region_still hmx (by kernel_rfl) ?_
          repeat still_step
          still_call HP.out
          repeat still_step
          refine wpStill_nil ?_
          go_wp2
          go_ret3
          exact ⟨by rw [Hc.out]; rfl, Hk.out.drew.ext fun _ h => h⟩
        · have h3 := h2 h0
          clear h2
          go_wp2_with fail
          refine wp_region_still hmx (by kernel_rfl) ?_
          repeat still_step
          still_call HP.out
          repeat still_step
          refine wpStill_nil ?_
          go_wp2
          go_ret3
          exact ⟨by rw [Hc.out]; rfl, Hk.out.drew.ext fun _ h => h⟩
    · have h0 : 0 < t.size := by omega
      have h46 : t[0]!.toNat ≠ 46 := fun h => hend (.inr h)
      rw [getElem!_pos t 0 h0] at h46
      have h1 : t.toList.isEmpty = false := by
        rw [ByteArray.toList_eq, List.isEmpty_eq_false_iff]
        intro h1
        have h2 : t.data.toList.length = t.size := rfl
        rw [h1] at h2
        simp at h2
        omega
      have h3 : ((t[0].toNat : Int) != 46) = true := by rw [bne_iff_ne]; omega
      have HR := Lib.hid (readByte_any t wr (by unfold maxLen; omega) (by omega))
      have hle := readR_le (t := t) (by omega)
      obtain ⟨b, n, hbn⟩ : ∃ b n, readR t = (b, n) := ⟨_, _, rfl⟩
      have Hend := Lib.hid hend; clear hend
      by_cases hn : n = 0
      · subst hn
        have Hc : Hid (cutR s = (⟨#[]⟩, ⟨#[]⟩, 6)) := Lib.hid (by rw [cutR, Hlab.out, labR_bad Hend.out (by rw [hbn])]; rfl)
        rw [hbn] at HR
        clear hle h46 hbn hown
        go_wp2_with fail
        refine HR.out.mono ?_
        rintro e w2 ⟨rfl, hx2⟩
        have Hx2 := Lib.hid hx2; clear hx2
        clear HR
        go_wp2
        go_ret3
        exact ⟨by rw [Hc.out]; rfl, (Hk.out.trans (Hx2.out.keeps.mono fun _ _ _ => trivial)).ext fun _ h => h⟩
      · have hn0 : ((n : Int) == 0) = false := by rw [beq_eq_false_iff_ne]; omega
        have Hgo : Hid (labR t = (labR (t.extract n t.size)).map fun x => (b :: x.1, x.2)) := Lib.hid (by rw [labR_go Hend.out (by rw [hbn]; exact hn), hbn])
        rw [hbn] at HR hle
        simp only at hle
        clear h46 hbn
        have hn1 : 1 ≤ n := by omega
        clear hn
        have Hown := Lib.hid hown; clear hown
        go_wp2_with fail
        refine HR.out.mono ?_
        rintro e w2 ⟨rfl, hx2⟩
        have hown2 := hx2.keeps.ownsRow Hown.out (fun _ _ => trivial)
        have Hk2 := Lib.hid (Hk.out.trans (hx2.keeps.mono fun _ _ _ => trivial))
        have hwz : w.heap.size ≤ w2.heap.size := Hk2.out.size
        clear hx2 HR Hown Hk
        go_wp2_with (at_builtin; refine wpList_append_own _ rfl _ _ 95 rfl w.heap.size 5 i0 (.int .u8 0) 1 1 Try.underlying95 hi hz0 hz1 hz2 rfl (by decide) _ _ _ rfl (hown2.alloc _) ⟨w2.heap.size, 0, none⟩ 1 1 [.int .u8 b.toNat] rfl rfl ?c1 ?c2 ?c3 ?c4 ?c5 ?_)
        case c1 =>
          intro j u hj
          match j, hj with
          | 0, hj => simp at hj; subst hj; simp [Addr.add]
        case c2 => intro u hu; simp at hu; subst hu; rfl
        case c3 => unfold maxLen; omega
        case c4 => omega
        case c5 => simp; omega
        intro v' w3 hown' hgrow _
        have hrow := hown2.lt
        have Hk3 := Lib.hid ((Hk2.out.alloc (.cells #[.int .u8 b.toNat] 5)).grown hgrow (fun k e h => by have := (hrow k e).1; omega))
        have Hown' := Lib.hid hown'; clear hown'
        clear hgrow hrow hown2
        go_wp2
        go_roundw
        case rel =>
          refine ⟨t.extract n t.size, l ++ [b], rfl, ?_, ?_, ?_, Hk3.out⟩
          · rw [Lib.byteCells_append]; simpa [Lib.byteCells] using Hown'.out
          · rw [Hlab.out, Hgo.out]; cases labR (t.extract n t.size) <;> simp
          · rw [size_rest]; simp; omega
        case measure => show (t.extract n t.size).size < t.size; rw [size_rest]; omega

end Go.Proofs.Ytmmjhdkoccpdjaa
