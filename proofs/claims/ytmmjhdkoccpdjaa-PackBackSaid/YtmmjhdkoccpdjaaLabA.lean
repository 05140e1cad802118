/- What label's isLabel and ends do. Conditions: strings that Go can hold. -/
import Derived.Test.YtmmjhdkoccpdjaaSeq
import Derived.Lib.Hide
import Derived.Outline
import Derived.Test.YtmmjhdkoccpdjaaNames
import Derived.Test.YtmmjhdkoccpdjaaProg
namespace Go.Proofs.Ytmmjhdkoccpdjaa
open Go Go.RowKit Go.Shelf
attribute [local go_sem] Oper.semAt_some wide_fn wide_depth

set_option maxHeartbeats 400000 in
theorem isLabel_any (s : ByteArray) (w : World) (hs : s.size ≤ maxLen) :
    Calls Try.prog 111 #[.string s] w fun e w' => e = .returned (.bool (isLab s.size)) ∧ w = w' := by
  unfold maxLen at hs
  by_cases h1 : 1 ≤ s.size
  · go_enter Try.func111, Try.ntmps111
    go_wp2
    go_ret
    exact ⟨by simp [isLab, h1]; omega, rfl⟩
  · go_enter Try.func111, Try.ntmps111
    go_wp2
    go_ret
    exact ⟨by simp [isLab]; omega, rfl⟩

set_option maxRecDepth 100000 in
set_option maxHeartbeats 1000000 in
theorem ends1_seq (n : Nat) (Bn : Nat) (s : ByteArray) (hs : s.size ≤ maxLen) (w : World) (hb : w.cell? ⟨Bn, 0, none⟩ = some (.string s)) :
    SeqX Fence.wide n Try.prog 113 #[.pointer (some ⟨Bn, 0, none⟩)] (fun a : Nat => #[Value.int .i64 a]) (endsE s 0) (fun k => k = Bn) w := by
  intro l W J Jx hW hJ hJx h0 hY
  have hbW := hW.cell hb rfl
  unfold maxLen at hs
  refine callsIn_of_wp Try.func113 rfl trivial ?_ rfl
  simp only [Try.ntmps113, List.size_toArray, List.length_cons, List.length_nil, Nat.reduceAdd, Nat.reduceSub, Array.replicate_succ, Array.replicate_zero, List.push_toArray, List.append_toArray, List.nil_append, List.cons_append]
  have hJ0 := h0 W.heap.size W (Nat.le_refl _) (Nat.le_refl _) (Keeps.refl _ _)
  gi_wp2
  gi_loopw [3] (fun i wr => ∃ (k : Nat) (pre : List Nat), k ≤ s.size ∧ i = .int .i64 k ∧ endsE s 0 = pre ++ endsE s k ∧ J W.heap.size pre wr ∧ W.heap.size ≤ wr.heap.size ∧ Keeps (fun k => k = Bn) W wr)
    (fun i _ => s.size - (intOf i).toNat)
  case atStart => exact ⟨0, [], Nat.zero_le _, rfl, rfl, hJ0, Nat.le_refl _, Keeps.refl _ _⟩
  case round =>
    obtain ⟨k, pre, hk, rfl, hx, hJs, hsz, hkp⟩ := hrel
    have hc := hkp.cell hbW rfl
    have HJ := Lib.hid hJ; clear hJ
    have HJx := Lib.hid hJx; clear hJx
    have H0 := Lib.hid h0; clear h0
    have HY := Lib.hid hY; clear hY
    have Hx := Lib.hid hx; clear hx
    have Hkp := Lib.hid hkp; clear hkp
    have HW := Lib.hid hW; clear hW
    by_cases hlt : k < s.size
    · obtain ⟨c, hcv⟩ : ∃ c : Nat, s[k].toNat = c := ⟨_, rfl⟩
      have hc255 : c ≤ 255 := by have := s[k].toNat_lt; omega
      have Hge : Hid (s[k]! = s[k]) := Lib.hid (getElem!_pos s k hlt)
      have HL : Hid (Calls Try.prog 111 #[.string ((s.extract (k + 1) s.size).extract 0 c)] wr fun e w' => e = .returned (.bool (isLab ((s.extract (k + 1) s.size).extract 0 c).size)) ∧ wr = w') :=
        Lib.hid (isLabel_any _ _ (by unfold maxLen; simp only [ByteArray.size_extract]; omega))
      by_cases h1 : c ≤ s.size - (k + 1)
      · have Hl : Hid (((s.extract (k + 1) s.size).extract 0 c).size = c) := Lib.hid (by simp only [ByteArray.size_extract]; omega)
        by_cases h2 : isLab c = true
        · have Hs : Hid (stepE s k = some (k + (1 + c))) := Lib.hid (by
            have h2' := of_decide_eq_true h2
            unfold stepE; rw [if_pos hlt, Hge.out, hcv, if_pos ⟨h1, h2'.1, h2'.2⟩]; congr 1; omega)
          have hlt2 := (stepE_lt Hs.out).2
          obtain ⟨fn, tmps, assign, body, hy, hR⟩ := HY.out W.heap.size pre (k + (1 + c)) (endsE s (k + (1 + c))) wr (by rw [Hx.out, endsE_some Hs.out]) (Nat.le_refl _) hsz hJs
          simp only [Int.natCast_add, Int.cast_ofNat_Int] at hy
          gi_wp2_with (gi_at_call 111; refine (callsIn_wide.2 HL.out).mono ?_; rintro e w' ⟨rfl, rfl⟩; rw [Hl.out, h2])
          refine hR.mono ?_
          rintro e W3 ⟨hk3, (⟨rfl, hJ3⟩ | ⟨rfl, hJx3⟩)⟩
          · gi_wp2
            go_roundw
            case rel => exact ⟨k + (1 + c), pre ++ [k + (1 + c)], hlt2, by simp, by rw [Hx.out, endsE_some Hs.out]; simp, hJ3, Nat.le_trans hsz hk3.size, Hkp.out.trans (hk3.mono fun _ _ h => .inl h)⟩
            case measure => simp [intOf]; omega
          · gi_wp2
            refine bodyPost_ret (results_none rfl _ _ _) rfl ?_
            exact ⟨⟨_, rfl⟩, W.heap.size, Nat.le_refl _, Nat.le_trans hsz hk3.size, .inr ⟨pre, k + (1 + c), _, by rw [Hx.out, endsE_some Hs.out], hJx3⟩⟩
        · have h2 : isLab c = false := by simpa using h2
          have Hs : Hid (stepE s k = none) := Lib.hid (by
            have h2' := of_decide_eq_false h2
            unfold stepE; rw [if_pos hlt, Hge.out, hcv, if_neg (by omega)])
          gi_wp2_with (gi_at_call 111; refine (callsIn_wide.2 HL.out).mono ?_; rintro e w' ⟨rfl, rfl⟩; rw [Hl.out, h2])
          refine bodyPost_ret (results_none rfl _ _ _) rfl ?_
          exact ⟨⟨_, rfl⟩, W.heap.size, Nat.le_refl _, hsz, .inl (by rw [Hx.out, endsE_none Hs.out]; simpa using hJs)⟩
      · have Hs : Hid (stepE s k = none) := Lib.hid (by
          unfold stepE; rw [if_pos hlt, Hge.out, hcv, if_neg (by omega)])
        gi_wp2
        refine bodyPost_ret (results_none rfl _ _ _) rfl ?_
        exact ⟨⟨_, rfl⟩, W.heap.size, Nat.le_refl _, hsz, .inl (by rw [Hx.out, endsE_none Hs.out]; simpa using hJs)⟩
    · have Hs : Hid (stepE s k = none) := Lib.hid (by unfold stepE; rw [if_neg hlt])
      gi_wp2
      go_end0
      exact ⟨⟨_, rfl⟩, W.heap.size, Nat.le_refl _, hsz, .inl (by rw [Hx.out, endsE_none Hs.out]; simpa using hJs)⟩

set_option maxHeartbeats 400000 in
/-- ends boxes the string; the function value captures the box. -/
theorem ends_any (s : ByteArray) (w : World) :
    Calls Try.prog 74 #[.string s] w fun e w' => e = .returned (.func (.func 113) #[] #[.pointer (some ⟨w.heap.size, 0, none⟩)]) ∧ w' = w.alloc (.cells #[.string s] 9) := by
  go_enter Try.func74, Try.ntmps74
  go_wp2
  go_ret
  exact ⟨rfl, rfl⟩

end Go.Proofs.Ytmmjhdkoccpdjaa
