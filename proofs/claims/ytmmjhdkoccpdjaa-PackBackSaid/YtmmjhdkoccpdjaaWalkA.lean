/- What walk's Up, Common, Depth and Next do. Conditions: strings that Go can hold. -/
import Derived.Test.YtmmjhdkoccpdjaaLabL
import Derived.Test.YtmmjhdkoccpdjaaNames2
namespace Go.Proofs.Ytmmjhdkoccpdjaa
open Go Go.RowKit Go.Shelf
attribute [local go_sem] Oper.semAt_some wide_fn wide_depth

set_option maxRecDepth 100000 in
set_option maxHeartbeats 4000000 in
theorem up1_seq (n : Nat) (Bn : Nat) (s : ByteArray) (hs : s.size ≤ maxLen) (w : World) (hb : w.cell? ⟨Bn, 0, none⟩ = some (.string s)) :
    SeqX Fence.wide n Try.prog 89 #[.pointer (some ⟨Bn, 0, none⟩)] (fun x : ByteArray => #[Value.string x]) (upB s) (fun k => k = Bn) w := by
  intro l W J Jx hW hJ hJx h0 hY
  have hbW := hW.cell hb rfl
  have HJ := Lib.hid hJ; clear hJ
  have HJx := Lib.hid hJx; clear hJx
  have H0 := Lib.hid h0; clear h0
  have HY := Lib.hid hY; clear hY
  clear hW hb
  have hC := Lib.hid (Check_any s W hs)
  refine callsIn_of_wp Try.func89 rfl trivial ?_ rfl
  simp only [Try.ntmps89, List.size_toArray, List.length_cons, List.length_nil, Nat.reduceAdd, Nat.reduceSub, Array.replicate_succ, Array.replicate_zero, List.push_toArray, List.append_toArray, List.nil_append, List.cons_append]
  gi_wp2_with fail
  refine (callsIn_wide.2 hC.out).mono ?_
  rintro e w1 ⟨rfl, hx1⟩
  have hb1 := (Ext.keeps hx1).cell hbW trivial
  have hj1 := Lib.hid (H0.out W.heap.size w1 (Nat.le_refl _) (Ext.size hx1) ((Ext.keeps hx1).mono fun _ _ _ => trivial))
  have hz1 := Ext.size hx1
  clear hx1 hC hbW H0
  gi_wp2_with fail
  gi_loopw [3, 4] (fun y x wr => ∃ (t : ByteArray) (pre : List ByteArray) (y' : Int), x = .string t ∧ y = .int .i64 y' ∧ (y' = 0 ↔ isName t = true) ∧ upB s = pre ++ upB t ∧ t.size ≤ s.size ∧ J W.heap.size pre wr ∧ W.heap.size ≤ wr.heap.size)
    (fun _ x _ => match x with | .string t => t.size | _ => 0)
  case atStart =>
    refine ⟨s, [], chk s, rfl, rfl, ?_, rfl, Nat.le_refl _, hj1.out, hz1⟩
    unfold chk
    cases isName s <;> simp
  case round =>
    obtain ⟨t, pre, y, rfl, rfl, hy, hup, hts, hj, hz⟩ := hrel
    have Hup := Lib.hid hup; clear hup
    by_cases hy0 : y = 0
    · have hn := hy.1 hy0
      subst hy0
      clear hy
      have hup := upB_cons hn
      have hps := parentR_size hn
      have hCP := Lib.hid fun W => Parent_any t W (Nat.le_trans hts hs)
      obtain ⟨fn, tmps, assign, body, hy, hR⟩ := HY.out W.heap.size pre t (upB (parentR t).1) wr (by rw [Hup.out, hup]) (Nat.le_refl _) hz hj
      have Hup2 := Lib.hid hup; clear hup
      have HR := Lib.hid hR; clear hR
      have Hps := Lib.hid hps; clear hps
      have Hn := Lib.hid hn; clear hn
      have Hj := Lib.hid hj; clear hj
      have hpo : Hid ((parentR t).2 = 0 ↔ isName (parentR t).1 = true) := Lib.hid ⟨parentR_ok, fun h => by
        by_cases h0 : (parentR t).2 = 0
        · exact h0
        · rw [parentR_bad h0, isName_empty] at h; cases h⟩
      gi_wp2_with fail
      refine HR.out.mono ?_
      rintro e w3 ⟨hk3, (⟨rfl, hJ3⟩ | ⟨rfl, hJx3⟩)⟩
      · have Hk3 := Lib.hid hk3; clear hk3
        have HJ3 := Lib.hid hJ3; clear hJ3
        clear HR hy
        gi_wp2_with fail
        refine (callsIn_wide.2 (hCP.out _)).mono ?_
        rintro e w4 ⟨rfl, hx4⟩
        have Hx4 := Lib.hid hx4; clear hx4
        gi_wp2
        go_roundw
        case rel =>
          refine ⟨(parentR t).1, pre ++ [t], (parentR t).2, rfl, rfl, hpo.out, by rw [Hup.out, Hup2.out]; simp, by have := Hps.out; omega, ?_, ?_⟩
          · exact HJ.out _ _ _ _ HJ3.out (Hx4.out.keeps.mono fun _ _ _ => trivial)
          · have := Hk3.out.size; have := Hx4.out.size; omega
        case measure => exact Hps.out
      · have hz3 := hk3.size
        gi_wp2
        refine bodyPost_ret (results_none rfl _ _ _) rfl ?_
        exact ⟨⟨_, rfl⟩, W.heap.size, Nat.le_refl _, by omega, .inr ⟨pre, t, upB (parentR t).1, by rw [Hup.out, Hup2.out], hJx3⟩⟩
    · have hn : isName t = false := by
        cases hn : isName t with
        | false => rfl
        | true => exact absurd (hy.2 hn) hy0
      have hy00 : (y == 0) = false := beq_eq_false_iff_ne.2 hy0
      clear hy hy0
      have Hn := Lib.hid hn; clear hn
      have Hj := Lib.hid hj; clear hj
      gi_wp2
      go_end0
      refine ⟨⟨_, rfl⟩, W.heap.size, Nat.le_refl _, hz, .inl ?_⟩
      rw [Hup.out, upB_none Hn.out, List.append_nil]
      exact Hj.out

set_option maxHeartbeats 400000 in
/-- Up boxes the string; the function value captures the box. -/
theorem Up_any (s : ByteArray) (w : World) :
    Calls Try.prog 37 #[.string s] w fun e w' => e = .returned (.func (.func 89) #[] #[.pointer (some ⟨w.heap.size, 0, none⟩)]) ∧ w' = w.alloc (.cells #[.string s] 9) := by
  go_enter Try.func37, Try.ntmps37
  go_wp2
  go_ret
  exact ⟨rfl, rfl⟩

set_option maxRecDepth 100000 in
set_option maxHeartbeats 1000000 in
theorem Depth_any (s z : ByteArray) (w : World) (hs : s.size ≤ maxLen) (hz : z.size ≤ maxLen) :
    Calls Try.prog 25 #[.string s, .string z] w fun e w' => e = .returned (.int .i64 (depthB s z)) ∧ Ext w w' := by
  have CW := Lib.hid fun W => Within_any s z W hs hz
  have CS := Lib.hid fun W => Count_any s W hs
  have CZ := Lib.hid fun W => Count_any z W hz
  have HX := Lib.hid (Ext.refl w)
  have h1 := labelsB_length s
  have h2 := labelsB_length z
  unfold maxLen at hs hz
  obtain ⟨m, hm⟩ : ∃ m, (labelsB s).length = m := ⟨_, rfl⟩
  obtain ⟨k, hk⟩ : ∃ m, (labelsB z).length = m := ⟨_, rfl⟩
  have hd : depthB s z = if withinB s z then (m : Int) - (k : Int) else -1 := by rw [depthB, hm, hk]
  rw [hm] at CS h1
  rw [hk] at CZ h2
  clear hm hk
  cases hw : withinB s z with
  | false =>
    rw [hw] at CW hd
    have Hd := Lib.hid hd; clear hd hw
    go_enter Try.func25, Try.ntmps25
    go_wp2_with (first
      | ((with_reducible refine (CW.out _).mono ?_); rintro e w' ⟨rfl, hx⟩; have HX := Lib.hid (HX.out.trans hx); clear hx))
    go_ret
    exact ⟨by rw [Hd.out]; rfl, HX.out⟩
  | true =>
    rw [hw] at CW hd
    have Hd := Lib.hid hd; clear hd hw
    go_enter Try.func25, Try.ntmps25
    go_wp2_with (first
      | ((with_reducible refine (CW.out _).mono ?_); rintro e w' ⟨rfl, hx⟩; have HX := Lib.hid (HX.out.trans hx); clear hx)
      | ((with_reducible refine (CS.out _).mono ?_); rintro e w' ⟨rfl, hx⟩; have HX := Lib.hid (HX.out.trans hx); clear hx)
      | ((with_reducible refine (CZ.out _).mono ?_); rintro e w' ⟨rfl, hx⟩; have HX := Lib.hid (HX.out.trans hx); clear hx))
    go_ret
    exact ⟨by rw [Hd.out]; rfl, HX.out⟩

end Go.Proofs.Ytmmjhdkoccpdjaa
