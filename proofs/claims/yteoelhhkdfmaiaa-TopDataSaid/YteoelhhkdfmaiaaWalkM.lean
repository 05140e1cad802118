/- Several texts in one (WalkA WalkB WalkC WalkD WalkE WalkF WalkG). Conditions: each says its own. -/
import Derived.Test.YteoelhhkdfmaiaaLabM
import Derived.Test.YteoelhhkdfmaiaaMathM
import Derived.Laws.OwnMore
import Derived.Laws.Cover1

/- What walk's Up, Common, Depth and Next do. Conditions: strings that Go can hold. -/
namespace Go.Proofs.Yteoelhhkdfmaiaa
open Go Go.RowKit Go.Shelf
attribute [local go_sem] Oper.semAt_some wide_fn wide_depth

set_option maxRecDepth 100000 in
set_option maxHeartbeats 4000000 in
theorem up1_seq (n : Nat) (Bn : Nat) (s : ByteArray) (hs : s.size ≤ maxLen) (w : World) (hb : w.cell? ⟨Bn, 0, none⟩ = some (.string s)) :
    SeqX Fence.wide n Try.prog 104 #[.pointer (some ⟨Bn, 0, none⟩)] (fun x : ByteArray => #[Value.string x]) (upB s) (fun k => k = Bn) w := by
  intro l W J Jx hW hJ hJx h0 hY
  have hbW := hW.cell hb rfl
  have HJ := Lib.hid hJ; clear hJ
  have HJx := Lib.hid hJx; clear hJx
  have H0 := Lib.hid h0; clear h0
  have HY := Lib.hid hY; clear hY
  clear hW hb
  have hC := Lib.hid (Check_any s W hs)
  refine callsIn_of_wp Try.func104 rfl trivial ?_ rfl
  simp only [Try.ntmps104, List.size_toArray, List.length_cons, List.length_nil, Nat.reduceAdd, Nat.reduceSub, Array.replicate_succ, Array.replicate_zero, List.push_toArray, List.append_toArray, List.nil_append, List.cons_append]
  gi_wp2_with fail
  refine (callsIn_wide.2 hC.out).mono ?_
  rintro e w1 ⟨rfl, hx1⟩
  have hb1 := (Ext.keeps hx1).cell hbW trivial
  have hj1 := Lib.hid (H0.out W.heap.size w1 (Nat.le_refl _) (Ext.size hx1) ((Ext.keeps hx1).mono fun _ _ _ => trivial))
  have hz1 := Ext.size hx1
  clear hx1 hC hbW H0
  gi_wp2_with fail
  gi_loopw [3, 4] (fun y x wr => ∃ (t : ByteArray) (pre : List ByteArray) (y' : Int), x = .string t ∧ y = .int .i64 y' ∧ (y' = 0 ↔ isName t = true) ∧ upB s = pre ++ upB t ∧ t.size ≤ s.size ∧ J W.heap.size pre wr ∧ W.heap.size ≤ wr.heap.size)
    (fun _ x _ => match x with | .string t => t.size | _ => 0)
  case atStart =>
    refine ⟨s, [], chk s, rfl, rfl, ?_, rfl, Nat.le_refl _, hj1.out, hz1⟩
    unfold chk
    cases isName s <;> simp
  case round =>
    obtain ⟨t, pre, y, rfl, rfl, hy, hup, hts, hj, hz⟩ := hrel
    have Hup := Lib.hid hup; clear hup
    by_cases hy0 : y = 0
    · have hn := hy.1 hy0
      subst hy0
      clear hy
      have hup := upB_cons hn
      have hps := parentR_size hn
      have hCP := Lib.hid fun W => Parent_any t W (Nat.le_trans hts hs)
      obtain ⟨fn, tmps, assign, body, hy, hR⟩ := HY.out W.heap.size pre t (upB (parentR t).1) wr (by rw [Hup.out, hup]) (Nat.le_refl _) hz hj
      have Hup2 := Lib.hid hup; clear hup
      have HR := Lib.hid hR; clear hR
      have Hps := Lib.hid hps; clear hps
      have Hn := Lib.hid hn; clear hn
      have Hj := Lib.hid hj; clear hj
      have hpo : Hid ((parentR t).2 = 0 ↔ isName (parentR t).1 = true) := Lib.hid ⟨parentR_ok, fun h => by
        by_cases h0 : (parentR t).2 = 0
        · exact h0
        · rw [parentR_bad h0, isName_empty] at h; cases h⟩
      gi_wp2_with fail
      refine HR.out.mono ?_
      rintro e w3 ⟨hk3, (⟨rfl, hJ3⟩ | ⟨rfl, hJx3⟩)⟩
      · have Hk3 := Lib.hid hk3; clear hk3
        have HJ3 := Lib.hid hJ3; clear hJ3
        clear HR hy
        gi_wp2_with fail
        refine (callsIn_wide.2 (hCP.out _)).mono ?_
        rintro e w4 ⟨rfl, hx4⟩
        have Hx4 := Lib.hid hx4; clear hx4
        gi_wp2
        go_roundw
        case rel =>
          refine ⟨(parentR t).1, pre ++ [t], (parentR t).2, rfl, rfl, hpo.out, by rw [Hup.out, Hup2.out]; simp, by have := Hps.out; omega, ?_, ?_⟩
          · exact HJ.out _ _ _ _ HJ3.out (Hx4.out.keeps.mono fun _ _ _ => trivial)
          · have := Hk3.out.size; have := Hx4.out.size; omega
        case measure => exact Hps.out
      · have hz3 := hk3.size
        gi_wp2
        refine bodyPost_ret (results_none rfl _ _ _) rfl ?_
        exact ⟨⟨_, rfl⟩, W.heap.size, Nat.le_refl _, by omega, .inr ⟨pre, t, upB (parentR t).1, by rw [Hup.out, Hup2.out], hJx3⟩⟩
    · have hn : isName t = false := by
        cases hn : isName t with
        | false => rfl
        | true => exact absurd (hy.2 hn) hy0
      have hy00 : (y == 0) = false := beq_eq_false_iff_ne.2 hy0
      clear hy hy0
      have Hn := Lib.hid hn; clear hn
      have Hj := Lib.hid hj; clear hj
      gi_wp2
      go_end0
      refine ⟨⟨_, rfl⟩, W.heap.size, Nat.le_refl _, hz, .inl ?_⟩
      rw [Hup.out, upB_none Hn.out, List.append_nil]
      exact Hj.out

set_option maxHeartbeats 400000 in
/-- Up boxes the string; the function value captures the box. -/
theorem Up_any (s : ByteArray) (w : World) :
    Calls Try.prog 78 #[.string s] w fun e w' => e = .returned (.func (.func 104) #[] #[.pointer (some ⟨w.heap.size, 0, none⟩)]) ∧ w' = w.alloc (.cells #[.string s] 9) := by
  go_enter Try.func78, Try.ntmps78
  go_wp2
  go_ret
  exact ⟨rfl, rfl⟩

set_option maxRecDepth 100000 in
set_option maxHeartbeats 1000000 in
theorem Depth_any (s z : ByteArray) (w : World) (hs : s.size ≤ maxLen) (hz : z.size ≤ maxLen) :
    Calls Try.prog 43 #[.string s, .string z] w fun e w' => e = .returned (.int .i64 (depthB s z)) ∧ Ext w w' := by
  have CW := Lib.hid fun W => Within_any s z W hs hz
  have CS := Lib.hid fun W => Count_any s W hs
  have CZ := Lib.hid fun W => Count_any z W hz
  have HX := Lib.hid (Ext.refl w)
  have h1 := labelsB_length s
  have h2 := labelsB_length z
  unfold maxLen at hs hz
  obtain ⟨m, hm⟩ : ∃ m, (labelsB s).length = m := ⟨_, rfl⟩
  obtain ⟨k, hk⟩ : ∃ m, (labelsB z).length = m := ⟨_, rfl⟩
  have hd : depthB s z = if withinB s z then (m : Int) - (k : Int) else -1 := by rw [depthB, hm, hk]
  rw [hm] at CS h1
  rw [hk] at CZ h2
  clear hm hk
  cases hw : withinB s z with
  | false =>
    rw [hw] at CW hd
    have Hd := Lib.hid hd; clear hd hw
    go_enter Try.func43, Try.ntmps43
    go_wp2_with (first
      | ((with_reducible refine (CW.out _).mono ?_); rintro e w' ⟨rfl, hx⟩; have HX := Lib.hid (HX.out.trans hx); clear hx))
    go_ret
    exact ⟨by rw [Hd.out]; rfl, HX.out⟩
  | true =>
    rw [hw] at CW hd
    have Hd := Lib.hid hd; clear hd hw
    go_enter Try.func43, Try.ntmps43
    go_wp2_with (first
      | ((with_reducible refine (CW.out _).mono ?_); rintro e w' ⟨rfl, hx⟩; have HX := Lib.hid (HX.out.trans hx); clear hx)
      | ((with_reducible refine (CS.out _).mono ?_); rintro e w' ⟨rfl, hx⟩; have HX := Lib.hid (HX.out.trans hx); clear hx)
      | ((with_reducible refine (CZ.out _).mono ?_); rintro e w' ⟨rfl, hx⟩; have HX := Lib.hid (HX.out.trans hx); clear hx))
    go_ret
    exact ⟨by rw [Hd.out]; rfl, HX.out⟩

end Go.Proofs.Yteoelhhkdfmaiaa

/- What walk's Common and Next do. Conditions: strings that Go can hold. -/
namespace Go.Proofs.Yteoelhhkdfmaiaa
open Go Go.RowKit Go.Shelf
attribute [local go_sem] Oper.semAt_some wide_fn wide_depth

theorem find_none {α : Type} {p : α → Bool} {l : List α} (h : l.any p = false) : l.find? p = none := by
  rw [List.find?_eq_none]
  intro x hx
  have := List.any_eq_false.1 h x hx
  simpa using this
theorem find_some {α : Type} {p : α → Bool} {pre rest : List α} {x : α} (h : pre.any p = false) (hx : p x = true) : (pre ++ x :: rest).find? p = some x := by
  rw [List.find?_append, find_none h]
  simp [hx]

set_option maxRecDepth 100000 in
set_option maxHeartbeats 4000000 in
theorem Common_any (a b : ByteArray) (w : World) (ha : a.size ≤ maxLen) (hb : b.size ≤ maxLen) :
    Calls Try.prog 30 #[.string a, .string b] w fun e w' => e = .returned (.tuple #[.string (commonR a b).1, .int .i64 (commonR a b).2]) ∧ Ext w w' := by
  refine (callsIn_wide (n := 9)).1 ?_
  refine callsIn_of_wp_marks Try.func30 rfl trivial ?_ rfl
  simp only [Try.ntmps30, List.size_toArray, List.length_cons, List.length_nil, Nat.reduceAdd, Nat.reduceSub, Array.replicate_succ, Array.replicate_zero, List.push_toArray, List.append_toArray, List.nil_append, List.cons_append]
  have Ha := Lib.hid ha; clear ha
  gi_wp2_with fail
  obtain ⟨w0, hw0⟩ : ∃ w0, ((w.alloc (.cells #[.string b] 9)).alloc (.cells #[.string ⟨#[]⟩] 9)).alloc (.cells #[.int .i64 0] 24) = w0 := ⟨_, rfl⟩
  have hN0 : Boxed w0 w.heap.size 9 (.string b) := by rw [← hw0]; exact ((Boxed.new w 9 _).alloc _).alloc _
  have hS0 : Boxed w0 (w.heap.size + 1) 9 (.string ⟨#[]⟩) := by
    rw [← hw0]; have := (Boxed.new (w.alloc (.cells #[.string b] 9)) 9 (.string ⟨#[]⟩)).alloc (.cells #[.int .i64 0] 24); simpa using this
  have hE0 : Boxed w0 (w.heap.size + 1 + 1) 24 (.int .i64 0) := by
    rw [← hw0]; have := Boxed.new ((w.alloc (.cells #[.string b] 9)).alloc (.cells #[.string ⟨#[]⟩] 9)) 24 (.int .i64 0); simpa using this
  have hX0 : Ext w w0 := by rw [← hw0]; exact (((Ext.refl _).alloc _).alloc _).alloc _
  rw [hw0]
  clear hw0
  refine (callsIn_wide.2 (Up_any a w0)).mono ?_
  rintro e w' ⟨rfl, rfl⟩
  obtain ⟨w1, rfl⟩ : ∃ w1, w1 = w0 := ⟨_, rfl⟩
  have HX1 := Lib.hid hX0; clear hX0
  have HN1 := Lib.hid hN0; clear hN0
  have HS1 := Lib.hid hS0; clear hS0
  have HE1 := Lib.hid hE0; clear hE0
  have hEN : Boxed (w1.alloc (.cells #[.string a] 9)) w1.heap.size 9 (.string a) := Boxed.new w1 9 _
  have hN2 := HN1.out.alloc (.cells #[.string a] 9)
  have hS2 := HS1.out.alloc (.cells #[.string a] 9)
  have hE2 := HE1.out.alloc (.cells #[.string a] 9)
  have hX2 := HX1.out.alloc (.cells #[.string a] 9)
  have hz2 : w1.heap.size < (w1.alloc (.cells #[.string a] 9)).heap.size := by simp
  have hlt := HE1.out.lt
  generalize w1.alloc (.cells #[.string a] 9) = w2 at hEN hN2 hS2 hE2 hX2 hz2 ⊢
  clear HN1 HS1 HE1 HX1
  gi_wp2_with fail
  refine wpIn_rangeX rfl wide_room (gf := 104) (lb := #[.pointer (some ⟨w1.heap.size, 0, none⟩)]) rfl trivial (enters_of Try.func104 (by kernel_rfl) rfl)
    (up1_seq _ _ a Ha.out w2 hEN.cell) (Keeps.refl _ _) (fun k h => by subst h; exact hz2) (fun _ => rfl)
    (fun _ pre A => pre.any (withinB b) = false ∧ Boxed A w.heap.size 9 (.string b) ∧ Boxed A (w.heap.size + 1) 9 (.string ⟨#[]⟩) ∧ Boxed A (w.heap.size + 1 + 1) 24 (.int .i64 0) ∧ Keeps (fun k => k < w.heap.size) w A)
    (fun c _ pre A => c = Code.ret ∧ ∃ pre' x, pre = pre' ++ [x] ∧ pre'.any (withinB b) = false ∧ withinB b x = true ∧ Boxed A (w.heap.size + 1) 9 (.string x) ∧ Boxed A (w.heap.size + 1 + 1) 24 (.int .i64 0) ∧ Keeps (fun k => k < w.heap.size) w A)
    (fun D pre A A' h k => ⟨h.1, k.boxed h.2.1 (by omega), k.boxed h.2.2.1 (by omega), k.boxed h.2.2.2.1 (by omega), h.2.2.2.2.trans (k.mono fun _ _ h => by omega)⟩)
    (fun c D pre A A' h k => by obtain ⟨h1, pre', x, h2, h3, h4, h5, h6, h7⟩ := h; exact ⟨h1, pre', x, h2, h3, h4, k.boxed h5 (by omega), k.boxed h6 (by omega), h7.trans (k.mono fun _ _ h => by omega)⟩)
    (fun D W _ _ h => ⟨rfl, h.boxed hN2 (by omega), h.boxed hS2 (by omega), h.boxed hE2 (by omega), (hX2.keeps.mono fun _ _ _ => trivial).trans (h.mono fun _ _ h => by omega)⟩)
    (fun _ x a' _ => a' = { tmps := #[.string a, .string b, undef, .pointer (some ⟨w.heap.size, 0, none⟩), .pointer (some ⟨w.heap.size + 1, 0, none⟩), .pointer (some ⟨w.heap.size + 1 + 1, 0, none⟩), .string x, .string a, .func (.func 104) #[] #[.pointer (some ⟨w1.heap.size, 0, none⟩)], .string x, undef, undef, undef, undef], defers := [] })
    (fun _ _ _ _ _ h _ => h) ?assign ?body ?done ?stop
  case assign =>
    intro l D x A K _ hK
    gi_wp2
    exact hK _ _ (Keeps.refl _ _) rfl
  case body =>
    rintro l D pre x rest a' A hx hD hDW ⟨r, hr⟩ ⟨hp, hN, hS, hE, hk⟩ rfl
    have hxs : x.size ≤ maxLen := Nat.le_trans (upB_size _ a (Nat.le_refl _) x (by rw [hx]; simp)).1 Ha.out
    have HC := Lib.hid fun W => Within_any b x W hb hxs
    have hcN := hN.cell
    have HN := Lib.hid hN; clear hN
    have HS := Lib.hid hS; clear hS
    have HE := Lib.hid hE; clear hE
    have Hk := Lib.hid hk; clear hk
    have Hx := Lib.hid hx; clear hx
    have Hp := Lib.hid hp; clear hp
    gi_wp2_with fail
    refine ((callsIn_wide.2 (HC.out _)).inRound l).mono ?_
    rintro e w3 ⟨rfl, hx3⟩
    have hkx := Ext.keeps hx3
    have HN3 := Lib.hid (hkx.boxed HN.out trivial)
    have HS3 := Lib.hid (hkx.boxed HS.out trivial)
    have HE3 := Lib.hid (hkx.boxed HE.out trivial)
    have Hk3 := Lib.hid (Hk.out.trans (hkx.mono fun _ _ _ => trivial))
    have Hkx := Lib.hid hkx
    have hcS := HS3.out.cell
    have hfS := HS3.out.frozen
    have hcE := HE3.out.cell
    have hfE := HE3.out.frozen
    clear hx3 hkx HN HS HE Hk HC
    cases ht : withinB b x with
    | true =>
      have Ht := Lib.hid ht; clear ht
      gi_wp2
      obtain ⟨h1, h2⟩ := boxed_set2 HS3.out HE3.out (by omega) (.string x) (.int .i64 0)
      exact ⟨(Hkx.out.mono fun _ _ _ => trivial).set2 (by omega) (by omega) _ _, rfl, pre, x, rfl, Hp.out, Ht.out, h1, h2, Hk3.out.set2 (by omega) (by omega) _ _⟩
    | false =>
      have Ht := Lib.hid ht; clear ht
      gi_wp2
      exact ⟨Hkx.out.mono fun _ _ _ => trivial, by rw [List.any_append, Hp.out]; simp [Ht.out], HN3.out, HS3.out, HE3.out, Hk3.out⟩
  case done =>
    rintro D A hD hDW ⟨hp, hN, hS, hE, hk⟩ hd
    have hcS := hS.cell
    have hfS := hS.frozen
    have hcE := hE.cell
    have hfE := hE.frozen
    have HS := Lib.hid hS; clear hS
    have HE := Lib.hid hE; clear hE
    have Hk := Lib.hid hk; clear hk
    have Hd := Lib.hid hd; clear hd
    have Hp := Lib.hid hp; clear hp
    clear hN
    gi_wp2
    obtain ⟨h1, h2⟩ := boxed_set2 HS.out HE.out (by omega) (.string ⟨#[]⟩) (.int .i64 2)
    have hd2 := ((Keeps.refl (fun k => k = w2.heap.size) A).set2 (A := w.heap.size + 1) (B := w.heap.size + 1 + 1) (by omega) (by omega) (.string ⟨#[]⟩) (.int .i64 2)).heap Hd.out rfl
    refine ⟨by simp, .inl ⟨_, _, rfl, run_takeDeferred hd2, ?_⟩⟩
    have hp := fun K (h : ¬ K w2.heap.size) => (Keeps.refl K ((A.setCell ⟨w.heap.size + 1, 0, none⟩ (.string ⟨#[]⟩)).setCell ⟨w.heap.size + 1 + 1, 0, none⟩ (.int .i64 2))).putObj h (.deferred none)
    have h1' := (hp (fun k => k < w2.heap.size) (by omega)).boxed h1 (by omega)
    have h2' := (hp (fun k => k < w2.heap.size) (by omega)).boxed h2 (by omega)
    refine ⟨.tuple #[.string ⟨#[]⟩, .int .i64 2], ?_, ?_, ?_⟩
    · simp [results, Try.f30, go_sem, h1'.cell, h2'.cell]
    · rw [commonR, find_none Hp.out]
    · exact ((Hk.out.set2 (by omega) (by omega) _ _).trans (hp _ (by omega))).ext (fun _ h => h)
  case stop =>
    rintro c D pre x rest A hx hD hDW ⟨rfl, pre', y, hy, hp, ht, hS, hE, hk⟩ hd
    have hcS := hS.cell
    have hcE := hE.cell
    have HS := Lib.hid hS; clear hS
    have HE := Lib.hid hE; clear hE
    have Hk := Lib.hid hk; clear hk
    have Hd := Lib.hid hd; clear hd
    have Hx := Lib.hid hx; clear hx
    have Hy := Lib.hid hy; clear hy
    have Hp := Lib.hid hp; clear hp
    have Ht := Lib.hid ht; clear ht
    gi_wp2
    refine ⟨by simp, .inl ⟨_, _, rfl, run_takeDeferred Hd.out, ?_⟩⟩
    have hp := fun K (h : ¬ K w2.heap.size) => (Keeps.refl K A).putObj h (.deferred none)
    have h1' := (hp (fun k => k < w2.heap.size) (by omega)).boxed HS.out (by omega)
    have h2' := (hp (fun k => k < w2.heap.size) (by omega)).boxed HE.out (by omega)
    obtain ⟨rfl, rfl⟩ : pre = pre' ∧ x = y := by
      obtain ⟨e1, e2⟩ := List.append_inj' Hy.out rfl
      exact ⟨e1, by simpa using e2⟩
    refine ⟨.tuple #[.string x, .int .i64 0], ?_, ?_, ?_⟩
    · simp [results, Try.f30, go_sem, h1'.cell, h2'.cell]
    · rw [commonR, Hx.out, find_some Hp.out Ht.out]
    · exact (Hk.out.trans (hp _ (by omega))).ext (fun _ h => h)

set_option maxRecDepth 100000 in
set_option maxHeartbeats 4000000 in
theorem Next_any (z n : ByteArray) (w : World) (hz : z.size ≤ maxLen) (ha : n.size ≤ maxLen) :
    Calls Try.prog 41 #[.string z, .string n] w fun e w' => e = .returned (.tuple #[.string (nextR z n).1, .int .i64 (nextR z n).2]) ∧ Ext w w' := by
  have CZ := Lib.hid fun W => Check_any z W hz
  have CN := Lib.hid fun W => Check_any n W ha
  refine (callsIn_wide (n := 9)).1 ?_
  refine callsIn_of_wp_marks Try.func41 rfl trivial ?_ rfl
  simp only [Try.ntmps41, List.size_toArray, List.length_cons, List.length_nil, Nat.reduceAdd, Nat.reduceSub, Array.replicate_succ, Array.replicate_zero, List.push_toArray, List.append_toArray, List.nil_append, List.cons_append]
  have Ha := Lib.hid ha; clear ha
  gi_wp2_with fail
  obtain ⟨w0, hw0⟩ : ∃ w0, ((w.alloc (.cells #[.string z] 9)).alloc (.cells #[.string ⟨#[]⟩] 9)).alloc (.cells #[.int .i64 0] 24) = w0 := ⟨_, rfl⟩
  have hN0 : Boxed w0 w.heap.size 9 (.string z) := by rw [← hw0]; exact ((Boxed.new w 9 _).alloc _).alloc _
  have hS0 : Boxed w0 (w.heap.size + 1) 9 (.string ⟨#[]⟩) := by
    rw [← hw0]; have := (Boxed.new (w.alloc (.cells #[.string z] 9)) 9 (.string ⟨#[]⟩)).alloc (.cells #[.int .i64 0] 24); simpa using this
  have hE0 : Boxed w0 (w.heap.size + 1 + 1) 24 (.int .i64 0) := by
    rw [← hw0]; have := Boxed.new ((w.alloc (.cells #[.string z] 9)).alloc (.cells #[.string ⟨#[]⟩] 9)) 24 (.int .i64 0); simpa using this
  have hX0 : Ext w w0 := by rw [← hw0]; exact (((Ext.refl _).alloc _).alloc _).alloc _
  rw [hw0]
  clear hw0
  refine (callsIn_wide.2 (CZ.out _)).mono ?_
  rintro e w1 ⟨rfl, hx1⟩
  have HX1 := Lib.hid (hX0.trans hx1); clear hX0
  have HN1 := Lib.hid ((Ext.keeps hx1).boxed hN0 trivial); clear hN0
  have HS1 := Lib.hid ((Ext.keeps hx1).boxed hS0 trivial); clear hS0
  have HE1 := Lib.hid ((Ext.keeps hx1).boxed hE0 trivial); clear hE0
  clear hx1 CZ
  cases hnz : isName z with
  | false =>
    rw [chk_none hnz]
    have Hbad : Hid (isName z = false ∨ isName n = false) := Lib.hid (.inl hnz)
    clear hnz
    have hcS := HS1.out.cell
    have hfS := HS1.out.frozen
    have hcE := HE1.out.cell
    have hfE := HE1.out.frozen
    gi_wp2
    obtain ⟨hr1, hr2⟩ := boxed_set2 HS1.out HE1.out (by omega) (.string ⟨#[]⟩) (.int .i64 2)
    refine ⟨.tuple #[.string ⟨#[]⟩, .int .i64 2], ?_, by rw [nextR, if_pos Hbad.out], ?_⟩
    · simp [results, Try.f41, go_sem, hr1.cell, hr2.cell]
    · exact ((HX1.out.keeps.mono (K' := fun k => k < w.heap.size) (fun _ _ _ => trivial)).set2 (by omega) (by omega) _ _).ext (fun _ h => h)
  | true =>
    rw [chk_name hnz]
    have Hnz := Lib.hid hnz; clear hnz
    gi_wp2_with fail
    refine (callsIn_wide.2 (CN.out _)).mono ?_
    rintro e w1b ⟨rfl, hx1⟩
    have HX1 := Lib.hid (HX1.out.trans hx1)
    have HN1 := Lib.hid ((Ext.keeps hx1).boxed HN1.out trivial)
    have HS1 := Lib.hid ((Ext.keeps hx1).boxed HS1.out trivial)
    have HE1 := Lib.hid ((Ext.keeps hx1).boxed HE1.out trivial)
    clear hx1 CN
    obtain ⟨w1, rfl⟩ : ∃ w1, w1 = w1b := ⟨_, rfl⟩
    cases hnn : isName n with
    | false =>
      rw [chk_none hnn]
      have Hbad : Hid (isName z = false ∨ isName n = false) := Lib.hid (.inr hnn)
      clear hnn
      have hcS := HS1.out.cell
      have hfS := HS1.out.frozen
      have hcE := HE1.out.cell
      have hfE := HE1.out.frozen
      gi_wp2
      obtain ⟨hr1, hr2⟩ := boxed_set2 HS1.out HE1.out (by omega) (.string ⟨#[]⟩) (.int .i64 2)
      refine ⟨.tuple #[.string ⟨#[]⟩, .int .i64 2], ?_, by rw [nextR, if_pos Hbad.out], ?_⟩
      · simp [results, Try.f41, go_sem, hr1.cell, hr2.cell]
      · exact ((HX1.out.keeps.mono (K' := fun k => k < w.heap.size) (fun _ _ _ => trivial)).set2 (by omega) (by omega) _ _).ext (fun _ h => h)
    | true =>
      rw [chk_name hnn]
      have Hnn := Lib.hid hnn; clear hnn
      have Hgood : Hid (¬ (isName z = false ∨ isName n = false)) := Lib.hid (by rw [Hnz.out, Hnn.out]; simp)
      gi_wp2_with (gi_at_call 78; refine (callsIn_wide.2 (Up_any _ _)).mono ?_; rintro e w' ⟨rfl, rfl⟩)
      have hEN : Boxed (w1.alloc (.cells #[.string n] 9)) w1.heap.size 9 (.string n) := Boxed.new w1 9 _
      have hN2 := HN1.out.alloc (.cells #[.string n] 9)
      have hS2 := HS1.out.alloc (.cells #[.string n] 9)
      have hE2 := HE1.out.alloc (.cells #[.string n] 9)
      have hX2 := HX1.out.alloc (.cells #[.string n] 9)
      have hz2 : w1.heap.size < (w1.alloc (.cells #[.string n] 9)).heap.size := by simp
      have hlt := HE1.out.lt
      generalize w1.alloc (.cells #[.string n] 9) = w2 at hEN hN2 hS2 hE2 hX2 hz2 ⊢
      clear HN1 HS1 HE1 HX1
      refine wpIn_rangeX rfl wide_room (gf := 104) (lb := #[.pointer (some ⟨w1.heap.size, 0, none⟩)]) rfl trivial (enters_of Try.func104 (by kernel_rfl) rfl)
        (up1_seq _ _ n Ha.out w2 hEN.cell) (Keeps.refl _ _) (fun k h => by subst h; exact hz2) (fun _ => rfl)
        (fun _ pre A => pre.any (nextP z) = false ∧ Boxed A w.heap.size 9 (.string z) ∧ Boxed A (w.heap.size + 1) 9 (.string ⟨#[]⟩) ∧ Boxed A (w.heap.size + 1 + 1) 24 (.int .i64 0) ∧ Keeps (fun k => k < w.heap.size) w A)
        (fun c _ pre A => c = Code.ret ∧ ∃ pre' x, pre = pre' ++ [x] ∧ pre'.any (nextP z) = false ∧ nextP z x = true ∧ Boxed A (w.heap.size + 1) 9 (.string x) ∧ Boxed A (w.heap.size + 1 + 1) 24 (.int .i64 0) ∧ Keeps (fun k => k < w.heap.size) w A)
        (fun D pre A A' h k => ⟨h.1, k.boxed h.2.1 (by omega), k.boxed h.2.2.1 (by omega), k.boxed h.2.2.2.1 (by omega), h.2.2.2.2.trans (k.mono fun _ _ h => by omega)⟩)
        (fun c D pre A A' h k => by obtain ⟨h1, pre', x, h2, h3, h4, h5, h6, h7⟩ := h; exact ⟨h1, pre', x, h2, h3, h4, k.boxed h5 (by omega), k.boxed h6 (by omega), h7.trans (k.mono fun _ _ h => by omega)⟩)
        (fun D W _ _ h => ⟨rfl, h.boxed hN2 (by omega), h.boxed hS2 (by omega), h.boxed hE2 (by omega), (hX2.keeps.mono fun _ _ _ => trivial).trans (h.mono fun _ _ h => by omega)⟩)
        (fun _ x a' _ => a' = { tmps := #[.string z, .string n, .pointer (some ⟨w.heap.size, 0, none⟩), undef, .pointer (some ⟨w.heap.size + 1, 0, none⟩), .pointer (some ⟨w.heap.size + 1 + 1, 0, none⟩), .string x, .string z, .int .i64 0, .bool false, .bool false, .string n, .int .i64 0, .bool false, .bool false, .string n, .func (.func 104) #[] #[.pointer (some ⟨w1.heap.size, 0, none⟩)], .string x, undef, undef, undef, undef, undef], defers := [] })
        (fun _ _ _ _ _ h _ => h) ?assign ?body ?done ?stop
      case assign =>
        intro l D x A K _ hK
        gi_wp2
        exact hK _ _ (Keeps.refl _ _) rfl
      case body =>
        rintro l D pre x rest a' A hx hD hDW ⟨r, hr⟩ ⟨hp, hN, hS, hE, hk⟩ rfl
        have hxs : x.size ≤ maxLen := Nat.le_trans (upB_size _ n (Nat.le_refl _) x (by rw [hx]; simp)).1 Ha.out
        have HC := Lib.hid fun W => Depth_any x z W hxs hz
        have hcN := hN.cell
        have HN := Lib.hid hN; clear hN
        have HS := Lib.hid hS; clear hS
        have HE := Lib.hid hE; clear hE
        have Hk := Lib.hid hk; clear hk
        have Hx := Lib.hid hx; clear hx
        have Hp := Lib.hid hp; clear hp
        gi_wp2_with fail
        refine ((callsIn_wide.2 (HC.out _)).inRound l).mono ?_
        rintro e w3 ⟨rfl, hx3⟩
        have hkx := Ext.keeps hx3
        have HN3 := Lib.hid (hkx.boxed HN.out trivial)
        have HS3 := Lib.hid (hkx.boxed HS.out trivial)
        have HE3 := Lib.hid (hkx.boxed HE.out trivial)
        have Hk3 := Lib.hid (Hk.out.trans (hkx.mono fun _ _ _ => trivial))
        have Hkx := Lib.hid hkx
        have hcS := HS3.out.cell
        have hfS := HS3.out.frozen
        have hcE := HE3.out.cell
        have hfE := HE3.out.frozen
        clear hx3 hkx HN HS HE Hk HC
        obtain ⟨d, hd⟩ : ∃ d, depthB x z = d := ⟨_, rfl⟩
        rw [hd]
        cases ht : decide (d = 1) with
        | true =>
          have Ht : Hid (nextP z x = true) := Lib.hid (by rw [nextP, hd]; exact ht)
          obtain rfl : d = 1 := of_decide_eq_true ht
          clear ht hd
          gi_wp2
          obtain ⟨h1, h2⟩ := boxed_set2 HS3.out HE3.out (by omega) (.string x) (.int .i64 0)
          exact ⟨(Hkx.out.mono fun _ _ _ => trivial).set2 (by omega) (by omega) _ _, rfl, pre, x, rfl, Hp.out, Ht.out, h1, h2, Hk3.out.set2 (by omega) (by omega) _ _⟩
        | false =>
          have Ht : Hid (nextP z x = false) := Lib.hid (by rw [nextP, hd]; exact ht)
          have hd1 : ¬ d = 1 := of_decide_eq_false ht
          clear hd
          gi_wp2
          exact ⟨Hkx.out.mono fun _ _ _ => trivial, by rw [List.any_append, Hp.out]; simp [Ht.out], HN3.out, HS3.out, HE3.out, Hk3.out⟩
      case done =>
        rintro D A hD hDW ⟨hp, hN, hS, hE, hk⟩ hd
        have hcS := hS.cell
        have hfS := hS.frozen
        have hcE := hE.cell
        have hfE := hE.frozen
        have HS := Lib.hid hS; clear hS
        have HE := Lib.hid hE; clear hE
        have Hk := Lib.hid hk; clear hk
        have Hd := Lib.hid hd; clear hd
        have Hp := Lib.hid hp; clear hp
        clear hN
        gi_wp2
        obtain ⟨h1, h2⟩ := boxed_set2 HS.out HE.out (by omega) (.string ⟨#[]⟩) (.int .i64 3)
        have hd2 := ((Keeps.refl (fun k => k = w2.heap.size) A).set2 (A := w.heap.size + 1) (B := w.heap.size + 1 + 1) (by omega) (by omega) (.string ⟨#[]⟩) (.int .i64 3)).heap Hd.out rfl
        refine ⟨by simp, .inl ⟨_, _, rfl, run_takeDeferred hd2, ?_⟩⟩
        have hp := fun K (h : ¬ K w2.heap.size) => (Keeps.refl K ((A.setCell ⟨w.heap.size + 1, 0, none⟩ (.string ⟨#[]⟩)).setCell ⟨w.heap.size + 1 + 1, 0, none⟩ (.int .i64 3))).putObj h (.deferred none)
        have h1' := (hp (fun k => k < w2.heap.size) (by omega)).boxed h1 (by omega)
        have h2' := (hp (fun k => k < w2.heap.size) (by omega)).boxed h2 (by omega)
        refine ⟨.tuple #[.string ⟨#[]⟩, .int .i64 3], ?_, ?_, ?_⟩
        · simp [results, Try.f41, go_sem, h1'.cell, h2'.cell]
        · rw [nextR, if_neg Hgood.out, find_none Hp.out]
        · exact ((Hk.out.set2 (by omega) (by omega) _ _).trans (hp _ (by omega))).ext (fun _ h => h)
      case stop =>
        rintro c D pre x rest A hx hD hDW ⟨rfl, pre', y, hy, hp, ht, hS, hE, hk⟩ hd
        have hcS := hS.cell
        have hcE := hE.cell
        have HS := Lib.hid hS; clear hS
        have HE := Lib.hid hE; clear hE
        have Hk := Lib.hid hk; clear hk
        have Hd := Lib.hid hd; clear hd
        have Hx := Lib.hid hx; clear hx
        have Hy := Lib.hid hy; clear hy
        have Hp := Lib.hid hp; clear hp
        have Ht := Lib.hid ht; clear ht
        gi_wp2
        refine ⟨by simp, .inl ⟨_, _, rfl, run_takeDeferred Hd.out, ?_⟩⟩
        have hp := fun K (h : ¬ K w2.heap.size) => (Keeps.refl K A).putObj h (.deferred none)
        have h1' := (hp (fun k => k < w2.heap.size) (by omega)).boxed HS.out (by omega)
        have h2' := (hp (fun k => k < w2.heap.size) (by omega)).boxed HE.out (by omega)
        obtain ⟨rfl, rfl⟩ : pre = pre' ∧ x = y := by
          obtain ⟨e1, e2⟩ := List.append_inj' Hy.out rfl
          exact ⟨e1, by simpa using e2⟩
        refine ⟨.tuple #[.string x, .int .i64 0], ?_, ?_, ?_⟩
        · simp [results, Try.f41, go_sem, h1'.cell, h2'.cell]
        · rw [nextR, if_neg Hgood.out, Hx.out, find_some Hp.out Ht.out]
        · exact (Hk.out.trans (hp _ (by omega))).ext (fun _ h => h)

end Go.Proofs.Yteoelhhkdfmaiaa

/- What walk's Deepest and the plain comparison of two lists of texts do. Conditions: strings that Go can hold; slices that hold them. -/
namespace Go.Proofs.Yteoelhhkdfmaiaa
open Go Go.RowKit Go.Shelf

theorem text_inj {a b : ByteArray} (h : a.toList = b.toList) : a = b := by
  rw [ByteArray.toList_eq, ByteArray.toList_eq] at h
  exact ByteArray.ext (Array.toList_inj.1 h)
theorem Strs.open {W : World} {sv : Value} {ls : List ByteArray} (h : Strs W sv ls) :
    ∃ ao cap, sv = .slice ao ls.length cap ∧ ∀ k, k < ls.length → ∃ b off, ao = some ⟨b, off, none⟩ ∧ W.cell? ⟨b, off + k, none⟩ = some (.string (ls[k]?.getD ⟨#[]⟩)) := by
  rcases h with ⟨rfl, rfl⟩ | ⟨b, off, cap, rfl, hc⟩
  · exact ⟨_, _, rfl, fun k hk => by simp at hk⟩
  · exact ⟨_, _, rfl, fun k hk => ⟨b, off, rfl, hc k hk⟩⟩

def deepStep (n : ByteArray) (p : ByteArray × Int) (x : ByteArray) : ByteArray × Int :=
  if p.2 < ((labelsB x).length : Int) ∧ withinB n x = true then (x, ((labelsB x).length : Int)) else p
def deepF (n : ByteArray) (ls : List ByteArray) : ByteArray × Int := ls.foldl (deepStep n) (⟨#[]⟩, -1)
def deepR (n : ByteArray) (ls : List ByteArray) : ByteArray × Int :=
  if isName n = false then (⟨#[]⟩, 2) else if (deepF n ls).2 < 0 then (⟨#[]⟩, 3) else ((deepF n ls).1, 0)

theorem deep_snoc (n : ByteArray) (l : List ByteArray) (x : ByteArray) : deepF n (l ++ [x]) = deepStep n (deepF n l) x := by
  rw [deepF, List.foldl_append]; rfl

set_option maxRecDepth 100000 in
set_option maxHeartbeats 4000000 in
theorem Deepest_any (n : ByteArray) (sv : Value) (ls : List ByteArray) (w : World) (hs : n.size ≤ maxLen) (hsv : Strs w sv ls) (hlen : ls.length ≤ 140737488355328) (hll : ∀ x ∈ ls, x.size ≤ maxLen) :
    Calls Try.prog 8 #[.string n, sv] w fun e w' => e = .returned (.tuple #[.string (deepR n ls).1, .int .i64 (deepR n ls).2]) ∧ Ext w w' := by
  have CA := Lib.hid fun W => Check_any n W hs
  have HX := Lib.hid (Ext.refl w)
  obtain ⟨ao, cap, rfl, hsv2⟩ := hsv.open
  have Hsv := Lib.hid hsv2; clear hsv2 hsv
  have Hll := Lib.hid hll; clear hll
  cases hn : isName n with
  | false =>
    rw [chk_none hn] at CA
    have Hn := Lib.hid hn; clear hn
    go_enter Try.func8, Try.ntmps8
    go_wp2_with (first
      | ((with_reducible refine (CA.out _).mono ?_); rintro e w' ⟨rfl, hx⟩; have HX := Lib.hid (HX.out.trans hx); clear hx))
    go_ret2
    exact ⟨by rw [deepR, if_pos Hn.out]; rfl, HX.out⟩
  | true =>
    rw [chk_name hn] at CA
    have Hn := Lib.hid hn; clear hn
    go_enter Try.func8, Try.ntmps8
    go_wp2_with (first
      | ((with_reducible refine (CA.out _).mono ?_); rintro e w' ⟨rfl, hx⟩; have HX := Lib.hid (HX.out.trans hx); clear hx))
    go_loopw [6, 7, 16] (fun d m i wr => ∃ k : Nat, k ≤ ls.length ∧ i = .int .i64 k ∧ d = .string (deepF n (ls.take k)).1 ∧ m = .int .i64 (deepF n (ls.take k)).2 ∧ Ext w wr)
      (fun _ _ i _ => ls.length - (intOf i).toNat)
    case atStart => exact ⟨0, Nat.zero_le _, rfl, rfl, rfl, HX.out⟩
    case round =>
      obtain ⟨k, hk, rfl, rfl, rfl, hx⟩ := hrel
      clear HX
      have HX := Lib.hid hx; clear hx
      by_cases hlt : k < ls.length
      · obtain ⟨b, off, rfl, hc⟩ := Hsv.out k hlt
        replace hc := HX.out.keeps.cell hc trivial
        have hts := take_snoc ls k ⟨#[]⟩ hlt
        have hmem : (ls[k]?.getD ⟨#[]⟩) ∈ ls := by rw [List.getElem?_eq_getElem hlt]; exact List.getElem_mem hlt
        obtain ⟨x, hx⟩ : ∃ x, ls[k]?.getD ⟨#[]⟩ = x := ⟨_, rfl⟩
        rw [hx] at hc hts hmem
        clear hx
        have hxs := Hll.out x hmem
        have CC := Lib.hid fun W => Count_any x W hxs
        have CW := Lib.hid fun W => Within_any n x W hs hxs
        have hst : deepF n (ls.take (k + 1)) = deepStep n (deepF n (ls.take k)) x := by rw [hts, deep_snoc]
        obtain ⟨d, m, hdm⟩ : ∃ d m, deepF n (ls.take k) = (d, m) := ⟨_, _, rfl⟩
        rw [hdm] at hst ⊢
        simp only [deepStep] at hst
        have Hst := Lib.hid hst
        obtain ⟨c, hcc⟩ : ∃ c : Int, ((labelsB x).length : Int) = c := ⟨_, rfl⟩
        rw [hcc] at CC Hst
        clear hst hts hdm hmem hxs hcc
        by_cases hmc : m < c
        · cases hw : withinB n x with
          | true =>
            rw [hw] at CW Hst
            have Hst' : Hid (deepF n (ls.take (k + 1)) = (x, c)) := Lib.hid (by rw [Hst.out, if_pos ⟨hmc, rfl⟩])
            clear Hst hw
            go_wp2_with (first
              | ((with_reducible refine (CC.out _).mono ?_); rintro e w' ⟨rfl, hx⟩; have HX := Lib.hid (HX.out.trans hx); clear hx)
              | ((with_reducible refine (CW.out _).mono ?_); rintro e w' ⟨rfl, hx⟩; have HX := Lib.hid (HX.out.trans hx); clear hx))
            go_roundw
            case rel => exact ⟨k + 1, by omega, by simp, by rw [Hst'.out], by rw [Hst'.out], HX.out⟩
            case measure => simp [intOf]; omega
          | false =>
            rw [hw] at CW Hst
            have Hst' : Hid (deepF n (ls.take (k + 1)) = (d, m)) := Lib.hid (by rw [Hst.out, if_neg (by simp)])
            clear Hst hw
            go_wp2_with (first
              | ((with_reducible refine (CC.out _).mono ?_); rintro e w' ⟨rfl, hx⟩; have HX := Lib.hid (HX.out.trans hx); clear hx)
              | ((with_reducible refine (CW.out _).mono ?_); rintro e w' ⟨rfl, hx⟩; have HX := Lib.hid (HX.out.trans hx); clear hx))
            go_roundw
            case rel => exact ⟨k + 1, by omega, by simp, by rw [Hst'.out], by rw [Hst'.out], HX.out⟩
            case measure => simp [intOf]; omega
        · have Hst' : Hid (deepF n (ls.take (k + 1)) = (d, m)) := Lib.hid (by rw [Hst.out, if_neg (by simp [hmc])])
          clear Hst
          go_wp2_with (first
            | ((with_reducible refine (CC.out _).mono ?_); rintro e w' ⟨rfl, hx⟩; have HX := Lib.hid (HX.out.trans hx); clear hx)
            | ((with_reducible refine (CW.out _).mono ?_); rintro e w' ⟨rfl, hx⟩; have HX := Lib.hid (HX.out.trans hx); clear hx))
          go_roundw
          case rel => exact ⟨k + 1, by omega, by simp, by rw [Hst'.out], by rw [Hst'.out], HX.out⟩
          case measure => simp [intOf]; omega
      · obtain rfl : k = ls.length := by omega
        rw [List.take_length]
        obtain ⟨d, m, hdm⟩ : ∃ d m, deepF n ls = (d, m) := ⟨_, _, rfl⟩
        have Hd := Lib.hid hdm
        rw [hdm]
        clear hdm hlt hk
        by_cases hm : m < 0
        · go_wp2
          go_ret2
          exact ⟨by rw [deepR, if_neg (by rw [Hn.out]; simp), Hd.out, if_pos hm]; rfl, HX.out⟩
        · go_wp2
          go_ret2
          exact ⟨by rw [deepR, if_neg (by rw [Hn.out]; simp), Hd.out, if_neg (by omega)]; rfl, HX.out⟩

set_option maxRecDepth 100000 in
set_option maxHeartbeats 4000000 in
theorem SameTexts_any (u v : Value) (xs ys : List ByteArray) (w : World) (hu : Strs w u xs) (hv : Strs w v ys) (ha : xs.length ≤ 140737488355328) :
    Calls Try.prog 10 #[u, v] w fun e w' => e = .returned (.bool (decide (xs = ys))) ∧ Ext w w' := by
  obtain ⟨ao, cap, rfl, hu2⟩ := hu.open
  obtain ⟨bo, cap2, rfl, hv2⟩ := hv.open
  have Hu := Lib.hid hu2; clear hu2 hu
  have Hv := Lib.hid hv2; clear hv2 hv
  have hmx : Try.prog.follows .mixedOrders = true := by kernel_rfl
  by_cases hl : xs.length = ys.length
  · have Hl := Lib.hid hl
    rw [hl] at ha
    have hl' : ((xs.length : Int) == (ys.length : Int)) = true := by simp [hl]
    go_enter Try.func10, Try.ntmps10
    rw [hl]
    go_wp2_with fail
    go_loopw [13] (fun i wr => ∃ k : Nat, k ≤ ys.length ∧ i = .int .i64 k ∧ xs.take k = ys.take k ∧ Ext w wr)
      (fun i _ => ys.length - (intOf i).toNat)
    case atStart => exact ⟨0, Nat.zero_le _, rfl, by simp, Ext.refl _⟩
    case round =>
      obtain ⟨k, hk, rfl, heq, hx⟩ := hrel
      have HX := Lib.hid hx; clear hx
      by_cases hlt : k < ys.length
      · obtain ⟨b, off, rfl, hc⟩ := Hu.out k (by omega)
        obtain ⟨b2, off2, rfl, hc2⟩ := Hv.out k hlt
        replace hc := HX.out.keeps.cell hc trivial
        replace hc2 := HX.out.keeps.cell hc2 trivial
        have hts := take_snoc xs k ⟨#[]⟩ (by omega)
        have hts2 := take_snoc ys k ⟨#[]⟩ hlt
        have hg : xs[k]? = ys[k]? ↔ xs[k]?.getD ⟨#[]⟩ = ys[k]?.getD ⟨#[]⟩ := by
          rw [List.getElem?_eq_getElem hlt, List.getElem?_eq_getElem (show k < xs.length by omega)]; simp
        obtain ⟨x, hx⟩ : ∃ x, xs[k]?.getD ⟨#[]⟩ = x := ⟨_, rfl⟩
        obtain ⟨y, hy⟩ : ∃ y, ys[k]?.getD ⟨#[]⟩ = y := ⟨_, rfl⟩
        rw [hx] at hc hts hg
        rw [hy] at hc2 hts2 hg
        have Hg := Lib.hid hg
        have Ht := Lib.hid hts
        have Ht2 := Lib.hid hts2
        have He := Lib.hid heq
        clear hx hy hg hts hts2 heq
        by_cases hxy : x = y
        · subst hxy
          have hxb : (x.toList == x.toList) = true := by simp
          go_wp2_with fail
          refine wp_region_still hmx (by kernel_rfl) ?_
          repeat still_step
          refine wpStill_nil ?_
          go_wp2
          go_roundw
          case rel => exact ⟨k + 1, by omega, by simp, by rw [Ht.out, Ht2.out, He.out], HX.out.drew⟩
          case measure => simp [intOf]; omega
        · have hxb : (x.toList == y.toList) = false := beq_eq_false_iff_ne.2 fun h => hxy (text_inj h)
          go_wp2_with fail
          refine wp_region_still hmx (by kernel_rfl) ?_
          repeat still_step
          refine wpStill_nil ?_
          go_wp2
          go_ret
          exact ⟨by rw [decide_eq_false (fun h0 => hxy (Hg.out.1 (by rw [h0])))]; rfl, HX.out.drew⟩
      · obtain rfl : k = ys.length := by omega
        rw [List.take_length] at heq
        have He : Hid (xs = ys) := Lib.hid (by rw [← heq, ← Hl.out, List.take_length])
        clear heq hlt hk
        go_wp2
        go_ret
        exact ⟨by rw [decide_eq_true He.out]; rfl, HX.out⟩
  · have hl' : ((xs.length : Int) == (ys.length : Int)) = false := by rw [beq_eq_false_iff_ne]; omega
    go_enter Try.func10, Try.ntmps10
    go_wp2
    go_ret
    exact ⟨by rw [decide_eq_false (fun h0 => hl (by rw [h0]))]; rfl, Ext.refl _⟩

end Go.Proofs.Yteoelhhkdfmaiaa

/- What slices.AppendSeq and slices.Collect do with an iterator of strings. Conditions: the iterator keeps its promise (SeqX) where the call begins. -/
namespace Go.Proofs.Yteoelhhkdfmaiaa
open Go Go.RowKit Go.Shelf
attribute [local go_sem] Oper.semAt_some wide_fn wide_depth

theorem ownsRow_mono {w : World} {b b' size n : Nat} {e : TypeId} {v : Value} {xs : List Value} (h : w.ownsRow b' e size v n xs) (hb : b ≤ b') : w.ownsRow b e size v n xs := by
  refine ⟨h.1, ?_⟩
  rcases h.2 with hn | ⟨g, cap, cur, rfl, hg, rest⟩
  · exact .inl hn
  · exact .inr ⟨g, cap, cur, rfl, by omega, rest⟩

set_option maxRecDepth 100000 in
set_option maxHeartbeats 4000000 in
theorem AppendSeq_any (gf : Nat) (lb : Array Value) (R : Nat → Prop) (xs : List ByteArray) (w0 w : World) (eg : ∀ args w, (callFunc gf args).run Try.prog w = .ok (.enter gf args) w)
    (hseq : ∀ n, SeqX Fence.wide n Try.prog gf lb (fun x : ByteArray => #[Value.string x]) xs R w0) (hb0 : Keeps R w0 w) (hR : ∀ k, R k → k < w.heap.size) (hlen : xs.length ≤ 4294967296) :
    Calls Try.prog 108 #[.slice none 0 0, .func (.func gf) #[] lb] w fun e w' => ∃ v, e = .returned v ∧ w'.ownsRow w.heap.size 9 1 v xs.length (xs.map Value.string) ∧ Ext w w' := by
  obtain ⟨i0, hi, hz0, hz1, hz2⟩ := info_parts infoString
  refine (callsIn_wide (n := 9)).1 ?_
  refine callsIn_of_wp_marks Try.func108 rfl trivial ?_ rfl
  simp only [Try.ntmps108, List.size_toArray, List.length_cons, List.length_nil, Nat.reduceAdd, Nat.reduceSub, Array.replicate_succ, Array.replicate_zero, List.push_toArray, List.append_toArray, List.nil_append, List.cons_append]
  have Hseq := Lib.hid hseq; clear hseq
  have Hb0 := Lib.hid hb0; clear hb0
  gi_wp2_with fail
  have hB : Boxed (w.alloc (.cells #[.slice none 0 0] 22)) w.heap.size 22 (.slice none 0 0) := Boxed.new w 22 _
  have hK : Ext w (w.alloc (.cells #[.slice none 0 0] 22)) := (Ext.refl _).alloc _
  have hKR : Keeps R w0 (w.alloc (.cells #[.slice none 0 0] 22)) := Hb0.out.alloc _
  have hz : (w.alloc (.cells #[.slice none 0 0] 22)).heap.size = w.heap.size + 1 := by simp
  generalize w.alloc (.cells #[.slice none 0 0] 22) = w2 at hB hK hKR hz ⊢
  refine wpIn_rangeX rfl wide_room (gf := gf) (lb := lb) rfl trivial eg
    (Hseq.out _) hKR (fun k h => by have := hR k h; omega) (fun _ => rfl)
    (fun D pre A => ∃ v, Boxed A w.heap.size 22 v ∧ A.ownsRow D 9 1 v pre.length (pre.map Value.string) ∧ Keeps (fun k => k < w.heap.size) w A)
    (fun _ _ _ _ => False)
    (fun D pre A A' h k => by obtain ⟨v, h1, h2, h3⟩ := h; exact ⟨v, k.boxed h1 (by omega), k.ownsRow h2 (fun _ h => by omega), h3.trans (k.mono fun _ _ h => by omega)⟩)
    (fun _ _ _ _ _ h _ => h)
    (fun D W _ _ h => ⟨_, h.boxed hB (by omega), World.ownsRow_nil _ _ _ _, (hK.keeps.mono fun _ _ _ => trivial).trans (h.mono fun _ _ h => by omega)⟩)
    (fun _ x a' _ => a' = { tmps := #[.slice none 0 0, .func (.func gf) #[] lb, .pointer (some ⟨w.heap.size, 0, none⟩), undef, .slice none 0 0, .string x, .func (.func gf) #[] lb, .string x, undef, undef, undef, undef, undef], defers := [] })
    (fun _ _ _ _ _ h _ => h) ?assign ?body ?done ?stop
  case assign =>
    intro l D x W K _ hK
    gi_wp2
    exact hK _ _ (Keeps.refl _ _) (by simp)
  case body =>
    rintro l D pre x rest a' W hx hD hDW ⟨r, hr⟩ ⟨v, hb, hown, hk⟩ rfl
    have hown2 := hown.alloc (.cells #[.string x] 9)
    have hle : pre.length + 1 ≤ 4294967296 := by
      have : xs.length = pre.length + (rest.length + 1) := by rw [hx]; simp
      omega
    have hc := hb.cell
    have hf := hb.frozen
    have Hb := Lib.hid hb; clear hb
    have Hk := Lib.hid hk; clear hk
    have Hx := Lib.hid hx; clear hx
    have Hown := Lib.hid hown; clear hown
    have hDW2 : D ≤ (W.alloc (.cells #[.string x] 9)).heap.size := by simp; omega
    gi_wp2_with (gi_at_builtin; refine wpListIn_append_own _ rfl _ _ 22 rfl D 9 i0 (.string ⟨#[]⟩) 1 16 Try.underlying22 hi hz0 hz1 hz2 rfl (by decide) _ _ _ rfl hown2 ⟨W.heap.size, 0, none⟩ 1 1 [.string x] rfl rfl ?c1 ?c2 ?c3 ?c4 ?c5 ?_)
    case c1 =>
      intro j u hj
      match j, hj with
      | 0, hj => simp at hj; subst hj; simp [Addr.add]
    case c2 => intro u hu; simp at hu; subst hu; rfl
    case c3 => unfold maxLen; omega
    case c4 => omega
    case c5 => exact hDW2
    intro v1 w3 hown' hgrow _
    obtain ⟨ao', cap', hv1⟩ := ownsRow_slice hown'
    subst hv1
    have hrow := hown2.lt
    have hk3 : ∀ K : Nat → Prop, (∀ k, K k → k < D) → Keeps K W w3 := fun K hK => ((Keeps.refl K W).alloc _).grown hgrow (fun k e h => by have := (hrow k e).1; have := hK k h; omega)
    have hb3 := (hk3 (fun k => k < D) (fun _ h => h)).boxed Hb.out (by omega)
    have hc3 := hb3.cell
    have hf3 := hb3.frozen
    have Hb3 := Lib.hid hb3
    have Hown' := Lib.hid hown'
    have Hk3 := Lib.hid hk3
    clear hb3 hown' hgrow hrow hown2 hk3 hc hf hDW2
    gi_wp2
    have hset : ∀ K : Nat → Prop, ¬ K w.heap.size → Keeps K w3 (w3.setCell ⟨w.heap.size, 0, none⟩ (Value.slice ao' (pre.length + 1) cap')) := fun K hK => (Keeps.refl K w3).setCell (p := ⟨w.heap.size, 0, none⟩) hK _
    have hr1 : ∀ k, (R k ∨ (w2.heap.size ≤ k ∧ k < D)) → k < D ∧ k ≠ w.heap.size := fun k h => h.elim (fun h => by have := hR k h; omega) (fun h => by omega)
    refine ⟨((Hk3.out _ (fun k h => (hr1 k h).1)).trans (hset _ (fun h => (hr1 _ h).2 rfl))), _, Hb3.out.set _, ?_, ?_⟩
    · have := (hset (fun k => k ≠ w.heap.size) (fun h => h rfl)).ownsRow Hown'.out (fun k h => by omega)
      simpa using this
    · exact Hk.out.trans ((Hk3.out (fun k => k < w.heap.size) (fun k h => by omega)).trans (hset _ (by omega)))
  case done =>
    rintro D W hD hDW ⟨v, hb, hown, hk⟩ hd
    have hc := hb.cell
    have Hb := Lib.hid hb; clear hb
    have Hk := Lib.hid hk; clear hk
    have Hd := Lib.hid hd; clear hd
    have Hown := Lib.hid hown; clear hown
    gi_wp2
    refine ⟨by simp, .inl ⟨_, _, rfl, run_takeDeferred Hd.out, ?_⟩⟩
    have hp : Keeps (fun k => k ≠ w2.heap.size) W (W.putObj w2.heap.size (.deferred none)) := (Keeps.refl _ W).putObj (by simp) _
    exact ⟨_, results_tmp rfl _ _ _, v, rfl, ownsRow_mono (hp.ownsRow Hown.out (fun _ h => by omega)) (by omega), (Hk.out.putObj (by omega) _).ext (fun _ h => h)⟩
  case stop =>
    rintro c D pre x rest W _ _ _ h
    exact h.elim

set_option maxRecDepth 100000 in
set_option maxHeartbeats 1000000 in
theorem Collect_any (gf : Nat) (lb : Array Value) (R : Nat → Prop) (xs : List ByteArray) (w0 w : World) (eg : ∀ args w, (callFunc gf args).run Try.prog w = .ok (.enter gf args) w)
    (hseq : ∀ n, SeqX Fence.wide n Try.prog gf lb (fun x : ByteArray => #[Value.string x]) xs R w0) (hb0 : Keeps R w0 w) (hR : ∀ k, R k → k < w.heap.size) (hlen : xs.length ≤ 4294967296) :
    Calls Try.prog 84 #[.func (.func gf) #[] lb] w fun e w' => ∃ v, e = .returned v ∧ w'.ownsRow w.heap.size 9 1 v xs.length (xs.map Value.string) ∧ Ext w w' := by
  have CA := Lib.hid (AppendSeq_any gf lb R xs w0 w eg hseq hb0 hR hlen)
  clear eg hseq hb0 hR
  go_enter Try.func84, Try.ntmps84
  go_wp2_with fail
  refine CA.out.mono ?_
  rintro e w2 ⟨v, rfl, hown, hx⟩
  have Hown := Lib.hid hown; clear hown
  have HX := Lib.hid hx; clear hx
  go_wp2
  go_ret
  exact ⟨_, rfl, Hown.out, HX.out⟩

end Go.Proofs.Yteoelhhkdfmaiaa

/- What slices.Reverse does with a row of strings that its caller owns. Conditions: that row. -/
namespace Go.Proofs.Yteoelhhkdfmaiaa
open Go Go.RowKit Go.Shelf

def swapped (ys : List ByteArray) (i j : Nat) : List ByteArray := (ys.set i (ys[j]?.getD ⟨#[]⟩)).set j (ys[i]?.getD ⟨#[]⟩)
theorem swapped_len (ys : List ByteArray) (i j : Nat) : (swapped ys i j).length = ys.length := by simp [swapped]
theorem swapped_at (ys : List ByteArray) {i j : Nat} (hi : i < ys.length) (hj : j < ys.length) (k : Nat) :
    (swapped ys i j)[k]? = if k = j then ys[i]? else if k = i then ys[j]? else ys[k]? := by
  have e1 : some (ys[i]?.getD ⟨#[]⟩) = ys[i]? := by rw [List.getElem?_eq_getElem hi]; rfl
  have e2 : some (ys[j]?.getD ⟨#[]⟩) = ys[j]? := by rw [List.getElem?_eq_getElem hj]; rfl
  unfold swapped
  by_cases h1 : k = j
  · subst h1
    rw [if_pos rfl, List.getElem?_set_self (by simpa using hj), e1]
  · rw [if_neg h1, List.getElem?_set_ne (fun h => h1 h.symm)]
    by_cases h2 : k = i
    · subst h2
      rw [if_pos rfl, List.getElem?_set_self hi, e2]
    · rw [if_neg h2, List.getElem?_set_ne (fun h => h2 h.symm)]

set_option maxRecDepth 100000 in
set_option maxHeartbeats 4000000 in
theorem Reverse_any (base : Nat) (v : Value) (xs : List ByteArray) (w : World) (h : w.ownsRow base 9 1 v xs.length (xs.map Value.string)) (hlen : xs.length ≤ 4294967296) :
    Calls Try.prog 85 #[v] w fun e w' => (∃ u, e = .returned u) ∧ w'.ownsRow base 9 1 v xs.length (xs.reverse.map Value.string) ∧ Keeps (fun k => k < base) w w' := by
  obtain ⟨ao, cap, rfl⟩ := ownsRow_slice h
  obtain ⟨n, hn⟩ : ∃ n, xs.length = n := ⟨_, rfl⟩
  rw [hn] at h hlen ⊢
  have H := Lib.hid h; clear h
  have Hn := Lib.hid hn; clear hn
  have hmx : Try.prog.follows .mixedOrders = true := by kernel_rfl
  have q1 : IntKind.i64.wrap ((n : Int) - 1) = (n : Int) - 1 := IntWalk.i64_in _ (by omega)
  go_enter Try.func85, Try.ntmps85
  go_wp2_with fail
  go_loopw [2, 3] (fun s2 s3 wr => ∃ (i : Nat) (ys : List ByteArray), s2 = .int .i64 (i : Int) ∧ s3 = .int .i64 ((n : Int) - 1 - (i : Int)) ∧ ys.length = n ∧ wr.ownsRow base 9 1 (.slice ao n cap) n (ys.map Value.string) ∧
      Keeps (fun k => k < base) w wr ∧ i ≤ n ∧ ∀ k, k < n → ys[k]? = if k < i ∨ n ≤ k + i then xs[n - 1 - k]? else xs[k]?)
    (fun s2 _ _ => n - (intOf s2).toNat)
  case atStart => exact ⟨0, xs, rfl, by simp, Hn.out, H.out, Keeps.refl _ _, Nat.zero_le _, fun k hk => by rw [if_neg (by omega)]⟩
  case round =>
    obtain ⟨i, ys, rfl, rfl, hyl, hown, hk, hin, hys⟩ := hrel
    by_cases hlt : (i : Int) < (n : Int) - 1 - (i : Int)
    · obtain ⟨j, hj⟩ : ∃ j : Nat, (n : Int) - 1 - (i : Int) = (j : Int) := ⟨n - 1 - i, by omega⟩
      rw [hj] at hlt ⊢
      obtain ⟨g, rfl⟩ : ∃ g, ao = some ⟨g, 0, none⟩ := by
        rcases hown.2 with ⟨h1, _⟩ | ⟨g, _, _, h1, _⟩
        · cases h1; omega
        · cases h1; exact ⟨_, rfl⟩
      have hg : base ≤ g := (hown.lt g rfl).1
      obtain ⟨x, hx⟩ : ∃ x, ys[i]?.getD ⟨#[]⟩ = x := ⟨_, rfl⟩
      obtain ⟨y, hy⟩ : ∃ y, ys[j]?.getD ⟨#[]⟩ = y := ⟨_, rfl⟩
      have ci := hown.cellAt i (by omega)
      have cj := hown.cellAt j (by omega)
      have fi := hown.frozenAt i
      have fj := hown.frozenAt j
      rw [List.getElem?_map, List.getElem?_eq_getElem (by omega), Option.map_some] at ci cj
      rw [List.getElem?_eq_getElem (by omega), Option.getD_some] at hx hy
      rw [hx] at ci
      rw [hy] at cj
      have q2 : IntKind.i64.wrap ((i : Int) + 1) = ((i + 1 : Nat) : Int) := by rw [IntWalk.i64_in _ (by omega)]; rfl
      have q3 : IntKind.i64.wrap ((j : Int) - 1) = (j : Int) - 1 := IntWalk.i64_in _ (by omega)
      have hst := (hown.stored i (.string y)).1.stored j (.string x)
      have hsw : ((ys.map Value.string).set i (.string y)).set j (.string x) = (swapped ys i j).map Value.string := by
        rw [swapped, List.getElem?_eq_getElem (show i < ys.length by omega), List.getElem?_eq_getElem (show j < ys.length by omega), Option.getD_some, Option.getD_some, hx, hy]
        simp [List.map_set]
      rw [hsw] at hst
      have Hst := Lib.hid hst.1
      have Hk := Lib.hid ((hk.setCell (p := ⟨g, i, none⟩) (by simp; omega) (.string y)).setCell (p := ⟨g, j, none⟩) (by simp; omega) (.string x))
      have Hys := Lib.hid hys
      have Hyl := Lib.hid hyl
      have Hown := Lib.hid hown
      have Hj := Lib.hid hj
      clear hst hsw hk hys hyl hx hy hown
      go_wp2_with fail
      go_region_o
      go_wp2
      go_roundw
      case rel =>
        refine ⟨i + 1, swapped ys i j, by simp, ?_, by rw [swapped_len]; exact Hyl.out, Hst.out.drew, Hk.out.drew, by omega, ?_⟩
        · have := Hj.out
          rw [show (n : Int) - 1 - ((i + 1 : Nat) : Int) = (j : Int) - 1 by omega]
        · intro k hkn
          have hj' := Hj.out
          have hyl := Hyl.out
          rw [swapped_at ys (show i < ys.length by omega) (show j < ys.length by omega) k, Hys.out k hkn, Hys.out i (by omega), Hys.out j (by omega)]
          by_cases h1 : k = j
          · rw [if_pos h1, if_neg (by omega), if_pos (by omega), show n - 1 - k = i by omega]
          · rw [if_neg h1]
            by_cases h2 : k = i
            · rw [if_pos h2, if_neg (by omega), if_pos (by omega), show n - 1 - k = j by omega]
            · rw [if_neg h2]
              by_cases h3 : k < i ∨ n ≤ k + i
              · rw [if_pos h3, if_pos (by omega)]
              · rw [if_neg h3, if_neg (by omega)]
      case measure => simp [intOf]; omega
    · have hn1 : decide ((i : Int) < (n : Int) - 1 - (i : Int)) = false := decide_eq_false hlt
      have Hk := Lib.hid hk
      have Hown := Lib.hid hown
      have Hys := Lib.hid hys
      clear hk hown hys
      go_wp2
      go_end0
      refine ⟨⟨_, rfl⟩, ?_, Hk.out⟩
      have : ys = xs.reverse := by
        apply List.ext_getElem?
        intro k
        by_cases hkn : k < n
        · rw [Hys.out k hkn, List.getElem?_reverse (by rw [Hn.out]; exact hkn), Hn.out]
          split
          · rfl
          · rw [show n - 1 - k = k by omega]
        · rw [List.getElem?_eq_none (by omega), List.getElem?_eq_none (by rw [List.length_reverse, Hn.out]; omega)]
      have h2 := Hown.out
      rw [this] at h2
      simpa using h2

end Go.Proofs.Yteoelhhkdfmaiaa

/- What walk's place and Less do, and the library's comparison of two lists of strings. Conditions: names' texts; slices that hold the strings. -/
namespace Go.Proofs.Yteoelhhkdfmaiaa
open Go Go.RowKit Go.Shelf

def cmpS (x y : ByteArray) : Int := if Op.bytesLess x.toList y.toList = true then -1 else if (Op.bytesLess x.toList y.toList || x.toList == y.toList) = true then 0 else 1
def cmpL : List ByteArray → List ByteArray → Int
  | [], [] => 0
  | [], _ :: _ => -1
  | _ :: _, [] => 1
  | x :: xs, y :: ys => if cmpS x y = 0 then cmpL xs ys else cmpS x y

set_option maxRecDepth 100000 in
set_option maxHeartbeats 1000000 in
theorem cmpS_any (x y : ByteArray) (w : World) :
    Calls Try.prog 87 #[.string x, .string y] w fun e w' => e = .returned (.int .i64 (cmpS x y)) ∧ Ext w w' := by
  have hx : (x.toList == x.toList) = true := by simp
  have hy : (y.toList == y.toList) = true := by simp
  cases hl : Op.bytesLess x.toList y.toList with
  | true =>
    have hc : cmpS x y = -1 := by rw [cmpS, if_pos hl]
    rw [hc]
    go_enter Try.func87, Try.ntmps87
    go_wp2
    go_ret
    exact ⟨rfl, Ext.refl _⟩
  | false =>
    cases he : (x.toList == y.toList) with
    | true =>
      have hc : cmpS x y = 0 := by rw [cmpS, hl, he]; rfl
      rw [hc]
      go_enter Try.func87, Try.ntmps87
      go_wp2
      go_ret
      exact ⟨rfl, Ext.refl _⟩
    | false =>
      have hc : cmpS x y = 1 := by rw [cmpS, hl, he]; rfl
      rw [hc]
      go_enter Try.func87, Try.ntmps87
      go_wp2
      go_ret
      exact ⟨rfl, Ext.refl _⟩

set_option maxRecDepth 100000 in
set_option maxHeartbeats 4000000 in
theorem Compare_any (u v : Value) (xs ys : List ByteArray) (w : World) (hu : Strs w u xs) (hv : Strs w v ys) (ha : xs.length ≤ 140737488355328) :
    Calls Try.prog 51 #[u, v] w fun e w' => e = .returned (.int .i64 (cmpL xs ys)) ∧ Ext w w' := by
  obtain ⟨ao, cap, rfl, hu2⟩ := hu.open
  obtain ⟨bo, cap2, rfl, hv2⟩ := hv.open
  have Hu := Lib.hid hu2; clear hu2 hu
  have Hv := Lib.hid hv2; clear hv2 hv
  have HC := Lib.hid cmpS_any
  go_enter Try.func51, Try.ntmps51
  go_wp2_with fail
  go_loopw [11] (fun i wr => ∃ k : Nat, k ≤ xs.length ∧ k ≤ ys.length ∧ i = .int .i64 k ∧ cmpL xs ys = cmpL (xs.drop k) (ys.drop k) ∧ Ext w wr)
    (fun i _ => xs.length - (intOf i).toNat)
  case atStart => exact ⟨0, Nat.zero_le _, Nat.zero_le _, rfl, rfl, Ext.refl _⟩
  case round =>
    obtain ⟨k, hk, hk2, rfl, heq, hx⟩ := hrel
    have HX := Lib.hid hx; clear hx
    by_cases hlt : k < xs.length
    · by_cases hlt2 : k < ys.length
      · obtain ⟨b, off, rfl, hc⟩ := Hu.out k hlt
        obtain ⟨b2, off2, rfl, hc2⟩ := Hv.out k hlt2
        replace hc := HX.out.keeps.cell hc trivial
        replace hc2 := HX.out.keeps.cell hc2 trivial
        rw [List.getElem?_eq_getElem hlt, Option.getD_some] at hc
        rw [List.getElem?_eq_getElem hlt2, Option.getD_some] at hc2
        rw [List.drop_eq_getElem_cons hlt, List.drop_eq_getElem_cons hlt2, cmpL] at heq
        obtain ⟨x, hx⟩ : ∃ x, xs[k] = x := ⟨_, rfl⟩
        obtain ⟨y, hy⟩ : ∃ y, ys[k] = y := ⟨_, rfl⟩
        rw [hx] at hc heq
        rw [hy] at hc2 heq
        have HR := Lib.hid fun W => HC.out x y W
        have Heq := Lib.hid heq
        obtain ⟨c, hcc⟩ : ∃ c, cmpS x y = c := ⟨_, rfl⟩
        rw [hcc] at HR Heq
        clear heq hx hy hcc
        by_cases hc0 : c = 0
        · subst hc0
          have Heq' : Hid (cmpL xs ys = cmpL (xs.drop (k + 1)) (ys.drop (k + 1))) := Lib.hid (by rw [Heq.out, if_pos rfl])
          go_wp2_with (first
            | ((with_reducible refine (HR.out _).mono ?_); rintro e w' ⟨rfl, hx⟩; have HX := Lib.hid (HX.out.trans hx); clear hx))
          go_roundw
          case rel => exact ⟨k + 1, by omega, by omega, by simp, Heq'.out, HX.out⟩
          case measure => simp [intOf]; omega
        · have hcb : (c == 0) = false := beq_eq_false_iff_ne.2 hc0
          have Heq' : Hid (cmpL xs ys = c) := Lib.hid (by rw [Heq.out, if_neg hc0])
          go_wp2_with (first
            | ((with_reducible refine (HR.out _).mono ?_); rintro e w' ⟨rfl, hx⟩; have HX := Lib.hid (HX.out.trans hx); clear hx))
          go_ret
          exact ⟨by rw [Heq'.out]; rfl, HX.out⟩
      · obtain rfl : k = ys.length := by omega
        obtain ⟨b, off, rfl, hc⟩ := Hu.out _ hlt
        replace hc := HX.out.keeps.cell hc trivial
        have Heq' : Hid (cmpL xs ys = 1) := Lib.hid (by rw [heq, List.drop_eq_getElem_cons hlt, List.drop_length]; rfl)
        clear heq
        go_wp2
        go_ret
        exact ⟨by rw [Heq'.out]; rfl, HX.out⟩
    · obtain rfl : k = xs.length := by omega
      by_cases hlt2 : xs.length < ys.length
      · have Heq' : Hid (cmpL xs ys = -1) := Lib.hid (by rw [heq, List.drop_eq_getElem_cons hlt2, List.drop_length]; rfl)
        clear heq
        go_wp2
        go_ret
        exact ⟨by rw [Heq'.out]; rfl, HX.out⟩
      · have hle : xs.length = ys.length := by omega
        have Heq' : Hid (cmpL xs ys = 0) := Lib.hid (by rw [heq, List.drop_length, hle, List.drop_length]; rfl)
        clear heq
        go_wp2
        go_ret
        exact ⟨by rw [Heq'.out]; rfl, HX.out⟩

def placeB (n : ByteArray) : List ByteArray := (labelsB (foldS n)).reverse

set_option maxRecDepth 100000 in
set_option maxHeartbeats 4000000 in
theorem place_any (n : ByteArray) (w : World) (hs : n.size ≤ 255) :
    Calls Try.prog 48 #[.string n] w fun e w' => ∃ v, e = .returned v ∧ w'.ownsRow w.heap.size 9 1 v (placeB n).length ((placeB n).map Value.string) ∧ Ext w w' := by
  have hfs : (foldS n).size = n.size := size_foldS n
  have hlen := labelsB_length (foldS n)
  have CF := Lib.hid fun W => Fold_any n W (by unfold maxLen; omega)
  go_enter Try.func48, Try.ntmps48
  go_wp2_with fail
  refine (CF.out _).mono ?_
  rintro e w1 ⟨rfl, hx1⟩
  have HX1 : Hid (Ext w w1) := Lib.hid hx1; clear hx1 CF
  go_wp2_with fail
  refine (Labels_any _ _).mono ?_
  rintro e w2 ⟨rfl, rfl⟩
  have hb : (w1.alloc (.cells #[.string (foldS n)] 9)).cell? ⟨w1.heap.size, 0, none⟩ = some (.string (foldS n)) := (Boxed.new w1 9 _).cell
  have HCo := Lib.hid (Collect_any 101 #[.pointer (some ⟨w1.heap.size, 0, none⟩)] (fun k => k = w1.heap.size) (labelsB (foldS n)) (w1.alloc (.cells #[.string (foldS n)] 9)) (w1.alloc (.cells #[.string (foldS n)] 9))
    (enters_of Try.func101 (by kernel_rfl) rfl) (fun m => labels1_seq m w1.heap.size (foldS n) (by unfold maxLen; omega) _ hb) (Keeps.refl _ _) (fun k h => by subst h; simp) (by omega))
  have HX2 : Hid (Ext w (w1.alloc (.cells #[.string (foldS n)] 9))) := Lib.hid (HX1.out.alloc _)
  clear hb HX1
  generalize w1.alloc (.cells #[.string (foldS n)] 9) = w2 at HCo HX2 ⊢
  go_wp2_with fail
  refine HCo.out.mono ?_
  rintro e w3 ⟨v, rfl, hown, hx3⟩
  have HX3 : Hid (Ext w w3) := Lib.hid (HX2.out.trans hx3)
  have hbase := HX2.out.size
  have HR := Lib.hid (Reverse_any w2.heap.size v (labelsB (foldS n)) w3 hown (by omega))
  clear HCo hown hx3
  go_wp2_with fail
  refine HR.out.mono ?_
  rintro e w4 ⟨⟨u, rfl⟩, hown4, hk4⟩
  have Hown4 := Lib.hid hown4
  have HX4 : Hid (Ext w w4) := Lib.hid (((HX3.out.keeps.mono (K' := fun k => k < w.heap.size) fun _ _ _ => trivial).trans (hk4.mono fun k _ h => by omega)).ext fun _ h => h)
  clear hown4 hk4 HR HX3
  go_wp2
  go_ret
  refine ⟨_, rfl, ownsRow_mono ?_ hbase, HX4.out⟩
  rw [placeB, List.length_reverse]
  exact Hown4.out

end Go.Proofs.Yteoelhhkdfmaiaa

/- What walk's Less does. Conditions: strings that Go can hold. -/
namespace Go.Proofs.Yteoelhhkdfmaiaa
open Go Go.RowKit Go.Shelf

def lessB (a b : ByteArray) : Bool := isName a && isName b && decide (cmpL (placeB a) (placeB b) < 0)

theorem name_le {a : ByteArray} (h : isName a = true) : a.size ≤ 255 := by
  obtain ⟨ls, hr⟩ := rep_of_name h
  exact hr.len
theorem placeB_len (a : ByteArray) : (placeB a).length ≤ a.size := by
  rw [placeB, List.length_reverse]
  have := labelsB_length (foldS a)
  rw [size_foldS] at this
  exact this

set_option maxRecDepth 100000 in
set_option maxHeartbeats 4000000 in
theorem Less_any (a b : ByteArray) (w : World) (ha : a.size ≤ maxLen) (hb : b.size ≤ maxLen) :
    Calls Try.prog 29 #[.string a, .string b] w fun e w' => e = .returned (.bool (lessB a b)) ∧ Ext w w' := by
  have CA := Lib.hid fun W => Check_any a W ha
  have CB := Lib.hid fun W => Check_any b W hb
  have HX := Lib.hid (Ext.refl w)
  cases hna : isName a with
  | false =>
    rw [chk_none hna] at CA
    rw [show lessB a b = false by rw [lessB, hna]; rfl]
    clear CB hna
    go_enter Try.func29, Try.ntmps29
    go_wp2_with (first
      | ((with_reducible refine (CA.out _).mono ?_); rintro e w' ⟨rfl, hx⟩; have HX := Lib.hid (HX.out.trans hx); clear hx))
    go_ret
    exact ⟨rfl, HX.out⟩
  | true =>
    cases hnb : isName b with
    | false =>
      rw [chk_name hna] at CA
      rw [chk_none hnb] at CB
      rw [show lessB a b = false by rw [lessB, hna, hnb]; rfl]
      clear hna hnb
      go_enter Try.func29, Try.ntmps29
      go_wp2_with (first
        | ((with_reducible refine (CA.out _).mono ?_); rintro e w' ⟨rfl, hx⟩; have HX := Lib.hid (HX.out.trans hx); clear hx)
        | ((with_reducible refine (CB.out _).mono ?_); rintro e w' ⟨rfl, hx⟩; have HX := Lib.hid (HX.out.trans hx); clear hx))
      go_ret
      exact ⟨rfl, HX.out⟩
    | true =>
      rw [chk_name hna] at CA
      rw [chk_name hnb] at CB
      rw [show lessB a b = decide (cmpL (placeB a) (placeB b) < 0) by rw [lessB, hna, hnb]; rfl]
      have la := placeB_len a
      have lb := placeB_len b
      have sa := name_le hna
      have sb := name_le hnb
      have PA := Lib.hid fun W => place_any a W sa
      have PB := Lib.hid fun W => place_any b W sb
      clear hna hnb
      go_enter Try.func29, Try.ntmps29
      go_wp2_with (first
        | ((with_reducible refine (CA.out _).mono ?_); rintro e w' ⟨rfl, hx⟩; have HX := Lib.hid (HX.out.trans hx); clear hx)
        | ((with_reducible refine (CB.out _).mono ?_); rintro e w' ⟨rfl, hx⟩; have HX := Lib.hid (HX.out.trans hx); clear hx)
        | ((with_reducible refine (PA.out _).mono ?_); rintro e w3 ⟨v, rfl, hown, hx⟩; have HX := Lib.hid (HX.out.trans hx); have HV := Lib.hid (strs_of_row (ls := placeB a) (by simpa using hown)); clear hx hown)
        | ((with_reducible refine (PB.out _).mono ?_); rintro e w4 ⟨u, rfl, hown, hx⟩; have HV2 := Lib.hid (HV.out.ext hx); have HX := Lib.hid (HX.out.trans hx); have HU := Lib.hid (strs_of_row (ls := placeB b) (by simpa using hown)); clear hx hown))
      refine (Compare_any v u (placeB a) (placeB b) w4 HV2.out HU.out (by omega)).mono ?_
      rintro e w5 ⟨rfl, hx⟩
      have HX5 := Lib.hid (HX.out.trans hx)
      obtain ⟨c, hc⟩ : ∃ c, cmpL (placeB a) (placeB b) = c := ⟨_, rfl⟩
      rw [hc]
      have Hc := Lib.hid hc
      clear hx hc
      go_wp2
      go_ret
      exact ⟨by rw [Hc.out]; rfl, HX5.out⟩

end Go.Proofs.Yteoelhhkdfmaiaa
