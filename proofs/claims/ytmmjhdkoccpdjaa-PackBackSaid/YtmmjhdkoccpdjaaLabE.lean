/- What label's Count and Parent do. Conditions: strings that Go can hold. -/
import Derived.Test.YtmmjhdkoccpdjaaLabD
namespace Go.Proofs.Ytmmjhdkoccpdjaa
open Go Go.RowKit Go.Shelf
attribute [local go_sem] Oper.semAt_some wide_fn wide_depth

set_option maxRecDepth 100000 in
set_option maxHeartbeats 2000000 in
theorem Count_any (s : ByteArray) (w : World) (hs : s.size ≤ maxLen) :
    Calls Try.prog 17 #[.string s] w fun e w' => e = .returned (.int .i64 (labelsB s).length) ∧ Ext w w' := by
  have hlen := labelsB_length s
  refine (callsIn_wide (n := 9)).1 ?_
  refine callsIn_of_wp_marks Try.func17 rfl trivial ?_ rfl
  simp only [Try.ntmps17, List.size_toArray, List.length_cons, List.length_nil, Nat.reduceAdd, Nat.reduceSub, Array.replicate_succ, Array.replicate_zero, List.push_toArray, List.append_toArray, List.nil_append, List.cons_append]
  gi_wp2_with (gi_at_call 75; refine (callsIn_wide.2 (Labels_any _ _)).mono ?_; rintro e w' ⟨rfl, rfl⟩)
  have hB : Boxed ((w.alloc (.cells #[.int .i64 0] 3)).alloc (.cells #[.string s] 9)) w.heap.size 3 (.int .i64 0) := (Boxed.new w 3 _).alloc _
  have hN : Boxed ((w.alloc (.cells #[.int .i64 0] 3)).alloc (.cells #[.string s] 9)) (w.heap.size + 1) 9 (.string s) := by have := Boxed.new (w.alloc (.cells #[.int .i64 0] 3)) 9 (.string s); simpa using this
  have hK : Ext w ((w.alloc (.cells #[.int .i64 0] 3)).alloc (.cells #[.string s] 9)) := ((Ext.refl _).alloc _).alloc _
  have hz : ((w.alloc (.cells #[.int .i64 0] 3)).alloc (.cells #[.string s] 9)).heap.size = w.heap.size + 2 := by simp
  generalize (w.alloc (.cells #[.int .i64 0] 3)).alloc (.cells #[.string s] 9) = w2 at hB hN hK hz ⊢
  refine wpIn_rangeX rfl wide_room (gf := 114) (lb := #[.pointer (some ⟨w.heap.size + 1, 0, none⟩)]) rfl trivial (enters_of Try.func114 (by kernel_rfl) rfl)
    (labels1_seq _ _ s hs w2 hN.cell) (Keeps.refl _ _) (fun k h => by rw [hz]; subst h; omega) (fun _ => rfl)
    (fun _ pre W => Boxed W w.heap.size 3 (.int .i64 (pre.length : Nat)) ∧ Keeps (fun k => k < w.heap.size) w W)
    (fun _ _ _ _ => False)
    (fun D pre A A' h k => ⟨k.boxed h.1 (by omega), h.2.trans (k.mono fun _ _ h => by omega)⟩)
    (fun _ _ _ _ _ h _ => h)
    (fun D W _ _ h => ⟨h.boxed hB (by omega), (hK.keeps.mono fun _ _ _ => trivial).trans (h.mono fun _ _ h => by omega)⟩)
    (fun _ x a' _ => a' = { tmps := #[.string s, undef, .int .i64 0, .pointer (some { block := w.heap.size, off := 0 }), .string s, .func (.func 114) #[] #[.pointer (some { block := w.heap.size + 1, off := 0 })], .string x, undef, undef, undef], defers := [] })
    (fun _ _ _ _ _ h _ => h) ?assign ?body ?done ?stop
  case assign =>
    intro l D x W K _ hK
    gi_wp2
    exact hK _ _ (Keeps.refl _ _) (by simp)
  case body =>
    rintro l D pre x rest a' W hx hD hDW ⟨r, hr⟩ ⟨hb, hk⟩ rfl
    have hle : (pre.length : Int) ≤ 9223372036854775806 := by
      have : (labelsB s).length = pre.length + (rest.length + 1) := by rw [hx]; simp
      unfold maxLen at hs; omega
    have hc := hb.cell
    have hf := hb.frozen
    have Hb := Lib.hid hb; clear hb
    have Hk := Lib.hid hk; clear hk
    have Hx := Lib.hid hx; clear hx
    clear hlen
    gi_wp2
    exact ⟨(Keeps.refl _ _).setCell (p := ⟨w.heap.size, 0, none⟩) (by simp; omega) _, by simpa using Hb.out.set (.int .i64 (pre.length + 1)), Hk.out.setCell (p := ⟨w.heap.size, 0, none⟩) (by simp) _⟩
  case done =>
    rintro D W hD hDW ⟨hb, hk⟩ hd
    have hc := hb.cell
    have Hb := Lib.hid hb; clear hb
    have Hk := Lib.hid hk; clear hk
    have Hd := Lib.hid hd; clear hd
    clear hlen
    gi_wp2
    refine ⟨by simp, .inl ⟨_, _, rfl, run_takeDeferred Hd.out, ?_⟩⟩
    exact ⟨_, results_tmp rfl _ _ _, rfl, (Hk.out.putObj (by omega) _).ext (fun _ h => h)⟩
  case stop =>
    rintro c D pre x rest W _ _ _ h
    exact h.elim

set_option maxRecDepth 100000 in
set_option maxHeartbeats 2000000 in
theorem Parent_any (s : ByteArray) (w : World) (hs : s.size ≤ maxLen) :
    Calls Try.prog 16 #[.string s] w fun e w' => e = .returned (.tuple #[.string (parentR s).1, .int .i64 (parentR s).2]) ∧ Ext w w' := by
  refine (callsIn_wide (n := 9)).1 ?_
  refine callsIn_of_wp_marks Try.func16 rfl trivial ?_ rfl
  simp only [Try.ntmps16, List.size_toArray, List.length_cons, List.length_nil, Nat.reduceAdd, Nat.reduceSub, Array.replicate_succ, Array.replicate_zero, List.push_toArray, List.append_toArray, List.nil_append, List.cons_append]
  gi_wp2_with fail
  obtain ⟨w0, hw0⟩ : ∃ w0, ((w.alloc (.cells #[.string s] 9)).alloc (.cells #[.string ⟨#[]⟩] 9)).alloc (.cells #[.int .i64 0] 23) = w0 := ⟨_, rfl⟩
  have hN0 : Boxed w0 w.heap.size 9 (.string s) := by rw [← hw0]; exact ((Boxed.new w 9 _).alloc _).alloc _
  have hS0 : Boxed w0 (w.heap.size + 1) 9 (.string ⟨#[]⟩) := by
    rw [← hw0]; have := (Boxed.new (w.alloc (.cells #[.string s] 9)) 9 (.string ⟨#[]⟩)).alloc (.cells #[.int .i64 0] 23); simpa using this
  have hE0 : Boxed w0 (w.heap.size + 1 + 1) 23 (.int .i64 0) := by
    rw [← hw0]; have := Boxed.new ((w.alloc (.cells #[.string s] 9)).alloc (.cells #[.string ⟨#[]⟩] 9)) 23 (.int .i64 0); simpa using this
  have hX0 : Ext w w0 := by rw [← hw0]; exact (((Ext.refl _).alloc _).alloc _).alloc _
  rw [hw0]
  clear hw0
  refine (callsIn_wide.2 (Check_any s _ hs)).mono ?_
  rintro e w1 ⟨rfl, hx1⟩
  have hX1 : Ext w w1 := hX0.trans hx1
  have hN1 := (Ext.keeps hx1).boxed hN0 trivial
  have hS1 := (Ext.keeps hx1).boxed hS0 trivial
  have hE1 := (Ext.keeps hx1).boxed hE0 trivial
  clear hN0 hS0 hE0 hx1 hX0
  have Hs := Lib.hid hs; clear hs
  have hcN := hN1.cell
  have hcS := hS1.cell
  have hfS := hS1.frozen
  have hcE := hE1.cell
  have hfE := hE1.frozen
  have HX1 := Lib.hid hX1; clear hX1
  have HN1 := Lib.hid hN1; clear hN1
  have HS1 := Lib.hid hS1; clear hS1
  have HE1 := Lib.hid hE1; clear hE1
  cases hn : isName s with
  | false =>
    rw [show chk s = 2 from by simp [chk, hn]]
    have Hn := Lib.hid hn; clear hn
    gi_wp2
    obtain ⟨hr1, hr2⟩ := boxed_set2 HS1.out HE1.out (by omega) (.string ⟨#[]⟩) (.int .i64 2)
    refine ⟨.tuple #[.string ⟨#[]⟩, .int .i64 2], ?_, by simp [parentR, Hn.out], ?_⟩
    · simp [results, Try.f16, go_sem, hr1.cell, hr2.cell]
    · exact ((HX1.out.keeps.mono (K' := fun k => k < w.heap.size) (fun _ _ _ => trivial)).set2 (by omega) (by omega) _ _).ext (fun _ h => h)
  | true =>
    rw [show chk s = 0 from by simp [chk, hn]]
    have Hn := Lib.hid hn; clear hn
    gi_wp2_with (gi_at_call 74; refine (callsIn_wide.2 (ends_any _ _)).mono ?_; rintro e w' ⟨rfl, rfl⟩)
    have hEN : Boxed (w1.alloc (.cells #[.string s] 9)) w1.heap.size 9 (.string s) := Boxed.new w1 9 _
    have hN2 := HN1.out.alloc (.cells #[.string s] 9)
    have hS2 := HS1.out.alloc (.cells #[.string s] 9)
    have hE2 := HE1.out.alloc (.cells #[.string s] 9)
    have hX2 := HX1.out.alloc (.cells #[.string s] 9)
    have hz2 : (w1.alloc (.cells #[.string s] 9)).heap.size = w1.heap.size + 1 := by simp
    have hlt := HE1.out.lt
    generalize w1.alloc (.cells #[.string s] 9) = w2 at hEN hN2 hS2 hE2 hX2 hz2 ⊢
    clear HN1 HS1 HE1 HX1 hcN hcS hfS hcE hfE
    refine wpIn_rangeX rfl wide_room (gf := 113) (lb := #[.pointer (some ⟨w1.heap.size, 0, none⟩)]) rfl trivial (enters_of Try.func113 (by kernel_rfl) rfl)
      (ends1_seq _ _ s Hs.out w2 hEN.cell) (Keeps.refl _ _) (fun k h => by rw [hz2]; subst h; omega) (fun _ => rfl)
      (fun _ pre A => pre = [] ∧ Boxed A w.heap.size 9 (.string s) ∧ Boxed A (w.heap.size + 1) 9 (.string ⟨#[]⟩) ∧ Boxed A (w.heap.size + 1 + 1) 23 (.int .i64 0) ∧ Keeps (fun k => k < w.heap.size) w A)
      (fun c _ pre A => c = Code.ret ∧ ∃ x, pre = [x] ∧ Boxed A (w.heap.size + 1) 9 (.string (s.extract x s.size)) ∧ Boxed A (w.heap.size + 1 + 1) 23 (.int .i64 0) ∧ Keeps (fun k => k < w.heap.size) w A)
      (fun D pre A A' h k => ⟨h.1, k.boxed h.2.1 (by omega), k.boxed h.2.2.1 (by omega), k.boxed h.2.2.2.1 (by omega), h.2.2.2.2.trans (k.mono fun _ _ h => by omega)⟩)
      (fun c D pre A A' h k => ⟨h.1, h.2.imp fun x h => ⟨h.1, k.boxed h.2.1 (by omega), k.boxed h.2.2.1 (by omega), h.2.2.2.trans (k.mono fun _ _ h => by omega)⟩⟩)
      (fun D W _ _ h => ⟨rfl, h.boxed hN2 (by omega), h.boxed hS2 (by omega), h.boxed hE2 (by omega), (hX2.keeps.mono fun _ _ _ => trivial).trans (h.mono fun _ _ h => by omega)⟩)
      (fun _ x a' _ => a' = { tmps := #[.string s, .pointer (some ⟨w.heap.size, 0, none⟩), .pointer (some ⟨w.heap.size + 1, 0, none⟩), .pointer (some ⟨w.heap.size + 1 + 1, 0, none⟩), .int .i64 x, .string s, .int .i64 0, .bool false, .string s, .func (.func 113) #[] #[.pointer (some ⟨w1.heap.size, 0, none⟩)], .int .i64 x, undef, undef, undef], defers := [] })
      (fun _ _ _ _ _ h _ => h) ?assign ?body ?done ?stop
    case assign =>
      intro l D x A K _ hK
      gi_wp2
      exact hK _ _ (Keeps.refl _ _) rfl
    case body =>
      rintro l D pre x rest a' A hx hD hDW ⟨r, hr⟩ ⟨rfl, hN, hS, hE, hk⟩ rfl
      have hxl := (endsE_chain s [] 0 x rest hx).2
      have hs' := Hs.out
      unfold maxLen at hs'
      have hcN := hN.cell
      have hcS := hS.cell
      have hfS := hS.frozen
      have hcE := hE.cell
      have hfE := hE.frozen
      have HN := Lib.hid hN; clear hN
      have HS := Lib.hid hS; clear hS
      have HE := Lib.hid hE; clear hE
      have Hk := Lib.hid hk; clear hk
      have Hx := Lib.hid hx; clear hx
      gi_wp2
      obtain ⟨h1, h2⟩ := boxed_set2 HS.out HE.out (by omega) (.string (s.extract x s.size)) (.int .i64 0)
      exact ⟨(Keeps.refl _ _).set2 (by omega) (by omega) _ _, rfl, x, rfl, h1, h2, Hk.out.set2 (by omega) (by omega) _ _⟩
    case done =>
      rintro D A hD hDW ⟨he, hN, hS, hE, hk⟩ hd
      have hcS := hS.cell
      have hfS := hS.frozen
      have hcE := hE.cell
      have hfE := hE.frozen
      have HS := Lib.hid hS; clear hS
      have HE := Lib.hid hE; clear hE
      have Hk := Lib.hid hk; clear hk
      have Hd := Lib.hid hd; clear hd
      have He := Lib.hid he; clear he
      gi_wp2
      obtain ⟨h1, h2⟩ := boxed_set2 HS.out HE.out (by omega) (.string ⟨#[]⟩) (.int .i64 3)
      have hd2 := ((Keeps.refl (fun k => k = w2.heap.size) A).set2 (A := w.heap.size + 1) (B := w.heap.size + 1 + 1) (by omega) (by omega) (.string ⟨#[]⟩) (.int .i64 3)).heap Hd.out rfl
      refine ⟨by simp, .inl ⟨_, _, rfl, run_takeDeferred hd2, ?_⟩⟩
      have hp := fun K (h : ¬ K w2.heap.size) => (Keeps.refl K ((A.setCell ⟨w.heap.size + 1, 0, none⟩ (.string ⟨#[]⟩)).setCell ⟨w.heap.size + 1 + 1, 0, none⟩ (.int .i64 3))).putObj h (.deferred none)
      have h1' := (hp (fun k => k < w2.heap.size) (by omega)).boxed h1 (by omega)
      have h2' := (hp (fun k => k < w2.heap.size) (by omega)).boxed h2 (by omega)
      refine ⟨.tuple #[.string ⟨#[]⟩, .int .i64 3], ?_, by simp [parentR, Hn.out, He.out], ?_⟩
      · simp [results, Try.f16, go_sem, h1'.cell, h2'.cell]
      · exact ((Hk.out.set2 (by omega) (by omega) _ _).trans (hp _ (by omega))).ext (fun _ h => h)
    case stop =>
      rintro c D pre x rest A hx hD hDW ⟨rfl, y, hy, hS, hE, hk⟩ hd
      have hcS := hS.cell
      have hcE := hE.cell
      have HS := Lib.hid hS; clear hS
      have HE := Lib.hid hE; clear hE
      have Hk := Lib.hid hk; clear hk
      have Hd := Lib.hid hd; clear hd
      have Hx := Lib.hid hx; clear hx
      have Hy := Lib.hid hy; clear hy
      gi_wp2
      refine ⟨by simp, .inl ⟨_, _, rfl, run_takeDeferred Hd.out, ?_⟩⟩
      have hp := fun K (h : ¬ K w2.heap.size) => (Keeps.refl K A).putObj h (.deferred none)
      have h1' := (hp (fun k => k < w2.heap.size) (by omega)).boxed HS.out (by omega)
      have h2' := (hp (fun k => k < w2.heap.size) (by omega)).boxed HE.out (by omega)
      obtain ⟨rfl, rfl⟩ : pre = [] ∧ x = y := by
        have := Hy.out
        cases pre with
        | nil => simpa using this
        | cons a l => simp at this
      refine ⟨.tuple #[.string (s.extract x s.size), .int .i64 0], ?_, by simp [parentR, Hn.out, Hx.out], ?_⟩
      · simp [results, Try.f16, go_sem, h1'.cell, h2'.cell]
      · exact (Hk.out.trans (hp _ (by omega))).ext (fun _ h => h)

end Go.Proofs.Ytmmjhdkoccpdjaa
