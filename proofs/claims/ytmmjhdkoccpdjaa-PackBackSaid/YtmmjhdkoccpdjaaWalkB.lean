/- What walk's Common and Next do. Conditions: strings that Go can hold. -/
import Derived.Test.YtmmjhdkoccpdjaaWalkA
namespace Go.Proofs.Ytmmjhdkoccpdjaa
open Go Go.RowKit Go.Shelf
attribute [local go_sem] Oper.semAt_some wide_fn wide_depth

theorem find_none {α : Type} {p : α → Bool} {l : List α} (h : l.any p = false) : l.find? p = none := by
  rw [List.find?_eq_none]
  intro x hx
  have := List.any_eq_false.1 h x hx
  simpa using this
theorem find_some {α : Type} {p : α → Bool} {pre rest : List α} {x : α} (h : pre.any p = false) (hx : p x = true) : (pre ++ x :: rest).find? p = some x := by
  rw [List.find?_append, find_none h]
  simp [hx]

set_option maxRecDepth 100000 in
set_option maxHeartbeats 4000000 in
theorem Common_any (a b : ByteArray) (w : World) (ha : a.size ≤ maxLen) (hb : b.size ≤ maxLen) :
    Calls Try.prog 21 #[.string a, .string b] w fun e w' => e = .returned (.tuple #[.string (commonR a b).1, .int .i64 (commonR a b).2]) ∧ Ext w w' := by
  refine (callsIn_wide (n := 9)).1 ?_
  refine callsIn_of_wp_marks Try.func21 rfl trivial ?_ rfl
  simp only [Try.ntmps21, List.size_toArray, List.length_cons, List.length_nil, Nat.reduceAdd, Nat.reduceSub, Array.replicate_succ, Array.replicate_zero, List.push_toArray, List.append_toArray, List.nil_append, List.cons_append]
  have Ha := Lib.hid ha; clear ha
  gi_wp2_with fail
  obtain ⟨w0, hw0⟩ : ∃ w0, ((w.alloc (.cells #[.string b] 9)).alloc (.cells #[.string ⟨#[]⟩] 9)).alloc (.cells #[.int .i64 0] 23) = w0 := ⟨_, rfl⟩
  have hN0 : Boxed w0 w.heap.size 9 (.string b) := by rw [← hw0]; exact ((Boxed.new w 9 _).alloc _).alloc _
  have hS0 : Boxed w0 (w.heap.size + 1) 9 (.string ⟨#[]⟩) := by
    rw [← hw0]; have := (Boxed.new (w.alloc (.cells #[.string b] 9)) 9 (.string ⟨#[]⟩)).alloc (.cells #[.int .i64 0] 23); simpa using this
  have hE0 : Boxed w0 (w.heap.size + 1 + 1) 23 (.int .i64 0) := by
    rw [← hw0]; have := Boxed.new ((w.alloc (.cells #[.string b] 9)).alloc (.cells #[.string ⟨#[]⟩] 9)) 23 (.int .i64 0); simpa using this
  have hX0 : Ext w w0 := by rw [← hw0]; exact (((Ext.refl _).alloc _).alloc _).alloc _
  rw [hw0]
  clear hw0
  refine (callsIn_wide.2 (Up_any a w0)).mono ?_
  rintro e w' ⟨rfl, rfl⟩
  obtain ⟨w1, rfl⟩ : ∃ w1, w1 = w0 := ⟨_, rfl⟩
  have HX1 := Lib.hid hX0; clear hX0
  have HN1 := Lib.hid hN0; clear hN0
  have HS1 := Lib.hid hS0; clear hS0
  have HE1 := Lib.hid hE0; clear hE0
  have hEN : Boxed (w1.alloc (.cells #[.string a] 9)) w1.heap.size 9 (.string a) := Boxed.new w1 9 _
  have hN2 := HN1.out.alloc (.cells #[.string a] 9)
  have hS2 := HS1.out.alloc (.cells #[.string a] 9)
  have hE2 := HE1.out.alloc (.cells #[.string a] 9)
  have hX2 := HX1.out.alloc (.cells #[.string a] 9)
  have hz2 : w1.heap.size < (w1.alloc (.cells #[.string a] 9)).heap.size := by simp
  have hlt := HE1.out.lt
  generalize w1.alloc (.cells #[.string a] 9) = w2 at hEN hN2 hS2 hE2 hX2 hz2 ⊢
  clear HN1 HS1 HE1 HX1
  gi_wp2_with fail
  refine wpIn_rangeX rfl wide_room (gf := 89) (lb := #[.pointer (some ⟨w1.heap.size, 0, none⟩)]) rfl trivial (enters_of Try.func89 (by kernel_rfl) rfl)
    (up1_seq _ _ a Ha.out w2 hEN.cell) (Keeps.refl _ _) (fun k h => by subst h; exact hz2) (fun _ => rfl)
    (fun _ pre A => pre.any (withinB b) = false ∧ Boxed A w.heap.size 9 (.string b) ∧ Boxed A (w.heap.size + 1) 9 (.string ⟨#[]⟩) ∧ Boxed A (w.heap.size + 1 + 1) 23 (.int .i64 0) ∧ Keeps (fun k => k < w.heap.size) w A)
    (fun c _ pre A => c = Code.ret ∧ ∃ pre' x, pre = pre' ++ [x] ∧ pre'.any (withinB b) = false ∧ withinB b x = true ∧ Boxed A (w.heap.size + 1) 9 (.string x) ∧ Boxed A (w.heap.size + 1 + 1) 23 (.int .i64 0) ∧ Keeps (fun k => k < w.heap.size) w A)
    (fun D pre A A' h k => ⟨h.1, k.boxed h.2.1 (by omega), k.boxed h.2.2.1 (by omega), k.boxed h.2.2.2.1 (by omega), h.2.2.2.2.trans (k.mono fun _ _ h => by omega)⟩)
    (fun c D pre A A' h k => by obtain ⟨h1, pre', x, h2, h3, h4, h5, h6, h7⟩ := h; exact ⟨h1, pre', x, h2, h3, h4, k.boxed h5 (by omega), k.boxed h6 (by omega), h7.trans (k.mono fun _ _ h => by omega)⟩)
    (fun D W _ _ h => ⟨rfl, h.boxed hN2 (by omega), h.boxed hS2 (by omega), h.boxed hE2 (by omega), (hX2.keeps.mono fun _ _ _ => trivial).trans (h.mono fun _ _ h => by omega)⟩)
    (fun _ x a' _ => a' = { tmps := #[.string a, .string b, undef, .pointer (some ⟨w.heap.size, 0, none⟩), .pointer (some ⟨w.heap.size + 1, 0, none⟩), .pointer (some ⟨w.heap.size + 1 + 1, 0, none⟩), .string x, .string a, .func (.func 89) #[] #[.pointer (some ⟨w1.heap.size, 0, none⟩)], .string x, undef, undef, undef, undef], defers := [] })
    (fun _ _ _ _ _ h _ => h) ?assign ?body ?done ?stop
  case assign =>
    intro l D x A K _ hK
    gi_wp2
    exact hK _ _ (Keeps.refl _ _) rfl
  case body =>
    rintro l D pre x rest a' A hx hD hDW ⟨r, hr⟩ ⟨hp, hN, hS, hE, hk⟩ rfl
    have hxs : x.size ≤ maxLen := Nat.le_trans (upB_size _ a (Nat.le_refl _) x (by rw [hx]; simp)).1 Ha.out
    have HC := Lib.hid fun W => Within_any b x W hb hxs
    have hcN := hN.cell
    have HN := Lib.hid hN; clear hN
    have HS := Lib.hid hS; clear hS
    have HE := Lib.hid hE; clear hE
    have Hk := Lib.hid hk; clear hk
    have Hx := Lib.hid hx; clear hx
    have Hp := Lib.hid hp; clear hp
    gi_wp2_with fail
    refine ((callsIn_wide.2 (HC.out _)).inRound l).mono ?_
    rintro e w3 ⟨rfl, hx3⟩
    have hkx := Ext.keeps hx3
    have HN3 := Lib.hid (hkx.boxed HN.out trivial)
    have HS3 := Lib.hid (hkx.boxed HS.out trivial)
    have HE3 := Lib.hid (hkx.boxed HE.out trivial)
    have Hk3 := Lib.hid (Hk.out.trans (hkx.mono fun _ _ _ => trivial))
    have Hkx := Lib.hid hkx
    have hcS := HS3.out.cell
    have hfS := HS3.out.frozen
    have hcE := HE3.out.cell
    have hfE := HE3.out.frozen
    clear hx3 hkx HN HS HE Hk HC
    cases ht : withinB b x with
    | true =>
      have Ht := Lib.hid ht; clear ht
      gi_wp2
      obtain ⟨h1, h2⟩ := boxed_set2 HS3.out HE3.out (by omega) (.string x) (.int .i64 0)
      exact ⟨(Hkx.out.mono fun _ _ _ => trivial).set2 (by omega) (by omega) _ _, rfl, pre, x, rfl, Hp.out, Ht.out, h1, h2, Hk3.out.set2 (by omega) (by omega) _ _⟩
    | false =>
      have Ht := Lib.hid ht; clear ht
      gi_wp2
      exact ⟨Hkx.out.mono fun _ _ _ => trivial, by rw [List.any_append, Hp.out]; simp [Ht.out], HN3.out, HS3.out, HE3.out, Hk3.out⟩
  case done =>
    rintro D A hD hDW ⟨hp, hN, hS, hE, hk⟩ hd
    have hcS := hS.cell
    have hfS := hS.frozen
    have hcE := hE.cell
    have hfE := hE.frozen
    have HS := Lib.hid hS; clear hS
    have HE := Lib.hid hE; clear hE
    have Hk := Lib.hid hk; clear hk
    have Hd := Lib.hid hd; clear hd
    have Hp := Lib.hid hp; clear hp
    clear hN
    gi_wp2
    obtain ⟨h1, h2⟩ := boxed_set2 HS.out HE.out (by omega) (.string ⟨#[]⟩) (.int .i64 2)
    have hd2 := ((Keeps.refl (fun k => k = w2.heap.size) A).set2 (A := w.heap.size + 1) (B := w.heap.size + 1 + 1) (by omega) (by omega) (.string ⟨#[]⟩) (.int .i64 2)).heap Hd.out rfl
    refine ⟨by simp, .inl ⟨_, _, rfl, run_takeDeferred hd2, ?_⟩⟩
    have hp := fun K (h : ¬ K w2.heap.size) => (Keeps.refl K ((A.setCell ⟨w.heap.size + 1, 0, none⟩ (.string ⟨#[]⟩)).setCell ⟨w.heap.size + 1 + 1, 0, none⟩ (.int .i64 2))).putObj h (.deferred none)
    have h1' := (hp (fun k => k < w2.heap.size) (by omega)).boxed h1 (by omega)
    have h2' := (hp (fun k => k < w2.heap.size) (by omega)).boxed h2 (by omega)
    refine ⟨.tuple #[.string ⟨#[]⟩, .int .i64 2], ?_, ?_, ?_⟩
    · simp [results, Try.f21, go_sem, h1'.cell, h2'.cell]
    · rw [commonR, find_none Hp.out]
    · exact ((Hk.out.set2 (by omega) (by omega) _ _).trans (hp _ (by omega))).ext (fun _ h => h)
  case stop =>
    rintro c D pre x rest A hx hD hDW ⟨rfl, pre', y, hy, hp, ht, hS, hE, hk⟩ hd
    have hcS := hS.cell
    have hcE := hE.cell
    have HS := Lib.hid hS; clear hS
    have HE := Lib.hid hE; clear hE
    have Hk := Lib.hid hk; clear hk
    have Hd := Lib.hid hd; clear hd
    have Hx := Lib.hid hx; clear hx
    have Hy := Lib.hid hy; clear hy
    have Hp := Lib.hid hp; clear hp
    have Ht := Lib.hid ht; clear ht
    gi_wp2
    refine ⟨by simp, .inl ⟨_, _, rfl, run_takeDeferred Hd.out, ?_⟩⟩
    have hp := fun K (h : ¬ K w2.heap.size) => (Keeps.refl K A).putObj h (.deferred none)
    have h1' := (hp (fun k => k < w2.heap.size) (by omega)).boxed HS.out (by omega)
    have h2' := (hp (fun k => k < w2.heap.size) (by omega)).boxed HE.out (by omega)
    obtain ⟨rfl, rfl⟩ : pre = pre' ∧ x = y := by
      obtain ⟨e1, e2⟩ := List.append_inj' Hy.out rfl
      exact ⟨e1, by simpa using e2⟩
    refine ⟨.tuple #[.string x, .int .i64 0], ?_, ?_, ?_⟩
    · simp [results, Try.f21, go_sem, h1'.cell, h2'.cell]
    · rw [commonR, Hx.out, find_some Hp.out Ht.out]
    · exact (Hk.out.trans (hp _ (by omega))).ext (fun _ h => h)

set_option maxRecDepth 100000 in
set_option maxHeartbeats 4000000 in
theorem Next_any (z n : ByteArray) (w : World) (hz : z.size ≤ maxLen) (ha : n.size ≤ maxLen) :
    Calls Try.prog 23 #[.string z, .string n] w fun e w' => e = .returned (.tuple #[.string (nextR z n).1, .int .i64 (nextR z n).2]) ∧ Ext w w' := by
  have CZ := Lib.hid fun W => Check_any z W hz
  have CN := Lib.hid fun W => Check_any n W ha
  refine (callsIn_wide (n := 9)).1 ?_
  refine callsIn_of_wp_marks Try.func23 rfl trivial ?_ rfl
  simp only [Try.ntmps23, List.size_toArray, List.length_cons, List.length_nil, Nat.reduceAdd, Nat.reduceSub, Array.replicate_succ, Array.replicate_zero, List.push_toArray, List.append_toArray, List.nil_append, List.cons_append]
  have Ha := Lib.hid ha; clear ha
  gi_wp2_with fail
  obtain ⟨w0, hw0⟩ : ∃ w0, ((w.alloc (.cells #[.string z] 9)).alloc (.cells #[.string ⟨#[]⟩] 9)).alloc (.cells #[.int .i64 0] 23) = w0 := ⟨_, rfl⟩
  have hN0 : Boxed w0 w.heap.size 9 (.string z) := by rw [← hw0]; exact ((Boxed.new w 9 _).alloc _).alloc _
  have hS0 : Boxed w0 (w.heap.size + 1) 9 (.string ⟨#[]⟩) := by
    rw [← hw0]; have := (Boxed.new (w.alloc (.cells #[.string z] 9)) 9 (.string ⟨#[]⟩)).alloc (.cells #[.int .i64 0] 23); simpa using this
  have hE0 : Boxed w0 (w.heap.size + 1 + 1) 23 (.int .i64 0) := by
    rw [← hw0]; have := Boxed.new ((w.alloc (.cells #[.string z] 9)).alloc (.cells #[.string ⟨#[]⟩] 9)) 23 (.int .i64 0); simpa using this
  have hX0 : Ext w w0 := by rw [← hw0]; exact (((Ext.refl _).alloc _).alloc _).alloc _
  rw [hw0]
  clear hw0
  refine (callsIn_wide.2 (CZ.out _)).mono ?_
  rintro e w1 ⟨rfl, hx1⟩
  have HX1 := Lib.hid (hX0.trans hx1); clear hX0
  have HN1 := Lib.hid ((Ext.keeps hx1).boxed hN0 trivial); clear hN0
  have HS1 := Lib.hid ((Ext.keeps hx1).boxed hS0 trivial); clear hS0
  have HE1 := Lib.hid ((Ext.keeps hx1).boxed hE0 trivial); clear hE0
  clear hx1 CZ
  cases hnz : isName z with
  | false =>
    rw [chk_none hnz]
    have Hbad : Hid (isName z = false ∨ isName n = false) := Lib.hid (.inl hnz)
    clear hnz
    have hcS := HS1.out.cell
    have hfS := HS1.out.frozen
    have hcE := HE1.out.cell
    have hfE := HE1.out.frozen
    gi_wp2
    obtain ⟨hr1, hr2⟩ := boxed_set2 HS1.out HE1.out (by omega) (.string ⟨#[]⟩) (.int .i64 2)
    refine ⟨.tuple #[.string ⟨#[]⟩, .int .i64 2], ?_, by rw [nextR, if_pos Hbad.out], ?_⟩
    · simp [results, Try.f23, go_sem, hr1.cell, hr2.cell]
    · exact ((HX1.out.keeps.mono (K' := fun k => k < w.heap.size) (fun _ _ _ => trivial)).set2 (by omega) (by omega) _ _).ext (fun _ h => h)
  | true =>
    rw [chk_name hnz]
    have Hnz := Lib.hid hnz; clear hnz
    gi_wp2_with fail
    refine (callsIn_wide.2 (CN.out _)).mono ?_
    rintro e w1b ⟨rfl, hx1⟩
    have HX1 := Lib.hid (HX1.out.trans hx1)
    have HN1 := Lib.hid ((Ext.keeps hx1).boxed HN1.out trivial)
    have HS1 := Lib.hid ((Ext.keeps hx1).boxed HS1.out trivial)
    have HE1 := Lib.hid ((Ext.keeps hx1).boxed HE1.out trivial)
    clear hx1 CN
    obtain ⟨w1, rfl⟩ : ∃ w1, w1 = w1b := ⟨_, rfl⟩
    cases hnn : isName n with
    | false =>
      rw [chk_none hnn]
      have Hbad : Hid (isName z = false ∨ isName n = false) := Lib.hid (.inr hnn)
      clear hnn
      have hcS := HS1.out.cell
      have hfS := HS1.out.frozen
      have hcE := HE1.out.cell
      have hfE := HE1.out.frozen
      gi_wp2
      obtain ⟨hr1, hr2⟩ := boxed_set2 HS1.out HE1.out (by omega) (.string ⟨#[]⟩) (.int .i64 2)
      refine ⟨.tuple #[.string ⟨#[]⟩, .int .i64 2], ?_, by rw [nextR, if_pos Hbad.out], ?_⟩
      · simp [results, Try.f23, go_sem, hr1.cell, hr2.cell]
      · exact ((HX1.out.keeps.mono (K' := fun k => k < w.heap.size) (fun _ _ _ => trivial)).set2 (by omega) (by omega) _ _).ext (fun _ h => h)
    | true =>
      rw [chk_name hnn]
      have Hnn := Lib.hid hnn; clear hnn
      have Hgood : Hid (¬ (isName z = false ∨ isName n = false)) := Lib.hid (by rw [Hnz.out, Hnn.out]; simp)
      gi_wp2_with (gi_at_call 37; refine (callsIn_wide.2 (Up_any _ _)).mono ?_; rintro e w' ⟨rfl, rfl⟩)
      have hEN : Boxed (w1.alloc (.cells #[.string n] 9)) w1.heap.size 9 (.string n) := Boxed.new w1 9 _
      have hN2 := HN1.out.alloc (.cells #[.string n] 9)
      have hS2 := HS1.out.alloc (.cells #[.string n] 9)
      have hE2 := HE1.out.alloc (.cells #[.string n] 9)
      have hX2 := HX1.out.alloc (.cells #[.string n] 9)
      have hz2 : w1.heap.size < (w1.alloc (.cells #[.string n] 9)).heap.size := by simp
      have hlt := HE1.out.lt
      generalize w1.alloc (.cells #[.string n] 9) = w2 at hEN hN2 hS2 hE2 hX2 hz2 ⊢
      clear HN1 HS1 HE1 HX1
      refine wpIn_rangeX rfl wide_room (gf := 89) (lb := #[.pointer (some ⟨w1.heap.size, 0, none⟩)]) rfl trivial (enters_of Try.func89 (by kernel_rfl) rfl)
        (up1_seq _ _ n Ha.out w2 hEN.cell) (Keeps.refl _ _) (fun k h => by subst h; exact hz2) (fun _ => rfl)
        (fun _ pre A => pre.any (nextP z) = false ∧ Boxed A w.heap.size 9 (.string z) ∧ Boxed A (w.heap.size + 1) 9 (.string ⟨#[]⟩) ∧ Boxed A (w.heap.size + 1 + 1) 23 (.int .i64 0) ∧ Keeps (fun k => k < w.heap.size) w A)
        (fun c _ pre A => c = Code.ret ∧ ∃ pre' x, pre = pre' ++ [x] ∧ pre'.any (nextP z) = false ∧ nextP z x = true ∧ Boxed A (w.heap.size + 1) 9 (.string x) ∧ Boxed A (w.heap.size + 1 + 1) 23 (.int .i64 0) ∧ Keeps (fun k => k < w.heap.size) w A)
        (fun D pre A A' h k => ⟨h.1, k.boxed h.2.1 (by omega), k.boxed h.2.2.1 (by omega), k.boxed h.2.2.2.1 (by omega), h.2.2.2.2.trans (k.mono fun _ _ h => by omega)⟩)
        (fun c D pre A A' h k => by obtain ⟨h1, pre', x, h2, h3, h4, h5, h6, h7⟩ := h; exact ⟨h1, pre', x, h2, h3, h4, k.boxed h5 (by omega), k.boxed h6 (by omega), h7.trans (k.mono fun _ _ h => by omega)⟩)
        (fun D W _ _ h => ⟨rfl, h.boxed hN2 (by omega), h.boxed hS2 (by omega), h.boxed hE2 (by omega), (hX2.keeps.mono fun _ _ _ => trivial).trans (h.mono fun _ _ h => by omega)⟩)
        (fun _ x a' _ => a' = { tmps := #[.string z, .string n, .pointer (some ⟨w.heap.size, 0, none⟩), undef, .pointer (some ⟨w.heap.size + 1, 0, none⟩), .pointer (some ⟨w.heap.size + 1 + 1, 0, none⟩), .string x, .string z, .int .i64 0, .bool false, .bool false, .string n, .int .i64 0, .bool false, .bool false, .string n, .func (.func 89) #[] #[.pointer (some ⟨w1.heap.size, 0, none⟩)], .string x, undef, undef, undef, undef, undef], defers := [] })
        (fun _ _ _ _ _ h _ => h) ?assign ?body ?done ?stop
      case assign =>
        intro l D x A K _ hK
        gi_wp2
        exact hK _ _ (Keeps.refl _ _) rfl
      case body =>
        rintro l D pre x rest a' A hx hD hDW ⟨r, hr⟩ ⟨hp, hN, hS, hE, hk⟩ rfl
        have hxs : x.size ≤ maxLen := Nat.le_trans (upB_size _ n (Nat.le_refl _) x (by rw [hx]; simp)).1 Ha.out
        have HC := Lib.hid fun W => Depth_any x z W hxs hz
        have hcN := hN.cell
        have HN := Lib.hid hN; clear hN
        have HS := Lib.hid hS; clear hS
        have HE := Lib.hid hE; clear hE
        have Hk := Lib.hid hk; clear hk
        have Hx := Lib.hid hx; clear hx
        have Hp := Lib.hid hp; clear hp
        gi_wp2_with fail
        refine ((callsIn_wide.2 (HC.out _)).inRound l).mono ?_
        rintro e w3 ⟨rfl, hx3⟩
        have hkx := Ext.keeps hx3
        have HN3 := Lib.hid (hkx.boxed HN.out trivial)
        have HS3 := Lib.hid (hkx.boxed HS.out trivial)
        have HE3 := Lib.hid (hkx.boxed HE.out trivial)
        have Hk3 := Lib.hid (Hk.out.trans (hkx.mono fun _ _ _ => trivial))
        have Hkx := Lib.hid hkx
        have hcS := HS3.out.cell
        have hfS := HS3.out.frozen
        have hcE := HE3.out.cell
        have hfE := HE3.out.frozen
        clear hx3 hkx HN HS HE Hk HC
        obtain ⟨d, hd⟩ : ∃ d, depthB x z = d := ⟨_, rfl⟩
        rw [hd]
        cases ht : decide (d = 1) with
        | true =>
          have Ht : Hid (nextP z x = true) := Lib.hid (by rw [nextP, hd]; exact ht)
          obtain rfl : d = 1 := of_decide_eq_true ht
          clear ht hd
          gi_wp2
          obtain ⟨h1, h2⟩ := boxed_set2 HS3.out HE3.out (by omega) (.string x) (.int .i64 0)
          exact ⟨(Hkx.out.mono fun _ _ _ => trivial).set2 (by omega) (by omega) _ _, rfl, pre, x, rfl, Hp.out, Ht.out, h1, h2, Hk3.out.set2 (by omega) (by omega) _ _⟩
        | false =>
          have Ht : Hid (nextP z x = false) := Lib.hid (by rw [nextP, hd]; exact ht)
          have hd1 : ¬ d = 1 := of_decide_eq_false ht
          clear hd
          gi_wp2
          exact ⟨Hkx.out.mono fun _ _ _ => trivial, by rw [List.any_append, Hp.out]; simp [Ht.out], HN3.out, HS3.out, HE3.out, Hk3.out⟩
      case done =>
        rintro D A hD hDW ⟨hp, hN, hS, hE, hk⟩ hd
        have hcS := hS.cell
        have hfS := hS.frozen
        have hcE := hE.cell
        have hfE := hE.frozen
        have HS := Lib.hid hS; clear hS
        have HE := Lib.hid hE; clear hE
        have Hk := Lib.hid hk; clear hk
        have Hd := Lib.hid hd; clear hd
        have Hp := Lib.hid hp; clear hp
        clear hN
        gi_wp2
        obtain ⟨h1, h2⟩ := boxed_set2 HS.out HE.out (by omega) (.string ⟨#[]⟩) (.int .i64 3)
        have hd2 := ((Keeps.refl (fun k => k = w2.heap.size) A).set2 (A := w.heap.size + 1) (B := w.heap.size + 1 + 1) (by omega) (by omega) (.string ⟨#[]⟩) (.int .i64 3)).heap Hd.out rfl
        refine ⟨by simp, .inl ⟨_, _, rfl, run_takeDeferred hd2, ?_⟩⟩
        have hp := fun K (h : ¬ K w2.heap.size) => (Keeps.refl K ((A.setCell ⟨w.heap.size + 1, 0, none⟩ (.string ⟨#[]⟩)).setCell ⟨w.heap.size + 1 + 1, 0, none⟩ (.int .i64 3))).putObj h (.deferred none)
        have h1' := (hp (fun k => k < w2.heap.size) (by omega)).boxed h1 (by omega)
        have h2' := (hp (fun k => k < w2.heap.size) (by omega)).boxed h2 (by omega)
        refine ⟨.tuple #[.string ⟨#[]⟩, .int .i64 3], ?_, ?_, ?_⟩
        · simp [results, Try.f23, go_sem, h1'.cell, h2'.cell]
        · rw [nextR, if_neg Hgood.out, find_none Hp.out]
        · exact ((Hk.out.set2 (by omega) (by omega) _ _).trans (hp _ (by omega))).ext (fun _ h => h)
      case stop =>
        rintro c D pre x rest A hx hD hDW ⟨rfl, pre', y, hy, hp, ht, hS, hE, hk⟩ hd
        have hcS := hS.cell
        have hcE := hE.cell
        have HS := Lib.hid hS; clear hS
        have HE := Lib.hid hE; clear hE
        have Hk := Lib.hid hk; clear hk
        have Hd := Lib.hid hd; clear hd
        have Hx := Lib.hid hx; clear hx
        have Hy := Lib.hid hy; clear hy
        have Hp := Lib.hid hp; clear hp
        have Ht := Lib.hid ht; clear ht
        gi_wp2
        refine ⟨by simp, .inl ⟨_, _, rfl, run_takeDeferred Hd.out, ?_⟩⟩
        have hp := fun K (h : ¬ K w2.heap.size) => (Keeps.refl K A).putObj h (.deferred none)
        have h1' := (hp (fun k => k < w2.heap.size) (by omega)).boxed HS.out (by omega)
        have h2' := (hp (fun k => k < w2.heap.size) (by omega)).boxed HE.out (by omega)
        obtain ⟨rfl, rfl⟩ : pre = pre' ∧ x = y := by
          obtain ⟨e1, e2⟩ := List.append_inj' Hy.out rfl
          exact ⟨e1, by simpa using e2⟩
        refine ⟨.tuple #[.string x, .int .i64 0], ?_, ?_, ?_⟩
        · simp [results, Try.f23, go_sem, h1'.cell, h2'.cell]
        · rw [nextR, if_neg Hgood.out, Hx.out, find_some Hp.out Ht.out]
        · exact (Hk.out.trans (hp _ (by omega))).ext (fun _ h => h)

end Go.Proofs.Ytmmjhdkoccpdjaa
