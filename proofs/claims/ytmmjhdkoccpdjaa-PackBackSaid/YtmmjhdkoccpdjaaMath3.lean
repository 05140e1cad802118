/- The mathematics of what two names have in common. Conditions: none. -/
import Derived.Test.YtmmjhdkoccpdjaaNames2
namespace Go.Proofs.Ytmmjhdkoccpdjaa
open Go

theorem fl_cons (l : List UInt8) (r : List (List UInt8)) : fl (l :: r) = l.map foldB :: fl r := rfl
/-- What two names have in common: the longest end that both have. -/
theorem common_names {b : ByteArray} {lb : List (List UInt8)} (hb : Rep b lb) : ∀ (la : List (List UInt8)) (a : ByteArray), Rep a la →
    ∃ x xs, commonR a b = (x, 0) ∧ Rep x xs ∧ xs <:+ la ∧ fl xs <:+ fl lb ∧ ∀ zs, fl zs <:+ fl la → fl zs <:+ fl lb → fl zs <:+ fl xs := by
  intro la
  induction la with
  | nil =>
    intro a ha
    have hw : withinB b a = true := (within_iff hb ha).2 (List.nil_suffix)
    refine ⟨a, [], ?_, ha, List.suffix_refl _, List.nil_suffix, fun zs h _ => h⟩
    rw [commonR, upB_cons ha.name, List.find?_cons, hw]
  | cons l r ih =>
    intro a ha
    cases hw : withinB b a with
    | true =>
      refine ⟨a, l :: r, ?_, ha, List.suffix_refl _, (within_iff hb ha).1 hw, fun zs h _ => h⟩
      rw [commonR, upB_cons ha.name, List.find?_cons, hw]
    | false =>
      obtain ⟨x, xs, h1, h2, h3, h4, h5⟩ := ih _ (parent_cons ha).2
      refine ⟨x, xs, ?_, h2, h3.trans (List.suffix_cons _ _), h4, fun zs hz1 hz2 => ?_⟩
      · rw [commonR, upB_cons ha.name, List.find?_cons, hw]
        exact h1
      · refine h5 zs ?_ hz2
        rw [fl_cons] at hz1
        rcases List.suffix_cons_iff.1 hz1 with h | h
        · have : fl (l :: r) <:+ fl lb := by rw [fl_cons, ← h]; exact hz2
          rw [(within_iff hb ha).2 this] at hw
          cases hw
        · exact h
theorem common_none {a b : ByteArray} (h : isName a = false ∨ isName b = false) : commonR a b = (⟨#[]⟩, 2) := by
  rcases h with h | h
  · rw [commonR, upB_none h]; rfl
  · have : (upB a).find? (withinB b) = none := by
      rw [List.find?_eq_none]
      intro x _
      rw [within_none (.inl h)]
      simp
    rw [commonR, this]
theorem same_of {x y : ByteArray} {xs ys : List (List UInt8)} (hx : Rep x xs) (hy : Rep y ys) (h : fl xs = fl ys) : sameB x y = true := by
  rw [sameB, hx.name, hy.name]
  simp only [Bool.true_and, beq_iff_eq, toList_bl]
  rw [hx.fold.eq, hy.fold.eq, h]
/-- The whole: x and y, what a and b have in common, either way round. -/
theorem common_both {a b : ByteArray} (ha : isName a = true) (hb : isName b = true) : ∃ x y, commonR a b = (x, 0) ∧ commonR b a = (y, 0) ∧ sameB x y = true ∧ withinB a x = true ∧ withinB b x = true ∧ x.size ≤ 255 ∧ y.size ≤ 255 ∧
    ∀ c, withinB a c = true → withinB b c = true → withinB x c = true := by
  obtain ⟨la, hla⟩ := rep_of_name ha
  obtain ⟨lb, hlb⟩ := rep_of_name hb
  obtain ⟨x, xs, h1, h2, h3, h4, h5⟩ := common_names hlb la a hla
  obtain ⟨y, ys, g1, g2, g3, g4, g5⟩ := common_names hla lb b hlb
  have e1 : fl xs <:+ fl ys := g5 xs h4 (fl_suffix h3)
  have e2 : fl ys <:+ fl xs := h5 ys g4 (fl_suffix g3)
  have e : fl xs = fl ys := e1.eq_of_length_le e2.length_le
  refine ⟨x, y, h1, g1, same_of h2 g2 e, (within_iff hla h2).2 (fl_suffix h3), (within_iff hlb h2).2 h4, h2.len, g2.len, fun c hac hbc => ?_⟩
  have hc : isName c = true := by
    cases h : isName c with
    | true => rfl
    | false => rw [within_none (.inr h)] at hac; cases hac
  obtain ⟨lc, hlc⟩ := rep_of_name hc
  exact (within_iff h2 hlc).2 (h5 lc ((within_iff hla hlc).1 hac) ((within_iff hlb hlc).1 hbc))

end Go.Proofs.Ytmmjhdkoccpdjaa
