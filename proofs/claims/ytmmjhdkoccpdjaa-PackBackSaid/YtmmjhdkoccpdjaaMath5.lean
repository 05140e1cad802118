/- The order of names. Conditions: none. -/
import Derived.Test.YtmmjhdkoccpdjaaMath4
import Derived.Test.YtmmjhdkoccpdjaaMath3
namespace Go.Proofs.Ytmmjhdkoccpdjaa
open Go

theorem place_of {a : ByteArray} {la : List (List UInt8)} (h : Rep a la) : (placeB a).map ByteArray.toList = (fl la).reverse := by
  rw [placeB, List.map_reverse]
  congr 1
  have := h.fold.labels
  rw [← this]
  exact List.map_congr_left fun x _ => toList_bl x
theorem no {p : Prop} {v : Bool} (h : v = true ↔ p) (hp : ¬ p) : v = false := by
  cases v with
  | false => rfl
  | true => exact absurd (h.1 rfl) hp
theorem less_iff {a b : ByteArray} {la lb : List (List UInt8)} (ha : Rep a la) (hb : Rep b lb) : lessB a b = true ↔ lexLt (fl la).reverse (fl lb).reverse := by
  rw [lessB, ha.name, hb.name]
  simp only [Bool.true_and, decide_eq_true_eq]
  rw [cmpL_lt, place_of ha, place_of hb]
theorem same_iff {a b : ByteArray} {la lb : List (List UInt8)} (ha : Rep a la) (hb : Rep b lb) : sameB a b = true ↔ fl la = fl lb := by
  refine ⟨fun h => ?_, fun h => same_of ha hb h⟩
  rw [sameB, ha.name, hb.name] at h
  simp only [Bool.true_and, beq_iff_eq] at h
  have h2 := text_inj h
  have h3 := ha.fold
  rw [h2] at h3
  exact h3.uniq hb.fold
/-- Of two names one stands ahead, or they are one. -/
theorem one_of {a b : ByteArray} {la lb : List (List UInt8)} (ha : Rep a la) (hb : Rep b lb) :
    (lessB a b = true ∧ lessB b a = false ∧ sameB a b = false) ∨ (lessB a b = false ∧ lessB b a = true ∧ sameB a b = false) ∨ (lessB a b = false ∧ lessB b a = false ∧ sameB a b = true) := by
  have i1 := less_iff ha hb
  have i2 := less_iff hb ha
  have i3 := same_iff ha hb
  rcases lex_total (fl la).reverse (fl lb).reverse with h | h | h
  · refine .inl ⟨i1.2 h, no i2 fun h2 => lex_irrefl _ (lex_trans _ _ _ h h2), no i3 fun h2 => ?_⟩
    rw [h2] at h
    exact lex_irrefl _ h
  · refine .inr (.inl ⟨no i1 fun h2 => lex_irrefl _ (lex_trans _ _ _ h h2), i2.2 h, no i3 fun h2 => ?_⟩)
    rw [h2] at h
    exact lex_irrefl _ h
  · have h' : fl la = fl lb := by simpa using congrArg List.reverse h
    refine .inr (.inr ⟨no i1 fun h2 => ?_, no i2 fun h2 => ?_, i3.2 h'⟩)
    · rw [h] at h2; exact lex_irrefl _ h2
    · rw [h] at h2; exact lex_irrefl _ h2
theorem less_trans {a b c : ByteArray} {la lb lc : List (List UInt8)} (ha : Rep a la) (hb : Rep b lb) (hc : Rep c lc) (h1 : lessB a b = true) (h2 : lessB b c = true) : lessB a c = true :=
  (less_iff ha hc).2 (lex_trans _ _ _ ((less_iff ha hb).1 h1) ((less_iff hb hc).1 h2))
theorem less_parent {a : ByteArray} {l : List UInt8} {r : List (List UInt8)} (ha : Rep a (l :: r)) : lessB (parentR a).1 a = true := by
  refine (less_iff (parent_cons ha).2 ha).2 ?_
  rw [fl_cons, List.reverse_cons]
  exact lex_more _ _ []
theorem less_between {a b c : ByteArray} {la lb lc : List (List UInt8)} (ha : Rep a la) (hb : Rep b lb) (hc : Rep c lc) (hw : withinB c a = true) (h1 : lessB a b = true) (h2 : lessB b c = true) : withinB b a = true := by
  refine (within_iff hb ha).2 ?_
  obtain ⟨t, ht⟩ := (within_iff hc ha).1 hw
  have h3 : (fl lc).reverse = (fl la).reverse ++ t.reverse := by rw [← ht, List.reverse_append]
  have h4 := (less_iff hb hc).1 h2
  rw [h3] at h4
  have h5 := lex_between _ _ _ ((less_iff ha hb).1 h1) h4
  exact List.reverse_prefix.1 h5

end Go.Proofs.Ytmmjhdkoccpdjaa
