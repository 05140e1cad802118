/- hardtacklaw09.KeyedPut answers true, and leaves what lay as it lay. Conditions: numbers and texts of their kinds. -/
import Derived.Test.YtjnaknfnoibncaaHashF
import Derived.Test.YtjnaknfnoibncaaHashArgs
namespace Go.Proofs.Ytjnaknfnoibncaa
open Go Go.RowKit Go.Shelf
attribute [local go_sem] Oper.semAt_some wide_fn wide_depth

theorem findN_snoc (k s : ByteArray) (x : SumC) : ∀ l : List SumC, findN k s (l ++ [x]) = match findN k s l with | some i => some i | none => if x.is k s then some l.length else none
  | [] => by simp [findN]
  | y :: l => by
    rw [List.cons_append]
    unfold findN
    by_cases h : y.is k s
    · simp [h]
    · simp only [h, if_false, findN_snoc k s x l, Bool.false_eq_true]
      cases findN k s l with
      | some i => simp
      | none => by_cases h2 : x.is k s <;> simp [h2]
theorem findN_lt {k s : ByteArray} {l : List SumC} {i : Nat} (h : findN k s l = some i) : i < l.length := by
  obtain ⟨x, hx, _⟩ := findN_some h
  exact (List.getElem?_eq_some_iff.1 hx).1
theorem findI_neg {k s : ByteArray} {l : List SumC} : ¬ 0 ≤ findI k s l ↔ findN k s l = none := by
  unfold findI
  cases findN k s l with
  | none => simp
  | some i => simp
theorem putE_ok {l : List SumC} {k s : ByteArray} (h : putE l k s = 0) : sumE k s = 0 ∧ findN k s l = none ∧ l.length < 4096 := by
  unfold putE at h
  split at h
  · rename_i h1; exact absurd h h1
  · rename_i h1
    split at h
    · cases h
    · rename_i h2
      split at h
      · cases h
      · exact ⟨by simpa using h1, findI_neg.1 h2, by omega⟩
theorem entryN_put {l : List SumC} {k s : ByteArray} (n : Nat) (h : findN k s l = none) : entryN k s (l ++ [⟨k, s, n⟩]) = n := by
  have hs : (⟨k, s, n⟩ : SumC).is k s = true := by rw [is_eq]; simp [SumC.pair]
  unfold entryN
  rw [findN_snoc, h]
  simp [hs]
theorem entryN_other {l : List SumC} {k s k2 s2 : ByteArray} (n : Nat) (h : (k, s) ≠ (k2, s2)) : entryN k2 s2 (l ++ [⟨k, s, n⟩]) = entryN k2 s2 l := by
  have hs : (⟨k, s, n⟩ : SumC).is k2 s2 = false := by rw [is_eq, decide_eq_false_iff_not]; exact h
  unfold entryN
  rw [findN_snoc, hs]
  cases hf : findN k2 s2 l with
  | none => simp
  | some i =>
    have hi := findN_lt hf
    simp only
    rw [List.getElem?_append_left hi]
theorem sumE_key {k s : ByteArray} (h : sumE k s = 0) : k.size = 16 := by
  unfold sumE at h
  split at h
  · assumption
  · cases h
theorem right_put {l : List SumC} {k s : ByteArray} {n : Nat} (h : putE l k s = 0) (hr : rightB l = true) : rightB (l ++ [⟨k, s, n⟩]) = true := by
  obtain ⟨h1, h2, h3⟩ := putE_ok h
  unfold rightB at hr ⊢
  rw [decide_eq_true_iff] at hr ⊢
  obtain ⟨r1, r2, r3⟩ := hr
  refine ⟨by rw [List.length_append]; simp; omega, fun x hx => ?_, ?_⟩
  · rcases List.mem_append.1 hx with hx | hx
    · exact r2 x hx
    · rw [List.mem_singleton] at hx
      subst hx
      exact sumE_key h1
  · rw [List.map_append, List.nodup_append]
    refine ⟨r3, by simp, fun a ha b hb => ?_⟩
    simp at hb
    subst hb
    intro e
    subst e
    obtain ⟨y, hy, e⟩ := List.mem_map.1 ha
    obtain ⟨i, hi⟩ := List.getElem?_of_mem hy
    have : findN k s l ≠ none := by
      intro hn
      have hall : ∀ (L : List SumC), y ∈ L → findN k s L ≠ none := by
        intro L
        induction L with
        | nil => intro h; cases h
        | cons z L ih =>
          intro hm
          unfold findN
          by_cases hz : z.is k s
          · simp [hz]
          · simp only [hz, if_false, Bool.false_eq_true]
            rcases List.mem_cons.1 hm with rfl | hm
            · exact absurd (by rw [is_eq, decide_eq_true_iff]; exact e) hz
            · intro h0
              rw [Option.map_eq_none_iff] at h0
              exact ih hm h0
      exact hall l hy hn
    exact this h2
theorem set_fst {w : World} {b : Nat} {x0 y0 : Value} {t : TypeId} {fr : Nat × Nat} (h : w.heap[b]? = some (.cells #[x0, y0] t fr)) (x : Value) :
    (w.setCell ⟨b, 0, none⟩ x).heap[b]? = some (.cells #[x, y0] t fr) := by
  obtain ⟨hlt, hk⟩ := Array.getElem?_eq_some_iff.1 h
  show (w.heap.modify b _)[b]? = _
  rw [Array.getElem?_eq_getElem (by rw [Array.size_modify]; exact hlt), Array.getElem_modify_self, hk]
  simp
theorem cells_of {w : World} {b : Nat} {x y : Value} {t : TypeId} (h : w.heap[b]? = some (.cells #[x, y] t (0, 0))) : w.cell? ⟨b, 0, none⟩ = some x ∧ w.cell? ⟨b, 1, none⟩ = some y ∧ w.frozen? ⟨b, 0, none⟩ = false ∧ w.frozen? ⟨b, 1, none⟩ = false := by
  exact ⟨by simp [World.cell?, h], by simp [World.cell?, h], by simp [World.frozen?, h], by simp [World.frozen?, h]⟩

end Go.Proofs.Ytjnaknfnoibncaa
