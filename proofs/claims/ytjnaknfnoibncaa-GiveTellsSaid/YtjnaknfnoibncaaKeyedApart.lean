/- hardtacklaw09.KeyedApart answers true, and leaves what lay as it lay. Conditions: numbers and texts of their kinds. -/
import Derived.Test.YtjnaknfnoibncaaHashG
import Derived.Test.YtjnaknfnoibncaaKeyedPut
namespace Go.Proofs.Ytjnaknfnoibncaa
open Go Go.RowKit Go.Shelf
attribute [local go_sem] Oper.semAt_some wide_fn wide_depth

/-- Is there an entry? -/
def hasB (k s : ByteArray) (l : List SumC) : Bool := decide (0 ≤ findI k s l)
theorem hasB_iff {k s : ByteArray} {l : List SumC} : hasB k s l = true ↔ ∃ i, findN k s l = some i := by
  unfold hasB findI
  rw [decide_eq_true_iff]
  cases findN k s l with
  | none => simp
  | some i => simp
theorem entryN_at {k s : ByteArray} {l : List SumC} {i : Nat} (h : findN k s l = some i) : ∃ x, l[i]? = some x ∧ x.pair = (k, s) ∧ entryN k s l = x.n := by
  obtain ⟨x, hx, hs⟩ := findN_some h
  rw [is_eq, decide_eq_true_iff] at hs
  refine ⟨x, hx, hs, ?_⟩
  unfold entryN
  rw [h]
  simp [hx]
theorem apart_sums {l : List SumC} (h : apartB l = true) (k s k2 s2 : ByteArray) :
    (entryN k s l == entryN k2 s2 l) = (decide (k = k2 ∧ s = s2) || (!hasB k s l && !hasB k2 s2 l)) ∧ (entryN k s l != 0) = hasB k s l := by
  unfold apartB at h
  rw [Bool.and_eq_true] at h
  have hu := h.2
  unfold unlikeB at hu
  rw [decide_eq_true_iff, List.nodup_cons] at hu
  have hne : ∀ k s, (entryN k s l != 0) = hasB k s l := fun k s => by
    rw [Bool.eq_iff_iff, hasB_iff]
    constructor
    · intro h0
      cases hf : findN k s l with
      | some i => exact ⟨i, rfl⟩
      | none =>
        unfold entryN at h0
        rw [hf] at h0
        simp at h0
    · rintro ⟨i, hi⟩
      obtain ⟨x, hx, _, he⟩ := entryN_at hi
      rw [he, bne_iff_ne]
      intro h0
      exact hu.1 (List.mem_map.2 ⟨x, List.mem_of_getElem? hx, h0⟩)
  refine ⟨?_, hne k s⟩
  have h1 := hne k s
  have h2 := hne k2 s2
  by_cases hp : k = k2 ∧ s = s2
  · obtain ⟨rfl, rfl⟩ := hp
    simp
  · rw [decide_eq_false hp, Bool.false_or]
    cases hx : hasB k s l with
    | false =>
      rw [hx] at h1
      cases hy : hasB k2 s2 l with
      | false =>
        rw [hy] at h2
        simp only [bne_eq_false_iff_eq] at h1 h2
        rw [h1, h2]
        rfl
      | true =>
        rw [hy] at h2
        simp only [bne_eq_false_iff_eq] at h1
        rw [h1, Bool.eq_iff_iff]
        simp only [bne_iff_ne] at h2
        simp
        exact fun e => h2 e.symm
    | true =>
      rw [hx] at h1
      cases hy : hasB k2 s2 l with
      | false =>
        rw [hy] at h2
        simp only [bne_eq_false_iff_eq] at h2
        simp only [bne_iff_ne] at h1
        rw [h2, Bool.eq_iff_iff]
        simp
        exact h1
      | true =>
        obtain ⟨i, hi⟩ := hasB_iff.1 hx
        obtain ⟨j, hj⟩ := hasB_iff.1 hy
        obtain ⟨x, hx1, hx2, hx3⟩ := entryN_at hi
        obtain ⟨y, hy1, hy2, hy3⟩ := entryN_at hj
        rw [Bool.eq_iff_iff]
        simp
        intro e
        rw [hx3, hy3] at e
        have hm1 : (l.map SumC.n)[i]? = some x.n := by rw [List.getElem?_map, hx1]; rfl
        have hm2 : (l.map SumC.n)[j]? = some x.n := by rw [List.getElem?_map, hy1, e]; rfl
        have hij : i = j := by
          have hi2 := (List.getElem?_eq_some_iff.1 hm1).1
          exact (List.getElem?_inj hi2 hu.2).1 (hm1.trans hm2.symm)
        subst hij
        rw [hx1] at hy1
        obtain rfl := Option.some.inj hy1
        rw [hx2] at hy2
        simp only [Prod.mk.injEq] at hy2
        exact hp hy2

theorem done_eq {e : Bool} (h : e = true) : Ending.returned (Value.bool e) = .returned (.bool true) := by rw [h]
attribute [local irreducible] wpStill
end Go.Proofs.Ytjnaknfnoibncaa
