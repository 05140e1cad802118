/- Arguments that are slices of strings, or of bools: what the walk knows of them. Conditions: none; it speaks of any program. -/
import Derived.Test.YteoelhhkdfmaiaaPackM
import Derived.SliceStrings
import Derived.Deep.Grids
import Derived.Carry
import Derived.ChangeShapes
namespace Go.Proofs.Yteoelhhkdfmaiaa
open Go Go.RowKit Go.Shelf

/-- A slice whose cells are what V says. -/
def RowO (W : World) (sv : Value) (n : Nat) (V : Nat → Value) : Prop :=
  ∃ ao cap, sv = .slice ao n cap ∧ n ≤ cap ∧ cap ≤ maxLen ∧ ∀ k, k < n → ∃ b off, ao = some ⟨b, off, none⟩ ∧ W.cell? ⟨b, off + k, none⟩ = some (V k)
theorem RowO.ext {A B : World} (h : Ext A B) {sv : Value} {n : Nat} {V : Nat → Value} : RowO A sv n V → RowO B sv n V
  | ⟨ao, cap, e, h1, h2, hc⟩ => ⟨ao, cap, e, h1, h2, fun k hk => by
    obtain ⟨b, off, e2, h3⟩ := hc k hk
    exact ⟨b, off, e2, h.keeps.cell h3 trivial⟩⟩
theorem row_lt {W : World} {a : Addr} {n : Nat} {V : Nat → Value} (h : ∀ i, i < n → W.cell? (a.add i) = some (V i)) : ∀ x ∈ MemPlace.row a n, x.block < W.heap.size := by
  intro x hx
  obtain ⟨i, hi, rfl⟩ := List.mem_map.1 hx
  have h1 := h i (List.mem_range.1 hi)
  have h2 := World.block_lt_of_cell? W _ h1
  have h3 : (a.add i).block = a.block := by unfold Addr.add; split <;> rfl
  rw [h3] at h2
  exact h2
theorem row_at {W : World} {a : Addr} {n : Nat} {V : Nat → Value} (h : ∀ i, i < n → W.cell? (a.add i) = some (V i)) (k : Nat) (hk : k < n) : ∃ b off, some a = some (⟨b, off, none⟩ : Addr) ∧ W.cell? ⟨b, off + k, none⟩ = some (V k) := by
  obtain ⟨b, off, spot⟩ := a
  have hspot : spot = none := by
    have := World.cell?_spot (h 0 (by omega))
    simpa [Addr.add] using this
  subst hspot
  refine ⟨b, off, rfl, ?_⟩
  have := h k hk
  have hp : (⟨b, off, none⟩ : Addr).add k = ⟨b, off + k, none⟩ := by unfold Addr.add; split <;> simp_all
  rwa [hp] at this

section
variable {H : Type} {enc : TypeId × Value → H} {P : Program} {W : World}
theorem open_strsO {r : Reach} {b0 : Nat} {t e : TypeId} {v : Value} {d : DataW H} {ps : List MemPlace} (ht : P.underlying t = some (.slice e)) (he : P.underlying e = some .string) (hc : P.cellsOf e = 1)
    (hval : Value.okWide P W r b0 t v) (h : DataW.Trod enc P W 0 (fun _ => true) true t v d ps) :
    ∃ ls : List ByteArray, RowO W v ls.length (fun k => .string (ls[k]?.getD ⟨#[]⟩)) ∧ (∀ x ∈ ls, x.size ≤ maxLen) ∧ ∀ x ∈ ps, x.block < W.heap.size := by
  obtain ⟨a0, len, cap, rfl⟩ := Go.WideShapes.okWide_slice ht hval
  obtain ⟨fuel, hf⟩ := h
  rcases Go.ChangeShapes.open_strings ht he hc hf with ⟨hcs, hx⟩ | ⟨a, len', cap', ss, hcs, _, hl, hm, hz, hx, hcell, hws⟩
  · simp [Value.cells] at hcs
    obtain ⟨rfl, rfl, rfl⟩ := hcs
    simp only [Prod.mk.injEq] at hx
    obtain ⟨_, rfl⟩ := hx
    exact ⟨[], ⟨none, 0, rfl, Nat.le_refl _, Nat.zero_le _, fun k hk => by simp at hk⟩, by simp, by simp⟩
  · simp [Value.cells] at hcs
    obtain ⟨rfl, rfl, rfl⟩ := hcs
    simp only [Prod.mk.injEq] at hx
    obtain ⟨_, rfl⟩ := hx
    simp only [if_true] at hz
    have hlen : (ss.take len).length = len := by rw [List.length_take]; omega
    refine ⟨ss.take len, ⟨some a, cap, by rw [hlen], by omega, hm, fun k hk => ?_⟩, fun x hx => hws x (List.mem_of_mem_take hx), ?_⟩
    · rw [hlen] at hk
      obtain ⟨b, off, e1, e2⟩ := row_at hcell k (by omega)
      refine ⟨b, off, e1, ?_⟩
      rw [e2]
      show some (Value.string (ss.getD k ByteArray.empty)) = some (Value.string ((List.take len ss)[k]?.getD ⟨#[]⟩))
      rw [List.getElem?_take_of_lt hk, List.getD_eq_getElem?_getD]
      rfl
    · exact row_lt hcell
theorem open_boolsO {r : Reach} {b0 : Nat} {t e : TypeId} {v : Value} {d : DataW H} {ps : List MemPlace} (ht : P.underlying t = some (.slice e)) (he : P.underlying e = some .bool) (hc : P.cellsOf e = 1)
    (hval : Value.okWide P W r b0 t v) (h : DataW.Trod enc P W 0 (fun _ => true) true t v d ps) :
    ∃ (n : Nat) (B : Nat → Bool), RowO W v n (fun k => .bool (B k)) ∧ ∀ x ∈ ps, x.block < W.heap.size := by
  obtain ⟨a0, len, cap, rfl⟩ := Go.WideShapes.okWide_slice ht hval
  obtain ⟨fuel, hf⟩ := h
  rcases Go.Deep.open_bools ht he hc hf with ⟨hcs, hx⟩ | ⟨a, len', cap', B, hcs, _, hl, hm, hx, hcell⟩
  · simp [Value.cells] at hcs
    obtain ⟨rfl, rfl, rfl⟩ := hcs
    simp only [Prod.mk.injEq] at hx
    obtain ⟨_, rfl⟩ := hx
    exact ⟨0, fun _ => false, ⟨none, 0, rfl, Nat.le_refl _, Nat.zero_le _, fun k hk => by simp at hk⟩, by simp⟩
  · simp [Value.cells] at hcs
    obtain ⟨rfl, rfl, rfl⟩ := hcs
    simp only [Prod.mk.injEq] at hx
    obtain ⟨_, rfl⟩ := hx
    exact ⟨len, B, ⟨some a, cap, rfl, hl, hm, fun k hk => row_at hcell k (by omega)⟩, row_lt hcell⟩
end

end Go.Proofs.Yteoelhhkdfmaiaa
