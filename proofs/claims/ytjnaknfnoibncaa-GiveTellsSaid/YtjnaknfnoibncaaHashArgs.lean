/- A hash by value, as an argument: opened. Conditions: none. -/
import Derived.Test.YtjnaknfnoibncaaHashA
import Derived.Test.YtjnaknfnoibncaaSipArgs
import Derived.Deep.Slices
import Derived.Deep.Fields
import Derived.Deep.Strs
import Derived.Carry
import Derived.ChangeShapes
import Derived.Lib.SmallJoins
namespace Go.Proofs.Ytjnaknfnoibncaa
open Go Go.RowKit Go.Shelf
open Go.ChangeShapes Go.WideShapes Go.Deep Go.Joins

section
variable {H : Type} {enc : TypeId × Value → H} {W : World}
theorem add_block' (a : Addr) (i : Nat) : (a.add i).block = a.block := by unfold Addr.add; split <;> rfl
set_option maxRecDepth 100000 in
theorem one_sum {n : Nat} {a : Addr} {x : DataW H × List MemPlace} {cs : List Value} (hc : W.cells? 0 a 3 = some cs) (h : DataW.trod enc Try.prog W 0 (fun _ => true) true n 91 cs = some x) :
    ∃ s : SumC, s.fit ∧ x.2 = [] ∧ ∀ (i : Nat) (u : Value), s.cells[i]? = some u → W.cell? (a.add i) = some u := by
  obtain ⟨y0, y1, y2, m, rfl, _, h0, h1, h2⟩ := trod_struct3 Try.underlying91 h
  obtain ⟨_, hl, hat⟩ := World.cells?_some hc
  match cs, hl with
  | [c0, c1, c2], _ =>
    have k9 : Try.prog.cellsOf 9 = 1 := by kernel_rfl
    have k25 : Try.prog.cellsOf 44 = 1 := by kernel_rfl
    simp [k9, k25] at h0 h1 h2
    obtain ⟨s0, g0, rfl, b0⟩ := DataW.trod_string Try.underlying9 h0
    obtain ⟨s1, g1, rfl, b1⟩ := DataW.trod_string Try.underlying9 h1
    obtain ⟨s2, g2, rfl, b2⟩ := DataW.trod_int Try.underlying44 h2
    simp at g0 g1 g2
    subst g0 g1 g2
    have b3 := wf_u64 b2
    obtain ⟨z, rfl⟩ := Int.eq_ofNat_of_zero_le b3.1
    refine ⟨⟨s0, s1, z⟩, ⟨b0, b1, by show z < _; omega⟩, by simp, fun i u hu => ?_⟩
    have hi : i < 3 := (Array.getElem?_eq_some_iff.1 hu).1
    rw [hat i hi]
    simp only [SumC.cells] at hu
    match i, hi with
    | 0, _ => simpa using hu
    | 1, _ => simpa using hu
    | 2, _ => simpa using hu

set_option maxRecDepth 100000 in
theorem open_hash {r : Reach} {b0 : Nat} {v : Value} {d : DataW H} {ps : List MemPlace} (hv : Value.okWide Try.prog W r b0 24 v) (h : DataW.Trod enc Try.prog W 0 (fun _ => true) true 24 v d ps) :
    ∃ (o : Bool) (sv : Value) (l : List SumC), v = .agg #[.bool o, sv] ∧ SRow W sv 3 (l.map SumC.cells) ∧ (∀ x ∈ l, x.fit) ∧ ∀ x ∈ ps, x.block < W.heap.size := by
  obtain ⟨v0, v1, y0, y1, n, rfl, _, rfl, h0, h1⟩ := open_agg2 Try.underlying24 (by kernel_rfl) (by kernel_rfl) hv h
  obtain ⟨o, g0, rfl⟩ := DataW.trod_bool Try.underlying4 h0
  simp only [List.cons.injEq, and_true] at g0
  subst g0
  have k40 : Try.prog.cellsOf 91 = 3 := by kernel_rfl
  rcases open_slice Try.underlying22 h1 with ⟨hcs, rfl⟩ | ⟨a, len, cap, m, n2, D, Pl, hcs, _, hl, hm, hmm, rfl, hi⟩
  · simp only [List.cons.injEq, and_true] at hcs
    subst hcs
    exact ⟨o, _, [], rfl, SRow.nil W 3, by simp, by simp⟩
  · simp only [List.cons.injEq, and_true] at hcs
    subst hcs
    simp only [if_true] at hmm
    subst hmm
    rw [k40] at hi
    have hone : ∀ i, i < m → ∃ s : SumC, s.fit ∧ Pl i = [] ∧ ∀ (j : Nat) (u : Value), s.cells[j]? = some u → W.cell? ((a.add (i * 3)).add j) = some u := fun i him => by
      obtain ⟨cs, hc, ht⟩ := hi i him
      exact one_sum hc ht
    have hex : ∃ F : Nat → SumC, ∀ i, i < m → (F i).fit ∧ Pl i = [] ∧ ∀ (j : Nat) (u : Value), (F i).cells[j]? = some u → W.cell? ((a.add (i * 3)).add j) = some u := by
      refine ⟨fun i => if h : i < m then (hone i h).choose else ⟨⟨#[]⟩, ⟨#[]⟩, 0⟩, fun i h => ?_⟩
      simp only [dif_pos h]
      exact (hone i h).choose_spec
    obtain ⟨F, hF⟩ := hex
    have hblk : 0 < m → a.block < W.heap.size ∧ a.spot = none := fun h0 => by
      have h3 := (hF 0 h0).2.2 0 (.string (F 0).k) rfl
      have h4 := World.block_lt_of_cell? W _ h3
      rw [add_block', add_block'] at h4
      refine ⟨h4, ?_⟩
      have h5 := World.cell?_spot h3
      obtain ⟨b, off, spot⟩ := a
      cases spot with
      | none => rfl
      | some q => simp [Addr.add] at h5
    refine ⟨o, _, (List.range len).map F, rfl, ⟨some a, m, by simp, by simpa using hl, hm, fun k c hk => ?_⟩, fun x hx => ?_, fun x hx => ?_⟩
    · rw [List.map_map, List.getElem?_map] at hk
      obtain ⟨i, hi2, rfl⟩ := Option.map_eq_some_iff.1 hk
      have hlt : k < len := by
        have := (List.getElem?_eq_some_iff.1 hi2).1
        simpa using this
      have hik : i = k := by
        rw [List.getElem?_range hlt] at hi2
        exact (Option.some.inj hi2).symm
      subst hik
      obtain ⟨hb, hs⟩ := hblk (by omega)
      obtain ⟨b, off, spot⟩ := a
      simp only at hs
      subst hs
      refine ⟨b, off, rfl, rfl, fun j u hu => ?_⟩
      have h6 := (hF i (by omega)).2.2 j u hu
      rw [Addr.add_lit, Addr.add_lit] at h6
      exact h6
    · obtain ⟨i, hi2, rfl⟩ := List.mem_map.1 hx
      exact (hF i (by have := List.mem_range.1 hi2; omega)).1
    · simp only [List.nil_append, List.mem_append, List.mem_flatMap, List.mem_range] at hx
      rcases hx with hx | ⟨i, hi2, hx⟩
      · obtain ⟨i, hi2, rfl⟩ := List.mem_map.1 hx
        rw [k40] at hi2
        exact (hblk (by have := List.mem_range.1 hi2; omega)).1
      · rw [(hF i hi2).2.1] at hx
        cases hx
end
end Go.Proofs.Ytjnaknfnoibncaa
