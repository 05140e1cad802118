/- A slice of uint32 as an argument, and what a table of sums of stamps holds. Conditions: each says its own. -/
import Derived.Test.YtnfnjhphamadgaaHashF
import Derived.Test.YtnfnjhphamadgaaStampB
import Derived.Test.YtnfnjhphamadgaaKeyedPut
import Derived.ChangeShapes
namespace Go.Proofs.Ytnfnjhphamadgaa
open Go Go.RowKit Go.Shelf

/-- A slice of numbers. -/
def URow (W : World) (v : Value) (S : List Nat) : Prop :=
  ∃ ao cap, v = .slice ao S.length cap ∧ S.length ≤ cap ∧ cap ≤ maxLen ∧ ∀ (k x : Nat), S[k]? = some x → ∃ b off, ao = some ⟨b, off, none⟩ ∧ b < W.heap.size ∧ W.cell? ⟨b, off + k, none⟩ = some (.int .u32 (x : Int))
theorem URow.keep {A B : World} {v : Value} {S : List Nat} (k : Keeps (fun j => j < A.heap.size) A B) : URow A v S → URow B v S
  | ⟨ao, cap, e, h1, h2, hc⟩ => ⟨ao, cap, e, h1, h2, fun i x hi => by
    obtain ⟨b, off, e2, h3, h4⟩ := hc i x hi
    exact ⟨b, off, e2, Nat.lt_of_lt_of_le h3 k.size, k.cell h4 h3⟩⟩
theorem wf_u32' {n : Int} (h : (Lit.int .u32 n).wf = true) : 0 ≤ n ∧ n < 4294967296 := by
  simp [Lit.wf, IntKind.min, IntKind.max, IntKind.bits, IntKind.signed] at h
  omega
section
variable {H : Type} {enc : TypeId × Value → H} {P : Program} {W : World}
theorem open_u32s {r : Reach} {b0 : Nat} {t e : TypeId} {v : Value} {d : DataW H} {ps : List MemPlace} (ht : P.underlying t = some (.slice e)) (he : P.underlying e = some (.int .u32)) (hc : P.cellsOf e = 1)
    (hval : Value.okWide P W r b0 t v) (h : DataW.Trod enc P W 0 (fun _ => true) true t v d ps) :
    ∃ S : List Nat, URow W v S ∧ (∀ x ∈ S, x < 4294967296) ∧ ∀ x ∈ ps, x.block < W.heap.size := by
  obtain ⟨a0, len, cap, rfl⟩ := Go.WideShapes.okWide_slice ht hval
  obtain ⟨fuel, hf⟩ := h
  rcases Go.ChangeShapes.open_ints ht he hc hf with ⟨hcs, hx⟩ | ⟨a, len', cap', zs, hcs, _, hl, hm, hz, hx, hcell, hws⟩
  · simp [Value.cells] at hcs
    obtain ⟨rfl, rfl, rfl⟩ := hcs
    simp only [Prod.mk.injEq] at hx
    obtain ⟨_, rfl⟩ := hx
    exact ⟨[], ⟨none, 0, rfl, Nat.le_refl _, Nat.zero_le _, fun k x hk => by simp at hk⟩, by simp, by simp⟩
  · simp [Value.cells] at hcs
    obtain ⟨rfl, rfl, rfl⟩ := hcs
    simp only [Prod.mk.injEq] at hx
    obtain ⟨_, rfl⟩ := hx
    simp only [if_true] at hz
    have hb : ∀ i, i < zs.length → a.block < W.heap.size ∧ ∃ b off, a = ⟨b, off, none⟩ ∧ W.cell? ⟨b, off + i, none⟩ = some (.int .u32 (zs.getD i 0)) := fun i hi => by
      have h1 := hcell i (by omega)
      have h2 := World.block_lt_of_cell? W _ h1
      have h3 : (a.add i).block = a.block := by unfold Addr.add; split <;> rfl
      rw [h3] at h2
      obtain ⟨b, off, spot⟩ := a
      have hspot : spot = none := by
        have h4 := World.cell?_spot (hcell 0 (by omega))
        simpa [Addr.add] using h4
      subst hspot
      refine ⟨h2, b, off, rfl, ?_⟩
      rw [Addr.add_lit] at h1
      exact h1
    have hw : ∀ z ∈ zs, 0 ≤ z ∧ z < 4294967296 := fun z hz => wf_u32' (hws z hz)
    refine ⟨(zs.take len).map Int.toNat, ⟨some a, cap, by simp; omega, by simp; omega, hm, fun k x hk => ?_⟩, fun x hx => ?_, fun x hx => ?_⟩
    · rw [List.getElem?_map] at hk
      obtain ⟨z, hz1, rfl⟩ := Option.map_eq_some_iff.1 hk
      have hk2 := (List.getElem?_eq_some_iff.1 hz1).1
      rw [List.length_take] at hk2
      rw [List.getElem?_take_of_lt (by omega)] at hz1
      obtain ⟨h1, b, off, rfl, h2⟩ := hb k (by omega)
      refine ⟨b, off, rfl, h1, ?_⟩
      rw [h2, List.getD_eq_getElem?_getD, hz1]
      have := hw z (List.mem_of_getElem? hz1)
      simp only [Option.getD_some]
      rw [Int.toNat_of_nonneg this.1]
    · obtain ⟨z, hz1, rfl⟩ := List.mem_map.1 hx
      have := hw z (List.mem_of_mem_take hz1)
      omega
    · obtain ⟨i, hi, rfl⟩ := List.mem_map.1 hx
      exact (hb i (by have := List.mem_range.1 hi; omega)).1
end

/-- The table of the sums of stamps. -/
def stampT (key : ByteArray) (s : Nat) : SumC := ⟨key, bytesS s, sumV key (bytesS s)⟩
def addT (key : ByteArray) (L : List SumC) (s : Nat) : List SumC := if putE L key (bytesS s) = 0 then L ++ [stampT key s] else L
structure Tab (key : ByteArray) (S : List Nat) (L : List SumC) : Prop where
  from_ : ∀ x ∈ L, ∃ s ∈ S, x = stampT key s
  has : ∀ s ∈ S, stampT key s ∈ L
  one : (L.map SumC.pair).Nodup
  len : L.length ≤ S.length

theorem bytes_size (s : Nat) : (bytesS s).size = 8 := by
  show ((bytesM s 8).toArray).size = 8
  rw [List.size_toArray, bytesM_length]
theorem bytes_inj {s t : Nat} (hs : s < 4294967296) (ht : t < 4294967296) (h : bytesS s = bytesS t) : s = t := by
  unfold bytesS at h
  simp only [ByteArray.mk.injEq] at h
  have h2 : bytesM s 8 = bytesM t 8 := by simpa using congrArg Array.toList h
  have h3 := congrArg lowB h2
  rw [lowB_bytes, lowB_bytes] at h3
  omega
theorem sumE_stamp {key : ByteArray} (hk : key.size = 16) (s : Nat) : sumE key (bytesS s) = 0 := by
  unfold sumE
  rw [if_pos hk, if_pos (by rw [bytes_size]; decide)]
theorem findN_mem {k s : ByteArray} {L : List SumC} : findN k s L = none ↔ ∀ x ∈ L, x.pair ≠ (k, s) := by
  induction L with
  | nil => simp [findN]
  | cons y L ih =>
    unfold findN
    by_cases h : y.is k s
    · have h2 : y.pair = (k, s) := by rw [is_eq, decide_eq_true_iff] at h; exact h
      simp [h, h2]
    · have h2 : y.pair ≠ (k, s) := by rw [is_eq, decide_eq_true_iff] at h; exact h
      simp only [h, if_false, Bool.false_eq_true, Option.map_eq_none_iff, ih, List.forall_mem_cons]
      simp [h2]
theorem pair_stamp (key : ByteArray) (s : Nat) : (stampT key s).pair = (key, bytesS s) := rfl
theorem putE_stamp {key : ByteArray} (hk : key.size = 16) {L : List SumC} (hl : L.length < 4096) (s : Nat) : (putE L key (bytesS s) = 0 ∧ findN key (bytesS s) L = none) ∨ (putE L key (bytesS s) = 4 ∧ findN key (bytesS s) L ≠ none) := by
  unfold putE
  rw [if_neg (by rw [sumE_stamp hk]; decide)]
  by_cases h : 0 ≤ findI key (bytesS s) L
  · rw [if_pos h]
    refine .inr ⟨rfl, fun h2 => findI_neg.2 h2 h⟩
  · rw [if_neg h, if_neg (by omega)]
    exact .inl ⟨rfl, findI_neg.1 h⟩
theorem Tab.add {key : ByteArray} (hk : key.size = 16) {S : List Nat} {L : List SumC} (h : Tab key S L) (hl : S.length < 4096) (s : Nat) : Tab key (S ++ [s]) (addT key L s) := by
  have hll := h.len
  unfold addT
  rcases putE_stamp hk (L := L) (by omega) s with ⟨h1, h2⟩ | ⟨h1, h2⟩
  · rw [if_pos h1]
    have hm := findN_mem.1 h2
    refine ⟨fun x hx => ?_, fun t ht => ?_, ?_, by simp; omega⟩
    · rcases List.mem_append.1 hx with hx | hx
      · obtain ⟨t, ht, e⟩ := h.from_ x hx
        exact ⟨t, List.mem_append_left _ ht, e⟩
      · rw [List.mem_singleton] at hx
        exact ⟨s, by simp, hx⟩
    · rcases List.mem_append.1 ht with ht | ht
      · exact List.mem_append_left _ (h.has t ht)
      · rw [List.mem_singleton] at ht
        subst ht
        simp
    · rw [List.map_append, List.nodup_append]
      refine ⟨h.one, by simp, fun a ha b hb e => ?_⟩
      simp only [List.map_cons, List.map_nil, List.mem_singleton] at hb
      obtain ⟨y, hy, rfl⟩ := List.mem_map.1 ha
      exact hm y hy (by rw [e, hb, pair_stamp])
  · rw [if_neg (by rw [h1]; decide)]
    refine ⟨fun x hx => ?_, fun t ht => ?_, h.one, by simp; omega⟩
    · obtain ⟨t, ht, e⟩ := h.from_ x hx
      exact ⟨t, List.mem_append_left _ ht, e⟩
    · rcases List.mem_append.1 ht with ht | ht
      · exact h.has t ht
      · rw [List.mem_singleton] at ht
        subst ht
        have hx : ∃ x ∈ L, x.pair = (key, bytesS t) := by
          refine Classical.byContradiction fun hn => h2 (findN_mem.2 fun x hx e => hn ⟨x, hx, e⟩)
        obtain ⟨x, hx, e⟩ := hx
        obtain ⟨u, _, rfl⟩ := h.from_ x hx
        rw [pair_stamp] at e
        simp only [Prod.mk.injEq, true_and] at e
        have : stampT key u = stampT key t := by unfold stampT; rw [e]
        rw [← this]
        exact hx
theorem Tab.entry {key : ByteArray} {S : List Nat} {L : List SumC} (h : Tab key S L) {s : Nat} (hs : s ∈ S) : entryN key (bytesS s) L = sumV key (bytesS s) := by
  have hne : findN key (bytesS s) L ≠ none := fun hn => findN_mem.1 hn _ (h.has s hs) (pair_stamp key s)
  obtain ⟨i, hi⟩ := Option.ne_none_iff_exists'.1 hne
  obtain ⟨x, hx, he⟩ := findN_some hi
  rw [is_eq, decide_eq_true_iff] at he
  unfold entryN
  rw [hi]
  simp only [hx, Option.map_some, Option.getD_some]
  obtain ⟨u, _, rfl⟩ := h.from_ x (List.mem_of_getElem? hx)
  rw [pair_stamp] at he
  simp only [Prod.mk.injEq, true_and] at he
  show sumV key (bytesS u) = _
  rw [he]
theorem Tab.known {key : ByteArray} {S : List Nat} {L : List SumC} (h : Tab key S L) (hS : ∀ x ∈ S, x < 4294967296) {o : Nat} (ho : o < 4294967296) : decide (0 ≤ findI key (bytesS o) L) = decide (o ∈ S) := by
  rw [Bool.eq_iff_iff, decide_eq_true_iff, decide_eq_true_iff]
  constructor
  · intro h0
    have hne : findN key (bytesS o) L ≠ none := fun hn => findI_neg.2 hn h0
    obtain ⟨i, hi⟩ := Option.ne_none_iff_exists'.1 hne
    obtain ⟨x, hx, he⟩ := findN_some hi
    rw [is_eq, decide_eq_true_iff] at he
    obtain ⟨u, hu, rfl⟩ := h.from_ x (List.mem_of_getElem? hx)
    rw [pair_stamp] at he
    simp only [Prod.mk.injEq, true_and] at he
    rw [← bytes_inj (hS u hu) ho he]
    exact hu
  · intro hm
    refine Decidable.byContradiction fun h0 => ?_
    exact findN_mem.1 (findI_neg.1 h0) _ (h.has o hm) (pair_stamp key o)
theorem Tab.right {key : ByteArray} (hk : key.size = 16) {S : List Nat} {L : List SumC} (h : Tab key S L) (hl : S.length ≤ 4096) : checkE L = 0 := by
  unfold checkE rightB
  rw [decide_eq_true (show Right L from ⟨Nat.le_trans h.len hl, fun x hx => by obtain ⟨u, _, rfl⟩ := h.from_ x hx; exact hk, h.one⟩)]
  rfl
theorem Tab.fit {key : ByteArray} (hk : key.size = 16) {S : List Nat} {L : List SumC} (h : Tab key S L) : ∀ x ∈ L, x.k.size ≤ maxLen ∧ x.s.size ≤ maxLen := fun x hx => by
  obtain ⟨u, _, rfl⟩ := h.from_ x hx
  refine ⟨by show key.size ≤ _; rw [hk]; decide, by show (bytesS u).size ≤ _; rw [bytes_size]; decide⟩
end Go.Proofs.Ytnfnjhphamadgaa
