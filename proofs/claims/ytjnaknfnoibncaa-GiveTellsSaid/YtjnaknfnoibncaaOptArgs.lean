/- What an OPT record says, and secrets, by value, as arguments: opened. Conditions: none. -/
import Derived.Test.YtjnaknfnoibncaaOptA
import Derived.Test.YtjnaknfnoibncaaHashArgs
namespace Go.Proofs.Ytjnaknfnoibncaa
open Go Go.RowKit Go.Shelf
open Go.ChangeShapes Go.WideShapes Go.Deep Go.Joins

section
variable {H : Type} {enc : TypeId × Value → H} {W : World}
theorem array6 {α : Type} {cs : Array α} (h : cs.size = 6) : ∃ c0 c1 c2 c3 c4 c5, cs = #[c0, c1, c2, c3, c4, c5] := by
  obtain ⟨l⟩ := cs
  match l, h with
  | [c0, c1, c2, c3, c4, c5], _ => exact ⟨c0, c1, c2, c3, c4, c5, rfl⟩
theorem open_agg6 {P : Program} {w : World} {base : Nat} {spare : Nat → Bool} {held : Bool} {r : Reach} {b0 : Nat} {t : TypeId} {f0 f1 f2 f3 f4 f5 : Field} {v : Value} {d : DataW H} {p : List MemPlace} (hs : P.underlying t = some (.struct #[f0, f1, f2, f3, f4, f5])) (hone : oneCellFields P #[f0, f1, f2, f3, f4, f5] = true) (hC : P.cellsOf t = 6)
    (hv : Value.okWide P w r b0 t v) (h : DataW.Trod enc P w base spare held t v d p) :
    ∃ (v0 v1 v2 v3 v4 v5 : Value) (y0 y1 y2 y3 y4 y5 : DataW H × List MemPlace) (n : Nat), v = .agg #[v0, v1, v2, v3, v4, v5] ∧ p = y0.2 ++ (y1.2 ++ (y2.2 ++ (y3.2 ++ (y4.2 ++ y5.2)))) ∧
      DataW.trod enc P w base spare held n f0.type [v0] = some y0 ∧ DataW.trod enc P w base spare held n f1.type [v1] = some y1 ∧ DataW.trod enc P w base spare held n f2.type [v2] = some y2 ∧ DataW.trod enc P w base spare held n f3.type [v3] = some y3 ∧ DataW.trod enc P w base spare held n f4.type [v4] = some y4 ∧ DataW.trod enc P w base spare held n f5.type [v5] = some y5 := by
  obtain ⟨cs, rfl, hsz⟩ := okWide_struct hs hv
  obtain ⟨c0, c1, c2, c3, c4, c5, rfl⟩ := array6 (hsz.trans hC)
  obtain ⟨fuel, hf⟩ := h
  obtain ⟨xs, n, _, he, hl, hlen, hg⟩ := DataW.trod_struct hs hf
  match xs, hlen with
  | [y0, y1, y2, y3, y4, y5], _ =>
    obtain ⟨o0, k0⟩ := hone_of hone 0 f0 rfl
    obtain ⟨o1, k1⟩ := hone_of hone 1 f1 rfl
    obtain ⟨o2, k2⟩ := hone_of hone 2 f2 rfl
    obtain ⟨o3, k3⟩ := hone_of hone 3 f3 rfl
    obtain ⟨o4, k4⟩ := hone_of hone 4 f4 rfl
    obtain ⟨o5, k5⟩ := hone_of hone 5 f5 rfl
    simp only [Prod.mk.injEq] at he
    refine ⟨c0, c1, c2, c3, c4, c5, y0, y1, y2, y3, y4, y5, n, rfl, by rw [he.2]; simp, ?_, ?_, ?_, ?_, ?_, ?_⟩
    · have := hg 0 f0 rfl; simpa [Value.cells, o0, k0] using this
    · have := hg 1 f1 rfl; simpa [Value.cells, o1, k1] using this
    · have := hg 2 f2 rfl; simpa [Value.cells, o2, k2] using this
    · have := hg 3 f3 rfl; simpa [Value.cells, o3, k3] using this
    · have := hg 4 f4 rfl; simpa [Value.cells, o4, k4] using this
    · have := hg 5 f5 rfl; simpa [Value.cells, o5, k5] using this

set_option maxRecDepth 100000 in
theorem open_secs {r : Reach} {b0 : Nat} {v : Value} {d : DataW H} {ps : List MemPlace} (hv : Value.okWide Try.prog W r b0 50 v) (h : DataW.Trod enc Try.prog W 0 (fun _ => true) true 50 v d ps) :
    ∃ (a b : ByteArray), v = .agg #[.string a, .string b] ∧ (a.size ≤ maxLen ∧ b.size ≤ maxLen) ∧ ∀ x ∈ ps, x.block < W.heap.size := by
  obtain ⟨v0, v1, y0, y1, n, rfl, _, rfl, h0, h1⟩ := open_agg2 Try.underlying50 (by kernel_rfl) (by kernel_rfl) hv h
  obtain ⟨s0, g0, rfl, b0⟩ := DataW.trod_string Try.underlying9 h0
  obtain ⟨s1, g1, rfl, b1⟩ := DataW.trod_string Try.underlying9 h1
  simp only [List.cons.injEq, and_true] at g0 g1
  subst g0 g1
  exact ⟨s0, s1, rfl, ⟨b0, b1⟩, by simp⟩

theorem wf_nat16 {n : Int} (h : (Lit.int .u16 n).wf = true) : ∃ m : Nat, n = (m : Int) ∧ m < 65536 := by
  have h2 : 0 ≤ n ∧ n < 65536 := by
    have e1 : IntKind.u16.min = 0 := rfl
    have e2 : IntKind.u16.max = 65535 := rfl
    simp [Lit.wf] at h
    omega
  exact ⟨n.toNat, by omega, by omega⟩
theorem wf_nat8 {n : Int} (h : (Lit.int .u8 n).wf = true) : ∃ m : Nat, n = (m : Int) ∧ m < 256 := by
  have h2 : 0 ≤ n ∧ n < 256 := by
    have e1 : IntKind.u8.min = 0 := rfl
    have e2 : IntKind.u8.max = 255 := rfl
    simp [Lit.wf] at h
    omega
  exact ⟨n.toNat, by omega, by omega⟩

theorem wf_nat32 {n : Int} (h : (Lit.int .u32 n).wf = true) : ∃ m : Nat, n = (m : Int) ∧ m < 4294967296 := by
  have h2 : 0 ≤ n ∧ n < 4294967296 := by
    have e1 : IntKind.u32.min = 0 := rfl
    have e2 : IntKind.u32.max = 4294967295 := rfl
    simp [Lit.wf] at h
    omega
  exact ⟨n.toNat, by omega, by omega⟩

set_option maxRecDepth 100000 in
theorem one_opt {n : Nat} {a : Addr} {x : DataW H × List MemPlace} {cs : List Value} (hc : W.cells? 0 a 2 = some cs) (h : DataW.trod enc Try.prog W 0 (fun _ => true) true n 72 cs = some x) :
    ∃ s : OptC, s.fit ∧ x.2 = [] ∧ ∀ (i : Nat) (u : Value), s.cells[i]? = some u → W.cell? (a.add i) = some u := by
  obtain ⟨y0, y1, m, rfl, _, h0, h1⟩ := trod_struct2 Try.underlying72 h
  obtain ⟨_, hl, hat⟩ := World.cells?_some hc
  match cs, hl with
  | [c0, c1], _ =>
    have k9 : Try.prog.cellsOf 9 = 1 := by kernel_rfl
    have k25 : Try.prog.cellsOf 26 = 1 := by kernel_rfl
    simp [k9, k25] at h0 h1
    obtain ⟨s0, g0, rfl, b0⟩ := DataW.trod_int Try.underlying26 h0
    obtain ⟨s1, g1, rfl, b1⟩ := DataW.trod_string Try.underlying9 h1
    simp at g0 g1
    subst g0 g1
    obtain ⟨z, rfl, b3⟩ := wf_nat16 b0
    refine ⟨⟨z, s1⟩, ⟨by show z < _; omega, b1⟩, by simp, fun i u hu => ?_⟩
    have hi : i < 2 := (Array.getElem?_eq_some_iff.1 hu).1
    rw [hat i hi]
    simp only [OptC.cells] at hu
    match i, hi with
    | 0, _ => simpa using hu
    | 1, _ => simpa using hu

set_option maxRecDepth 100000 in
theorem open_edns {r : Reach} {b0 : Nat} {v : Value} {d : DataW H} {ps : List MemPlace} (hv : Value.okWide Try.prog W r b0 29 v) (h : DataW.Trod enc Try.prog W 0 (fun _ => true) true 29 v d ps) :
    ∃ (e : EdC) (sv : Value) (l : List OptC), v = .agg (e.cells sv) ∧ SRow W sv 2 (l.map OptC.cells) ∧ (∀ x ∈ l, x.fit) ∧ ∀ x ∈ ps, x.block < W.heap.size := by
  obtain ⟨v0, v1, v2, v3, v4, v5, y0, y1, y2, y3, y4, y5, n, rfl, rfl, h0, h1, h2, h3, h4, h5⟩ := open_agg6 Try.underlying29 (by kernel_rfl) (by kernel_rfl) hv h
  obtain ⟨o, g0, rfl⟩ := DataW.trod_bool Try.underlying4 h0
  obtain ⟨s1, g1, rfl, b1⟩ := DataW.trod_int Try.underlying26 h1
  obtain ⟨s2, g2, rfl, b2⟩ := DataW.trod_int Try.underlying5 h2
  obtain ⟨s3, g3, rfl, b3⟩ := DataW.trod_int Try.underlying5 h3
  obtain ⟨s4, g4, rfl, b4⟩ := DataW.trod_int Try.underlying26 h4
  simp only [List.cons.injEq, and_true] at g0 g1 g2 g3 g4
  subst g0 g1 g2 g3 g4
  obtain ⟨z1, rfl, _⟩ := wf_nat16 b1
  obtain ⟨z2, rfl, _⟩ := wf_nat8 b2
  obtain ⟨z3, rfl, _⟩ := wf_nat8 b3
  obtain ⟨z4, rfl, _⟩ := wf_nat16 b4
  have k40 : Try.prog.cellsOf 72 = 2 := by kernel_rfl
  rcases open_slice Try.underlying27 h5 with ⟨hcs, rfl⟩ | ⟨a, len, cap, m, n2, D, Pl, hcs, _, hl, hm, hmm, rfl, hi⟩
  · simp only [List.cons.injEq, and_true] at hcs
    subst hcs
    exact ⟨⟨o, z1, z2, z3, z4⟩, _, [], rfl, SRow.nil W 2, by simp, by simp⟩
  · simp only [List.cons.injEq, and_true] at hcs
    subst hcs
    simp only [if_true] at hmm
    subst hmm
    rw [k40] at hi
    have hone : ∀ i, i < m → ∃ s : OptC, s.fit ∧ Pl i = [] ∧ ∀ (j : Nat) (u : Value), s.cells[j]? = some u → W.cell? ((a.add (i * 2)).add j) = some u := fun i him => by
      obtain ⟨cs, hc, ht⟩ := hi i him
      exact one_opt hc ht
    have hex : ∃ F : Nat → OptC, ∀ i, i < m → (F i).fit ∧ Pl i = [] ∧ ∀ (j : Nat) (u : Value), (F i).cells[j]? = some u → W.cell? ((a.add (i * 2)).add j) = some u := by
      refine ⟨fun i => if h : i < m then (hone i h).choose else ⟨0, ⟨#[]⟩⟩, fun i h => ?_⟩
      simp only [dif_pos h]
      exact (hone i h).choose_spec
    obtain ⟨F, hF⟩ := hex
    have hblk : 0 < m → a.block < W.heap.size ∧ a.spot = none := fun h0 => by
      have h3 := (hF 0 h0).2.2 0 (.int .u16 ((F 0).c : Int)) rfl
      have h4 := World.block_lt_of_cell? W _ h3
      rw [add_block', add_block'] at h4
      refine ⟨h4, ?_⟩
      have h5 := World.cell?_spot h3
      obtain ⟨b, off, spot⟩ := a
      cases spot with
      | none => rfl
      | some q => simp [Addr.add] at h5
    refine ⟨⟨o, z1, z2, z3, z4⟩, _, (List.range len).map F, rfl, ⟨some a, m, by simp, by simpa using hl, hm, fun k c hk => ?_⟩, fun x hx => ?_, fun x hx => ?_⟩
    · rw [List.map_map, List.getElem?_map] at hk
      obtain ⟨i, hi2, rfl⟩ := Option.map_eq_some_iff.1 hk
      have hlt : k < len := by
        have := (List.getElem?_eq_some_iff.1 hi2).1
        simpa using this
      have hik : i = k := by
        rw [List.getElem?_range hlt] at hi2
        exact (Option.some.inj hi2).symm
      subst hik
      obtain ⟨hb, hs⟩ := hblk (by omega)
      obtain ⟨b, off, spot⟩ := a
      simp only at hs
      subst hs
      refine ⟨b, off, rfl, rfl, fun j u hu => ?_⟩
      have h6 := (hF i (by omega)).2.2 j u hu
      rw [Addr.add_lit, Addr.add_lit] at h6
      exact h6
    · obtain ⟨i, hi2, rfl⟩ := List.mem_map.1 hx
      exact (hF i (by have := List.mem_range.1 hi2; omega)).1
    · simp only [List.nil_append, List.mem_append, List.mem_flatMap, List.mem_range] at hx
      rcases hx with hx | ⟨i, hi2, hx⟩
      · obtain ⟨i, hi2, rfl⟩ := List.mem_map.1 hx
        rw [k40] at hi2
        exact (hblk (by have := List.mem_range.1 hi2; omega)).1
      · rw [(hF i hi2).2.1] at hx
        cases hx
end
end Go.Proofs.Ytjnaknfnoibncaa
