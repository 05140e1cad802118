/- What pack's writer does: New, Raw, Len, Out. Conditions: a writer that New made; texts of a bound. -/
import Derived.Test.YtmmjhdkoccpdjaaPackH
namespace Go.Proofs.Ytmmjhdkoccpdjaa
open Go Go.RowKit Go.Shelf
attribute [local go_sem] Oper.semAt_some wide_fn wide_depth

/-- A writer. -/
structure Wr where
  bytes : List UInt8
  limit : Int
  full : Bool
  rests : List (List UInt8 × Nat)
def Wr.ok (q : Wr) : Prop := q.bytes.length ≤ 4294967296 ∧ q.limit ≤ 4294967296 ∧ -9223372036854775808 ≤ q.limit ∧ q.rests.length ≤ q.bytes.length ∧ ∀ p ∈ q.rests, p.2 < 16384

/-- Block B is the writer q; none of its blocks is one of which G holds. -/
structure WrIs (W : World) (B mb : Nat) (bv : Value) (G : Nat → Prop) (q : Wr) : Prop where
  blk : W.heap[B]? = some (.cells #[bv, .int .i64 q.limit, .bool q.full, .map (some mb)] 97 (0, 0))
  own : W.ownsRow 0 5 1 bv q.bytes.length (Lib.byteCells q.bytes)
  map : MapIs W mb q.rests
  mbB : mb ≠ B
  bvB : bv.ownBlock ≠ some B
  bvm : bv.ownBlock ≠ some mb
  out : ∀ k, G k → k < W.heap.size ∧ k ≠ B ∧ k ≠ mb ∧ bv.ownBlock ≠ some k
def WrAt (W : World) (B : Nat) (G : Nat → Prop) (q : Wr) : Prop := ∃ mb bv, WrIs W B mb bv G q

theorem WrIs.lt {W : World} {B mb : Nat} {bv : Value} {G : Nat → Prop} {q : Wr} (h : WrIs W B mb bv G q) : B < W.heap.size ∧ mb < W.heap.size ∧ ∀ k, bv.ownBlock = some k → k < W.heap.size :=
  ⟨(Array.getElem?_eq_some_iff.1 h.blk).1, h.map.lt, fun k hk => (h.own.lt k hk).2⟩
theorem WrIs.cells {W : World} {B mb : Nat} {bv : Value} {G : Nat → Prop} {q : Wr} (h : WrIs W B mb bv G q) :
    W.cell? ⟨B, 0, none⟩ = some bv ∧ W.cell? ⟨B, 1, none⟩ = some (.int .i64 q.limit) ∧ W.cell? ⟨B, 2, none⟩ = some (.bool q.full) ∧ W.cell? ⟨B, 3, none⟩ = some (.map (some mb)) ∧
      W.frozen? ⟨B, 0, none⟩ = false ∧ W.frozen? ⟨B, 2, none⟩ = false := by
  have := h.blk
  refine ⟨?_, ?_, ?_, ?_, ?_, ?_⟩ <;> simp [World.cell?, World.frozen?, this]
/-- What else happens leaves a writer, if it leaves its blocks. -/
theorem WrIs.keep {W W' : World} {B mb : Nat} {bv : Value} {G : Nat → Prop} {q : Wr} (h : WrIs W B mb bv G q) {K : Nat → Prop} (k : Keeps K W W') (hB : K B) (hm : K mb) (hb : ∀ j, bv.ownBlock = some j → K j) : WrIs W' B mb bv G q := by
  refine ⟨k.heap h.blk hB, ?_, h.map.keep k hm, h.mbB, h.bvB, h.bvm, fun j hj => ?_⟩
  · refine ⟨h.own.1, ?_⟩
    rcases h.own.2 with hn | ⟨g, cap, cur, rfl, hb', hgg, rest⟩
    · exact .inl hn
    · exact .inr ⟨g, cap, cur, rfl, hb', k.heap hgg (hb g rfl), rest⟩
  · have := h.out j hj
    exact ⟨Nat.lt_of_lt_of_le this.1 k.size, this.2⟩
theorem WrAt.ext {W W' : World} {B : Nat} {G : Nat → Prop} {q : Wr} (h : WrAt W B G q) (k : Ext W W') : WrAt W' B G q := by
  obtain ⟨mb, bv, h⟩ := h
  exact ⟨mb, bv, h.keep k.keeps trivial trivial fun _ _ => trivial⟩
/-- What was laid since is none of a writer's blocks. -/
theorem WrAt.more {W W' : World} {B : Nat} {G : Nat → Prop} {q : Wr} (h : WrAt W B G q) (k : Ext W W') : WrAt W' B (fun j => G j ∨ (W.heap.size ≤ j ∧ j < W'.heap.size)) q := by
  obtain ⟨mb, bv, h⟩ := h
  obtain ⟨l1, l2, l3⟩ := h.lt
  have h' := h.keep k.keeps trivial trivial fun _ _ => trivial
  refine ⟨mb, bv, ⟨h'.blk, h'.own, h'.map, h'.mbB, h'.bvB, h'.bvm, fun j hj => ?_⟩⟩
  rcases hj with hj | ⟨h1, h2⟩
  · exact h'.out j hj
  · exact ⟨h2, by omega, by omega, fun e => by have := l3 j e; omega⟩
theorem WrAt.mono {W : World} {B : Nat} {G G' : Nat → Prop} {q : Wr} (h : WrAt W B G q) (s : ∀ k, G' k → G k) : WrAt W B G' q := by
  obtain ⟨mb, bv, h⟩ := h
  exact ⟨mb, bv, ⟨h.blk, h.own, h.map, h.mbB, h.bvB, h.bvm, fun j hj => h.out j (s j hj)⟩⟩
/-- What keeps a writer's blocks, and turns none of G. -/
theorem WrAt.keep {W W' : World} {B : Nat} {G : Nat → Prop} {q : Wr} (h : WrAt W B G q) {K : Nat → Prop} (k : Keeps K W W') (hK : ∀ j, j < W.heap.size → ¬ G j → K j) (hB : K B) : WrAt W' B G q ∨ ∃ j, G j ∧ ¬ K j := by
  obtain ⟨mb, bv, h⟩ := h
  obtain ⟨l1, l2, l3⟩ := h.lt
  refine .inl ⟨mb, bv, h.keep k hB (hK mb l2 fun hg => (h.out mb hg).2.2.1 rfl) fun j hj => hK j (l3 j hj) fun hg => (h.out j hg).2.2.2 hj⟩

set_option maxHeartbeats 1000000 in
theorem New_any (limit : Int) (w : World) :
    Calls Try.prog 39 #[.int .i64 limit] w fun e w' => e = .returned (.pointer (some ⟨w.heap.size + 1, 0, none⟩)) ∧ WrAt w' (w.heap.size + 1) (fun k => k < w.heap.size) ⟨[], limit, false, []⟩ ∧ Ext w w' := by
  have hmm := @run_makeMap Try.prog
  go_enter Try.func39, Try.ntmps39
  go_wp2
  go_ret
  refine ⟨rfl, ⟨w.heap.size, .slice none 0 0, ?_, World.ownsRow_nil _ _ _ _, ?_, by omega, by simp [Value.ownBlock], by simp [Value.ownBlock], fun k hk => ⟨by simp; omega, by omega, by omega, by simp [Value.ownBlock]⟩⟩, ((Ext.refl _).alloc _).alloc _⟩
  · have := World.alloc_heap_new (w.alloc (.map #[] 0)) (.cells #[.slice none 0 0, .int .i64 limit, .bool false, .map (some w.heap.size)] 97)
    rw [World.size_alloc] at this
    exact this
  · exact (MapIs.new w).keep ((Keeps.refl (fun _ => True) _).alloc _) trivial

set_option maxHeartbeats 1000000 in
theorem Len_any (B : Nat) (G : Nat → Prop) (q : Wr) (w : World) (h : WrAt w B G q) :
    Calls Try.prog 66 #[.pointer (some ⟨B, 0, none⟩)] w fun e w' => e = .returned (.int .i64 (q.bytes.length : Int)) ∧ w = w' := by
  obtain ⟨mb, bv, h⟩ := h
  obtain ⟨c0, c1, c2, c3, f0, f2⟩ := h.cells
  obtain ⟨ao, cap, rfl⟩ := ownsRow_slice h.own
  clear h c1 c2 c3 f0 f2
  go_enter Try.func66, Try.ntmps66
  go_wp2
  go_ret
  exact ⟨rfl, rfl⟩

/-- What Out answers. -/
def outR (q : Wr) : ByteArray × Int := if q.full then (⟨#[]⟩, 7) else (⟨q.bytes.toArray⟩, 0)
set_option maxHeartbeats 1000000 in
theorem Out_any (B : Nat) (G : Nat → Prop) (q : Wr) (w : World) (h : WrAt w B G q) :
    Calls Try.prog 44 #[.pointer (some ⟨B, 0, none⟩)] w fun e w' => e = .returned (.tuple #[.string (outR q).1, .int .i64 (outR q).2]) ∧ w = w' := by
  obtain ⟨mb, bv, h⟩ := h
  obtain ⟨c0, c1, c2, c3, f0, f2⟩ := h.cells
  have hback := bytes_back rfl h.own
  obtain ⟨bs, limit, full, rests⟩ := q
  simp only at c0 c1 c2 c3 hback
  obtain ⟨ao, cap, rfl⟩ := ownsRow_slice h.own
  clear h c1 c3 f0 f2
  cases full with
  | true =>
    go_enter Try.func44, Try.ntmps44
    go_wp2
    go_ret2
    exact ⟨rfl, rfl⟩
  | false =>
    go_enter Try.func44, Try.ntmps44
    go_wp2
    go_ret2
    exact ⟨rfl, rfl⟩

end Go.Proofs.Ytmmjhdkoccpdjaa
