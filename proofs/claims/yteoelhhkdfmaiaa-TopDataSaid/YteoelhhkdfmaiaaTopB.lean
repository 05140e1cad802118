/- Two rows of numbers that grow beside a writer. Conditions: rows of a bound. -/
import Derived.Test.YteoelhhkdfmaiaaTopA
namespace Go.Proofs.Yteoelhhkdfmaiaa
open Go Go.RowKit Go.Shelf
attribute [local go_sem] Oper.semAt_some wide_fn wide_depth

/-- Two rows and a writer, each with blocks of its own. -/
structure TwoRows (w W : World) (B : Nat) (G : Nat → Prop) (q : Wr) (av kv : Value) (n : Nat) (xs ys : List Value) : Prop where
  wr : WrAt W B G q
  a : W.ownsRow 0 3 1 av n xs
  k : W.ownsRow 0 3 1 kv n ys
  aG : ∀ j, av.ownBlock = some j → G j ∧ w.heap.size ≤ j
  kG : ∀ j, kv.ownBlock = some j → G j ∧ w.heap.size ≤ j
  ak : ∀ j, av.ownBlock = some j → kv.ownBlock ≠ some j
  base : ∀ j, j < w.heap.size → G j
  keep : Keeps (fun j => j < w.heap.size) w W
theorem TwoRows.wrote {w W W' : World} {B : Nat} {G : Nat → Prop} {q q' : Wr} {av kv : Value} {n : Nat} {xs ys : List Value} (h : TwoRows w W B G q av kv n xs ys) (hw : WrAt W' B G q') (k : Keeps G W W') : TwoRows w W' B G q' av kv n xs ys :=
  ⟨hw, k.ownsRow2 h.a (fun j hj => (h.aG j hj).1), k.ownsRow2 h.k (fun j hj => (h.kG j hj).1), h.aG, h.kG, h.ak, h.base, h.keep.trans (k.mono fun j _ hj => h.base j hj)⟩
theorem TwoRows.ext {w W W' : World} {B : Nat} {G : Nat → Prop} {q : Wr} {av kv : Value} {n : Nat} {xs ys : List Value} (h : TwoRows w W B G q av kv n xs ys) (k : Ext W W') : TwoRows w W' B G q av kv n xs ys :=
  ⟨h.wr.ext k, k.keeps.ownsRow2 h.a (fun _ _ => trivial), k.keeps.ownsRow2 h.k (fun _ _ => trivial), h.aG, h.kG, h.ak, h.base, h.keep.trans (k.keeps.mono fun _ _ _ => trivial)⟩
theorem TwoRows.push {w W : World} {B : Nat} {G : Nat → Prop} {q : Wr} {av kv : Value} {n : Nat} {xs ys : List Value} (h : TwoRows w W B G q av kv n xs ys) (x y : Int) (hn : n < 4294967296) :
    ∃ av' W1 kv' W2 G', (Builtin.append_ #[48, 48] 48 #[av, .slice (some ⟨W.heap.size, 0, none⟩) 1 1]).run Try.prog (W.alloc (.cells #[.int .i64 x] 3)) = .ok av' W1 ∧
      (Builtin.append_ #[48, 48] 48 #[kv, .slice (some ⟨W1.heap.size, 0, none⟩) 1 1]).run Try.prog (W1.alloc (.cells #[.int .i64 y] 3)) = .ok kv' W2 ∧
      TwoRows w W2 B G' q av' kv' (n + 1) (xs ++ [.int .i64 x]) (ys ++ [.int .i64 y]) := by
  obtain ⟨av', W1, r1, a1, g1, f1⟩ := append_int W av n xs h.a x hn
  have k1 : ∀ K : Nat → Prop, (∀ j, K j → av.ownBlock ≠ some j) → Keeps K W W1 := fun K hK => ((Keeps.refl K W).alloc _).grown g1 (fun j e hj => hK j hj e)
  have hk1 := (k1 (fun j => av.ownBlock ≠ some j) (fun _ h => h)).ownsRow2 h.k (fun j hj e => h.ak j e hj)
  obtain ⟨kv', W2, r2, a2, g2, f2⟩ := append_int W1 kv n ys hk1 y hn
  have k2 : ∀ K : Nat → Prop, (∀ j, K j → kv.ownBlock ≠ some j) → Keeps K W1 W2 := fun K hK => ((Keeps.refl K W1).alloc _).grown g2 (fun j e hj => hK j hj e)
  have k12 : ∀ K : Nat → Prop, (∀ j, K j → av.ownBlock ≠ some j ∧ kv.ownBlock ≠ some j) → Keeps K W W2 := fun K hK => (k1 K fun j hj => (hK j hj).1).trans (k2 K fun j hj => (hK j hj).2)
  have s1 := (k1 (fun _ => False) (fun _ h => h.elim)).size
  have s2 := (k2 (fun _ => False) (fun _ h => h.elim)).size
  have s0 := h.keep.size
  have la : ∀ j, av.ownBlock = some j → j < W.heap.size := fun j hj => (h.a.lt j hj).2
  have lk : ∀ j, kv.ownBlock = some j → j < W.heap.size := fun j hj => (h.k.lt j hj).2
  have la' : ∀ j, av'.ownBlock = some j → j < W1.heap.size := fun j hj => (a1.lt j hj).2
  have lk' : ∀ j, kv'.ownBlock = some j → j < W2.heap.size := fun j hj => (a2.lt j hj).2
  have ha2 := (k2 (fun j => kv.ownBlock ≠ some j) (fun _ h => h)).ownsRow2 a1 (fun j hj e => by
    rcases f1 with f1 | f1
    · exact h.ak j (f1 ▸ hj) e
    · have := f1 j hj; have := lk j e; omega)
  refine ⟨av', W1, kv', W2, fun j => G j ∨ (W.heap.size ≤ j ∧ j < W2.heap.size), r1, r2, ⟨?_, ha2, a2, ?_, ?_, ?_, fun j hj => .inl (h.base j hj), ?_⟩⟩
  · exact h.wr.grown (k12 (fun j => av.ownBlock ≠ some j ∧ kv.ownBlock ≠ some j) (fun _ h => h)) (fun j hj => ⟨fun e => hj (h.aG j e).1, fun e => hj (h.kG j e).1⟩)
  · intro j hj
    rcases f1 with f1 | f1
    · exact ⟨.inl (h.aG j (f1 ▸ hj)).1, (h.aG j (f1 ▸ hj)).2⟩
    · have := f1 j hj; have := la' j hj; exact ⟨.inr ⟨by omega, by omega⟩, by omega⟩
  · intro j hj
    rcases f2 with f2 | f2
    · exact ⟨.inl (h.kG j (f2 ▸ hj)).1, (h.kG j (f2 ▸ hj)).2⟩
    · have := f2 j hj; have := lk' j hj; exact ⟨.inr ⟨by omega, by omega⟩, by omega⟩
  · intro j hj hj2
    have l1 := la' j hj
    rcases f2 with f2 | f2
    · rw [f2] at hj2
      rcases f1 with f1 | f1
      · exact h.ak j (f1 ▸ hj) hj2
      · have := f1 j hj; have := lk j hj2; omega
    · have := f2 j hj2; omega
  · exact h.keep.trans (k12 _ fun j hj => ⟨fun e => by have := (h.aG j e).2; omega, fun e => by have := (h.kG j e).2; omega⟩)

end Go.Proofs.Yteoelhhkdfmaiaa
