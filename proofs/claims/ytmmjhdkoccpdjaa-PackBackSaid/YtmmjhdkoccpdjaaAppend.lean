/- Where what was appended to a row of strings lies; what that leaves of a writer. Conditions: none. -/
import Derived.Test.YtmmjhdkoccpdjaaPackO
namespace Go.Proofs.Ytmmjhdkoccpdjaa
open Go Go.RowKit Go.Shelf

theorem append_string (w : World) (v : Value) (n : Nat) (xs : List Value) (hown : w.ownsRow 0 9 1 v n xs) (x : ByteArray) (hb : n < 4294967296) :
    ∃ v' w', (Builtin.append_ #[32, 32] 32 #[v, .slice (some ⟨w.heap.size, 0, none⟩) 1 1]).run Try.prog (w.alloc (.cells #[.string x] 9)) = .ok v' w' ∧ w'.ownsRow 0 9 1 v' (n + 1) (xs ++ [.string x]) ∧
      (w.alloc (.cells #[.string x] 9)).grownBy w' v.ownBlock ∧ (v'.ownBlock = v.ownBlock ∨ ∀ k, v'.ownBlock = some k → w.heap.size ≤ k) := by
  obtain ⟨i0, hi, hz0, hz1, hz2⟩ := info_parts infoString
  have hnews : ∀ (j : Nat) u, [Value.string x][j]? = some u → (w.alloc (.cells #[.string x] 9)).cell? ((⟨w.heap.size, 0, none⟩ : Addr).add j) = some u := by
    intro j u hj
    match j, hj with
    | 0, hj =>
      simp at hj; subst hj
      have h2 : (⟨w.heap.size, 0, none⟩ : Addr).add 0 = ⟨w.heap.size, 0, none⟩ := by unfold Addr.add; split <;> simp_all
      rw [h2]
      exact (Boxed.new w 9 (.string x)).cell
  have h1c : ∀ u ∈ [Value.string x], u.oneCell' = true := by intro u hu; simp at hu; subst hu; rfl
  have hown2 := hown.alloc (.cells #[.string x] 9)
  obtain ⟨v', w', h1, h2, h3, _⟩ := run_append_own (P := Try.prog) (w := w.alloc (.cells #[.string x] 9)) 0 32 32 9 i0 (.string ⟨#[]⟩) 1 16 Try.underlying32 hi hz0 hz1 hz2 rfl (by decide) v n xs hown2 ⟨w.heap.size, 0, none⟩ 1 1 [.string x] rfl hnews h1c (by unfold maxLen; omega) (by omega) (Nat.zero_le _)
  refine ⟨v', w', h1, h2, h3, ?_⟩
  rcases hown.2 with ⟨rfl, rfl⟩ | ⟨g, cap, cur, rfl, hbg, hg, hnc, hcm, hcs, htake⟩
  · right
    obtain ⟨v2, w2, g1, g2, _, _⟩ := run_append_own (P := Try.prog) (w := w.alloc (.cells #[.string x] 9)) (w.alloc (.cells #[.string x] 9)).heap.size 32 32 9 i0 (.string ⟨#[]⟩) 1 16 Try.underlying32 hi hz0 hz1 hz2 rfl (by decide) (.slice none 0 0) 0 [] (World.ownsRow_nil _ _ _ _) ⟨w.heap.size, 0, none⟩ 1 1 [.string x] rfl hnews h1c (by unfold maxLen; omega) (by omega) (Nat.le_refl _)
    rw [h1] at g1
    cases g1
    intro k hk
    have := (g2.lt k hk).1
    simp at this
    omega
  · have hgl : g < w.heap.size := (Array.getElem?_eq_some_iff.1 hg).1
    have hg' : (w.alloc (.cells #[.string x] 9)).heap[g]? = some (.cells cur 9 (0, 0)) := (Below.heap_alloc w _ g hgl).trans hg
    by_cases hroom : n + 1 ≤ cap
    · left
      have hr := run_append_room (P := Try.prog) (w := w.alloc (.cells #[.string x] 9)) 32 32 9 i0 Try.underlying32 hi g n cap cur hg' ⟨w.heap.size, 0, none⟩ 1 1 [.string x] (by rw [hz1]; rfl) hnews h1c hroom (by rw [hz1]; simp at hcs ⊢; omega)
      rw [h1] at hr
      cases hr
      rfl
    · right
      have hxl : xs.length = n := by simpa using hown.1
      have holds : ∀ j u, xs[j]? = some u → (w.alloc (.cells #[.string x] 9)).cell? ((⟨g, 0, none⟩ : Addr).add j) = some u := hown2.cells (g := g) rfl
      have hr := run_append_grow (P := Try.prog) (w := w.alloc (.cells #[.string x] 9)) 32 32 9 i0 (.string ⟨#[]⟩) Try.underlying32 hi hz0 ⟨g, 0, none⟩ n cap xs (by rw [hz1]; simpa using hxl) holds ⟨w.heap.size, 0, none⟩ 1 1 [.string x] (by rw [hz1]; rfl) hnews (by omega) (by omega) (by
        rw [hz2]
        have := growslice_fits (by omega : cap < n + 1) (by omega : (n + 1) * 16 ≤ 140737488355328)
        exact this)
      rw [h1] at hr
      cases hr
      intro k hk
      simp only [Value.ownBlock, Option.some.injEq] at hk
      simp at hk
      omega

/-- What turned none of a writer's blocks; what was laid since is none of them. -/
theorem WrAt.grown {W W' : World} {B : Nat} {G : Nat → Prop} {q : Wr} (h : WrAt W B G q) {K : Nat → Prop} (k : Keeps K W W') (hK : ∀ j, ¬ G j → K j) : WrAt W' B (fun j => G j ∨ (W.heap.size ≤ j ∧ j < W'.heap.size)) q := by
  obtain ⟨mb, bv, h⟩ := h
  obtain ⟨l1, l2, l3⟩ := h.lt
  have h' := h.keep k (hK B fun hg => (h.out B hg).2.1 rfl) (hK mb fun hg => (h.out mb hg).2.2.1 rfl) fun j hj => hK j fun hg => (h.out j hg).2.2.2 hj
  refine ⟨mb, bv, ⟨h'.blk, h'.own, h'.map, h'.mbB, h'.bvB, h'.bvm, fun j hj => ?_⟩⟩
  rcases hj with hj | ⟨h1, h2⟩
  · exact h'.out j hj
  · exact ⟨h2, by omega, by omega, fun e => by have := l3 j e; omega⟩

end Go.Proofs.Ytmmjhdkoccpdjaa
