/- Two appends behind one another: a table's copy with one more. Conditions: tables that are not endless. -/
import Derived.Test.YtjnaknfnoibncaaHashC
import Derived.Deep.Upon
import Derived.Lib.AppendZeros
namespace Go.Proofs.Ytjnaknfnoibncaa
open Go Go.RowKit Go.Shelf
attribute [local go_sem] Oper.semAt_some wide_fn wide_depth

theorem append_two (l : List SumC) (x : SumC) (ao : Option Addr) (n ac : Nat) (w : World) (hr : SRow w (.slice ao n ac) 3 (l.map SumC.cells)) (hl : l.length < 4294967296) :
    ∃ v1 w1 v2 w2, (Builtin.append_ #[22, 22] 22 #[.slice (some ⟨w.heap.size, 0, none⟩) 0 0, .slice ao n ac]).run Try.prog (w.alloc (.cells #[] 91)) = .ok v1 w1 ∧
      (Builtin.append_ #[22, 22] 22 #[v1, .slice (some ⟨w1.heap.size, 0, none⟩) 1 1]).run Try.prog (w1.alloc (.cells x.cells 91)) = .ok v2 w2 ∧ SRow w2 v2 3 ((l ++ [x]).map SumC.cells) ∧ Ext w w2 := by
  obtain ⟨i0, hi, hz0, hz1, hz2⟩ := info_parts infoS
  have hown0 : (w.alloc (.cells #[] 91)).ownsRow w.heap.size 91 3 (.slice (some ⟨w.heap.size, 0, none⟩) 0 0) 0 [] := World.ownsRow_made w #[] 0 (Nat.le_refl _) (Nat.zero_le _) rfl
  have h1 : ∃ v1 w1, (Builtin.append_ #[22, 22] 22 #[.slice (some ⟨w.heap.size, 0, none⟩) 0 0, .slice ao n ac]).run Try.prog (w.alloc (.cells #[] 91)) = .ok v1 w1 ∧ w1.ownsRow w.heap.size 91 3 v1 l.length (flatS l) ∧
      Keeps (fun j => j < w.heap.size) w w1 := by
    cases ao with
    | none =>
      have hn : l = [] := List.map_eq_nil_iff.1 hr.none
      subst hn
      obtain ⟨_, _, e, _⟩ := hr
      simp only [Value.slice.injEq, List.map_nil, List.length_nil] at e
      obtain ⟨_, rfl, _⟩ := e
      refine ⟨_, _, run_append_nothing _ _ _ _ _ i0 Try.underlying22 hi (some ⟨w.heap.size, 0, none⟩) 0 0 (Nat.le_refl _) _ (Src.ofNil _ Try.underlying22 ac), hown0, (Keeps.refl _ _).alloc _⟩
    | some a =>
      obtain ⟨b, off, p⟩ := a
      have hrd := flatS_reads hr
      obtain ⟨ao2, c2, e, h2, h3, _⟩ := hr
      simp only [Value.slice.injEq, List.length_map] at e
      obtain ⟨_, rfl, _⟩ := e
      obtain ⟨v', w', r1, r2, r3, _⟩ := run_append_own (P := Try.prog) (w := w.alloc (.cells #[] 91)) w.heap.size 22 22 91 i0 (.agg #[.string ⟨#[]⟩, .string ⟨#[]⟩, .int .u64 0]) 3 40 Try.underlying22 hi hz0 hz1 hz2 rfl (by decide)
        _ 0 [] hown0 ⟨b, off, p⟩ l.length ac (flatS l) (flatS_len l) (fun j u h => ((Keeps.refl (fun _ => True) w).alloc _).cell (hrd j u h) trivial) (flatS_one l) (by unfold maxLen; omega) (by omega) (by simp)
      rw [Nat.zero_add, List.nil_append] at r2
      exact ⟨v', w', r1, r2, ((Keeps.refl _ _).alloc _).grown r3 (by intro k hk; simp [Value.ownBlock] at hk; omega)⟩
  obtain ⟨v1, w1, r1, hown1, hk1⟩ := h1
  obtain ⟨v2, w2, r2, hown2, g2, _⟩ := run_append_own (P := Try.prog) (w := w1.alloc (.cells x.cells 91)) w.heap.size 22 22 91 i0 (.agg #[.string ⟨#[]⟩, .string ⟨#[]⟩, .int .u64 0]) 3 40 Try.underlying22 hi hz0 hz1 hz2 rfl (by decide)
    v1 l.length (flatS l) (hown1.alloc _) ⟨w1.heap.size, 0, none⟩ 1 1 x.cells.toList rfl (news_alloc w1 x.cells 91) (one_cells x) (by unfold maxLen; omega) (by omega) (by have := hk1.size; simp; omega)
  refine ⟨v1, w1, v2, w2, r1, r2, ?_, ((hk1.alloc _).grown g2 fun k hk h => ?_).ext fun j h => h⟩
  · refine owns_row (base := w.heap.size) (T := 91) SumC.cells (fun x _ => rfl) ?_
    rw [List.length_append]
    have he : ((l ++ [x]).map fun x => (SumC.cells x).toList).flatten = flatS l ++ x.cells.toList := by simp [flatS, Function.comp_def]
    rw [he]
    exact hown2
  · have := (hown1.lt k hk).1
    omega
end Go.Proofs.Ytjnaknfnoibncaa
