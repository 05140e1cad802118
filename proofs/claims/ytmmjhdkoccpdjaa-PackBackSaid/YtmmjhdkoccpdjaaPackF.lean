/- What pack's numberOf makes: a number's eight bytes. Conditions: none. -/
import Derived.Test.YtmmjhdkoccpdjaaPackE
namespace Go.Proofs.Ytmmjhdkoccpdjaa
open Go Go.RowKit Go.Shelf
attribute [local go_sem] Oper.semAt_some wide_fn wide_depth

theorem Keeps.setRow {K : Nat → Prop} {a w : World} (h : Keeps K a w) {g : Nat} (hg : ¬ K g) (cs : Array Value) : Keeps K a (w.setRow g cs) :=
  h.trans ⟨rfl, rfl, rfl, by simp, fun k _ hk => setRow_other w g k cs (fun e => hg (e ▸ hk))⟩

/-- The byte k of a number, the lowest being 0. -/
def byB (n k : Nat) : UInt8 := UInt8.ofNat (n / 256 ^ k % 256)
def num8 (n : Nat) : Array Value := arr8 (byB n 7) (byB n 6) (byB n 5) (byB n 4) (byB n 3) (byB n 2) (byB n 1) (byB n 0)
/-- A number's bytes, of which those from j on are written. -/
def pb8 (n j x : Nat) : Value := .int .u8 (if j ≤ x then ((byB n (7 - x)).toNat : Int) else 0)
def part8 (n j : Nat) : Array Value := #[pb8 n j 0, pb8 n j 1, pb8 n j 2, pb8 n j 3, pb8 n j 4, pb8 n j 5, pb8 n j 6, pb8 n j 7]
theorem part8_0 (n : Nat) : part8 n 0 = num8 n := by simp [part8, pb8, num8, arr8]
theorem part8_8 (n : Nat) : part8 n 8 = #[.int .u8 0, .int .u8 0, .int .u8 0, .int .u8 0, .int .u8 0, .int .u8 0, .int .u8 0, .int .u8 0] := by simp [part8, pb8]
theorem part8_step (n j : Nat) (hj : j < 8) : (part8 n (j + 1)).setIfInBounds j (.int .u8 ((byB n (7 - j)).toNat : Int)) = part8 n j := by
  match j, hj with
  | 0, _ => simp [part8, pb8]
  | 1, _ => simp [part8, pb8]
  | 2, _ => simp [part8, pb8]
  | 3, _ => simp [part8, pb8]
  | 4, _ => simp [part8, pb8]
  | 5, _ => simp [part8, pb8]
  | 6, _ => simp [part8, pb8]
  | 7, _ => simp [part8, pb8]
theorem part8_at (n j x : Nat) (hx : x < 8) : (part8 n j)[x]? = some (pb8 n j x) := by
  match x, hx with
  | 0, _ => rfl
  | 1, _ => rfl
  | 2, _ => rfl
  | 3, _ => rfl
  | 4, _ => rfl
  | 5, _ => rfl
  | 6, _ => rfl
  | 7, _ => rfl

set_option maxRecDepth 100000 in
set_option maxHeartbeats 2000000 in
theorem numberOf_any (n : Nat) (w : World) (hn : n < 18446744073709551616) :
    Calls Try.prog 119 #[.int .u64 (n : Int)] w fun e w' => e = .returned (.agg (num8 n)) ∧ Ext w w' := by
  go_enter Try.func119, Try.ntmps119
  go_wp2
  go_loopw [0, 4] (fun m i wr => ∃ j : Nat, j ≤ 8 ∧ i = .int .i64 ((j : Int) - 1) ∧ m = .int .u64 ((n / 256 ^ (8 - j) : Nat) : Int) ∧ wr.heap[w.heap.size + 1]? = some (.cells (part8 n j) 105 (0, 0)) ∧
      wr.heap[w.heap.size]? = some (.cells (part8 n 8) 105 (0, 0)) ∧ Ext w wr)
    (fun _ i _ => (intOf i + 1).toNat)
  case atStart =>
    refine ⟨8, Nat.le_refl _, rfl, by simp, ?_, ?_, ((Ext.refl _).alloc _).alloc _⟩
    · rw [part8_8]
      have := World.alloc_heap_new (w.alloc (.cells #[.int .u8 0, .int .u8 0, .int .u8 0, .int .u8 0, .int .u8 0, .int .u8 0, .int .u8 0, .int .u8 0] 105)) (.cells #[.int .u8 0, .int .u8 0, .int .u8 0, .int .u8 0, .int .u8 0, .int .u8 0, .int .u8 0, .int .u8 0] 105)
      rw [World.size_alloc] at this
      exact this
    · rw [part8_8]
      exact (Below.heap_alloc _ _ _ (by simp)).trans (World.alloc_heap_new w _)
  case round =>
    obtain ⟨j, hj, rfl, rfl, hb1, hb0, hx⟩ := hrel
    have Hx := Lib.hid hx; clear hx
    by_cases h0 : 1 ≤ j
    · obtain ⟨j, rfl⟩ : ∃ j', j = j' + 1 := ⟨j - 1, by omega⟩
      have c1 : wr.cell? ⟨w.heap.size + 1, j, none⟩ = some (pb8 n (j + 1) j) := by
        rw [cell_of_row wr _ j _ _ _ hb1]; exact part8_at n (j + 1) j (by omega)
      have f1 : wr.frozen? ⟨w.heap.size + 1, j, none⟩ = false := Lib.frozen_of_heap hb1 j
      obtain ⟨m, hm⟩ : ∃ m, n / 256 ^ (8 - (j + 1)) = m := ⟨_, rfl⟩
      have hml : m < 18446744073709551616 := by rw [← hm]; exact Nat.lt_of_le_of_lt (Nat.div_le_self _ _) hn
      have hnx : n / 256 ^ (8 - j) = m / 256 := by
        rw [← hm, Nat.div_div_eq_div_mul, ← Nat.pow_succ, show (8 - (j + 1)).succ = 8 - j by omega]
      have hby : ((m % 256 : Nat) : Int) = ((byB n (7 - j)).toNat : Int) := by
        rw [byB, show 7 - j = 8 - (j + 1) by omega, hm]; simp
      rw [hm]
      have Hnx := Lib.hid hnx
      have Hby := Lib.hid hby
      rw [Int.natCast_emod] at Hby
      have Hb1 := Lib.hid hb1
      have Hb0 := Lib.hid hb0
      clear hnx hby hb1 hb0 hm
      rw [show (((j + 1 : Nat) : Int) - 1) = (j : Int) by omega]
      have x1 : (j : Int) < 8 := by omega
      go_wp2
      go_roundw
      case rel =>
        refine ⟨j, by omega, rfl, by rw [Hnx.out]; simp, ?_, ?_, ?_⟩
        · rw [show ((m : Int) % 256) = _ from Hby.out, heap_setCell_same _ _ _ _ _ _ Hb1.out, part8_step n j (by omega)]
        · rw [heap_setCell_other _ _ _ _ (by simp)]; exact Hb0.out
        · exact Below.setCell Hx.out (p := ⟨w.heap.size + 1, j, none⟩) (by simp) _
      case measure => simp [intOf]
    · obtain rfl : j = 0 := by omega
      have Hb1 := Lib.hid hb1
      have Hb0 := Lib.hid hb0
      clear hb1 hb0
      go_wp2_with (first
        | (with_reducible refine wpList_load_row rfl _ _ rfl (w.heap.size + 1) rfl _ _ _ _ Hb1.out Try.underlying105 rfl (by kernel_rfl) ?_)
        | (refine wpList_store_row rfl _ _ _ rfl w.heap.size (part8 n 0) rfl rfl _ _ Hb0.out (by kernel_rfl) rfl (by kernel_rfl) ?_))
      refine bodyPost_ret (v := .agg (part8 n 0)) ?_ rfl ⟨by rw [part8_0], ?_⟩
      · exact results_cell_row (P := Try.prog) (fn := Try.f119) (p := 2) (ty := 105) rfl _ _ w.heap.size _ (part8 n 0) _ _ rfl (setRow_heap _ _ _ _ _ _ Hb0.out) Try.underlying105 rfl (by kernel_rfl)
      · exact ((Hx.out.keeps.mono (K' := fun k => k < w.heap.size) fun _ _ _ => trivial).setRow (by omega) _).ext fun _ h => h

end Go.Proofs.Ytmmjhdkoccpdjaa
