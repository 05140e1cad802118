/- What the document's Same tells of two hashes of one table. Conditions: none. -/
import Derived.Test.YtnfnjhphamadgaaKeyRefA
import Derived.BigQuiet
import Derived.Deep.QuietTactic
import Derived.Laws.StructEq
namespace Go.Proofs.Ytnfnjhphamadgaa
open Go Go.RowKit Go.Shelf
attribute [local go_sem] Oper.semAt_some wide_fn wide_depth

theorem neqS (k s : ByteArray) (n : Int) (w : World) : (binOp .neq 40 (.agg #[.string k, .string s, .int .u64 n]) (.agg #[.string k, .string s, .int .u64 n])).run Try.prog w = .ok (.bool false) w := by
  have u1 := Try.underlying9
  have a1 := Try.isAgg9
  have z1 := Try.sizeOf9
  have u2 := Try.underlying25
  have a2 := Try.isAgg25
  have z2 := Try.sizeOf25
  have hS : Try.prog.underlying 40 = some (.struct (Try.prog.fieldsOf 40)) := by kernel_rfl
  have hp : Try.prog.stoodInHeld 40 = false := by kernel_rfl
  rw [run_neq_struct, show (10000 : Nat) = 9999 + 1 from rfl, run_equalIn_agg w 9999 40 _ _ hS hp]
  simp only [Program.fieldsOf, Try.underlying40]
  go_simp

attribute [local irreducible] wpStill
set_option maxRecDepth 100000 in
set_option maxHeartbeats 1000000 in
theorem RSame9_any (l : List SumC) (o : Bool) (a b : Value) (w : World) (ha : SRow w a 3 (l.map SumC.cells)) (hb : SRow w b 3 (l.map SumC.cells)) :
    Calls Try.prog 22 #[.agg #[.bool o, a], .agg #[.bool o, b]] w fun e w' => e = .returned (.bool true) ∧ Ext w w' := by
  have Ha := Lib.hid ha
  have Hb := Lib.hid hb
  obtain ⟨ao, ac, hae, hal⟩ := ha.open
  obtain ⟨bo, bc, hbe, _⟩ := hb.open
  rw [List.length_map] at hae hbe hal
  clear ha hb
  obtain ⟨na, hna⟩ : ∃ n, l.length = n := ⟨_, rfl⟩
  rw [hna] at hae hal hbe
  subst hae
  subst hbe
  unfold maxLen at hal
  have hal2 : na ≤ 9223372036854775807 := by omega
  clear hal
  have Hna := Lib.hid hna; clear hna
  have HX0 := Lib.hid (((Ext.refl w).alloc (.cells #[.bool o, .slice ao na ac] 24)).alloc (.cells #[.bool o, .slice bo na bc] 24))
  have hz : (w.alloc (.cells #[.bool o, .slice ao na ac] 24)).heap.size = w.heap.size + 1 := by simp
  have hA : ((w.alloc (.cells #[.bool o, .slice ao na ac] 24)).alloc (.cells #[.bool o, .slice bo na bc] 24)).heap[w.heap.size]? = some (.cells #[.bool o, .slice ao na ac] 24 (0, 0)) :=
    ((Keeps.refl (fun _ => True) _).alloc _).heap (World.alloc_heap_new w _) trivial
  have hB : ((w.alloc (.cells #[.bool o, .slice ao na ac] 24)).alloc (.cells #[.bool o, .slice bo na bc] 24)).heap[w.heap.size + 1]? = some (.cells #[.bool o, .slice bo na bc] 24 (0, 0)) := by
    rw [← hz]
    exact World.alloc_heap_new _ _
  have HA := Lib.hid hA; have HB := Lib.hid hB
  clear hA hB hz
  obtain ⟨a0, a1, _, _⟩ := cells_of HA.out
  obtain ⟨b0, b1, _, _⟩ := cells_of HB.out
  go_enter Try.func22, Try.ntmps22
  go_wp2_with fail
  go_loopw [23] (fun i wr => ∃ k : Nat, k ≤ na ∧ i = .int .i64 k ∧ Ext ((w.alloc (.cells #[.bool o, .slice ao na ac] 24)).alloc (.cells #[.bool o, .slice bo na bc] 24)) wr)
    (fun i _ => na - (intOf i).toNat)
  case atStart => exact ⟨0, Nat.zero_le _, rfl, Ext.refl _⟩
  case round =>
    obtain ⟨k, hk, rfl, hx⟩ := hrel
    have HX := Lib.hid hx; clear hx
    clear a0 a1 b0 b1
    by_cases hlt : k < na
    · obtain ⟨x, hxa⟩ : ∃ x, l[k]? = some x := ⟨l[k]'(by rw [Hna.out]; exact hlt), List.getElem?_eq_getElem _⟩
      obtain ⟨b1, off1, cap1, e1, c0, c1, c2⟩ := srow_at (Ha.out.ext (HX0.out.trans HX.out.drew)) k x hxa
      obtain rfl : ao = some ⟨b1, off1, none⟩ := by simp only [Value.slice.injEq] at e1; exact e1.1
      obtain ⟨b2, off2, cap2, e2, d0, d1, d2⟩ := srow_at (Hb.out.ext (HX0.out.trans HX.out.drew)) k x hxa
      obtain rfl : bo = some ⟨b2, off2, none⟩ := by simp only [Value.slice.injEq] at e2; exact e2.1
      obtain ⟨_, a1, _, _⟩ := cells_of (HX.out.drew.keeps.heap HA.out trivial)
      obtain ⟨_, b1, _, _⟩ := cells_of (HX.out.drew.keeps.heap HB.out trivial)
      clear e1 e2 hxa
      have hki : (k : Int) < na := by omega
      have hk0 : (0 : Int) ≤ (k : Int) := Int.natCast_nonneg _
      have hw : IntKind.i64.wrap ((k : Int) + 1) = (k : Int) + 1 := IntWalk.i64_in _ (by omega)
      have hne := neqS
      have hg : Try.prog.eqGuardType Try.prog.depth 40 = false := by kernel_rfl
      have hmx : Try.prog.follows .mixedOrders = true := by kernel_rfl
      go_wp2_with fail
      refine wp_region_still hmx (by decide +kernel) ?_
      iterate 11 still_step
      refine wpStill_nil ?_
      clear hk0 hne hg a1 b1 c0 c1 c2 d0 d1 d2
      go_wp2_with fail
      go_roundw
      case rel => exact ⟨k + 1, by omega, by simp, HX.out.drew⟩
      case measure => simp [intOf]; omega
    · obtain rfl : k = na := by omega
      go_wp2_with fail
      go_ret
      exact ⟨rfl, HX0.out.trans HX.out⟩
end Go.Proofs.Ytnfnjhphamadgaa
