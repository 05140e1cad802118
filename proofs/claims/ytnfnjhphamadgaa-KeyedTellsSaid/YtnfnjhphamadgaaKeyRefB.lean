/- What the document's answers for layer 9 (hardtackref09) return: Put. Conditions: texts that are no longer than may be. -/
import Derived.Test.YtnfnjhphamadgaaKeyRefA
namespace Go.Proofs.Ytnfnjhphamadgaa
open Go Go.RowKit Go.Shelf
attribute [local go_sem] Oper.semAt_some wide_fn wide_depth

/-- A row of sums stays where a hash's cells are stored. -/
theorem srow_past9 {W : World} {v : Value} {L : List SumC} {A : Nat} {o : Bool} {hv : Value} {t : TypeId} {fr : Nat × Nat} (hA : W.heap[A]? = some (.cells #[.bool o, hv] t fr)) (hs : ∃ ao n c, hv = .slice ao n c)
    (h : SRow W v 3 (L.map SumC.cells)) {W' : World} (k : Keeps (fun j => j ≠ A) W W') : SRow W' v 3 (L.map SumC.cells) := by
  obtain ⟨ao, cap, e, h1, h2, hc⟩ := h
  refine ⟨ao, cap, e, h1, h2, fun i c hi => ?_⟩
  obtain ⟨b, off, e2, h3, h4⟩ := hc i c hi
  have hb : b ≠ A := by
    rintro rfl
    obtain ⟨x, _, rfl⟩ := List.mem_map.1 (List.mem_of_getElem? hi)
    have h5 := h4 0 (.string x.k) rfl
    rw [cell_of_row _ _ _ _ _ _ hA] at h5
    obtain ⟨x0, n0, c0, rfl⟩ := hs
    generalize off + i * 3 + 0 = j at h5
    match j with
    | 0 => simp at h5
    | 1 => simp at h5
    | j + 2 => simp at h5
  exact ⟨b, off, e2, h3, fun j u hu => k.cell (h4 j u hu) hb⟩

set_option maxRecDepth 100000 in
set_option maxHeartbeats 1000000 in
theorem RKPut_any (l : List SumC) (v : Value) (o : Bool) (k s : ByteArray) (n : Nat) (w : World) (hr : SRow w v 3 (l.map SumC.cells)) (hl : l.length < 4294967296) :
    Calls Try.prog 15 #[.agg #[.bool o, v], .string k, .string s, .int .u64 (n : Int)] w (PutPost l k s n w) := by
  have Hr := Lib.hid hr
  have Hlt := Lib.hid hl; clear hl
  obtain ⟨ao, ac, rfl, hlm⟩ := hr.open
  rw [List.length_map] at hlm
  obtain ⟨nl, hnl⟩ : ∃ nl, l.length = nl := ⟨_, rfl⟩
  rw [List.length_map, hnl] at Hr ⊢
  rw [hnl] at hlm
  clear hr
  have CS := Lib.hid fun W => RSum_any k s W
  rw [sumR_eq] at CS
  have CK := Lib.hid fun W h => RKnown_any l (.slice ao nl ac) o k s W h
  have CT : Hid (∀ W, SRow W (.slice ao nl ac) 3 (l.map SumC.cells) → l.length < 4294967296 → ∃ v1 w1 v2 w2, (Builtin.append_ #[22, 22] 22 #[.slice (some ⟨W.heap.size, 0, none⟩) 0 0, .slice ao nl ac]).run Try.prog (W.alloc (.cells #[] 40)) = .ok v1 w1 ∧
      (Builtin.append_ #[22, 22] 22 #[v1, .slice (some ⟨w1.heap.size, 0, none⟩) 1 1]).run Try.prog (w1.alloc (.cells #[.string k, .string s, .int .u64 (n : Int)] 40)) = .ok v2 w2 ∧ SRow w2 v2 3 ((l ++ [(⟨k, s, n⟩ : SumC)]).map SumC.cells) ∧ Ext W w2) := Lib.hid fun W h hl => append_two l ⟨k, s, n⟩ ao nl ac W h hl
  have HP : Hid (∀ e w', PutPost l k s n w e w' ↔ PutPost l k s n w e w') := Lib.hid fun _ _ => Iff.rfl
  obtain ⟨w1, h1⟩ : ∃ w1, (w.alloc (.cells #[.bool o, .slice ao nl ac] 24)).alloc (.cells #[.bool false, .slice none 0 0] 24) = w1 := ⟨_, rfl⟩
  have X1 : Ext w w1 := by rw [← h1]; exact ((Ext.refl w).alloc _).alloc _
  have hz : (w.alloc (.cells #[.bool o, .slice ao nl ac] 24)).heap.size = w.heap.size + 1 := by simp
  have hA : w1.heap[w.heap.size]? = some (.cells #[.bool o, .slice ao nl ac] 24 (0, 0)) := by
    rw [← h1]
    exact ((Keeps.refl (fun _ => True) _).alloc _).heap (World.alloc_heap_new w _) trivial
  have hB : w1.heap[w.heap.size + 1]? = some (.cells #[.bool false, .slice none 0 0] 24 (0, 0)) := by
    rw [← h1, ← hz]
    exact World.alloc_heap_new _ _
  have Hc := Lib.hid (show ∀ w2, Ext w1 w2 → w2.cell? ⟨w.heap.size, 0, none⟩ = some (.bool o) ∧ w2.cell? ⟨w.heap.size, 1, none⟩ = some (.slice ao nl ac) ∧ w2.cell? ⟨w.heap.size + 1, 0, none⟩ = some (.bool false) ∧ w2.cell? ⟨w.heap.size + 1, 1, none⟩ = some (.slice none 0 0) ∧ w2.frozen? ⟨w.heap.size + 1, 0, none⟩ = false ∧ w2.frozen? ⟨w.heap.size + 1, 1, none⟩ = false from fun w2 h => by
    have g1 := h.keeps.heap hA trivial
    have g2 := h.keeps.heap hB trivial
    exact ⟨by simp [World.cell?, g1], by simp [World.cell?, g1], by simp [World.cell?, g2], by simp [World.cell?, g2], by simp [World.frozen?, g2], by simp [World.frozen?, g2]⟩)
  have HB := Lib.hid (show ∀ w2, Ext w1 w2 → w2.heap[w.heap.size + 1]? = some (.cells #[.bool false, .slice none 0 0] 24 (0, 0)) from fun w2 h => h.keeps.heap hB trivial)
  clear hA hB hz
  have HX := Lib.hid X1; clear X1
  obtain ⟨ee, he⟩ : ∃ y, sumE k s = y := ⟨_, rfl⟩
  obtain ⟨y, hy⟩ : ∃ y, sumV k s = y := ⟨_, rfl⟩
  rw [he, hy] at CS
  obtain ⟨r, hr⟩ : ∃ r, findI k s l = r := ⟨_, rfl⟩
  rw [hr] at CK
  have HE : Hid (putE l k s = if ee ≠ 0 then ee else if 0 ≤ r then 4 else if 4096 ≤ nl then 8 else 0) := Lib.hid (by unfold putE; rw [he, hr, hnl])
  clear he hy hr
  subst h1
  go_enter Try.func15, Try.ntmps15
  go_wp2_with (first
    | ((with_reducible refine (CS.out _).mono ?_); rintro e w' ⟨rfl, hx⟩; obtain ⟨hA0, hA1, hB0, hB1, hF0, hF1⟩ := Hc.out _ hx; have HXo := Lib.hid hx; have HX2 := Lib.hid (HX.out.trans hx); clear hx)
    | ((with_reducible refine (CK.out _ (Hr.out.ext HX2.out)).mono ?_); rintro e w3 ⟨rfl, hx⟩; clear hA0 hA1 hB0 hB1 hF0 hF1; obtain ⟨hA0, hA1, hB0, hB1, hF0, hF1⟩ := Hc.out _ (HXo.out.trans hx); have HXp := Lib.hid (HXo.out.trans hx); have HX3 := Lib.hid (HX2.out.trans hx); clear hx; obtain ⟨v1, w1, v2, w2, r1, r2, hrow, hx4⟩ := CT.out _ (Hr.out.ext HX3.out) Hlt.out; obtain ⟨co, cn, cc, rfl⟩ := hrow.slice; have R1 := Lib.hid r1; have R2 := Lib.hid r2; have Hrow := Lib.hid hrow; have HXq := Lib.hid (HXp.out.trans hx4); have HX4 := Lib.hid (HX3.out.trans hx4); obtain ⟨_, _, hD0, hD1, hE0, hE1⟩ := Hc.out _ HXq.out; clear r1 r2 hrow hx4; have hA1a := ((Keeps.refl (fun _ => True) _).alloc (.cells #[] 40)).cell hA1 trivial)
    | (at_builtin; first | (refine Lib.wpList_append_run _ rfl _ _ 22 22 rfl _ _ rfl rfl _ _ R1.out ?_) | (refine Lib.wpList_append_run _ rfl _ _ 22 22 rfl _ _ rfl rfl _ _ R2.out ?_)))
  · refine bodyPost_ret (v := .tuple #[.agg #[.bool false, .slice none 0 0], .int .i64 ee]) ?_ rfl ?_
    · exact results_row2 (P := Try.prog) (fn := Try.f15) (p := 8) (q := 9) (ty := 24) rfl _ _ (w.heap.size + 1) _ #[.bool false, .slice none 0 0] _ _ _ rfl rfl (set_two (HB.out _ HXo.out) _ _) Try.underlying24 rfl (by kernel_rfl)
    · have h1 : (ee != 0) = true := by assumption
      have h2 : ee ≠ 0 := by simpa using h1
      have h3 : putE l k s = ee := by rw [HE.out, if_pos h2]
      exact .inl ⟨by rw [h3]; exact h2, by rw [h3], (HX2.out.setCellX (by simp) _).setCellX (by simp) _⟩
  · refine bodyPost_ret (v := .tuple #[.agg #[.bool false, .slice none 0 0], .int .i64 4]) ?_ rfl ?_
    · exact results_row2 (P := Try.prog) (fn := Try.f15) (p := 8) (q := 9) (ty := 24) rfl _ _ (w.heap.size + 1) _ #[.bool false, .slice none 0 0] _ _ _ rfl rfl (set_two (HB.out _ HXp.out) _ _) Try.underlying24 rfl (by kernel_rfl)
    · have h1 : (ee != 0) = false := by assumption
      have h4 : 0 ≤ r := by assumption
      have h2 : ¬ ee ≠ 0 := by simpa using h1
      have h3 : putE l k s = 4 := by rw [HE.out, if_neg h2, if_pos h4]
      exact .inl ⟨by rw [h3]; decide, by rw [h3], (HX3.out.setCellX (by simp) _).setCellX (by simp) _⟩
  · refine bodyPost_ret (v := .tuple #[.agg #[.bool false, .slice none 0 0], .int .i64 8]) ?_ rfl ?_
    · exact results_row2 (P := Try.prog) (fn := Try.f15) (p := 8) (q := 9) (ty := 24) rfl _ _ (w.heap.size + 1) _ #[.bool false, .slice none 0 0] _ _ _ rfl rfl (set_two (HB.out _ HXp.out) _ _) Try.underlying24 rfl (by kernel_rfl)
    · have h1 : (ee != 0) = false := by assumption
      have h2 : ¬ ee ≠ 0 := by simpa using h1
      have h3 : putE l k s = 8 := by rw [HE.out, if_neg h2, if_neg (by omega), if_pos (by omega)]
      exact .inl ⟨by rw [h3]; decide, by rw [h3], (HX3.out.setCellX (by simp) _).setCellX (by simp) _⟩
  · refine bodyPost_ret (v := .tuple #[.agg #[.bool true, .slice co cn cc], .int .i64 0]) ?_ rfl ?_
    · exact results_row2 (P := Try.prog) (fn := Try.f15) (p := 8) (q := 9) (ty := 24) rfl _ _ (w.heap.size + 1) _ #[.bool true, .slice co cn cc] _ _ _ rfl rfl (set_two (HB.out _ HXq.out) _ _) Try.underlying24 rfl (by kernel_rfl)
    · have h1 : (ee != 0) = false := by assumption
      have h2 : ¬ ee ≠ 0 := by simpa using h1
      have h3 : putE l k s = 0 := by rw [HE.out, if_neg h2, if_neg (by omega), if_neg (by omega)]
      refine .inr ⟨h3, _, rfl, ?_, (HX4.out.setCellX (by simp) _).setCellX (by simp) _⟩
      exact srow_past9 (HB.out _ HXq.out) ⟨_, _, _, rfl⟩ Hrow.out (((Keeps.refl _ _).setCell (by simp) _).setCell (by simp) _)
end Go.Proofs.Ytnfnjhphamadgaa
