/- hardtacklaw09.KeyedApart answers true, and leaves what lay as it lay. Conditions: numbers and texts of their kinds. -/
import Derived.Test.YtnfnjhphamadgaaHashG
import Derived.Test.YtnfnjhphamadgaaKeyedPut
namespace Go.Proofs.Ytnfnjhphamadgaa
open Go Go.RowKit Go.Shelf
attribute [local go_sem] Oper.semAt_some wide_fn wide_depth

/-- Is there an entry? -/
def hasB (k s : ByteArray) (l : List SumC) : Bool := decide (0 ≤ findI k s l)
theorem hasB_iff {k s : ByteArray} {l : List SumC} : hasB k s l = true ↔ ∃ i, findN k s l = some i := by
  unfold hasB findI
  rw [decide_eq_true_iff]
  cases findN k s l with
  | none => simp
  | some i => simp
theorem entryN_at {k s : ByteArray} {l : List SumC} {i : Nat} (h : findN k s l = some i) : ∃ x, l[i]? = some x ∧ x.pair = (k, s) ∧ entryN k s l = x.n := by
  obtain ⟨x, hx, hs⟩ := findN_some h
  rw [is_eq, decide_eq_true_iff] at hs
  refine ⟨x, hx, hs, ?_⟩
  unfold entryN
  rw [h]
  simp [hx]
theorem apart_sums {l : List SumC} (h : apartB l = true) (k s k2 s2 : ByteArray) :
    (entryN k s l == entryN k2 s2 l) = (decide (k = k2 ∧ s = s2) || (!hasB k s l && !hasB k2 s2 l)) ∧ (entryN k s l != 0) = hasB k s l := by
  unfold apartB at h
  rw [Bool.and_eq_true] at h
  have hu := h.2
  unfold unlikeB at hu
  rw [decide_eq_true_iff, List.nodup_cons] at hu
  have hne : ∀ k s, (entryN k s l != 0) = hasB k s l := fun k s => by
    rw [Bool.eq_iff_iff, hasB_iff]
    constructor
    · intro h0
      cases hf : findN k s l with
      | some i => exact ⟨i, rfl⟩
      | none =>
        unfold entryN at h0
        rw [hf] at h0
        simp at h0
    · rintro ⟨i, hi⟩
      obtain ⟨x, hx, _, he⟩ := entryN_at hi
      rw [he, bne_iff_ne]
      intro h0
      exact hu.1 (List.mem_map.2 ⟨x, List.mem_of_getElem? hx, h0⟩)
  refine ⟨?_, hne k s⟩
  have h1 := hne k s
  have h2 := hne k2 s2
  by_cases hp : k = k2 ∧ s = s2
  · obtain ⟨rfl, rfl⟩ := hp
    simp
  · rw [decide_eq_false hp, Bool.false_or]
    cases hx : hasB k s l with
    | false =>
      rw [hx] at h1
      cases hy : hasB k2 s2 l with
      | false =>
        rw [hy] at h2
        simp only [bne_eq_false_iff_eq] at h1 h2
        rw [h1, h2]
        rfl
      | true =>
        rw [hy] at h2
        simp only [bne_eq_false_iff_eq] at h1
        rw [h1, Bool.eq_iff_iff]
        simp only [bne_iff_ne] at h2
        simp
        exact fun e => h2 e.symm
    | true =>
      rw [hx] at h1
      cases hy : hasB k2 s2 l with
      | false =>
        rw [hy] at h2
        simp only [bne_eq_false_iff_eq] at h2
        simp only [bne_iff_ne] at h1
        rw [h2, Bool.eq_iff_iff]
        simp
        exact h1
      | true =>
        obtain ⟨i, hi⟩ := hasB_iff.1 hx
        obtain ⟨j, hj⟩ := hasB_iff.1 hy
        obtain ⟨x, hx1, hx2, hx3⟩ := entryN_at hi
        obtain ⟨y, hy1, hy2, hy3⟩ := entryN_at hj
        rw [Bool.eq_iff_iff]
        simp
        intro e
        rw [hx3, hy3] at e
        have hm1 : (l.map SumC.n)[i]? = some x.n := by rw [List.getElem?_map, hx1]; rfl
        have hm2 : (l.map SumC.n)[j]? = some x.n := by rw [List.getElem?_map, hy1, e]; rfl
        have hij : i = j := by
          have hi2 := (List.getElem?_eq_some_iff.1 hm1).1
          exact (List.getElem?_inj hi2 hu.2).1 (hm1.trans hm2.symm)
        subst hij
        rw [hx1] at hy1
        obtain rfl := Option.some.inj hy1
        rw [hx2] at hy2
        simp only [Prod.mk.injEq] at hy2
        exact hp hy2

theorem done_eq {e : Bool} (h : e = true) : Ending.returned (Value.bool e) = .returned (.bool true) := by rw [h]
attribute [local irreducible] wpStill
set_option maxRecDepth 100000 in
set_option maxHeartbeats 4000000 in
theorem keyedApart_walk (l : List SumC) (v : Value) (o : Bool) (i j : Int) (k s : ByteArray) (w : World) (hr : SRow w v 3 (l.map SumC.cells)) (hf : ∀ x ∈ l, x.fit) :
    Calls Try.prog 5 #[.agg #[.bool o, v], .int .i64 i, .int .i64 j, .string k, .string s] w fun e w' => e = .returned (.bool true) ∧ Ext w w' := by
  have Hr := Lib.hid hr
  obtain ⟨ao, ac, rfl, hlm⟩ := hr.open
  rw [List.length_map] at Hr hlm ⊢
  clear hr
  have CL := Lib.hid fun W => L9.lives_any W
  have CM := Lib.hid fun W => Small9_any ao l.length ac o W
  have CA := Lib.hid fun W h => HApart_any l (.slice ao l.length ac) o W h hf
  have HB := Lib.hid (World.alloc_heap_new w (.cells #[.bool o, .slice ao l.length ac] 24))
  have HX0 := Lib.hid ((Ext.refl w).alloc (.cells #[.bool o, .slice ao l.length ac] 24))
  by_cases hb : 60 < l.length
  · rw [if_pos hb] at CM
    clear hb
    go_enter Try.func5, Try.ntmps5
    go_wp2_with (first
      | ((with_reducible refine (CL.out _).mono ?_); rintro e W1 ⟨rfl, hx⟩; obtain ⟨ha0, ha1, hf0, hf1⟩ := cells_of (hx.keeps.heap HB.out trivial); have HX1 := Lib.hid hx; clear hx)
      | ((with_reducible refine (CM.out _).mono ?_); rintro e W2 ⟨rfl, hx⟩; have HX2 := Lib.hid (HX1.out.trans hx); clear hx))
    go_ret
    exact ⟨rfl, HX0.out.trans HX2.out⟩
  rw [if_neg hb] at CM
  cases ha : apartB l with
  | false =>
    rw [ha] at CA
    go_enter Try.func5, Try.ntmps5
    go_wp2_with (first
      | ((with_reducible refine (CL.out _).mono ?_); rintro e W1 ⟨rfl, hx⟩; obtain ⟨ha0, ha1, hf0, hf1⟩ := cells_of (hx.keeps.heap HB.out trivial); have HX1 := Lib.hid hx; clear hx)
      | ((with_reducible refine (CM.out _).mono ?_); rintro e W2 ⟨rfl, hx⟩; clear ha0 ha1 hf0 hf1; have HX2 := Lib.hid (HX1.out.trans hx); obtain ⟨ha0, ha1, hf0, hf1⟩ := cells_of (HX2.out.keeps.heap HB.out trivial); clear hx)
      | ((with_reducible refine (CA.out _ (Hr.out.ext (HX0.out.trans HX2.out))).mono ?_); rintro e W3 ⟨rfl, hx⟩; have HX3 := Lib.hid (HX2.out.trans hx); clear hx))
    go_ret
    exact ⟨rfl, HX0.out.trans HX3.out⟩
  | true =>
    rw [ha] at CA
    obtain ⟨nl, hnl⟩ : ∃ nl, l.length = nl := ⟨_, rfl⟩
    rw [hnl] at CM CA HB HX0 Hr hlm hb ⊢
    have Hnl := Lib.hid hnl; clear hnl
    have Ha := Lib.hid ha; clear ha
    obtain ⟨m, hm⟩ : ∃ m, nl + 1 = m := ⟨_, rfl⟩
    have CT : Hid (∀ W, SRow W (.slice ao nl ac) 3 (l.map SumC.cells) → ∃ v1 w1 bb off cc w2, (Builtin.append_ #[22, 22] 22 #[.slice (some ⟨W.heap.size, 0, none⟩) 0 0, .slice ao nl ac]).run Try.prog (W.alloc (.cells #[] 40)) = .ok v1 w1 ∧
      (Builtin.append_ #[22, 22] 22 #[v1, .slice (some ⟨w1.heap.size, 0, none⟩) 1 1]).run Try.prog (w1.alloc (.cells #[.string k, .string s, .int .u64 0] 40)) = .ok (.slice (some ⟨bb, off, none⟩) m cc) w2 ∧ SRow w2 (.slice (some ⟨bb, off, none⟩) m cc) 3 ((l ++ [(⟨k, s, 0⟩ : SumC)]).map SumC.cells) ∧ Ext W w2) := Lib.hid fun W h => by
      obtain ⟨v1, w1, v2, w2, r1, r2, r3, r4⟩ := append_two l ⟨k, s, 0⟩ ao nl ac W h (by rw [Hnl.out]; omega)
      obtain ⟨bb, off, cc, e, _⟩ := srow_at r3 nl ⟨k, s, 0⟩ (by rw [← Hnl.out]; simp)
      rw [List.length_append, Hnl.out] at e
      subst hm
      subst e
      exact ⟨v1, w1, bb, off, cc, w2, r1, r2, r3, r4⟩
    have HLm : Hid ((l ++ [(⟨k, s, 0⟩ : SumC)]).length = m) := Lib.hid (by rw [List.length_append, Hnl.out, ← hm]; rfl)
    clear hm
    by_cases hi0 : i < 0
    · go_enter Try.func5, Try.ntmps5
      go_wp2_with (first
      | ((with_reducible refine (CL.out _).mono ?_); rintro e W1 ⟨rfl, hx⟩; obtain ⟨ha0, ha1, hf0, hf1⟩ := cells_of (hx.keeps.heap HB.out trivial); have HX1 := Lib.hid hx; clear hx)
      | ((with_reducible refine (CM.out _).mono ?_); rintro e W2 ⟨rfl, hx⟩; clear ha0 ha1 hf0 hf1; have HX2 := Lib.hid (HX1.out.trans hx); obtain ⟨ha0, ha1, hf0, hf1⟩ := cells_of (HX2.out.keeps.heap HB.out trivial); clear hx)
      | ((with_reducible refine (CA.out _ (Hr.out.ext (HX0.out.trans HX2.out))).mono ?_); rintro e W3 ⟨rfl, hx⟩; clear ha0 ha1 hf0 hf1; have HX3 := Lib.hid (HX2.out.trans hx); have HB2 := Lib.hid (HX3.out.keeps.heap HB.out trivial); have HBA := Lib.hid (set_fst HB2.out (.bool true)); obtain ⟨ha0, ha1, hf0, hf1⟩ := cells_of HB2.out; obtain ⟨hs0, hs1, hs2, hs3⟩ := cells_of HBA.out; have HK2 : Hid (Keeps (fun j => j < w.heap.size) w (W3.setCell ⟨w.heap.size, 0, none⟩ (.bool true))) := Lib.hid (((((Keeps.refl _ _).alloc _).trans (HX3.out.keeps.mono fun _ _ _ => trivial))).setCell (by simp) _); have HRh := Lib.hid (Hr.out.keep HK2.out fun j h => h); clear hx; obtain ⟨v1, w1, bb, off, cc, w2, r1, r2, hrow, hx2⟩ := CT.out _ HRh.out; rw [World.size_setCell] at r1; have hs1a := ((Keeps.refl (fun _ => True) _).alloc (.cells #[] 40)).cell hs1 trivial; have R1 := Lib.hid r1; have R2 := Lib.hid r2; have HRow := Lib.hid hrow; have HX4 := Lib.hid hx2; clear r1 r2 hrow hx2)
      | (at_builtin; first | (refine Lib.wpList_append_run _ rfl _ _ 22 22 rfl _ _ rfl rfl _ _ R1.out ?_) | (refine Lib.wpList_append_run _ rfl _ _ 22 22 rfl _ _ rfl rfl _ _ R2.out ?_)))
      go_ret
      exact ⟨rfl, (HK2.out.trans (HX4.out.keeps.mono fun _ _ _ => trivial)).ext fun j h => h⟩

    by_cases hi1 : (m : Int) ≤ i
    · go_enter Try.func5, Try.ntmps5
      go_wp2_with (first
      | ((with_reducible refine (CL.out _).mono ?_); rintro e W1 ⟨rfl, hx⟩; obtain ⟨ha0, ha1, hf0, hf1⟩ := cells_of (hx.keeps.heap HB.out trivial); have HX1 := Lib.hid hx; clear hx)
      | ((with_reducible refine (CM.out _).mono ?_); rintro e W2 ⟨rfl, hx⟩; clear ha0 ha1 hf0 hf1; have HX2 := Lib.hid (HX1.out.trans hx); obtain ⟨ha0, ha1, hf0, hf1⟩ := cells_of (HX2.out.keeps.heap HB.out trivial); clear hx)
      | ((with_reducible refine (CA.out _ (Hr.out.ext (HX0.out.trans HX2.out))).mono ?_); rintro e W3 ⟨rfl, hx⟩; clear ha0 ha1 hf0 hf1; have HX3 := Lib.hid (HX2.out.trans hx); have HB2 := Lib.hid (HX3.out.keeps.heap HB.out trivial); have HBA := Lib.hid (set_fst HB2.out (.bool true)); obtain ⟨ha0, ha1, hf0, hf1⟩ := cells_of HB2.out; obtain ⟨hs0, hs1, hs2, hs3⟩ := cells_of HBA.out; have HK2 : Hid (Keeps (fun j => j < w.heap.size) w (W3.setCell ⟨w.heap.size, 0, none⟩ (.bool true))) := Lib.hid (((((Keeps.refl _ _).alloc _).trans (HX3.out.keeps.mono fun _ _ _ => trivial))).setCell (by simp) _); have HRh := Lib.hid (Hr.out.keep HK2.out fun j h => h); clear hx; obtain ⟨v1, w1, bb, off, cc, w2, r1, r2, hrow, hx2⟩ := CT.out _ HRh.out; rw [World.size_setCell] at r1; have hs1a := ((Keeps.refl (fun _ => True) _).alloc (.cells #[] 40)).cell hs1 trivial; have R1 := Lib.hid r1; have R2 := Lib.hid r2; have HRow := Lib.hid hrow; have HX4 := Lib.hid hx2; clear r1 r2 hrow hx2)
      | (at_builtin; first | (refine Lib.wpList_append_run _ rfl _ _ 22 22 rfl _ _ rfl rfl _ _ R1.out ?_) | (refine Lib.wpList_append_run _ rfl _ _ 22 22 rfl _ _ rfl rfl _ _ R2.out ?_)))
      go_ret
      exact ⟨rfl, (HK2.out.trans (HX4.out.keeps.mono fun _ _ _ => trivial)).ext fun j h => h⟩

    by_cases hj0 : j < 0
    · go_enter Try.func5, Try.ntmps5
      go_wp2_with (first
      | ((with_reducible refine (CL.out _).mono ?_); rintro e W1 ⟨rfl, hx⟩; obtain ⟨ha0, ha1, hf0, hf1⟩ := cells_of (hx.keeps.heap HB.out trivial); have HX1 := Lib.hid hx; clear hx)
      | ((with_reducible refine (CM.out _).mono ?_); rintro e W2 ⟨rfl, hx⟩; clear ha0 ha1 hf0 hf1; have HX2 := Lib.hid (HX1.out.trans hx); obtain ⟨ha0, ha1, hf0, hf1⟩ := cells_of (HX2.out.keeps.heap HB.out trivial); clear hx)
      | ((with_reducible refine (CA.out _ (Hr.out.ext (HX0.out.trans HX2.out))).mono ?_); rintro e W3 ⟨rfl, hx⟩; clear ha0 ha1 hf0 hf1; have HX3 := Lib.hid (HX2.out.trans hx); have HB2 := Lib.hid (HX3.out.keeps.heap HB.out trivial); have HBA := Lib.hid (set_fst HB2.out (.bool true)); obtain ⟨ha0, ha1, hf0, hf1⟩ := cells_of HB2.out; obtain ⟨hs0, hs1, hs2, hs3⟩ := cells_of HBA.out; have HK2 : Hid (Keeps (fun j => j < w.heap.size) w (W3.setCell ⟨w.heap.size, 0, none⟩ (.bool true))) := Lib.hid (((((Keeps.refl _ _).alloc _).trans (HX3.out.keeps.mono fun _ _ _ => trivial))).setCell (by simp) _); have HRh := Lib.hid (Hr.out.keep HK2.out fun j h => h); clear hx; obtain ⟨v1, w1, bb, off, cc, w2, r1, r2, hrow, hx2⟩ := CT.out _ HRh.out; rw [World.size_setCell] at r1; have hs1a := ((Keeps.refl (fun _ => True) _).alloc (.cells #[] 40)).cell hs1 trivial; have R1 := Lib.hid r1; have R2 := Lib.hid r2; have HRow := Lib.hid hrow; have HX4 := Lib.hid hx2; clear r1 r2 hrow hx2)
      | (at_builtin; first | (refine Lib.wpList_append_run _ rfl _ _ 22 22 rfl _ _ rfl rfl _ _ R1.out ?_) | (refine Lib.wpList_append_run _ rfl _ _ 22 22 rfl _ _ rfl rfl _ _ R2.out ?_)))
      go_ret
      exact ⟨rfl, (HK2.out.trans (HX4.out.keeps.mono fun _ _ _ => trivial)).ext fun j h => h⟩

    by_cases hj1 : (m : Int) ≤ j
    · go_enter Try.func5, Try.ntmps5
      go_wp2_with (first
      | ((with_reducible refine (CL.out _).mono ?_); rintro e W1 ⟨rfl, hx⟩; obtain ⟨ha0, ha1, hf0, hf1⟩ := cells_of (hx.keeps.heap HB.out trivial); have HX1 := Lib.hid hx; clear hx)
      | ((with_reducible refine (CM.out _).mono ?_); rintro e W2 ⟨rfl, hx⟩; clear ha0 ha1 hf0 hf1; have HX2 := Lib.hid (HX1.out.trans hx); obtain ⟨ha0, ha1, hf0, hf1⟩ := cells_of (HX2.out.keeps.heap HB.out trivial); clear hx)
      | ((with_reducible refine (CA.out _ (Hr.out.ext (HX0.out.trans HX2.out))).mono ?_); rintro e W3 ⟨rfl, hx⟩; clear ha0 ha1 hf0 hf1; have HX3 := Lib.hid (HX2.out.trans hx); have HB2 := Lib.hid (HX3.out.keeps.heap HB.out trivial); have HBA := Lib.hid (set_fst HB2.out (.bool true)); obtain ⟨ha0, ha1, hf0, hf1⟩ := cells_of HB2.out; obtain ⟨hs0, hs1, hs2, hs3⟩ := cells_of HBA.out; have HK2 : Hid (Keeps (fun j => j < w.heap.size) w (W3.setCell ⟨w.heap.size, 0, none⟩ (.bool true))) := Lib.hid (((((Keeps.refl _ _).alloc _).trans (HX3.out.keeps.mono fun _ _ _ => trivial))).setCell (by simp) _); have HRh := Lib.hid (Hr.out.keep HK2.out fun j h => h); clear hx; obtain ⟨v1, w1, bb, off, cc, w2, r1, r2, hrow, hx2⟩ := CT.out _ HRh.out; rw [World.size_setCell] at r1; have hs1a := ((Keeps.refl (fun _ => True) _).alloc (.cells #[] 40)).cell hs1 trivial; have R1 := Lib.hid r1; have R2 := Lib.hid r2; have HRow := Lib.hid hrow; have HX4 := Lib.hid hx2; clear r1 r2 hrow hx2)
      | (at_builtin; first | (refine Lib.wpList_append_run _ rfl _ _ 22 22 rfl _ _ rfl rfl _ _ R1.out ?_) | (refine Lib.wpList_append_run _ rfl _ _ 22 22 rfl _ _ rfl rfl _ _ R2.out ?_)))
      go_ret
      exact ⟨rfl, (HK2.out.trans (HX4.out.keeps.mono fun _ _ _ => trivial)).ext fun j h => h⟩

    obtain ⟨a, rfl⟩ : ∃ a : Nat, i = a := ⟨i.toNat, by omega⟩
    obtain ⟨b, rfl⟩ : ∃ b : Nat, j = b := ⟨j.toNat, by omega⟩
    have ham : (a : Int) < m := by omega
    have hbm : (b : Int) < m := by omega
    clear hi0 hi1 hj0 hj1
    obtain ⟨⟨ka, sa, na⟩, hxa⟩ : ∃ x, (l ++ [(⟨k, s, 0⟩ : SumC)])[a]? = some x := ⟨_, List.getElem?_eq_getElem (by rw [HLm.out]; omega)⟩
    obtain ⟨⟨kb, sb, nb⟩, hxb⟩ : ∃ x, (l ++ [(⟨k, s, 0⟩ : SumC)])[b]? = some x := ⟨_, List.getElem?_eq_getElem (by rw [HLm.out]; omega)⟩
    have Hxa := Lib.hid hxa
    have Hxb := Lib.hid hxb
    clear hxa hxb
    go_enter Try.func5, Try.ntmps5
    go_wp2_with (first
      | ((with_reducible refine (CL.out _).mono ?_); rintro e W1 ⟨rfl, hx⟩; obtain ⟨ha0, ha1, hf0, hf1⟩ := cells_of (hx.keeps.heap HB.out trivial); have HX1 := Lib.hid hx; clear hx)
      | ((with_reducible refine (CM.out _).mono ?_); rintro e W2 ⟨rfl, hx⟩; clear ha0 ha1 hf0 hf1; have HX2 := Lib.hid (HX1.out.trans hx); obtain ⟨ha0, ha1, hf0, hf1⟩ := cells_of (HX2.out.keeps.heap HB.out trivial); clear hx)
      | ((with_reducible refine (CA.out _ (Hr.out.ext (HX0.out.trans HX2.out))).mono ?_); rintro e W3 ⟨rfl, hx⟩; clear ha0 ha1 hf0 hf1; have HX3 := Lib.hid (HX2.out.trans hx); have HB2 := Lib.hid (HX3.out.keeps.heap HB.out trivial); have HBA := Lib.hid (set_fst HB2.out (.bool true)); obtain ⟨ha0, ha1, hf0, hf1⟩ := cells_of HB2.out; obtain ⟨hs0, hs1, hs2, hs3⟩ := cells_of HBA.out; have HK2 : Hid (Keeps (fun j => j < w.heap.size) w (W3.setCell ⟨w.heap.size, 0, none⟩ (.bool true))) := Lib.hid (((((Keeps.refl _ _).alloc _).trans (HX3.out.keeps.mono fun _ _ _ => trivial))).setCell (by simp) _); have HRh := Lib.hid (Hr.out.keep HK2.out fun j h => h); clear hx; obtain ⟨v1, w1, bb, off, cc, w2, r1, r2, hrow, hx2⟩ := CT.out _ HRh.out; rw [World.size_setCell] at r1; have hs1a := ((Keeps.refl (fun _ => True) _).alloc (.cells #[] 40)).cell hs1 trivial; have R1 := Lib.hid r1; have R2 := Lib.hid r2; have HRow := Lib.hid hrow; have HX4 := Lib.hid hx2; clear r1 r2 hrow hx2)
      | (at_builtin; first | (refine Lib.wpList_append_run _ rfl _ _ 22 22 rfl _ _ rfl rfl _ _ R1.out ?_) | (refine Lib.wpList_append_run _ rfl _ _ 22 22 rfl _ _ rfl rfl _ _ R2.out ?_)))
    have TW : Hid (∀ W, Ext w2 W → W.cell? ⟨w.heap.size, 0, none⟩ = some (.bool true) ∧ W.cell? ⟨w.heap.size, 1, none⟩ = some (.slice ao nl ac) ∧ W.cell? ⟨bb, off + a * 3, none⟩ = some (.string ka) ∧ W.cell? ⟨bb, off + a * 3 + 1, none⟩ = some (.string sa) ∧ W.cell? ⟨bb, off + b * 3, none⟩ = some (.string kb) ∧ W.cell? ⟨bb, off + b * 3 + 1, none⟩ = some (.string sb)) := Lib.hid fun W hx => by
      obtain ⟨g0, g1, _, _⟩ := cells_of ((HX4.out.trans hx).keeps.heap HBA.out trivial)
      obtain ⟨b1, off1, c1, e1, x0, x1, _⟩ := srow_at (HRow.out.ext hx) a _ Hxa.out
      obtain ⟨rfl, rfl⟩ := slice_inj e1
      obtain ⟨b2, off2, c2, e2, y0, y1, _⟩ := srow_at (HRow.out.ext hx) b _ Hxb.out
      obtain ⟨rfl, rfl⟩ := slice_inj e2
      exact ⟨g0, g1, x0, x1, y0, y1⟩
    have HKw : Hid (Keeps (fun j => j < w.heap.size) w w2) := Lib.hid (HK2.out.trans (HX4.out.keeps.mono fun _ _ _ => trivial))
    have HRw := Lib.hid (HRh.out.ext HX4.out)
    have CO1 := Lib.hid fun W h => HOf_any l (.slice ao nl ac) true ka sa W h
    have CO2 := Lib.hid fun W h => HOf_any l (.slice ao nl ac) true kb sb W h
    have CK1 := Lib.hid fun W h => Known_any l (.slice ao nl ac) true ka sa W h
    have CK2 := Lib.hid fun W h => Known_any l (.slice ao nl ac) true kb sb W h
    have hz1 : sumE ka sa = 0 → hashV true l ka sa = entryN ka sa l := fun h => by unfold hashV; rw [if_neg (by simpa using h), if_pos rfl]
    have hz2 : sumE kb sb = 0 → hashV true l kb sb = entryN kb sb l := fun h => by unfold hashV; rw [if_neg (by simpa using h), if_pos rfl]
    have hm1 := apart_sums Ha.out ka sa kb sb
    have hm2 := (apart_sums Ha.out kb sb ka sa).2
    obtain ⟨ya, hya⟩ : ∃ y, hashV true l ka sa = y := ⟨_, rfl⟩
    obtain ⟨yb, hyb⟩ : ∃ y, hashV true l kb sb = y := ⟨_, rfl⟩
    obtain ⟨ea, hea⟩ : ∃ y, sumE ka sa = y := ⟨_, rfl⟩
    obtain ⟨eb, heb⟩ : ∃ y, sumE kb sb = y := ⟨_, rfl⟩
    obtain ⟨xa, hxa⟩ : ∃ y, hasB ka sa l = y := ⟨_, rfl⟩
    obtain ⟨xb, hxb⟩ : ∃ y, hasB kb sb l = y := ⟨_, rfl⟩
    rw [hxa, hxb] at hm1
    rw [hxb] at hm2
    unfold hasB at hxa hxb
    rw [hya, hea] at CO1
    rw [hyb, heb] at CO2
    rw [hxa] at CK1
    rw [hxb] at CK2
    rw [hea, hya] at hz1
    rw [heb, hyb] at hz2
    have HM : Hid (ea = 0 → eb = 0 → ((ya : Int) == (yb : Int)) = (decide (ka = kb ∧ sa = sb) || (!xa && !xb)) ∧ ((ya : Int) != 0) = xa ∧ ((yb : Int) != 0) = xb) := Lib.hid fun h1 h2 => by
      rw [hz1 h1, hz2 h2]
      refine ⟨?_, ?_, ?_⟩
      · rw [← hm1.1, Bool.eq_iff_iff, beq_iff_eq, beq_iff_eq, Int.natCast_inj]
      · rw [← hm1.2, Bool.eq_iff_iff, bne_iff_ne, bne_iff_ne]; omega
      · rw [← hm2, Bool.eq_iff_iff, bne_iff_ne, bne_iff_ne]; omega
    clear hm1 hm2 hya hyb hea heb hxa hxb hz1 hz2 hs0 hs1 hs2 hs3 hs1a ha0 ha1 hf0 hf1 R1 R2
    have ha0 : (0 : Int) ≤ (a : Int) := Int.natCast_nonneg _
    have hb0 : (0 : Int) ≤ (b : Int) := Int.natCast_nonneg _
    have hx1 := Lib.hid (Ext.refl w2)
    have hx1d := Lib.hid ((Ext.refl w2).drew)
    go_region_held3 (fun w' => w'.cell? ⟨w.heap.size, 0, none⟩ = some (.bool true) ∧ w'.cell? ⟨w.heap.size, 1, none⟩ = some (.slice ao nl ac) ∧ w'.cell? ⟨bb, off + a * 3, none⟩ = some (.string ka) ∧ w'.cell? ⟨bb, off + a * 3 + 1, none⟩ = some (.string sa) ∧ w'.cell? ⟨bb, off + b * 3, none⟩ = some (.string kb) ∧ w'.cell? ⟨bb, off + b * 3 + 1, none⟩ = some (.string sb))
      (first | exact TW.out _ hx1.out | exact TW.out _ hx1d.out | go_keep)
      (first | ((with_reducible refine (CO1.out _ (HRw.out.ext hx1d.out)).mono ?_); rintro e W5 ⟨rfl, hx⟩; replace hx1 := Lib.hid (hx1d.out.trans hx); clear hx))
    replace hx1d := Lib.hid (hx1.out.drew)
    go_wp2_with fail
    go_region_held3 (fun w' => w'.cell? ⟨w.heap.size, 0, none⟩ = some (.bool true) ∧ w'.cell? ⟨w.heap.size, 1, none⟩ = some (.slice ao nl ac) ∧ w'.cell? ⟨bb, off + a * 3, none⟩ = some (.string ka) ∧ w'.cell? ⟨bb, off + a * 3 + 1, none⟩ = some (.string sa) ∧ w'.cell? ⟨bb, off + b * 3, none⟩ = some (.string kb) ∧ w'.cell? ⟨bb, off + b * 3 + 1, none⟩ = some (.string sb))
      (first | exact TW.out _ hx1.out | exact TW.out _ hx1d.out | go_keep)
      (first | ((with_reducible refine (CO2.out _ (HRw.out.ext hx1d.out)).mono ?_); rintro e W6 ⟨rfl, hx⟩; replace hx1 := Lib.hid (hx1d.out.trans hx); clear hx))
    replace hx1d := Lib.hid (hx1.out.drew)
    go_wp2_with fail
    · go_ret
      exact ⟨rfl, (HKw.out.trans (hx1.out.keeps.mono fun _ _ _ => trivial)).ext fun j h => h⟩
    · have hb00 : (eb != 0) = false := by assumption
      have hm := HM.out (by first | trivial | assumption) (by simpa using hb00)
      have hq : decide (ka = kb ∧ sa = sb) = ((ka.toList == kb.toList) && (sa.toList == sb.toList)) := by
        rw [same_text, same_text, Bool.eq_iff_iff]
        simp
      rw [hq] at hm
      obtain ⟨q1, hq1⟩ : ∃ q, (ka.toList == kb.toList) = q := ⟨_, rfl⟩
      obtain ⟨q2, hq2⟩ : ∃ q, (sa.toList == sb.toList) = q := ⟨_, rfl⟩
      rw [hq1, hq2] at hm
      clear hq
      have Hm := Lib.hid hm
      clear hm
      have hmx : Try.prog.follows .mixedOrders = true := by kernel_rfl
      cases q1
      all_goals
        obtain ⟨g0, g1, x0, x1, y0, y1⟩ := TW.out _ hx1d.out
        refine wp_region_still hmx (by decide +kernel) ?_
        iterate 25 still_step
        refine wpStill_nil ?_
        clear g0 g1 x0 x1 y0 y1
        replace hx1 := hx1d
        replace hx1d := Lib.hid (hx1.out.drew)
        go_wp2_with fail
        go_region_held3 (fun w' => w'.cell? ⟨w.heap.size, 0, none⟩ = some (.bool true) ∧ w'.cell? ⟨w.heap.size, 1, none⟩ = some (.slice ao nl ac) ∧ w'.cell? ⟨bb, off + a * 3, none⟩ = some (.string ka) ∧ w'.cell? ⟨bb, off + a * 3 + 1, none⟩ = some (.string sa) ∧ w'.cell? ⟨bb, off + b * 3, none⟩ = some (.string kb) ∧ w'.cell? ⟨bb, off + b * 3 + 1, none⟩ = some (.string sb))
          (first | exact TW.out _ hx1.out | exact TW.out _ hx1d.out | go_keep)
          (first
            | ((with_reducible refine (CK1.out _ (HRw.out.ext hx1.out)).mono ?_); rintro e W7 ⟨rfl, hx⟩; replace hx1 := Lib.hid (hx1.out.trans hx); replace hx1d := Lib.hid (hx1.out.drew); clear hx)
            | ((with_reducible refine (CK1.out _ (HRw.out.ext hx1d.out)).mono ?_); rintro e W7 ⟨rfl, hx⟩; replace hx1 := Lib.hid (hx1d.out.trans hx); replace hx1d := Lib.hid (hx1.out.drew); clear hx)
            | ((with_reducible refine (CK2.out _ (HRw.out.ext hx1.out)).mono ?_); rintro e W8 ⟨rfl, hx⟩; replace hx1 := Lib.hid (hx1.out.trans hx); replace hx1d := Lib.hid (hx1.out.drew); clear hx)
            | ((with_reducible refine (CK2.out _ (HRw.out.ext hx1d.out)).mono ?_); rintro e W8 ⟨rfl, hx⟩; replace hx1 := Lib.hid (hx1d.out.trans hx); replace hx1d := Lib.hid (hx1.out.drew); clear hx))
        obtain ⟨m1, m2, m3⟩ := Hm.out
        go_wp2_with fail
        all_goals go_ret
        all_goals refine ⟨done_eq ?_, (HKw.out.trans (hx1.out.keeps.mono fun _ _ _ => trivial)).ext fun j h => h⟩
        all_goals (revert m1 m2 m3; cases xa <;> cases xb <;> cases q2 <;> (intro m1 m2 m3; (try simp); done))
    · go_ret
      exact ⟨rfl, (HKw.out.trans (hx1.out.keeps.mono fun _ _ _ => trivial)).ext fun j h => h⟩

theorem keyedApart_args (o : Bool) (v : Value) (l : List SumC) (i j : Int) (k s : ByteArray) (w : World) (hr : SRow w v 3 (l.map SumC.cells)) (hf : ∀ x ∈ l, x.fit) (_ : (Lit.int .i64 i).wf = true) (_ : (Lit.int .i64 j).wf = true) (_ : k.size ≤ maxLen) (_ : s.size ≤ maxLen) :
    Calls Try.prog 5 #[.agg #[.bool o, v], .int .i64 i, .int .i64 j, .string k, .string s] w fun e w' => e = .returned (.bool true) ∧ Ext w w' :=
  keyedApart_walk l v o i j k s w hr hf
end Go.Proofs.Ytnfnjhphamadgaa
