/- What the reference's turn and round do. Conditions: numbers of 64 bits. -/
import Derived.Test.YtjnaknfnoibncaaSipArgs
import Derived.Test.YtjnaknfnoibncaaQuiet
namespace Go.Proofs.Ytjnaknfnoibncaa
open Go Go.RowKit Go.Shelf Go.Sort
attribute [local go_sem] Oper.semAt_some wide_fn wide_depth

theorem NumsAt.drew {W : World} {B : Nat} {t : TypeId} {l : List Nat} (h : NumsAt W B t l) : NumsAt W.drew B t l := h
set_option maxRecDepth 100000 in
set_option maxHeartbeats 400000 in
theorem RTurn_any (x k : Nat) (w : World) (hx : x < 18446744073709551616) (hk : k ≤ 63) :
    Calls Try.prog 105 #[.int .u64 (x : Int), .int .i64 (k : Int)] w fun e w' => e = .returned (.int .u64 (rotM x k : Nat)) ∧ w' = w.drew := by
  have hm : min k 64 = k := by omega
  have hs : IntKind.i64.wrap (64 - (k : Int)) = ((64 - k : Nat) : Int) := by rw [IntKind.wrap_i64]; omega
  have hm2 : min (64 - k) 64 = 64 - k := by omega
  have hz : (0 : Int) ≤ ((64 - k : Nat) : Int) := Int.natCast_nonneg _
  have HR := Lib.hid (rot64 x k hx)
  go_enter Try.func105, Try.ntmps105
  go_wp2_with fail
  refine wp_region_still (by kernel_rfl) (by kernel_rfl) ?_
  iterate 9 still_step
  refine wpStill_nil ?_
  go_wp2_with fail
  go_ret
  exact ⟨by rw [← HR.out]; rfl, rfl⟩

set_option maxRecDepth 100000 in
set_option maxHeartbeats 4000000 in
theorem RRound_any (s : St) (w : World) (hs : s.ok) :
    Calls Try.prog 99 #[s.lit] w fun e w' => e = .returned (roundM s).lit ∧ Ext w w' := by
  obtain ⟨a, b, c, d⟩ := s
  obtain ⟨ha, hb, hc, hd⟩ := hs
  simp only at ha hb hc hd
  simp only [St.lit, roundM]
  obtain ⟨a1, e1⟩ : ∃ a1, addM a b = a1 := ⟨_, rfl⟩
  obtain ⟨c1, e2⟩ : ∃ c1, addM c d = c1 := ⟨_, rfl⟩
  rw [e1, e2]
  have ha1 : a1 < 18446744073709551616 := e1 ▸ addM_lt a b
  have hc1 : c1 < 18446744073709551616 := e2 ▸ addM_lt c d
  obtain ⟨b1, e3⟩ : ∃ b1, mixM a1 b 13 = b1 := ⟨_, rfl⟩
  obtain ⟨d1, e4⟩ : ∃ d1, mixM c1 d 16 = d1 := ⟨_, rfl⟩
  obtain ⟨a2, e5⟩ : ∃ a2, rotM a1 32 = a2 := ⟨_, rfl⟩
  rw [e3, e4, e5]
  have hb1 : b1 < 18446744073709551616 := e3 ▸ mixM_lt (by decide) ha1 hb
  have hd1 : d1 < 18446744073709551616 := e4 ▸ mixM_lt (by decide) hc1 hd
  have ha2 : a2 < 18446744073709551616 := e5 ▸ rotM_lt _ _ (by decide) ha1
  obtain ⟨a3, e6⟩ : ∃ a3, addM a2 d1 = a3 := ⟨_, rfl⟩
  obtain ⟨c2, e7⟩ : ∃ c2, addM c1 b1 = c2 := ⟨_, rfl⟩
  rw [e6, e7]
  have ha3 : a3 < 18446744073709551616 := e6 ▸ addM_lt _ _
  have hc2 : c2 < 18446744073709551616 := e7 ▸ addM_lt _ _
  obtain ⟨d2, e8⟩ : ∃ d2, mixM a3 d1 21 = d2 := ⟨_, rfl⟩
  obtain ⟨b2, e9⟩ : ∃ b2, mixM c2 b1 17 = b2 := ⟨_, rfl⟩
  obtain ⟨c3, e10⟩ : ∃ c3, rotM c2 32 = c3 := ⟨_, rfl⟩
  rw [e8, e9, e10]
  have t1 := fun W => RTurn_any b 13 W hb (by decide)
  have t2 := fun W => RTurn_any a1 32 W ha1 (by decide)
  have t3 := fun W => RTurn_any d 16 W hd (by decide)
  have t4 := fun W => RTurn_any d1 21 W hd1 (by decide)
  have t5 := fun W => RTurn_any b1 17 W hb1 (by decide)
  have t6 := fun W => RTurn_any c2 32 W hc2 (by decide)
  rw [e5] at t2
  rw [e10] at t6
  have x1 := bits_xor_u64_nat (rotM b 13) a1 (rotM_lt _ _ (by decide) hb) ha1
  have x2 := bits_xor_u64_nat (rotM d 16) c1 (rotM_lt _ _ (by decide) hd) hc1
  have x3 := bits_xor_u64_nat (rotM d1 21) a3 (rotM_lt _ _ (by decide) hd1) ha3
  have x4 := bits_xor_u64_nat (rotM b1 17) c2 (rotM_lt _ _ (by decide) hb1) hc2
  rw [show rotM b 13 ^^^ a1 = b1 from e3] at x1
  rw [show rotM d 16 ^^^ c1 = d1 from e4] at x2
  rw [show rotM d1 21 ^^^ a3 = d2 from e8] at x3
  rw [show rotM b1 17 ^^^ c2 = b2 from e9] at x4
  have y1 := add64 a b
  have y2 := add64 c d
  have y3 := add64 a2 d1
  have y4 := add64 c1 b1
  rw [e1] at y1
  rw [e2] at y2
  rw [e6] at y3
  rw [e7] at y4
  have T1 := Lib.hid t1
  have T2 := Lib.hid t2
  have T3 := Lib.hid t3
  have T4 := Lib.hid t4
  have T5 := Lib.hid t5
  have T6 := Lib.hid t6
  clear t1 t2 t3 t4 t5 t6 e1 e2 e3 e4 e5 e6 e7 e8 e9 e10
  simp only [Int.cast_ofNat_Int] at T1 T2 T3 T4 T5 T6
  go_enter Try.func99, Try.ntmps99
  go_wp2_with fail
  have hn0 : NumsAt ((w.alloc (.cells (encU [a1, b, c, d]).toArray 119)).alloc (.cells (encU [0, 0, 0, 0]).toArray 119)) w.heap.size 119 [a1, b, c, d] := (NumsAt.new w _ _).keeps (K := fun _ => True) ((Keeps.refl _ _).alloc _) trivial
  have hz0 : NumsAt ((w.alloc (.cells (encU [a1, b, c, d]).toArray 119)).alloc (.cells (encU [0, 0, 0, 0]).toArray 119)) (w.heap.size + 1) 119 [0, 0, 0, 0] := by
    have := NumsAt.new (w.alloc (.cells (encU [a1, b, c, d]).toArray 119)) 119 [0, 0, 0, 0]
    simpa using this
  have hx0 : Ext w ((w.alloc (.cells (encU [a1, b, c, d]).toArray 119)).alloc (.cells (encU [0, 0, 0, 0]).toArray 119)) := ((Ext.refl w).alloc _).alloc _
  change Code.wp _ _ _ _ ((w.alloc (.cells (encU [a1, b, c, d]).toArray 119)).alloc (.cells (encU [0, 0, 0, 0]).toArray 119))
  generalize (w.alloc (.cells (encU [a1, b, c, d]).toArray 119)).alloc (.cells (encU [0, 0, 0, 0]).toArray 119) = W at hn0 hz0 hx0 ⊢
  have hn := hn0
  have hz := hz0
  have hx := hx0
  clear hn0 hz0 hx0
  have kq0 := fun dd os => cell_regrown (hn.cell (i := 0) (x := a1) rfl) dd os
  have kq1 := fun dd os => cell_regrown (hn.cell (i := 1) (x := b) rfl) dd os
  refine wp_quiet_tail 7 (by kernel_rfl) (by kernel_rfl) ?_
  simp only [List.take_succ_cons, List.take_zero, List.drop_succ_cons, List.drop_zero]
  iterate 2 (refine wpQuiet_step (fun K hK => ?_); go_simp; refine hK _ ?_; clear hK K)
  refine wpQuiet_step (fun K hK => ?_)
  go_simp
  apply Exists.intro
  refine ⟨fun _ => ?_, hK _ ?_⟩
  · exact calls_later ((T1.out _).mono fun e w' h => ⟨h.1, by rw [h.2]; exact (Ext.refl _).drew⟩)
  clear hK K
  iterate 4 (refine wpQuiet_step (fun K hK => ?_); go_simp; refine hK _ ?_; clear hK K)
  refine wpQuiet_nil ?_
  intro V hV
  replace hV := later_ext hV
  clear kq0 kq1
  have hm := hn.keeps hV.keeps trivial
  have hy := hz.keeps hV.keeps trivial
  have hg := hx.trans hV
  clear hn hz hx hV
  have kc0 := hm.cell (i := 0) (x := a1) rfl
  have kf0 := hm.frozen 0
  have kc1 := hm.cell (i := 1) (x := b) rfl
  have kf1 := hm.frozen 1
  have kc2 := hm.cell (i := 2) (x := c) rfl
  have kf2 := hm.frozen 2
  have kc3 := hm.cell (i := 3) (x := d) rfl
  have kf3 := hm.frozen 3
  have HM := Lib.hid hm
  have HY := Lib.hid hy
  have HG := Lib.hid hg
  clear hm hy hg
  go_wp2_with ((with_reducible refine (T2.out _).mono ?_); rintro e w' ⟨rfl, rfl⟩)
  have hn : NumsAt ((((V.setCell ⟨w.heap.size, 1, none⟩ (.int .u64 (b1 : Int))).setCell ⟨w.heap.size, 0, none⟩ (.int .u64 (a2 : Int))).setCell ⟨w.heap.size, 2, none⟩ (.int .u64 (c1 : Int))).drew) w.heap.size 119 [a2, b1, c1, d] := (((HM.out.set 1 b1).set 0 a2).set 2 c1)
  have hk : ∀ K : Nat → Prop, ¬ K w.heap.size → Keeps K V ((((V.setCell ⟨w.heap.size, 1, none⟩ (.int .u64 (b1 : Int))).setCell ⟨w.heap.size, 0, none⟩ (.int .u64 (a2 : Int))).setCell ⟨w.heap.size, 2, none⟩ (.int .u64 (c1 : Int))).drew) := fun K h => ((((Keeps.refl K V).setCell (p := ⟨w.heap.size, 1, none⟩) h _).setCell (p := ⟨w.heap.size, 0, none⟩) h _).setCell (p := ⟨w.heap.size, 2, none⟩) h _).drew
  have hz := HY.out.keeps (hk (fun j => j ≠ w.heap.size) (fun h => h rfl)) (by omega)
  have hx : Ext w ((((V.setCell ⟨w.heap.size, 1, none⟩ (.int .u64 (b1 : Int))).setCell ⟨w.heap.size, 0, none⟩ (.int .u64 (a2 : Int))).setCell ⟨w.heap.size, 2, none⟩ (.int .u64 (c1 : Int))).drew) := Below.trans HG.out ((hk (fun j => j < w.heap.size) (by omega)).below HG.out.size (fun j hj => hj))
  clear hk HM HY HG kc0 kc1 kc2 kc3 kf0 kf1 kf2 kf3
  generalize (((V.setCell ⟨w.heap.size, 1, none⟩ (.int .u64 (b1 : Int))).setCell ⟨w.heap.size, 0, none⟩ (.int .u64 (a2 : Int))).setCell ⟨w.heap.size, 2, none⟩ (.int .u64 (c1 : Int))).drew = W at hn hz hx ⊢
  have kq2 := fun dd os => cell_regrown (hn.cell (i := 2) (x := c1) rfl) dd os
  have kq3 := fun dd os => cell_regrown (hn.cell (i := 3) (x := d) rfl) dd os
  refine wp_quiet_tail 7 (by kernel_rfl) (by kernel_rfl) ?_
  simp only [List.take_succ_cons, List.take_zero, List.drop_succ_cons, List.drop_zero]
  iterate 2 (refine wpQuiet_step (fun K hK => ?_); go_simp; refine hK _ ?_; clear hK K)
  refine wpQuiet_step (fun K hK => ?_)
  go_simp
  apply Exists.intro
  refine ⟨fun _ => ?_, hK _ ?_⟩
  · exact calls_later ((T3.out _).mono fun e w' h => ⟨h.1, by rw [h.2]; exact (Ext.refl _).drew⟩)
  clear hK K
  iterate 4 (refine wpQuiet_step (fun K hK => ?_); go_simp; refine hK _ ?_; clear hK K)
  refine wpQuiet_nil ?_
  intro V hV
  replace hV := later_ext hV
  clear kq2 kq3
  have hm := hn.keeps hV.keeps trivial
  have hy := hz.keeps hV.keeps trivial
  have hg := hx.trans hV
  clear hn hz hx hV
  have kc0 := hm.cell (i := 0) (x := a2) rfl
  have kf0 := hm.frozen 0
  have kc1 := hm.cell (i := 1) (x := b1) rfl
  have kf1 := hm.frozen 1
  have kc2 := hm.cell (i := 2) (x := c1) rfl
  have kf2 := hm.frozen 2
  have kc3 := hm.cell (i := 3) (x := d) rfl
  have kf3 := hm.frozen 3
  have HM := Lib.hid hm
  have HY := Lib.hid hy
  have HG := Lib.hid hg
  clear hm hy hg
  go_wp2_with fail
  have hn : NumsAt (((V.setCell ⟨w.heap.size, 3, none⟩ (.int .u64 (d1 : Int))).setCell ⟨w.heap.size, 0, none⟩ (.int .u64 (a3 : Int)))) w.heap.size 119 [a3, b1, c1, d1] := ((HM.out.set 3 d1).set 0 a3)
  have hk : ∀ K : Nat → Prop, ¬ K w.heap.size → Keeps K V (((V.setCell ⟨w.heap.size, 3, none⟩ (.int .u64 (d1 : Int))).setCell ⟨w.heap.size, 0, none⟩ (.int .u64 (a3 : Int)))) := fun K h => (((Keeps.refl K V).setCell (p := ⟨w.heap.size, 3, none⟩) h _).setCell (p := ⟨w.heap.size, 0, none⟩) h _)
  have hz := HY.out.keeps (hk (fun j => j ≠ w.heap.size) (fun h => h rfl)) (by omega)
  have hx : Ext w (((V.setCell ⟨w.heap.size, 3, none⟩ (.int .u64 (d1 : Int))).setCell ⟨w.heap.size, 0, none⟩ (.int .u64 (a3 : Int)))) := Below.trans HG.out ((hk (fun j => j < w.heap.size) (by omega)).below HG.out.size (fun j hj => hj))
  clear hk HM HY HG kc0 kc1 kc2 kc3 kf0 kf1 kf2 kf3
  generalize ((V.setCell ⟨w.heap.size, 3, none⟩ (.int .u64 (d1 : Int))).setCell ⟨w.heap.size, 0, none⟩ (.int .u64 (a3 : Int))) = W at hn hz hx ⊢
  have kq0 := fun dd os => cell_regrown (hn.cell (i := 0) (x := a3) rfl) dd os
  have kq3 := fun dd os => cell_regrown (hn.cell (i := 3) (x := d1) rfl) dd os
  refine wp_quiet_tail 7 (by kernel_rfl) (by kernel_rfl) ?_
  simp only [List.take_succ_cons, List.take_zero, List.drop_succ_cons, List.drop_zero]
  iterate 2 (refine wpQuiet_step (fun K hK => ?_); go_simp; refine hK _ ?_; clear hK K)
  refine wpQuiet_step (fun K hK => ?_)
  go_simp
  apply Exists.intro
  refine ⟨fun _ => ?_, hK _ ?_⟩
  · exact calls_later ((T4.out _).mono fun e w' h => ⟨h.1, by rw [h.2]; exact (Ext.refl _).drew⟩)
  clear hK K
  iterate 4 (refine wpQuiet_step (fun K hK => ?_); go_simp; refine hK _ ?_; clear hK K)
  refine wpQuiet_nil ?_
  intro V hV
  replace hV := later_ext hV
  clear kq0 kq3
  have hm := hn.keeps hV.keeps trivial
  have hy := hz.keeps hV.keeps trivial
  have hg := hx.trans hV
  clear hn hz hx hV
  have kc0 := hm.cell (i := 0) (x := a3) rfl
  have kf0 := hm.frozen 0
  have kc1 := hm.cell (i := 1) (x := b1) rfl
  have kf1 := hm.frozen 1
  have kc2 := hm.cell (i := 2) (x := c1) rfl
  have kf2 := hm.frozen 2
  have kc3 := hm.cell (i := 3) (x := d1) rfl
  have kf3 := hm.frozen 3
  have HM := Lib.hid hm
  have HY := Lib.hid hy
  have HG := Lib.hid hg
  clear hm hy hg
  go_wp2_with fail
  have hn : NumsAt (((V.setCell ⟨w.heap.size, 3, none⟩ (.int .u64 (d2 : Int))).setCell ⟨w.heap.size, 2, none⟩ (.int .u64 (c2 : Int)))) w.heap.size 119 [a3, b1, c2, d2] := ((HM.out.set 3 d2).set 2 c2)
  have hk : ∀ K : Nat → Prop, ¬ K w.heap.size → Keeps K V (((V.setCell ⟨w.heap.size, 3, none⟩ (.int .u64 (d2 : Int))).setCell ⟨w.heap.size, 2, none⟩ (.int .u64 (c2 : Int)))) := fun K h => (((Keeps.refl K V).setCell (p := ⟨w.heap.size, 3, none⟩) h _).setCell (p := ⟨w.heap.size, 2, none⟩) h _)
  have hz := HY.out.keeps (hk (fun j => j ≠ w.heap.size) (fun h => h rfl)) (by omega)
  have hx : Ext w (((V.setCell ⟨w.heap.size, 3, none⟩ (.int .u64 (d2 : Int))).setCell ⟨w.heap.size, 2, none⟩ (.int .u64 (c2 : Int)))) := Below.trans HG.out ((hk (fun j => j < w.heap.size) (by omega)).below HG.out.size (fun j hj => hj))
  clear hk HM HY HG kc0 kc1 kc2 kc3 kf0 kf1 kf2 kf3
  generalize ((V.setCell ⟨w.heap.size, 3, none⟩ (.int .u64 (d2 : Int))).setCell ⟨w.heap.size, 2, none⟩ (.int .u64 (c2 : Int))) = W at hn hz hx ⊢
  have kq1 := fun dd os => cell_regrown (hn.cell (i := 1) (x := b1) rfl) dd os
  have kq2 := fun dd os => cell_regrown (hn.cell (i := 2) (x := c2) rfl) dd os
  refine wp_quiet_tail 7 (by kernel_rfl) (by kernel_rfl) ?_
  simp only [List.take_succ_cons, List.take_zero, List.drop_succ_cons, List.drop_zero]
  iterate 2 (refine wpQuiet_step (fun K hK => ?_); go_simp; refine hK _ ?_; clear hK K)
  refine wpQuiet_step (fun K hK => ?_)
  go_simp
  apply Exists.intro
  refine ⟨fun _ => ?_, hK _ ?_⟩
  · exact calls_later ((T5.out _).mono fun e w' h => ⟨h.1, by rw [h.2]; exact (Ext.refl _).drew⟩)
  clear hK K
  iterate 4 (refine wpQuiet_step (fun K hK => ?_); go_simp; refine hK _ ?_; clear hK K)
  refine wpQuiet_nil ?_
  intro V hV
  replace hV := later_ext hV
  clear kq1 kq2
  have hm := hn.keeps hV.keeps trivial
  have hy := hz.keeps hV.keeps trivial
  have hg := hx.trans hV
  clear hn hz hx hV
  have kc0 := hm.cell (i := 0) (x := a3) rfl
  have kf0 := hm.frozen 0
  have kc1 := hm.cell (i := 1) (x := b1) rfl
  have kf1 := hm.frozen 1
  have kc2 := hm.cell (i := 2) (x := c2) rfl
  have kf2 := hm.frozen 2
  have kc3 := hm.cell (i := 3) (x := d2) rfl
  have kf3 := hm.frozen 3
  have HM := Lib.hid hm
  have HY := Lib.hid hy
  have HG := Lib.hid hg
  clear hm hy hg
  have HZ : Hid (V.heap[w.heap.size + 1]? = some (.cells #[.int .u64 0, .int .u64 0, .int .u64 0, .int .u64 0] 119 (0, 0))) := Lib.hid HY.out
  have z0 := HY.out.cell (i := 0) (x := 0) rfl
  have z1 := HY.out.cell (i := 1) (x := 0) rfl
  have z2 := HY.out.cell (i := 2) (x := 0) rfl
  have z3 := HY.out.cell (i := 3) (x := 0) rfl
  have g0 := HY.out.frozen 0
  have g1 := HY.out.frozen 1
  have g2 := HY.out.frozen 2
  have g3 := HY.out.frozen 3
  go_wp2_with ((with_reducible refine (T6.out _).mono ?_); rintro e w' ⟨rfl, rfl⟩)
  have hk : ∀ K : Nat → Prop, ¬ K w.heap.size → ¬ K (w.heap.size + 1) → Keeps K V _ := fun K h1 h2 => (((((((Keeps.refl K V).setCell (p := ⟨w.heap.size, 1, none⟩) h1 (.int .u64 (b2 : Int))).setCell (p := ⟨w.heap.size, 2, none⟩) h1 (.int .u64 (c3 : Int))).setCell (p := ⟨w.heap.size + 1, 0, none⟩) h2 (.int .u64 (a3 : Int))).setCell (p := ⟨w.heap.size + 1, 1, none⟩) h2 (.int .u64 (b2 : Int))).setCell (p := ⟨w.heap.size + 1, 2, none⟩) h2 (.int .u64 (c3 : Int))).setCell (p := ⟨w.heap.size + 1, 3, none⟩) h2 (.int .u64 (d2 : Int))).drew
  have hk2 : Keeps (fun j => j ≠ w.heap.size) V _ := ((Keeps.refl _ V).setCell (p := ⟨w.heap.size, 1, none⟩) (fun h => h rfl) (.int .u64 (b2 : Int))).setCell (p := ⟨w.heap.size, 2, none⟩) (fun h => h rfl) (.int .u64 (c3 : Int))
  have hf := ((((HY.out.keeps hk2 (by omega)).set 0 a3).set 1 b2).set 2 c3).set 3 d2
  have hk3 := hk (fun j => j < w.heap.size) (by omega) (by omega)
  have hx3 := Below.trans HG.out (hk3.below HG.out.size (fun j hj => hj))
  have hw3 : ∀ e : Ending, e = .returned (.agg #[.int .u64 (a3 : Int), .int .u64 (b2 : Int), .int .u64 (c3 : Int), .int .u64 (d2 : Int)]) → e = .returned (.agg #[.int .u64 (a3 : Int), .int .u64 (b2 : Int), .int .u64 (c3 : Int), .int .u64 (d2 : Int)]) ∧ Ext w _ := fun e he => ⟨he, hx3⟩
  generalize hW : World.drew _ = W at hx3 hw3 ⊢
  have hf2 : NumsAt W (w.heap.size + 1) 119 [a3, b2, c3, d2] := by rw [← hW]; exact hf.drew
  clear hk hk2 hk3 hW hf
  refine bodyPost_ret (v := .agg #[.int .u64 (a3 : Int), .int .u64 (b2 : Int), .int .u64 (c3 : Int), .int .u64 (d2 : Int)]) ?_ rfl (hw3 _ rfl)
  exact results_cell_row (P := Try.prog) (fn := Try.f99) (p := 2) (ty := 119) rfl _ _ (w.heap.size + 1) _ (encU [a3, b2, c3, d2]).toArray _ _ rfl hf2 Try.underlying119 rfl (by kernel_rfl)
end Go.Proofs.Ytjnaknfnoibncaa
