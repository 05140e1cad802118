/- A draft. edns' With: the case 'false' stands; of 'true' the region 4 is walked but for the last store: go_region_held3's S can't name the cell that the last operation stores into. Take the operations by hand (XMsgM's way: wp_region_held_drew, wpAnyH_take, held_step), or find a law where S is not asked behind the last one. -/
import Derived.Test.YtjnaknfnoibncaaOptC
import Derived.Test.YtjnaknfnoibncaaStepC
import Derived.Deep.RegionHeld3
import Derived.Deep.RegionLaw
namespace Go.Proofs.Ytjnaknfnoibncaa
open Go Go.RowKit Go.Shelf
attribute [local go_sem] Oper.semAt_some wide_fn wide_depth

def EdC.zero : EdC := ⟨false, 0, 0, 0, 0⟩
def WithPost (e : EdC) (l : List OptC) (cl sv : ByteArray) (w : World) (en : Ending) (w' : World) : Prop :=
  (areC cl sv = false ∧ en = .returned (.tuple #[.agg (EdC.zero.cells (.slice none 0 0)), .int .i64 2]) ∧ Ext w w') ∨
  (areC cl sv = true ∧ ∃ v', en = .returned (.tuple #[.agg (({ e with there := true } : EdC).cells v'), .int .i64 0]) ∧ SRow w' v' 2 ((keepO 10 l ++ [(⟨10, cl ++ sv⟩ : OptC)]).map OptC.cells) ∧ Ext w w')

set_option maxRecDepth 100000 in
set_option maxHeartbeats 4000000 in
theorem With_any (e : EdC) (l : List OptC) (v : Value) (cl sv : ByteArray) (w : World) (hr : SRow w v 2 (l.map OptC.cells)) (hl : l.length < 2147483648) :
    Calls Try.prog 18 #[.agg (e.cells v), .string cl, .string sv] w (WithPost e l cl sv w) := by
  have Hr := Lib.hid hr
  obtain ⟨ao, ac, rfl, hal⟩ := hr.open
  rw [List.length_map] at Hr hal ⊢
  clear hr hal
  obtain ⟨et, es, eh, ev, ef⟩ := e
  unfold EdC.cells
  simp only
  have C0 := Lib.hid fun W => areCookies_any cl sv W
  have C1 := Lib.hid fun W => isOf_any' 10 W
  rw [show (((10 : Nat)) : Int) = 10 from rfl] at C1
  have C2 : Hid (∀ (p : Nat) (W : World), SRow W (.slice ao l.length ac) 2 (l.map OptC.cells) → W.cell? ⟨p, 0, none⟩ = some (.int .u16 10) → Calls Try.prog 45 #[.slice ao l.length ac, .func (.func 74) #[] #[.pointer (some ⟨p, 0, none⟩)]] W fun e w' => ∃ v', e = .returned v' ∧ w'.ownsRow W.heap.size 72 2 v' (keepO 10 l).length (flatO (keepO 10 l)) ∧ Ext W w') := Lib.hid fun p W h1 h2 => withoutO_any l (.slice ao l.length ac) p 10 W h1 h2 (by omega)
  obtain ⟨nl, hnl⟩ : ∃ n, l.length = n := ⟨_, rfl⟩
  have Hnl := Lib.hid hnl
  rw [hnl] at C2 Hr hl ⊢
  clear hnl
  obtain ⟨q, hq⟩ : ∃ q, areC cl sv = q := ⟨_, rfl⟩
  have Hq := Lib.hid hq
  rw [hq] at C0
  obtain ⟨w1, h1⟩ : ∃ w1, (w.alloc (.cells #[.bool et, .int .u16 (es : Int), .int .u8 (eh : Int), .int .u8 (ev : Int), .int .u16 (ef : Int), .slice ao nl ac] 29)).alloc (.cells #[.bool false, .int .u16 0, .int .u8 0, .int .u8 0, .int .u16 0, .slice none 0 0] 29) = w1 := ⟨_, rfl⟩
  have X1 : Ext w w1 := by rw [← h1]; exact ((Ext.refl w).alloc _).alloc _
  have hz : (w.alloc (.cells #[.bool et, .int .u16 (es : Int), .int .u8 (eh : Int), .int .u8 (ev : Int), .int .u16 (ef : Int), .slice ao nl ac] 29)).heap.size = w.heap.size + 1 := by simp
  have hA : w1.heap[w.heap.size]? = some (.cells #[.bool et, .int .u16 (es : Int), .int .u8 (eh : Int), .int .u8 (ev : Int), .int .u16 (ef : Int), .slice ao nl ac] 29 (0, 0)) := by
    rw [← h1]
    exact ((Keeps.refl (fun _ => True) _).alloc _).heap (World.alloc_heap_new w _) trivial
  have hB : w1.heap[w.heap.size + 1]? = some (.cells #[.bool false, .int .u16 0, .int .u8 0, .int .u8 0, .int .u16 0, .slice none 0 0] 29 (0, 0)) := by
    rw [← h1, ← hz]
    exact World.alloc_heap_new _ _
  have HA := Lib.hid hA; have HB := Lib.hid hB; have HX := Lib.hid X1
  have b0 := fun i => cell_of_row w1 (w.heap.size + 1) i _ _ _ hB
  have g0 : ∀ i, w1.frozen? ⟨w.heap.size + 1, i, none⟩ = false := fun i => by simp [World.frozen?, hB]
  have a0 := fun i => cell_of_row w1 w.heap.size i _ _ _ hA
  have f0 : ∀ i, w1.frozen? ⟨w.heap.size, i, none⟩ = false := fun i => by simp [World.frozen?, hA]
  clear hA hB hz X1 hq
  subst h1
  cases q with
  | false =>
    have b0' := b0 0; have b1 := b0 1; have b2 := b0 2; have b3 := b0 3; have b4 := b0 4; have b5 := b0 5
    have g0' := g0 0; have g1 := g0 1; have g2 := g0 2; have g3 := g0 3; have g4 := g0 4; have g5 := g0 5
    clear b0 g0 a0 f0
    simp only [List.getElem?_toArray, List.getElem?_cons_zero, List.getElem?_cons_succ] at b0' b1 b2 b3 b4 b5
    go_enter Try.func18, Try.ntmps18
    go_wp2_with ((with_reducible refine (C0.out _).mono ?_); rintro e w' ⟨rfl, rfl⟩)
    refine bodyPost_ret (v := .tuple #[.agg #[.bool false, .int .u16 0, .int .u8 0, .int .u8 0, .int .u16 0, .slice none 0 0], .int .i64 2]) ?_ rfl (.inl ⟨Hq.out, rfl, HX.out⟩)
    exact results_row2 (P := Try.prog) (fn := Try.f18) (p := 6) (q := 7) (ty := 29) rfl _ _ (w.heap.size + 1) _ #[.bool false, .int .u16 0, .int .u8 0, .int .u8 0, .int .u16 0, .slice none 0 0] _ _ _ rfl rfl HB.out Try.underlying29 rfl (by kernel_rfl)
  | true =>
    have a0' := a0 0
    have f0' := f0 0
    clear b0 g0 a0 f0
    simp only [List.getElem?_toArray, List.getElem?_cons_zero] at a0'
    go_enter Try.func18, Try.ntmps18
    go_wp2_with ((with_reducible refine (C0.out _).mono ?_); rintro e w' ⟨rfl, rfl⟩)
    clear a0' f0'
    obtain ⟨B0, hB0⟩ : ∃ B0, (w.alloc (.cells #[.bool true, .int .u16 (es : Int), .int .u8 (eh : Int), .int .u8 (ev : Int), .int .u16 (ef : Int), .slice ao nl ac] 29)).alloc (.cells #[.bool false, .int .u16 0, .int .u8 0, .int .u8 0, .int .u16 0, .slice none 0 0] 29) = B0 := ⟨_, rfl⟩
    have hz : (w.alloc (.cells #[.bool true, .int .u16 (es : Int), .int .u8 (eh : Int), .int .u8 (ev : Int), .int .u16 (ef : Int), .slice ao nl ac] 29)).heap.size = w.heap.size + 1 := by simp
    have HA2 : Hid (B0.heap[w.heap.size]? = some (.cells #[.bool true, .int .u16 (es : Int), .int .u8 (eh : Int), .int .u8 (ev : Int), .int .u16 (ef : Int), .slice ao nl ac] 29 (0, 0))) := Lib.hid (hB0 ▸ ((Keeps.refl (fun _ => True) _).alloc _).heap (World.alloc_heap_new w _) trivial)
    have HK2 : Hid (Keeps (fun j => j < w.heap.size) w B0) := Lib.hid (hB0 ▸ (((Keeps.refl _ _).alloc _).alloc _))
    have HB2 : Hid (B0.heap[w.heap.size + 1]? = some (.cells #[.bool false, .int .u16 0, .int .u8 0, .int .u8 0, .int .u16 0, .slice none 0 0] 29 (0, 0))) := Lib.hid (by rw [← hB0, ← hz]; exact World.alloc_heap_new _ _)
    rw [hB0]
    clear hB0 hz
    have HRB := Lib.hid (Hr.out.keep HK2.out fun j h => h)
    have TW : Hid (∀ W, Ext B0 W → W.cell? ⟨w.heap.size, 5, none⟩ = some (.slice ao nl ac) ∧ W.frozen? ⟨w.heap.size, 5, none⟩ = false) := Lib.hid fun W hx => by
      have h := hx.keeps.heap HA2.out trivial
      exact ⟨cell_of_row W _ 5 _ _ _ h, by simp [World.frozen?, h]⟩
    obtain ⟨i0, hi, hz0, hz1, hz2⟩ := info_parts infoO
    have hqq := Hq.out
    unfold areC at hqq
    rw [decide_eq_true_iff] at hqq
    have hadd : ∀ W : World, (Op.stringOp .add cl sv).run Try.prog W = .ok (.string (cl ++ sv)) W := fun W => by
      unfold Op.stringOp
      rw [if_neg (by show ¬ (((cl.size + sv.size : Nat) : Int) > IntKind.i64.max); have h1 : cl.size + sv.size ≤ 40 := by omega
                     simp only [IntKind.max, IntKind.bits, IntKind.signed]; omega)]
      rfl
    have hsum : cl.size + sv.size ≤ 40 := by omega
    have Hsum := Lib.hid hsum
    clear hqq hsum
    have hx1 := Lib.hid (Ext.refl B0)
    have hx1d := Lib.hid ((Ext.refl B0).drew)
    obtain ⟨y, hy⟩ : ∃ y, cl ++ sv = y := ⟨_, rfl⟩
    rw [hy] at hadd
    have HP : Hid (∀ en w', WithPost ⟨et, es, eh, ev, ef⟩ l cl sv w en w' ↔ WithPost ⟨et, es, eh, ev, ef⟩ l cl sv w en w') := Lib.hid fun _ _ => Iff.rfl
    have Hy := Lib.hid hy
    clear hy
    have Hkl : Hid ((keepO 10 l).length < 2147483648) := Lib.hid (by have := keepO_len 10 l; rw [Hnl.out] at this; omega)
    have HszB2 : Hid (w.heap.size ≤ B0.heap.size) := Lib.hid HK2.out.size
    have HOne : Hid (∀ u ∈ [Value.int .u16 10, .string y], u.oneCell' = true) := Lib.hid (by intro u hu; simp at hu; rcases hu with rfl | rfl <;> rfl)
    have HszB : Hid (w.heap.size + 2 ≤ B0.heap.size) := Lib.hid (by have := (Array.getElem?_eq_some_iff.1 HB2.out).1; omega)
    have TX : Hid (∀ W, Keeps (fun j => j < w.heap.size + 2) B0 W → W.cell? ⟨w.heap.size, 5, none⟩ = some (.slice ao nl ac) ∧ W.frozen? ⟨w.heap.size, 5, none⟩ = false) := Lib.hid fun W hx => by
      have h := hx.heap HA2.out (by omega)
      exact ⟨cell_of_row W _ 5 _ _ _ h, by simp [World.frozen?, h]⟩
    have hE : Hid (∀ W, Ext B0 W → Keeps (fun j => j < w.heap.size + 2) B0 W) := Lib.hid fun W h => h.keeps.mono fun _ _ _ => trivial
    have hL := (TW.out _ hx1d.out).1
    have hLa := (TW.out _ (hx1d.out.alloc (.cells #[.int .u16 10, .string y] 72))).1
    have hLb := (TW.out _ (hx1.out.alloc (.cells #[.int .u16 10, .string y] 72))).1
    have EG1 := Lib.hid (enters_of (P := Try.prog) Try.func46 (by kernel_rfl) rfl)
    have EG2 := Lib.hid (enters_of (P := Try.prog) Try.func45 (by kernel_rfl) rfl)
    go_region_law (first
        | ((show ite _ (Oper.wp _ _ _ (B0.drew) _ _) _; refine step_call (by rfl) 46 _ _ rfl #[.int .u16 10] (by first | rfl | simp [Act.eval]) EG1.out ?_; refine (C1.out _).mono ?_; rintro e W1 ⟨p, rfl, hpc, hx⟩; refine ⟨_, rfl, ?_⟩; have Hpc := Lib.hid hpc; replace hx1 := Lib.hid (hx1d.out.trans hx); have hL1 := (TW.out _ hx1.out).1; have hL1a := (TW.out _ (hx1.out.alloc (.cells #[.int .u16 10, .string y] 72))).1; clear hx hpc))
        | ((show ite _ (Oper.wp _ _ _ ((B0.alloc (.cells #[.int .u16 10, .string y] 72)).drew) _ _) _; refine step_call (by rfl) 46 _ _ rfl #[.int .u16 10] (by first | rfl | simp [Act.eval]) EG1.out ?_; refine (C1.out _).mono ?_; rintro e Wc ⟨p, rfl, hpc, hx⟩; refine ⟨_, rfl, ?_⟩; have Hpc := Lib.hid hpc; have HN := Lib.hid (fun j u (h : _ = some u) => hx.keeps.cell (newsO B0 #[.int .u16 10, .string y] 72 j u h) trivial); replace hx1 := Lib.hid (((hx1.out.alloc (.cells #[.int .u16 10, .string y] 72)).drew).trans hx); have hL1 := (TW.out _ hx1.out).1; have hL1a := (TW.out _ (hx1.out.alloc (.cells #[.int .u16 10, .string y] 72))).1; clear hx hpc))
        | ((show ite _ (Oper.wp _ _ _ (W1) _ _) _; refine step_call (by rfl) 45 _ _ rfl #[.slice ao nl ac, .func (.func 74) #[] #[.pointer (some ⟨p, 0, none⟩)]] (by first | rfl | simp [Act.eval]) EG2.out ?_; refine (C2.out p _ (HRB.out.ext hx1.out) (Hpc.out)).mono ?_; rintro e W2 ⟨v2, rfl, hown, hx⟩; refine ⟨_, rfl, ?_⟩; have Hown := Lib.hid (own_base hown (Nat.le_trans HszB.out (hx1.out.size))); replace hx1 := Lib.hid (hx1.out.trans hx); clear hx hown))
        | ((show ite _ (Oper.wp _ _ _ (Wc) _ _) _; refine step_call (by rfl) 45 _ _ rfl #[.slice ao nl ac, .func (.func 74) #[] #[.pointer (some ⟨p, 0, none⟩)]] (by first | rfl | simp [Act.eval]) EG2.out ?_; refine (C2.out p _ (HRB.out.ext hx1.out) (Hpc.out)).mono ?_; rintro e V2 ⟨v2, rfl, hown, hx⟩; refine ⟨_, rfl, ?_⟩; have Hown := Lib.hid (own_base hown (Nat.le_trans HszB.out (hx1.out.size))); have HN2 := Lib.hid (fun j u h => hx.keeps.cell (HN.out j u h) trivial); replace hx1 := Lib.hid (hx1.out.trans hx); clear hx hown))
        | ((show ite _ (Oper.wp _ _ _ (W1.alloc (.cells #[.int .u16 10, .string y] 72)) _ _) _; refine step_call (by rfl) 45 _ _ rfl #[.slice ao nl ac, .func (.func 74) #[] #[.pointer (some ⟨p, 0, none⟩)]] (by first | rfl | simp [Act.eval]) EG2.out ?_; refine (C2.out p _ (HRB.out.ext (hx1.out.alloc _)) (Lib.cell?_alloc_some _ Hpc.out)).mono ?_; rintro e U2 ⟨v2, rfl, hown, hx⟩; refine ⟨_, rfl, ?_⟩; have Hown := Lib.hid (own_base hown (Nat.le_trans HszB.out ((hx1.out.alloc (.cells #[.int .u16 10, .string y] 72)).size))); have HN2 := Lib.hid (fun j u (h : _ = some u) => hx.keeps.cell (newsO W1 #[.int .u16 10, .string y] 72 j u h) trivial); replace hx1 := Lib.hid ((hx1.out.alloc (.cells #[.int .u16 10, .string y] 72)).trans hx); clear hx hown))
        | ((show ite _ (Oper.wp _ _ _ (W2.alloc (.cells #[.int .u16 10, .string y] 72)) _ _) _; refine step_append_own (by rfl) (.tmp 17) (.tmp 22) _ rfl (w.heap.size + 2) 72 i0 (.agg #[.int .u16 0, .string ⟨#[]⟩]) 2 24 Try.underlying27 hi hz0 hz1 hz2 rfl (by decide) v2 (keepO 10 l).length (flatO (keepO 10 l)) (by rfl) (Hown.out.alloc _) ⟨_, 0, none⟩ 1 1 [.int .u16 10, .string y] (by rfl) rfl (newsO W2 #[.int .u16 10, .string y] _) HOne.out (by have := Hkl.out; unfold maxLen; omega) (by have := Hkl.out; omega) (Nat.le_trans HszB.out (hx1.out.alloc _).size) ?_; intro v3 w3 hown3 hgr3; obtain ⟨a3, c3, rfl⟩ := own_slice hown3; have Hown3 := Lib.hid hown3; have HF : Hid (Keeps (fun j => j < w.heap.size + 2) B0 w3) := Lib.hid ((hE.out _ (hx1.out.alloc _)).grown hgr3 (fun k hk => by have := (Hown.out.lt k hk).1; omega)); obtain ⟨hS3, hS4⟩ := TX.out _ HF.out; clear hown3 hgr3))
        | ((show ite _ (Oper.wp _ _ _ (U2) _ _) _; refine step_append_own (by rfl) (.tmp 17) (.tmp 22) _ rfl (w.heap.size + 2) 72 i0 (.agg #[.int .u16 0, .string ⟨#[]⟩]) 2 24 Try.underlying27 hi hz0 hz1 hz2 rfl (by decide) v2 (keepO 10 l).length (flatO (keepO 10 l)) (by rfl) Hown.out ⟨_, 0, none⟩ 1 1 [.int .u16 10, .string y] (by rfl) rfl HN2.out HOne.out (by have := Hkl.out; unfold maxLen; omega) (by have := Hkl.out; omega) (Nat.le_trans HszB.out hx1.out.size) ?_; intro v3 w3 hown3 hgr3; obtain ⟨a3, c3, rfl⟩ := own_slice hown3; have Hown3 := Lib.hid hown3; have HF : Hid (Keeps (fun j => j < w.heap.size + 2) B0 w3) := Lib.hid ((hE.out _ hx1.out).grown hgr3 (fun k hk => by have := (Hown.out.lt k hk).1; omega)); obtain ⟨hS3, hS4⟩ := TX.out _ HF.out; clear hown3 hgr3))
        | ((show ite _ (Oper.wp _ _ _ (V2) _ _) _; refine step_append_own (by rfl) (.tmp 17) (.tmp 22) _ rfl (w.heap.size + 2) 72 i0 (.agg #[.int .u16 0, .string ⟨#[]⟩]) 2 24 Try.underlying27 hi hz0 hz1 hz2 rfl (by decide) v2 (keepO 10 l).length (flatO (keepO 10 l)) (by rfl) Hown.out ⟨_, 0, none⟩ 1 1 [.int .u16 10, .string y] (by rfl) rfl HN2.out HOne.out (by have := Hkl.out; unfold maxLen; omega) (by have := Hkl.out; omega) (Nat.le_trans HszB.out hx1.out.size) ?_; intro v3 w3 hown3 hgr3; obtain ⟨a3, c3, rfl⟩ := own_slice hown3; have Hown3 := Lib.hid hown3; have HF : Hid (Keeps (fun j => j < w.heap.size + 2) B0 w3) := Lib.hid ((hE.out _ hx1.out).grown hgr3 (fun k hk => by have := (Hown.out.lt k hk).1; omega)); obtain ⟨hS3, hS4⟩ := TX.out _ HF.out; clear hown3 hgr3)))
    all_goals
      have hA3 : (w3.setCell ⟨w.heap.size, 5, none⟩ (.slice a3 ((keepO 10 l).length + 1) c3)).heap[w.heap.size]? = some (.cells #[.bool true, .int .u16 (es : Int), .int .u8 (eh : Int), .int .u8 (ev : Int), .int .u16 (ef : Int), .slice a3 ((keepO 10 l).length + 1) c3] 29 (0, 0)) := by
        have h := set_at (HF.out.heap HA2.out (by omega)) 5 (.slice a3 ((keepO 10 l).length + 1) c3)
        simpa using h
      have hB3 : (w3.setCell ⟨w.heap.size, 5, none⟩ (.slice a3 ((keepO 10 l).length + 1) c3)).heap[w.heap.size + 1]? = some (.cells #[.bool false, .int .u16 0, .int .u8 0, .int .u8 0, .int .u16 0, .slice none 0 0] 29 (0, 0)) :=
        ((Keeps.refl (fun j => j ≠ w.heap.size) w3).setCell (by simp) _).heap (HF.out.heap HB2.out (by omega)) (by omega)
      have hK3 : Keeps (fun j => j ≠ w.heap.size) w3 (w3.setCell ⟨w.heap.size, 5, none⟩ (.slice a3 ((keepO 10 l).length + 1) c3)) := (Keeps.refl _ _).setCell (by simp) _
      obtain ⟨W5, hW5⟩ : ∃ W5, w3.setCell ⟨w.heap.size, 5, none⟩ (.slice a3 ((keepO 10 l).length + 1) c3) = W5 := ⟨_, rfl⟩
      rw [hW5] at hA3 hB3 hK3 ⊢
      have HK3 := Lib.hid hK3
      have HB3 := Lib.hid hB3
      clear hW5 hK3 hS3 hS4 hL
      have x0 : W5.cell? ⟨w.heap.size, 0, none⟩ = some (.bool true) := cell_of_row W5 _ 0 _ _ _ hA3
      have x1 : W5.cell? ⟨w.heap.size, 1, none⟩ = some (.int .u16 (es : Int)) := cell_of_row W5 _ 1 _ _ _ hA3
      have x2 : W5.cell? ⟨w.heap.size, 2, none⟩ = some (.int .u8 (eh : Int)) := cell_of_row W5 _ 2 _ _ _ hA3
      have x3 : W5.cell? ⟨w.heap.size, 3, none⟩ = some (.int .u8 (ev : Int)) := cell_of_row W5 _ 3 _ _ _ hA3
      have x4 : W5.cell? ⟨w.heap.size, 4, none⟩ = some (.int .u16 (ef : Int)) := cell_of_row W5 _ 4 _ _ _ hA3
      have x5 : W5.cell? ⟨w.heap.size, 5, none⟩ = some (.slice a3 ((keepO 10 l).length + 1) c3) := cell_of_row W5 _ 5 _ _ _ hA3
      have y0 : W5.cell? ⟨w.heap.size + 1, 0, none⟩ = some (.bool false) := cell_of_row W5 _ 0 _ _ _ hB3
      have y1 : W5.cell? ⟨w.heap.size + 1, 1, none⟩ = some (.int .u16 0) := cell_of_row W5 _ 1 _ _ _ hB3
      have y2 : W5.cell? ⟨w.heap.size + 1, 2, none⟩ = some (.int .u8 0) := cell_of_row W5 _ 2 _ _ _ hB3
      have y3 : W5.cell? ⟨w.heap.size + 1, 3, none⟩ = some (.int .u8 0) := cell_of_row W5 _ 3 _ _ _ hB3
      have y4 : W5.cell? ⟨w.heap.size + 1, 4, none⟩ = some (.int .u16 0) := cell_of_row W5 _ 4 _ _ _ hB3
      have y5 : W5.cell? ⟨w.heap.size + 1, 5, none⟩ = some (.slice none 0 0) := cell_of_row W5 _ 5 _ _ _ hB3
      have z : ∀ i, W5.frozen? ⟨w.heap.size + 1, i, none⟩ = false := fun i => by simp [World.frozen?, hB3]
      have z0 := z 0; have z1 := z 1; have z2 := z 2; have z3 := z 3; have z4 := z 4; have z5 := z 5
      clear hA3 hB3 z
      go_wp2_with fail
      clear x0 x1 x2 x3 x4 x5 y0 y1 y2 y3 y4 y5 z0 z1 z2 z3 z4 z5
      have hfin := set_at (set_at (set_at (set_at (set_at (set_at HB3.out 0 (.bool true)) 1 (.int .u16 (es : Int))) 2 (.int .u8 (eh : Int))) 3 (.int .u8 (ev : Int))) 4 (.int .u16 (ef : Int))) 5 (.slice a3 ((keepO 10 l).length + 1) c3)
      refine bodyPost_ret (v := .tuple #[.agg #[.bool true, .int .u16 (es : Int), .int .u8 (eh : Int), .int .u8 (ev : Int), .int .u16 (ef : Int), .slice a3 ((keepO 10 l).length + 1) c3], .int .i64 0]) ?_ rfl (.inr ⟨Hq.out, _, rfl, ?_, ?_⟩)
      · exact results_row2 (P := Try.prog) (fn := Try.f18) (p := 6) (q := 7) (ty := 29) rfl _ _ (w.heap.size + 1) _ #[.bool true, .int .u16 (es : Int), .int .u8 (eh : Int), .int .u8 (ev : Int), .int .u16 (ef : Int), .slice a3 ((keepO 10 l).length + 1) c3] _ _ _ rfl rfl (by simpa using hfin) Try.underlying29 rfl (by kernel_rfl)
      · rw [Hy.out]
        have hk6 : Keeps (fun j => j ≠ w.heap.size + 1) W5 _ := ((((((Keeps.refl _ W5).setCell (p := ⟨w.heap.size + 1, 0, none⟩) (by simp) (.bool true)).setCell (p := ⟨w.heap.size + 1, 1, none⟩) (by simp) (.int .u16 (es : Int))).setCell (p := ⟨w.heap.size + 1, 2, none⟩) (by simp) (.int .u8 (eh : Int))).setCell (p := ⟨w.heap.size + 1, 3, none⟩) (by simp) (.int .u8 (ev : Int))).setCell (p := ⟨w.heap.size + 1, 4, none⟩) (by simp) (.int .u16 (ef : Int))).setCell (p := ⟨w.heap.size + 1, 5, none⟩) (by simp) (.slice a3 ((keepO 10 l).length + 1) c3)
        refine own_rowO (base := w.heap.size + 2) ?_
        rw [List.length_append, show flatO (keepO 10 l ++ [(⟨10, y⟩ : OptC)]) = flatO (keepO 10 l) ++ [.int .u16 10, .string y] by simp [flatO, OptC.cells]]
        refine owns_keep hk6 (owns_keep HK3.out Hown3.out fun k hk => ?_) fun k hk => ?_
        · have := (Hown3.out.lt k hk).1; omega
        · have := (Hown3.out.lt k hk).1; omega
      · refine Keeps.ext (K := fun j => j < w.heap.size) ?_ fun _ h => h
        exact (((((((HK2.out.trans (HF.out.mono fun j _ h => by omega)).trans (HK3.out.mono fun j _ h => by omega)).setCell (by simp) _).setCell (by simp) _).setCell (by simp) _).setCell (by simp) _).setCell (by simp) _).setCell (by simp) _
end Go.Proofs.Ytjnaknfnoibncaa
