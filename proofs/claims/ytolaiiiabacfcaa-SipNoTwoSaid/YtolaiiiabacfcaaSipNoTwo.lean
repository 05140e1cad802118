/- hardtacklaw08.SipNoTwo answers true for every two states and numbers, and leaves what lay as it lay. Conditions: numbers of their kinds. -/
import Derived.Test.YtolaiiiabacfcaaSipArgs
import Derived.Deep.RegionHeld3
import Derived.IntWalk
namespace Go.Proofs.Ytolaiiiabacfcaa
open Go Go.RowKit Go.Shelf
attribute [local go_sem] Oper.semAt_some wide_fn wide_depth

theorem St.agg_lit (s : St) : s.agg = s.lit := rfl
theorem St.list_inj {s t : St} (h : s.list = t.list) : s = t := by
  simp only [St.list, List.cons.injEq, and_true] at h
  exact St.ext' h.1 h.2.1 h.2.2.1 h.2.2.2
def eqSt (s t : St) : Bool := (s.a : Int) == t.a && ((s.b : Int) == t.b && ((s.c : Int) == t.c && (s.d : Int) == t.d))
theorem eqSt_iff (s t : St) : eqSt s t = true ↔ s = t := by
  simp only [eqSt, Bool.and_eq_true, beq_iff_eq, Int.natCast_inj]
  exact ⟨fun h => St.ext' h.1 h.2.1 h.2.2.1 h.2.2.2, fun h => by subst h; exact ⟨rfl, rfl, rfl, rfl⟩⟩
theorem eqSt_self (s : St) : eqSt s s = true := (eqSt_iff s s).2 rfl
theorem eqSt_round {s t : St} (hs : s.ok) (ht : t.ok) : eqSt (roundsM 1 s) (roundsM 1 t) = eqSt s t := by
  rw [Bool.eq_iff_iff, eqSt_iff, eqSt_iff]
  exact ⟨fun h => roundM_inj hs ht h, fun h => by rw [h]⟩
theorem Round_lit (s : St) (k : Nat) (w : World) (hs : s.ok) (hk : k ≤ 64) :
    Calls Try.prog 10 #[s.lit, .int .i64 (k : Int)] w fun e w' => e = .returned (roundsM k s).lit ∧ Ext w w' := by
  have h := Round_any s k w hs (by omega) (by omega)
  rwa [show (min (k : Int) 64).toNat = k by omega] at h

set_option maxRecDepth 100000 in
set_option maxHeartbeats 4000000 in
theorem sipNoTwo_walk (s t : St) (m n : Nat) (w : World) (hs : s.ok) (ht : t.ok) (hm : m < 256) (hn : n < 256) :
    Calls Try.prog 5 #[s.lit, t.lit, .int .u8 (m : Int), .int .u8 (n : Int)] w fun e w' => e = .returned (.bool true) ∧ Ext w w' := by
  have CL := Lib.hid fun W => L8.lives_any W
  obtain ⟨i, hi⟩ : ∃ i, m % 32 = i := ⟨_, rfl⟩
  obtain ⟨k, hk⟩ : ∃ k, n % 32 = k := ⟨_, rfl⟩
  have hi32 : i < 32 := by omega
  have hk32 : k < 32 := by omega
  have r1 := roundsM_ok hs i
  have C1 := fun W => Round_lit s 1 W hs (by decide)
  have C2 := fun W => Round_lit t 1 W ht (by decide)
  have C3 := fun W => Round_lit s i W hs (by omega)
  have C4 := fun W => Round_lit (roundsM i s) k W r1 (by omega)
  have C5 := fun W => Round_lit s (i + k) W hs (by omega)
  have hj : roundsM k (roundsM i s) = roundsM (i + k) s := roundsM_add s i k
  rw [hj] at C4
  have hq := eqSt_round hs ht
  obtain ⟨u1, e1⟩ : ∃ u, roundsM 1 s = u := ⟨_, rfl⟩
  obtain ⟨u2, e2⟩ : ∃ u, roundsM 1 t = u := ⟨_, rfl⟩
  obtain ⟨u3, e3⟩ : ∃ u, roundsM i s = u := ⟨_, rfl⟩
  obtain ⟨u4, e4⟩ : ∃ u, roundsM (i + k) s = u := ⟨_, rfl⟩
  rw [e1] at C1 hq
  rw [e2] at C2 hq
  rw [e3] at C3 C4
  rw [e4] at C4 C5
  have q1 := fun W => eq4 u1.a u1.b u1.c u1.d u2.a u2.b u2.c u2.d W
  have q2 := fun W => eq4 s.a s.b s.c s.d t.a t.b t.c t.d W
  have q3 := fun W => eq4 u4.a u4.b u4.c u4.d u4.a u4.b u4.c u4.d W
  have z1 : ((u1.a : Int) == u2.a && ((u1.b : Int) == u2.b && ((u1.c : Int) == u2.c && (u1.d : Int) == u2.d))) = eqSt s t := hq
  have z2 : ((s.a : Int) == t.a && ((s.b : Int) == t.b && ((s.c : Int) == t.c && (s.d : Int) == t.d))) = eqSt s t := rfl
  have z3 : ((u4.a : Int) == u4.a && ((u4.b : Int) == u4.b && ((u4.c : Int) == u4.c && (u4.d : Int) == u4.d))) = true := eqSt_self u4
  rw [z1] at q1
  rw [z2] at q2
  rw [z3] at q3
  obtain ⟨bb, hbb⟩ : ∃ bb, eqSt s t = bb := ⟨_, rfl⟩
  rw [hbb] at q1 q2
  have gi : (m : Int) % 32 = (i : Int) := by omega
  have gk : (n : Int) % 32 = (k : Int) := by omega
  rw [Int.natCast_add] at C5
  simp only [St.lit, Int.cast_ofNat_Int] at C1 C2 C3 C4 C5 ⊢
  have D1 := Lib.hid C1
  have D2 := Lib.hid C2
  have D3 := Lib.hid C3
  have D4 := Lib.hid C4
  have D5 := Lib.hid C5
  have Q1 := Lib.hid q1
  have Q2 := Lib.hid q2
  have Q3 := Lib.hid q3
  have GI := Lib.hid gi
  have GK := Lib.hid gk
  clear C1 C2 C3 C4 C5 q1 q2 q3 z1 z2 z3 hq hj e1 e2 e3 e4 hbb r1 hs ht hi hk gi gk
  go_enter Try.func5, Try.ntmps5
  go_wp2_with fail
  refine (CL.out _).mono ?_
  rintro e w1 ⟨rfl, hx⟩
  have gi := GI.out
  have gk := GK.out
  have HX : Hid (Ext w w1) := Lib.hid ((((Ext.refl w).alloc _).alloc _).trans hx)
  have b0 := hx.keeps.heap (k := w.heap.size) (o := .cells #[.int .u64 (s.a : Int), .int .u64 (s.b : Int), .int .u64 (s.c : Int), .int .u64 (s.d : Int)] 23 (0, 0)) (heap_alloc2_old w _ _) trivial
  have b1 := hx.keeps.heap (k := w.heap.size + 1) (o := .cells #[.int .u64 (t.a : Int), .int .u64 (t.b : Int), .int .u64 (t.c : Int), .int .u64 (t.d : Int)] 23 (0, 0)) (heap_alloc2_new w _ _) trivial
  clear hx
  have two : ∀ W, Ext w1 W → W.cell? ⟨w.heap.size, 0, none⟩ = some (.int .u64 (s.a : Int)) ∧ W.cell? ⟨w.heap.size, 1, none⟩ = some (.int .u64 (s.b : Int)) ∧ W.cell? ⟨w.heap.size, 2, none⟩ = some (.int .u64 (s.c : Int)) ∧ W.cell? ⟨w.heap.size, 3, none⟩ = some (.int .u64 (s.d : Int)) ∧ W.cell? ⟨w.heap.size + 1, 0, none⟩ = some (.int .u64 (t.a : Int)) ∧ W.cell? ⟨w.heap.size + 1, 1, none⟩ = some (.int .u64 (t.b : Int)) ∧ W.cell? ⟨w.heap.size + 1, 2, none⟩ = some (.int .u64 (t.c : Int)) ∧ W.cell? ⟨w.heap.size + 1, 3, none⟩ = some (.int .u64 (t.d : Int)) := fun W hx => by
    have b0 := hx.keeps.heap b0 trivial
    have b1 := hx.keeps.heap b1 trivial
    exact ⟨cell_of_row W _ 0 _ _ _ b0, cell_of_row W _ 1 _ _ _ b0, cell_of_row W _ 2 _ _ _ b0, cell_of_row W _ 3 _ _ _ b0, cell_of_row W _ 0 _ _ _ b1, cell_of_row W _ 1 _ _ _ b1, cell_of_row W _ 2 _ _ _ b1, cell_of_row W _ 3 _ _ _ b1⟩
  have TW := Lib.hid two
  have hx1 := Lib.hid (Ext.refl w1)
  have hx1d := Lib.hid ((Ext.refl w1).drew)
  clear two b0 b1
  go_wp2_with fail
  have q1 := Q1.out
  have q2 := Q2.out
  have q3 := Q3.out
  have hw : IntKind.i64.wrap ((i : Int) + (k : Int)) = (i : Int) + (k : Int) := IntWalk.i64_in _ (by omega)
  go_region_held3 (fun w' => w'.cell? ⟨w.heap.size, 0, none⟩ = some (.int .u64 (s.a : Int)) ∧ w'.cell? ⟨w.heap.size, 1, none⟩ = some (.int .u64 (s.b : Int)) ∧ w'.cell? ⟨w.heap.size, 2, none⟩ = some (.int .u64 (s.c : Int)) ∧ w'.cell? ⟨w.heap.size, 3, none⟩ = some (.int .u64 (s.d : Int)) ∧ w'.cell? ⟨w.heap.size + 1, 0, none⟩ = some (.int .u64 (t.a : Int)) ∧ w'.cell? ⟨w.heap.size + 1, 1, none⟩ = some (.int .u64 (t.b : Int)) ∧ w'.cell? ⟨w.heap.size + 1, 2, none⟩ = some (.int .u64 (t.c : Int)) ∧ w'.cell? ⟨w.heap.size + 1, 3, none⟩ = some (.int .u64 (t.d : Int)))
    (first | exact TW.out _ hx1.out | exact TW.out _ hx1d.out | go_keep)
    (first
      | ((with_reducible refine (D1.out _).mono ?_); rintro e w' ⟨rfl, hx⟩; replace hx1 := Lib.hid (hx1d.out.trans hx); clear hx)
      | ((with_reducible refine (D2.out _).mono ?_); rintro e w' ⟨rfl, hx⟩; replace hx1 := Lib.hid (hx1.out.trans hx); clear hx)
      | ((with_reducible refine (D3.out _).mono ?_); rintro e w' ⟨rfl, hx⟩; replace hx1 := Lib.hid (hx1.out.trans hx); clear hx)
      | ((with_reducible refine (D4.out _).mono ?_); rintro e w' ⟨rfl, hx⟩; replace hx1 := Lib.hid (hx1.out.trans hx); clear hx)
      | ((with_reducible refine (D5.out _).mono ?_); rintro e w' ⟨rfl, hx⟩; replace hx1 := Lib.hid (hx1.out.trans hx); clear hx))
  have HX2 : Hid (Ext w _) := Lib.hid (HX.out.trans hx1.out)
  clear hw q1 q2 q3
  go_wp2_with fail
  go_ret
  exact ⟨rfl, HX2.out⟩
theorem sipNoTwo_args (s t : St) (m n : Int) (w : World) (hs : s.ok) (ht : t.ok) (hm : (Lit.int .u8 m).wf = true) (hn : (Lit.int .u8 n).wf = true) :
    Calls Try.prog 5 #[s.lit, t.lit, .int .u8 m, .int .u8 n] w fun e w' => e = .returned (.bool true) ∧ Ext w w' := by
  obtain ⟨a, rfl, ha⟩ := wf_u8 hm
  obtain ⟨b, rfl, hb⟩ := wf_u8 hn
  exact sipNoTwo_walk s t a b w hs ht ha hb
end Go.Proofs.Ytolaiiiabacfcaa
