/- hardtacklaw08.SipRounds answers true for every state, number and text, and leaves what lay as it lay. Conditions: numbers of their kinds. -/
import Derived.Test.YtolaiiiabacfcaaSipS
import Derived.Deep.RegionHeld3
namespace Go.Proofs.Ytolaiiiabacfcaa
open Go Go.RowKit Go.Shelf
attribute [local go_sem] Oper.semAt_some wide_fn wide_depth

set_option maxRecDepth 100000 in
set_option maxHeartbeats 4000000 in
theorem sipRounds_walk (s : St) (n : Int) (t : ByteArray) (w : World) (hs : s.ok) (hn : -9223372036854775808 ≤ n) (hn2 : n ≤ 9223372036854775807) :
    Calls Try.prog 3 #[s.lit, .int .i64 n, .string t] w fun e w' => e = .returned (.bool true) ∧ Ext w w' := by
  have CL := Lib.hid fun W => L8.lives_any W
  have c1 := fun W => Value_any t W
  have c2 := fun W => RValue_any t W
  have c3 := fun W => Round_any s n W hs hn hn2
  have c4 := fun W => RRounds_any s n W hs hn hn2
  have c5 := fun W => Bytes_any s.a W
  have c6 := fun W => RBytes_any s.a W hs.a
  obtain ⟨u, hu⟩ : ∃ u, roundsM (min n 64).toNat s = u := ⟨_, rfl⟩
  rw [hu] at c3 c4
  obtain ⟨x, y, hxy⟩ : ∃ x y : Int, (if t.size = 8 then #[Value.int .u64 (lowB t.data.toList : Nat), .int .i64 0] else #[.int .u64 0, .int .i64 2]) = #[.int .u64 x, .int .i64 y] := by
    by_cases h8 : t.size = 8
    · exact ⟨_, _, if_pos h8⟩
    · exact ⟨_, _, if_neg h8⟩
  rw [hxy] at c1 c2
  have q1 := fun W => eq4 u.a u.b u.c u.d u.a u.b u.c u.d W
  simp only [beq_self_eq_true, Bool.and_self] at q1
  simp only [St.agg_lit, St.lit] at c3 c4 ⊢
  have D1 := Lib.hid c1
  have D2 := Lib.hid c2
  have D3 := Lib.hid c3
  have D4 := Lib.hid c4
  have D5 := Lib.hid c5
  have D6 := Lib.hid c6
  have Q1 := Lib.hid q1
  obtain ⟨bs, hbs⟩ : ∃ bs, bytesS s.a = bs := ⟨_, rfl⟩
  rw [hbs] at D5 D6
  clear c1 c2 c3 c4 c5 c6 q1 hxy hu hs hbs
  go_enter Try.func3, Try.ntmps3
  go_wp2_with (first
    | ((with_reducible refine (D1.out _).mono ?_); rintro e w' ⟨rfl, rfl⟩)
    | ((with_reducible refine (D2.out _).mono ?_); rintro e w' ⟨rfl, rfl⟩))
  have hx0 : Ext w (w.alloc (.cells #[.int .u64 (s.a : Int), .int .u64 (s.b : Int), .int .u64 (s.c : Int), .int .u64 (s.d : Int)] 23)) := (Ext.refl w).alloc _
  have b0 := heap_alloc_new w (.cells #[.int .u64 (s.a : Int), .int .u64 (s.b : Int), .int .u64 (s.c : Int), .int .u64 (s.d : Int)] 23)
  generalize w.alloc (.cells #[.int .u64 (s.a : Int), .int .u64 (s.b : Int), .int .u64 (s.c : Int), .int .u64 (s.d : Int)] 23) = w1 at hx0 b0 ⊢
  have two : ∀ W, Ext w1 W → W.cell? ⟨w.heap.size, 0, none⟩ = some (.int .u64 (s.a : Int)) ∧ W.cell? ⟨w.heap.size, 1, none⟩ = some (.int .u64 (s.b : Int)) ∧ W.cell? ⟨w.heap.size, 2, none⟩ = some (.int .u64 (s.c : Int)) ∧ W.cell? ⟨w.heap.size, 3, none⟩ = some (.int .u64 (s.d : Int)) := fun W hx => by
    have b0 := hx.keeps.heap b0 trivial
    exact ⟨cell_of_row W _ 0 _ _ _ b0, cell_of_row W _ 1 _ _ _ b0, cell_of_row W _ 2 _ _ _ b0, cell_of_row W _ 3 _ _ _ b0⟩
  have TW := Lib.hid two
  have HX := Lib.hid hx0
  have hx1 := Lib.hid (Ext.refl w1)
  have hx1d := Lib.hid ((Ext.refl w1).drew)
  clear two b0 hx0
  have q1 := Q1.out
  go_region_held3 (fun w' => w'.cell? ⟨w.heap.size, 0, none⟩ = some (.int .u64 (s.a : Int)) ∧ w'.cell? ⟨w.heap.size, 1, none⟩ = some (.int .u64 (s.b : Int)) ∧ w'.cell? ⟨w.heap.size, 2, none⟩ = some (.int .u64 (s.c : Int)) ∧ w'.cell? ⟨w.heap.size, 3, none⟩ = some (.int .u64 (s.d : Int)))
    (first | exact TW.out _ hx1.out | exact TW.out _ hx1d.out | go_keep)
    (first
      | ((with_reducible refine (CL.out _).mono ?_); rintro e w' ⟨rfl, hx⟩; replace hx1 := Lib.hid (hx1d.out.trans hx); clear hx)
      | ((with_reducible refine (D3.out _).mono ?_); rintro e w' ⟨rfl, hx⟩; replace hx1 := Lib.hid (hx1.out.trans hx); clear hx)
      | ((with_reducible refine (D4.out _).mono ?_); rintro e w' ⟨rfl, hx⟩; replace hx1 := Lib.hid (hx1.out.trans hx); clear hx)
      | ((with_reducible refine (D5.out _).mono ?_); rintro e w' ⟨rfl, hx⟩; replace hx1 := Lib.hid (hx1.out.trans hx); clear hx)
      | ((with_reducible refine (D6.out _).mono ?_); rintro e w' ⟨rfl, hx⟩; replace hx1 := Lib.hid (hx1.out.trans hx); clear hx))
  have HX2 : Hid (Ext w _) := Lib.hid (HX.out.trans hx1.out)
  clear q1
  go_wp2_with fail
  go_ret
  exact ⟨rfl, HX2.out⟩
theorem sipRounds_args (s : St) (n : Int) (t : ByteArray) (w : World) (hs : s.ok) (hn : (Lit.int .i64 n).wf = true) (_ : t.size ≤ maxLen) :
    Calls Try.prog 3 #[s.lit, .int .i64 n, .string t] w fun e w' => e = .returned (.bool true) ∧ Ext w w' :=
  sipRounds_walk s n t w hs (wf_i64 hn).1 (wf_i64 hn).2
end Go.Proofs.Ytolaiiiabacfcaa
