/- hardtacklaw12.GiveTells answers true, and leaves what lay as it lay. Conditions: numbers and texts of their kinds; texts that a machine may hold. -/
import Derived.Test.YtjnaknfnoibncaaGiveC
import Derived.Test.YtjnaknfnoibncaaGiveE
import Derived.Test.YtjnaknfnoibncaaOptArgs
import Derived.SizedLaws
namespace Go.Proofs.Ytjnaknfnoibncaa
open Go Go.RowKit Go.Shelf
attribute [local go_sem] Oper.semAt_some wide_fn wide_depth

set_option maxRecDepth 100000 in
set_option maxHeartbeats 8000000 in
theorem giveTells_walk (l : List SumC) (v : Value) (o : Bool) (sn sw c sv : ByteArray) (n : Nat) (now : Int) (w : World) (hr : SRow w v 3 (l.map SumC.cells)) (hf : ∀ x ∈ l, x.fit) (hn : n < 4294967296) (hs : sv.size ≤ 140737488351232) :
    Calls Try.prog 6 #[.agg #[.bool o, v], .agg #[.string sn, .string sw], .string c, .string sv, .int .u32 (n : Int), .int .i64 now] w fun e w' => e = .returned (.bool true) ∧ Ext w w' := by
  have Hr := Lib.hid hr
  obtain ⟨ao, ac, rfl, hlm⟩ := hr.open
  rw [List.length_map] at Hr hlm ⊢
  clear hr hlm
  have CL := Lib.hid fun W => L12.lives_any W
  have CM := Lib.hid fun W => Small9_any ao l.length ac o W
  have C1 := Lib.hid fun W h => Make_any l (.slice ao l.length ac) o sn c n now W h hn
  have C2 := Lib.hid fun W h => RMake12_any l (.slice ao l.length ac) o sn c n now W h hf hn
  have C3 := Lib.hid fun W h => Verify_any l (.slice ao l.length ac) o sn sw c sv n now W h hn
  have C4 := Lib.hid fun W h => RVerify_any l (.slice ao l.length ac) o sn sw c sv n now W h hf hn
  have C5 := Lib.hid fun W => Roll_any sn sw c W
  have C6 := Lib.hid fun W => RRoll_any sn sw c W
  have C7 : Hid (c.size ≤ 1000 → ∀ W, Calls Try.prog 30 #[.string c, .string sv, .int .u32 (n : Int)] W fun e w' => e = .returned (.string (giveT c sv n)) ∧ Ext W w') := Lib.hid fun h W => GText_any c sv n W (by omega) hn
  have C8 : Hid (c.size ≤ 1000 → ∀ W, Calls Try.prog 31 #[.string c, .string sv, .int .u32 (n : Int)] W fun e w' => e = .returned (.string (giveT c sv n)) ∧ Ext W w') := Lib.hid fun h W => RGText_any c sv n W (by omega) hn
  obtain ⟨⟨p1, q1⟩, h1⟩ : ∃ y, makeV o l sn c n now = y := ⟨_, rfl⟩
  obtain ⟨⟨p2, q2⟩, h2⟩ : ∃ y, verV o l sn sw c sv n now = y := ⟨_, rfl⟩
  obtain ⟨⟨ra, rb, q3⟩, h3⟩ : ∃ y, rollV sn c = y := ⟨_, rfl⟩
  obtain ⟨t, h4⟩ : ∃ y, giveT c sv n = y := ⟨_, rfl⟩
  rw [h1] at C1 C2
  rw [h2] at C3 C4
  rw [h3] at C5 C6
  rw [h4] at C7 C8
  simp only at C1 C2 C3 C4 C5 C6
  have HE := eqT ra rb
  clear h1 h2 h3 h4
  obtain ⟨nl, hnl⟩ : ∃ nl, l.length = nl := ⟨_, rfl⟩
  rw [hnl] at CM C1 C2 C3 C4 Hr ⊢
  clear hnl hf hn hs
  obtain ⟨w1, he1⟩ : ∃ w1, (w.alloc (.cells #[.bool o, .slice ao nl ac] 24)).alloc (.cells #[.string sn, .string sw] 50) = w1 := ⟨_, rfl⟩
  have X1 : Ext w w1 := by rw [← he1]; exact ((Ext.refl w).alloc _).alloc _
  have hz : (w.alloc (.cells #[.bool o, .slice ao nl ac] 24)).heap.size = w.heap.size + 1 := by simp
  have hA : w1.heap[w.heap.size]? = some (.cells #[.bool o, .slice ao nl ac] 24 (0, 0)) := by
    rw [← he1]
    exact ((Keeps.refl (fun _ => True) _).alloc _).heap (World.alloc_heap_new w _) trivial
  have hB : w1.heap[w.heap.size + 1]? = some (.cells #[.string sn, .string sw] 50 (0, 0)) := by
    rw [← he1, ← hz]
    exact World.alloc_heap_new _ _
  have TW : Hid (∀ W, Ext w1 W → (W.cell? ⟨w.heap.size, 0, none⟩ = some (.bool o) ∧ W.cell? ⟨w.heap.size, 1, none⟩ = some (.slice ao nl ac)) ∧ W.cell? ⟨w.heap.size + 1, 0, none⟩ = some (.string sn) ∧ W.cell? ⟨w.heap.size + 1, 1, none⟩ = some (.string sw)) := Lib.hid fun W hx => by
    obtain ⟨g0, g1, _, _⟩ := cells_of (hx.keeps.heap hA trivial)
    obtain ⟨g2, g3, _, _⟩ := cells_of (hx.keeps.heap hB trivial)
    exact ⟨⟨g0, g1⟩, g2, g3⟩
  have HX := Lib.hid X1
  clear hA hB hz X1
  subst he1
  by_cases hb : 60 < nl
  · rw [if_pos hb] at CM
    clear hb
    go_enter Try.func6, Try.ntmps6
    go_wp2_with (first
      | ((with_reducible refine (CM.out _).mono ?_); rintro e W2 ⟨rfl, hx⟩; have HX2 := Lib.hid hx; clear hx)
      | ((with_reducible refine (CL.out _).mono ?_); rintro e W3 ⟨rfl, hx⟩; have HX3 := Lib.hid (HX2.out.trans hx); clear hx))
    go_ret
    exact ⟨rfl, HX.out.trans HX3.out⟩
  rw [if_neg hb] at CM
  clear hb
  by_cases hb : 1000 < c.size
  · have hbi : (1000 : Int) < c.size := by omega
    clear hb
    go_enter Try.func6, Try.ntmps6
    go_wp2_with (first
      | ((with_reducible refine (CM.out _).mono ?_); rintro e W2 ⟨rfl, hx⟩; have HX2 := Lib.hid hx; clear hx)
      | ((with_reducible refine (CL.out _).mono ?_); rintro e W3 ⟨rfl, hx⟩; have HX3 := Lib.hid (HX2.out.trans hx); clear hx))
    go_ret
    exact ⟨rfl, HX.out.trans HX3.out⟩
  have HC : Hid (c.size ≤ 1000) := Lib.hid (by omega)
  have hci : decide ((1000 : Int) < c.size) = false := decide_eq_false (by omega)
  clear hb
  go_enter Try.func6, Try.ntmps6
  go_wp2_with (first
    | ((with_reducible refine (CM.out _).mono ?_); rintro e W2 ⟨rfl, hx⟩; have HX2 := Lib.hid hx; obtain ⟨⟨a0, a1⟩, b0, b1⟩ := TW.out _ HX2.out; clear hx)
    | ((with_reducible refine (C1.out _ (Hr.out.ext (HX.out.trans HX2.out))).mono ?_); rintro e W3 ⟨rfl, hx⟩; clear a0 a1 b0 b1; have HX3 := Lib.hid (HX2.out.trans hx); obtain ⟨⟨a0, a1⟩, b0, b1⟩ := TW.out _ HX3.out; clear hx)
    | ((with_reducible refine (C2.out _ (Hr.out.ext (HX.out.trans HX3.out))).mono ?_); rintro e W4 ⟨rfl, hx⟩; clear a0 a1 b0 b1; have HX4 := Lib.hid (HX3.out.trans hx); obtain ⟨⟨a0, a1⟩, b0, b1⟩ := TW.out _ HX4.out; clear hx)
    | ((with_reducible refine (C3.out _ (Hr.out.ext (HX.out.trans HX4.out))).mono ?_); rintro e W5 ⟨rfl, hx⟩; clear a0 a1 b0 b1; have HX5 := Lib.hid (HX4.out.trans hx); obtain ⟨⟨a0, a1⟩, b0, b1⟩ := TW.out _ HX5.out; clear hx)
    | ((with_reducible refine (C4.out _ (Hr.out.ext (HX.out.trans HX5.out))).mono ?_); rintro e W6 ⟨rfl, hx⟩; clear a0 a1 b0 b1; have HX6 := Lib.hid (HX5.out.trans hx); obtain ⟨⟨a0, a1⟩, b0, b1⟩ := TW.out _ HX6.out; clear hx)
    | ((with_reducible refine (C5.out _).mono ?_); rintro e W7 ⟨rfl, hx⟩; clear a0 a1 b0 b1; have HP := Lib.hid (World.alloc_heap_new W7 (.cells #[.string ra, .string rb] 50)); have HX7 := Lib.hid ((HX6.out.trans hx).alloc (.cells #[.string ra, .string rb] 50)); obtain ⟨⟨a0, a1⟩, b0, b1⟩ := TW.out _ HX7.out; clear hx)
    | ((with_reducible refine (C6.out _).mono ?_); rintro e W8 ⟨rfl, hx⟩; clear a0 a1 b0 b1; have HQ := Lib.hid (World.alloc_heap_new W8 (.cells #[.string ra, .string rb] 50)); have HP8 := Lib.hid ((hx.alloc (.cells #[.string ra, .string rb] 50)).keeps.heap HP.out trivial); have HX8 := Lib.hid ((HX7.out.trans hx).alloc (.cells #[.string ra, .string rb] 50)); clear hx)
    | ((with_reducible refine (CL.out _).mono ?_); rintro e W9 ⟨rfl, hx⟩; have HY9 := Lib.hid hx; clear hx)
    | ((with_reducible refine (C7.out HC.out _).mono ?_); rintro e W10 ⟨rfl, hx⟩; have HY10 := Lib.hid (HY9.out.trans hx); clear hx)
    | ((with_reducible refine (C8.out HC.out _).mono ?_); rintro e W11 ⟨rfl, hx⟩; have HY11 := Lib.hid (HY10.out.trans hx); obtain ⟨g0, g1, _, _⟩ := cells_of (HY11.out.keeps.heap HP8.out trivial); obtain ⟨g2, g3, _, _⟩ := cells_of (HY11.out.keeps.heap HQ.out trivial); clear hx))
  go_ret
  exact ⟨rfl, HX.out.trans (HX8.out.trans HY11.out)⟩

theorem giveTells_args (o : Bool) (v : Value) (l : List SumC) (sn sw c sv : ByteArray) (n now : Int) (w : World) (hr : SRow w v 3 (l.map SumC.cells)) (hf : ∀ x ∈ l, x.fit) (_ : sn.size ≤ maxLen ∧ sw.size ≤ maxLen) (_ : c.size ≤ maxLen) (_ : sv.size ≤ maxLen) (hn : (Lit.int .u32 n).wf = true) (_ : (Lit.int .i64 now).wf = true) (hs : sv.data.toList.length ≤ reachBytes) :
    Calls Try.prog 6 #[.agg #[.bool o, v], .agg #[.string sn, .string sw], .string c, .string sv, .int .u32 n, .int .i64 now] w fun e w' => e = .returned (.bool true) ∧ Ext w w' := by
  obtain ⟨m, rfl, hm⟩ := wf_nat32 hn
  have h2 : sv.size ≤ 140737488351232 := hs
  exact giveTells_walk l v o sn sw c sv m now w hr hf hm h2
end Go.Proofs.Ytjnaknfnoibncaa
