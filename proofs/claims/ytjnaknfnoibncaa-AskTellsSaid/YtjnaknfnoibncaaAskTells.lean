/- hardtacklaw11.AskTells answers true, and leaves what lay as it lay. Conditions: numbers and texts of their kinds. -/
import Derived.Test.YtjnaknfnoibncaaAskE
import Derived.Test.YtjnaknfnoibncaaOptArgs
namespace Go.Proofs.Ytjnaknfnoibncaa
open Go Go.RowKit Go.Shelf
attribute [local go_sem] Oper.semAt_some wide_fn wide_depth

set_option maxRecDepth 100000 in
set_option maxHeartbeats 4000000 in
theorem askTells_walk (l : List SumC) (v : Value) (o : Bool) (k sent : ByteArray) (n : Nat) (en : Bool) (e : EdC) (lo : List OptC) (vo : Value) (w : World) (hr : SRow w v 3 (l.map SumC.cells)) (hf : ∀ x ∈ l, x.fit) (hn : n < 4294967296)
    (hro : SRow w vo 2 (lo.map OptC.cells)) (hfo : ∀ x ∈ lo, x.d.size ≤ maxLen) :
    Calls Try.prog 3 #[.agg #[.bool o, v], .string k, .int .u32 (n : Int), .string sent, .bool en, .agg (e.cells vo)] w fun e w' => e = .returned (.bool true) ∧ Ext w w' := by
  have Hr := Lib.hid hr
  obtain ⟨ao, ac, rfl, hlm⟩ := hr.open
  rw [List.length_map] at Hr hlm ⊢
  clear hr hlm
  have Hro := Lib.hid hro
  obtain ⟨bo, bc, rfl, hlm⟩ := hro.open
  rw [List.length_map] at Hro hlm ⊢
  clear hro hlm
  have CL := Lib.hid fun W => L11.lives_any W
  have CM := Lib.hid fun W => Small9_any ao l.length ac o W
  have C1 := Lib.hid fun W h => AClient_any l (.slice ao l.length ac) o k n W h hn
  have C2 := Lib.hid fun W h => RAClient_any l (.slice ao l.length ac) o k n W h hf hn
  have C3 := Lib.hid fun W h => Accept_any e lo (.slice bo lo.length bc) sent en W h hfo
  have C4 := Lib.hid fun W h => RAccept_any e lo (.slice bo lo.length bc) sent en W h hfo
  have C5 := Lib.hid fun W => AText_any n W hn
  have C6 := Lib.hid fun W => RAText_any n W hn
  obtain ⟨⟨p1, q1⟩, h1⟩ : ∃ y, cliV o l k (askT n) = y := ⟨_, rfl⟩
  obtain ⟨⟨p2, q2⟩, h2⟩ : ∃ y, acceptV sent en lo = y := ⟨_, rfl⟩
  obtain ⟨t, h3⟩ : ∃ y, askT n = y := ⟨_, rfl⟩
  rw [h1] at C1 C2
  rw [h2] at C3 C4
  rw [h3] at C5 C6
  clear h1 h2 h3
  obtain ⟨et, es, eh, ev, ef⟩ := e
  unfold EdC.cells at *
  simp only at C1 C2 C3 C4 ⊢
  obtain ⟨nl, hnl⟩ : ∃ nl, l.length = nl := ⟨_, rfl⟩
  obtain ⟨no, hno⟩ : ∃ no, lo.length = no := ⟨_, rfl⟩
  rw [hnl] at CM C1 C2 Hr ⊢
  rw [hno] at C3 C4 Hro ⊢
  clear hnl hno hf hfo hn
  obtain ⟨w1, h1⟩ : ∃ w1, (w.alloc (.cells #[.bool o, .slice ao nl ac] 24)).alloc (.cells #[.bool et, .int .u16 (es : Int), .int .u8 (eh : Int), .int .u8 (ev : Int), .int .u16 (ef : Int), .slice bo no bc] 29) = w1 := ⟨_, rfl⟩
  have X1 : Ext w w1 := by rw [← h1]; exact ((Ext.refl w).alloc _).alloc _
  have hz : (w.alloc (.cells #[.bool o, .slice ao nl ac] 24)).heap.size = w.heap.size + 1 := by simp
  have hA : w1.heap[w.heap.size]? = some (.cells #[.bool o, .slice ao nl ac] 24 (0, 0)) := by
    rw [← h1]
    exact ((Keeps.refl (fun _ => True) _).alloc _).heap (World.alloc_heap_new w _) trivial
  have hB : w1.heap[w.heap.size + 1]? = some (.cells #[.bool et, .int .u16 (es : Int), .int .u8 (eh : Int), .int .u8 (ev : Int), .int .u16 (ef : Int), .slice bo no bc] 29 (0, 0)) := by
    rw [← h1, ← hz]
    exact World.alloc_heap_new _ _
  have TW : Hid (∀ W, Ext w1 W → (W.cell? ⟨w.heap.size, 0, none⟩ = some (.bool o) ∧ W.cell? ⟨w.heap.size, 1, none⟩ = some (.slice ao nl ac)) ∧ W.cell? ⟨w.heap.size + 1, 0, none⟩ = some (.bool et) ∧ W.cell? ⟨w.heap.size + 1, 1, none⟩ = some (.int .u16 (es : Int)) ∧ W.cell? ⟨w.heap.size + 1, 2, none⟩ = some (.int .u8 (eh : Int)) ∧ W.cell? ⟨w.heap.size + 1, 3, none⟩ = some (.int .u8 (ev : Int)) ∧ W.cell? ⟨w.heap.size + 1, 4, none⟩ = some (.int .u16 (ef : Int)) ∧ W.cell? ⟨w.heap.size + 1, 5, none⟩ = some (.slice bo no bc)) := Lib.hid fun W hx => by
    obtain ⟨g0, g1, _, _⟩ := cells_of (hx.keeps.heap hA trivial)
    exact ⟨⟨g0, g1⟩, cells_six (hx.keeps.heap hB trivial)⟩
  have HX := Lib.hid X1
  have hx0 := Lib.hid (Ext.refl w1)
  clear hA hB hz X1
  subst h1
  by_cases hb : 60 < nl
  · rw [if_pos hb] at CM
    clear hb
    go_enter Try.func3, Try.ntmps3
    go_wp2_with (first
      | ((with_reducible refine (CM.out _).mono ?_); rintro e W2 ⟨rfl, hx⟩; have HX2 := Lib.hid (HX.out.trans hx); obtain ⟨⟨a0, a1⟩, b0, b1, b2, b3, b4, b5⟩ := TW.out _ hx; clear hx)
      | ((with_reducible refine (CL.out _).mono ?_); rintro e W3 ⟨rfl, hx⟩; clear a0 a1 b0 b1 b2 b3 b4 b5; have HX3 := Lib.hid (HX2.out.trans hx); clear hx))
    go_ret
    exact ⟨rfl, HX3.out⟩
  rw [if_neg hb] at CM
  clear hb
  by_cases hc : 60 < no
  · have hc1 : (60 : Int) < no := by omega
    clear hc
    go_enter Try.func3, Try.ntmps3
    go_wp2_with (first
      | ((with_reducible refine (CM.out _).mono ?_); rintro e W2 ⟨rfl, hx⟩; have HX2 := Lib.hid (HX.out.trans hx); obtain ⟨⟨a0, a1⟩, b0, b1, b2, b3, b4, b5⟩ := TW.out _ hx; clear hx)
      | ((with_reducible refine (CL.out _).mono ?_); rintro e W3 ⟨rfl, hx⟩; clear a0 a1 b0 b1 b2 b3 b4 b5; have HX3 := Lib.hid (HX2.out.trans hx); clear hx))
    go_ret
    exact ⟨rfl, HX3.out⟩
  have hc1 : (no : Int) ≤ 60 := by omega
  clear hc
  go_enter Try.func3, Try.ntmps3
  go_wp2_with (first
    | ((with_reducible refine (CM.out _).mono ?_); rintro e W2 ⟨rfl, hx⟩; have HX2 := Lib.hid hx; obtain ⟨⟨a0, a1⟩, b0, b1, b2, b3, b4, b5⟩ := TW.out _ hx; clear hx)
    | ((with_reducible refine (C1.out _ (Hr.out.ext (HX.out.trans HX2.out))).mono ?_); rintro e W3 ⟨rfl, hx⟩; clear a0 a1 b0 b1 b2 b3 b4 b5; have HX3 := Lib.hid (HX2.out.trans hx); obtain ⟨⟨a0, a1⟩, b0, b1, b2, b3, b4, b5⟩ := TW.out _ HX3.out; clear hx)
    | ((with_reducible refine (C2.out _ (Hr.out.ext (HX.out.trans HX3.out))).mono ?_); rintro e W4 ⟨rfl, hx⟩; clear a0 a1 b0 b1 b2 b3 b4 b5; have HX4 := Lib.hid (HX3.out.trans hx); obtain ⟨⟨a0, a1⟩, b0, b1, b2, b3, b4, b5⟩ := TW.out _ HX4.out; clear hx)
    | ((with_reducible refine (C3.out _ (Hro.out.ext (HX.out.trans HX4.out))).mono ?_); rintro e W5 ⟨rfl, hx⟩; clear a0 a1 b0 b1 b2 b3 b4 b5; have HX5 := Lib.hid (HX4.out.trans hx); obtain ⟨⟨a0, a1⟩, b0, b1, b2, b3, b4, b5⟩ := TW.out _ HX5.out; clear hx)
    | ((with_reducible refine (C4.out _ (Hro.out.ext (HX.out.trans HX5.out))).mono ?_); rintro e W6 ⟨rfl, hx⟩; clear a0 a1 b0 b1 b2 b3 b4 b5; have HX6 := Lib.hid (HX5.out.trans hx); clear hx)
    | ((with_reducible refine (CL.out _).mono ?_); rintro e W7 ⟨rfl, hx⟩; have HX7 := Lib.hid (HX6.out.trans hx); clear hx)
    | ((with_reducible refine (C5.out _).mono ?_); rintro e W8 ⟨rfl, hx⟩; have HX8 := Lib.hid (HX7.out.trans hx); clear hx)
    | ((with_reducible refine (C6.out _).mono ?_); rintro e W9 ⟨rfl, hx⟩; have HX9 := Lib.hid (HX8.out.trans hx); clear hx))
  go_ret
  exact ⟨rfl, HX.out.trans HX9.out⟩

theorem askTells_args (o : Bool) (v : Value) (l : List SumC) (k : ByteArray) (n : Int) (sent : ByteArray) (en : Bool) (e : EdC) (vo : Value) (lo : List OptC) (w : World) (hr : SRow w v 3 (l.map SumC.cells)) (hf : ∀ x ∈ l, x.fit) (_ : k.size ≤ maxLen) (hn : (Lit.int .u32 n).wf = true) (_ : sent.size ≤ maxLen)
    (hro : SRow w vo 2 (lo.map OptC.cells)) (hfo : ∀ x ∈ lo, x.fit) :
    Calls Try.prog 3 #[.agg #[.bool o, v], .string k, .int .u32 n, .string sent, .bool en, .agg (e.cells vo)] w fun e w' => e = .returned (.bool true) ∧ Ext w w' := by
  obtain ⟨m, rfl, hm⟩ := wf_nat32 hn
  exact askTells_walk l v o k sent m en e lo vo w hr hf hm hro fun x hx => (hfo x hx).d
end Go.Proofs.Ytjnaknfnoibncaa
