/- Which cookies are verified: give's maker and Verify; how secrets roll over. Conditions: numbers of 32 bits; clients that are no longer than may be. -/
import Derived.Test.YtjnaknfnoibncaaAskC
import Derived.Test.YtjnaknfnoibncaaAskD
import Derived.Handy
namespace Go.Proofs.Ytjnaknfnoibncaa
open Go Go.RowKit Go.Shelf
attribute [local go_sem] Oper.semAt_some wide_fn wide_depth

/-- Is the cookie the one by key k? -/
def madeB (o : Bool) (l : List SumC) (k c sv : ByteArray) (n : Nat) : Bool := decide (cookV o l k (giveT c (sv.extract 0 8) n) (sv.extract 0 8) = (sv, 0))
def makerI (o : Bool) (l : List SumC) (sn sw c sv : ByteArray) (n : Nat) : Int := if madeB o l sn c sv n then 0 else if madeB o l sw c sv n then 1 else -1
theorem made_cases (o : Bool) (l : List SumC) (k c sv : ByteArray) (n : Nat) : ∃ p q, cookV o l k (giveT c (sv.extract 0 8) n) (sv.extract 0 8) = (p, q) ∧
    ((q = 0 ∧ (p.toList == sv.toList) = true ∧ madeB o l k c sv n = true) ∨ (q = 0 ∧ (p.toList == sv.toList) = false ∧ madeB o l k c sv n = false) ∨ ((q == 0) = false ∧ madeB o l k c sv n = false)) := by
  obtain ⟨⟨p, q⟩, h⟩ : ∃ y, cookV o l k (giveT c (sv.extract 0 8) n) (sv.extract 0 8) = y := ⟨_, rfl⟩
  refine ⟨p, q, h, ?_⟩
  unfold madeB
  rw [h]
  have ht := text_eq (a := p) (b := sv)
  by_cases h0 : q = 0
  · subst h0
    by_cases h1 : p = sv
    · exact .inl ⟨rfl, by rw [ht, decide_eq_true h1], by rw [decide_eq_true]; rw [h1]⟩
    · refine .inr (.inl ⟨rfl, by rw [ht, decide_eq_false h1], ?_⟩)
      rw [decide_eq_false]
      intro e
      simp only [Prod.mk.injEq] at e
      exact h1 e.1
  · refine .inr (.inr ⟨by simpa using h0, ?_⟩)
    rw [decide_eq_false]
    intro e
    simp only [Prod.mk.injEq] at e
    exact h0 e.2

theorem run_index0 (a b : ByteArray) (w : World) : (Instr.index 115 (.agg #[.string a, .string b]) (.int .i64 0)).run Try.prog w = .ok (.string a) w := by
  simp [Instr.index, run_underlying Try.underlying115, asIntOf, go_sem, part]
theorem run_index1 (a b : ByteArray) (w : World) : (Instr.index 115 (.agg #[.string a, .string b]) (.int .i64 1)).run Try.prog w = .ok (.string b) w := by
  simp [Instr.index, run_underlying Try.underlying115, asIntOf, go_sem, part]

set_option maxRecDepth 100000 in
set_option maxHeartbeats 4000000 in
theorem maker_any (l : List SumC) (v : Value) (o : Bool) (sn sw c sv : ByteArray) (n : Nat) (w : World) (hr : SRow w v 3 (l.map SumC.cells)) (hc : c.size ≤ 2000000000) (hs : sv.size = 16) (hn : n < 4294967296) :
    Calls Try.prog 60 #[.agg #[.bool o, v], .agg #[.string sn, .string sw], .string c, .string sv, .int .u32 (n : Int)] w fun e w' => e = .returned (.int .i64 (makerI o l sn sw c sv n)) ∧ Ext w w' := by
  have Hr := Lib.hid hr
  obtain ⟨ao, m, ac, rfl⟩ := hr.slice
  clear hr
  have hsi : (sv.size : Int) = 16 := by omega
  have hx8 : (sv.extract 0 8).size = 8 := by rw [ByteArray.size_extract]; omega
  have C1 := Lib.hid fun W h => cookie_any l (.slice ao m ac) o sn c (sv.extract 0 8) n W h hc (by omega) hn
  have C2 := Lib.hid fun W h => cookie_any l (.slice ao m ac) o sw c (sv.extract 0 8) n W h hc (by omega) hn
  obtain ⟨p1, q1, e1, k1⟩ := made_cases o l sn c sv n
  obtain ⟨p2, q2, e2, k2⟩ := made_cases o l sw c sv n
  rw [e1] at C1
  rw [e2] at C2
  unfold makerI
  obtain ⟨b1, hb1⟩ : ∃ y, madeB o l sn c sv n = y := ⟨_, rfl⟩
  obtain ⟨b2, hb2⟩ : ∃ y, madeB o l sw c sv n = y := ⟨_, rfl⟩
  rw [hb1] at k1 ⊢
  rw [hb2] at k2 ⊢
  clear hb1 hb2 e1 e2
  obtain ⟨hd, hhd⟩ : ∃ y, sv.extract 0 8 = y := ⟨_, rfl⟩
  have Hhd := Lib.hid hhd
  simp only at C1 C2
  clear hhd hx8
  obtain ⟨w1, h1⟩ : ∃ w1, (w.alloc (.cells #[.bool o, .slice ao m ac] 24)).alloc (.cells #[.string sn, .string sw] 50) = w1 := ⟨_, rfl⟩
  have X1 : Ext w w1 := by rw [← h1]; exact ((Ext.refl w).alloc _).alloc _
  have hA : w1.heap[w.heap.size]? = some (.cells #[.bool o, .slice ao m ac] 24 (0, 0)) := by
    rw [← h1]
    exact ((Keeps.refl (fun _ => True) _).alloc _).heap (World.alloc_heap_new w _) trivial
  have TW : Hid (∀ W, Ext w1 W → W.cell? ⟨w.heap.size, 0, none⟩ = some (.bool o) ∧ W.cell? ⟨w.heap.size, 1, none⟩ = some (.slice ao m ac)) := Lib.hid fun W hx => by
    obtain ⟨g0, g1, _, _⟩ := cells_of (hx.keeps.heap hA trivial)
    exact ⟨g0, g1⟩
  have HX := Lib.hid X1
  have hx1 := Lib.hid (Ext.refl w1)
  have hx1d := Lib.hid ((Ext.refl w1).drew)
  clear hA X1
  subst h1
  have I0 := run_index0 sn sw
  have I1 := run_index1 sn sw
  rcases k1 with ⟨rfl, t1, rfl⟩ | ⟨rfl, t1, rfl⟩ | ⟨t1, rfl⟩
  · go_enter Try.func60, Try.ntmps60
    go_wp2_with fail
    refine wp_loop_rounds 3 ?_
    rw [rounds_succ]
    go_wp2_with fail
    go_region_held3 (fun w' => w'.cell? ⟨w.heap.size, 0, none⟩ = some (.bool o) ∧ w'.cell? ⟨w.heap.size, 1, none⟩ = some (.slice ao m ac))
      (first | exact TW.out _ hx1.out | exact TW.out _ hx1d.out | go_keep)
      (first | ((with_reducible refine (C1.out _ (Hr.out.ext (HX.out.trans hx1d.out))).mono ?_); rintro e W6 ⟨rfl, hx⟩; replace hx1 := Lib.hid (hx1d.out.trans hx); replace hx1d := Lib.hid (hx1.out.drew); clear hx))
    go_wp2_with fail
    go_ret
    exact ⟨rfl, HX.out.trans hx1.out⟩
  all_goals rcases k2 with ⟨rfl, t2, rfl⟩ | ⟨rfl, t2, rfl⟩ | ⟨t2, rfl⟩
  all_goals
    go_enter Try.func60, Try.ntmps60
    go_wp2_with fail
    refine wp_loop_rounds 3 ?_
    rw [rounds_succ]
    go_wp2_with fail
    go_region_held3 (fun w' => w'.cell? ⟨w.heap.size, 0, none⟩ = some (.bool o) ∧ w'.cell? ⟨w.heap.size, 1, none⟩ = some (.slice ao m ac))
      (first | exact TW.out _ hx1.out | exact TW.out _ hx1d.out | go_keep)
      (first | ((with_reducible refine (C1.out _ (Hr.out.ext (HX.out.trans hx1d.out))).mono ?_); rintro e W6 ⟨rfl, hx⟩; replace hx1 := Lib.hid (hx1d.out.trans hx); replace hx1d := Lib.hid (hx1.out.drew); clear hx))
    go_wp2_with fail
    rw [rounds_succ]
    go_wp2_with fail
    go_region_held3 (fun w' => w'.cell? ⟨w.heap.size, 0, none⟩ = some (.bool o) ∧ w'.cell? ⟨w.heap.size, 1, none⟩ = some (.slice ao m ac))
      (first | exact TW.out _ hx1.out | exact TW.out _ hx1d.out | go_keep)
      (first | ((with_reducible refine (C2.out _ (Hr.out.ext (HX.out.trans hx1d.out))).mono ?_); rintro e W6 ⟨rfl, hx⟩; replace hx1 := Lib.hid (hx1d.out.trans hx); replace hx1d := Lib.hid (hx1.out.drew); clear hx))
    go_wp2_with fail
    first
      | (go_ret; exact ⟨rfl, HX.out.trans hx1.out⟩)
      | (rw [rounds_succ]; go_wp2_with fail; go_ret; exact ⟨rfl, HX.out.trans hx1.out⟩)
end Go.Proofs.Ytjnaknfnoibncaa
