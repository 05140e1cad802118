/- What the first question of layer 9's statements (lives) answers: true; what Small tells. Conditions: none. -/
import Derived.Test.YtnfnjhphamadgaaHashE
namespace Go.Proofs.Ytnfnjhphamadgaa
open Go Go.RowKit Go.Shelf
attribute [local go_sem] Oper.semAt_some wide_fn wide_depth

set_option maxHeartbeats 1000000 in
theorem Small9_any (ao : Option Addr) (n ac : Nat) (o : Bool) (w : World) :
    Calls Try.prog 10 #[.agg #[.bool o, .slice ao n ac]] w fun e w' => e = .returned (.int .i64 (if 60 < n then 0 else 1)) ∧ Ext w w' := by
  by_cases h : 60 < n
  · rw [if_pos h]
    have h2 : (60 : Int) < n := by omega
    go_enter Try.func10, Try.ntmps10
    go_wp2
    go_ret
    exact ⟨rfl, (Ext.refl w).alloc _⟩
  · rw [if_neg h]
    have h2 : (n : Int) ≤ 60 := by omega
    go_enter Try.func10, Try.ntmps10
    go_wp2
    go_ret
    exact ⟨rfl, (Ext.refl w).alloc _⟩

theorem srow_new (w : World) (x : SumC) (t : TypeId) : SRow (w.alloc (.cells x.cells t)) (.slice (some ⟨w.heap.size, 0, none⟩) 1 1) 3 ([x].map SumC.cells) := by
  refine ⟨some ⟨w.heap.size, 0, none⟩, 1, rfl, Nat.le_refl _, by unfold maxLen; decide, fun k c hk => ?_⟩
  have hk0 : k = 0 := by
    have := (List.getElem?_eq_some_iff.1 hk).1
    simp at this
    exact this
  subst hk0
  simp at hk
  subst hk
  refine ⟨w.heap.size, 0, rfl, rfl, fun i u hu => ?_⟩
  rw [show 0 + 0 * 3 + i = i by omega, cell_new]
  exact hu

namespace L9
def kk : ByteArray := ⟨#[48, 49, 50, 51, 52, 53, 54, 55, 56, 57, 97, 98, 99, 100, 101, 102]⟩
def ta : ByteArray := ⟨#[97]⟩
def tb : ByteArray := ⟨#[98]⟩
def t0 : ByteArray := ⟨#[]⟩
def l1 : List SumC := [⟨kk, ta, 7⟩]
def l2 : List SumC := [⟨kk, ta, 7⟩, ⟨kk, tb, 7⟩]
theorem e1 : putE [] kk ta = 0 := by decide +kernel
theorem e2 : hashV true l1 kk ta = 7 ∧ sumE kk ta = 0 := by decide +kernel
theorem e3 : hashV true l1 kk tb = 0 ∧ sumE kk tb = 0 := by decide +kernel
theorem e4 : hashV false l1 kk ta = sumV kk ta := rfl
theorem e6 : putE l1 kk ta = 4 := by decide +kernel
theorem e7 : hashV true l1 t0 ta = 0 ∧ sumE t0 ta = 2 := by decide +kernel
theorem e8 : putE l1 kk tb = 0 := by decide +kernel
theorem e9 : apartB l1 = true := by decide +kernel
theorem e10 : apartB l2 = false := by decide +kernel
theorem e11 : decide (0 ≤ findI kk tb l2) = true := by decide +kernel
theorem e12 : checkE l2 = 0 := by decide +kernel
theorem e13 : checkE [⟨t0, t0, 0⟩] = 2 := by decide +kernel
theorem f1 : ∀ x ∈ l1, x.fit := by intro x hx; simp [l1] at hx; subst hx; exact ⟨by decide +kernel, by decide +kernel, by decide⟩
theorem f2 : ∀ x ∈ l2, x.fit := by intro x hx; simp [l2] at hx; rcases hx with rfl | rfl <;> exact ⟨by decide +kernel, by decide +kernel, by decide⟩
theorem f3 : ∀ x ∈ [(⟨t0, t0, 0⟩ : SumC)], x.k.size ≤ maxLen ∧ x.s.size ≤ maxLen := by intro x hx; simp at hx; subst hx; exact ⟨by decide +kernel, by decide +kernel⟩

set_option maxRecDepth 100000 in
set_option maxHeartbeats 4000000 in
theorem lives_any (w : World) : Calls Try.prog 11 #[] w fun e w' => e = .returned (.bool true) ∧ Ext w w' := by
  have C1 := Lib.hid fun W => HPut_any [] (.slice none 0 0) false kk ta 7 W (SRow.nil W 3)
  have C2 := Lib.hid fun v W h => HOf_any l1 v true kk ta W h
  have C3 := Lib.hid fun v W h => HOf_any l1 v true kk tb W h
  have C4 := Lib.hid fun v W h => HOf_any l1 v false kk ta W h
  have C5 := Lib.hid fun W => Sum_any kk ta W
  have C6 := Lib.hid fun v W h => HPut_any l1 v true kk ta 8 W h
  have C7 := Lib.hid fun v W h => HOf_any l1 v true t0 ta W h
  have C8 := Lib.hid fun v W h => HPut_any l1 v true kk tb 7 W h
  have C9 := Lib.hid fun v W h => HApart_any l1 v true W h f1
  have C10 := Lib.hid fun v W h => HApart_any l2 v true W h f2
  have C11 := Lib.hid fun v W h => Known_any l2 v true kk tb W h
  have C12 := Lib.hid fun v W h => HCheck_any l2 v true W h fun x hx => ⟨(f2 x hx).k, (f2 x hx).s⟩
  have C13 := Lib.hid fun v W h => HCheck_any [⟨t0, t0, 0⟩] v false W h f3
  rw [e2.1, e2.2] at C2
  rw [e3.1, e3.2] at C3
  rw [e4, e2.2] at C4
  rw [sumR_eq, e2.2] at C5
  rw [e7.1, e7.2] at C7
  rw [e9] at C9
  rw [e10] at C10
  rw [e11] at C11
  rw [e12] at C12
  rw [e13] at C13
  obtain ⟨y, hy⟩ : ∃ y, sumV kk ta = y := ⟨_, rfl⟩
  rw [hy] at C4 C5
  clear hy
  rw [show (((7 : Nat)) : Int) = 7 from rfl] at C1 C2 C8
  rw [show (((8 : Nat)) : Int) = 8 from rfl] at C6
  rw [show (((0 : Nat)) : Int) = 0 from rfl] at C3 C7
  have HN : Hid (∀ W : World, SRow (W.alloc (.cells #[.string ⟨#[]⟩, .string ⟨#[]⟩, .int .u64 0] 40)) (.slice (some ⟨W.heap.size, 0, none⟩) 1 1) 3 ([(⟨⟨#[]⟩, ⟨#[]⟩, 0⟩ : SumC)].map SumC.cells)) := Lib.hid fun W => srow_new W ⟨⟨#[]⟩, ⟨#[]⟩, 0⟩ 40
  have hq1 := e1
  have hq6 := e6
  have hq8 := e8
  unfold kk ta tb t0 at *
  go_enter Try.func11, Try.ntmps11
  go_wp2_with (first
    | ((with_reducible refine (C1.out _).mono ?_); rintro e W1 hp; rcases hp with ⟨hz, _⟩ | ⟨_, v1, rfl, hr1, hx1⟩; (exact absurd hq1 hz); obtain ⟨ao, an, ac, rfl⟩ := hr1.slice; have HA := Lib.hid (cell_new W1 #[.bool true, .slice ao an ac] 24); have HR1 := Lib.hid (hr1.ext ((Ext.refl W1).alloc (.cells #[.bool true, .slice ao an ac] 24))); have HX1 := Lib.hid (hx1.alloc (.cells #[.bool true, .slice ao an ac] 24)); clear hr1 hx1)
    | ((with_reducible refine (C2.out _ _ HR1.out).mono ?_); rintro e W2 ⟨rfl, hx⟩; have HX2 := Lib.hid hx; have ha0 := hx.keeps.cell (HA.out 0) trivial; have ha1 := hx.keeps.cell (HA.out 1) trivial; clear hx)
    | ((with_reducible refine (C3.out _ _ (HR1.out.ext HX2.out)).mono ?_); rintro e W3 ⟨rfl, hx⟩; have HX3 := Lib.hid (HX2.out.trans hx); clear hx; clear ha0 ha1; have ha0 := HX3.out.keeps.cell (HA.out 0) trivial; have ha1 := HX3.out.keeps.cell (HA.out 1) trivial)
    | ((with_reducible refine (C4.out _ _ (HR1.out.ext HX3.out)).mono ?_); rintro e W4 ⟨rfl, hx⟩; have HX4 := Lib.hid (HX3.out.trans hx); clear hx; clear ha0 ha1; have ha0 := HX4.out.keeps.cell (HA.out 0) trivial; have ha1 := HX4.out.keeps.cell (HA.out 1) trivial)
    | ((with_reducible refine (C5.out _).mono ?_); rintro e W5 ⟨rfl, hx⟩; have HX5 := Lib.hid (HX4.out.trans hx); clear hx; clear ha0 ha1; have ha0 := HX5.out.keeps.cell (HA.out 0) trivial; have ha1 := HX5.out.keeps.cell (HA.out 1) trivial)
    | ((with_reducible refine (C6.out _ _ (HR1.out.ext HX5.out)).mono ?_); rintro e W6 hp; rcases hp with ⟨_, rfl, hx⟩ | ⟨hz, _⟩; rotate_left; (exact absurd (hz.symm.trans hq6) (by decide)); rw [hq6]; have HX6 := Lib.hid ((HX5.out.trans hx).alloc (.cells #[.bool false, .slice none 0 0] 24)); clear hx; clear ha0 ha1; have ha0 := HX6.out.keeps.cell (HA.out 0) trivial; have ha1 := HX6.out.keeps.cell (HA.out 1) trivial)
    | ((with_reducible refine (C7.out _ _ (HR1.out.ext HX6.out)).mono ?_); rintro e W7 ⟨rfl, hx⟩; have HX7 := Lib.hid (HX6.out.trans hx); clear hx; clear ha0 ha1; have ha0 := HX7.out.keeps.cell (HA.out 0) trivial; have ha1 := HX7.out.keeps.cell (HA.out 1) trivial)
    | ((with_reducible refine (C8.out _ _ (HR1.out.ext HX7.out)).mono ?_); rintro e W8 hp; rcases hp with ⟨hz, _⟩ | ⟨_, v2, rfl, hr2, hx⟩; (exact absurd hq8 hz); obtain ⟨bo, bn, bc, rfl⟩ := hr2.slice; have HB := Lib.hid (cell_new W8 #[.bool true, .slice bo bn bc] 24); have HR2 := Lib.hid (hr2.ext ((Ext.refl W8).alloc (.cells #[.bool true, .slice bo bn bc] 24))); have HX8 := Lib.hid ((HX7.out.trans hx).alloc (.cells #[.bool true, .slice bo bn bc] 24)); clear hr2 hx; clear ha0 ha1; have ha0 := HX8.out.keeps.cell (HA.out 0) trivial; have ha1 := HX8.out.keeps.cell (HA.out 1) trivial; have hb0 := HB.out 0; have hb1 := HB.out 1)
    | ((with_reducible refine (C9.out _ _ (HR1.out.ext HX8.out)).mono ?_); rintro e W9 ⟨rfl, hx⟩; have HY9 := Lib.hid hx; have HX9 := Lib.hid (HX8.out.trans hx); clear hx; clear ha0 ha1 hb0 hb1; have hb0 := HY9.out.keeps.cell (HB.out 0) trivial; have hb1 := HY9.out.keeps.cell (HB.out 1) trivial)
    | ((with_reducible refine (C10.out _ _ (HR2.out.ext HY9.out)).mono ?_); rintro e W10 ⟨rfl, hx⟩; have HY10 := Lib.hid (HY9.out.trans hx); have HX10 := Lib.hid (HX9.out.trans hx); clear hx; clear hb0 hb1; have hb0 := HY10.out.keeps.cell (HB.out 0) trivial; have hb1 := HY10.out.keeps.cell (HB.out 1) trivial)
    | ((with_reducible refine (C11.out _ _ (HR2.out.ext HY10.out)).mono ?_); rintro e W11 ⟨rfl, hx⟩; have HY11 := Lib.hid (HY10.out.trans hx); have HX11 := Lib.hid (HX10.out.trans hx); clear hx; clear hb0 hb1; have hb0 := HY11.out.keeps.cell (HB.out 0) trivial; have hb1 := HY11.out.keeps.cell (HB.out 1) trivial)
    | ((with_reducible refine (C12.out _ _ (HR2.out.ext HY11.out)).mono ?_); rintro e W12 ⟨rfl, hx⟩; have HY12 := Lib.hid (HY11.out.trans hx); have HX12 := Lib.hid (HX11.out.trans hx); clear hx; clear hb0 hb1; have hb0 := HY12.out.keeps.cell (HB.out 0) trivial; have hb1 := HY12.out.keeps.cell (HB.out 1) trivial)
    | ((with_reducible refine (C13.out _ _ (HN.out W12)).mono ?_); rintro e W13 ⟨rfl, hx⟩; have HX13 := Lib.hid ((HX12.out.alloc _).trans hx); clear hx))
  go_ret
  exact ⟨rfl, HX1.out.trans HX13.out⟩
end L9
end Go.Proofs.Ytnfnjhphamadgaa
