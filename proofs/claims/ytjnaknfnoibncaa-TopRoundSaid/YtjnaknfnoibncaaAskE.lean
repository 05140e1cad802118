/- What the first question of layer 11's statements (lives) answers: true. Conditions: none. -/
import Derived.Test.YtjnaknfnoibncaaAskB
import Derived.Test.YtjnaknfnoibncaaAskD
import Derived.Test.YtjnaknfnoibncaaOptD
namespace Go.Proofs.Ytjnaknfnoibncaa
open Go Go.RowKit Go.Shelf
attribute [local go_sem] Oper.semAt_some wide_fn wide_depth

theorem With_ok (e : EdC) (l : List OptC) (v : Value) (cl sv : ByteArray) (w : World) (hr : SRow w v 2 (l.map OptC.cells)) (hl : l.length < 2147483648) (h : areC cl sv = true) :
    Calls Try.prog 18 #[.agg (e.cells v), .string cl, .string sv] w fun en w' => ∃ ao n c, en = .returned (.tuple #[.agg (({ e with there := true } : EdC).cells (.slice ao n c)), .int .i64 0]) ∧ SRow w' (.slice ao n c) 2 ((keepO 10 l ++ [(⟨10, cl ++ sv⟩ : OptC)]).map OptC.cells) ∧ Ext w w' := by
  refine (With_any e l v cl sv w hr hl).mono ?_
  rintro en w' (⟨h0, _⟩ | ⟨_, v', rfl, hr2, hx⟩)
  · rw [h] at h0; cases h0
  · obtain ⟨ao, n, c, rfl⟩ := hr2.slice
    exact ⟨ao, n, c, rfl, hr2, hx⟩
theorem With_zero (cl sv : ByteArray) (w : World) (h : areC cl sv = true) :
    Calls Try.prog 18 #[.agg #[.bool false, .int .u16 0, .int .u8 0, .int .u8 0, .int .u16 0, .slice none 0 0], .string cl, .string sv] w fun en w' => ∃ ao n c, en = .returned (.tuple #[.agg #[.bool true, .int .u16 0, .int .u8 0, .int .u8 0, .int .u16 0, .slice ao n c], .int .i64 0]) ∧ SRow w' (.slice ao n c) 2 ([(⟨10, cl ++ sv⟩ : OptC)].map OptC.cells) ∧ Ext w w' :=
  With_ok EdC.zero [] (.slice none 0 0) cl sv w (SRow.nil w 2) (by decide) h
/-- The cells of an OPT record's block. -/
theorem cells_six {w : World} {b : Nat} {x0 x1 x2 x3 x4 x5 : Value} {t : TypeId} (h : w.heap[b]? = some (.cells #[x0, x1, x2, x3, x4, x5] t (0, 0))) :
    w.cell? ⟨b, 0, none⟩ = some x0 ∧ w.cell? ⟨b, 1, none⟩ = some x1 ∧ w.cell? ⟨b, 2, none⟩ = some x2 ∧ w.cell? ⟨b, 3, none⟩ = some x3 ∧ w.cell? ⟨b, 4, none⟩ = some x4 ∧ w.cell? ⟨b, 5, none⟩ = some x5 := by
  exact ⟨by simp [World.cell?, h], by simp [World.cell?, h], by simp [World.cell?, h], by simp [World.cell?, h], by simp [World.cell?, h], by simp [World.cell?, h]⟩

namespace L11
def kk : ByteArray := ⟨#[48, 49, 50, 51, 52, 53, 54, 55, 56, 57, 97, 98, 99, 100, 101, 102]⟩
def ta : ByteArray := ⟨#[97, 115, 107, 1, 2, 3, 4]⟩
def l1 : List SumC := [⟨kk, ta, 65⟩]
def cc : ByteArray := ⟨#[65, 0, 0, 0, 0, 0, 0, 0]⟩
def sv : ByteArray := ⟨#[115, 101, 114, 118, 101, 114, 120, 120]⟩
def x8 : ByteArray := ⟨#[49, 50, 51, 52, 53, 54, 55, 56]⟩
def o1 : List OptC := [⟨10, cc ++ sv⟩]
theorem e1 : putE [] kk ta = 0 := by decide +kernel
theorem e2 : cliV true l1 kk (askT 16909060) = (cc, 0) := by decide +kernel
theorem e3 : areC cc sv = true := by decide +kernel
theorem e4 : acceptV cc true o1 = (sv, 0) := by decide +kernel
theorem e5 : acceptV x8 false o1 = (⟨#[]⟩, 6) := by decide +kernel
theorem e6 : acceptV cc true [] = (⟨#[]⟩, 3) := by decide +kernel
theorem e7 : acceptV cc false [] = (⟨#[]⟩, 0) := by decide +kernel
theorem f1 : ∀ x ∈ o1, x.d.size ≤ maxLen := by intro x hx; simp [o1] at hx; subst hx; decide +kernel

set_option maxRecDepth 100000 in
set_option maxHeartbeats 4000000 in
theorem lives_any (w : World) : Calls Try.prog 11 #[] w fun e w' => e = .returned (.bool true) ∧ Ext w w' := by
  have C1 := Lib.hid fun W => HPut_any [] (.slice none 0 0) false kk ta 65 W (SRow.nil W 3)
  have C2 := Lib.hid fun v W h => AClient_any l1 v true kk 16909060 W h (by decide)
  have C3 := Lib.hid fun W => With_zero cc sv W e3
  have C4 := Lib.hid fun v W h => Accept_any ⟨true, 0, 0, 0, 0⟩ o1 v cc true W h f1
  have C5 := Lib.hid fun v W h => Accept_any ⟨true, 0, 0, 0, 0⟩ o1 v x8 false W h f1
  have C6 := Lib.hid fun W => Accept_any EdC.zero [] (.slice none 0 0) cc true W (SRow.nil W 2) (by simp)
  have C7 := Lib.hid fun W => Accept_any EdC.zero [] (.slice none 0 0) cc false W (SRow.nil W 2) (by simp)
  rw [e2] at C2
  rw [e4] at C4
  rw [e5] at C5
  rw [e6] at C6
  rw [e7] at C7
  unfold EdC.zero at C6 C7
  unfold EdC.cells at C4 C5 C6 C7
  simp only at C2 C4 C5 C6 C7
  rw [show (((0 : Nat)) : Int) = 0 from rfl] at C4 C5 C6 C7
  rw [show (((65 : Nat)) : Int) = 65 from rfl] at C1
  rw [show (((16909060 : Nat)) : Int) = 16909060 from rfl] at C2
  have hq1 := e1
  unfold kk ta cc sv x8 at *
  go_enter Try.func11, Try.ntmps11
  go_wp2_with (first
    | ((with_reducible refine (C1.out _).mono ?_); rintro e W1 hp; rcases hp with ⟨hz, _⟩ | ⟨_, v1, rfl, hr1, hx1⟩; (exact absurd hq1 hz); obtain ⟨ao, an, ac, rfl⟩ := hr1.slice; have HR1 := Lib.hid (hr1.ext ((Ext.refl W1).alloc (.cells #[.bool true, .slice ao an ac] 24))); have HX1 := Lib.hid (hx1.alloc (.cells #[.bool true, .slice ao an ac] 24)); clear hr1 hx1)
    | ((with_reducible refine (C2.out _ _ HR1.out).mono ?_); rintro e W2 ⟨rfl, hx⟩; have HX2 := Lib.hid (HX1.out.trans hx); clear hx)
    | ((with_reducible refine (C3.out _).mono ?_); rintro e W3 ⟨bo, bn, bc, rfl, hr, hx⟩; have HR3 := Lib.hid (hr.ext ((Ext.refl W3).alloc (.cells #[.bool true, .int .u16 0, .int .u8 0, .int .u8 0, .int .u16 0, .slice bo bn bc] 29))); have HX3 := Lib.hid ((HX2.out.trans hx).alloc (.cells #[.bool true, .int .u16 0, .int .u8 0, .int .u8 0, .int .u16 0, .slice bo bn bc] 29)); have HB := Lib.hid (World.alloc_heap_new W3 (.cells #[.bool true, .int .u16 0, .int .u8 0, .int .u8 0, .int .u16 0, .slice bo bn bc] 29)); clear hr hx)
    | ((with_reducible refine (C4.out _ _ HR3.out).mono ?_); rintro e W4 ⟨rfl, hx⟩; have HY4 := Lib.hid hx; have HX4 := Lib.hid (HX3.out.trans hx); obtain ⟨b0, b1, b2, b3, b4, b5⟩ := cells_six (hx.keeps.heap HB.out trivial); clear hx)
    | ((with_reducible refine (C5.out _ _ (HR3.out.ext HY4.out)).mono ?_); rintro e W5 ⟨rfl, hx⟩; clear b0 b1 b2 b3 b4 b5; have HX5 := Lib.hid (HX4.out.trans hx); clear hx)
    | ((with_reducible refine (C6.out _).mono ?_); rintro e W6 ⟨rfl, hx⟩; have HX6 := Lib.hid (HX5.out.trans hx); clear hx)
    | ((with_reducible refine (C7.out _).mono ?_); rintro e W7 ⟨rfl, hx⟩; have HX7 := Lib.hid (HX6.out.trans hx); clear hx))
  go_ret
  exact ⟨rfl, HX7.out⟩
end L11
end Go.Proofs.Ytjnaknfnoibncaa
