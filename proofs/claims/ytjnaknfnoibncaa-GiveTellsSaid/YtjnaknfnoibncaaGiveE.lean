/- What the first question of layer 12's statements (lives) answers: true. Conditions: none. -/
import Derived.Test.YtjnaknfnoibncaaGiveB
import Derived.Test.YtjnaknfnoibncaaGiveD
import Derived.Test.YtjnaknfnoibncaaKeyRefC
namespace Go.Proofs.Ytjnaknfnoibncaa
open Go Go.RowKit Go.Shelf
attribute [local go_sem] Oper.semAt_some wide_fn wide_depth

theorem eqT (k s : ByteArray) (w : World) : (binOp .eql 50 (.agg #[.string k, .string s]) (.agg #[.string k, .string s])).run Try.prog w = .ok (.bool true) w := by
  have u1 := Try.underlying9
  have a1 := Try.isAgg9
  have z1 := Try.sizeOf9
  have hS : Try.prog.underlying 50 = some (.struct (Try.prog.fieldsOf 50)) := by kernel_rfl
  have hp : Try.prog.stoodInHeld 50 = false := by kernel_rfl
  rw [run_eql_struct, show (10000 : Nat) = 9999 + 1 from rfl, run_equalIn_agg w 9999 50 _ _ hS hp]
  simp only [Program.fieldsOf, Try.underlying50]
  go_simp

namespace L12
def kk : ByteArray := ⟨#[48, 49, 50, 51, 52, 53, 54, 55, 56, 57, 97, 98, 99, 100, 101, 102]⟩
def kn : ByteArray := ⟨#[48, 49, 50, 51, 52, 53, 54, 55, 56, 57, 97, 98, 99, 100, 101, 103]⟩
def cl : ByteArray := ⟨#[99, 108, 105, 101, 110, 116, 120, 120]⟩
def ta : ByteArray := ⟨#[103, 105, 118, 101, 99, 108, 105, 101, 110, 116, 120, 120, 1, 0, 0, 0, 0, 0, 0, 100, 1, 2, 3, 4]⟩
def l1 : List SumC := [⟨kk, ta, 7⟩]
def cc : ByteArray := ⟨#[1, 0, 0, 0, 0, 0, 0, 100, 7, 0, 0, 0, 0, 0, 0, 0]⟩
def e0 : ByteArray := ⟨#[]⟩
def ab : ByteArray := ⟨#[97, 98, 99]⟩
theorem e1 : putE [] kk ta = 0 := by decide +kernel
theorem e2 : makeV true l1 kk cl 16909060 100 = (cc, 0) := by decide +kernel
theorem e3 : rollV kk kn = (kn, kk, 0) := by decide +kernel
theorem e4 : verV true l1 kk e0 cl cc 16909060 100 = (false, 0) := by decide +kernel
theorem e5 : verV true l1 kn kk cl cc 16909060 200 = (true, 0) := by decide +kernel
theorem e6 : verV true l1 kn kk cl cc 16909061 200 = (false, 6) := by decide +kernel
theorem e7 : verV true l1 kn kk cl cc 16909060 3701 = (false, 10) := by decide +kernel
theorem e8 : verV true l1 kn kk cl e0 16909060 100 = (false, 3) := by decide +kernel
theorem e9 : verV true l1 kn kk cl ab 16909060 100 = (false, 2) := by decide +kernel

set_option maxRecDepth 100000 in
set_option maxHeartbeats 4000000 in
theorem lives_any (w : World) : Calls Try.prog 23 #[] w fun e w' => e = .returned (.bool true) ∧ Ext w w' := by
  have C1 := Lib.hid fun W => HPut_any [] (.slice none 0 0) false kk ta 7 W (SRow.nil W 3)
  have C2 := Lib.hid fun v W h => Make_any l1 v true kk cl 16909060 100 W h (by decide)
  have C3 := Lib.hid fun W => Roll_any kk e0 kn W
  have C4 := Lib.hid fun v W h => Verify_any l1 v true kk e0 cl cc 16909060 100 W h (by decide)
  have C5 := Lib.hid fun v W h => Verify_any l1 v true kn kk cl cc 16909060 200 W h (by decide)
  have C6 := Lib.hid fun v W h => Verify_any l1 v true kn kk cl cc 16909061 200 W h (by decide)
  have C7 := Lib.hid fun v W h => Verify_any l1 v true kn kk cl cc 16909060 3701 W h (by decide)
  have C8 := Lib.hid fun v W h => Verify_any l1 v true kn kk cl e0 16909060 100 W h (by decide)
  have C9 := Lib.hid fun v W h => Verify_any l1 v true kn kk cl ab 16909060 100 W h (by decide)
  rw [e2] at C2
  rw [e3] at C3
  rw [e4] at C4
  rw [e5] at C5
  rw [e6] at C6
  rw [e7] at C7
  rw [e8] at C8
  rw [e9] at C9
  simp only at C2 C3 C4 C5 C6 C7 C8 C9
  rw [show (((7 : Nat)) : Int) = 7 from rfl] at C1
  rw [show (((16909060 : Nat)) : Int) = 16909060 from rfl] at C2 C4 C5 C7 C8 C9
  rw [show (((16909061 : Nat)) : Int) = 16909061 from rfl] at C6
  have hq1 := e1
  have HE := eqT kn kk
  unfold kk kn cl ta cc e0 ab at *
  go_enter Try.func23, Try.ntmps23
  go_wp2_with (first
    | ((with_reducible refine (C1.out _).mono ?_); rintro e W1 hp; rcases hp with ⟨hz, _⟩ | ⟨_, v1, rfl, hr1, hx1⟩; (exact absurd hq1 hz); obtain ⟨ao, an, ac, rfl⟩ := hr1.slice; have HA := Lib.hid (World.alloc_heap_new W1 (.cells #[.bool true, .slice ao an ac] 24)); have HR1 := Lib.hid (hr1.ext ((Ext.refl W1).alloc (.cells #[.bool true, .slice ao an ac] 24))); have HX1 := Lib.hid (hx1.alloc (.cells #[.bool true, .slice ao an ac] 24)); clear hr1 hx1)
    | ((with_reducible refine (C2.out _ _ HR1.out).mono ?_); rintro e W2 ⟨rfl, hx⟩; have HY2 := Lib.hid hx; clear hx)
    | ((with_reducible refine (C3.out _).mono ?_); rintro e W3 ⟨rfl, hx⟩; have HB := Lib.hid (World.alloc_heap_new W3 (.cells #[.string ⟨#[48, 49, 50, 51, 52, 53, 54, 55, 56, 57, 97, 98, 99, 100, 101, 103]⟩, .string ⟨#[48, 49, 50, 51, 52, 53, 54, 55, 56, 57, 97, 98, 99, 100, 101, 102]⟩] 50)); have HY3 := Lib.hid ((HY2.out.trans hx).alloc (.cells #[.string ⟨#[48, 49, 50, 51, 52, 53, 54, 55, 56, 57, 97, 98, 99, 100, 101, 103]⟩, .string ⟨#[48, 49, 50, 51, 52, 53, 54, 55, 56, 57, 97, 98, 99, 100, 101, 102]⟩] 50)); obtain ⟨a0, a1, _, _⟩ := cells_of (HY3.out.keeps.heap HA.out trivial); clear hx)
    | ((with_reducible refine (C4.out _ _ (HR1.out.ext HY3.out)).mono ?_); rintro e W4 ⟨rfl, hx⟩; clear a0 a1; have HZ4 := Lib.hid hx; have HY4 := Lib.hid (HY3.out.trans hx); obtain ⟨a0, a1, _, _⟩ := cells_of (HY4.out.keeps.heap HA.out trivial); obtain ⟨b0, b1, _, _⟩ := cells_of (HZ4.out.keeps.heap HB.out trivial); clear hx)
    | ((with_reducible refine (C5.out _ _ (HR1.out.ext HY4.out)).mono ?_); rintro e W5 ⟨rfl, hx⟩; clear a0 a1 b0 b1; have HZ5 := Lib.hid (HZ4.out.trans hx); have HY5 := Lib.hid (HY4.out.trans hx); obtain ⟨a0, a1, _, _⟩ := cells_of (HY5.out.keeps.heap HA.out trivial); obtain ⟨b0, b1, _, _⟩ := cells_of (HZ5.out.keeps.heap HB.out trivial); clear hx)
    | ((with_reducible refine (C6.out _ _ (HR1.out.ext HY5.out)).mono ?_); rintro e W6 ⟨rfl, hx⟩; clear a0 a1 b0 b1; have HZ6 := Lib.hid (HZ5.out.trans hx); have HY6 := Lib.hid (HY5.out.trans hx); obtain ⟨a0, a1, _, _⟩ := cells_of (HY6.out.keeps.heap HA.out trivial); obtain ⟨b0, b1, _, _⟩ := cells_of (HZ6.out.keeps.heap HB.out trivial); clear hx)
    | ((with_reducible refine (C7.out _ _ (HR1.out.ext HY6.out)).mono ?_); rintro e W7 ⟨rfl, hx⟩; clear a0 a1 b0 b1; have HZ7 := Lib.hid (HZ6.out.trans hx); have HY7 := Lib.hid (HY6.out.trans hx); obtain ⟨a0, a1, _, _⟩ := cells_of (HY7.out.keeps.heap HA.out trivial); obtain ⟨b0, b1, _, _⟩ := cells_of (HZ7.out.keeps.heap HB.out trivial); clear hx)
    | ((with_reducible refine (C8.out _ _ (HR1.out.ext HY7.out)).mono ?_); rintro e W8 ⟨rfl, hx⟩; clear a0 a1 b0 b1; have HZ8 := Lib.hid (HZ7.out.trans hx); have HY8 := Lib.hid (HY7.out.trans hx); obtain ⟨a0, a1, _, _⟩ := cells_of (HY8.out.keeps.heap HA.out trivial); obtain ⟨b0, b1, _, _⟩ := cells_of (HZ8.out.keeps.heap HB.out trivial); clear hx)
    | ((with_reducible refine (C9.out _ _ (HR1.out.ext HY8.out)).mono ?_); rintro e W9 ⟨rfl, hx⟩; clear a0 a1 b0 b1; have HZ9 := Lib.hid (HZ8.out.trans hx); have HY9 := Lib.hid (HY8.out.trans hx); obtain ⟨b0, b1, _, _⟩ := cells_of (HZ9.out.keeps.heap HB.out trivial); clear hx))
  go_ret
  exact ⟨rfl, HX1.out.trans HY9.out⟩
end L12
end Go.Proofs.Ytjnaknfnoibncaa
