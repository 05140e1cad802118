/- What the first question of layer 9's statements (lives) answers: true; what Small tells. Conditions: none. -/
import Derived.Test.YtjnaknfnoibncaaHashE
namespace Go.Proofs.Ytjnaknfnoibncaa
open Go Go.RowKit Go.Shelf
attribute [local go_sem] Oper.semAt_some wide_fn wide_depth

set_option maxHeartbeats 1000000 in
theorem Small9_any (ao : Option Addr) (n ac : Nat) (o : Bool) (w : World) :
    Calls Try.prog 10 #[.agg #[.bool o, .slice ao n ac]] w fun e w' => e = .returned (.int .i64 (if 60 < n then 0 else 1)) ∧ Ext w w' := by
  by_cases h : 60 < n
  · rw [if_pos h]
    have h2 : (60 : Int) < n := by omega
    go_enter Try.func10, Try.ntmps10
    go_wp2
    go_ret
    exact ⟨rfl, (Ext.refl w).alloc _⟩
  · rw [if_neg h]
    have h2 : (n : Int) ≤ 60 := by omega
    go_enter Try.func10, Try.ntmps10
    go_wp2
    go_ret
    exact ⟨rfl, (Ext.refl w).alloc _⟩

theorem srow_new (w : World) (x : SumC) (t : TypeId) : SRow (w.alloc (.cells x.cells t)) (.slice (some ⟨w.heap.size, 0, none⟩) 1 1) 3 ([x].map SumC.cells) := by
  refine ⟨some ⟨w.heap.size, 0, none⟩, 1, rfl, Nat.le_refl _, by unfold maxLen; decide, fun k c hk => ?_⟩
  have hk0 : k = 0 := by
    have := (List.getElem?_eq_some_iff.1 hk).1
    simp at this
    exact this
  subst hk0
  simp at hk
  subst hk
  refine ⟨w.heap.size, 0, rfl, rfl, fun i u hu => ?_⟩
  rw [show 0 + 0 * 3 + i = i by omega, cell_new]
  exact hu

namespace L9
def kk : ByteArray := ⟨#[48, 49, 50, 51, 52, 53, 54, 55, 56, 57, 97, 98, 99, 100, 101, 102]⟩
def ta : ByteArray := ⟨#[97]⟩
def tb : ByteArray := ⟨#[98]⟩
def t0 : ByteArray := ⟨#[]⟩
def l1 : List SumC := [⟨kk, ta, 7⟩]
def l2 : List SumC := [⟨kk, ta, 7⟩, ⟨kk, tb, 7⟩]
theorem e1 : putE [] kk ta = 0 := by decide +kernel
theorem e2 : hashV true l1 kk ta = 7 ∧ sumE kk ta = 0 := by decide +kernel
theorem e3 : hashV true l1 kk tb = 0 ∧ sumE kk tb = 0 := by decide +kernel
theorem e4 : hashV false l1 kk ta = sumV kk ta := rfl
theorem e6 : putE l1 kk ta = 4 := by decide +kernel
theorem e7 : hashV true l1 t0 ta = 0 ∧ sumE t0 ta = 2 := by decide +kernel
theorem e8 : putE l1 kk tb = 0 := by decide +kernel
theorem e9 : apartB l1 = true := by decide +kernel
theorem e10 : apartB l2 = false := by decide +kernel
theorem e11 : decide (0 ≤ findI kk tb l2) = true := by decide +kernel
theorem e12 : checkE l2 = 0 := by decide +kernel
theorem e13 : checkE [⟨t0, t0, 0⟩] = 2 := by decide +kernel
theorem f1 : ∀ x ∈ l1, x.fit := by intro x hx; simp [l1] at hx; subst hx; exact ⟨by decide +kernel, by decide +kernel, by decide⟩
theorem f2 : ∀ x ∈ l2, x.fit := by intro x hx; simp [l2] at hx; rcases hx with rfl | rfl <;> exact ⟨by decide +kernel, by decide +kernel, by decide⟩
theorem f3 : ∀ x ∈ [(⟨t0, t0, 0⟩ : SumC)], x.k.size ≤ maxLen ∧ x.s.size ≤ maxLen := by intro x hx; simp at hx; subst hx; exact ⟨by decide +kernel, by decide +kernel⟩

end L9
end Go.Proofs.Ytjnaknfnoibncaa
