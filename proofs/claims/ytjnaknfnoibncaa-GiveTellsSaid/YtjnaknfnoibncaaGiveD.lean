/- How secrets roll over: give's Roll, and the document's. Conditions: none. -/
import Derived.Test.YtjnaknfnoibncaaAskD
import Derived.Test.YtjnaknfnoibncaaOptC
namespace Go.Proofs.Ytjnaknfnoibncaa
open Go Go.RowKit Go.Shelf
attribute [local go_sem] Oper.semAt_some wide_fn wide_depth

def rollV (sn next : ByteArray) : ByteArray × ByteArray × Int := if next.size = 16 then (next, sn, 0) else (⟨#[]⟩, ⟨#[]⟩, 2)

set_option maxRecDepth 100000 in
set_option maxHeartbeats 2000000 in
theorem Roll_any (sn sw next : ByteArray) (w : World) :
    Calls Try.prog 28 #[.agg #[.string sn, .string sw], .string next] w fun e w' => e = .returned (.tuple #[.agg #[.string (rollV sn next).1, .string (rollV sn next).2.1], .int .i64 (rollV sn next).2.2]) ∧ Ext w w' := by
  have HB : Hid (∀ c : Array Value, ((w.alloc (.cells #[.string sn, .string sw] 50)).alloc (.cells c 50)).heap[w.heap.size + 1]? = some (.cells c 50 (0, 0))) := Lib.hid fun c => by
    have h := World.alloc_heap_new (w.alloc (.cells #[.string sn, .string sw] 50)) (.cells c 50)
    rw [World.size_alloc] at h
    exact h
  unfold rollV
  by_cases h : next.size = 16
  · rw [if_pos h]
    have hi : (next.size : Int) = 16 := by omega
    clear h
    go_enter Try.func28, Try.ntmps28
    go_wp2_with fail
    refine bodyPost_ret (v := .tuple #[.agg #[.string next, .string sn], .int .i64 0]) ?_ rfl ⟨rfl, ((Ext.refl w).alloc _).alloc _⟩
    exact results_row2 (P := Try.prog) (fn := Try.f28) (p := 4) (q := 5) (ty := 50) rfl _ _ (w.heap.size + 1) _ #[.string next, .string sn] _ _ _ rfl rfl (HB.out _) Try.underlying50 rfl (by kernel_rfl)
  · rw [if_neg h]
    have hi : ((next.size : Int) != 16) = true := by simp only [bne_iff_ne, ne_eq]; omega
    clear h
    go_enter Try.func28, Try.ntmps28
    go_wp2_with fail
    refine bodyPost_ret (v := .tuple #[.agg #[.string ⟨#[]⟩, .string ⟨#[]⟩], .int .i64 2]) ?_ rfl ⟨rfl, ((Ext.refl w).alloc _).alloc _⟩
    exact results_row2 (P := Try.prog) (fn := Try.f28) (p := 4) (q := 5) (ty := 50) rfl _ _ (w.heap.size + 1) _ #[.string ⟨#[]⟩, .string ⟨#[]⟩] _ _ _ rfl rfl (HB.out _) Try.underlying50 rfl (by kernel_rfl)

set_option maxRecDepth 100000 in
set_option maxHeartbeats 2000000 in
theorem RRoll_any (sn sw next : ByteArray) (w : World) :
    Calls Try.prog 29 #[.agg #[.string sn, .string sw], .string next] w fun e w' => e = .returned (.tuple #[.agg #[.string (rollV sn next).1, .string (rollV sn next).2.1], .int .i64 (rollV sn next).2.2]) ∧ Ext w w' := by
  have HB : Hid (∀ c : Array Value, ((w.alloc (.cells #[.string sn, .string sw] 50)).alloc (.cells c 50)).heap[w.heap.size + 1]? = some (.cells c 50 (0, 0))) := Lib.hid fun c => by
    have h := World.alloc_heap_new (w.alloc (.cells #[.string sn, .string sw] 50)) (.cells c 50)
    rw [World.size_alloc] at h
    exact h
  unfold rollV
  by_cases h : next.size = 16
  · rw [if_pos h]
    have hi : (next.size : Int) = 16 := by omega
    clear h
    go_enter Try.func29, Try.ntmps29
    go_wp2_with fail
    refine bodyPost_ret (v := .tuple #[.agg #[.string next, .string sn], .int .i64 0]) ?_ rfl ⟨rfl, ((Ext.refl w).alloc _).alloc _⟩
    exact results_row2 (P := Try.prog) (fn := Try.f29) (p := 4) (q := 5) (ty := 50) rfl _ _ (w.heap.size + 1) _ #[.string next, .string sn] _ _ _ rfl rfl (HB.out _) Try.underlying50 rfl (by kernel_rfl)
  · rw [if_neg h]
    have hi : ((next.size : Int) != 16) = true := by simp only [bne_iff_ne, ne_eq]; omega
    clear h
    go_enter Try.func29, Try.ntmps29
    go_wp2_with fail
    refine bodyPost_ret (v := .tuple #[.agg #[.string ⟨#[]⟩, .string ⟨#[]⟩], .int .i64 2]) ?_ rfl ⟨rfl, ((Ext.refl w).alloc _).alloc _⟩
    exact results_row2 (P := Try.prog) (fn := Try.f29) (p := 4) (q := 5) (ty := 50) rfl _ _ (w.heap.size + 1) _ #[.string ⟨#[]⟩, .string ⟨#[]⟩] _ _ _ rfl rfl (HB.out _) Try.underlying50 rfl (by kernel_rfl)
end Go.Proofs.Ytjnaknfnoibncaa
