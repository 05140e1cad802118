/- What pack's reader does: Open, fail, At, Left, Bad, Raw. Conditions: a reader that Open, or Part, made. -/
import Derived.Test.YtmmjhdkoccpdjaaBuild
import Derived.Test.YtmmjhdkoccpdjaaMath
import Derived.StillTactics
import Derived.IntWalk
namespace Go.Proofs.Ytmmjhdkoccpdjaa
open Go Go.RowKit Go.Shelf
attribute [local go_sem] Oper.semAt_some wide_fn wide_depth

/-- A reader. -/
structure Rd where
  s : ByteArray
  at_ : Nat
  bad : Bool
def Rd.left (r : Rd) : Nat := r.s.size - r.at_
def Rd.failed : Rd := ⟨⟨#[]⟩, 0, true⟩
/-- A reader that may be. -/
def Rd.ok (r : Rd) : Prop := r.at_ ≤ r.s.size ∧ r.s.size ≤ 1099511627776
/-- Block B is the reader r. -/
def RdAt (W : World) (B : Nat) (r : Rd) : Prop := W.heap[B]? = some (.cells #[.string r.s, .int .i64 (r.at_ : Int), .bool r.bad] 100 (0, 0))

theorem RdAt.cells {W : World} {B : Nat} {r : Rd} (h : RdAt W B r) :
    W.cell? ⟨B, 0, none⟩ = some (.string r.s) ∧ W.cell? ⟨B, 1, none⟩ = some (.int .i64 (r.at_ : Int)) ∧ W.cell? ⟨B, 2, none⟩ = some (.bool r.bad) ∧
      W.frozen? ⟨B, 0, none⟩ = false ∧ W.frozen? ⟨B, 1, none⟩ = false ∧ W.frozen? ⟨B, 2, none⟩ = false := by
  unfold RdAt at h
  refine ⟨?_, ?_, ?_, ?_, ?_, ?_⟩ <;> simp [World.cell?, World.frozen?, h]
theorem Keeps.rd {W W' : World} {B : Nat} {r : Rd} {K : Nat → Prop} (k : Keeps K W W') (h : RdAt W B r) (hB : K B) : RdAt W' B r := k.heap h hB

def rawR (r : Rd) (n : Int) : ByteArray × Rd :=
  if n < 0 ∨ (r.left : Int) < n then (⟨#[]⟩, Rd.failed) else (r.s.extract r.at_ (r.at_ + n.toNat), ⟨r.s, r.at_ + n.toNat, r.bad⟩)

set_option maxHeartbeats 1000000 in
theorem Open_any (s : ByteArray) (w : World) :
    Calls Try.prog 45 #[.string s] w fun e w' => e = .returned (.pointer (some ⟨w.heap.size, 0, none⟩)) ∧ RdAt w' w.heap.size ⟨s, 0, false⟩ ∧ Ext w w' := by
  go_enter Try.func45, Try.ntmps45
  go_wp2
  go_ret
  exact ⟨rfl, World.alloc_heap_new w _, (Ext.refl _).alloc _⟩

set_option maxHeartbeats 1000000 in
theorem fail_any (B : Nat) (r : Rd) (w : World) (h : RdAt w B r) :
    Calls Try.prog 93 #[.pointer (some ⟨B, 0, none⟩)] w fun e w' => (∃ v, e = .returned v) ∧ RdAt w' B Rd.failed ∧ Keeps (fun k => k ≠ B) w w' ∧ w'.heap.size = w.heap.size := by
  obtain ⟨c0, c1, c2, f0, f1, f2⟩ := h.cells
  go_enter Try.func93, Try.ntmps93
  go_wp2
  go_end0
  refine ⟨⟨_, rfl⟩, ?_, (((Keeps.refl _ _).setCell (p := ⟨B, 0, none⟩) (by simp) _).setCell (p := ⟨B, 1, none⟩) (by simp) _).setCell (p := ⟨B, 2, none⟩) (by simp) _, by simp⟩
  exact heap_setCell_same _ _ _ _ _ _ (heap_setCell_same _ _ _ _ _ _ (heap_setCell_same _ _ _ _ _ _ h))

set_option maxRecDepth 100000 in
set_option maxHeartbeats 1000000 in
theorem Left_any (B : Nat) (r : Rd) (w : World) (h : RdAt w B r) (hr : r.ok) :
    Calls Try.prog 49 #[.pointer (some ⟨B, 0, none⟩)] w fun e w' => e = .returned (.int .i64 r.left) ∧ w' = w.drew := by
  obtain ⟨c0, c1, c2, f0, f1, f2⟩ := h.cells
  obtain ⟨h1, h2⟩ := hr
  obtain ⟨s, p, bad⟩ := r
  simp only at c0 c1 c2 h1 h2
  have hmx : Try.prog.follows .mixedOrders = true := by kernel_rfl
  have s1 : IntKind.i64.wrap ((s.size : Int) - p) = (s.size : Int) - p := IntWalk.i64_in _ (by omega)
  have hl : Hid (((Rd.left ⟨s, p, bad⟩ : Nat) : Int) = (s.size : Int) - p) := Lib.hid (by show ((s.size - p : Nat) : Int) = _; omega)
  clear h
  go_enter Try.func49, Try.ntmps49
  go_wp2_with fail
  go_still hmx
  change Exit.then _ _ Exit.normal _ w.drew
  go_wp2
  go_ret
  exact ⟨by rw [hl.out]; rfl, rfl⟩

set_option maxHeartbeats 1000000 in
theorem At_any (B : Nat) (r : Rd) (w : World) (h : RdAt w B r) :
    Calls Try.prog 51 #[.pointer (some ⟨B, 0, none⟩)] w fun e w' => e = .returned (.int .i64 r.at_) ∧ w = w' := by
  obtain ⟨c0, c1, c2, f0, f1, f2⟩ := h.cells
  go_enter Try.func51, Try.ntmps51
  go_wp2
  go_ret
  exact ⟨rfl, rfl⟩

set_option maxHeartbeats 1000000 in
theorem Bad_any (B : Nat) (r : Rd) (w : World) (h : RdAt w B r) :
    Calls Try.prog 48 #[.pointer (some ⟨B, 0, none⟩)] w fun e w' => e = .returned (.bool r.bad) ∧ w = w' := by
  obtain ⟨c0, c1, c2, f0, f1, f2⟩ := h.cells
  go_enter Try.func48, Try.ntmps48
  go_wp2
  go_ret
  exact ⟨rfl, rfl⟩

set_option maxRecDepth 100000 in
set_option maxHeartbeats 1000000 in
theorem Raw_any (B : Nat) (r : Rd) (n : Int) (w : World) (h : RdAt w B r) (hr : r.ok) (hn : -9223372036854775808 ≤ n ∧ n ≤ 9223372036854775807) :
    Calls Try.prog 46 #[.pointer (some ⟨B, 0, none⟩), .int .i64 n] w fun e w' => e = .returned (.string (rawR r n).1) ∧ RdAt w' B (rawR r n).2 ∧ Keeps (fun k => k ≠ B) w w' ∧ w'.heap.size = w.heap.size := by
  have CL := Lib.hid (Left_any B r w h hr)
  have CF := Lib.hid fun W h => fail_any B r W h
  obtain ⟨c0, c1, c2, f0, f1, f2⟩ := h.cells
  have H := Lib.hid h; clear h
  obtain ⟨h1, h2⟩ := hr
  obtain ⟨s, p, bad⟩ := r
  simp only at c0 c1 c2 h1 h2
  have hl : (((Rd.left ⟨s, p, bad⟩ : Nat) : Int) = (s.size : Int) - p) := by show ((s.size - p : Nat) : Int) = _; omega
  have hR : rawR ⟨s, p, bad⟩ n = if n < 0 ∨ (s.size : Int) - p < n then (⟨#[]⟩, Rd.failed) else (s.extract p (p + n.toNat), ⟨s, p + n.toNat, bad⟩) := by rw [rawR, hl]
  rw [hl] at CL
  have HR := Lib.hid hR; clear hR hl
  by_cases hn0 : n < 0
  · have HR2 : Hid (rawR ⟨s, p, bad⟩ n = (⟨#[]⟩, Rd.failed)) := Lib.hid (by rw [HR.out, if_pos (.inl hn0)])
    go_enter Try.func46, Try.ntmps46
    go_wp2_with fail
    refine (CF.out _ H.out).mono ?_
    rintro e w1 ⟨⟨v, rfl⟩, hr1, hk1, hz1⟩
    have HP : Hid (_ ∧ _ ∧ _) := Lib.hid ⟨hr1, hk1, hz1⟩
    clear hr1 hk1 hz1 c0 c1 c2 f0 f1 f2
    go_wp2
    go_ret
    exact ⟨by rw [HR2.out]; rfl, by rw [HR2.out]; exact HP.out.1, HP.out.2.1, HP.out.2.2⟩
  · by_cases hn1 : (s.size : Int) - p < n
    · have hn0' : decide (n < 0) = false := by simp; omega
      have HR2 : Hid (rawR ⟨s, p, bad⟩ n = (⟨#[]⟩, Rd.failed)) := Lib.hid (by rw [HR.out, if_pos (.inr hn1)])
      go_enter Try.func46, Try.ntmps46
      go_wp2_with fail
      refine CL.out.mono ?_
      rintro e w0 ⟨rfl, rfl⟩
      go_wp2_with fail
      refine (CF.out w.drew H.out).mono ?_
      rintro e w1 ⟨⟨v, rfl⟩, hr1, hk1, hz1⟩
      have HP : Hid (_ ∧ _ ∧ _) := Lib.hid ⟨hr1, (Keeps.refl _ w).drew.trans hk1, hz1⟩
      clear hr1 hk1 hz1 c0 c1 c2 f0 f1 f2
      go_wp2
      go_ret
      exact ⟨by rw [HR2.out]; rfl, by rw [HR2.out]; exact HP.out.1, HP.out.2.1, HP.out.2.2⟩
    · have HR2 : Hid (rawR ⟨s, p, bad⟩ n = (s.extract p (p + n.toNat), ⟨s, p + n.toNat, bad⟩)) := Lib.hid (by rw [HR.out, if_neg (by omega)])
      obtain ⟨m, rfl⟩ : ∃ m : Nat, n = m := ⟨n.toNat, by omega⟩
      rw [Int.toNat_natCast] at HR2
      have hn0' : decide ((m : Int) < 0) = false := by simp
      have hn1' : decide ((s.size : Int) - p < (m : Int)) = false := by simp; omega
      have hmx : Try.prog.follows .mixedOrders = true := by kernel_rfl
      go_enter Try.func46, Try.ntmps46
      go_wp2_with fail
      refine CL.out.mono ?_
      rintro e w0 ⟨rfl, rfl⟩
      go_wp2_with fail
      have hR2 : RdAt (w.setCell ⟨B, 1, none⟩ (.int .i64 ((p : Int) + m))).drew B ⟨s, p + m, bad⟩ := by
        have := heap_setCell_same w B 1 _ _ (.int .i64 ((p : Int) + m)) H.out
        unfold RdAt
        rw [Int.natCast_add]
        exact this
      have hk : Keeps (fun k => k ≠ B) w (w.setCell ⟨B, 1, none⟩ (.int .i64 ((p : Int) + m))).drew := ((Keeps.refl _ _).setCell (p := ⟨B, 1, none⟩) (by simp) _).drew
      have hz : (w.setCell ⟨B, 1, none⟩ (.int .i64 ((p : Int) + m))).drew.heap.size = w.heap.size := by simp
      generalize (w.setCell ⟨B, 1, none⟩ (.int .i64 ((p : Int) + m))).drew = W2 at hR2 hk hz ⊢
      clear c0 c1 c2 f0 f1 f2 CL CF
      obtain ⟨c0, c1, c2, _, _, _⟩ := hR2.cells
      simp only [Int.natCast_add] at c0 c1 c2
      have HP : Hid (_ ∧ _ ∧ _) := Lib.hid ⟨hR2, hk, hz⟩
      clear hR2 hk hz
      have s1 : IntKind.i64.wrap (p : Int) = (p : Int) := IntWalk.i64_in _ (by omega)
      have s2 : (0 : Int) ≤ (p : Int) := by omega
      have s3 : (p : Int) ≤ (p : Int) + m := by omega
      have s4 : (p : Int) + m ≤ s.size := by omega
      have s5 : ((p : Int) + m).toNat = p + m := by omega
      go_still hmx
      change Exit.then _ _ Exit.normal _ W2.drew
      clear s1 s2 s3 s4 s5 c0 c1 c2
      go_wp2
      go_ret
      exact ⟨by rw [HR2.out]; rfl, by rw [HR2.out]; exact HP.out.1, HP.out.2.1.drew, HP.out.2.2⟩

end Go.Proofs.Ytmmjhdkoccpdjaa
