/- Several texts in one (PackA PackB PackC PackD PackE PackF PackG PackH PackI). Conditions: each says its own. -/
import Derived.Test.YteoelhhkdfmaiaaLabM
import Derived.Test.YteoelhhkdfmaiaaMathM
import Derived.StillTactics
import Derived.IntWalk
import Derived.Test.YteoelhhkdfmaiaaBaseM
import Derived.Laws.BitsAllLaws
import Derived.WalkMore
import Derived.StillTail
import Derived.Lib.BufferWrite
import Derived.Maps.Own
import Derived.Maps.OwnSet
import Derived.Maps.Views
import Derived.StringKeys

/- What pack's reader does: Open, fail, At, Left, Bad, Raw. Conditions: a reader that Open, or Part, made. -/
namespace Go.Proofs.Yteoelhhkdfmaiaa
open Go Go.RowKit Go.Shelf
attribute [local go_sem] Oper.semAt_some wide_fn wide_depth

/-- A reader. -/
structure Rd where
  s : ByteArray
  at_ : Nat
  bad : Bool
def Rd.left (r : Rd) : Nat := r.s.size - r.at_
def Rd.failed : Rd := ⟨⟨#[]⟩, 0, true⟩
/-- A reader that may be. -/
def Rd.ok (r : Rd) : Prop := r.at_ ≤ r.s.size ∧ r.s.size ≤ 1099511627776
/-- Block B is the reader r. -/
def RdAt (W : World) (B : Nat) (r : Rd) : Prop := W.heap[B]? = some (.cells #[.string r.s, .int .i64 (r.at_ : Int), .bool r.bad] 99 (0, 0))

theorem RdAt.cells {W : World} {B : Nat} {r : Rd} (h : RdAt W B r) :
    W.cell? ⟨B, 0, none⟩ = some (.string r.s) ∧ W.cell? ⟨B, 1, none⟩ = some (.int .i64 (r.at_ : Int)) ∧ W.cell? ⟨B, 2, none⟩ = some (.bool r.bad) ∧
      W.frozen? ⟨B, 0, none⟩ = false ∧ W.frozen? ⟨B, 1, none⟩ = false ∧ W.frozen? ⟨B, 2, none⟩ = false := by
  unfold RdAt at h
  refine ⟨?_, ?_, ?_, ?_, ?_, ?_⟩ <;> simp [World.cell?, World.frozen?, h]
theorem Keeps.rd {W W' : World} {B : Nat} {r : Rd} {K : Nat → Prop} (k : Keeps K W W') (h : RdAt W B r) (hB : K B) : RdAt W' B r := k.heap h hB

def rawR (r : Rd) (n : Int) : ByteArray × Rd :=
  if n < 0 ∨ (r.left : Int) < n then (⟨#[]⟩, Rd.failed) else (r.s.extract r.at_ (r.at_ + n.toNat), ⟨r.s, r.at_ + n.toNat, r.bad⟩)

set_option maxHeartbeats 1000000 in
theorem Open_any (s : ByteArray) (w : World) :
    Calls Try.prog 36 #[.string s] w fun e w' => e = .returned (.pointer (some ⟨w.heap.size, 0, none⟩)) ∧ RdAt w' w.heap.size ⟨s, 0, false⟩ ∧ Ext w w' := by
  go_enter Try.func36, Try.ntmps36
  go_wp2
  go_ret
  exact ⟨rfl, World.alloc_heap_new w _, (Ext.refl _).alloc _⟩

set_option maxHeartbeats 1000000 in
theorem fail_any (B : Nat) (r : Rd) (w : World) (h : RdAt w B r) :
    Calls Try.prog 90 #[.pointer (some ⟨B, 0, none⟩)] w fun e w' => (∃ v, e = .returned v) ∧ RdAt w' B Rd.failed ∧ Keeps (fun k => k ≠ B) w w' ∧ w'.heap.size = w.heap.size := by
  obtain ⟨c0, c1, c2, f0, f1, f2⟩ := h.cells
  go_enter Try.func90, Try.ntmps90
  go_wp2
  go_end0
  refine ⟨⟨_, rfl⟩, ?_, (((Keeps.refl _ _).setCell (p := ⟨B, 0, none⟩) (by simp) _).setCell (p := ⟨B, 1, none⟩) (by simp) _).setCell (p := ⟨B, 2, none⟩) (by simp) _, by simp⟩
  exact heap_setCell_same _ _ _ _ _ _ (heap_setCell_same _ _ _ _ _ _ (heap_setCell_same _ _ _ _ _ _ h))

set_option maxRecDepth 100000 in
set_option maxHeartbeats 1000000 in
theorem Left_any (B : Nat) (r : Rd) (w : World) (h : RdAt w B r) (hr : r.ok) :
    Calls Try.prog 39 #[.pointer (some ⟨B, 0, none⟩)] w fun e w' => e = .returned (.int .i64 r.left) ∧ w' = w.drew := by
  obtain ⟨c0, c1, c2, f0, f1, f2⟩ := h.cells
  obtain ⟨h1, h2⟩ := hr
  obtain ⟨s, p, bad⟩ := r
  simp only at c0 c1 c2 h1 h2
  have hmx : Try.prog.follows .mixedOrders = true := by kernel_rfl
  have s1 : IntKind.i64.wrap ((s.size : Int) - p) = (s.size : Int) - p := IntWalk.i64_in _ (by omega)
  have hl : Hid (((Rd.left ⟨s, p, bad⟩ : Nat) : Int) = (s.size : Int) - p) := Lib.hid (by show ((s.size - p : Nat) : Int) = _; omega)
  clear h
  go_enter Try.func39, Try.ntmps39
  go_wp2_with fail
  go_still hmx
  change Exit.then _ _ Exit.normal _ w.drew
  go_wp2
  go_ret
  exact ⟨by rw [hl.out]; rfl, rfl⟩

set_option maxHeartbeats 1000000 in
theorem Bad_any (B : Nat) (r : Rd) (w : World) (h : RdAt w B r) :
    Calls Try.prog 40 #[.pointer (some ⟨B, 0, none⟩)] w fun e w' => e = .returned (.bool r.bad) ∧ w = w' := by
  obtain ⟨c0, c1, c2, f0, f1, f2⟩ := h.cells
  go_enter Try.func40, Try.ntmps40
  go_wp2
  go_ret
  exact ⟨rfl, rfl⟩

set_option maxRecDepth 100000 in
set_option maxHeartbeats 1000000 in
theorem Raw_any (B : Nat) (r : Rd) (n : Int) (w : World) (h : RdAt w B r) (hr : r.ok) (hn : -9223372036854775808 ≤ n ∧ n ≤ 9223372036854775807) :
    Calls Try.prog 92 #[.pointer (some ⟨B, 0, none⟩), .int .i64 n] w fun e w' => e = .returned (.string (rawR r n).1) ∧ RdAt w' B (rawR r n).2 ∧ Keeps (fun k => k ≠ B) w w' ∧ w'.heap.size = w.heap.size := by
  have CL := Lib.hid (Left_any B r w h hr)
  have CF := Lib.hid fun W h => fail_any B r W h
  obtain ⟨c0, c1, c2, f0, f1, f2⟩ := h.cells
  have H := Lib.hid h; clear h
  obtain ⟨h1, h2⟩ := hr
  obtain ⟨s, p, bad⟩ := r
  simp only at c0 c1 c2 h1 h2
  have hl : (((Rd.left ⟨s, p, bad⟩ : Nat) : Int) = (s.size : Int) - p) := by show ((s.size - p : Nat) : Int) = _; omega
  have hR : rawR ⟨s, p, bad⟩ n = if n < 0 ∨ (s.size : Int) - p < n then (⟨#[]⟩, Rd.failed) else (s.extract p (p + n.toNat), ⟨s, p + n.toNat, bad⟩) := by rw [rawR, hl]
  rw [hl] at CL
  have HR := Lib.hid hR; clear hR hl
  by_cases hn0 : n < 0
  · have HR2 : Hid (rawR ⟨s, p, bad⟩ n = (⟨#[]⟩, Rd.failed)) := Lib.hid (by rw [HR.out, if_pos (.inl hn0)])
    go_enter Try.func92, Try.ntmps92
    go_wp2_with fail
    refine (CF.out _ H.out).mono ?_
    rintro e w1 ⟨⟨v, rfl⟩, hr1, hk1, hz1⟩
    have HP : Hid (_ ∧ _ ∧ _) := Lib.hid ⟨hr1, hk1, hz1⟩
    clear hr1 hk1 hz1 c0 c1 c2 f0 f1 f2
    go_wp2
    go_ret
    exact ⟨by rw [HR2.out]; rfl, by rw [HR2.out]; exact HP.out.1, HP.out.2.1, HP.out.2.2⟩
  · by_cases hn1 : (s.size : Int) - p < n
    · have hn0' : decide (n < 0) = false := by simp; omega
      have HR2 : Hid (rawR ⟨s, p, bad⟩ n = (⟨#[]⟩, Rd.failed)) := Lib.hid (by rw [HR.out, if_pos (.inr hn1)])
      go_enter Try.func92, Try.ntmps92
      go_wp2_with fail
      refine CL.out.mono ?_
      rintro e w0 ⟨rfl, rfl⟩
      go_wp2_with fail
      refine (CF.out w.drew H.out).mono ?_
      rintro e w1 ⟨⟨v, rfl⟩, hr1, hk1, hz1⟩
      have HP : Hid (_ ∧ _ ∧ _) := Lib.hid ⟨hr1, (Keeps.refl _ w).drew.trans hk1, hz1⟩
      clear hr1 hk1 hz1 c0 c1 c2 f0 f1 f2
      go_wp2
      go_ret
      exact ⟨by rw [HR2.out]; rfl, by rw [HR2.out]; exact HP.out.1, HP.out.2.1, HP.out.2.2⟩
    · have HR2 : Hid (rawR ⟨s, p, bad⟩ n = (s.extract p (p + n.toNat), ⟨s, p + n.toNat, bad⟩)) := Lib.hid (by rw [HR.out, if_neg (by omega)])
      obtain ⟨m, rfl⟩ : ∃ m : Nat, n = m := ⟨n.toNat, by omega⟩
      rw [Int.toNat_natCast] at HR2
      have hn0' : decide ((m : Int) < 0) = false := by simp
      have hn1' : decide ((s.size : Int) - p < (m : Int)) = false := by simp; omega
      have hmx : Try.prog.follows .mixedOrders = true := by kernel_rfl
      go_enter Try.func92, Try.ntmps92
      go_wp2_with fail
      refine CL.out.mono ?_
      rintro e w0 ⟨rfl, rfl⟩
      go_wp2_with fail
      have hR2 : RdAt (w.setCell ⟨B, 1, none⟩ (.int .i64 ((p : Int) + m))).drew B ⟨s, p + m, bad⟩ := by
        have := heap_setCell_same w B 1 _ _ (.int .i64 ((p : Int) + m)) H.out
        unfold RdAt
        rw [Int.natCast_add]
        exact this
      have hk : Keeps (fun k => k ≠ B) w (w.setCell ⟨B, 1, none⟩ (.int .i64 ((p : Int) + m))).drew := ((Keeps.refl _ _).setCell (p := ⟨B, 1, none⟩) (by simp) _).drew
      have hz : (w.setCell ⟨B, 1, none⟩ (.int .i64 ((p : Int) + m))).drew.heap.size = w.heap.size := by simp
      generalize (w.setCell ⟨B, 1, none⟩ (.int .i64 ((p : Int) + m))).drew = W2 at hR2 hk hz ⊢
      clear c0 c1 c2 f0 f1 f2 CL CF
      obtain ⟨c0, c1, c2, _, _, _⟩ := hR2.cells
      simp only [Int.natCast_add] at c0 c1 c2
      have HP : Hid (_ ∧ _ ∧ _) := Lib.hid ⟨hR2, hk, hz⟩
      clear hR2 hk hz
      have s1 : IntKind.i64.wrap (p : Int) = (p : Int) := IntWalk.i64_in _ (by omega)
      have s2 : (0 : Int) ≤ (p : Int) := by omega
      have s3 : (p : Int) ≤ (p : Int) + m := by omega
      have s4 : (p : Int) + m ≤ s.size := by omega
      have s5 : ((p : Int) + m).toNat = p + m := by omega
      go_still hmx
      change Exit.then _ _ Exit.normal _ W2.drew
      clear s1 s2 s3 s4 s5 c0 c1 c2
      go_wp2
      go_ret
      exact ⟨by rw [HR2.out]; rfl, by rw [HR2.out]; exact HP.out.1, HP.out.2.1.drew, HP.out.2.2⟩

end Go.Proofs.Yteoelhhkdfmaiaa

/- What pack's reader does with the pieces of names. Conditions: a reader that Open, or Part, made. -/
namespace Go.Proofs.Yteoelhhkdfmaiaa
open Go Go.RowKit Go.Shelf
attribute [local go_sem] Oper.semAt_some wide_fn wide_depth

set_option maxHeartbeats 1000000 in
theorem isPointer_any (c : Nat) (w : World) (hc : c ≤ 255) :
    Calls Try.prog 114 #[.int .u8 c] w fun e w' => e = .returned (.bool (decide (192 ≤ c))) ∧ w = w' := by
  go_enter Try.func114, Try.ntmps114
  go_wp2
  go_ret
  refine ⟨?_, rfl⟩
  have : decide ((192 : Int) ≤ (c : Int)) = decide (192 ≤ c) := by rw [decide_eq_decide]; omega
  simp [this]

theorem i64_or_nat (a b : Nat) (ha : a < 4611686018427387904) (hb : b < 4611686018427387904) :
    bits .or .i64 (a : Int) (b : Int) = ((a ||| b : Nat) : Int) := by
  have hx : a ||| b < 2 ^ 62 := Nat.or_lt_two_pow (by omega) (by omega)
  have h1 : (BitVec.ofInt 64 (a : Int)).toNat = a := by
    rw [BitVec.ofInt_natCast, BitVec.toNat_ofNat]; exact Nat.mod_eq_of_lt (by omega)
  have h2 : (BitVec.ofInt 64 (b : Int)).toNat = b := by
    rw [BitVec.ofInt_natCast, BitVec.toNat_ofNat]; exact Nat.mod_eq_of_lt (by omega)
  show IntKind.i64.wrap ((BitVec.ofInt 64 (a : Int) ||| BitVec.ofInt 64 (b : Int)).toNat : Int) = _
  rw [BitVec.toNat_or, h1, h2]
  exact IntWalk.i64_in _ (by omega)
theorem i64_join (a b : Nat) (ha : a < 1099511627776) (hb : b < 256) : bits .or .i64 ((a : Int) * 256) (b : Int) = (a : Int) * 256 + b := by
  have h := i64_or_nat (a * 256) b (by omega) (by omega)
  rw [nat_join 8 (a * 256) b (by omega) (by omega)] at h
  simpa using h

def targetR (p : ByteArray) : Nat := (p[0]!.toNat * 256 + p[1]!.toNat) % 16384

set_option maxRecDepth 100000 in
set_option maxHeartbeats 1000000 in
theorem target_any (p : ByteArray) (w : World) (hp : 2 ≤ p.size) :
    Calls Try.prog 115 #[.string p] w fun e w' => e = .returned (.int .i64 (targetR p)) ∧ w' = w.drew := by
  have hmx : Try.prog.follows .mixedOrders = true := by kernel_rfl
  obtain ⟨c0, h0⟩ : ∃ c : Nat, p[0].toNat = c := ⟨_, rfl⟩
  obtain ⟨c1, h1⟩ : ∃ c : Nat, p[1].toNat = c := ⟨_, rfl⟩
  have b0 : c0 ≤ 255 := by have := p[0].toNat_lt; omega
  have b1 : c1 ≤ 255 := by have := p[1].toNat_lt; omega
  have HR : Hid (targetR p = (c0 * 256 + c1) % 16384) := Lib.hid (by rw [targetR, getElem!_pos p 0 (by omega), getElem!_pos p 1 (by omega), h0, h1])
  have x0 : (0 : Int) < p.size := by omega
  have x1 : (1 : Int) < p.size := by omega
  have y0 : 0 < p.size := by omega
  go_enter Try.func115, Try.ntmps115
  go_wp2_with fail
  have q0 : IntKind.i64.wrap (c0 : Int) = c0 := IntWalk.i64_in _ (by omega)
  have q1 : IntKind.i64.wrap (c1 : Int) = c1 := IntWalk.i64_in _ (by omega)
  have q2 : IntKind.i64.wrap ((c0 : Int) * 256) = (c0 : Int) * 256 := IntWalk.i64_in _ (by omega)
  have q3 := i64_join c0 c1 (by omega) (by omega)
  have q4 : ((c0 : Int) * 256 + c1).tmod 16384 = (((c0 * 256 + c1) % 16384 : Nat) : Int) := by
    rw [Int.tmod_eq_emod_of_nonneg (by omega)]; omega
  go_still hmx
  change Exit.then _ _ Exit.normal _ w.drew
  clear q0 q1 q2 q3 q4 x0 x1 y0
  go_wp2
  go_ret
  exact ⟨by rw [HR.out]; rfl, rfl⟩

/-- What stands at a place of a name. -/
def pieceR (s : ByteArray) (a : Nat) : ByteArray :=
  if s.size ≤ a then ⟨#[]⟩ else
  if s.size - a < (if 192 ≤ s[a]!.toNat then 2 else 1 + s[a]!.toNat) then ⟨#[]⟩ else s.extract a (a + (if 192 ≤ s[a]!.toNat then 2 else 1 + s[a]!.toNat))

set_option maxRecDepth 100000 in
set_option maxHeartbeats 1000000 in
theorem piece_any (B : Nat) (r : Rd) (a : Nat) (w : World) (h : RdAt w B r) (hr : r.ok) (ha : a ≤ 1099511627776) :
    Calls Try.prog 113 #[.pointer (some ⟨B, 0, none⟩), .int .i64 a] w fun e w' => e = .returned (.string (pieceR r.s a)) ∧ w = w' := by
  obtain ⟨c0, c1, c2, f0, f1, f2⟩ := h.cells
  obtain ⟨h1, h2⟩ := hr
  obtain ⟨s, p, bad⟩ := r
  simp only at c0 c1 c2 h1 h2 ⊢
  clear h c1 c2 f0 f1 f2
  by_cases hlt : a < s.size
  · obtain ⟨c, hcv⟩ : ∃ c : Nat, s[a].toNat = c := ⟨_, rfl⟩
    have hc255 : c ≤ 255 := by have := s[a].toNat_lt; omega
    have CP := Lib.hid fun W => isPointer_any c W hc255
    have HP : Hid (pieceR s a = if s.size - a < (if 192 ≤ c then 2 else 1 + c) then ⟨#[]⟩ else s.extract a (a + (if 192 ≤ c then 2 else 1 + c))) := Lib.hid (by
      rw [pieceR, if_neg (by omega), getElem!_pos s a hlt, hcv])
    by_cases h192 : 192 ≤ c
    · rw [decide_eq_true h192] at CP
      simp only [h192, if_true] at HP
      by_cases hin : s.size - a < 2
      · have HP2 : Hid (pieceR s a = ⟨#[]⟩) := Lib.hid (by rw [HP.out, if_pos hin])
        have x1 : decide ((s.size : Int) - a < 2) = true := by simp; omega
        go_enter Try.func113, Try.ntmps113
        go_wp2_with fail
        refine (CP.out _).mono ?_
        rintro e w1 ⟨rfl, rfl⟩
        go_wp2
        go_ret
        exact ⟨by rw [HP2.out]; rfl, rfl⟩
      · have HP2 : Hid (pieceR s a = s.extract a (a + 2)) := Lib.hid (by rw [HP.out, if_neg hin])
        have x1 : decide ((s.size : Int) - a < 2) = false := by simp; omega
        have x2 : (a : Int) ≤ (a : Int) + 2 := by omega
        have x3 : (a : Int) + 2 ≤ s.size := by omega
        have x4 : ((a : Int) + 2).toNat = a + 2 := by omega
        go_enter Try.func113, Try.ntmps113
        go_wp2_with fail
        refine (CP.out _).mono ?_
        rintro e w1 ⟨rfl, rfl⟩
        go_wp2
        go_ret
        exact ⟨by rw [HP2.out]; rfl, rfl⟩
    · rw [decide_eq_false h192] at CP
      simp only [h192, if_false] at HP
      by_cases hin : s.size - a < 1 + c
      · have HP2 : Hid (pieceR s a = ⟨#[]⟩) := Lib.hid (by rw [HP.out, if_pos hin])
        have x1 : decide ((s.size : Int) - a < 1 + (c : Int)) = true := by simp; omega
        go_enter Try.func113, Try.ntmps113
        go_wp2_with fail
        refine (CP.out _).mono ?_
        rintro e w1 ⟨rfl, rfl⟩
        go_wp2
        go_ret
        exact ⟨by rw [HP2.out]; rfl, rfl⟩
      · have HP2 : Hid (pieceR s a = s.extract a (a + (1 + c))) := Lib.hid (by rw [HP.out, if_neg hin])
        have x1 : decide ((s.size : Int) - a < 1 + (c : Int)) = false := by simp; omega
        have x2 : (a : Int) ≤ (a : Int) + (1 + (c : Int)) := by omega
        have x3 : (a : Int) + (1 + (c : Int)) ≤ s.size := by omega
        have x4 : ((a : Int) + (1 + (c : Int))).toNat = a + (1 + c) := by omega
        go_enter Try.func113, Try.ntmps113
        go_wp2_with fail
        refine (CP.out _).mono ?_
        rintro e w1 ⟨rfl, rfl⟩
        go_wp2
        go_ret
        exact ⟨by rw [HP2.out]; rfl, rfl⟩
  · have HP2 : Hid (pieceR s a = ⟨#[]⟩) := Lib.hid (by rw [pieceR, if_pos (by omega)])
    have x1 : (s.size : Int) ≤ a := by omega
    go_enter Try.func113, Try.ntmps113
    go_wp2
    go_ret
    exact ⟨by rw [HP2.out]; rfl, rfl⟩

end Go.Proofs.Yteoelhhkdfmaiaa

/- What pack's reader does with names: name gathers, Name reads. Conditions: a reader that Open, or Part, made. -/
namespace Go.Proofs.Yteoelhhkdfmaiaa
open Go Go.RowKit Go.Shelf
attribute [local go_sem] Oper.semAt_some wide_fn wide_depth

/-- What name gathers. -/
def gatherF (s : ByteArray) : Nat → List UInt8 → Nat → Nat → Nat → Bool → List UInt8 × Nat
  | 0, n, _, _, b, _ => (n, b)
  | f + 1, n, a, frm, b, pt =>
    if n.length < 255 then
      if (pieceR s a).size = 0 then (n, if pt then b else a + (pieceR s a).size)
      else if 192 ≤ (pieceR s a)[0]!.toNat then
        if frm ≤ targetR (pieceR s a) then (n, if pt then b else a + (pieceR s a).size)
        else gatherF s f n (targetR (pieceR s a)) (targetR (pieceR s a)) (if pt then b else a + (pieceR s a).size) true
      else if (pieceR s a).toList = [0] then (n ++ bl (pieceR s a), if pt then b else a + (pieceR s a).size)
      else gatherF s f (n ++ bl (pieceR s a)) (a + (pieceR s a).size) frm (if pt then b else a + (pieceR s a).size) pt
    else (n, b)
def gatherR (s : ByteArray) (a : Nat) : List UInt8 × Nat := gatherF s (257 + a) [] a a a false

/-- A piece's first byte, and how long it is. -/
theorem piece_cases (s : ByteArray) (a : Nat) : (pieceR s a).size = 0 ∨
    (a < s.size ∧ a + (pieceR s a).size ≤ s.size ∧ (pieceR s a)[0]! = s[a]! ∧ (pieceR s a) = s.extract a (a + (pieceR s a).size) ∧
      ((192 ≤ s[a]!.toNat ∧ (pieceR s a).size = 2) ∨ (s[a]!.toNat < 192 ∧ (pieceR s a).size = 1 + s[a]!.toNat))) := by
  unfold pieceR
  by_cases h1 : s.size ≤ a
  · left; rw [if_pos h1]; rfl
  · rw [if_neg h1]
    by_cases h2 : s.size - a < (if 192 ≤ s[a]!.toNat then 2 else 1 + s[a]!.toNat)
    · left; rw [if_pos h2]; rfl
    · right
      rw [if_neg h2]
      obtain ⟨z, hz⟩ : ∃ z, (if 192 ≤ s[a]!.toNat then 2 else 1 + s[a]!.toNat) = z := ⟨_, rfl⟩
      have hz1 : 1 ≤ z ∧ ((192 ≤ s[a]!.toNat ∧ z = 2) ∨ (s[a]!.toNat < 192 ∧ z = 1 + s[a]!.toNat)) := by
        rw [← hz]; split <;> omega
      rw [hz] at h2 ⊢
      have hsz : (s.extract a (a + z)).size = z := by rw [ByteArray.size_extract]; omega
      rw [hsz]
      refine ⟨by omega, by omega, ?_, rfl, hz1.2⟩
      rw [getElem!_pos _ 0 (by omega), getElem!_pos s a (by omega), ByteArray.getElem_extract]
      simp

theorem bytes_back {W : World} {base : Nat} {v : Value} {l : List UInt8} {n : Nat} (hn : n = l.length) (h : W.ownsRow base 5 1 v n (Lib.byteCells l)) :
    (convert 68 9 v).run Try.prog W = .ok (.string ⟨l.toArray⟩) W := by
  subst hn
  rcases h.2 with ⟨rfl, h0⟩ | ⟨g, cap, cur, rfl, hg, hh, r⟩
  · obtain rfl : l = [] := List.eq_nil_of_length_eq_zero h0
    simp [convert, go_sem, Conv.bytesToString]
    rfl
  · exact run_convert_bytes_back W 68 9 5 ⟨g, 0, none⟩ cap l Try.underlying68 Try.underlying5 Try.underlying9 (fun j hj => by
      exact h.cells (g := g) rfl j _ (by simp [Lib.byteCells, hj]))

set_option maxRecDepth 100000 in
set_option maxHeartbeats 4000000 in
theorem name_any (B : Nat) (r : Rd) (w : World) (h : RdAt w B r) (hr : r.ok) :
    Calls Try.prog 89 #[.pointer (some ⟨B, 0, none⟩)] w fun e w' => e = .returned (.tuple #[.string ⟨(gatherR r.s r.at_).1.toArray⟩, .int .i64 ((gatherR r.s r.at_).2 : Nat)]) ∧ Ext w w' := by
  obtain ⟨i0, hi, hz0, hz1, hz2⟩ := info_parts infoByte
  obtain ⟨c0, c1, c2, f0, f1, f2⟩ := h.cells
  have H := Lib.hid h; clear h
  have Hok := Lib.hid hr
  obtain ⟨h1, h2⟩ := hr
  obtain ⟨s, p, bad⟩ := r
  simp only at c0 c1 c2 h1 h2 ⊢
  have hmx : Try.prog.follows .mixedOrders = true := by kernel_rfl
  go_enter Try.func89, Try.ntmps89
  go_wp2_with fail
  go_step3
  go_wp2_with fail
  go_still hmx
  change Exit.then _ _ Exit.normal _ w.drew
  clear c0 c1 c2 f0 f1 f2
  go_wp2_with fail
  go_step3
  go_wp2_with fail
  go_loopw [4, 5, 6, 7, 8] (fun v i fr bh pt wr => ∃ (a fm bb : Nat) (q : Bool) (n : List UInt8) (ao : Option Addr) (cap f : Nat), a ≤ s.size ∧ fm ≤ s.size ∧ bb ≤ s.size ∧ n.length ≤ 446 ∧ i = .int .i64 a ∧ fr = .int .i64 fm ∧ bh = .int .i64 bb ∧ pt = .bool q ∧
      v = .slice ao n.length cap ∧ wr.ownsRow w.heap.size 5 1 (.slice ao n.length cap) n.length (Lib.byteCells n) ∧ Ext w wr ∧ gatherR s p = gatherF s f n a fm bb q ∧ 255 - n.length + fm < f)
    (fun v _ fr _ _ _ => (match v with | .slice _ n _ => 255 - n | _ => 0) + (intOf fr).toNat)
  case atStart => exact ⟨p, p, p, false, [], none, 0, 257 + p, h1, h1, h1, by simp, rfl, rfl, rfl, rfl, rfl, World.ownsRow_nil _ _ _ _, (Ext.refl _).drew, rfl, by simp <;> omega⟩
  case round =>
    obtain ⟨a, fm, bb, q, n, ao, cap, f, ha, hfm, hbb, hn, rfl, rfl, rfl, rfl, rfl, hown, hx, hg, hf⟩ := hrel
    obtain ⟨f, rfl⟩ : ∃ f', f = f' + 1 := ⟨f - 1, by omega⟩
    obtain ⟨k, hk⟩ : ∃ k, n.length = k := ⟨_, rfl⟩
    rw [hk] at hown
    have Hback := Lib.hid (bytes_back hk.symm hown)
    have Hbackd := Lib.hid (bytes_back hk.symm hown.drew)
    have CP := Lib.hid (piece_any B ⟨s, p, bad⟩ a wr (hx.keeps.rd H.out trivial) Hok.out (by omega))
    rw [gatherF] at hg
    rw [hk] at hf hn hg ⊢
    have Hx := Lib.hid hx; clear hx
    by_cases hlt : k < 255
    · rw [if_pos hlt] at hg
      have hpc := piece_cases s a
      obtain ⟨pc, hpe⟩ : ∃ pc, pieceR s a = pc := ⟨_, rfl⟩
      simp only [hpe] at hpc hg CP
      cases q with
      | false =>
        simp only [Bool.false_eq_true, if_false] at hg
        by_cases hsz : pc.size = 0
        · obtain rfl : pc = ⟨#[]⟩ := bl_inj (List.eq_nil_of_length_eq_zero hsz)
          rw [if_pos hsz] at hg
          have Hg := Lib.hid hg; clear hg hown hpc
          have hback := Hback.out
          go_wp2_with fail
          refine CP.out.mono ?_
          rintro e w1 ⟨rfl, rfl⟩
          go_wp2
          try rw [Exit.noGoto_ret]
          go_ret2
          exact ⟨by rw [Hg.out]; rfl, Hx.out⟩
        · rw [if_neg hsz] at hg
          obtain ⟨hlt2, hle, h0, hext, hcc⟩ := hpc.resolve_left hsz
          have y0 : 0 < pc.size := by omega
          have y1 : pc.size ≤ 192 := by have := s[a]!.toNat_lt; omega
          obtain ⟨c, hcv⟩ : ∃ c : Nat, s[a]!.toNat = c := ⟨_, rfl⟩
          rw [h0, hcv] at hg
          rw [hcv] at hcc
          have hcp : pc[0].toNat = c := by rw [← hcv, ← h0, getElem!_pos pc 0 y0]
          have hc255 : c ≤ 255 := by have := s[a]!.toNat_lt; omega
          have hne : pc.toList.isEmpty = false := by
            rw [toList_bl]
            cases hb : bl pc with
            | nil => rw [← bl_size, hb] at y0; cases y0
            | cons x y => rfl
          have CQ := Lib.hid fun W => isPointer_any c W hc255
          clear h0 hext hcv hpc
          by_cases h192 : 192 ≤ c
          · rw [decide_eq_true h192] at CQ
            rw [if_pos h192] at hg
            have y2 : pc.size = 2 := by omega
            have CT := Lib.hid fun W => target_any pc W (by omega)
            obtain ⟨tg, htg⟩ : ∃ tg, targetR pc = tg := ⟨_, rfl⟩
            have htl : tg < 16384 := by rw [← htg]; exact Nat.mod_lt _ (by omega)
            rw [htg] at CT hg
            clear htg
            by_cases hft : fm ≤ tg
            · rw [if_pos hft] at hg
              have Hg := Lib.hid hg; clear hg hown
              have Hy := Lib.hid y2; clear y2
              have hback : (convert 68 9 (.slice ao k cap)).run Try.prog wr.drew = .ok (.string ⟨n.toArray⟩) wr.drew := Hbackd.out
              have x1 : (fm : Int) ≤ tg := by omega
              go_wp2_with fail
              refine CP.out.mono ?_
              rintro e w1 ⟨rfl, rfl⟩
              go_wp2_with fail
              refine (CQ.out _).mono ?_
              rintro e w2 ⟨rfl, rfl⟩
              go_wp2_with fail
              refine (CT.out _).mono ?_
              rintro e w3 ⟨rfl, rfl⟩
              go_wp2
              try rw [Exit.noGoto_ret]
              go_ret2
              exact ⟨by rw [Hg.out]; rfl, Hx.out.drew⟩
            · rw [if_neg hft] at hg
              have Hg := Lib.hid hg; clear hg
              have Hy := Lib.hid y2; clear y2
              have Hown := Lib.hid hown; clear hown
              have x1 : ¬ (fm : Int) ≤ tg := by omega
              go_wp2_with fail
              refine CP.out.mono ?_
              rintro e w1 ⟨rfl, rfl⟩
              go_wp2_with fail
              refine (CQ.out _).mono ?_
              rintro e w2 ⟨rfl, rfl⟩
              go_wp2_with fail
              refine (CT.out _).mono ?_
              rintro e w3 ⟨rfl, rfl⟩
              go_wp2
              go_roundw
              case rel =>
                refine ⟨tg, tg, a + pc.size, true, n, ao, cap, f, by omega, by omega, by have := hbb; omega, by omega, rfl, rfl, by first | rfl | simp, rfl, by rw [hk], by rw [hk]; exact Hown.out, Hx.out.drew, Hg.out, by omega⟩
              case measure => simp [intOf]; omega
          · rw [decide_eq_false h192] at CQ
            rw [if_neg h192] at hg
            have hpl : (n ++ bl pc).length = k + pc.size := by rw [List.length_append, hk, bl_size]
            have hzx : w.heap.size ≤ wr.heap.size := Hx.out.size
            by_cases hrt : pc.toList = [0]
            · rw [if_pos hrt] at hg
              have Hg := Lib.hid hg; clear hg
              have hrt' : (pc.toList == [0]) = true := by rw [hrt]; rfl
              go_wp2_with fail
              refine CP.out.mono ?_
              rintro e w1 ⟨rfl, rfl⟩
              go_wp2_with fail
              refine (CQ.out _).mono ?_
              rintro e w2 ⟨rfl, rfl⟩
              go_wp2_with (at_builtin; refine Lib.wpList_append_own_string _ rfl _ _ 68 9 rfl w.heap.size 5 i0 Try.underlying68 Try.underlying9 hi hz0 hz1 hz2 _ _ _ rfl hown pc rfl ?c3 ?c4 ?c5 ?_)
              case c3 => unfold maxLen; omega
              case c4 => omega
              case c5 => omega
              intro v' w3 hown' hgrow _
              have hrow := hown.lt
              have Hx3 : Hid (Ext w w3) := Lib.hid (((Hx.out.keeps.mono (K' := fun k => k < w.heap.size) fun _ _ _ => trivial).grown hgrow (fun k e h => by
                have e' := (hrow k e).1
                omega)).ext fun _ h => h)
              obtain ⟨ao', cap', rfl⟩ := ownsRow_slice hown'
              have hb3 : Hid ((convert 68 9 (.slice ao' (k + pc.size) cap')).run Try.prog w3 = .ok (.string ⟨(n ++ bl pc).toArray⟩) w3) :=
                Lib.hid (bytes_back hpl.symm (by rw [Lib.byteCells_append]; exact hown'))
              clear hown' hgrow hrow hown
              have hback := hb3.out
              go_wp2
              try rw [Exit.noGoto_ret]
              go_ret2
              exact ⟨by rw [Hg.out]; rfl, Hx3.out⟩
            · rw [if_neg hrt] at hg
              have Hg := Lib.hid hg; clear hg
              have hrt' : (pc.toList == [0]) = false := beq_eq_false_iff_ne.2 hrt
              go_wp2_with fail
              refine CP.out.mono ?_
              rintro e w1 ⟨rfl, rfl⟩
              go_wp2_with fail
              refine (CQ.out _).mono ?_
              rintro e w2 ⟨rfl, rfl⟩
              go_wp2_with (at_builtin; refine Lib.wpList_append_own_string _ rfl _ _ 68 9 rfl w.heap.size 5 i0 Try.underlying68 Try.underlying9 hi hz0 hz1 hz2 _ _ _ rfl hown pc rfl ?c3 ?c4 ?c5 ?_)
              case c3 => unfold maxLen; omega
              case c4 => omega
              case c5 => omega
              intro v' w3 hown' hgrow _
              have hrow := hown.lt
              have Hx3 : Hid (Ext w w3) := Lib.hid (((Hx.out.keeps.mono (K' := fun k => k < w.heap.size) fun _ _ _ => trivial).grown hgrow (fun k e h => by
                have e' := (hrow k e).1
                omega)).ext fun _ h => h)
              obtain ⟨ao', cap', rfl⟩ := ownsRow_slice hown'
              have Hown' := Lib.hid hown'; clear hown' hgrow hrow hown
              go_wp2
              go_roundw
              case rel =>
                refine ⟨a + pc.size, fm, a + pc.size, false, n ++ bl pc, ao', cap', f, by omega, by omega, by have := hbb; omega, by omega, by first | rfl | simp, rfl, by first | rfl | simp, rfl, by rw [hpl], ?_, Hx3.out, Hg.out, by omega⟩
                rw [hpl, Lib.byteCells_append]
                exact Hown'.out
              case measure => simp [intOf]; omega
      | true =>
        simp only [if_true] at hg
        by_cases hsz : pc.size = 0
        · obtain rfl : pc = ⟨#[]⟩ := bl_inj (List.eq_nil_of_length_eq_zero hsz)
          rw [if_pos hsz] at hg
          have Hg := Lib.hid hg; clear hg hown hpc
          have hback := Hback.out
          go_wp2_with fail
          refine CP.out.mono ?_
          rintro e w1 ⟨rfl, rfl⟩
          go_wp2
          try rw [Exit.noGoto_ret]
          go_ret2
          exact ⟨by rw [Hg.out]; rfl, Hx.out⟩
        · rw [if_neg hsz] at hg
          obtain ⟨hlt2, hle, h0, hext, hcc⟩ := hpc.resolve_left hsz
          have y0 : 0 < pc.size := by omega
          have y1 : pc.size ≤ 192 := by have := s[a]!.toNat_lt; omega
          obtain ⟨c, hcv⟩ : ∃ c : Nat, s[a]!.toNat = c := ⟨_, rfl⟩
          rw [h0, hcv] at hg
          rw [hcv] at hcc
          have hcp : pc[0].toNat = c := by rw [← hcv, ← h0, getElem!_pos pc 0 y0]
          have hc255 : c ≤ 255 := by have := s[a]!.toNat_lt; omega
          have hne : pc.toList.isEmpty = false := by
            rw [toList_bl]
            cases hb : bl pc with
            | nil => rw [← bl_size, hb] at y0; cases y0
            | cons x y => rfl
          have CQ := Lib.hid fun W => isPointer_any c W hc255
          clear h0 hext hcv hpc
          by_cases h192 : 192 ≤ c
          · rw [decide_eq_true h192] at CQ
            rw [if_pos h192] at hg
            have y2 : pc.size = 2 := by omega
            have CT := Lib.hid fun W => target_any pc W (by omega)
            obtain ⟨tg, htg⟩ : ∃ tg, targetR pc = tg := ⟨_, rfl⟩
            have htl : tg < 16384 := by rw [← htg]; exact Nat.mod_lt _ (by omega)
            rw [htg] at CT hg
            clear htg
            by_cases hft : fm ≤ tg
            · rw [if_pos hft] at hg
              have Hg := Lib.hid hg; clear hg hown
              have Hy := Lib.hid y2; clear y2
              have hback : (convert 68 9 (.slice ao k cap)).run Try.prog wr.drew = .ok (.string ⟨n.toArray⟩) wr.drew := Hbackd.out
              have x1 : (fm : Int) ≤ tg := by omega
              go_wp2_with fail
              refine CP.out.mono ?_
              rintro e w1 ⟨rfl, rfl⟩
              go_wp2_with fail
              refine (CQ.out _).mono ?_
              rintro e w2 ⟨rfl, rfl⟩
              go_wp2_with fail
              refine (CT.out _).mono ?_
              rintro e w3 ⟨rfl, rfl⟩
              go_wp2
              try rw [Exit.noGoto_ret]
              go_ret2
              exact ⟨by rw [Hg.out]; rfl, Hx.out.drew⟩
            · rw [if_neg hft] at hg
              have Hg := Lib.hid hg; clear hg
              have Hy := Lib.hid y2; clear y2
              have Hown := Lib.hid hown; clear hown
              have x1 : ¬ (fm : Int) ≤ tg := by omega
              go_wp2_with fail
              refine CP.out.mono ?_
              rintro e w1 ⟨rfl, rfl⟩
              go_wp2_with fail
              refine (CQ.out _).mono ?_
              rintro e w2 ⟨rfl, rfl⟩
              go_wp2_with fail
              refine (CT.out _).mono ?_
              rintro e w3 ⟨rfl, rfl⟩
              go_wp2
              go_roundw
              case rel =>
                refine ⟨tg, tg, bb, true, n, ao, cap, f, by omega, by omega, by have := hbb; omega, by omega, rfl, rfl, by first | rfl | simp, rfl, by rw [hk], by rw [hk]; exact Hown.out, Hx.out.drew, Hg.out, by omega⟩
              case measure => simp [intOf]; omega
          · rw [decide_eq_false h192] at CQ
            rw [if_neg h192] at hg
            have hpl : (n ++ bl pc).length = k + pc.size := by rw [List.length_append, hk, bl_size]
            have hzx : w.heap.size ≤ wr.heap.size := Hx.out.size
            by_cases hrt : pc.toList = [0]
            · rw [if_pos hrt] at hg
              have Hg := Lib.hid hg; clear hg
              have hrt' : (pc.toList == [0]) = true := by rw [hrt]; rfl
              go_wp2_with fail
              refine CP.out.mono ?_
              rintro e w1 ⟨rfl, rfl⟩
              go_wp2_with fail
              refine (CQ.out _).mono ?_
              rintro e w2 ⟨rfl, rfl⟩
              go_wp2_with (at_builtin; refine Lib.wpList_append_own_string _ rfl _ _ 68 9 rfl w.heap.size 5 i0 Try.underlying68 Try.underlying9 hi hz0 hz1 hz2 _ _ _ rfl hown pc rfl ?c3 ?c4 ?c5 ?_)
              case c3 => unfold maxLen; omega
              case c4 => omega
              case c5 => omega
              intro v' w3 hown' hgrow _
              have hrow := hown.lt
              have Hx3 : Hid (Ext w w3) := Lib.hid (((Hx.out.keeps.mono (K' := fun k => k < w.heap.size) fun _ _ _ => trivial).grown hgrow (fun k e h => by
                have e' := (hrow k e).1
                omega)).ext fun _ h => h)
              obtain ⟨ao', cap', rfl⟩ := ownsRow_slice hown'
              have hb3 : Hid ((convert 68 9 (.slice ao' (k + pc.size) cap')).run Try.prog w3 = .ok (.string ⟨(n ++ bl pc).toArray⟩) w3) :=
                Lib.hid (bytes_back hpl.symm (by rw [Lib.byteCells_append]; exact hown'))
              clear hown' hgrow hrow hown
              have hback := hb3.out
              go_wp2
              try rw [Exit.noGoto_ret]
              go_ret2
              exact ⟨by rw [Hg.out]; rfl, Hx3.out⟩
            · rw [if_neg hrt] at hg
              have Hg := Lib.hid hg; clear hg
              have hrt' : (pc.toList == [0]) = false := beq_eq_false_iff_ne.2 hrt
              go_wp2_with fail
              refine CP.out.mono ?_
              rintro e w1 ⟨rfl, rfl⟩
              go_wp2_with fail
              refine (CQ.out _).mono ?_
              rintro e w2 ⟨rfl, rfl⟩
              go_wp2_with (at_builtin; refine Lib.wpList_append_own_string _ rfl _ _ 68 9 rfl w.heap.size 5 i0 Try.underlying68 Try.underlying9 hi hz0 hz1 hz2 _ _ _ rfl hown pc rfl ?c3 ?c4 ?c5 ?_)
              case c3 => unfold maxLen; omega
              case c4 => omega
              case c5 => omega
              intro v' w3 hown' hgrow _
              have hrow := hown.lt
              have Hx3 : Hid (Ext w w3) := Lib.hid (((Hx.out.keeps.mono (K' := fun k => k < w.heap.size) fun _ _ _ => trivial).grown hgrow (fun k e h => by
                have e' := (hrow k e).1
                omega)).ext fun _ h => h)
              obtain ⟨ao', cap', rfl⟩ := ownsRow_slice hown'
              have Hown' := Lib.hid hown'; clear hown' hgrow hrow hown
              go_wp2
              go_roundw
              case rel =>
                refine ⟨a + pc.size, fm, bb, true, n ++ bl pc, ao', cap', f, by omega, by omega, by have := hbb; omega, by omega, by first | rfl | simp, rfl, by first | rfl | simp, rfl, by rw [hpl], ?_, Hx3.out, Hg.out, by omega⟩
                rw [hpl, Lib.byteCells_append]
                exact Hown'.out
              case measure => simp [intOf]; omega
    · rw [if_neg hlt] at hg
      have Hg := Lib.hid hg; clear hg hown
      have hback := Hback.out
      go_wp2
      try rw [Exit.noGoto_ret]
      go_ret2
      exact ⟨by rw [Hg.out]; rfl, Hx.out⟩

end Go.Proofs.Yteoelhhkdfmaiaa

/- What pack's reader does: Name, Part. Conditions: a reader that Open, or Part, made. -/
namespace Go.Proofs.Yteoelhhkdfmaiaa
open Go Go.RowKit Go.Shelf
attribute [local go_sem] Oper.semAt_some wide_fn wide_depth

theorem gatherF_len (s : ByteArray) : ∀ (f : Nat) (n : List UInt8) (a fm b : Nat) (q : Bool), n.length ≤ 446 → (gatherF s f n a fm b q).1.length ≤ 446
  | 0, n, _, _, _, _, h => h
  | f + 1, n, a, fm, b, q, h => by
    rw [gatherF]
    split
    · next hlt =>
      split
      · exact h
      · next hz =>
        split
        · split
          · exact h
          · exact gatherF_len s f _ _ _ _ _ h
        · next h192 =>
          have hpc := (piece_cases s a).resolve_left hz
          have hl : (n ++ bl (pieceR s a)).length ≤ 446 := by
            rw [List.length_append, bl_size]
            have := s[a]!.toNat_lt
            omega
          split
          · exact hl
          · exact gatherF_len s f _ _ _ _ _ hl
    · exact h
theorem gather_len (s : ByteArray) (a : Nat) : (gatherR s a).1.length ≤ 446 := gatherF_len s _ _ _ _ _ _ (by simp)
theorem gatherF_le (s : ByteArray) : ∀ (f : Nat) (n : List UInt8) (a fm b : Nat) (q : Bool), b ≤ s.size → a ≤ s.size → (gatherF s f n a fm b q).2 ≤ s.size
  | 0, n, _, _, _, _, h, _ => h
  | f + 1, n, a, fm, b, q, h, ha => by
    have hb : (pieceR s a).size = 0 ∨ a + (pieceR s a).size ≤ s.size := by
      rcases piece_cases s a with h | h
      · exact .inl h
      · exact .inr h.2.1
    have hb2 : (if q then b else a + (pieceR s a).size) ≤ s.size := by split <;> omega
    rw [gatherF]
    split
    · split
      · exact hb2
      · next hz =>
        split
        · split
          · exact hb2
          · next hft =>
            by_cases htt : targetR (pieceR s a) ≤ s.size
            · exact gatherF_le s f _ _ _ _ _ hb2 htt
            · cases f with
              | zero => exact hb2
              | succ f =>
                have hp0 : pieceR s (targetR (pieceR s a)) = ⟨#[]⟩ := by rw [pieceR, if_pos (by omega)]
                rw [gatherF, hp0]
                split
                · rw [if_pos rfl]; exact hb2
                · exact hb2
        · split
          · exact hb2
          · exact gatherF_le s f _ _ _ _ _ hb2 (by omega)
    · exact h

/-- What Name answers. -/
def nameR (r : Rd) : ByteArray × Rd :=
  if isName ⟨(gatherR r.s r.at_).1.toArray⟩ then (⟨(gatherR r.s r.at_).1.toArray⟩, ⟨r.s, (gatherR r.s r.at_).2, r.bad⟩) else (⟨#[]⟩, Rd.failed)

set_option maxRecDepth 100000 in
set_option maxHeartbeats 2000000 in
theorem Name_any (B : Nat) (r : Rd) (w : World) (h : RdAt w B r) (hr : r.ok) :
    Calls Try.prog 58 #[.pointer (some ⟨B, 0, none⟩)] w fun e w' => e = .returned (.string (nameR r).1) ∧ RdAt w' B (nameR r).2 ∧ Keeps (fun k => k ≠ B) w w' := by
  have CN := Lib.hid (name_any B r w h hr)
  have hgl := gather_len r.s r.at_
  obtain ⟨g, hg⟩ : ∃ g, gatherR r.s r.at_ = g := ⟨_, rfl⟩
  have hnr : nameR r = if isName ⟨g.1.toArray⟩ then (⟨g.1.toArray⟩, ⟨r.s, g.2, r.bad⟩) else (⟨#[]⟩, Rd.failed) := by rw [nameR, hg]
  rw [hg] at CN hgl
  have hsz : (⟨g.1.toArray⟩ : ByteArray).size = g.1.length := by show g.1.toArray.size = _; simp
  obtain ⟨n, hn⟩ : ∃ n : ByteArray, (⟨g.1.toArray⟩ : ByteArray) = n := ⟨_, rfl⟩
  rw [hn] at CN hnr hsz
  have CC := Lib.hid fun W => Check_any n W (by unfold maxLen; omega)
  have Hnr := Lib.hid hnr
  have H := Lib.hid h
  obtain ⟨c, hcv⟩ : ∃ c, g.2 = c := ⟨_, rfl⟩
  rw [hcv] at CN Hnr
  clear hnr hn hg h hsz hgl hcv
  cases hc : isName n with
  | true =>
    have HR : Hid (nameR r = (n, ⟨r.s, c, r.bad⟩)) := Lib.hid (by rw [Hnr.out, hc]; rfl)
    rw [chk_name hc] at CC
    clear hc
    go_enter Try.func58, Try.ntmps58
    go_wp2_with fail
    refine CN.out.mono ?_
    rintro e w1 ⟨rfl, hx⟩
    have HX := Lib.hid hx; clear hx
    go_wp2_with fail
    refine (CC.out _).mono ?_
    rintro e w2 ⟨rfl, hx⟩
    have HX := Lib.hid (HX.out.trans hx); clear hx
    have hR2 := HX.out.keeps.rd H.out trivial
    obtain ⟨c0, c1, c2, f0, f1, f2⟩ := hR2.cells
    have HR2 := Lib.hid hR2; clear hR2
    go_wp2
    go_ret
    refine ⟨by rw [HR.out]; rfl, ?_, (HX.out.keeps.mono fun _ _ _ => trivial).setCell (p := ⟨B, 1, none⟩) (by simp) _⟩
    rw [HR.out]
    exact heap_setCell_same w2 B 1 _ _ (.int .i64 (c : Int)) HR2.out
  | false =>
    have HR : Hid (nameR r = (⟨#[]⟩, Rd.failed)) := Lib.hid (by rw [Hnr.out, hc]; rfl)
    rw [chk_none hc] at CC
    clear hc
    go_enter Try.func58, Try.ntmps58
    go_wp2_with fail
    refine CN.out.mono ?_
    rintro e w1 ⟨rfl, hx⟩
    have HX := Lib.hid hx; clear hx
    go_wp2_with fail
    refine (CC.out _).mono ?_
    rintro e w2 ⟨rfl, hx⟩
    have HX := Lib.hid (HX.out.trans hx); clear hx
    have CF := Lib.hid (fail_any B r w2 (HX.out.keeps.rd H.out trivial))
    go_wp2_with fail
    refine CF.out.mono ?_
    rintro e w3 ⟨⟨v, rfl⟩, hr1, hk1, _⟩
    have HP : Hid (_ ∧ _) := Lib.hid ⟨hr1, (HX.out.keeps.mono fun _ _ _ => trivial).trans hk1⟩
    clear hr1 hk1
    go_wp2
    go_ret
    exact ⟨by rw [HR.out]; rfl, by rw [HR.out]; exact HP.out.1, HP.out.2⟩

/-- What Part makes. -/
def partR (r : Rd) (n : Int) : Rd := if (rawR r n).2.bad then Rd.failed else ⟨(rawR r n).2.s.extract 0 (rawR r n).2.at_, r.at_, false⟩

/-- What a part lies at, and what is left. -/
def PartPost (B : Nat) (r : Rd) (n : Int) (w : World) (e : Ending) (w' : World) : Prop :=
  ∃ P, w.heap.size ≤ P ∧ e = .returned (.pointer (some ⟨P, 0, none⟩)) ∧ RdAt w' P (partR r n) ∧ RdAt w' B (rawR r n).2 ∧ Keeps (fun k => k ≠ B) w w'

theorem rawR_ok {r : Rd} (h : r.ok) (n : Int) : (rawR r n).2.ok := by
  unfold rawR
  split
  · exact ⟨Nat.le_refl _, Nat.zero_le _⟩
  · next hc =>
    obtain ⟨h1, h2⟩ := h
    unfold Rd.left at hc
    refine ⟨?_, h2⟩
    show r.at_ + n.toNat ≤ r.s.size
    omega

set_option maxRecDepth 100000 in
set_option maxHeartbeats 2000000 in
theorem Part_any (B : Nat) (r : Rd) (n : Int) (w : World) (h : RdAt w B r) (hr : r.ok) (hn : -9223372036854775808 ≤ n ∧ n ≤ 9223372036854775807) :
    Calls Try.prog 80 #[.pointer (some ⟨B, 0, none⟩), .int .i64 n] w (PartPost B r n w) := by
  have CR := Lib.hid (Raw_any B r n w h hr hn)
  obtain ⟨c0, c1, c2, f0, f1, f2⟩ := h.cells
  have hok := rawR_ok hr n
  have hB : B < w.heap.size := (Array.getElem?_eq_some_iff.1 h).1
  obtain ⟨h1, h2⟩ := hr
  have hpt : partR r n = if (rawR r n).2.bad then Rd.failed else ⟨(rawR r n).2.s.extract 0 (rawR r n).2.at_, r.at_, false⟩ := rfl
  obtain ⟨p, hp⟩ : ∃ p, r.at_ = p := ⟨_, rfl⟩
  rw [hp] at c1 h1 hpt
  obtain ⟨⟨t, s2, p2, bad2⟩, hq⟩ : ∃ q, rawR r n = q := ⟨_, rfl⟩
  have Hq := Lib.hid hq
  rw [hq] at hpt CR hok
  obtain ⟨k1, k2⟩ := hok
  simp only at k1 k2
  have Hpt := Lib.hid hpt
  have hmx : Try.prog.follows .mixedOrders = true := by kernel_rfl
  clear hq hpt h c0 c2 f0 f1 f2 hp
  go_enter Try.func80, Try.ntmps80
  go_wp2_with fail
  refine CR.out.mono ?_
  rintro e w1 ⟨rfl, hr1, hk1, hz1⟩
  obtain ⟨c0, c1', c2, f0, f1, f2⟩ := hr1.cells
  simp only at c0 c1' c2
  have HR1 := Lib.hid hr1; clear hr1
  have HK1 := Lib.hid hk1; clear hk1
  have Hz1 := Lib.hid hz1; clear hz1
  clear c1
  cases bad2 with
  | true =>
    go_wp2
    go_ret
    refine ⟨w1.heap.size, by rw [Hz1.out]; exact Nat.le_refl _, rfl, ?_, ?_, HK1.out.alloc _⟩
    · rw [Hpt.out]; exact World.alloc_heap_new w1 _
    · rw [Hq.out]; exact ((Keeps.refl (fun _ => True) w1).alloc _).rd HR1.out trivial
  | false =>
    have x1 : (p2 : Int) ≤ s2.size := by omega
    have x2 : (0 : Int) ≤ (p2 : Int) := by omega
    go_wp2_with fail
    go_region
    all_goals
      go_wp2
      go_ret
      refine ⟨w1.heap.size, by rw [Hz1.out]; exact Nat.le_refl _, rfl, ?_, ?_, (HK1.out.alloc _).drew⟩
      · rw [Hpt.out]; exact World.alloc_heap_new w1 _
      · rw [Hq.out]; exact ((Keeps.refl (fun _ => True) w1).alloc _).rd HR1.out trivial

end Go.Proofs.Yteoelhhkdfmaiaa

/- What pack's numbers are: value, isWidth. Conditions: none. -/
namespace Go.Proofs.Yteoelhhkdfmaiaa
open Go Go.RowKit Go.Shelf
attribute [local go_sem] Oper.semAt_some wide_fn wide_depth

/-- A number, the highest byte first. -/
def beF (n : Nat) : List UInt8 → Nat
  | [] => n
  | b :: r => beF (n * 256 + b.toNat) r
def beN (l : List UInt8) : Nat := beF 0 l
theorem beF_snoc : ∀ (l : List UInt8) (n : Nat) (b : UInt8), beF n (l ++ [b]) = beF n l * 256 + b.toNat
  | [], _, _ => rfl
  | a :: r, n, b => beF_snoc r (n * 256 + a.toNat) b
theorem beN_snoc (l : List UInt8) (b : UInt8) : beN (l ++ [b]) = beN l * 256 + b.toNat := beF_snoc l 0 b
theorem beF_lt : ∀ (l : List UInt8) (n m : Nat), n < 256 ^ m → beF n l < 256 ^ (m + l.length)
  | [], n, m, h => h
  | a :: r, n, m, h => by
    have := a.toNat_lt
    have h2 := beF_lt r (n * 256 + a.toNat) (m + 1) (by rw [Nat.pow_succ]; omega)
    rw [List.length_cons, show m + (r.length + 1) = m + 1 + r.length by omega]
    exact h2
theorem beN_lt (l : List UInt8) : beN l < 256 ^ l.length := by
  have := beF_lt l 0 0 (by decide)
  rwa [Nat.zero_add] at this

theorem u64_join (a b : Nat) (ha : a < 72057594037927936) (hb : b < 256) : bits .or .u64 ((a : Int) * 256) (b : Int) = (a : Int) * 256 + b := by
  have h := bits_or_u64_nat (a * 256) b (by omega) (by omega)
  rw [nat_join 8 (a * 256) b (by omega) (by omega)] at h
  simpa using h

/-- A number's bytes as Go has them. -/
def arr8 (b0 b1 b2 b3 b4 b5 b6 b7 : UInt8) : Array Value :=
  #[.int .u8 (b0.toNat : Int), .int .u8 (b1.toNat : Int), .int .u8 (b2.toNat : Int), .int .u8 (b3.toNat : Int), .int .u8 (b4.toNat : Int), .int .u8 (b5.toNat : Int), .int .u8 (b6.toNat : Int), .int .u8 (b7.toNat : Int)]

set_option maxRecDepth 100000 in
set_option maxHeartbeats 2000000 in
theorem value_any (b0 b1 b2 b3 b4 b5 b6 b7 : UInt8) (w : World) :
    Calls Try.prog 93 #[.agg (arr8 b0 b1 b2 b3 b4 b5 b6 b7)] w fun e w' => e = .returned (.int .u64 (beN [b0, b1, b2, b3, b4, b5, b6, b7])) ∧ Ext w w' := by
  have hidx : ∀ k : Nat, k < 8 → ∃ c : UInt8, [b0, b1, b2, b3, b4, b5, b6, b7][k]? = some c ∧ ∀ W, (Instr.index 112 (.agg (arr8 b0 b1 b2 b3 b4 b5 b6 b7)) (.int .i64 (k : Int))).run Try.prog W = .ok (.int .u8 (c.toNat : Int)) W := by
    intro k hk
    match k, hk with
    | 0, _ => exact ⟨_, rfl, fun _ => by kernel_rfl⟩
    | 1, _ => exact ⟨_, rfl, fun _ => by kernel_rfl⟩
    | 2, _ => exact ⟨_, rfl, fun _ => by kernel_rfl⟩
    | 3, _ => exact ⟨_, rfl, fun _ => by kernel_rfl⟩
    | 4, _ => exact ⟨_, rfl, fun _ => by kernel_rfl⟩
    | 5, _ => exact ⟨_, rfl, fun _ => by kernel_rfl⟩
    | 6, _ => exact ⟨_, rfl, fun _ => by kernel_rfl⟩
    | 7, _ => exact ⟨_, rfl, fun _ => by kernel_rfl⟩
  have Hidx := Lib.hid hidx; clear hidx
  obtain ⟨l, hl⟩ : ∃ l, [b0, b1, b2, b3, b4, b5, b6, b7] = l := ⟨_, rfl⟩
  have hll : l.length = 8 := by rw [← hl]; rfl
  rw [hl] at Hidx
  rw [hl]
  clear hl
  unfold arr8 at Hidx ⊢
  go_enter Try.func93, Try.ntmps93
  go_wp2
  go_loop [3, 7] (fun n i => ∃ k : Nat, k ≤ 8 ∧ i = .int .i64 k ∧ n = .int .u64 ((beN (l.take k) : Nat) : Int)) (fun _ i => 8 - (intOf i).toNat)
  case atStart => exact ⟨0, by omega, rfl, rfl⟩
  case round =>
    obtain ⟨k, hk, rfl, rfl⟩ := hrel
    have hlt := beN_lt (l.take k)
    by_cases hk8 : k < 8
    · obtain ⟨c, hc, hidx⟩ := Hidx.out k hk8
      have hlt2 : beN (l.take k) < 72057594037927936 := by
        have h1 : (l.take k).length ≤ 7 := by rw [List.length_take]; omega
        exact Nat.lt_of_lt_of_le hlt (Nat.le_trans (Nat.pow_le_pow_right (by omega) h1) (by decide))
      obtain ⟨hkl, hce⟩ := List.getElem?_eq_some_iff.1 hc
      have hs : beN (l.take (k + 1)) = beN (l.take k) * 256 + c.toNat := by rw [List.take_succ_eq_append_getElem hkl, beN_snoc, hce]
      have Hs := Lib.hid hs
      obtain ⟨m, hm⟩ : ∃ m, beN (l.take k) = m := ⟨_, rfl⟩
      obtain ⟨d, hd⟩ : ∃ d, c.toNat = d := ⟨_, rfl⟩
      rw [hm] at hlt2 Hs ⊢
      rw [hd] at hidx Hs
      have hd255 : d < 256 := by rw [← hd]; exact c.toNat_lt
      have q1 := u64_join m d hlt2 hd255
      clear hs hm hd hlt hkl hce hc
      go_wp2
      go_round
      case rel => exact ⟨k + 1, by omega, by simp, by rw [Hs.out]; simp⟩
      case measure => simp [intOf]; omega
    · obtain rfl : k = 8 := by omega
      rw [List.take_of_length_le (by omega)]
      clear hlt
      go_wp2
      go_ret
      exact ⟨rfl, (Ext.refl _).alloc _⟩

def widthB (n : Int) : Bool := decide (n = 1 ∨ n = 2 ∨ n = 4 ∨ n = 8)
set_option maxHeartbeats 1000000 in
theorem isWidth_any (n : Int) (w : World) :
    Calls Try.prog 91 #[.int .i64 n] w fun e w' => e = .returned (.bool (widthB n)) ∧ w = w' := by
  by_cases h1 : n = 1
  · subst h1
    go_enter Try.func91, Try.ntmps91
    go_wp2
    go_ret
    exact ⟨by rfl, rfl⟩
  · have h1' : (n == 1) = false := beq_eq_false_iff_ne.2 h1
    by_cases h2 : n = 2
    · subst h2
      go_enter Try.func91, Try.ntmps91
      go_wp2
      go_ret
      exact ⟨by rfl, rfl⟩
    · have h2' : (n == 2) = false := beq_eq_false_iff_ne.2 h2
      by_cases h4 : n = 4
      · subst h4
        go_enter Try.func91, Try.ntmps91
        go_wp2
        go_ret
        exact ⟨by rfl, rfl⟩
      · have h4' : (n == 4) = false := beq_eq_false_iff_ne.2 h4
        have h8 : (n == 8) = widthB n := by
          rw [Bool.eq_iff_iff]; simp [widthB]; omega
        go_enter Try.func91, Try.ntmps91
        go_wp2
        go_ret
        exact ⟨by rfl, rfl⟩

end Go.Proofs.Yteoelhhkdfmaiaa

/- What pack's numberOf makes: a number's eight bytes. Conditions: none. -/
namespace Go.Proofs.Yteoelhhkdfmaiaa
open Go Go.RowKit Go.Shelf
attribute [local go_sem] Oper.semAt_some wide_fn wide_depth

theorem Keeps.setRow {K : Nat → Prop} {a w : World} (h : Keeps K a w) {g : Nat} (hg : ¬ K g) (cs : Array Value) : Keeps K a (w.setRow g cs) :=
  h.trans ⟨rfl, rfl, rfl, by simp, fun k _ hk => setRow_other w g k cs (fun e => hg (e ▸ hk))⟩

/-- The byte k of a number, the lowest being 0. -/
def byB (n k : Nat) : UInt8 := UInt8.ofNat (n / 256 ^ k % 256)
def num8 (n : Nat) : Array Value := arr8 (byB n 7) (byB n 6) (byB n 5) (byB n 4) (byB n 3) (byB n 2) (byB n 1) (byB n 0)
/-- A number's bytes, of which those from j on are written. -/
def pb8 (n j x : Nat) : Value := .int .u8 (if j ≤ x then ((byB n (7 - x)).toNat : Int) else 0)
def part8 (n j : Nat) : Array Value := #[pb8 n j 0, pb8 n j 1, pb8 n j 2, pb8 n j 3, pb8 n j 4, pb8 n j 5, pb8 n j 6, pb8 n j 7]
theorem part8_0 (n : Nat) : part8 n 0 = num8 n := by simp [part8, pb8, num8, arr8]
theorem part8_8 (n : Nat) : part8 n 8 = #[.int .u8 0, .int .u8 0, .int .u8 0, .int .u8 0, .int .u8 0, .int .u8 0, .int .u8 0, .int .u8 0] := by simp [part8, pb8]
theorem part8_step (n j : Nat) (hj : j < 8) : (part8 n (j + 1)).setIfInBounds j (.int .u8 ((byB n (7 - j)).toNat : Int)) = part8 n j := by
  match j, hj with
  | 0, _ => simp [part8, pb8]
  | 1, _ => simp [part8, pb8]
  | 2, _ => simp [part8, pb8]
  | 3, _ => simp [part8, pb8]
  | 4, _ => simp [part8, pb8]
  | 5, _ => simp [part8, pb8]
  | 6, _ => simp [part8, pb8]
  | 7, _ => simp [part8, pb8]
theorem part8_at (n j x : Nat) (hx : x < 8) : (part8 n j)[x]? = some (pb8 n j x) := by
  match x, hx with
  | 0, _ => rfl
  | 1, _ => rfl
  | 2, _ => rfl
  | 3, _ => rfl
  | 4, _ => rfl
  | 5, _ => rfl
  | 6, _ => rfl
  | 7, _ => rfl

set_option maxRecDepth 100000 in
set_option maxHeartbeats 2000000 in
theorem numberOf_any (n : Nat) (w : World) (hn : n < 18446744073709551616) :
    Calls Try.prog 116 #[.int .u64 (n : Int)] w fun e w' => e = .returned (.agg (num8 n)) ∧ Ext w w' := by
  go_enter Try.func116, Try.ntmps116
  go_wp2
  go_loopw [0, 4] (fun m i wr => ∃ j : Nat, j ≤ 8 ∧ i = .int .i64 ((j : Int) - 1) ∧ m = .int .u64 ((n / 256 ^ (8 - j) : Nat) : Int) ∧ wr.heap[w.heap.size + 1]? = some (.cells (part8 n j) 112 (0, 0)) ∧
      wr.heap[w.heap.size]? = some (.cells (part8 n 8) 112 (0, 0)) ∧ Ext w wr)
    (fun _ i _ => (intOf i + 1).toNat)
  case atStart =>
    refine ⟨8, Nat.le_refl _, rfl, by simp, ?_, ?_, ((Ext.refl _).alloc _).alloc _⟩
    · rw [part8_8]
      have := World.alloc_heap_new (w.alloc (.cells #[.int .u8 0, .int .u8 0, .int .u8 0, .int .u8 0, .int .u8 0, .int .u8 0, .int .u8 0, .int .u8 0] 112)) (.cells #[.int .u8 0, .int .u8 0, .int .u8 0, .int .u8 0, .int .u8 0, .int .u8 0, .int .u8 0, .int .u8 0] 112)
      rw [World.size_alloc] at this
      exact this
    · rw [part8_8]
      exact (Below.heap_alloc _ _ _ (by simp)).trans (World.alloc_heap_new w _)
  case round =>
    obtain ⟨j, hj, rfl, rfl, hb1, hb0, hx⟩ := hrel
    have Hx := Lib.hid hx; clear hx
    by_cases h0 : 1 ≤ j
    · obtain ⟨j, rfl⟩ : ∃ j', j = j' + 1 := ⟨j - 1, by omega⟩
      have c1 : wr.cell? ⟨w.heap.size + 1, j, none⟩ = some (pb8 n (j + 1) j) := by
        rw [cell_of_row wr _ j _ _ _ hb1]; exact part8_at n (j + 1) j (by omega)
      have f1 : wr.frozen? ⟨w.heap.size + 1, j, none⟩ = false := Lib.frozen_of_heap hb1 j
      obtain ⟨m, hm⟩ : ∃ m, n / 256 ^ (8 - (j + 1)) = m := ⟨_, rfl⟩
      have hml : m < 18446744073709551616 := by rw [← hm]; exact Nat.lt_of_le_of_lt (Nat.div_le_self _ _) hn
      have hnx : n / 256 ^ (8 - j) = m / 256 := by
        rw [← hm, Nat.div_div_eq_div_mul, ← Nat.pow_succ, show (8 - (j + 1)).succ = 8 - j by omega]
      have hby : ((m % 256 : Nat) : Int) = ((byB n (7 - j)).toNat : Int) := by
        rw [byB, show 7 - j = 8 - (j + 1) by omega, hm]; simp
      rw [hm]
      have Hnx := Lib.hid hnx
      have Hby := Lib.hid hby
      rw [Int.natCast_emod] at Hby
      have Hb1 := Lib.hid hb1
      have Hb0 := Lib.hid hb0
      clear hnx hby hb1 hb0 hm
      rw [show (((j + 1 : Nat) : Int) - 1) = (j : Int) by omega]
      have x1 : (j : Int) < 8 := by omega
      go_wp2
      go_roundw
      case rel =>
        refine ⟨j, by omega, rfl, by rw [Hnx.out]; simp, ?_, ?_, ?_⟩
        · rw [show ((m : Int) % 256) = _ from Hby.out, heap_setCell_same _ _ _ _ _ _ Hb1.out, part8_step n j (by omega)]
        · rw [heap_setCell_other _ _ _ _ (by simp)]; exact Hb0.out
        · exact Below.setCell Hx.out (p := ⟨w.heap.size + 1, j, none⟩) (by simp) _
      case measure => simp [intOf]
    · obtain rfl : j = 0 := by omega
      have Hb1 := Lib.hid hb1
      have Hb0 := Lib.hid hb0
      clear hb1 hb0
      go_wp2_with (first
        | (with_reducible refine wpList_load_row rfl _ _ rfl (w.heap.size + 1) rfl _ _ _ _ Hb1.out Try.underlying112 rfl (by kernel_rfl) ?_)
        | (refine wpList_store_row rfl _ _ _ rfl w.heap.size (part8 n 0) rfl rfl _ _ Hb0.out (by kernel_rfl) rfl (by kernel_rfl) ?_))
      refine bodyPost_ret (v := .agg (part8 n 0)) ?_ rfl ⟨by rw [part8_0], ?_⟩
      · exact results_cell_row (P := Try.prog) (fn := Try.f116) (p := 2) (ty := 112) rfl _ _ w.heap.size _ (part8 n 0) _ _ rfl (setRow_heap _ _ _ _ _ _ Hb0.out) Try.underlying112 rfl (by kernel_rfl)
      · exact ((Hx.out.keeps.mono (K' := fun k => k < w.heap.size) fun _ _ _ => trivial).setRow (by omega) _).ext fun _ h => h

end Go.Proofs.Yteoelhhkdfmaiaa

/- What pack's reader does with numbers: Num. Conditions: a reader that Open, or Part, made. -/
namespace Go.Proofs.Yteoelhhkdfmaiaa
open Go Go.RowKit Go.Shelf
attribute [local go_sem] Oper.semAt_some wide_fn wide_depth

def enc8 (b : UInt8) : Value := .int .u8 (b.toNat : Int)
theorem value_list (l : List UInt8) (w : World) (h : l.length = 8) :
    Calls Try.prog 93 #[.agg (l.map enc8).toArray] w fun e w' => e = .returned (.int .u64 (beN l)) ∧ Ext w w' := by
  match l, h with
  | [b0, b1, b2, b3, b4, b5, b6, b7], _ => exact value_any b0 b1 b2 b3 b4 b5 b6 b7 w
theorem beF_zeros : ∀ (n : Nat) (l : List UInt8), beF 0 (List.replicate n 0 ++ l) = beF 0 l
  | 0, _ => rfl
  | n + 1, l => by rw [List.replicate_succ, List.cons_append, beF]; exact beF_zeros n l

/-- What Num answers. -/
def numR (r : Rd) (width : Int) : Nat × Rd := if widthB width then (beN (bl (rawR r width).1), (rawR r width).2) else (0, Rd.failed)
theorem rawR_size (r : Rd) (n : Nat) (hr : r.ok) : (rawR r n).1.size = n ∨ (rawR r n).1 = ⟨#[]⟩ := by
  unfold rawR
  split
  · exact .inr rfl
  · next hc =>
    left
    obtain ⟨h1, h2⟩ := hr
    unfold Rd.left at hc
    show (r.s.extract r.at_ (r.at_ + ((n : Int)).toNat)).size = n
    rw [ByteArray.size_extract, Int.toNat_natCast]
    omega

theorem copy8 (W : World) (A k : Nat) (t : ByteArray) (hk : k ≤ 8) (hs : t.size = k ∨ t = ⟨#[]⟩)
    (h : W.heap[A]? = some (.cells #[.int .u8 0, .int .u8 0, .int .u8 0, .int .u8 0, .int .u8 0, .int .u8 0, .int .u8 0, .int .u8 0] 112 (0, 0))) :
    (Builtin.copy_ #[68, 9] 3 #[.slice (some ⟨A, 8 - k, none⟩) k k, .string t]).run Try.prog W = .ok (goInt t.size) (W.setRow A ((List.replicate (8 - t.size) 0 ++ bl t).map enc8).toArray) := by
  by_cases h0 : t.size = 0
  · obtain rfl : t = ⟨#[]⟩ := bl_inj (List.eq_nil_of_length_eq_zero h0)
    have h1 := Lib.run_copy_empty_string (P := Try.prog) W 68 9 3 5 (some ⟨A, 8 - k, none⟩) k k ⟨#[]⟩ Try.underlying68 (by kernel_rfl) rfl
    rw [h1]
    have h2 := setRow_self W A _ _ _ h
    have h3 : ((List.replicate (8 - (⟨#[]⟩ : ByteArray).size) 0 ++ bl ⟨#[]⟩).map enc8).toArray = #[.int .u8 0, .int .u8 0, .int .u8 0, .int .u8 0, .int .u8 0, .int .u8 0, .int .u8 0, .int .u8 0] := by kernel_rfl
    rw [h3, h2]
    rfl
  · have hs' : t.size = k := by
      rcases hs with hs | hs
      · exact hs
      · subst hs; exact absurd rfl h0
    have h1 := Lib.run_copy_row_string (P := Try.prog) W 68 9 3 5 A (8 - k) k k t _ _ Try.underlying68 (by kernel_rfl) h (by omega) (by simp; omega)
    rw [h1]
    have hz : (#[.int .u8 0, .int .u8 0, .int .u8 0, .int .u8 0, .int .u8 0, .int .u8 0, .int .u8 0, .int .u8 0] : Array Value).toList = List.replicate 8 (enc8 0) := by kernel_rfl
    rw [hz, List.take_replicate, List.drop_replicate, hs', show min (8 - k) 8 = 8 - k by omega, show 8 - (8 - k + k) = 0 by omega, List.replicate_zero, List.append_nil, List.map_append, List.map_replicate]
    rfl

set_option maxRecDepth 100000 in
set_option maxHeartbeats 4000000 in
theorem Num_any (B : Nat) (r : Rd) (k : Nat) (w : World) (h : RdAt w B r) (hr : r.ok) (hk : k = 1 ∨ k = 2 ∨ k = 4 ∨ k = 8) :
    Calls Try.prog 60 #[.pointer (some ⟨B, 0, none⟩), .int .i64 k] w fun e w' => e = .returned (.int .u64 ((numR r k).1 : Int)) ∧ RdAt w' B (numR r k).2 ∧ Keeps (fun j => j ≠ B) w w' := by
  have hwd : widthB (k : Int) = true := by unfold widthB; exact decide_eq_true (by omega)
  have CW := Lib.hid fun W => isWidth_any (k : Int) W
  rw [hwd] at CW
  have hB : B < w.heap.size := (Array.getElem?_eq_some_iff.1 h).1
  have CR := Lib.hid fun W (h : RdAt W B r) => Raw_any B r k W h hr (by omega)
  have hn : numR r k = (beN (bl (rawR r k).1), (rawR r k).2) := by rw [numR, if_pos hwd]
  have hsz := rawR_size r k hr
  obtain ⟨⟨t, r'⟩, hq⟩ : ∃ q, rawR r k = q := ⟨_, rfl⟩
  rw [hq] at CR hn hsz
  simp only at hn hsz
  have Hn := Lib.hid hn
  have H := Lib.hid h
  clear hn hq h hwd
  have hmx : Try.prog.follows .mixedOrders = true := by kernel_rfl
  obtain ⟨AR, hAR⟩ : ∃ AR : Array Value, ((List.replicate (8 - t.size) 0 ++ bl t).map enc8).toArray = AR := ⟨_, rfl⟩
  have HAR := Lib.hid hAR
  have hl8 : (List.replicate (8 - t.size) 0 ++ bl t).length = 8 := by
    rw [List.length_append, List.length_replicate, bl_size]
    rcases hsz with h | h
    · omega
    · subst h; rfl
  have CV := Lib.hid fun W => value_list (List.replicate (8 - t.size) 0 ++ bl t) W hl8
  rw [hAR, beN, beF_zeros] at CV
  have Hsz8 : Hid ((Try.prog.info? 112).map (·.size) = some AR.size) := Lib.hid (by rw [← hAR, List.size_toArray, List.length_map, hl8]; kernel_rfl)
  clear hAR hl8
  rcases hk with rfl | rfl | rfl | rfl
  · rw [show (((1 : Nat) : Int)) = 1 from rfl] at CR CW Hn ⊢
    go_enter Try.func60, Try.ntmps60
    go_wp2_with fail
    refine (CW.out _).mono ?_
    rintro e w1 ⟨rfl, rfl⟩
    go_wp2_with fail
    have hA := World.alloc_heap_new w (.cells #[.int .u8 0, .int .u8 0, .int .u8 0, .int .u8 0, .int .u8 0, .int .u8 0, .int .u8 0, .int .u8 0] 112)
    have hR : RdAt (w.alloc (.cells #[.int .u8 0, .int .u8 0, .int .u8 0, .int .u8 0, .int .u8 0, .int .u8 0, .int .u8 0, .int .u8 0] 112)) B r := ((Keeps.refl (fun _ => True) w).alloc _).rd H.out trivial
    have hK := (Keeps.refl (fun j => j ≠ B) w).alloc (.cells #[.int .u8 0, .int .u8 0, .int .u8 0, .int .u8 0, .int .u8 0, .int .u8 0, .int .u8 0, .int .u8 0] 112)
    generalize w.alloc (.cells #[.int .u8 0, .int .u8 0, .int .u8 0, .int .u8 0, .int .u8 0, .int .u8 0, .int .u8 0, .int .u8 0] 112) = W0 at hA hR hK ⊢
    obtain ⟨A, hAe⟩ : ∃ A, w.heap.size = A := ⟨_, rfl⟩
    rw [hAe] at hA hB ⊢
    have HA := Lib.hid hA; clear hA
    have HR := Lib.hid hR; clear hR
    have HK := Lib.hid hK; clear hK
    have HAe := Lib.hid hAe; clear hAe
    have q7 : IntKind.i64.wrap (7 : Int) = 7 := by decide
    have HC : Hid (∀ W : World, W.heap[A]? = some (.cells #[.int .u8 0, .int .u8 0, .int .u8 0, .int .u8 0, .int .u8 0, .int .u8 0, .int .u8 0, .int .u8 0] 112 (0, 0)) →
        (Builtin.copy_ #[68, 9] 3 #[.slice (some ⟨A, 7, none⟩) 1 1, .string t]).run Try.prog W = .ok (goInt t.size) (W.setRow A AR)) :=
      Lib.hid fun W h => by rw [← HAR.out]; exact copy8 W A 1 t (by omega) hsz h
    go_region_with (first | (go_at_call 92; refine (CR.out W0.drew HR.out).mono ?_; rintro e w2 ⟨rfl, hr2, hk2, hz2⟩; have hA2 := Lib.hid (hk2.heap HA.out (show A ≠ B by omega)); have hcp := HC.out w2 hA2.out; have HP := Lib.hid (And.intro hr2 (And.intro hk2 hz2)); clear hr2 hk2 hz2))
    all_goals
      have hrow := setRow_heap w2 A _ AR _ _ hA2.out
      have hr3 : RdAt (w2.setRow A AR) B r' := (setRow_other w2 A B AR (by omega)).trans HP.out.1
      have hk3 : Keeps (fun j => j ≠ B ∧ j ≠ A) w (w2.setRow A AR) := ((HK.out.mono fun _ _ h => h.1).trans ((Keeps.refl _ W0).drew.trans (HP.out.2.1.mono fun _ _ h => h.1))).setRow (fun h => h.2 rfl) _
      generalize w2.setRow A AR = W3 at hrow hr3 hk3 ⊢
      have Hrow := Lib.hid hrow; clear hrow
      have HQ := Lib.hid (And.intro hr3 hk3); clear hr3 hk3
      clear hcp HC q7
      go_wp2_with (refine wpList_load_row rfl _ _ rfl A rfl _ _ _ _ Hrow.out Try.underlying112 rfl Hsz8.out ?_)
      refine (CV.out W3).mono ?_
      rintro e w4 ⟨rfl, hx4⟩
      have HX4 := Lib.hid hx4; clear hx4
      go_wp2
      go_ret
      refine ⟨by rw [Hn.out]; rfl, by rw [Hn.out]; exact HX4.out.keeps.rd HQ.out.1 trivial, ?_⟩
      exact (HQ.out.2.trans (HX4.out.keeps.mono fun _ _ _ => trivial)).mono fun j hj h => ⟨h, by have := HAe.out; omega⟩
  · rw [show (((2 : Nat) : Int)) = 2 from rfl] at CR CW Hn ⊢
    go_enter Try.func60, Try.ntmps60
    go_wp2_with fail
    refine (CW.out _).mono ?_
    rintro e w1 ⟨rfl, rfl⟩
    go_wp2_with fail
    have hA := World.alloc_heap_new w (.cells #[.int .u8 0, .int .u8 0, .int .u8 0, .int .u8 0, .int .u8 0, .int .u8 0, .int .u8 0, .int .u8 0] 112)
    have hR : RdAt (w.alloc (.cells #[.int .u8 0, .int .u8 0, .int .u8 0, .int .u8 0, .int .u8 0, .int .u8 0, .int .u8 0, .int .u8 0] 112)) B r := ((Keeps.refl (fun _ => True) w).alloc _).rd H.out trivial
    have hK := (Keeps.refl (fun j => j ≠ B) w).alloc (.cells #[.int .u8 0, .int .u8 0, .int .u8 0, .int .u8 0, .int .u8 0, .int .u8 0, .int .u8 0, .int .u8 0] 112)
    generalize w.alloc (.cells #[.int .u8 0, .int .u8 0, .int .u8 0, .int .u8 0, .int .u8 0, .int .u8 0, .int .u8 0, .int .u8 0] 112) = W0 at hA hR hK ⊢
    obtain ⟨A, hAe⟩ : ∃ A, w.heap.size = A := ⟨_, rfl⟩
    rw [hAe] at hA hB ⊢
    have HA := Lib.hid hA; clear hA
    have HR := Lib.hid hR; clear hR
    have HK := Lib.hid hK; clear hK
    have HAe := Lib.hid hAe; clear hAe
    have q7 : IntKind.i64.wrap (6 : Int) = 6 := by decide
    have HC : Hid (∀ W : World, W.heap[A]? = some (.cells #[.int .u8 0, .int .u8 0, .int .u8 0, .int .u8 0, .int .u8 0, .int .u8 0, .int .u8 0, .int .u8 0] 112 (0, 0)) →
        (Builtin.copy_ #[68, 9] 3 #[.slice (some ⟨A, 6, none⟩) 2 2, .string t]).run Try.prog W = .ok (goInt t.size) (W.setRow A AR)) :=
      Lib.hid fun W h => by rw [← HAR.out]; exact copy8 W A 2 t (by omega) hsz h
    go_region_with (first | (go_at_call 92; refine (CR.out W0.drew HR.out).mono ?_; rintro e w2 ⟨rfl, hr2, hk2, hz2⟩; have hA2 := Lib.hid (hk2.heap HA.out (show A ≠ B by omega)); have hcp := HC.out w2 hA2.out; have HP := Lib.hid (And.intro hr2 (And.intro hk2 hz2)); clear hr2 hk2 hz2))
    all_goals
      have hrow := setRow_heap w2 A _ AR _ _ hA2.out
      have hr3 : RdAt (w2.setRow A AR) B r' := (setRow_other w2 A B AR (by omega)).trans HP.out.1
      have hk3 : Keeps (fun j => j ≠ B ∧ j ≠ A) w (w2.setRow A AR) := ((HK.out.mono fun _ _ h => h.1).trans ((Keeps.refl _ W0).drew.trans (HP.out.2.1.mono fun _ _ h => h.1))).setRow (fun h => h.2 rfl) _
      generalize w2.setRow A AR = W3 at hrow hr3 hk3 ⊢
      have Hrow := Lib.hid hrow; clear hrow
      have HQ := Lib.hid (And.intro hr3 hk3); clear hr3 hk3
      clear hcp HC q7
      go_wp2_with (refine wpList_load_row rfl _ _ rfl A rfl _ _ _ _ Hrow.out Try.underlying112 rfl Hsz8.out ?_)
      refine (CV.out W3).mono ?_
      rintro e w4 ⟨rfl, hx4⟩
      have HX4 := Lib.hid hx4; clear hx4
      go_wp2
      go_ret
      refine ⟨by rw [Hn.out]; rfl, by rw [Hn.out]; exact HX4.out.keeps.rd HQ.out.1 trivial, ?_⟩
      exact (HQ.out.2.trans (HX4.out.keeps.mono fun _ _ _ => trivial)).mono fun j hj h => ⟨h, by have := HAe.out; omega⟩
  · rw [show (((4 : Nat) : Int)) = 4 from rfl] at CR CW Hn ⊢
    go_enter Try.func60, Try.ntmps60
    go_wp2_with fail
    refine (CW.out _).mono ?_
    rintro e w1 ⟨rfl, rfl⟩
    go_wp2_with fail
    have hA := World.alloc_heap_new w (.cells #[.int .u8 0, .int .u8 0, .int .u8 0, .int .u8 0, .int .u8 0, .int .u8 0, .int .u8 0, .int .u8 0] 112)
    have hR : RdAt (w.alloc (.cells #[.int .u8 0, .int .u8 0, .int .u8 0, .int .u8 0, .int .u8 0, .int .u8 0, .int .u8 0, .int .u8 0] 112)) B r := ((Keeps.refl (fun _ => True) w).alloc _).rd H.out trivial
    have hK := (Keeps.refl (fun j => j ≠ B) w).alloc (.cells #[.int .u8 0, .int .u8 0, .int .u8 0, .int .u8 0, .int .u8 0, .int .u8 0, .int .u8 0, .int .u8 0] 112)
    generalize w.alloc (.cells #[.int .u8 0, .int .u8 0, .int .u8 0, .int .u8 0, .int .u8 0, .int .u8 0, .int .u8 0, .int .u8 0] 112) = W0 at hA hR hK ⊢
    obtain ⟨A, hAe⟩ : ∃ A, w.heap.size = A := ⟨_, rfl⟩
    rw [hAe] at hA hB ⊢
    have HA := Lib.hid hA; clear hA
    have HR := Lib.hid hR; clear hR
    have HK := Lib.hid hK; clear hK
    have HAe := Lib.hid hAe; clear hAe
    have q7 : IntKind.i64.wrap (4 : Int) = 4 := by decide
    have HC : Hid (∀ W : World, W.heap[A]? = some (.cells #[.int .u8 0, .int .u8 0, .int .u8 0, .int .u8 0, .int .u8 0, .int .u8 0, .int .u8 0, .int .u8 0] 112 (0, 0)) →
        (Builtin.copy_ #[68, 9] 3 #[.slice (some ⟨A, 4, none⟩) 4 4, .string t]).run Try.prog W = .ok (goInt t.size) (W.setRow A AR)) :=
      Lib.hid fun W h => by rw [← HAR.out]; exact copy8 W A 4 t (by omega) hsz h
    go_region_with (first | (go_at_call 92; refine (CR.out W0.drew HR.out).mono ?_; rintro e w2 ⟨rfl, hr2, hk2, hz2⟩; have hA2 := Lib.hid (hk2.heap HA.out (show A ≠ B by omega)); have hcp := HC.out w2 hA2.out; have HP := Lib.hid (And.intro hr2 (And.intro hk2 hz2)); clear hr2 hk2 hz2))
    all_goals
      have hrow := setRow_heap w2 A _ AR _ _ hA2.out
      have hr3 : RdAt (w2.setRow A AR) B r' := (setRow_other w2 A B AR (by omega)).trans HP.out.1
      have hk3 : Keeps (fun j => j ≠ B ∧ j ≠ A) w (w2.setRow A AR) := ((HK.out.mono fun _ _ h => h.1).trans ((Keeps.refl _ W0).drew.trans (HP.out.2.1.mono fun _ _ h => h.1))).setRow (fun h => h.2 rfl) _
      generalize w2.setRow A AR = W3 at hrow hr3 hk3 ⊢
      have Hrow := Lib.hid hrow; clear hrow
      have HQ := Lib.hid (And.intro hr3 hk3); clear hr3 hk3
      clear hcp HC q7
      go_wp2_with (refine wpList_load_row rfl _ _ rfl A rfl _ _ _ _ Hrow.out Try.underlying112 rfl Hsz8.out ?_)
      refine (CV.out W3).mono ?_
      rintro e w4 ⟨rfl, hx4⟩
      have HX4 := Lib.hid hx4; clear hx4
      go_wp2
      go_ret
      refine ⟨by rw [Hn.out]; rfl, by rw [Hn.out]; exact HX4.out.keeps.rd HQ.out.1 trivial, ?_⟩
      exact (HQ.out.2.trans (HX4.out.keeps.mono fun _ _ _ => trivial)).mono fun j hj h => ⟨h, by have := HAe.out; omega⟩
  · rw [show (((8 : Nat) : Int)) = 8 from rfl] at CR CW Hn ⊢
    go_enter Try.func60, Try.ntmps60
    go_wp2_with fail
    refine (CW.out _).mono ?_
    rintro e w1 ⟨rfl, rfl⟩
    go_wp2_with fail
    have hA := World.alloc_heap_new w (.cells #[.int .u8 0, .int .u8 0, .int .u8 0, .int .u8 0, .int .u8 0, .int .u8 0, .int .u8 0, .int .u8 0] 112)
    have hR : RdAt (w.alloc (.cells #[.int .u8 0, .int .u8 0, .int .u8 0, .int .u8 0, .int .u8 0, .int .u8 0, .int .u8 0, .int .u8 0] 112)) B r := ((Keeps.refl (fun _ => True) w).alloc _).rd H.out trivial
    have hK := (Keeps.refl (fun j => j ≠ B) w).alloc (.cells #[.int .u8 0, .int .u8 0, .int .u8 0, .int .u8 0, .int .u8 0, .int .u8 0, .int .u8 0, .int .u8 0] 112)
    generalize w.alloc (.cells #[.int .u8 0, .int .u8 0, .int .u8 0, .int .u8 0, .int .u8 0, .int .u8 0, .int .u8 0, .int .u8 0] 112) = W0 at hA hR hK ⊢
    obtain ⟨A, hAe⟩ : ∃ A, w.heap.size = A := ⟨_, rfl⟩
    rw [hAe] at hA hB ⊢
    have HA := Lib.hid hA; clear hA
    have HR := Lib.hid hR; clear hR
    have HK := Lib.hid hK; clear hK
    have HAe := Lib.hid hAe; clear hAe
    have q7 : IntKind.i64.wrap (0 : Int) = 0 := by decide
    have HC : Hid (∀ W : World, W.heap[A]? = some (.cells #[.int .u8 0, .int .u8 0, .int .u8 0, .int .u8 0, .int .u8 0, .int .u8 0, .int .u8 0, .int .u8 0] 112 (0, 0)) →
        (Builtin.copy_ #[68, 9] 3 #[.slice (some ⟨A, 0, none⟩) 8 8, .string t]).run Try.prog W = .ok (goInt t.size) (W.setRow A AR)) :=
      Lib.hid fun W h => by rw [← HAR.out]; exact copy8 W A 8 t (by omega) hsz h
    go_region_with (first | (go_at_call 92; refine (CR.out W0.drew HR.out).mono ?_; rintro e w2 ⟨rfl, hr2, hk2, hz2⟩; have hA2 := Lib.hid (hk2.heap HA.out (show A ≠ B by omega)); have hcp := HC.out w2 hA2.out; have HP := Lib.hid (And.intro hr2 (And.intro hk2 hz2)); clear hr2 hk2 hz2))
    all_goals
      have hrow := setRow_heap w2 A _ AR _ _ hA2.out
      have hr3 : RdAt (w2.setRow A AR) B r' := (setRow_other w2 A B AR (by omega)).trans HP.out.1
      have hk3 : Keeps (fun j => j ≠ B ∧ j ≠ A) w (w2.setRow A AR) := ((HK.out.mono fun _ _ h => h.1).trans ((Keeps.refl _ W0).drew.trans (HP.out.2.1.mono fun _ _ h => h.1))).setRow (fun h => h.2 rfl) _
      generalize w2.setRow A AR = W3 at hrow hr3 hk3 ⊢
      have Hrow := Lib.hid hrow; clear hrow
      have HQ := Lib.hid (And.intro hr3 hk3); clear hr3 hk3
      clear hcp HC q7
      go_wp2_with (refine wpList_load_row rfl _ _ rfl A rfl _ _ _ _ Hrow.out Try.underlying112 rfl Hsz8.out ?_)
      refine (CV.out W3).mono ?_
      rintro e w4 ⟨rfl, hx4⟩
      have HX4 := Lib.hid hx4; clear hx4
      go_wp2
      go_ret
      refine ⟨by rw [Hn.out]; rfl, by rw [Hn.out]; exact HX4.out.keeps.rd HQ.out.1 trivial, ?_⟩
      exact (HQ.out.2.trans (HX4.out.keeps.mono fun _ _ _ => trivial)).mono fun j hj h => ⟨h, by have := HAe.out; omega⟩

end Go.Proofs.Yteoelhhkdfmaiaa

/- The map of what was written, as a list: looked up, and added to. Conditions: texts that Go can hold. -/
namespace Go.Proofs.Yteoelhhkdfmaiaa
open Go Go.RowKit Go.Shelf

theorem keyLaw : Go.Maps.Keyed Try.prog 9 := Go.Maps.string_keyed Try.underlying9
theorem zeroI (w : World) : (zeroValue 3).run Try.prog w = .ok (.int .i64 0) w := by kernel_rfl

/-- Block b is a map that has what the list says. -/
def MapIs (W : World) (b : Nat) (l : List (List UInt8 × Nat)) : Prop :=
  ∃ D : DataW Unit, W.ownsMap Try.prog 9 (plainElem Try.prog 3) b l.length D ∧ Go.Maps.IsMap D ∧
    ∀ s : List UInt8, Go.Maps.has D (.string s) = (l.lookup s).isSome ∧ ∀ v, l.lookup s = some v → D.atKey (.string s) (.lit (.int .i64 0)) = .lit (.int .i64 (v : Int))

theorem MapIs.new (w : World) : MapIs (w.alloc (.map #[] 0)) w.heap.size [] :=
  ⟨.map [], World.ownsMap_made w _ _ _, Go.Maps.isMap_empty, fun s => ⟨rfl, fun v h => by cases h⟩⟩
theorem MapIs.lt {W : World} {b : Nat} {l : List (List UInt8 × Nat)} (h : MapIs W b l) : b < W.heap.size := by
  obtain ⟨D, h, _⟩ := h
  exact h.lt
theorem MapIs.keep {W W' : World} {b : Nat} {l : List (List UInt8 × Nat)} (h : MapIs W b l) {K : Nat → Prop} (k : Keeps K W W') (hb : K b) : MapIs W' b l := by
  obtain ⟨D, ⟨es, clock, hh, r⟩, h2⟩ := h
  exact ⟨D, ⟨es, clock, k.heap hh hb, r⟩, h2⟩

theorem MapIs.look {W : World} {b : Nat} {l : List (List UInt8 × Nat)} (h : MapIs W b l) (s : ByteArray) (hs : s.size ≤ maxLen) :
    (Instr.lookup 95 (.map (some b)) (.string s) true).run Try.prog W = .ok (.tuple #[.int .i64 (((l.lookup (bl s)).getD 0 : Nat) : Int), .bool (l.lookup (bl s)).isSome]) W := by
  obtain ⟨D, hown, hm, hl⟩ := h
  obtain ⟨h1, h2⟩ := hl (bl s)
  obtain ⟨v, ps, hrun, hv⟩ := hown.look_ok keyLaw Try.underlying95 (zeroI W) (plainElem_int Try.underlying3 (by decide)) (Go.WideMaps.keyOf_string_mk Try.underlying9 hs)
  rw [hrun]
  change Go.Maps.has D (.string (bl s)) = _ at h1
  rw [show (Lit.string s.data.toList) = .string (bl s) from rfl] at hv ⊢
  rw [h1]
  obtain ⟨c, rfl, hc, _⟩ := plainElem_int_inv Try.underlying3 hv
  cases hlk : l.lookup (bl s) with
  | some x =>
    rw [h2 x hlk] at hc
    simp only [Prod.mk.injEq, DataW.lit.injEq, Lit.int.injEq, true_and] at hc
    rw [← hc.1]
    rfl
  | none =>
    rw [hlk] at h1
    rw [Go.Maps.atKey_of_not_has h1] at hc
    simp only [Prod.mk.injEq, DataW.lit.injEq, Lit.int.injEq, true_and] at hc
    rw [← hc.1]
    rfl

theorem MapIs.put {W : World} {b : Nat} {l : List (List UInt8 × Nat)} (h : MapIs W b l) (s : ByteArray) (hs : s.size ≤ maxLen) (v : Nat) (hv : v ≤ 1099511627776) (hl : l.length ≤ 1099511627776) :
    ∃ W', (Instr.mapUpdate 95 (.map (some b)) (.string s) (.int .i64 (v : Int))).run Try.prog W = .ok () W' ∧ MapIs W' b ((bl s, v) :: l) ∧ W.grownBy W' (some b) := by
  obtain ⟨D, hown, hm, hlk⟩ := h
  obtain ⟨W', h1, h2, h3⟩ := hown.update keyLaw Try.underlying95 (by unfold maxLen; omega) (Go.WideMaps.keyOf_string_mk Try.underlying9 hs) (plainElem_int (a := (v : Int)) Try.underlying3 (by simp [Lit.wf, IntKind.min, IntKind.max, IntKind.bits, IntKind.signed]; omega))
  refine ⟨W', h1, ⟨_, h2, hm.put _ _, fun t => ?_⟩, h3⟩
  have hkey : WideAt.IsKeyLit (.string s.data.toList) := keyLaw.key (Go.WideMaps.keyOf_string_mk Try.underlying9 hs)
  by_cases he : t = bl s
  · subst he
    refine ⟨?_, fun x hx => ?_⟩
    · rw [show (Lit.string (bl s)) = .string s.data.toList from rfl, Go.Maps.has_put_same hm hkey]; simp [List.lookup]
    · rw [show (Lit.string (bl s)) = .string s.data.toList from rfl, Go.Maps.atKey_put_same hm hkey]
      simp [List.lookup] at hx
      rw [hx]
  · have hne : (Lit.string t) ≠ .string s.data.toList := fun h => he (by cases h; rfl)
    have hb : (t == bl s) = false := beq_eq_false_iff_ne.2 he
    obtain ⟨g1, g2⟩ := hlk t
    refine ⟨?_, fun x hx => ?_⟩
    · rw [Go.Maps.has_put_other hne, g1, List.lookup, hb]
    · rw [Go.Maps.atKey_put_other hne]
      rw [List.lookup, hb] at hx
      exact g2 x hx

end Go.Proofs.Yteoelhhkdfmaiaa

/- What pack's writer does: New, Raw, Len, Out. Conditions: a writer that New made; texts of a bound. -/
namespace Go.Proofs.Yteoelhhkdfmaiaa
open Go Go.RowKit Go.Shelf
attribute [local go_sem] Oper.semAt_some wide_fn wide_depth

/-- A writer. -/
structure Wr where
  bytes : List UInt8
  limit : Int
  full : Bool
  rests : List (List UInt8 × Nat)
def Wr.ok (q : Wr) : Prop := q.bytes.length ≤ 4294967296 ∧ q.limit ≤ 4294967296 ∧ -9223372036854775808 ≤ q.limit ∧ q.rests.length ≤ q.bytes.length ∧ ∀ p ∈ q.rests, p.2 < 16384

/-- Block B is the writer q; none of its blocks is one of which G holds. -/
structure WrIs (W : World) (B mb : Nat) (bv : Value) (G : Nat → Prop) (q : Wr) : Prop where
  blk : W.heap[B]? = some (.cells #[bv, .int .i64 q.limit, .bool q.full, .map (some mb)] 97 (0, 0))
  own : W.ownsRow 0 5 1 bv q.bytes.length (Lib.byteCells q.bytes)
  map : MapIs W mb q.rests
  mbB : mb ≠ B
  bvB : bv.ownBlock ≠ some B
  bvm : bv.ownBlock ≠ some mb
  out : ∀ k, G k → k < W.heap.size ∧ k ≠ B ∧ k ≠ mb ∧ bv.ownBlock ≠ some k
def WrAt (W : World) (B : Nat) (G : Nat → Prop) (q : Wr) : Prop := ∃ mb bv, WrIs W B mb bv G q

theorem WrIs.lt {W : World} {B mb : Nat} {bv : Value} {G : Nat → Prop} {q : Wr} (h : WrIs W B mb bv G q) : B < W.heap.size ∧ mb < W.heap.size ∧ ∀ k, bv.ownBlock = some k → k < W.heap.size :=
  ⟨(Array.getElem?_eq_some_iff.1 h.blk).1, h.map.lt, fun k hk => (h.own.lt k hk).2⟩
theorem WrIs.cells {W : World} {B mb : Nat} {bv : Value} {G : Nat → Prop} {q : Wr} (h : WrIs W B mb bv G q) :
    W.cell? ⟨B, 0, none⟩ = some bv ∧ W.cell? ⟨B, 1, none⟩ = some (.int .i64 q.limit) ∧ W.cell? ⟨B, 2, none⟩ = some (.bool q.full) ∧ W.cell? ⟨B, 3, none⟩ = some (.map (some mb)) ∧
      W.frozen? ⟨B, 0, none⟩ = false ∧ W.frozen? ⟨B, 2, none⟩ = false := by
  have := h.blk
  refine ⟨?_, ?_, ?_, ?_, ?_, ?_⟩ <;> simp [World.cell?, World.frozen?, this]
/-- What else happens leaves a writer, if it leaves its blocks. -/
theorem WrIs.keep {W W' : World} {B mb : Nat} {bv : Value} {G : Nat → Prop} {q : Wr} (h : WrIs W B mb bv G q) {K : Nat → Prop} (k : Keeps K W W') (hB : K B) (hm : K mb) (hb : ∀ j, bv.ownBlock = some j → K j) : WrIs W' B mb bv G q := by
  refine ⟨k.heap h.blk hB, ?_, h.map.keep k hm, h.mbB, h.bvB, h.bvm, fun j hj => ?_⟩
  · refine ⟨h.own.1, ?_⟩
    rcases h.own.2 with hn | ⟨g, cap, cur, rfl, hb', hgg, rest⟩
    · exact .inl hn
    · exact .inr ⟨g, cap, cur, rfl, hb', k.heap hgg (hb g rfl), rest⟩
  · have := h.out j hj
    exact ⟨Nat.lt_of_lt_of_le this.1 k.size, this.2⟩
theorem WrAt.ext {W W' : World} {B : Nat} {G : Nat → Prop} {q : Wr} (h : WrAt W B G q) (k : Ext W W') : WrAt W' B G q := by
  obtain ⟨mb, bv, h⟩ := h
  exact ⟨mb, bv, h.keep k.keeps trivial trivial fun _ _ => trivial⟩
/-- What was laid since is none of a writer's blocks. -/
theorem WrAt.more {W W' : World} {B : Nat} {G : Nat → Prop} {q : Wr} (h : WrAt W B G q) (k : Ext W W') : WrAt W' B (fun j => G j ∨ (W.heap.size ≤ j ∧ j < W'.heap.size)) q := by
  obtain ⟨mb, bv, h⟩ := h
  obtain ⟨l1, l2, l3⟩ := h.lt
  have h' := h.keep k.keeps trivial trivial fun _ _ => trivial
  refine ⟨mb, bv, ⟨h'.blk, h'.own, h'.map, h'.mbB, h'.bvB, h'.bvm, fun j hj => ?_⟩⟩
  rcases hj with hj | ⟨h1, h2⟩
  · exact h'.out j hj
  · exact ⟨h2, by omega, by omega, fun e => by have := l3 j e; omega⟩
theorem WrAt.mono {W : World} {B : Nat} {G G' : Nat → Prop} {q : Wr} (h : WrAt W B G q) (s : ∀ k, G' k → G k) : WrAt W B G' q := by
  obtain ⟨mb, bv, h⟩ := h
  exact ⟨mb, bv, ⟨h.blk, h.own, h.map, h.mbB, h.bvB, h.bvm, fun j hj => h.out j (s j hj)⟩⟩
/-- What keeps a writer's blocks, and turns none of G. -/
theorem WrAt.keep {W W' : World} {B : Nat} {G : Nat → Prop} {q : Wr} (h : WrAt W B G q) {K : Nat → Prop} (k : Keeps K W W') (hK : ∀ j, j < W.heap.size → ¬ G j → K j) (hB : K B) : WrAt W' B G q ∨ ∃ j, G j ∧ ¬ K j := by
  obtain ⟨mb, bv, h⟩ := h
  obtain ⟨l1, l2, l3⟩ := h.lt
  refine .inl ⟨mb, bv, h.keep k hB (hK mb l2 fun hg => (h.out mb hg).2.2.1 rfl) fun j hj => hK j (l3 j hj) fun hg => (h.out j hg).2.2.2 hj⟩

set_option maxHeartbeats 1000000 in
theorem New_any (limit : Int) (w : World) :
    Calls Try.prog 32 #[.int .i64 limit] w fun e w' => e = .returned (.pointer (some ⟨w.heap.size + 1, 0, none⟩)) ∧ WrAt w' (w.heap.size + 1) (fun k => k < w.heap.size) ⟨[], limit, false, []⟩ ∧ Ext w w' := by
  have hmm := @run_makeMap Try.prog
  go_enter Try.func32, Try.ntmps32
  go_wp2
  go_ret
  refine ⟨rfl, ⟨w.heap.size, .slice none 0 0, ?_, World.ownsRow_nil _ _ _ _, ?_, by omega, by simp [Value.ownBlock], by simp [Value.ownBlock], fun k hk => ⟨by simp; omega, by omega, by omega, by simp [Value.ownBlock]⟩⟩, ((Ext.refl _).alloc _).alloc _⟩
  · have := World.alloc_heap_new (w.alloc (.map #[] 0)) (.cells #[.slice none 0 0, .int .i64 limit, .bool false, .map (some w.heap.size)] 97)
    rw [World.size_alloc] at this
    exact this
  · exact (MapIs.new w).keep ((Keeps.refl (fun _ => True) _).alloc _) trivial

set_option maxHeartbeats 1000000 in
theorem Len_any (B : Nat) (G : Nat → Prop) (q : Wr) (w : World) (h : WrAt w B G q) :
    Calls Try.prog 33 #[.pointer (some ⟨B, 0, none⟩)] w fun e w' => e = .returned (.int .i64 (q.bytes.length : Int)) ∧ w = w' := by
  obtain ⟨mb, bv, h⟩ := h
  obtain ⟨c0, c1, c2, c3, f0, f2⟩ := h.cells
  obtain ⟨ao, cap, rfl⟩ := ownsRow_slice h.own
  clear h c1 c2 c3 f0 f2
  go_enter Try.func33, Try.ntmps33
  go_wp2
  go_ret
  exact ⟨rfl, rfl⟩

/-- What Out answers. -/
def outR (q : Wr) : ByteArray × Int := if q.full then (⟨#[]⟩, 7) else (⟨q.bytes.toArray⟩, 0)
set_option maxHeartbeats 1000000 in
theorem Out_any (B : Nat) (G : Nat → Prop) (q : Wr) (w : World) (h : WrAt w B G q) :
    Calls Try.prog 35 #[.pointer (some ⟨B, 0, none⟩)] w fun e w' => e = .returned (.tuple #[.string (outR q).1, .int .i64 (outR q).2]) ∧ w = w' := by
  obtain ⟨mb, bv, h⟩ := h
  obtain ⟨c0, c1, c2, c3, f0, f2⟩ := h.cells
  have hback := bytes_back rfl h.own
  obtain ⟨bs, limit, full, rests⟩ := q
  simp only at c0 c1 c2 c3 hback
  obtain ⟨ao, cap, rfl⟩ := ownsRow_slice h.own
  clear h c1 c3 f0 f2
  cases full with
  | true =>
    go_enter Try.func35, Try.ntmps35
    go_wp2
    go_ret2
    exact ⟨rfl, rfl⟩
  | false =>
    go_enter Try.func35, Try.ntmps35
    go_wp2
    go_ret2
    exact ⟨rfl, rfl⟩

end Go.Proofs.Yteoelhhkdfmaiaa
