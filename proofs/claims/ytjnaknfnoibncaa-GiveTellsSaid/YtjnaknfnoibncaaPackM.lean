/- Several texts in one (PackA PackB PackC PackD PackE PackF PackG PackH PackI). Conditions: each says its own. -/
import Derived.Test.YtjnaknfnoibncaaLabM
import Derived.Test.YtjnaknfnoibncaaMathM
import Derived.StillTactics
import Derived.IntWalk
import Derived.Test.YtjnaknfnoibncaaBaseM
import Derived.Laws.BitsAllLaws
import Derived.WalkMore
import Derived.StillTail
import Derived.Lib.BufferWrite
import Derived.Maps.Own
import Derived.Maps.OwnSet
import Derived.Maps.Views
import Derived.StringKeys

/- What pack's reader does: Open, fail, At, Left, Bad, Raw. Conditions: a reader that Open, or Part, made. -/
namespace Go.Proofs.Ytjnaknfnoibncaa
open Go Go.RowKit Go.Shelf
attribute [local go_sem] Oper.semAt_some wide_fn wide_depth

/-- A reader. -/
structure Rd where
  s : ByteArray
  at_ : Nat
  bad : Bool
def Rd.left (r : Rd) : Nat := r.s.size - r.at_
def Rd.failed : Rd := ⟨⟨#[]⟩, 0, true⟩
/-- A reader that may be. -/
def Rd.ok (r : Rd) : Prop := r.at_ ≤ r.s.size ∧ r.s.size ≤ 1099511627776
/-- Block B is the reader r. -/
def RdAt (W : World) (B : Nat) (r : Rd) : Prop := W.heap[B]? = some (.cells #[.string r.s, .int .i64 (r.at_ : Int), .bool r.bad] 129 (0, 0))

theorem RdAt.cells {W : World} {B : Nat} {r : Rd} (h : RdAt W B r) :
    W.cell? ⟨B, 0, none⟩ = some (.string r.s) ∧ W.cell? ⟨B, 1, none⟩ = some (.int .i64 (r.at_ : Int)) ∧ W.cell? ⟨B, 2, none⟩ = some (.bool r.bad) ∧
      W.frozen? ⟨B, 0, none⟩ = false ∧ W.frozen? ⟨B, 1, none⟩ = false ∧ W.frozen? ⟨B, 2, none⟩ = false := by
  unfold RdAt at h
  refine ⟨?_, ?_, ?_, ?_, ?_, ?_⟩ <;> simp [World.cell?, World.frozen?, h]
theorem Keeps.rd {W W' : World} {B : Nat} {r : Rd} {K : Nat → Prop} (k : Keeps K W W') (h : RdAt W B r) (hB : K B) : RdAt W' B r := k.heap h hB

def rawR (r : Rd) (n : Int) : ByteArray × Rd :=
  if n < 0 ∨ (r.left : Int) < n then (⟨#[]⟩, Rd.failed) else (r.s.extract r.at_ (r.at_ + n.toNat), ⟨r.s, r.at_ + n.toNat, r.bad⟩)

set_option maxHeartbeats 1000000 in
theorem Open_any (s : ByteArray) (w : World) :
    Calls Try.prog 79 #[.string s] w fun e w' => e = .returned (.pointer (some ⟨w.heap.size, 0, none⟩)) ∧ RdAt w' w.heap.size ⟨s, 0, false⟩ ∧ Ext w w' := by
  go_enter Try.func79, Try.ntmps79
  go_wp2
  go_ret
  exact ⟨rfl, World.alloc_heap_new w _, (Ext.refl _).alloc _⟩

set_option maxHeartbeats 1000000 in
theorem fail_any (B : Nat) (r : Rd) (w : World) (h : RdAt w B r) :
    Calls Try.prog 90 #[.pointer (some ⟨B, 0, none⟩)] w fun e w' => (∃ v, e = .returned v) ∧ RdAt w' B Rd.failed ∧ Keeps (fun k => k ≠ B) w w' ∧ w'.heap.size = w.heap.size := by
  obtain ⟨c0, c1, c2, f0, f1, f2⟩ := h.cells
  go_enter Try.func90, Try.ntmps90
  go_wp2
  go_end0
  refine ⟨⟨_, rfl⟩, ?_, (((Keeps.refl _ _).setCell (p := ⟨B, 0, none⟩) (by simp) _).setCell (p := ⟨B, 1, none⟩) (by simp) _).setCell (p := ⟨B, 2, none⟩) (by simp) _, by simp⟩
  exact heap_setCell_same _ _ _ _ _ _ (heap_setCell_same _ _ _ _ _ _ (heap_setCell_same _ _ _ _ _ _ h))

set_option maxRecDepth 100000 in
set_option maxHeartbeats 1000000 in
theorem Left_any (B : Nat) (r : Rd) (w : World) (h : RdAt w B r) (hr : r.ok) :
    Calls Try.prog 100 #[.pointer (some ⟨B, 0, none⟩)] w fun e w' => e = .returned (.int .i64 r.left) ∧ w' = w.drew := by
  obtain ⟨c0, c1, c2, f0, f1, f2⟩ := h.cells
  obtain ⟨h1, h2⟩ := hr
  obtain ⟨s, p, bad⟩ := r
  simp only at c0 c1 c2 h1 h2
  have hmx : Try.prog.follows .mixedOrders = true := by kernel_rfl
  have s1 : IntKind.i64.wrap ((s.size : Int) - p) = (s.size : Int) - p := IntWalk.i64_in _ (by omega)
  have hl : Hid (((Rd.left ⟨s, p, bad⟩ : Nat) : Int) = (s.size : Int) - p) := Lib.hid (by show ((s.size - p : Nat) : Int) = _; omega)
  clear h
  go_enter Try.func100, Try.ntmps100
  go_wp2_with fail
  go_still hmx
  change Exit.then _ _ Exit.normal _ w.drew
  go_wp2
  go_ret
  exact ⟨by rw [hl.out]; rfl, rfl⟩

set_option maxRecDepth 100000 in
set_option maxHeartbeats 1000000 in
theorem Raw_any (B : Nat) (r : Rd) (n : Int) (w : World) (h : RdAt w B r) (hr : r.ok) (hn : -9223372036854775808 ≤ n ∧ n ≤ 9223372036854775807) :
    Calls Try.prog 91 #[.pointer (some ⟨B, 0, none⟩), .int .i64 n] w fun e w' => e = .returned (.string (rawR r n).1) ∧ RdAt w' B (rawR r n).2 ∧ Keeps (fun k => k ≠ B) w w' ∧ w'.heap.size = w.heap.size := by
  have CL := Lib.hid (Left_any B r w h hr)
  have CF := Lib.hid fun W h => fail_any B r W h
  obtain ⟨c0, c1, c2, f0, f1, f2⟩ := h.cells
  have H := Lib.hid h; clear h
  obtain ⟨h1, h2⟩ := hr
  obtain ⟨s, p, bad⟩ := r
  simp only at c0 c1 c2 h1 h2
  have hl : (((Rd.left ⟨s, p, bad⟩ : Nat) : Int) = (s.size : Int) - p) := by show ((s.size - p : Nat) : Int) = _; omega
  have hR : rawR ⟨s, p, bad⟩ n = if n < 0 ∨ (s.size : Int) - p < n then (⟨#[]⟩, Rd.failed) else (s.extract p (p + n.toNat), ⟨s, p + n.toNat, bad⟩) := by rw [rawR, hl]
  rw [hl] at CL
  have HR := Lib.hid hR; clear hR hl
  by_cases hn0 : n < 0
  · have HR2 : Hid (rawR ⟨s, p, bad⟩ n = (⟨#[]⟩, Rd.failed)) := Lib.hid (by rw [HR.out, if_pos (.inl hn0)])
    go_enter Try.func91, Try.ntmps91
    go_wp2_with fail
    refine (CF.out _ H.out).mono ?_
    rintro e w1 ⟨⟨v, rfl⟩, hr1, hk1, hz1⟩
    have HP : Hid (_ ∧ _ ∧ _) := Lib.hid ⟨hr1, hk1, hz1⟩
    clear hr1 hk1 hz1 c0 c1 c2 f0 f1 f2
    go_wp2
    go_ret
    exact ⟨by rw [HR2.out]; rfl, by rw [HR2.out]; exact HP.out.1, HP.out.2.1, HP.out.2.2⟩
  · by_cases hn1 : (s.size : Int) - p < n
    · have hn0' : decide (n < 0) = false := by simp; omega
      have HR2 : Hid (rawR ⟨s, p, bad⟩ n = (⟨#[]⟩, Rd.failed)) := Lib.hid (by rw [HR.out, if_pos (.inr hn1)])
      go_enter Try.func91, Try.ntmps91
      go_wp2_with fail
      refine CL.out.mono ?_
      rintro e w0 ⟨rfl, rfl⟩
      go_wp2_with fail
      refine (CF.out w.drew H.out).mono ?_
      rintro e w1 ⟨⟨v, rfl⟩, hr1, hk1, hz1⟩
      have HP : Hid (_ ∧ _ ∧ _) := Lib.hid ⟨hr1, (Keeps.refl _ w).drew.trans hk1, hz1⟩
      clear hr1 hk1 hz1 c0 c1 c2 f0 f1 f2
      go_wp2
      go_ret
      exact ⟨by rw [HR2.out]; rfl, by rw [HR2.out]; exact HP.out.1, HP.out.2.1, HP.out.2.2⟩
    · have HR2 : Hid (rawR ⟨s, p, bad⟩ n = (s.extract p (p + n.toNat), ⟨s, p + n.toNat, bad⟩)) := Lib.hid (by rw [HR.out, if_neg (by omega)])
      obtain ⟨m, rfl⟩ : ∃ m : Nat, n = m := ⟨n.toNat, by omega⟩
      rw [Int.toNat_natCast] at HR2
      have hn0' : decide ((m : Int) < 0) = false := by simp
      have hn1' : decide ((s.size : Int) - p < (m : Int)) = false := by simp; omega
      have hmx : Try.prog.follows .mixedOrders = true := by kernel_rfl
      go_enter Try.func91, Try.ntmps91
      go_wp2_with fail
      refine CL.out.mono ?_
      rintro e w0 ⟨rfl, rfl⟩
      go_wp2_with fail
      have hR2 : RdAt (w.setCell ⟨B, 1, none⟩ (.int .i64 ((p : Int) + m))).drew B ⟨s, p + m, bad⟩ := by
        have := heap_setCell_same w B 1 _ _ (.int .i64 ((p : Int) + m)) H.out
        unfold RdAt
        rw [Int.natCast_add]
        exact this
      have hk : Keeps (fun k => k ≠ B) w (w.setCell ⟨B, 1, none⟩ (.int .i64 ((p : Int) + m))).drew := ((Keeps.refl _ _).setCell (p := ⟨B, 1, none⟩) (by simp) _).drew
      have hz : (w.setCell ⟨B, 1, none⟩ (.int .i64 ((p : Int) + m))).drew.heap.size = w.heap.size := by simp
      generalize (w.setCell ⟨B, 1, none⟩ (.int .i64 ((p : Int) + m))).drew = W2 at hR2 hk hz ⊢
      clear c0 c1 c2 f0 f1 f2 CL CF
      obtain ⟨c0, c1, c2, _, _, _⟩ := hR2.cells
      simp only [Int.natCast_add] at c0 c1 c2
      have HP : Hid (_ ∧ _ ∧ _) := Lib.hid ⟨hR2, hk, hz⟩
      clear hR2 hk hz
      have s1 : IntKind.i64.wrap (p : Int) = (p : Int) := IntWalk.i64_in _ (by omega)
      have s2 : (0 : Int) ≤ (p : Int) := by omega
      have s3 : (p : Int) ≤ (p : Int) + m := by omega
      have s4 : (p : Int) + m ≤ s.size := by omega
      have s5 : ((p : Int) + m).toNat = p + m := by omega
      go_still hmx
      change Exit.then _ _ Exit.normal _ W2.drew
      clear s1 s2 s3 s4 s5 c0 c1 c2
      go_wp2
      go_ret
      exact ⟨by rw [HR2.out]; rfl, by rw [HR2.out]; exact HP.out.1, HP.out.2.1.drew, HP.out.2.2⟩

end Go.Proofs.Ytjnaknfnoibncaa

/- What pack's reader does with the pieces of names. Conditions: a reader that Open, or Part, made. -/
namespace Go.Proofs.Ytjnaknfnoibncaa
open Go Go.RowKit Go.Shelf
attribute [local go_sem] Oper.semAt_some wide_fn wide_depth

theorem i64_or_nat (a b : Nat) (ha : a < 4611686018427387904) (hb : b < 4611686018427387904) :
    bits .or .i64 (a : Int) (b : Int) = ((a ||| b : Nat) : Int) := by
  have hx : a ||| b < 2 ^ 62 := Nat.or_lt_two_pow (by omega) (by omega)
  have h1 : (BitVec.ofInt 64 (a : Int)).toNat = a := by
    rw [BitVec.ofInt_natCast, BitVec.toNat_ofNat]; exact Nat.mod_eq_of_lt (by omega)
  have h2 : (BitVec.ofInt 64 (b : Int)).toNat = b := by
    rw [BitVec.ofInt_natCast, BitVec.toNat_ofNat]; exact Nat.mod_eq_of_lt (by omega)
  show IntKind.i64.wrap ((BitVec.ofInt 64 (a : Int) ||| BitVec.ofInt 64 (b : Int)).toNat : Int) = _
  rw [BitVec.toNat_or, h1, h2]
  exact IntWalk.i64_in _ (by omega)
theorem i64_join (a b : Nat) (ha : a < 1099511627776) (hb : b < 256) : bits .or .i64 ((a : Int) * 256) (b : Int) = (a : Int) * 256 + b := by
  have h := i64_or_nat (a * 256) b (by omega) (by omega)
  rw [nat_join 8 (a * 256) b (by omega) (by omega)] at h
  simpa using h

def targetR (p : ByteArray) : Nat := (p[0]!.toNat * 256 + p[1]!.toNat) % 16384

/-- What stands at a place of a name. -/
def pieceR (s : ByteArray) (a : Nat) : ByteArray :=
  if s.size ≤ a then ⟨#[]⟩ else
  if s.size - a < (if 192 ≤ s[a]!.toNat then 2 else 1 + s[a]!.toNat) then ⟨#[]⟩ else s.extract a (a + (if 192 ≤ s[a]!.toNat then 2 else 1 + s[a]!.toNat))

end Go.Proofs.Ytjnaknfnoibncaa

/- What pack's reader does with names: name gathers, Name reads. Conditions: a reader that Open, or Part, made. -/
namespace Go.Proofs.Ytjnaknfnoibncaa
open Go Go.RowKit Go.Shelf
attribute [local go_sem] Oper.semAt_some wide_fn wide_depth

/-- What name gathers. -/
def gatherF (s : ByteArray) : Nat → List UInt8 → Nat → Nat → Nat → Bool → List UInt8 × Nat
  | 0, n, _, _, b, _ => (n, b)
  | f + 1, n, a, frm, b, pt =>
    if n.length < 255 then
      if (pieceR s a).size = 0 then (n, if pt then b else a + (pieceR s a).size)
      else if 192 ≤ (pieceR s a)[0]!.toNat then
        if frm ≤ targetR (pieceR s a) then (n, if pt then b else a + (pieceR s a).size)
        else gatherF s f n (targetR (pieceR s a)) (targetR (pieceR s a)) (if pt then b else a + (pieceR s a).size) true
      else if (pieceR s a).toList = [0] then (n ++ bl (pieceR s a), if pt then b else a + (pieceR s a).size)
      else gatherF s f (n ++ bl (pieceR s a)) (a + (pieceR s a).size) frm (if pt then b else a + (pieceR s a).size) pt
    else (n, b)
def gatherR (s : ByteArray) (a : Nat) : List UInt8 × Nat := gatherF s (257 + a) [] a a a false

/-- A piece's first byte, and how long it is. -/
theorem piece_cases (s : ByteArray) (a : Nat) : (pieceR s a).size = 0 ∨
    (a < s.size ∧ a + (pieceR s a).size ≤ s.size ∧ (pieceR s a)[0]! = s[a]! ∧ (pieceR s a) = s.extract a (a + (pieceR s a).size) ∧
      ((192 ≤ s[a]!.toNat ∧ (pieceR s a).size = 2) ∨ (s[a]!.toNat < 192 ∧ (pieceR s a).size = 1 + s[a]!.toNat))) := by
  unfold pieceR
  by_cases h1 : s.size ≤ a
  · left; rw [if_pos h1]; rfl
  · rw [if_neg h1]
    by_cases h2 : s.size - a < (if 192 ≤ s[a]!.toNat then 2 else 1 + s[a]!.toNat)
    · left; rw [if_pos h2]; rfl
    · right
      rw [if_neg h2]
      obtain ⟨z, hz⟩ : ∃ z, (if 192 ≤ s[a]!.toNat then 2 else 1 + s[a]!.toNat) = z := ⟨_, rfl⟩
      have hz1 : 1 ≤ z ∧ ((192 ≤ s[a]!.toNat ∧ z = 2) ∨ (s[a]!.toNat < 192 ∧ z = 1 + s[a]!.toNat)) := by
        rw [← hz]; split <;> omega
      rw [hz] at h2 ⊢
      have hsz : (s.extract a (a + z)).size = z := by rw [ByteArray.size_extract]; omega
      rw [hsz]
      refine ⟨by omega, by omega, ?_, rfl, hz1.2⟩
      rw [getElem!_pos _ 0 (by omega), getElem!_pos s a (by omega), ByteArray.getElem_extract]
      simp

theorem bytes_back {W : World} {base : Nat} {v : Value} {l : List UInt8} {n : Nat} (hn : n = l.length) (h : W.ownsRow base 5 1 v n (Lib.byteCells l)) :
    (convert 93 9 v).run Try.prog W = .ok (.string ⟨l.toArray⟩) W := by
  subst hn
  rcases h.2 with ⟨rfl, h0⟩ | ⟨g, cap, cur, rfl, hg, hh, r⟩
  · obtain rfl : l = [] := List.eq_nil_of_length_eq_zero h0
    simp [convert, go_sem, Conv.bytesToString]
    rfl
  · exact run_convert_bytes_back W 93 9 5 ⟨g, 0, none⟩ cap l Try.underlying93 Try.underlying5 Try.underlying9 (fun j hj => by
      exact h.cells (g := g) rfl j _ (by simp [Lib.byteCells, hj]))

end Go.Proofs.Ytjnaknfnoibncaa

/- What pack's reader does: Name, Part. Conditions: a reader that Open, or Part, made. -/
namespace Go.Proofs.Ytjnaknfnoibncaa
open Go Go.RowKit Go.Shelf
attribute [local go_sem] Oper.semAt_some wide_fn wide_depth

theorem gatherF_len (s : ByteArray) : ∀ (f : Nat) (n : List UInt8) (a fm b : Nat) (q : Bool), n.length ≤ 446 → (gatherF s f n a fm b q).1.length ≤ 446
  | 0, n, _, _, _, _, h => h
  | f + 1, n, a, fm, b, q, h => by
    rw [gatherF]
    split
    · next hlt =>
      split
      · exact h
      · next hz =>
        split
        · split
          · exact h
          · exact gatherF_len s f _ _ _ _ _ h
        · next h192 =>
          have hpc := (piece_cases s a).resolve_left hz
          have hl : (n ++ bl (pieceR s a)).length ≤ 446 := by
            rw [List.length_append, bl_size]
            have := s[a]!.toNat_lt
            omega
          split
          · exact hl
          · exact gatherF_len s f _ _ _ _ _ hl
    · exact h
theorem gather_len (s : ByteArray) (a : Nat) : (gatherR s a).1.length ≤ 446 := gatherF_len s _ _ _ _ _ _ (by simp)
theorem gatherF_le (s : ByteArray) : ∀ (f : Nat) (n : List UInt8) (a fm b : Nat) (q : Bool), b ≤ s.size → a ≤ s.size → (gatherF s f n a fm b q).2 ≤ s.size
  | 0, n, _, _, _, _, h, _ => h
  | f + 1, n, a, fm, b, q, h, ha => by
    have hb : (pieceR s a).size = 0 ∨ a + (pieceR s a).size ≤ s.size := by
      rcases piece_cases s a with h | h
      · exact .inl h
      · exact .inr h.2.1
    have hb2 : (if q then b else a + (pieceR s a).size) ≤ s.size := by split <;> omega
    rw [gatherF]
    split
    · split
      · exact hb2
      · next hz =>
        split
        · split
          · exact hb2
          · next hft =>
            by_cases htt : targetR (pieceR s a) ≤ s.size
            · exact gatherF_le s f _ _ _ _ _ hb2 htt
            · cases f with
              | zero => exact hb2
              | succ f =>
                have hp0 : pieceR s (targetR (pieceR s a)) = ⟨#[]⟩ := by rw [pieceR, if_pos (by omega)]
                rw [gatherF, hp0]
                split
                · rw [if_pos rfl]; exact hb2
                · exact hb2
        · split
          · exact hb2
          · exact gatherF_le s f _ _ _ _ _ hb2 (by omega)
    · exact h

/-- What Name answers. -/
def nameR (r : Rd) : ByteArray × Rd :=
  if isName ⟨(gatherR r.s r.at_).1.toArray⟩ then (⟨(gatherR r.s r.at_).1.toArray⟩, ⟨r.s, (gatherR r.s r.at_).2, r.bad⟩) else (⟨#[]⟩, Rd.failed)

/-- What Part makes. -/
def partR (r : Rd) (n : Int) : Rd := if (rawR r n).2.bad then Rd.failed else ⟨(rawR r n).2.s.extract 0 (rawR r n).2.at_, r.at_, false⟩

/-- What a part lies at, and what is left. -/
def PartPost (B : Nat) (r : Rd) (n : Int) (w : World) (e : Ending) (w' : World) : Prop :=
  ∃ P, w.heap.size ≤ P ∧ e = .returned (.pointer (some ⟨P, 0, none⟩)) ∧ RdAt w' P (partR r n) ∧ RdAt w' B (rawR r n).2 ∧ Keeps (fun k => k ≠ B) w w'

theorem rawR_ok {r : Rd} (h : r.ok) (n : Int) : (rawR r n).2.ok := by
  unfold rawR
  split
  · exact ⟨Nat.le_refl _, Nat.zero_le _⟩
  · next hc =>
    obtain ⟨h1, h2⟩ := h
    unfold Rd.left at hc
    refine ⟨?_, h2⟩
    show r.at_ + n.toNat ≤ r.s.size
    omega

end Go.Proofs.Ytjnaknfnoibncaa

/- What pack's numbers are: value, isWidth. Conditions: none. -/
namespace Go.Proofs.Ytjnaknfnoibncaa
open Go Go.RowKit Go.Shelf
attribute [local go_sem] Oper.semAt_some wide_fn wide_depth

/-- A number, the highest byte first. -/
def beF (n : Nat) : List UInt8 → Nat
  | [] => n
  | b :: r => beF (n * 256 + b.toNat) r
def beN (l : List UInt8) : Nat := beF 0 l
theorem beF_snoc : ∀ (l : List UInt8) (n : Nat) (b : UInt8), beF n (l ++ [b]) = beF n l * 256 + b.toNat
  | [], _, _ => rfl
  | a :: r, n, b => beF_snoc r (n * 256 + a.toNat) b
theorem beN_snoc (l : List UInt8) (b : UInt8) : beN (l ++ [b]) = beN l * 256 + b.toNat := beF_snoc l 0 b
theorem beF_lt : ∀ (l : List UInt8) (n m : Nat), n < 256 ^ m → beF n l < 256 ^ (m + l.length)
  | [], n, m, h => h
  | a :: r, n, m, h => by
    have := a.toNat_lt
    have h2 := beF_lt r (n * 256 + a.toNat) (m + 1) (by rw [Nat.pow_succ]; omega)
    rw [List.length_cons, show m + (r.length + 1) = m + 1 + r.length by omega]
    exact h2
theorem beN_lt (l : List UInt8) : beN l < 256 ^ l.length := by
  have := beF_lt l 0 0 (by decide)
  rwa [Nat.zero_add] at this

theorem u64_join (a b : Nat) (ha : a < 72057594037927936) (hb : b < 256) : bits .or .u64 ((a : Int) * 256) (b : Int) = (a : Int) * 256 + b := by
  have h := bits_or_u64_nat (a * 256) b (by omega) (by omega)
  rw [nat_join 8 (a * 256) b (by omega) (by omega)] at h
  simpa using h

/-- A number's bytes as Go has them. -/
def arr8 (b0 b1 b2 b3 b4 b5 b6 b7 : UInt8) : Array Value :=
  #[.int .u8 (b0.toNat : Int), .int .u8 (b1.toNat : Int), .int .u8 (b2.toNat : Int), .int .u8 (b3.toNat : Int), .int .u8 (b4.toNat : Int), .int .u8 (b5.toNat : Int), .int .u8 (b6.toNat : Int), .int .u8 (b7.toNat : Int)]

set_option maxRecDepth 100000 in
set_option maxHeartbeats 2000000 in
theorem value_any (b0 b1 b2 b3 b4 b5 b6 b7 : UInt8) (w : World) :
    Calls Try.prog 92 #[.agg (arr8 b0 b1 b2 b3 b4 b5 b6 b7)] w fun e w' => e = .returned (.int .u64 (beN [b0, b1, b2, b3, b4, b5, b6, b7])) ∧ Ext w w' := by
  have hidx : ∀ k : Nat, k < 8 → ∃ c : UInt8, [b0, b1, b2, b3, b4, b5, b6, b7][k]? = some c ∧ ∀ W, (Instr.index 100 (.agg (arr8 b0 b1 b2 b3 b4 b5 b6 b7)) (.int .i64 (k : Int))).run Try.prog W = .ok (.int .u8 (c.toNat : Int)) W := by
    intro k hk
    match k, hk with
    | 0, _ => exact ⟨_, rfl, fun _ => by kernel_rfl⟩
    | 1, _ => exact ⟨_, rfl, fun _ => by kernel_rfl⟩
    | 2, _ => exact ⟨_, rfl, fun _ => by kernel_rfl⟩
    | 3, _ => exact ⟨_, rfl, fun _ => by kernel_rfl⟩
    | 4, _ => exact ⟨_, rfl, fun _ => by kernel_rfl⟩
    | 5, _ => exact ⟨_, rfl, fun _ => by kernel_rfl⟩
    | 6, _ => exact ⟨_, rfl, fun _ => by kernel_rfl⟩
    | 7, _ => exact ⟨_, rfl, fun _ => by kernel_rfl⟩
  have Hidx := Lib.hid hidx; clear hidx
  obtain ⟨l, hl⟩ : ∃ l, [b0, b1, b2, b3, b4, b5, b6, b7] = l := ⟨_, rfl⟩
  have hll : l.length = 8 := by rw [← hl]; rfl
  rw [hl] at Hidx
  rw [hl]
  clear hl
  unfold arr8 at Hidx ⊢
  go_enter Try.func92, Try.ntmps92
  go_wp2
  go_loop [3, 7] (fun n i => ∃ k : Nat, k ≤ 8 ∧ i = .int .i64 k ∧ n = .int .u64 ((beN (l.take k) : Nat) : Int)) (fun _ i => 8 - (intOf i).toNat)
  case atStart => exact ⟨0, by omega, rfl, rfl⟩
  case round =>
    obtain ⟨k, hk, rfl, rfl⟩ := hrel
    have hlt := beN_lt (l.take k)
    by_cases hk8 : k < 8
    · obtain ⟨c, hc, hidx⟩ := Hidx.out k hk8
      have hlt2 : beN (l.take k) < 72057594037927936 := by
        have h1 : (l.take k).length ≤ 7 := by rw [List.length_take]; omega
        exact Nat.lt_of_lt_of_le hlt (Nat.le_trans (Nat.pow_le_pow_right (by omega) h1) (by decide))
      obtain ⟨hkl, hce⟩ := List.getElem?_eq_some_iff.1 hc
      have hs : beN (l.take (k + 1)) = beN (l.take k) * 256 + c.toNat := by rw [List.take_succ_eq_append_getElem hkl, beN_snoc, hce]
      have Hs := Lib.hid hs
      obtain ⟨m, hm⟩ : ∃ m, beN (l.take k) = m := ⟨_, rfl⟩
      obtain ⟨d, hd⟩ : ∃ d, c.toNat = d := ⟨_, rfl⟩
      rw [hm] at hlt2 Hs ⊢
      rw [hd] at hidx Hs
      have hd255 : d < 256 := by rw [← hd]; exact c.toNat_lt
      have q1 := u64_join m d hlt2 hd255
      clear hs hm hd hlt hkl hce hc
      go_wp2
      go_round
      case rel => exact ⟨k + 1, by omega, by simp, by rw [Hs.out]; simp⟩
      case measure => simp [intOf]; omega
    · obtain rfl : k = 8 := by omega
      rw [List.take_of_length_le (by omega)]
      clear hlt
      go_wp2
      go_ret
      exact ⟨rfl, (Ext.refl _).alloc _⟩

def widthB (n : Int) : Bool := decide (n = 1 ∨ n = 2 ∨ n = 4 ∨ n = 8)
set_option maxHeartbeats 1000000 in
theorem isWidth_any (n : Int) (w : World) :
    Calls Try.prog 70 #[.int .i64 n] w fun e w' => e = .returned (.bool (widthB n)) ∧ w = w' := by
  by_cases h1 : n = 1
  · subst h1
    go_enter Try.func70, Try.ntmps70
    go_wp2
    go_ret
    exact ⟨by rfl, rfl⟩
  · have h1' : (n == 1) = false := beq_eq_false_iff_ne.2 h1
    by_cases h2 : n = 2
    · subst h2
      go_enter Try.func70, Try.ntmps70
      go_wp2
      go_ret
      exact ⟨by rfl, rfl⟩
    · have h2' : (n == 2) = false := beq_eq_false_iff_ne.2 h2
      by_cases h4 : n = 4
      · subst h4
        go_enter Try.func70, Try.ntmps70
        go_wp2
        go_ret
        exact ⟨by rfl, rfl⟩
      · have h4' : (n == 4) = false := beq_eq_false_iff_ne.2 h4
        have h8 : (n == 8) = widthB n := by
          rw [Bool.eq_iff_iff]; simp [widthB]; omega
        go_enter Try.func70, Try.ntmps70
        go_wp2
        go_ret
        exact ⟨by rfl, rfl⟩

end Go.Proofs.Ytjnaknfnoibncaa

/- What pack's numberOf makes: a number's eight bytes. Conditions: none. -/
namespace Go.Proofs.Ytjnaknfnoibncaa
open Go Go.RowKit Go.Shelf
attribute [local go_sem] Oper.semAt_some wide_fn wide_depth

theorem Keeps.setRow {K : Nat → Prop} {a w : World} (h : Keeps K a w) {g : Nat} (hg : ¬ K g) (cs : Array Value) : Keeps K a (w.setRow g cs) :=
  h.trans ⟨rfl, rfl, rfl, by simp, fun k _ hk => setRow_other w g k cs (fun e => hg (e ▸ hk))⟩

/-- The byte k of a number, the lowest being 0. -/
def byB (n k : Nat) : UInt8 := UInt8.ofNat (n / 256 ^ k % 256)
def num8 (n : Nat) : Array Value := arr8 (byB n 7) (byB n 6) (byB n 5) (byB n 4) (byB n 3) (byB n 2) (byB n 1) (byB n 0)
/-- A number's bytes, of which those from j on are written. -/
def pb8 (n j x : Nat) : Value := .int .u8 (if j ≤ x then ((byB n (7 - x)).toNat : Int) else 0)
def part8 (n j : Nat) : Array Value := #[pb8 n j 0, pb8 n j 1, pb8 n j 2, pb8 n j 3, pb8 n j 4, pb8 n j 5, pb8 n j 6, pb8 n j 7]
theorem part8_0 (n : Nat) : part8 n 0 = num8 n := by simp [part8, pb8, num8, arr8]
theorem part8_8 (n : Nat) : part8 n 8 = #[.int .u8 0, .int .u8 0, .int .u8 0, .int .u8 0, .int .u8 0, .int .u8 0, .int .u8 0, .int .u8 0] := by simp [part8, pb8]
theorem part8_step (n j : Nat) (hj : j < 8) : (part8 n (j + 1)).setIfInBounds j (.int .u8 ((byB n (7 - j)).toNat : Int)) = part8 n j := by
  match j, hj with
  | 0, _ => simp [part8, pb8]
  | 1, _ => simp [part8, pb8]
  | 2, _ => simp [part8, pb8]
  | 3, _ => simp [part8, pb8]
  | 4, _ => simp [part8, pb8]
  | 5, _ => simp [part8, pb8]
  | 6, _ => simp [part8, pb8]
  | 7, _ => simp [part8, pb8]
theorem part8_at (n j x : Nat) (hx : x < 8) : (part8 n j)[x]? = some (pb8 n j x) := by
  match x, hx with
  | 0, _ => rfl
  | 1, _ => rfl
  | 2, _ => rfl
  | 3, _ => rfl
  | 4, _ => rfl
  | 5, _ => rfl
  | 6, _ => rfl
  | 7, _ => rfl

set_option maxRecDepth 100000 in
set_option maxHeartbeats 2000000 in
theorem numberOf_any (n : Nat) (w : World) (hn : n < 18446744073709551616) :
    Calls Try.prog 71 #[.int .u64 (n : Int)] w fun e w' => e = .returned (.agg (num8 n)) ∧ Ext w w' := by
  go_enter Try.func71, Try.ntmps71
  go_wp2
  go_loopw [0, 4] (fun m i wr => ∃ j : Nat, j ≤ 8 ∧ i = .int .i64 ((j : Int) - 1) ∧ m = .int .u64 ((n / 256 ^ (8 - j) : Nat) : Int) ∧ wr.heap[w.heap.size + 1]? = some (.cells (part8 n j) 100 (0, 0)) ∧
      wr.heap[w.heap.size]? = some (.cells (part8 n 8) 100 (0, 0)) ∧ Ext w wr)
    (fun _ i _ => (intOf i + 1).toNat)
  case atStart =>
    refine ⟨8, Nat.le_refl _, rfl, by simp, ?_, ?_, ((Ext.refl _).alloc _).alloc _⟩
    · rw [part8_8]
      have := World.alloc_heap_new (w.alloc (.cells #[.int .u8 0, .int .u8 0, .int .u8 0, .int .u8 0, .int .u8 0, .int .u8 0, .int .u8 0, .int .u8 0] 100)) (.cells #[.int .u8 0, .int .u8 0, .int .u8 0, .int .u8 0, .int .u8 0, .int .u8 0, .int .u8 0, .int .u8 0] 100)
      rw [World.size_alloc] at this
      exact this
    · rw [part8_8]
      exact (Below.heap_alloc _ _ _ (by simp)).trans (World.alloc_heap_new w _)
  case round =>
    obtain ⟨j, hj, rfl, rfl, hb1, hb0, hx⟩ := hrel
    have Hx := Lib.hid hx; clear hx
    by_cases h0 : 1 ≤ j
    · obtain ⟨j, rfl⟩ : ∃ j', j = j' + 1 := ⟨j - 1, by omega⟩
      have c1 : wr.cell? ⟨w.heap.size + 1, j, none⟩ = some (pb8 n (j + 1) j) := by
        rw [cell_of_row wr _ j _ _ _ hb1]; exact part8_at n (j + 1) j (by omega)
      have f1 : wr.frozen? ⟨w.heap.size + 1, j, none⟩ = false := Lib.frozen_of_heap hb1 j
      obtain ⟨m, hm⟩ : ∃ m, n / 256 ^ (8 - (j + 1)) = m := ⟨_, rfl⟩
      have hml : m < 18446744073709551616 := by rw [← hm]; exact Nat.lt_of_le_of_lt (Nat.div_le_self _ _) hn
      have hnx : n / 256 ^ (8 - j) = m / 256 := by
        rw [← hm, Nat.div_div_eq_div_mul, ← Nat.pow_succ, show (8 - (j + 1)).succ = 8 - j by omega]
      have hby : ((m % 256 : Nat) : Int) = ((byB n (7 - j)).toNat : Int) := by
        rw [byB, show 7 - j = 8 - (j + 1) by omega, hm]; simp
      rw [hm]
      have Hnx := Lib.hid hnx
      have Hby := Lib.hid hby
      rw [Int.natCast_emod] at Hby
      have Hb1 := Lib.hid hb1
      have Hb0 := Lib.hid hb0
      clear hnx hby hb1 hb0 hm
      rw [show (((j + 1 : Nat) : Int) - 1) = (j : Int) by omega]
      have x1 : (j : Int) < 8 := by omega
      go_wp2
      go_roundw
      case rel =>
        refine ⟨j, by omega, rfl, by rw [Hnx.out]; simp, ?_, ?_, ?_⟩
        · rw [show ((m : Int) % 256) = _ from Hby.out, heap_setCell_same _ _ _ _ _ _ Hb1.out, part8_step n j (by omega)]
        · rw [heap_setCell_other _ _ _ _ (by simp)]; exact Hb0.out
        · exact Below.setCell Hx.out (p := ⟨w.heap.size + 1, j, none⟩) (by simp) _
      case measure => simp [intOf]
    · obtain rfl : j = 0 := by omega
      have Hb1 := Lib.hid hb1
      have Hb0 := Lib.hid hb0
      clear hb1 hb0
      go_wp2_with (first
        | (with_reducible refine wpList_load_row rfl _ _ rfl (w.heap.size + 1) rfl _ _ _ _ Hb1.out Try.underlying100 rfl (by kernel_rfl) ?_)
        | (refine wpList_store_row rfl _ _ _ rfl w.heap.size (part8 n 0) rfl rfl _ _ Hb0.out (by kernel_rfl) rfl (by kernel_rfl) ?_))
      refine bodyPost_ret (v := .agg (part8 n 0)) ?_ rfl ⟨by rw [part8_0], ?_⟩
      · exact results_cell_row (P := Try.prog) (fn := Try.f71) (p := 2) (ty := 100) rfl _ _ w.heap.size _ (part8 n 0) _ _ rfl (setRow_heap _ _ _ _ _ _ Hb0.out) Try.underlying100 rfl (by kernel_rfl)
      · exact ((Hx.out.keeps.mono (K' := fun k => k < w.heap.size) fun _ _ _ => trivial).setRow (by omega) _).ext fun _ h => h

end Go.Proofs.Ytjnaknfnoibncaa

/- What pack's reader does with numbers: Num. Conditions: a reader that Open, or Part, made. -/
namespace Go.Proofs.Ytjnaknfnoibncaa
open Go Go.RowKit Go.Shelf
attribute [local go_sem] Oper.semAt_some wide_fn wide_depth

def enc8 (b : UInt8) : Value := .int .u8 (b.toNat : Int)
theorem value_list (l : List UInt8) (w : World) (h : l.length = 8) :
    Calls Try.prog 92 #[.agg (l.map enc8).toArray] w fun e w' => e = .returned (.int .u64 (beN l)) ∧ Ext w w' := by
  match l, h with
  | [b0, b1, b2, b3, b4, b5, b6, b7], _ => exact value_any b0 b1 b2 b3 b4 b5 b6 b7 w
theorem beF_zeros : ∀ (n : Nat) (l : List UInt8), beF 0 (List.replicate n 0 ++ l) = beF 0 l
  | 0, _ => rfl
  | n + 1, l => by rw [List.replicate_succ, List.cons_append, beF]; exact beF_zeros n l

/-- What Num answers. -/
def numR (r : Rd) (width : Int) : Nat × Rd := if widthB width then (beN (bl (rawR r width).1), (rawR r width).2) else (0, Rd.failed)
theorem rawR_size (r : Rd) (n : Nat) (hr : r.ok) : (rawR r n).1.size = n ∨ (rawR r n).1 = ⟨#[]⟩ := by
  unfold rawR
  split
  · exact .inr rfl
  · next hc =>
    left
    obtain ⟨h1, h2⟩ := hr
    unfold Rd.left at hc
    show (r.s.extract r.at_ (r.at_ + ((n : Int)).toNat)).size = n
    rw [ByteArray.size_extract, Int.toNat_natCast]
    omega

theorem copy8 (W : World) (A k : Nat) (t : ByteArray) (hk : k ≤ 8) (hs : t.size = k ∨ t = ⟨#[]⟩)
    (h : W.heap[A]? = some (.cells #[.int .u8 0, .int .u8 0, .int .u8 0, .int .u8 0, .int .u8 0, .int .u8 0, .int .u8 0, .int .u8 0] 100 (0, 0))) :
    (Builtin.copy_ #[93, 9] 3 #[.slice (some ⟨A, 8 - k, none⟩) k k, .string t]).run Try.prog W = .ok (goInt t.size) (W.setRow A ((List.replicate (8 - t.size) 0 ++ bl t).map enc8).toArray) := by
  by_cases h0 : t.size = 0
  · obtain rfl : t = ⟨#[]⟩ := bl_inj (List.eq_nil_of_length_eq_zero h0)
    have h1 := Lib.run_copy_empty_string (P := Try.prog) W 93 9 3 5 (some ⟨A, 8 - k, none⟩) k k ⟨#[]⟩ Try.underlying93 (by kernel_rfl) rfl
    rw [h1]
    have h2 := setRow_self W A _ _ _ h
    have h3 : ((List.replicate (8 - (⟨#[]⟩ : ByteArray).size) 0 ++ bl ⟨#[]⟩).map enc8).toArray = #[.int .u8 0, .int .u8 0, .int .u8 0, .int .u8 0, .int .u8 0, .int .u8 0, .int .u8 0, .int .u8 0] := by kernel_rfl
    rw [h3, h2]
    rfl
  · have hs' : t.size = k := by
      rcases hs with hs | hs
      · exact hs
      · subst hs; exact absurd rfl h0
    have h1 := Lib.run_copy_row_string (P := Try.prog) W 93 9 3 5 A (8 - k) k k t _ _ Try.underlying93 (by kernel_rfl) h (by omega) (by simp; omega)
    rw [h1]
    have hz : (#[.int .u8 0, .int .u8 0, .int .u8 0, .int .u8 0, .int .u8 0, .int .u8 0, .int .u8 0, .int .u8 0] : Array Value).toList = List.replicate 8 (enc8 0) := by kernel_rfl
    rw [hz, List.take_replicate, List.drop_replicate, hs', show min (8 - k) 8 = 8 - k by omega, show 8 - (8 - k + k) = 0 by omega, List.replicate_zero, List.append_nil, List.map_append, List.map_replicate]
    rfl

set_option maxRecDepth 100000 in
set_option maxHeartbeats 4000000 in
theorem Num_any (B : Nat) (r : Rd) (k : Nat) (w : World) (h : RdAt w B r) (hr : r.ok) (hk : k = 1 ∨ k = 2 ∨ k = 4 ∨ k = 8) :
    Calls Try.prog 80 #[.pointer (some ⟨B, 0, none⟩), .int .i64 k] w fun e w' => e = .returned (.int .u64 ((numR r k).1 : Int)) ∧ RdAt w' B (numR r k).2 ∧ Keeps (fun j => j ≠ B) w w' := by
  have hwd : widthB (k : Int) = true := by unfold widthB; exact decide_eq_true (by omega)
  have CW := Lib.hid fun W => isWidth_any (k : Int) W
  rw [hwd] at CW
  have hB : B < w.heap.size := (Array.getElem?_eq_some_iff.1 h).1
  have CR := Lib.hid fun W (h : RdAt W B r) => Raw_any B r k W h hr (by omega)
  have hn : numR r k = (beN (bl (rawR r k).1), (rawR r k).2) := by rw [numR, if_pos hwd]
  have hsz := rawR_size r k hr
  obtain ⟨⟨t, r'⟩, hq⟩ : ∃ q, rawR r k = q := ⟨_, rfl⟩
  rw [hq] at CR hn hsz
  simp only at hn hsz
  have Hn := Lib.hid hn
  have H := Lib.hid h
  clear hn hq h hwd
  have hmx : Try.prog.follows .mixedOrders = true := by kernel_rfl
  obtain ⟨AR, hAR⟩ : ∃ AR : Array Value, ((List.replicate (8 - t.size) 0 ++ bl t).map enc8).toArray = AR := ⟨_, rfl⟩
  have HAR := Lib.hid hAR
  have hl8 : (List.replicate (8 - t.size) 0 ++ bl t).length = 8 := by
    rw [List.length_append, List.length_replicate, bl_size]
    rcases hsz with h | h
    · omega
    · subst h; rfl
  have CV := Lib.hid fun W => value_list (List.replicate (8 - t.size) 0 ++ bl t) W hl8
  rw [hAR, beN, beF_zeros] at CV
  have Hsz8 : Hid ((Try.prog.info? 100).map (·.size) = some AR.size) := Lib.hid (by rw [← hAR, List.size_toArray, List.length_map, hl8]; kernel_rfl)
  clear hAR hl8
  rcases hk with rfl | rfl | rfl | rfl
  · rw [show (((1 : Nat) : Int)) = 1 from rfl] at CR CW Hn ⊢
    go_enter Try.func80, Try.ntmps80
    go_wp2_with fail
    refine (CW.out _).mono ?_
    rintro e w1 ⟨rfl, rfl⟩
    go_wp2_with fail
    have hA := World.alloc_heap_new w (.cells #[.int .u8 0, .int .u8 0, .int .u8 0, .int .u8 0, .int .u8 0, .int .u8 0, .int .u8 0, .int .u8 0] 100)
    have hR : RdAt (w.alloc (.cells #[.int .u8 0, .int .u8 0, .int .u8 0, .int .u8 0, .int .u8 0, .int .u8 0, .int .u8 0, .int .u8 0] 100)) B r := ((Keeps.refl (fun _ => True) w).alloc _).rd H.out trivial
    have hK := (Keeps.refl (fun j => j ≠ B) w).alloc (.cells #[.int .u8 0, .int .u8 0, .int .u8 0, .int .u8 0, .int .u8 0, .int .u8 0, .int .u8 0, .int .u8 0] 100)
    generalize w.alloc (.cells #[.int .u8 0, .int .u8 0, .int .u8 0, .int .u8 0, .int .u8 0, .int .u8 0, .int .u8 0, .int .u8 0] 100) = W0 at hA hR hK ⊢
    obtain ⟨A, hAe⟩ : ∃ A, w.heap.size = A := ⟨_, rfl⟩
    rw [hAe] at hA hB ⊢
    have HA := Lib.hid hA; clear hA
    have HR := Lib.hid hR; clear hR
    have HK := Lib.hid hK; clear hK
    have HAe := Lib.hid hAe; clear hAe
    have q7 : IntKind.i64.wrap (7 : Int) = 7 := by decide
    have HC : Hid (∀ W : World, W.heap[A]? = some (.cells #[.int .u8 0, .int .u8 0, .int .u8 0, .int .u8 0, .int .u8 0, .int .u8 0, .int .u8 0, .int .u8 0] 100 (0, 0)) →
        (Builtin.copy_ #[93, 9] 3 #[.slice (some ⟨A, 7, none⟩) 1 1, .string t]).run Try.prog W = .ok (goInt t.size) (W.setRow A AR)) :=
      Lib.hid fun W h => by rw [← HAR.out]; exact copy8 W A 1 t (by omega) hsz h
    go_region_with (first | (go_at_call 91; refine (CR.out W0.drew HR.out).mono ?_; rintro e w2 ⟨rfl, hr2, hk2, hz2⟩; have hA2 := Lib.hid (hk2.heap HA.out (show A ≠ B by omega)); have hcp := HC.out w2 hA2.out; have HP := Lib.hid (And.intro hr2 (And.intro hk2 hz2)); clear hr2 hk2 hz2))
    all_goals
      have hrow := setRow_heap w2 A _ AR _ _ hA2.out
      have hr3 : RdAt (w2.setRow A AR) B r' := (setRow_other w2 A B AR (by omega)).trans HP.out.1
      have hk3 : Keeps (fun j => j ≠ B ∧ j ≠ A) w (w2.setRow A AR) := ((HK.out.mono fun _ _ h => h.1).trans ((Keeps.refl _ W0).drew.trans (HP.out.2.1.mono fun _ _ h => h.1))).setRow (fun h => h.2 rfl) _
      generalize w2.setRow A AR = W3 at hrow hr3 hk3 ⊢
      have Hrow := Lib.hid hrow; clear hrow
      have HQ := Lib.hid (And.intro hr3 hk3); clear hr3 hk3
      clear hcp HC q7
      go_wp2_with (refine wpList_load_row rfl _ _ rfl A rfl _ _ _ _ Hrow.out Try.underlying100 rfl Hsz8.out ?_)
      refine (CV.out W3).mono ?_
      rintro e w4 ⟨rfl, hx4⟩
      have HX4 := Lib.hid hx4; clear hx4
      go_wp2
      go_ret
      refine ⟨by rw [Hn.out]; rfl, by rw [Hn.out]; exact HX4.out.keeps.rd HQ.out.1 trivial, ?_⟩
      exact (HQ.out.2.trans (HX4.out.keeps.mono fun _ _ _ => trivial)).mono fun j hj h => ⟨h, by have := HAe.out; omega⟩
  · rw [show (((2 : Nat) : Int)) = 2 from rfl] at CR CW Hn ⊢
    go_enter Try.func80, Try.ntmps80
    go_wp2_with fail
    refine (CW.out _).mono ?_
    rintro e w1 ⟨rfl, rfl⟩
    go_wp2_with fail
    have hA := World.alloc_heap_new w (.cells #[.int .u8 0, .int .u8 0, .int .u8 0, .int .u8 0, .int .u8 0, .int .u8 0, .int .u8 0, .int .u8 0] 100)
    have hR : RdAt (w.alloc (.cells #[.int .u8 0, .int .u8 0, .int .u8 0, .int .u8 0, .int .u8 0, .int .u8 0, .int .u8 0, .int .u8 0] 100)) B r := ((Keeps.refl (fun _ => True) w).alloc _).rd H.out trivial
    have hK := (Keeps.refl (fun j => j ≠ B) w).alloc (.cells #[.int .u8 0, .int .u8 0, .int .u8 0, .int .u8 0, .int .u8 0, .int .u8 0, .int .u8 0, .int .u8 0] 100)
    generalize w.alloc (.cells #[.int .u8 0, .int .u8 0, .int .u8 0, .int .u8 0, .int .u8 0, .int .u8 0, .int .u8 0, .int .u8 0] 100) = W0 at hA hR hK ⊢
    obtain ⟨A, hAe⟩ : ∃ A, w.heap.size = A := ⟨_, rfl⟩
    rw [hAe] at hA hB ⊢
    have HA := Lib.hid hA; clear hA
    have HR := Lib.hid hR; clear hR
    have HK := Lib.hid hK; clear hK
    have HAe := Lib.hid hAe; clear hAe
    have q7 : IntKind.i64.wrap (6 : Int) = 6 := by decide
    have HC : Hid (∀ W : World, W.heap[A]? = some (.cells #[.int .u8 0, .int .u8 0, .int .u8 0, .int .u8 0, .int .u8 0, .int .u8 0, .int .u8 0, .int .u8 0] 100 (0, 0)) →
        (Builtin.copy_ #[93, 9] 3 #[.slice (some ⟨A, 6, none⟩) 2 2, .string t]).run Try.prog W = .ok (goInt t.size) (W.setRow A AR)) :=
      Lib.hid fun W h => by rw [← HAR.out]; exact copy8 W A 2 t (by omega) hsz h
    go_region_with (first | (go_at_call 91; refine (CR.out W0.drew HR.out).mono ?_; rintro e w2 ⟨rfl, hr2, hk2, hz2⟩; have hA2 := Lib.hid (hk2.heap HA.out (show A ≠ B by omega)); have hcp := HC.out w2 hA2.out; have HP := Lib.hid (And.intro hr2 (And.intro hk2 hz2)); clear hr2 hk2 hz2))
    all_goals
      have hrow := setRow_heap w2 A _ AR _ _ hA2.out
      have hr3 : RdAt (w2.setRow A AR) B r' := (setRow_other w2 A B AR (by omega)).trans HP.out.1
      have hk3 : Keeps (fun j => j ≠ B ∧ j ≠ A) w (w2.setRow A AR) := ((HK.out.mono fun _ _ h => h.1).trans ((Keeps.refl _ W0).drew.trans (HP.out.2.1.mono fun _ _ h => h.1))).setRow (fun h => h.2 rfl) _
      generalize w2.setRow A AR = W3 at hrow hr3 hk3 ⊢
      have Hrow := Lib.hid hrow; clear hrow
      have HQ := Lib.hid (And.intro hr3 hk3); clear hr3 hk3
      clear hcp HC q7
      go_wp2_with (refine wpList_load_row rfl _ _ rfl A rfl _ _ _ _ Hrow.out Try.underlying100 rfl Hsz8.out ?_)
      refine (CV.out W3).mono ?_
      rintro e w4 ⟨rfl, hx4⟩
      have HX4 := Lib.hid hx4; clear hx4
      go_wp2
      go_ret
      refine ⟨by rw [Hn.out]; rfl, by rw [Hn.out]; exact HX4.out.keeps.rd HQ.out.1 trivial, ?_⟩
      exact (HQ.out.2.trans (HX4.out.keeps.mono fun _ _ _ => trivial)).mono fun j hj h => ⟨h, by have := HAe.out; omega⟩
  · rw [show (((4 : Nat) : Int)) = 4 from rfl] at CR CW Hn ⊢
    go_enter Try.func80, Try.ntmps80
    go_wp2_with fail
    refine (CW.out _).mono ?_
    rintro e w1 ⟨rfl, rfl⟩
    go_wp2_with fail
    have hA := World.alloc_heap_new w (.cells #[.int .u8 0, .int .u8 0, .int .u8 0, .int .u8 0, .int .u8 0, .int .u8 0, .int .u8 0, .int .u8 0] 100)
    have hR : RdAt (w.alloc (.cells #[.int .u8 0, .int .u8 0, .int .u8 0, .int .u8 0, .int .u8 0, .int .u8 0, .int .u8 0, .int .u8 0] 100)) B r := ((Keeps.refl (fun _ => True) w).alloc _).rd H.out trivial
    have hK := (Keeps.refl (fun j => j ≠ B) w).alloc (.cells #[.int .u8 0, .int .u8 0, .int .u8 0, .int .u8 0, .int .u8 0, .int .u8 0, .int .u8 0, .int .u8 0] 100)
    generalize w.alloc (.cells #[.int .u8 0, .int .u8 0, .int .u8 0, .int .u8 0, .int .u8 0, .int .u8 0, .int .u8 0, .int .u8 0] 100) = W0 at hA hR hK ⊢
    obtain ⟨A, hAe⟩ : ∃ A, w.heap.size = A := ⟨_, rfl⟩
    rw [hAe] at hA hB ⊢
    have HA := Lib.hid hA; clear hA
    have HR := Lib.hid hR; clear hR
    have HK := Lib.hid hK; clear hK
    have HAe := Lib.hid hAe; clear hAe
    have q7 : IntKind.i64.wrap (4 : Int) = 4 := by decide
    have HC : Hid (∀ W : World, W.heap[A]? = some (.cells #[.int .u8 0, .int .u8 0, .int .u8 0, .int .u8 0, .int .u8 0, .int .u8 0, .int .u8 0, .int .u8 0] 100 (0, 0)) →
        (Builtin.copy_ #[93, 9] 3 #[.slice (some ⟨A, 4, none⟩) 4 4, .string t]).run Try.prog W = .ok (goInt t.size) (W.setRow A AR)) :=
      Lib.hid fun W h => by rw [← HAR.out]; exact copy8 W A 4 t (by omega) hsz h
    go_region_with (first | (go_at_call 91; refine (CR.out W0.drew HR.out).mono ?_; rintro e w2 ⟨rfl, hr2, hk2, hz2⟩; have hA2 := Lib.hid (hk2.heap HA.out (show A ≠ B by omega)); have hcp := HC.out w2 hA2.out; have HP := Lib.hid (And.intro hr2 (And.intro hk2 hz2)); clear hr2 hk2 hz2))
    all_goals
      have hrow := setRow_heap w2 A _ AR _ _ hA2.out
      have hr3 : RdAt (w2.setRow A AR) B r' := (setRow_other w2 A B AR (by omega)).trans HP.out.1
      have hk3 : Keeps (fun j => j ≠ B ∧ j ≠ A) w (w2.setRow A AR) := ((HK.out.mono fun _ _ h => h.1).trans ((Keeps.refl _ W0).drew.trans (HP.out.2.1.mono fun _ _ h => h.1))).setRow (fun h => h.2 rfl) _
      generalize w2.setRow A AR = W3 at hrow hr3 hk3 ⊢
      have Hrow := Lib.hid hrow; clear hrow
      have HQ := Lib.hid (And.intro hr3 hk3); clear hr3 hk3
      clear hcp HC q7
      go_wp2_with (refine wpList_load_row rfl _ _ rfl A rfl _ _ _ _ Hrow.out Try.underlying100 rfl Hsz8.out ?_)
      refine (CV.out W3).mono ?_
      rintro e w4 ⟨rfl, hx4⟩
      have HX4 := Lib.hid hx4; clear hx4
      go_wp2
      go_ret
      refine ⟨by rw [Hn.out]; rfl, by rw [Hn.out]; exact HX4.out.keeps.rd HQ.out.1 trivial, ?_⟩
      exact (HQ.out.2.trans (HX4.out.keeps.mono fun _ _ _ => trivial)).mono fun j hj h => ⟨h, by have := HAe.out; omega⟩
  · rw [show (((8 : Nat) : Int)) = 8 from rfl] at CR CW Hn ⊢
    go_enter Try.func80, Try.ntmps80
    go_wp2_with fail
    refine (CW.out _).mono ?_
    rintro e w1 ⟨rfl, rfl⟩
    go_wp2_with fail
    have hA := World.alloc_heap_new w (.cells #[.int .u8 0, .int .u8 0, .int .u8 0, .int .u8 0, .int .u8 0, .int .u8 0, .int .u8 0, .int .u8 0] 100)
    have hR : RdAt (w.alloc (.cells #[.int .u8 0, .int .u8 0, .int .u8 0, .int .u8 0, .int .u8 0, .int .u8 0, .int .u8 0, .int .u8 0] 100)) B r := ((Keeps.refl (fun _ => True) w).alloc _).rd H.out trivial
    have hK := (Keeps.refl (fun j => j ≠ B) w).alloc (.cells #[.int .u8 0, .int .u8 0, .int .u8 0, .int .u8 0, .int .u8 0, .int .u8 0, .int .u8 0, .int .u8 0] 100)
    generalize w.alloc (.cells #[.int .u8 0, .int .u8 0, .int .u8 0, .int .u8 0, .int .u8 0, .int .u8 0, .int .u8 0, .int .u8 0] 100) = W0 at hA hR hK ⊢
    obtain ⟨A, hAe⟩ : ∃ A, w.heap.size = A := ⟨_, rfl⟩
    rw [hAe] at hA hB ⊢
    have HA := Lib.hid hA; clear hA
    have HR := Lib.hid hR; clear hR
    have HK := Lib.hid hK; clear hK
    have HAe := Lib.hid hAe; clear hAe
    have q7 : IntKind.i64.wrap (0 : Int) = 0 := by decide
    have HC : Hid (∀ W : World, W.heap[A]? = some (.cells #[.int .u8 0, .int .u8 0, .int .u8 0, .int .u8 0, .int .u8 0, .int .u8 0, .int .u8 0, .int .u8 0] 100 (0, 0)) →
        (Builtin.copy_ #[93, 9] 3 #[.slice (some ⟨A, 0, none⟩) 8 8, .string t]).run Try.prog W = .ok (goInt t.size) (W.setRow A AR)) :=
      Lib.hid fun W h => by rw [← HAR.out]; exact copy8 W A 8 t (by omega) hsz h
    go_region_with (first | (go_at_call 91; refine (CR.out W0.drew HR.out).mono ?_; rintro e w2 ⟨rfl, hr2, hk2, hz2⟩; have hA2 := Lib.hid (hk2.heap HA.out (show A ≠ B by omega)); have hcp := HC.out w2 hA2.out; have HP := Lib.hid (And.intro hr2 (And.intro hk2 hz2)); clear hr2 hk2 hz2))
    all_goals
      have hrow := setRow_heap w2 A _ AR _ _ hA2.out
      have hr3 : RdAt (w2.setRow A AR) B r' := (setRow_other w2 A B AR (by omega)).trans HP.out.1
      have hk3 : Keeps (fun j => j ≠ B ∧ j ≠ A) w (w2.setRow A AR) := ((HK.out.mono fun _ _ h => h.1).trans ((Keeps.refl _ W0).drew.trans (HP.out.2.1.mono fun _ _ h => h.1))).setRow (fun h => h.2 rfl) _
      generalize w2.setRow A AR = W3 at hrow hr3 hk3 ⊢
      have Hrow := Lib.hid hrow; clear hrow
      have HQ := Lib.hid (And.intro hr3 hk3); clear hr3 hk3
      clear hcp HC q7
      go_wp2_with (refine wpList_load_row rfl _ _ rfl A rfl _ _ _ _ Hrow.out Try.underlying100 rfl Hsz8.out ?_)
      refine (CV.out W3).mono ?_
      rintro e w4 ⟨rfl, hx4⟩
      have HX4 := Lib.hid hx4; clear hx4
      go_wp2
      go_ret
      refine ⟨by rw [Hn.out]; rfl, by rw [Hn.out]; exact HX4.out.keeps.rd HQ.out.1 trivial, ?_⟩
      exact (HQ.out.2.trans (HX4.out.keeps.mono fun _ _ _ => trivial)).mono fun j hj h => ⟨h, by have := HAe.out; omega⟩

end Go.Proofs.Ytjnaknfnoibncaa

/- The map of what was written, as a list: looked up, and added to. Conditions: texts that Go can hold. -/
namespace Go.Proofs.Ytjnaknfnoibncaa
open Go Go.RowKit Go.Shelf

theorem keyLaw : Go.Maps.Keyed Try.prog 9 := Go.Maps.string_keyed Try.underlying9
theorem zeroI (w : World) : (zeroValue 3).run Try.prog w = .ok (.int .i64 0) w := by kernel_rfl

/-- Block b is a map that has what the list says. -/
def MapIs (W : World) (b : Nat) (l : List (List UInt8 × Nat)) : Prop :=
  ∃ D : DataW Unit, W.ownsMap Try.prog 9 (plainElem Try.prog 3) b l.length D ∧ Go.Maps.IsMap D ∧
    ∀ s : List UInt8, Go.Maps.has D (.string s) = (l.lookup s).isSome ∧ ∀ v, l.lookup s = some v → D.atKey (.string s) (.lit (.int .i64 0)) = .lit (.int .i64 (v : Int))

theorem MapIs.new (w : World) : MapIs (w.alloc (.map #[] 0)) w.heap.size [] :=
  ⟨.map [], World.ownsMap_made w _ _ _, Go.Maps.isMap_empty, fun s => ⟨rfl, fun v h => by cases h⟩⟩
theorem MapIs.lt {W : World} {b : Nat} {l : List (List UInt8 × Nat)} (h : MapIs W b l) : b < W.heap.size := by
  obtain ⟨D, h, _⟩ := h
  exact h.lt
theorem MapIs.keep {W W' : World} {b : Nat} {l : List (List UInt8 × Nat)} (h : MapIs W b l) {K : Nat → Prop} (k : Keeps K W W') (hb : K b) : MapIs W' b l := by
  obtain ⟨D, ⟨es, clock, hh, r⟩, h2⟩ := h
  exact ⟨D, ⟨es, clock, k.heap hh hb, r⟩, h2⟩

theorem MapIs.look {W : World} {b : Nat} {l : List (List UInt8 × Nat)} (h : MapIs W b l) (s : ByteArray) (hs : s.size ≤ maxLen) :
    (Instr.lookup 96 (.map (some b)) (.string s) true).run Try.prog W = .ok (.tuple #[.int .i64 (((l.lookup (bl s)).getD 0 : Nat) : Int), .bool (l.lookup (bl s)).isSome]) W := by
  obtain ⟨D, hown, hm, hl⟩ := h
  obtain ⟨h1, h2⟩ := hl (bl s)
  obtain ⟨v, ps, hrun, hv⟩ := hown.look_ok keyLaw Try.underlying96 (zeroI W) (plainElem_int Try.underlying3 (by decide)) (Go.WideMaps.keyOf_string_mk Try.underlying9 hs)
  rw [hrun]
  change Go.Maps.has D (.string (bl s)) = _ at h1
  rw [show (Lit.string s.data.toList) = .string (bl s) from rfl] at hv ⊢
  rw [h1]
  obtain ⟨c, rfl, hc, _⟩ := plainElem_int_inv Try.underlying3 hv
  cases hlk : l.lookup (bl s) with
  | some x =>
    rw [h2 x hlk] at hc
    simp only [Prod.mk.injEq, DataW.lit.injEq, Lit.int.injEq, true_and] at hc
    rw [← hc.1]
    rfl
  | none =>
    rw [hlk] at h1
    rw [Go.Maps.atKey_of_not_has h1] at hc
    simp only [Prod.mk.injEq, DataW.lit.injEq, Lit.int.injEq, true_and] at hc
    rw [← hc.1]
    rfl

theorem MapIs.put {W : World} {b : Nat} {l : List (List UInt8 × Nat)} (h : MapIs W b l) (s : ByteArray) (hs : s.size ≤ maxLen) (v : Nat) (hv : v ≤ 1099511627776) (hl : l.length ≤ 1099511627776) :
    ∃ W', (Instr.mapUpdate 96 (.map (some b)) (.string s) (.int .i64 (v : Int))).run Try.prog W = .ok () W' ∧ MapIs W' b ((bl s, v) :: l) ∧ W.grownBy W' (some b) := by
  obtain ⟨D, hown, hm, hlk⟩ := h
  obtain ⟨W', h1, h2, h3⟩ := hown.update keyLaw Try.underlying96 (by unfold maxLen; omega) (Go.WideMaps.keyOf_string_mk Try.underlying9 hs) (plainElem_int (a := (v : Int)) Try.underlying3 (by simp [Lit.wf, IntKind.min, IntKind.max, IntKind.bits, IntKind.signed]; omega))
  refine ⟨W', h1, ⟨_, h2, hm.put _ _, fun t => ?_⟩, h3⟩
  have hkey : WideAt.IsKeyLit (.string s.data.toList) := keyLaw.key (Go.WideMaps.keyOf_string_mk Try.underlying9 hs)
  by_cases he : t = bl s
  · subst he
    refine ⟨?_, fun x hx => ?_⟩
    · rw [show (Lit.string (bl s)) = .string s.data.toList from rfl, Go.Maps.has_put_same hm hkey]; simp [List.lookup]
    · rw [show (Lit.string (bl s)) = .string s.data.toList from rfl, Go.Maps.atKey_put_same hm hkey]
      simp [List.lookup] at hx
      rw [hx]
  · have hne : (Lit.string t) ≠ .string s.data.toList := fun h => he (by cases h; rfl)
    have hb : (t == bl s) = false := beq_eq_false_iff_ne.2 he
    obtain ⟨g1, g2⟩ := hlk t
    refine ⟨?_, fun x hx => ?_⟩
    · rw [Go.Maps.has_put_other hne, g1, List.lookup, hb]
    · rw [Go.Maps.atKey_put_other hne]
      rw [List.lookup, hb] at hx
      exact g2 x hx

end Go.Proofs.Ytjnaknfnoibncaa

/- What pack's writer does: New, Raw, Len, Out. Conditions: a writer that New made; texts of a bound. -/
namespace Go.Proofs.Ytjnaknfnoibncaa
open Go Go.RowKit Go.Shelf
attribute [local go_sem] Oper.semAt_some wide_fn wide_depth

/-- A writer. -/
structure Wr where
  bytes : List UInt8
  limit : Int
  full : Bool
  rests : List (List UInt8 × Nat)
def Wr.ok (q : Wr) : Prop := q.bytes.length ≤ 140737488355328 ∧ q.limit ≤ 140737488355328 ∧ -9223372036854775808 ≤ q.limit ∧ q.rests.length ≤ q.bytes.length ∧ ∀ p ∈ q.rests, p.2 < 16384

/-- Block B is the writer q; none of its blocks is one of which G holds. -/
structure WrIs (W : World) (B mb : Nat) (bv : Value) (G : Nat → Prop) (q : Wr) : Prop where
  blk : W.heap[B]? = some (.cells #[bv, .int .i64 q.limit, .bool q.full, .map (some mb)] 98 (0, 0))
  own : W.ownsRow 0 5 1 bv q.bytes.length (Lib.byteCells q.bytes)
  map : MapIs W mb q.rests
  mbB : mb ≠ B
  bvB : bv.ownBlock ≠ some B
  bvm : bv.ownBlock ≠ some mb
  out : ∀ k, G k → k < W.heap.size ∧ k ≠ B ∧ k ≠ mb ∧ bv.ownBlock ≠ some k
def WrAt (W : World) (B : Nat) (G : Nat → Prop) (q : Wr) : Prop := ∃ mb bv, WrIs W B mb bv G q

theorem WrIs.lt {W : World} {B mb : Nat} {bv : Value} {G : Nat → Prop} {q : Wr} (h : WrIs W B mb bv G q) : B < W.heap.size ∧ mb < W.heap.size ∧ ∀ k, bv.ownBlock = some k → k < W.heap.size :=
  ⟨(Array.getElem?_eq_some_iff.1 h.blk).1, h.map.lt, fun k hk => (h.own.lt k hk).2⟩
theorem WrIs.cells {W : World} {B mb : Nat} {bv : Value} {G : Nat → Prop} {q : Wr} (h : WrIs W B mb bv G q) :
    W.cell? ⟨B, 0, none⟩ = some bv ∧ W.cell? ⟨B, 1, none⟩ = some (.int .i64 q.limit) ∧ W.cell? ⟨B, 2, none⟩ = some (.bool q.full) ∧ W.cell? ⟨B, 3, none⟩ = some (.map (some mb)) ∧
      W.frozen? ⟨B, 0, none⟩ = false ∧ W.frozen? ⟨B, 2, none⟩ = false := by
  have := h.blk
  refine ⟨?_, ?_, ?_, ?_, ?_, ?_⟩ <;> simp [World.cell?, World.frozen?, this]
/-- What else happens leaves a writer, if it leaves its blocks. -/
theorem WrIs.keep {W W' : World} {B mb : Nat} {bv : Value} {G : Nat → Prop} {q : Wr} (h : WrIs W B mb bv G q) {K : Nat → Prop} (k : Keeps K W W') (hB : K B) (hm : K mb) (hb : ∀ j, bv.ownBlock = some j → K j) : WrIs W' B mb bv G q := by
  refine ⟨k.heap h.blk hB, ?_, h.map.keep k hm, h.mbB, h.bvB, h.bvm, fun j hj => ?_⟩
  · refine ⟨h.own.1, ?_⟩
    rcases h.own.2 with hn | ⟨g, cap, cur, rfl, hb', hgg, rest⟩
    · exact .inl hn
    · exact .inr ⟨g, cap, cur, rfl, hb', k.heap hgg (hb g rfl), rest⟩
  · have := h.out j hj
    exact ⟨Nat.lt_of_lt_of_le this.1 k.size, this.2⟩
theorem WrAt.ext {W W' : World} {B : Nat} {G : Nat → Prop} {q : Wr} (h : WrAt W B G q) (k : Ext W W') : WrAt W' B G q := by
  obtain ⟨mb, bv, h⟩ := h
  exact ⟨mb, bv, h.keep k.keeps trivial trivial fun _ _ => trivial⟩
/-- What was laid since is none of a writer's blocks. -/
theorem WrAt.more {W W' : World} {B : Nat} {G : Nat → Prop} {q : Wr} (h : WrAt W B G q) (k : Ext W W') : WrAt W' B (fun j => G j ∨ (W.heap.size ≤ j ∧ j < W'.heap.size)) q := by
  obtain ⟨mb, bv, h⟩ := h
  obtain ⟨l1, l2, l3⟩ := h.lt
  have h' := h.keep k.keeps trivial trivial fun _ _ => trivial
  refine ⟨mb, bv, ⟨h'.blk, h'.own, h'.map, h'.mbB, h'.bvB, h'.bvm, fun j hj => ?_⟩⟩
  rcases hj with hj | ⟨h1, h2⟩
  · exact h'.out j hj
  · exact ⟨h2, by omega, by omega, fun e => by have := l3 j e; omega⟩
theorem WrAt.mono {W : World} {B : Nat} {G G' : Nat → Prop} {q : Wr} (h : WrAt W B G q) (s : ∀ k, G' k → G k) : WrAt W B G' q := by
  obtain ⟨mb, bv, h⟩ := h
  exact ⟨mb, bv, ⟨h.blk, h.own, h.map, h.mbB, h.bvB, h.bvm, fun j hj => h.out j (s j hj)⟩⟩
/-- What keeps a writer's blocks, and turns none of G. -/
theorem WrAt.keep {W W' : World} {B : Nat} {G : Nat → Prop} {q : Wr} (h : WrAt W B G q) {K : Nat → Prop} (k : Keeps K W W') (hK : ∀ j, j < W.heap.size → ¬ G j → K j) (hB : K B) : WrAt W' B G q ∨ ∃ j, G j ∧ ¬ K j := by
  obtain ⟨mb, bv, h⟩ := h
  obtain ⟨l1, l2, l3⟩ := h.lt
  refine .inl ⟨mb, bv, h.keep k hB (hK mb l2 fun hg => (h.out mb hg).2.2.1 rfl) fun j hj => hK j (l3 j hj) fun hg => (h.out j hg).2.2.2 hj⟩

set_option maxHeartbeats 1000000 in
theorem New_any (limit : Int) (w : World) :
    Calls Try.prog 39 #[.int .i64 limit] w fun e w' => e = .returned (.pointer (some ⟨w.heap.size + 1, 0, none⟩)) ∧ WrAt w' (w.heap.size + 1) (fun k => k < w.heap.size) ⟨[], limit, false, []⟩ ∧ Ext w w' := by
  have hmm := @run_makeMap Try.prog
  go_enter Try.func39, Try.ntmps39
  go_wp2
  go_ret
  refine ⟨rfl, ⟨w.heap.size, .slice none 0 0, ?_, World.ownsRow_nil _ _ _ _, ?_, by omega, by simp [Value.ownBlock], by simp [Value.ownBlock], fun k hk => ⟨by simp; omega, by omega, by omega, by simp [Value.ownBlock]⟩⟩, ((Ext.refl _).alloc _).alloc _⟩
  · have := World.alloc_heap_new (w.alloc (.map #[] 0)) (.cells #[.slice none 0 0, .int .i64 limit, .bool false, .map (some w.heap.size)] 98)
    rw [World.size_alloc] at this
    exact this
  · exact (MapIs.new w).keep ((Keeps.refl (fun _ => True) _).alloc _) trivial

/-- What Out answers. -/
def outR (q : Wr) : ByteArray × Int := if q.full then (⟨#[]⟩, 7) else (⟨q.bytes.toArray⟩, 0)
set_option maxHeartbeats 1000000 in
theorem Out_any (B : Nat) (G : Nat → Prop) (q : Wr) (w : World) (h : WrAt w B G q) :
    Calls Try.prog 42 #[.pointer (some ⟨B, 0, none⟩)] w fun e w' => e = .returned (.tuple #[.string (outR q).1, .int .i64 (outR q).2]) ∧ w = w' := by
  obtain ⟨mb, bv, h⟩ := h
  obtain ⟨c0, c1, c2, c3, f0, f2⟩ := h.cells
  have hback := bytes_back rfl h.own
  obtain ⟨bs, limit, full, rests⟩ := q
  simp only at c0 c1 c2 c3 hback
  obtain ⟨ao, cap, rfl⟩ := ownsRow_slice h.own
  clear h c1 c3 f0 f2
  cases full with
  | true =>
    go_enter Try.func42, Try.ntmps42
    go_wp2
    go_ret2
    exact ⟨rfl, rfl⟩
  | false =>
    go_enter Try.func42, Try.ntmps42
    go_wp2
    go_ret2
    exact ⟨rfl, rfl⟩

end Go.Proofs.Ytjnaknfnoibncaa
