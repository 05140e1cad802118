/- What pack's reader does with the pieces of names. Conditions: a reader that Open, or Part, made. -/
import Derived.Test.YtmmjhdkoccpdjaaPackA
import Derived.Test.YtmmjhdkoccpdjaaLabF
import Derived.Laws.BitsAllLaws
namespace Go.Proofs.Ytmmjhdkoccpdjaa
open Go Go.RowKit Go.Shelf
attribute [local go_sem] Oper.semAt_some wide_fn wide_depth

set_option maxHeartbeats 1000000 in
theorem isPointer_any (c : Nat) (w : World) (hc : c ≤ 255) :
    Calls Try.prog 122 #[.int .u8 c] w fun e w' => e = .returned (.bool (decide (192 ≤ c))) ∧ w = w' := by
  go_enter Try.func122, Try.ntmps122
  go_wp2
  go_ret
  refine ⟨?_, rfl⟩
  have : decide ((192 : Int) ≤ (c : Int)) = decide (192 ≤ c) := by rw [decide_eq_decide]; omega
  simp [this]

theorem i64_or_nat (a b : Nat) (ha : a < 4611686018427387904) (hb : b < 4611686018427387904) :
    bits .or .i64 (a : Int) (b : Int) = ((a ||| b : Nat) : Int) := by
  have hx : a ||| b < 2 ^ 62 := Nat.or_lt_two_pow (by omega) (by omega)
  have h1 : (BitVec.ofInt 64 (a : Int)).toNat = a := by
    rw [BitVec.ofInt_natCast, BitVec.toNat_ofNat]; exact Nat.mod_eq_of_lt (by omega)
  have h2 : (BitVec.ofInt 64 (b : Int)).toNat = b := by
    rw [BitVec.ofInt_natCast, BitVec.toNat_ofNat]; exact Nat.mod_eq_of_lt (by omega)
  show IntKind.i64.wrap ((BitVec.ofInt 64 (a : Int) ||| BitVec.ofInt 64 (b : Int)).toNat : Int) = _
  rw [BitVec.toNat_or, h1, h2]
  exact IntWalk.i64_in _ (by omega)
theorem i64_join (a b : Nat) (ha : a < 1099511627776) (hb : b < 256) : bits .or .i64 ((a : Int) * 256) (b : Int) = (a : Int) * 256 + b := by
  have h := i64_or_nat (a * 256) b (by omega) (by omega)
  rw [nat_join 8 (a * 256) b (by omega) (by omega)] at h
  simpa using h

def targetR (p : ByteArray) : Nat := (p[0]!.toNat * 256 + p[1]!.toNat) % 16384

set_option maxRecDepth 100000 in
set_option maxHeartbeats 1000000 in
theorem target_any (p : ByteArray) (w : World) (hp : 2 ≤ p.size) :
    Calls Try.prog 123 #[.string p] w fun e w' => e = .returned (.int .i64 (targetR p)) ∧ w' = w.drew := by
  have hmx : Try.prog.follows .mixedOrders = true := by kernel_rfl
  obtain ⟨c0, h0⟩ : ∃ c : Nat, p[0].toNat = c := ⟨_, rfl⟩
  obtain ⟨c1, h1⟩ : ∃ c : Nat, p[1].toNat = c := ⟨_, rfl⟩
  have b0 : c0 ≤ 255 := by have := p[0].toNat_lt; omega
  have b1 : c1 ≤ 255 := by have := p[1].toNat_lt; omega
  have HR : Hid (targetR p = (c0 * 256 + c1) % 16384) := Lib.hid (by rw [targetR, getElem!_pos p 0 (by omega), getElem!_pos p 1 (by omega), h0, h1])
  have x0 : (0 : Int) < p.size := by omega
  have x1 : (1 : Int) < p.size := by omega
  have y0 : 0 < p.size := by omega
  go_enter Try.func123, Try.ntmps123
  go_wp2_with fail
  have q0 : IntKind.i64.wrap (c0 : Int) = c0 := IntWalk.i64_in _ (by omega)
  have q1 : IntKind.i64.wrap (c1 : Int) = c1 := IntWalk.i64_in _ (by omega)
  have q2 : IntKind.i64.wrap ((c0 : Int) * 256) = (c0 : Int) * 256 := IntWalk.i64_in _ (by omega)
  have q3 := i64_join c0 c1 (by omega) (by omega)
  have q4 : ((c0 : Int) * 256 + c1).tmod 16384 = (((c0 * 256 + c1) % 16384 : Nat) : Int) := by
    rw [Int.tmod_eq_emod_of_nonneg (by omega)]; omega
  go_still hmx
  change Exit.then _ _ Exit.normal _ w.drew
  clear q0 q1 q2 q3 q4 x0 x1 y0
  go_wp2
  go_ret
  exact ⟨by rw [HR.out]; rfl, rfl⟩

/-- What stands at a place of a name. -/
def pieceR (s : ByteArray) (a : Nat) : ByteArray :=
  if s.size ≤ a then ⟨#[]⟩ else
  if s.size - a < (if 192 ≤ s[a]!.toNat then 2 else 1 + s[a]!.toNat) then ⟨#[]⟩ else s.extract a (a + (if 192 ≤ s[a]!.toNat then 2 else 1 + s[a]!.toNat))

set_option maxRecDepth 100000 in
set_option maxHeartbeats 1000000 in
theorem piece_any (B : Nat) (r : Rd) (a : Nat) (w : World) (h : RdAt w B r) (hr : r.ok) (ha : a ≤ 1099511627776) :
    Calls Try.prog 121 #[.pointer (some ⟨B, 0, none⟩), .int .i64 a] w fun e w' => e = .returned (.string (pieceR r.s a)) ∧ w = w' := by
  obtain ⟨c0, c1, c2, f0, f1, f2⟩ := h.cells
  obtain ⟨h1, h2⟩ := hr
  obtain ⟨s, p, bad⟩ := r
  simp only at c0 c1 c2 h1 h2 ⊢
  clear h c1 c2 f0 f1 f2
  by_cases hlt : a < s.size
  · obtain ⟨c, hcv⟩ : ∃ c : Nat, s[a].toNat = c := ⟨_, rfl⟩
    have hc255 : c ≤ 255 := by have := s[a].toNat_lt; omega
    have CP := Lib.hid fun W => isPointer_any c W hc255
    have HP : Hid (pieceR s a = if s.size - a < (if 192 ≤ c then 2 else 1 + c) then ⟨#[]⟩ else s.extract a (a + (if 192 ≤ c then 2 else 1 + c))) := Lib.hid (by
      rw [pieceR, if_neg (by omega), getElem!_pos s a hlt, hcv])
    by_cases h192 : 192 ≤ c
    · rw [decide_eq_true h192] at CP
      simp only [h192, if_true] at HP
      by_cases hin : s.size - a < 2
      · have HP2 : Hid (pieceR s a = ⟨#[]⟩) := Lib.hid (by rw [HP.out, if_pos hin])
        have x1 : decide ((s.size : Int) - a < 2) = true := by simp; omega
        go_enter Try.func121, Try.ntmps121
        go_wp2_with fail
        refine (CP.out _).mono ?_
        rintro e w1 ⟨rfl, rfl⟩
        go_wp2
        go_ret
        exact ⟨by rw [HP2.out]; rfl, rfl⟩
      · have HP2 : Hid (pieceR s a = s.extract a (a + 2)) := Lib.hid (by rw [HP.out, if_neg hin])
        have x1 : decide ((s.size : Int) - a < 2) = false := by simp; omega
        have x2 : (a : Int) ≤ (a : Int) + 2 := by omega
        have x3 : (a : Int) + 2 ≤ s.size := by omega
        have x4 : ((a : Int) + 2).toNat = a + 2 := by omega
        go_enter Try.func121, Try.ntmps121
        go_wp2_with fail
        refine (CP.out _).mono ?_
        rintro e w1 ⟨rfl, rfl⟩
        go_wp2
        go_ret
        exact ⟨by rw [HP2.out]; rfl, rfl⟩
    · rw [decide_eq_false h192] at CP
      simp only [h192, if_false] at HP
      by_cases hin : s.size - a < 1 + c
      · have HP2 : Hid (pieceR s a = ⟨#[]⟩) := Lib.hid (by rw [HP.out, if_pos hin])
        have x1 : decide ((s.size : Int) - a < 1 + (c : Int)) = true := by simp; omega
        go_enter Try.func121, Try.ntmps121
        go_wp2_with fail
        refine (CP.out _).mono ?_
        rintro e w1 ⟨rfl, rfl⟩
        go_wp2
        go_ret
        exact ⟨by rw [HP2.out]; rfl, rfl⟩
      · have HP2 : Hid (pieceR s a = s.extract a (a + (1 + c))) := Lib.hid (by rw [HP.out, if_neg hin])
        have x1 : decide ((s.size : Int) - a < 1 + (c : Int)) = false := by simp; omega
        have x2 : (a : Int) ≤ (a : Int) + (1 + (c : Int)) := by omega
        have x3 : (a : Int) + (1 + (c : Int)) ≤ s.size := by omega
        have x4 : ((a : Int) + (1 + (c : Int))).toNat = a + (1 + c) := by omega
        go_enter Try.func121, Try.ntmps121
        go_wp2_with fail
        refine (CP.out _).mono ?_
        rintro e w1 ⟨rfl, rfl⟩
        go_wp2
        go_ret
        exact ⟨by rw [HP2.out]; rfl, rfl⟩
  · have HP2 : Hid (pieceR s a = ⟨#[]⟩) := Lib.hid (by rw [pieceR, if_pos (by omega)])
    have x1 : (s.size : Int) ≤ a := by omega
    go_enter Try.func121, Try.ntmps121
    go_wp2
    go_ret
    exact ⟨by rw [HP2.out]; rfl, rfl⟩

end Go.Proofs.Ytmmjhdkoccpdjaa
