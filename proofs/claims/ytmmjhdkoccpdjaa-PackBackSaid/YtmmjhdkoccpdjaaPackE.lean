/- What pack's numbers are: value, isWidth. Conditions: none. -/
import Derived.Test.YtmmjhdkoccpdjaaPackD
namespace Go.Proofs.Ytmmjhdkoccpdjaa
open Go Go.RowKit Go.Shelf
attribute [local go_sem] Oper.semAt_some wide_fn wide_depth

/-- A number, the highest byte first. -/
def beF (n : Nat) : List UInt8 → Nat
  | [] => n
  | b :: r => beF (n * 256 + b.toNat) r
def beN (l : List UInt8) : Nat := beF 0 l
theorem beF_snoc : ∀ (l : List UInt8) (n : Nat) (b : UInt8), beF n (l ++ [b]) = beF n l * 256 + b.toNat
  | [], _, _ => rfl
  | a :: r, n, b => beF_snoc r (n * 256 + a.toNat) b
theorem beN_snoc (l : List UInt8) (b : UInt8) : beN (l ++ [b]) = beN l * 256 + b.toNat := beF_snoc l 0 b
theorem beF_lt : ∀ (l : List UInt8) (n m : Nat), n < 256 ^ m → beF n l < 256 ^ (m + l.length)
  | [], n, m, h => h
  | a :: r, n, m, h => by
    have := a.toNat_lt
    have h2 := beF_lt r (n * 256 + a.toNat) (m + 1) (by rw [Nat.pow_succ]; omega)
    rw [List.length_cons, show m + (r.length + 1) = m + 1 + r.length by omega]
    exact h2
theorem beN_lt (l : List UInt8) : beN l < 256 ^ l.length := by
  have := beF_lt l 0 0 (by decide)
  rwa [Nat.zero_add] at this

theorem u64_join (a b : Nat) (ha : a < 72057594037927936) (hb : b < 256) : bits .or .u64 ((a : Int) * 256) (b : Int) = (a : Int) * 256 + b := by
  have h := bits_or_u64_nat (a * 256) b (by omega) (by omega)
  rw [nat_join 8 (a * 256) b (by omega) (by omega)] at h
  simpa using h

/-- A number's bytes as Go has them. -/
def arr8 (b0 b1 b2 b3 b4 b5 b6 b7 : UInt8) : Array Value :=
  #[.int .u8 (b0.toNat : Int), .int .u8 (b1.toNat : Int), .int .u8 (b2.toNat : Int), .int .u8 (b3.toNat : Int), .int .u8 (b4.toNat : Int), .int .u8 (b5.toNat : Int), .int .u8 (b6.toNat : Int), .int .u8 (b7.toNat : Int)]

set_option maxRecDepth 100000 in
set_option maxHeartbeats 2000000 in
theorem value_any (b0 b1 b2 b3 b4 b5 b6 b7 : UInt8) (w : World) :
    Calls Try.prog 96 #[.agg (arr8 b0 b1 b2 b3 b4 b5 b6 b7)] w fun e w' => e = .returned (.int .u64 (beN [b0, b1, b2, b3, b4, b5, b6, b7])) ∧ Ext w w' := by
  have hidx : ∀ k : Nat, k < 8 → ∃ c : UInt8, [b0, b1, b2, b3, b4, b5, b6, b7][k]? = some c ∧ ∀ W, (Instr.index 105 (.agg (arr8 b0 b1 b2 b3 b4 b5 b6 b7)) (.int .i64 (k : Int))).run Try.prog W = .ok (.int .u8 (c.toNat : Int)) W := by
    intro k hk
    match k, hk with
    | 0, _ => exact ⟨_, rfl, fun _ => by kernel_rfl⟩
    | 1, _ => exact ⟨_, rfl, fun _ => by kernel_rfl⟩
    | 2, _ => exact ⟨_, rfl, fun _ => by kernel_rfl⟩
    | 3, _ => exact ⟨_, rfl, fun _ => by kernel_rfl⟩
    | 4, _ => exact ⟨_, rfl, fun _ => by kernel_rfl⟩
    | 5, _ => exact ⟨_, rfl, fun _ => by kernel_rfl⟩
    | 6, _ => exact ⟨_, rfl, fun _ => by kernel_rfl⟩
    | 7, _ => exact ⟨_, rfl, fun _ => by kernel_rfl⟩
  have Hidx := Lib.hid hidx; clear hidx
  obtain ⟨l, hl⟩ : ∃ l, [b0, b1, b2, b3, b4, b5, b6, b7] = l := ⟨_, rfl⟩
  have hll : l.length = 8 := by rw [← hl]; rfl
  rw [hl] at Hidx
  rw [hl]
  clear hl
  unfold arr8 at Hidx ⊢
  go_enter Try.func96, Try.ntmps96
  go_wp2
  go_loop [3, 7] (fun n i => ∃ k : Nat, k ≤ 8 ∧ i = .int .i64 k ∧ n = .int .u64 ((beN (l.take k) : Nat) : Int)) (fun _ i => 8 - (intOf i).toNat)
  case atStart => exact ⟨0, by omega, rfl, rfl⟩
  case round =>
    obtain ⟨k, hk, rfl, rfl⟩ := hrel
    have hlt := beN_lt (l.take k)
    by_cases hk8 : k < 8
    · obtain ⟨c, hc, hidx⟩ := Hidx.out k hk8
      have hlt2 : beN (l.take k) < 72057594037927936 := by
        have h1 : (l.take k).length ≤ 7 := by rw [List.length_take]; omega
        exact Nat.lt_of_lt_of_le hlt (Nat.le_trans (Nat.pow_le_pow_right (by omega) h1) (by decide))
      obtain ⟨hkl, hce⟩ := List.getElem?_eq_some_iff.1 hc
      have hs : beN (l.take (k + 1)) = beN (l.take k) * 256 + c.toNat := by rw [List.take_succ_eq_append_getElem hkl, beN_snoc, hce]
      have Hs := Lib.hid hs
      obtain ⟨m, hm⟩ : ∃ m, beN (l.take k) = m := ⟨_, rfl⟩
      obtain ⟨d, hd⟩ : ∃ d, c.toNat = d := ⟨_, rfl⟩
      rw [hm] at hlt2 Hs ⊢
      rw [hd] at hidx Hs
      have hd255 : d < 256 := by rw [← hd]; exact c.toNat_lt
      have q1 := u64_join m d hlt2 hd255
      clear hs hm hd hlt hkl hce hc
      go_wp2
      go_round
      case rel => exact ⟨k + 1, by omega, by simp, by rw [Hs.out]; simp⟩
      case measure => simp [intOf]; omega
    · obtain rfl : k = 8 := by omega
      rw [List.take_of_length_le (by omega)]
      clear hlt
      go_wp2
      go_ret
      exact ⟨rfl, (Ext.refl _).alloc _⟩

def widthB (n : Int) : Bool := decide (n = 1 ∨ n = 2 ∨ n = 4 ∨ n = 8)
set_option maxHeartbeats 1000000 in
theorem isWidth_any (n : Int) (w : World) :
    Calls Try.prog 95 #[.int .i64 n] w fun e w' => e = .returned (.bool (widthB n)) ∧ w = w' := by
  by_cases h1 : n = 1
  · subst h1
    go_enter Try.func95, Try.ntmps95
    go_wp2
    go_ret
    exact ⟨by rfl, rfl⟩
  · have h1' : (n == 1) = false := beq_eq_false_iff_ne.2 h1
    by_cases h2 : n = 2
    · subst h2
      go_enter Try.func95, Try.ntmps95
      go_wp2
      go_ret
      exact ⟨by rfl, rfl⟩
    · have h2' : (n == 2) = false := beq_eq_false_iff_ne.2 h2
      by_cases h4 : n = 4
      · subst h4
        go_enter Try.func95, Try.ntmps95
        go_wp2
        go_ret
        exact ⟨by rfl, rfl⟩
      · have h4' : (n == 4) = false := beq_eq_false_iff_ne.2 h4
        have h8 : (n == 8) = widthB n := by
          rw [Bool.eq_iff_iff]; simp [widthB]; omega
        go_enter Try.func95, Try.ntmps95
        go_wp2
        go_ret
        exact ⟨by rfl, rfl⟩

end Go.Proofs.Ytmmjhdkoccpdjaa
