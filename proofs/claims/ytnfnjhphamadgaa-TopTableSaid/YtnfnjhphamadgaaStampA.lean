/- What the functions of stamp and the document's answers for it (hardtackref10) return. Conditions: numbers of their kinds. -/
import Derived.Test.YtnfnjhphamadgaaBaseM
import Derived.Laws.BitsLemmas
import Derived.StillTailTactics
namespace Go.Proofs.Ytnfnjhphamadgaa
open Go Go.RowKit Go.Shelf
attribute [local go_sem] Oper.semAt_some wide_fn wide_depth

def ofS (n : Int) : Int := n % 4294967296
/-- A difference's age. -/
def halfS (d : Int) : Int := if d % 4294967296 < 2147483648 then d % 4294967296 else d % 4294967296 - 4294967296
def ageS (n s : Int) : Int := halfS (n - s)
def lessS (a b : Int) : Bool := decide (0 < halfS (b - a))
def addS (s n : Int) : Int := (s + n) % 4294967296
def freshS (n s : Int) : Int := if -300 ≤ ageS n s ∧ ageS n s ≤ 3600 then 0 else 10
def renewS (n s : Int) : Bool := decide (1800 < ageS n s)

theorem halfS_lt (d : Int) : -2147483648 ≤ halfS d ∧ halfS d < 2147483648 := by unfold halfS; split <;> omega
theorem halfS_wrap (d : Int) : IntKind.i32.wrap (IntKind.u32.wrap d) = halfS d := by
  rw [IntKind.wrap_i32, IntKind.wrap_u32]; unfold halfS; split <;> omega
theorem halfS_mod (d : Int) : halfS (d % 4294967296) = halfS d := by unfold halfS; rw [Int.emod_emod]

set_option maxHeartbeats 400000 in
theorem SOf_any (n : Int) (w : World) : Calls Try.prog 24 #[.int .i64 n] w fun e w' => e = .returned (.int .u32 (ofS n)) ∧ w = w' := by
  go_enter Try.func24, Try.ntmps24
  go_wp2
  go_ret
  exact ⟨rfl, rfl⟩

set_option maxHeartbeats 400000 in
theorem ahead_any (a b : Int) (w : World) : Calls Try.prog 46 #[.int .u32 a, .int .u32 b] w fun e w' => e = .returned (.int .i32 (halfS (b - a))) ∧ w = w' := by
  have hh : wrap32 ((b - a) % 4294967296) = halfS (b - a) := by rw [← halfS_wrap, IntKind.wrap_u32, IntKind.wrap_i32]; simp only [wrap32]
  go_enter Try.func46, Try.ntmps46
  go_wp2
  go_ret
  exact ⟨by rw [← hh]; rfl, rfl⟩

set_option maxHeartbeats 400000 in
theorem SAdd_any (s n : Int) (w : World) : Calls Try.prog 34 #[.int .u32 s, .int .i64 n] w fun e w' => e = .returned (.int .u32 (addS s n)) ∧ w = w' := by
  have hr : addS s n = (s + n % 4294967296) % 4294967296 := by unfold addS; omega
  go_enter Try.func34, Try.ntmps34
  go_wp2
  go_ret
  exact ⟨by rw [hr]; rfl, rfl⟩

set_option maxHeartbeats 400000 in
theorem SAge_any (n s : Int) (w : World) : Calls Try.prog 26 #[.int .i64 n, .int .u32 s] w fun e w' => e = .returned (.int .i64 (ageS n s)) ∧ w = w' := by
  have C1 := fun W => SOf_any n W
  have C2 := fun W => ahead_any s (ofS n) W
  have hh : halfS (ofS n - s) = ageS n s := by unfold ofS ageS; rw [← halfS_mod, ← halfS_mod (n - s)]; congr 1; omega
  rw [hh] at C2
  have hb := halfS_lt (n - s)
  have hw : IntKind.i64.wrap (ageS n s) = ageS n s := by rw [IntKind.wrap_i64]; unfold ageS; omega
  clear hb hh
  obtain ⟨y, hy⟩ : ∃ y, ageS n s = y := ⟨_, rfl⟩
  obtain ⟨z, hz⟩ : ∃ z, ofS n = z := ⟨_, rfl⟩
  rw [hy] at C2 hw ⊢
  rw [hz] at C1 C2
  clear hy hz
  go_enter Try.func26, Try.ntmps26
  go_wp2_with (first
    | ((with_reducible refine (C1 _).mono ?_); rintro e w' ⟨rfl, rfl⟩)
    | ((with_reducible refine (C2 _).mono ?_); rintro e w' ⟨rfl, rfl⟩))
  go_ret
  exact ⟨rfl, rfl⟩

set_option maxHeartbeats 400000 in
theorem SFresh_any (n s : Int) (w : World) : Calls Try.prog 28 #[.int .i64 n, .int .u32 s] w fun e w' => e = .returned (.int .i64 (freshS n s)) ∧ w = w' := by
  have C1 := fun W => SAge_any n s W
  unfold freshS
  obtain ⟨y, hy⟩ : ∃ y, ageS n s = y := ⟨_, rfl⟩
  rw [hy] at C1 ⊢
  clear hy
  go_enter Try.func28, Try.ntmps28
  go_wp2_with ((with_reducible refine (C1 _).mono ?_); rintro e w' ⟨rfl, rfl⟩)
  all_goals go_ret
  all_goals exact ⟨by simp_all <;> omega, rfl⟩

set_option maxHeartbeats 400000 in
theorem SRenew_any (n s : Int) (w : World) : Calls Try.prog 30 #[.int .i64 n, .int .u32 s] w fun e w' => e = .returned (.bool (renewS n s)) ∧ w = w' := by
  have C1 := fun W => SAge_any n s W
  unfold renewS
  obtain ⟨y, hy⟩ : ∃ y, ageS n s = y := ⟨_, rfl⟩
  rw [hy] at C1 ⊢
  clear hy
  go_enter Try.func30, Try.ntmps30
  go_wp2_with ((with_reducible refine (C1 _).mono ?_); rintro e w' ⟨rfl, rfl⟩)
  go_ret
  exact ⟨rfl, rfl⟩

set_option maxHeartbeats 400000 in
theorem SLess_any (a b : Int) (w : World) : Calls Try.prog 32 #[.int .u32 a, .int .u32 b] w fun e w' => e = .returned (.bool (lessS a b)) ∧ w = w' := by
  have C1 := fun W => ahead_any a b W
  unfold lessS
  obtain ⟨y, hy⟩ : ∃ y, halfS (b - a) = y := ⟨_, rfl⟩
  rw [hy] at C1 ⊢
  clear hy
  go_enter Try.func32, Try.ntmps32
  go_wp2_with ((with_reducible refine (C1 _).mono ?_); rintro e w' ⟨rfl, rfl⟩)
  go_ret
  exact ⟨rfl, rfl⟩

/- The document's answers. -/
theorem rest_tmod (n : Int) : (if n.tmod 4294967296 < 0 then n.tmod 4294967296 + 4294967296 else n.tmod 4294967296) = n % 4294967296 := by
  rcases Int.le_total 0 n with h | h
  · rw [Int.tmod_eq_emod_of_nonneg h, if_neg (by omega)]
  · obtain ⟨m, rfl⟩ : ∃ m : Int, n = -m := ⟨-n, by omega⟩
    rw [Int.neg_tmod, Int.tmod_eq_emod_of_nonneg (by omega)]
    split <;> omega

set_option maxHeartbeats 400000 in
theorem rest_any (n : Int) (w : World) : Calls Try.prog 45 #[.int .i64 n] w fun e w' => e = .returned (.int .i64 (n % 4294967296)) ∧ w = w' := by
  rw [← rest_tmod]
  have hb : -4294967296 ≤ n.tmod 4294967296 := by
    have hz : ∀ z m : Int, (if z < 0 then z + 4294967296 else z) = m % 4294967296 → -4294967296 ≤ z := fun z m h => by split at h <;> omega
    exact hz _ n (rest_tmod n)
  go_enter Try.func45, Try.ntmps45
  go_wp2
  all_goals go_ret
  · have hz : ∀ z : Int, -4294967296 ≤ z → z < 0 → wrap64 (z + 4294967296) = z + 4294967296 := fun z a b => by simp only [wrap64]; omega
    exact ⟨by rw [← hz _ hb (by assumption)]; rfl, rfl⟩
  · exact ⟨rfl, rfl⟩

set_option maxHeartbeats 400000 in
theorem ROf_any (n : Int) (w : World) : Calls Try.prog 25 #[.int .i64 n] w fun e w' => e = .returned (.int .u32 (ofS n)) ∧ w = w' := by
  have C1 := fun W => rest_any n W
  have h1 : n % 4294967296 % 4294967296 = ofS n := by unfold ofS; omega
  have hb : 0 ≤ n % 4294967296 ∧ n % 4294967296 < 4294967296 := by omega
  obtain ⟨y, hy⟩ : ∃ y, n % 4294967296 = y := ⟨_, rfl⟩
  rw [hy] at C1 h1 hb
  rw [← h1]
  clear hy h1
  have hm : y % 4294967296 = y := by omega
  rw [hm]
  go_enter Try.func25, Try.ntmps25
  go_wp2_with ((with_reducible refine (C1 _).mono ?_); rintro e w' ⟨rfl, rfl⟩)
  go_ret
  exact ⟨rfl, rfl⟩

set_option maxHeartbeats 400000 in
theorem RAge_any (n s : Int) (w : World) (hs : 0 ≤ s ∧ s < 4294967296) : Calls Try.prog 27 #[.int .i64 n, .int .u32 s] w fun e w' => e = .returned (.int .i64 (ageS n s)) ∧ w = w' := by
  have C1 := fun W => rest_any n W
  have C2 := fun W => rest_any (n % 4294967296 - s) W
  have hb : 0 ≤ n % 4294967296 ∧ n % 4294967296 < 4294967296 := by omega
  have hd : ageS n s = halfS (n % 4294967296 - s) := by unfold ageS; rw [← halfS_mod, ← halfS_mod (n % 4294967296 - s)]; congr 1; omega
  rw [hd]
  obtain ⟨y, hy⟩ : ∃ y, n % 4294967296 = y := ⟨_, rfl⟩
  rw [hy] at C1 C2 hb ⊢
  clear hy hd
  have hw : wrap64 (y - s) = y - s := by simp only [wrap64]; omega
  have hb2 : 0 ≤ (y - s) % 4294967296 ∧ (y - s) % 4294967296 < 4294967296 := by omega
  unfold halfS
  obtain ⟨z, hz⟩ : ∃ z, (y - s) % 4294967296 = z := ⟨_, rfl⟩
  rw [hz] at C2 hb2 ⊢
  clear hz hw
  go_enter Try.func27, Try.ntmps27
  go_wp2_with (first
    | ((with_reducible refine (C1 _).mono ?_); rintro e w' ⟨rfl, rfl⟩)
    | ((with_reducible refine (C2 _).mono ?_); rintro e w' ⟨rfl, rfl⟩))
  all_goals go_ret
  all_goals exact ⟨rfl, rfl⟩

set_option maxHeartbeats 400000 in
theorem RFresh_any (n s : Int) (w : World) (hs : 0 ≤ s ∧ s < 4294967296) : Calls Try.prog 29 #[.int .i64 n, .int .u32 s] w fun e w' => e = .returned (.int .i64 (freshS n s)) ∧ w = w' := by
  have C1 := fun W => RAge_any n s W hs
  unfold freshS
  obtain ⟨y, hy⟩ : ∃ y, ageS n s = y := ⟨_, rfl⟩
  rw [hy] at C1 ⊢
  clear hy
  go_enter Try.func29, Try.ntmps29
  go_wp2_with ((with_reducible refine (C1 _).mono ?_); rintro e w' ⟨rfl, rfl⟩)
  all_goals go_ret
  all_goals exact ⟨by simp_all <;> omega, rfl⟩

set_option maxHeartbeats 400000 in
theorem RRenew_any (n s : Int) (w : World) (hs : 0 ≤ s ∧ s < 4294967296) : Calls Try.prog 31 #[.int .i64 n, .int .u32 s] w fun e w' => e = .returned (.bool (renewS n s)) ∧ w = w' := by
  have C1 := fun W => RAge_any n s W hs
  unfold renewS
  obtain ⟨y, hy⟩ : ∃ y, ageS n s = y := ⟨_, rfl⟩
  rw [hy] at C1 ⊢
  clear hy
  go_enter Try.func31, Try.ntmps31
  go_wp2_with ((with_reducible refine (C1 _).mono ?_); rintro e w' ⟨rfl, rfl⟩)
  go_ret
  exact ⟨rfl, rfl⟩

set_option maxHeartbeats 400000 in
theorem SRLess_any (a b : Int) (w : World) (ha : 0 ≤ a ∧ a < 4294967296) (hb : 0 ≤ b ∧ b < 4294967296) : Calls Try.prog 33 #[.int .u32 a, .int .u32 b] w fun e w' => e = .returned (.bool (lessS a b)) ∧ w = w' := by
  have C1 := fun W => rest_any (b - a) W
  have hw : wrap64 (b - a) = b - a := by simp only [wrap64]; omega
  have hd : lessS a b = decide (1 ≤ (b - a) % 4294967296 ∧ (b - a) % 4294967296 < 2147483648) := by
    unfold lessS halfS; rw [Bool.eq_iff_iff, decide_eq_true_iff, decide_eq_true_iff]; split <;> omega
  rw [hd]
  obtain ⟨y, hy⟩ : ∃ y, (b - a) % 4294967296 = y := ⟨_, rfl⟩
  rw [hy] at C1 ⊢
  clear hy hd hw
  go_enter Try.func33, Try.ntmps33
  go_wp2_with ((with_reducible refine (C1 _).mono ?_); rintro e w' ⟨rfl, rfl⟩)
  all_goals go_ret
  all_goals exact ⟨by simp_all <;> omega, rfl⟩

set_option maxHeartbeats 400000 in
theorem RAdd_any (s n : Int) (w : World) (hs : 0 ≤ s ∧ s < 4294967296) : Calls Try.prog 35 #[.int .u32 s, .int .i64 n] w fun e w' => e = .returned (.int .u32 (addS s n)) ∧ w = w' := by
  have C1 := fun W => rest_any n W
  have C2 := fun W => rest_any (s + n % 4294967296) W
  have hd : addS s n = (s + n % 4294967296) % 4294967296 % 4294967296 := by unfold addS; omega
  have hb : 0 ≤ n % 4294967296 ∧ n % 4294967296 < 4294967296 := by omega
  rw [hd]
  obtain ⟨y, hy⟩ : ∃ y, n % 4294967296 = y := ⟨_, rfl⟩
  rw [hy] at C1 C2 hb ⊢
  clear hy hd
  go_enter Try.func35, Try.ntmps35
  go_wp2_with (first
    | ((with_reducible refine (C1 _).mono ?_); rintro e w' ⟨rfl, rfl⟩)
    | ((with_reducible refine (C2 _).mono ?_); rintro e w' ⟨rfl, rfl⟩))
  go_ret
  exact ⟨by simp, rfl⟩
end Go.Proofs.Ytnfnjhphamadgaa
