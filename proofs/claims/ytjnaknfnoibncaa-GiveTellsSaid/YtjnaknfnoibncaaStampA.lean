/- What the functions of stamp and the document's answers for it (hardtackref10) return. Conditions: numbers of their kinds. -/
import Derived.Test.YtjnaknfnoibncaaBaseM
import Derived.Laws.BitsLemmas
import Derived.StillTailTactics
namespace Go.Proofs.Ytjnaknfnoibncaa
open Go Go.RowKit Go.Shelf
attribute [local go_sem] Oper.semAt_some wide_fn wide_depth

def ofS (n : Int) : Int := n % 4294967296
/-- A difference's age. -/
def halfS (d : Int) : Int := if d % 4294967296 < 2147483648 then d % 4294967296 else d % 4294967296 - 4294967296
def ageS (n s : Int) : Int := halfS (n - s)
def lessS (a b : Int) : Bool := decide (0 < halfS (b - a))
def addS (s n : Int) : Int := (s + n) % 4294967296
def freshS (n s : Int) : Int := if -300 ≤ ageS n s ∧ ageS n s ≤ 3600 then 0 else 10
def renewS (n s : Int) : Bool := decide (1800 < ageS n s)

theorem halfS_lt (d : Int) : -2147483648 ≤ halfS d ∧ halfS d < 2147483648 := by unfold halfS; split <;> omega
theorem halfS_wrap (d : Int) : IntKind.i32.wrap (IntKind.u32.wrap d) = halfS d := by
  rw [IntKind.wrap_i32, IntKind.wrap_u32]; unfold halfS; split <;> omega
theorem halfS_mod (d : Int) : halfS (d % 4294967296) = halfS d := by unfold halfS; rw [Int.emod_emod]

set_option maxHeartbeats 400000 in
theorem SOf_any (n : Int) (w : World) : Calls Try.prog 54 #[.int .i64 n] w fun e w' => e = .returned (.int .u32 (ofS n)) ∧ w = w' := by
  go_enter Try.func54, Try.ntmps54
  go_wp2
  go_ret
  exact ⟨rfl, rfl⟩

set_option maxHeartbeats 400000 in
theorem ahead_any (a b : Int) (w : World) : Calls Try.prog 93 #[.int .u32 a, .int .u32 b] w fun e w' => e = .returned (.int .i32 (halfS (b - a))) ∧ w = w' := by
  have hh : wrap32 ((b - a) % 4294967296) = halfS (b - a) := by rw [← halfS_wrap, IntKind.wrap_u32, IntKind.wrap_i32]; simp only [wrap32]
  go_enter Try.func93, Try.ntmps93
  go_wp2
  go_ret
  exact ⟨by rw [← hh]; rfl, rfl⟩

set_option maxHeartbeats 400000 in
theorem SAge_any (n s : Int) (w : World) : Calls Try.prog 81 #[.int .i64 n, .int .u32 s] w fun e w' => e = .returned (.int .i64 (ageS n s)) ∧ w = w' := by
  have C1 := fun W => SOf_any n W
  have C2 := fun W => ahead_any s (ofS n) W
  have hh : halfS (ofS n - s) = ageS n s := by unfold ofS ageS; rw [← halfS_mod, ← halfS_mod (n - s)]; congr 1; omega
  rw [hh] at C2
  have hb := halfS_lt (n - s)
  have hw : IntKind.i64.wrap (ageS n s) = ageS n s := by rw [IntKind.wrap_i64]; unfold ageS; omega
  clear hb hh
  obtain ⟨y, hy⟩ : ∃ y, ageS n s = y := ⟨_, rfl⟩
  obtain ⟨z, hz⟩ : ∃ z, ofS n = z := ⟨_, rfl⟩
  rw [hy] at C2 hw ⊢
  rw [hz] at C1 C2
  clear hy hz
  go_enter Try.func81, Try.ntmps81
  go_wp2_with (first
    | ((with_reducible refine (C1 _).mono ?_); rintro e w' ⟨rfl, rfl⟩)
    | ((with_reducible refine (C2 _).mono ?_); rintro e w' ⟨rfl, rfl⟩))
  go_ret
  exact ⟨rfl, rfl⟩

set_option maxHeartbeats 400000 in
theorem SFresh_any (n s : Int) (w : World) : Calls Try.prog 59 #[.int .i64 n, .int .u32 s] w fun e w' => e = .returned (.int .i64 (freshS n s)) ∧ w = w' := by
  have C1 := fun W => SAge_any n s W
  unfold freshS
  obtain ⟨y, hy⟩ : ∃ y, ageS n s = y := ⟨_, rfl⟩
  rw [hy] at C1 ⊢
  clear hy
  go_enter Try.func59, Try.ntmps59
  go_wp2_with ((with_reducible refine (C1 _).mono ?_); rintro e w' ⟨rfl, rfl⟩)
  all_goals go_ret
  all_goals exact ⟨by simp_all <;> omega, rfl⟩

set_option maxHeartbeats 400000 in
theorem SRenew_any (n s : Int) (w : World) : Calls Try.prog 61 #[.int .i64 n, .int .u32 s] w fun e w' => e = .returned (.bool (renewS n s)) ∧ w = w' := by
  have C1 := fun W => SAge_any n s W
  unfold renewS
  obtain ⟨y, hy⟩ : ∃ y, ageS n s = y := ⟨_, rfl⟩
  rw [hy] at C1 ⊢
  clear hy
  go_enter Try.func61, Try.ntmps61
  go_wp2_with ((with_reducible refine (C1 _).mono ?_); rintro e w' ⟨rfl, rfl⟩)
  go_ret
  exact ⟨rfl, rfl⟩

/- The document's answers. -/
theorem rest_tmod (n : Int) : (if n.tmod 4294967296 < 0 then n.tmod 4294967296 + 4294967296 else n.tmod 4294967296) = n % 4294967296 := by
  rcases Int.le_total 0 n with h | h
  · rw [Int.tmod_eq_emod_of_nonneg h, if_neg (by omega)]
  · obtain ⟨m, rfl⟩ : ∃ m : Int, n = -m := ⟨-n, by omega⟩
    rw [Int.neg_tmod, Int.tmod_eq_emod_of_nonneg (by omega)]
    split <;> omega

set_option maxHeartbeats 400000 in
theorem rest_any (n : Int) (w : World) : Calls Try.prog 77 #[.int .i64 n] w fun e w' => e = .returned (.int .i64 (n % 4294967296)) ∧ w = w' := by
  rw [← rest_tmod]
  have hb : -4294967296 ≤ n.tmod 4294967296 := by
    have hz : ∀ z m : Int, (if z < 0 then z + 4294967296 else z) = m % 4294967296 → -4294967296 ≤ z := fun z m h => by split at h <;> omega
    exact hz _ n (rest_tmod n)
  go_enter Try.func77, Try.ntmps77
  go_wp2
  all_goals go_ret
  · have hz : ∀ z : Int, -4294967296 ≤ z → z < 0 → wrap64 (z + 4294967296) = z + 4294967296 := fun z a b => by simp only [wrap64]; omega
    exact ⟨by rw [← hz _ hb (by assumption)]; rfl, rfl⟩
  · exact ⟨rfl, rfl⟩

set_option maxHeartbeats 400000 in
theorem ROf_any (n : Int) (w : World) : Calls Try.prog 56 #[.int .i64 n] w fun e w' => e = .returned (.int .u32 (ofS n)) ∧ w = w' := by
  have C1 := fun W => rest_any n W
  have h1 : n % 4294967296 % 4294967296 = ofS n := by unfold ofS; omega
  have hb : 0 ≤ n % 4294967296 ∧ n % 4294967296 < 4294967296 := by omega
  obtain ⟨y, hy⟩ : ∃ y, n % 4294967296 = y := ⟨_, rfl⟩
  rw [hy] at C1 h1 hb
  rw [← h1]
  clear hy h1
  have hm : y % 4294967296 = y := by omega
  rw [hm]
  go_enter Try.func56, Try.ntmps56
  go_wp2_with ((with_reducible refine (C1 _).mono ?_); rintro e w' ⟨rfl, rfl⟩)
  go_ret
  exact ⟨rfl, rfl⟩

set_option maxHeartbeats 400000 in
theorem RAge_any (n s : Int) (w : World) (hs : 0 ≤ s ∧ s < 4294967296) : Calls Try.prog 82 #[.int .i64 n, .int .u32 s] w fun e w' => e = .returned (.int .i64 (ageS n s)) ∧ w = w' := by
  have C1 := fun W => rest_any n W
  have C2 := fun W => rest_any (n % 4294967296 - s) W
  have hb : 0 ≤ n % 4294967296 ∧ n % 4294967296 < 4294967296 := by omega
  have hd : ageS n s = halfS (n % 4294967296 - s) := by unfold ageS; rw [← halfS_mod, ← halfS_mod (n % 4294967296 - s)]; congr 1; omega
  rw [hd]
  obtain ⟨y, hy⟩ : ∃ y, n % 4294967296 = y := ⟨_, rfl⟩
  rw [hy] at C1 C2 hb ⊢
  clear hy hd
  have hw : wrap64 (y - s) = y - s := by simp only [wrap64]; omega
  have hb2 : 0 ≤ (y - s) % 4294967296 ∧ (y - s) % 4294967296 < 4294967296 := by omega
  unfold halfS
  obtain ⟨z, hz⟩ : ∃ z, (y - s) % 4294967296 = z := ⟨_, rfl⟩
  rw [hz] at C2 hb2 ⊢
  clear hz hw
  go_enter Try.func82, Try.ntmps82
  go_wp2_with (first
    | ((with_reducible refine (C1 _).mono ?_); rintro e w' ⟨rfl, rfl⟩)
    | ((with_reducible refine (C2 _).mono ?_); rintro e w' ⟨rfl, rfl⟩))
  all_goals go_ret
  all_goals exact ⟨rfl, rfl⟩

set_option maxHeartbeats 400000 in
theorem RFresh_any (n s : Int) (w : World) (hs : 0 ≤ s ∧ s < 4294967296) : Calls Try.prog 62 #[.int .i64 n, .int .u32 s] w fun e w' => e = .returned (.int .i64 (freshS n s)) ∧ w = w' := by
  have C1 := fun W => RAge_any n s W hs
  unfold freshS
  obtain ⟨y, hy⟩ : ∃ y, ageS n s = y := ⟨_, rfl⟩
  rw [hy] at C1 ⊢
  clear hy
  go_enter Try.func62, Try.ntmps62
  go_wp2_with ((with_reducible refine (C1 _).mono ?_); rintro e w' ⟨rfl, rfl⟩)
  all_goals go_ret
  all_goals exact ⟨by simp_all <;> omega, rfl⟩

set_option maxHeartbeats 400000 in
theorem RRenew_any (n s : Int) (w : World) (hs : 0 ≤ s ∧ s < 4294967296) : Calls Try.prog 63 #[.int .i64 n, .int .u32 s] w fun e w' => e = .returned (.bool (renewS n s)) ∧ w = w' := by
  have C1 := fun W => RAge_any n s W hs
  unfold renewS
  obtain ⟨y, hy⟩ : ∃ y, ageS n s = y := ⟨_, rfl⟩
  rw [hy] at C1 ⊢
  clear hy
  go_enter Try.func63, Try.ntmps63
  go_wp2_with ((with_reducible refine (C1 _).mono ?_); rintro e w' ⟨rfl, rfl⟩)
  go_ret
  exact ⟨rfl, rfl⟩

end Go.Proofs.Ytjnaknfnoibncaa
