/- What the statements of layer 10 answer: true. Conditions: numbers of their kinds. -/
import Derived.Test.YtnfnjhphamadgaaStampA
import Derived.IntWalk
namespace Go.Proofs.Ytnfnjhphamadgaa
open Go Go.RowKit Go.Shelf
attribute [local go_sem] Oper.semAt_some wide_fn wide_depth

set_option maxRecDepth 100000 in
set_option maxHeartbeats 2000000 in
theorem lives10_any (w : World) : Calls Try.prog 23 #[] w fun e w' => e = .returned (.bool true) ∧ w = w' := by
  have e0 : ofS 4294967301 = 5 := by decide
  have e1 : ageS 5 4294967295 = 6 := by decide
  have e2 : ageS 0 2147483648 = -2147483648 := by decide
  have e3 : freshS 3600 0 = 0 := by decide
  have e4 : freshS 3601 0 = 10 := by decide
  have e5 : freshS 0 300 = 0 := by decide
  have e6 : freshS 0 301 = 10 := by decide
  have e7 : renewS 1801 0 = true := by decide
  have e8 : renewS 1800 0 = false := by decide
  have e9 : lessS 4294967295 0 = true := by decide
  have e10 : lessS 0 2147483648 = false := by decide
  have e11 : addS 1 (-2) = 4294967295 := by decide
  have C0 := fun W => e0 ▸ SOf_any 4294967301 W
  have C1 := fun W => e1 ▸ SAge_any 5 4294967295 W
  have C2 := fun W => e2 ▸ SAge_any 0 2147483648 W
  have C3 := fun W => e3 ▸ SFresh_any 3600 0 W
  have C4 := fun W => e4 ▸ SFresh_any 3601 0 W
  have C5 := fun W => e5 ▸ SFresh_any 0 300 W
  have C6 := fun W => e6 ▸ SFresh_any 0 301 W
  have C7 := fun W => e7 ▸ SRenew_any 1801 0 W
  have C8 := fun W => e8 ▸ SRenew_any 1800 0 W
  have C9 := fun W => e9 ▸ SLess_any 4294967295 0 W
  have C10 := fun W => e10 ▸ SLess_any 0 2147483648 W
  have C11 := fun W => e11 ▸ SAdd_any 1 (-2) W
  clear e0 e1 e2 e3 e4 e5 e6 e7 e8 e9 e10 e11
  go_enter Try.func23, Try.ntmps23
  go_wp2_with (first
    | ((with_reducible refine (C0 _).mono ?_); rintro e w' ⟨rfl, rfl⟩)
    | ((with_reducible refine (C1 _).mono ?_); rintro e w' ⟨rfl, rfl⟩)
    | ((with_reducible refine (C2 _).mono ?_); rintro e w' ⟨rfl, rfl⟩)
    | ((with_reducible refine (C3 _).mono ?_); rintro e w' ⟨rfl, rfl⟩)
    | ((with_reducible refine (C4 _).mono ?_); rintro e w' ⟨rfl, rfl⟩)
    | ((with_reducible refine (C5 _).mono ?_); rintro e w' ⟨rfl, rfl⟩)
    | ((with_reducible refine (C6 _).mono ?_); rintro e w' ⟨rfl, rfl⟩)
    | ((with_reducible refine (C7 _).mono ?_); rintro e w' ⟨rfl, rfl⟩)
    | ((with_reducible refine (C8 _).mono ?_); rintro e w' ⟨rfl, rfl⟩)
    | ((with_reducible refine (C9 _).mono ?_); rintro e w' ⟨rfl, rfl⟩)
    | ((with_reducible refine (C10 _).mono ?_); rintro e w' ⟨rfl, rfl⟩)
    | ((with_reducible refine (C11 _).mono ?_); rintro e w' ⟨rfl, rfl⟩))
  go_ret
  exact ⟨rfl, rfl⟩

set_option maxRecDepth 100000 in
set_option maxHeartbeats 2000000 in
theorem stampTells_walk (n a b k : Int) (w : World) (ha : 0 ≤ a ∧ a < 4294967296) (hb : 0 ≤ b ∧ b < 4294967296) :
    Calls Try.prog 6 #[.int .i64 n, .int .u32 a, .int .u32 b, .int .i64 k] w fun e w' => e = .returned (.bool true) ∧ w = w' := by
  have C0 := fun W => lives10_any W
  have C1 := fun W => SOf_any n W
  have C2 := fun W => ROf_any n W
  have C3 := fun W => SAge_any n a W
  have C4 := fun W => RAge_any n a W ha
  have C5 := fun W => SFresh_any n a W
  have C6 := fun W => RFresh_any n a W ha
  have C7 := fun W => SRenew_any n a W
  have C8 := fun W => RRenew_any n a W ha
  have C9 := fun W => SLess_any a b W
  have C10 := fun W => SRLess_any a b W ha hb
  have C11 := fun W => SAdd_any a k W
  have C12 := fun W => RAdd_any a k W ha
  obtain ⟨y1, h1⟩ : ∃ y, ofS n = y := ⟨_, rfl⟩
  obtain ⟨y2, h2⟩ : ∃ y, ageS n a = y := ⟨_, rfl⟩
  obtain ⟨y3, h3⟩ : ∃ y, freshS n a = y := ⟨_, rfl⟩
  obtain ⟨y4, h4⟩ : ∃ y, renewS n a = y := ⟨_, rfl⟩
  obtain ⟨y5, h5⟩ : ∃ y, lessS a b = y := ⟨_, rfl⟩
  obtain ⟨y6, h6⟩ : ∃ y, addS a k = y := ⟨_, rfl⟩
  rw [h1] at C1 C2
  rw [h2] at C3 C4
  rw [h3] at C5 C6
  rw [h4] at C7 C8
  rw [h5] at C9 C10
  rw [h6] at C11 C12
  clear h1 h2 h3 h4 h5 h6 ha hb
  go_enter Try.func6, Try.ntmps6
  go_wp2_with (first
    | ((with_reducible refine (C0 _).mono ?_); rintro e w' ⟨rfl, rfl⟩)
    | ((with_reducible refine (C1 _).mono ?_); rintro e w' ⟨rfl, rfl⟩)
    | ((with_reducible refine (C2 _).mono ?_); rintro e w' ⟨rfl, rfl⟩)
    | ((with_reducible refine (C3 _).mono ?_); rintro e w' ⟨rfl, rfl⟩)
    | ((with_reducible refine (C4 _).mono ?_); rintro e w' ⟨rfl, rfl⟩)
    | ((with_reducible refine (C5 _).mono ?_); rintro e w' ⟨rfl, rfl⟩)
    | ((with_reducible refine (C6 _).mono ?_); rintro e w' ⟨rfl, rfl⟩)
    | ((with_reducible refine (C7 _).mono ?_); rintro e w' ⟨rfl, rfl⟩)
    | ((with_reducible refine (C8 _).mono ?_); rintro e w' ⟨rfl, rfl⟩)
    | ((with_reducible refine (C9 _).mono ?_); rintro e w' ⟨rfl, rfl⟩)
    | ((with_reducible refine (C10 _).mono ?_); rintro e w' ⟨rfl, rfl⟩)
    | ((with_reducible refine (C11 _).mono ?_); rintro e w' ⟨rfl, rfl⟩)
    | ((with_reducible refine (C12 _).mono ?_); rintro e w' ⟨rfl, rfl⟩))
  go_ret
  exact ⟨by simp, rfl⟩

set_option maxRecDepth 100000 in
set_option maxHeartbeats 2000000 in
theorem stampRound_walk (n d : Int) (w : World) (hn : -9223372036854775808 ≤ n ∧ n ≤ 9223372036854775807) (hd : -2147483648 ≤ d ∧ d ≤ 2147483647) :
    Calls Try.prog 7 #[.int .i64 n, .int .i32 d] w fun e w' => e = .returned (.bool true) ∧ w = w' := by
  have C0 := fun W => lives10_any W
  have C1 := fun W => SOf_any n W
  have C2 := fun W => SOf_any (n + d) W
  have C3 := fun W => SAge_any (n + d) (ofS n) W
  have C5 := fun W => SFresh_any (n + d) (ofS n) W
  have C7 := fun W => SRenew_any (n + d) (ofS n) W
  have C11 := fun W => SAdd_any (ofS n) d W
  have h2 : ageS (n + d) (ofS n) = d := by unfold ageS halfS ofS; split <;> omega
  have h3 : addS (ofS n) d = ofS (n + d) := by unfold addS ofS; omega
  have h4 : freshS (n + d) (ofS n) = if -300 ≤ d ∧ d ≤ 3600 then 0 else 10 := by unfold freshS; rw [h2]
  have h5 : renewS (n + d) (ofS n) = decide (1800 < d) := by unfold renewS; rw [h2]
  rw [h2] at C3
  rw [h3] at C11
  rw [h4] at C5
  rw [h5] at C7
  clear h2 h3 h4 h5
  obtain ⟨y1, h1⟩ : ∃ y, ofS n = y := ⟨_, rfl⟩
  obtain ⟨y2, h2⟩ : ∃ y, ofS (n + d) = y := ⟨_, rfl⟩
  obtain ⟨y3, h3⟩ : ∃ y, (if -300 ≤ d ∧ d ≤ 3600 then (0 : Int) else 10) = y := ⟨_, rfl⟩
  rw [h1] at C1 C3 C5 C7 C11
  rw [h2] at C2 C11
  rw [h3] at C5
  clear h1 h2
  have hq : (y3 == (0 : Int)) = (decide (-300 ≤ d) && decide (d ≤ 3600)) := by rw [← h3, Bool.eq_iff_iff, Bool.and_eq_true, decide_eq_true_iff, decide_eq_true_iff, beq_iff_eq]; split <;> omega
  clear h3
  go_enter Try.func7, Try.ntmps7
  go_wp2_with (first
    | ((with_reducible refine (C0 _).mono ?_); rintro e w' ⟨rfl, rfl⟩)
    | ((with_reducible refine (C1 _).mono ?_); rintro e w' ⟨rfl, rfl⟩)
    | ((with_reducible refine (C2 _).mono ?_); rintro e w' ⟨rfl, rfl⟩)
    | ((with_reducible refine (C3 _).mono ?_); rintro e w' ⟨rfl, rfl⟩)
    | ((with_reducible refine (C5 _).mono ?_); rintro e w' ⟨rfl, rfl⟩)
    | ((with_reducible refine (C7 _).mono ?_); rintro e w' ⟨rfl, rfl⟩)
    | ((with_reducible refine (C11 _).mono ?_); rintro e w' ⟨rfl, rfl⟩))
  all_goals go_ret
  all_goals exact ⟨by simp_all, rfl⟩
end Go.Proofs.Ytnfnjhphamadgaa
