/- What hardtacklaw10.StampLess answers: true. Conditions: numbers of their kinds. -/
import Derived.Test.YtnfnjhphamadgaaStampB
import Derived.IntWalk
import Derived.Handy
namespace Go.Proofs.Ytnfnjhphamadgaa
open Go Go.RowKit Go.Shelf
attribute [local go_sem] Oper.semAt_some wide_fn wide_depth

theorem lessS_true {a b : Int} (h : (b - a) % 4294967296 < 2147483648) (h0 : 0 < (b - a) % 4294967296) : lessS a b = true := by
  unfold lessS halfS; rw [if_pos h]; simpa using h0
theorem lessS_false {a b : Int} (h : (b - a) % 4294967296 = 0 ∨ 2147483648 ≤ (b - a) % 4294967296) : lessS a b = false := by
  unfold lessS halfS; split <;> simp <;> omega
theorem less_cases {a b : Int} (ha : 0 ≤ a ∧ a < 4294967296) (hb : 0 ≤ b ∧ b < 4294967296) : (lessS a b, lessS b a, decide (a = b), decide ((a - b) % 4294967296 = 2147483648)) ∈ [(true, false, false, false), (false, true, false, false), (false, false, true, false), (false, false, false, true)] := by
  simp only [List.mem_cons, Prod.mk.injEq, List.not_mem_nil, or_false, decide_eq_true_iff, decide_eq_false_iff_not]
  by_cases h : a = b
  · exact .inr (.inr (.inl ⟨lessS_false (by omega), lessS_false (by omega), h, by omega⟩))
  · by_cases h2 : (a - b) % 4294967296 = 2147483648
    · exact .inr (.inr (.inr ⟨lessS_false (by omega), lessS_false (by omega), h, h2⟩))
    · by_cases h3 : (b - a) % 4294967296 < 2147483648
      · exact .inl ⟨lessS_true h3 (by omega), lessS_false (by omega), h, h2⟩
      · exact .inr (.inl ⟨lessS_false (by omega), lessS_true (by omega) (by omega), h, h2⟩)

set_option maxRecDepth 100000 in
set_option maxHeartbeats 2000000 in
theorem stampLess_walk (a b k : Int) (w : World) (ha : 0 ≤ a ∧ a < 4294967296) (hb : 0 ≤ b ∧ b < 4294967296) :
    Calls Try.prog 8 #[.int .u32 a, .int .u32 b, .int .i64 k] w fun e w' => e = .returned (.bool true) ∧ Ext w w' := by
  have C0 := fun W => lives10_any W
  have C1 := fun W => SLess_any a b W
  have C2 := fun W => SLess_any b a W
  have C3 := fun W => SAdd_any a k W
  have C4 := fun W => SAdd_any b k W
  have C5 := fun W => SLess_any (addS a k) (addS b k) W
  have h5 : lessS (addS a k) (addS b k) = lessS a b := by
    have : halfS (addS b k - addS a k) = halfS (b - a) := by unfold addS; rw [← halfS_mod, ← halfS_mod (b - a)]; congr 1; omega
    unfold lessS; rw [this]
  rw [h5] at C5
  have hcase : (lessS a b, lessS b a, decide (a = b), decide ((a - b) % 4294967296 = 2147483648)) ∈ [(true, false, false, false), (false, true, false, false), (false, false, true, false), (false, false, false, true)] := less_cases ha hb
  obtain ⟨y1, h1⟩ : ∃ y, addS a k = y := ⟨_, rfl⟩
  obtain ⟨y2, h2⟩ : ∃ y, addS b k = y := ⟨_, rfl⟩
  rw [h1] at C3 C5
  rw [h2] at C4 C5
  clear h5
  obtain ⟨b1, hb1⟩ : ∃ y, lessS a b = y := ⟨_, rfl⟩
  obtain ⟨b2, hb2⟩ : ∃ y, lessS b a = y := ⟨_, rfl⟩
  rw [hb1] at C1 C5 hcase
  rw [hb2] at C2 hcase
  clear hb1 hb2
  have hw := hcase
  simp only [List.mem_cons, Prod.mk.injEq, List.not_mem_nil, or_false, decide_eq_true_iff, decide_eq_false_iff_not] at hw
  clear hcase
  have fin : ∀ o W, w.alloc o = W → Ext w W := fun o W h => h ▸ (Ext.refl w).alloc o
  rcases hw with ⟨rfl, rfl, h3, h4⟩ | ⟨rfl, rfl, h3, h4⟩ | ⟨rfl, rfl, rfl, h4⟩ | ⟨rfl, rfl, h3, h4⟩
  case inr.inr.inl =>
    clear h4
    obtain rfl : y1 = y2 := h1.symm.trans h2
    clear h1 h2
    go_enter Try.func8, Try.ntmps8
    go_wp2_with (first
    | ((with_reducible refine (C0 _).mono ?_); rintro e w' ⟨rfl, rfl⟩)
    | ((with_reducible refine (C1 _).mono ?_); rintro e w' ⟨rfl, rfl⟩))
    refine wp_loop_rounds 5 ?_
    iterate 4 (rw [rounds_succ]; go_wp2)
    rw [rounds_succ]
    go_wp2_with (first
    | ((with_reducible refine (C1 _).mono ?_); rintro e w' ⟨rfl, rfl⟩)
    | ((with_reducible refine (C3 _).mono ?_); rintro e w' ⟨rfl, rfl⟩)
    | ((with_reducible refine (C5 _).mono ?_); rintro e w' ⟨rfl, rfl⟩))
    go_ret
    exact ⟨rfl, fin _ _ rfl⟩
  all_goals
    have e3 : (a == b) = false := by rw [Bool.eq_false_iff]; simpa using h3
    first
    | (have e4 : ((a - b) % 4294967296 == 2147483648) = false := by rw [Bool.eq_false_iff]; simpa using h4)
    | (have e4 : ((a - b) % 4294967296 == 2147483648) = true := by simpa using h4)
    clear h1 h2 h3 h4
    go_enter Try.func8, Try.ntmps8
    go_wp2_with (first
    | ((with_reducible refine (C0 _).mono ?_); rintro e w' ⟨rfl, rfl⟩)
    | ((with_reducible refine (C1 _).mono ?_); rintro e w' ⟨rfl, rfl⟩)
    | ((with_reducible refine (C2 _).mono ?_); rintro e w' ⟨rfl, rfl⟩))
    try simp only [e3, e4]
    clear e3 e4
    refine wp_loop_rounds 5 ?_
    iterate 4 (rw [rounds_succ]; go_wp2)
    rw [rounds_succ]
    go_wp2_with (first
    | ((with_reducible refine (C1 _).mono ?_); rintro e w' ⟨rfl, rfl⟩)
    | ((with_reducible refine (C3 _).mono ?_); rintro e w' ⟨rfl, rfl⟩)
    | ((with_reducible refine (C4 _).mono ?_); rintro e w' ⟨rfl, rfl⟩)
    | ((with_reducible refine (C5 _).mono ?_); rintro e w' ⟨rfl, rfl⟩))
    go_ret
    exact ⟨rfl, fin _ _ rfl⟩

theorem wf_u32 {n : Int} (h : (Lit.int .u32 n).wf = true) : 0 ≤ n ∧ n < 4294967296 := by
  simp [Lit.wf, IntKind.min, IntKind.max, IntKind.bits, IntKind.signed] at h
  omega
theorem wf_i32 {n : Int} (h : (Lit.int .i32 n).wf = true) : -2147483648 ≤ n ∧ n ≤ 2147483647 := by
  simp [Lit.wf, IntKind.min, IntKind.max, IntKind.bits, IntKind.signed] at h
  omega
theorem wf_i64' {n : Int} (h : (Lit.int .i64 n).wf = true) : -9223372036854775808 ≤ n ∧ n ≤ 9223372036854775807 := by
  simp [Lit.wf, IntKind.min, IntKind.max, IntKind.bits, IntKind.signed] at h
  omega
theorem stampTells_args (n a b k : Int) (w : World) (_ : (Lit.int .i64 n).wf = true) (ha : (Lit.int .u32 a).wf = true) (hb : (Lit.int .u32 b).wf = true) (_ : (Lit.int .i64 k).wf = true) :
    Calls Try.prog 6 #[.int .i64 n, .int .u32 a, .int .u32 b, .int .i64 k] w fun e w' => e = .returned (.bool true) ∧ Ext w w' :=
  (stampTells_walk n a b k w (wf_u32 ha) (wf_u32 hb)).mono fun _ _ h => ⟨h.1, h.2 ▸ Ext.refl w⟩
theorem stampRound_args (n d : Int) (w : World) (hn : (Lit.int .i64 n).wf = true) (hd : (Lit.int .i32 d).wf = true) :
    Calls Try.prog 7 #[.int .i64 n, .int .i32 d] w fun e w' => e = .returned (.bool true) ∧ Ext w w' :=
  (stampRound_walk n d w (wf_i64' hn) (wf_i32 hd)).mono fun _ _ h => ⟨h.1, h.2 ▸ Ext.refl w⟩
theorem stampLess_args (a b k : Int) (w : World) (ha : (Lit.int .u32 a).wf = true) (hb : (Lit.int .u32 b).wf = true) (_ : (Lit.int .i64 k).wf = true) :
    Calls Try.prog 8 #[.int .u32 a, .int .u32 b, .int .i64 k] w fun e w' => e = .returned (.bool true) ∧ Ext w w' :=
  stampLess_walk a b k w (wf_u32 ha) (wf_u32 hb)
end Go.Proofs.Ytnfnjhphamadgaa
