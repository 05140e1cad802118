/- hardtacklaw08.SipWords answers true for every two texts and every number, and leaves what lay as it lay. Conditions: a number of its kind. -/
import Derived.Test.YtolaiiiabacfcaaSipArgs
import Derived.Deep.QuietTactic
import Derived.BigQuiet
namespace Go.Proofs.Ytolaiiiabacfcaa
open Go Go.RowKit Go.Shelf
attribute [local go_sem] Oper.semAt_some wide_fn wide_depth

attribute [local irreducible] wpStill
def sameK (xs ys : List Nat) (k : Nat) : Bool := decide (xs.length = ys.length) && decide (xs.take k = ys.take k)
theorem sameK_0 (xs ys : List Nat) : sameK xs ys 0 = decide (xs.length = ys.length) := by simp [sameK]
theorem sameK_end (xs ys : List Nat) : sameK xs ys xs.length = decide (xs = ys) := by
  unfold sameK
  by_cases h : xs.length = ys.length
  · rw [List.take_length, h, List.take_length]; simp
  · have : xs ≠ ys := fun e => h (by rw [e])
    simp [h, this]
theorem sameK_true {xs ys : List Nat} {k : Nat} (h : sameK xs ys k = true) (hk : k < xs.length) :
    ∃ x y, xs[k]? = some x ∧ ys[k]? = some y ∧ k < ys.length ∧ sameK xs ys (k + 1) = ((x : Int) == (y : Int)) := by
  simp only [sameK, Bool.and_eq_true, decide_eq_true_eq] at h
  have hy : k < ys.length := by omega
  refine ⟨xs[k], ys[k], List.getElem?_eq_getElem hk, List.getElem?_eq_getElem hy, hy, ?_⟩
  have h2 : ((xs[k] : Int) == (ys[k] : Int)) = decide (xs[k] = ys[k]) := by
    rw [Bool.eq_iff_iff, beq_iff_eq, decide_eq_true_eq]; omega
  rw [h2]
  unfold sameK
  rw [List.take_succ_eq_append_getElem hk, List.take_succ_eq_append_getElem hy, h.2]
  simp only [List.append_cancel_left_eq, List.cons.injEq, and_true, h.1, decide_true, Bool.true_and]
theorem sameK_false {xs ys : List Nat} {k : Nat} (h : sameK xs ys k = false) : sameK xs ys (k + 1) = false := by
  cases h2 : sameK xs ys (k + 1) with
  | false => rfl
  | true =>
    simp only [sameK, Bool.and_eq_true, decide_eq_true_eq] at h2
    have h3 := congrArg (List.take k) h2.2
    rw [List.take_take, List.take_take, Nat.min_eq_left (by omega)] at h3
    simp [sameK, h2.1, h3] at h
theorem eq_text {a b : ByteArray} : (a.toList == b.toList) = decide (a = b) := by
  rw [Bool.eq_iff_iff]
  simp only [beq_iff_eq, decide_eq_true_eq]
  constructor
  · intro h
    rw [ByteArray.toList_eq, ByteArray.toList_eq] at h
    cases a; cases b; simp only [ByteArray.mk.injEq]; exact Array.toList_inj.1 h
  · intro h; rw [h]
/-- What words of two texts say of them. -/
theorem words_say (a b : ByteArray) (s : Bool) (h : sameK (wordsB a) (wordsB b) (wordsB a).length = s) :
    (s = true ∧ (((a.size : Int) % 256 == (b.size : Int) % 256) = true) ∧ (((a.size : Int) != (b.size : Int)) = true)) ∨
    (s = true ∧ (((a.size : Int) % 256 == (b.size : Int) % 256) = true) ∧ (((a.size : Int) != (b.size : Int)) = false) ∧ (a.toList == b.toList) = true) ∨
    (s = false ∧ (((a.size : Int) != (b.size : Int)) = true)) ∨ (s = false ∧ (((a.size : Int) != (b.size : Int)) = false) ∧ (a.toList == b.toList) = false) := by
  rw [sameK_end] at h
  by_cases he : wordsB a = wordsB b
  · have h1 := words_len he
    have h2 : ((a.size : Int) % 256 == (b.size : Int) % 256) = true := by rw [beq_iff_eq]; omega
    rw [decide_eq_true he] at h
    by_cases hz : a.size = b.size
    · refine .inr (.inl ⟨h.symm, h2, by rw [hz]; simp, ?_⟩)
      rw [eq_text, decide_eq_true (words_inj hz he)]
    · exact .inl ⟨h.symm, h2, by simp only [bne_iff_ne, ne_eq]; omega⟩
  · rw [decide_eq_false he] at h
    by_cases hz : a.size = b.size
    · refine .inr (.inr (.inr ⟨h.symm, by rw [hz]; simp, ?_⟩))
      rw [eq_text, decide_eq_false fun e => he (by rw [e])]
    · exact .inr (.inr (.inl ⟨h.symm, by simp only [bne_iff_ne, ne_eq]; omega⟩))
theorem encU_at {l : List Nat} {k x : Nat} (h : l[k]? = some x) : (encU l)[k]? = some (.int .u64 (x : Int)) := by simp [encU, h]

set_option maxRecDepth 100000 in
set_option maxHeartbeats 4000000 in
theorem sipWords_walk (a b : ByteArray) (n : Nat) (w : World) (hn : n < 18446744073709551616) (ha : a.size ≤ 1024) (hb : b.size ≤ 1024) :
    Calls Try.prog 6 #[.string a, .string b, .int .u64 (n : Int)] w fun e w' => e = .returned (.bool true) ∧ Ext w w' := by
  have CL := Lib.hid fun W => L8.lives_any W
  have CA := Lib.hid fun W => Words_any a W (by omega)
  have CB := Lib.hid fun W => Words_any b W (by omega)
  have CY := Lib.hid fun W => Bytes_any n W
  have CV0 := fun W => Value_any (bytesS n) W
  have hl8 : (bytesS n).size = 8 := bytesM_length n 8
  have hlv : lowB (bytesS n).data.toList = n := by
    show lowB (bytesM n 8) = n
    rw [lowB_bytes]; omega
  rw [if_pos hl8, hlv] at CV0
  have CV := Lib.hid CV0
  have hla : (wordsB a).length = a.size / 8 + 1 := wordsB_length a
  have hS := words_say a b
  obtain ⟨xs, hxs⟩ : ∃ xs, wordsB a = xs := ⟨_, rfl⟩
  obtain ⟨ys, hys⟩ : ∃ ys, wordsB b = ys := ⟨_, rfl⟩
  have hlb : (wordsB b).length = b.size / 8 + 1 := wordsB_length b
  rw [hxs] at CA hla hS
  rw [hys] at CB hS hlb
  obtain ⟨m, hm⟩ : ∃ m, xs.length = m + 1 := ⟨_, hla⟩
  obtain ⟨m2, hm2⟩ : ∃ m, ys.length = m + 1 := ⟨_, hlb⟩
  have hq : (a.size : Int) / 8 + 1 = (m : Int) + 1 := by omega
  have HS := Lib.hid hS
  have HM := Lib.hid hm
  have HM2 := Lib.hid hm2
  have HQ := Lib.hid hq
  have hb1 : m ≤ 128 := by omega
  have hb2 : m2 ≤ 128 := by omega
  rw [hm] at CA
  rw [hm2] at CB
  have HX := Lib.hid (Ext.refl w)
  have g1 : decide ((1024 : Int) < (a.size : Int)) = false := decide_eq_false (by omega)
  have g2 : decide ((1024 : Int) < (b.size : Int)) = false := decide_eq_false (by omega)
  obtain ⟨s0, hs0⟩ : ∃ s0, (((m : Int) + 1) == ((m2 : Int) + 1)) = s0 := ⟨_, rfl⟩
  have H0 : Hid (sameK xs ys 0 = s0) := Lib.hid (by
    rw [sameK_0, ← hs0, hm, hm2, Bool.eq_iff_iff, decide_eq_true_eq, beq_iff_eq]
    omega)
  clear hS hm hm2 hq hxs hys hla hlb hlv hl8 CV0
  go_enter Try.func6, Try.ntmps6
  go_wp2_with fail
  refine (CL.out _).mono ?_
  rintro e w1 ⟨rfl, hx⟩
  have HX1 := Lib.hid (HX.out.trans hx); clear hx HX
  go_wp2_with fail
  refine (CA.out _).mono ?_
  rintro e w2 ⟨v, rfl, hown, hx⟩
  obtain ⟨ga, capa, rfl⟩ := ownsRow_succ hown
  have hca : ∀ k x : Nat, xs[k]? = some x → w2.cell? ⟨ga, k, none⟩ = some (.int .u64 (x : Int)) := fun k x h => by
    have := hown.cells (g := ga) rfl k _ (encU_at h)
    have hp : (⟨ga, 0, none⟩ : Addr).add k = ⟨ga, k, none⟩ := by unfold Addr.add; split <;> simp_all
    rwa [hp] at this
  have HCA := Lib.hid hca
  have HX2 := Lib.hid (HX1.out.trans hx); clear hx HX1 hown hca
  go_wp2_with fail
  refine (CB.out _).mono ?_
  rintro e w3 ⟨v, rfl, hown, hx⟩
  obtain ⟨gb, capb, rfl⟩ := ownsRow_succ hown
  have hcb : ∀ k x : Nat, ys[k]? = some x → w3.cell? ⟨gb, k, none⟩ = some (.int .u64 (x : Int)) := fun k x h => by
    have := hown.cells (g := gb) rfl k _ (encU_at h)
    have hp : (⟨gb, 0, none⟩ : Addr).add k = ⟨gb, k, none⟩ := by unfold Addr.add; split <;> simp_all
    rwa [hp] at this
  have HCA3 : Hid (∀ k x : Nat, xs[k]? = some x → w3.cell? ⟨ga, k, none⟩ = some (.int .u64 (x : Int))) := Lib.hid fun k x h => hx.keeps.cell (HCA.out k x h) trivial
  have HCB := Lib.hid hcb
  have HX3 := Lib.hid (HX2.out.trans hx); clear hx HX2 hown hcb HCA
  go_wp2_with fail
  clear hs0 g1 g2
  go_loopw [9, 34] (fun q i wr => ∃ k : Nat, k ≤ m + 1 ∧ i = .int .i64 k ∧ q = .bool (sameK xs ys k) ∧ Ext w3 wr) (fun _ i _ => m + 1 - (intOf i).toNat)
  case atStart => exact ⟨0, Nat.zero_le _, rfl, by rw [H0.out], Ext.refl _⟩
  case round =>
    obtain ⟨k, hk, rfl, rfl, hx⟩ := hrel
    have HXW := Lib.hid hx
    clear hx
    by_cases hlt : k < m + 1
    · cases hf : sameK xs ys k with
      | false =>
        have hn1 := sameK_false hf
        have HN := Lib.hid hn1
        clear hf hn1
        go_wp2_with fail
        refine wp_region_still (by kernel_rfl) (by kernel_rfl) ?_
        iterate 13 still_step
        refine wpStill_nil ?_
        go_wp2_with fail
        go_roundw
        case rel => exact ⟨k + 1, by omega, by go_num, by rw [HN.out], HXW.out.drew⟩
        case measure => simp [intOf]; omega
      | true =>
        obtain ⟨x, y, hx, hy, hky, hn1⟩ := sameK_true hf (by rw [HM.out]; exact hlt)
        have hcx := HXW.out.keeps.cell (HCA3.out k x hx) trivial
        have hcy := HXW.out.keeps.cell (HCB.out k y hy) trivial
        rw [HM2.out] at hky
        have hi1 : (k : Int) < (m : Int) + 1 := by omega
        have hi2 : (k : Int) < (m2 : Int) + 1 := by omega
        obtain ⟨bb, hbb⟩ : ∃ bb, ((x : Int) == (y : Int)) = bb := ⟨_, rfl⟩
        rw [hbb] at hn1
        have HN := Lib.hid hn1
        clear hf hn1 hx hy
        go_wp2_with fail
        refine wp_region_still (by kernel_rfl) (by kernel_rfl) ?_
        iterate 13 still_step
        refine wpStill_nil ?_
        clear hbb
        go_wp2_with fail
        go_roundw
        case rel => exact ⟨k + 1, by omega, by go_num, by rw [HN.out], HXW.out.drew⟩
        case measure => simp [intOf]; omega
    · obtain rfl : k = m + 1 := by omega
      obtain ⟨s, hs⟩ : ∃ s, sameK xs ys (m + 1) = s := ⟨_, rfl⟩
      have h4 := HS.out s (by rw [HM.out]; exact hs)
      rw [hs]
      have hq := HQ.out
      clear hs
      rcases h4 with ⟨rfl, h1, h2⟩ | ⟨rfl, h1, h2, h3⟩ | ⟨rfl, h2⟩ | ⟨rfl, h2, h3⟩
      all_goals
        go_wp2_with fail
        refine (CY.out _).mono ?_
        rintro e w5 ⟨rfl, hx⟩
        have HX5 : Hid (Ext w w5) := Lib.hid ((HX3.out.trans HXW.out).trans hx)
        clear hx
        go_wp2_with fail
        refine (CV.out _).mono ?_
        rintro e w' ⟨rfl, rfl⟩
        go_wp2_with fail
        go_ret
        exact ⟨rfl, HX5.out⟩

set_option maxRecDepth 100000 in
set_option maxHeartbeats 1000000 in
theorem sipWords_long (a b : ByteArray) (n : Nat) (w : World) (h : ¬ (a.size ≤ 1024 ∧ b.size ≤ 1024)) :
    Calls Try.prog 6 #[.string a, .string b, .int .u64 (n : Int)] w fun e w' => e = .returned (.bool true) ∧ Ext w w' := by
  have CL := Lib.hid fun W => L8.lives_any W
  by_cases ha : a.size ≤ 1024
  · have g1 : decide ((1024 : Int) < (a.size : Int)) = false := decide_eq_false (by omega)
    have g2 : decide ((1024 : Int) < (b.size : Int)) = true := decide_eq_true (by omega)
    clear ha h
    go_enter Try.func6, Try.ntmps6
    go_wp2_with fail
    refine (CL.out _).mono ?_
    rintro e w1 ⟨rfl, hx⟩
    have HX := Lib.hid hx; clear hx
    go_wp2_with fail
    go_ret
    exact ⟨rfl, HX.out⟩
  · have g1 : decide ((1024 : Int) < (a.size : Int)) = true := decide_eq_true (by omega)
    clear ha h
    go_enter Try.func6, Try.ntmps6
    go_wp2_with fail
    refine (CL.out _).mono ?_
    rintro e w1 ⟨rfl, hx⟩
    have HX := Lib.hid hx; clear hx
    go_wp2_with fail
    go_ret
    exact ⟨rfl, HX.out⟩
theorem sipWords_args (a b : ByteArray) (n : Int) (w : World) (_ : a.size ≤ maxLen) (_ : b.size ≤ maxLen) (hn : (Lit.int .u64 n).wf = true) :
    Calls Try.prog 6 #[.string a, .string b, .int .u64 n] w fun e w' => e = .returned (.bool true) ∧ Ext w w' := by
  have h1 := wf_u64 hn
  obtain ⟨m, rfl⟩ := Int.eq_ofNat_of_zero_le h1.1
  by_cases h : a.size ≤ 1024 ∧ b.size ≤ 1024
  · exact sipWords_walk a b m w (by omega) h.1 h.2
  · exact sipWords_long a b m w h
end Go.Proofs.Ytolaiiiabacfcaa
