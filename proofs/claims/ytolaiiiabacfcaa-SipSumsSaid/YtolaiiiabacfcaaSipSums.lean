/- hardtacklaw08.SipSums answers true for every key and text, and leaves what lay as it lay. Conditions: none beyond the form's own. -/
import Derived.Test.YtolaiiiabacfcaaSipT
namespace Go.Proofs.Ytolaiiiabacfcaa
open Go Go.RowKit Go.Shelf
attribute [local go_sem] Oper.semAt_some wide_fn wide_depth

theorem sumR_two (key s : ByteArray) : ∃ x y : Int, sumR key s = #[.int .u64 x, .int .i64 y] := by
  unfold sumR
  split
  · split
    · exact ⟨_, _, rfl⟩
    · exact ⟨_, _, rfl⟩
  · exact ⟨_, _, rfl⟩

set_option maxRecDepth 100000 in
set_option maxHeartbeats 2000000 in
theorem sipSums_mid (key s : ByteArray) (w : World) (h1 : 4096 < s.size) (h2 : s.size ≤ 65536) :
    Calls Try.prog 4 #[.string key, .string s] w fun e w' => e = .returned (.bool true) ∧ Ext w w' := by
  have CL := Lib.hid fun W => L8.lives_any W
  have g1 : decide ((4096 : Int) < (s.size : Int)) = true := decide_eq_true (by omega)
  have g2 : decide ((s.size : Int) ≤ 65536) = true := decide_eq_true (by omega)
  go_enter Try.func4, Try.ntmps4
  go_wp2_with fail
  refine (CL.out _).mono ?_
  rintro e w1 ⟨rfl, hx⟩
  have HX := Lib.hid hx; clear hx
  go_wp2_with fail
  go_ret
  exact ⟨rfl, HX.out⟩

set_option maxRecDepth 100000 in
set_option maxHeartbeats 2000000 in
theorem sipSums_long (key s : ByteArray) (w : World) (h1 : 65536 < s.size) :
    Calls Try.prog 4 #[.string key, .string s] w fun e w' => e = .returned (.bool true) ∧ Ext w w' := by
  have CL := Lib.hid fun W => L8.lives_any W
  have c1 := fun W => Sum_any key s W
  have c2 := fun W => RSum_any key s W
  obtain ⟨x, y, hxy⟩ := sumR_two key s
  rw [hxy] at c1 c2
  have C1 := Lib.hid c1
  have C2 := Lib.hid c2
  have g1 : decide ((4096 : Int) < (s.size : Int)) = true := decide_eq_true (by omega)
  have g2 : decide ((s.size : Int) ≤ 65536) = false := decide_eq_false (by omega)
  have g3 : decide ((s.size : Int) ≤ 4096) = false := decide_eq_false (by omega)
  clear c1 c2 hxy
  go_enter Try.func4, Try.ntmps4
  go_wp2_with fail
  refine (C1.out _).mono ?_
  rintro e w1 ⟨rfl, hx⟩
  have HX1 := Lib.hid hx; clear hx
  go_wp2_with fail
  refine (C2.out _).mono ?_
  rintro e w2 ⟨rfl, hx⟩
  have HX2 := Lib.hid (HX1.out.trans hx); clear hx
  go_wp2_with fail
  refine (CL.out _).mono ?_
  rintro e w3 ⟨rfl, hx⟩
  have HX3 := Lib.hid (HX2.out.trans hx); clear hx
  go_wp2_with fail
  go_ret
  exact ⟨rfl, HX3.out⟩

set_option maxRecDepth 100000 in
set_option maxHeartbeats 4000000 in
theorem sipSums_small (key s : ByteArray) (w : World) (h1 : s.size ≤ 4096) :
    Calls Try.prog 4 #[.string key, .string s] w fun e w' => e = .returned (.bool true) ∧ Ext w w' := by
  have CL := Lib.hid fun W => L8.lives_any W
  have c1 := fun W => Sum_any key s W
  have c2 := fun W => RSum_any key s W
  obtain ⟨x, y, hxy⟩ := sumR_two key s
  rw [hxy] at c1 c2
  have C1 := Lib.hid c1
  have C2 := Lib.hid c2
  have c3 := fun W => Words_any s W (by omega)
  have c4 := fun W => RWords_any s W (by omega)
  have hwp : ∃ n, (wordsB s).length = n + 1 := ⟨_, wordsB_length s⟩
  have hwl : (wordsB s).length ≤ 513 := by rw [wordsB_length]; omega
  obtain ⟨xs, hxs⟩ : ∃ xs, wordsB s = xs := ⟨_, rfl⟩
  rw [hxs] at c3 c4 hwp hwl
  obtain ⟨n, hn⟩ := hwp
  rw [hn] at c3 c4 hwl
  have C3 := Lib.hid c3
  have C4 := Lib.hid c4
  have HN := Lib.hid hn
  have g1 : decide ((4096 : Int) < (s.size : Int)) = false := decide_eq_false (by omega)
  have g3 : decide ((s.size : Int) ≤ 4096) = true := decide_eq_true (by omega)
  clear c1 c2 c3 c4 hxy hn hxs
  go_enter Try.func4, Try.ntmps4
  go_wp2_with fail
  refine (C1.out _).mono ?_
  rintro e w1 ⟨rfl, hx⟩
  have HX1 := Lib.hid hx; clear hx
  go_wp2_with fail
  refine (C2.out _).mono ?_
  rintro e w2 ⟨rfl, hx⟩
  have HX2 := Lib.hid (HX1.out.trans hx); clear hx HX1
  go_wp2_with fail
  refine (C3.out _).mono ?_
  rintro e w3 ⟨v, rfl, hown, hx⟩
  obtain ⟨ga, capa, rfl⟩ := ownsRow_succ hown
  have HX3 := Lib.hid (HX2.out.trans hx)
  have HOA := Lib.hid hown
  clear hx hown HX2
  go_wp2_with fail
  refine (C4.out _).mono ?_
  rintro e w4 ⟨v, rfl, hown, hx⟩
  obtain ⟨gb, capb, rfl⟩ := ownsRow_succ hown
  have HX4 := Lib.hid (HX3.out.trans hx)
  have HA : Hid (∀ k x : Nat, xs[k]? = some x → w4.cell? ⟨ga, k, none⟩ = some (.int .u64 (x : Int))) := Lib.hid fun k x h => by
    have := (hx.keeps.ownsRow HOA.out (fun _ _ => trivial)).cells (g := ga) rfl k _ (encU_at h)
    have hp : (⟨ga, 0, none⟩ : Addr).add k = ⟨ga, k, none⟩ := by unfold Addr.add; split <;> simp_all
    rwa [hp] at this
  have HB : Hid (∀ k x : Nat, xs[k]? = some x → w4.cell? ⟨gb, k, none⟩ = some (.int .u64 (x : Int))) := Lib.hid fun k x h => by
    have := hown.cells (g := gb) rfl k _ (encU_at h)
    have hp : (⟨gb, 0, none⟩ : Addr).add k = ⟨gb, k, none⟩ := by unfold Addr.add; split <;> simp_all
    rwa [hp] at this
  clear hx hown HX3 HOA g1 g3
  go_wp2_with fail
  go_loopw [47] (fun i wr => ∃ k : Nat, k ≤ n + 1 ∧ i = .int .i64 k ∧ Ext w4 wr) (fun i _ => n + 1 - (intOf i).toNat)
  case atStart => exact ⟨0, Nat.zero_le _, rfl, Ext.refl _⟩
  case round =>
    obtain ⟨k, hk, rfl, hx⟩ := hrel
    have HXW := Lib.hid hx
    clear hx
    by_cases hlt : k < n + 1
    · have hkl : k < xs.length := by rw [HN.out]; exact hlt
      obtain ⟨z, hz⟩ : ∃ z, xs[k]? = some z := ⟨xs[k], List.getElem?_eq_getElem hkl⟩
      have hcx := HXW.out.keeps.cell (HA.out k z hz) trivial
      have hcy := HXW.out.keeps.cell (HB.out k z hz) trivial
      have hi1 : (k : Int) < (n : Int) + 1 := by omega
      clear hz hkl
      go_wp2_with fail
      refine wp_region_still (by kernel_rfl) (by kernel_rfl) ?_
      iterate 9 still_step
      refine wpStill_nil ?_
      go_wp2_with fail
      go_roundw
      case rel => exact ⟨k + 1, by omega, by go_num, HXW.out.drew⟩
      case measure => simp [intOf]; omega
    · obtain rfl : k = n + 1 := by omega
      go_wp2_with fail
      refine (CL.out _).mono ?_
      rintro e w5 ⟨rfl, hx⟩
      have HX5 := Lib.hid ((HX4.out.trans HXW.out).trans hx); clear hx
      go_wp2_with fail
      go_ret
      exact ⟨rfl, HX5.out⟩
theorem sipSums_args (key s : ByteArray) (w : World) (_ : key.size ≤ maxLen) (_ : s.size ≤ maxLen) :
    Calls Try.prog 4 #[.string key, .string s] w fun e w' => e = .returned (.bool true) ∧ Ext w w' := by
  by_cases h1 : s.size ≤ 4096
  · exact sipSums_small key s w h1
  · by_cases h2 : s.size ≤ 65536
    · exact sipSums_mid key s w (by omega) h2
    · exact sipSums_long key s w (by omega)
end Go.Proofs.Ytolaiiiabacfcaa
