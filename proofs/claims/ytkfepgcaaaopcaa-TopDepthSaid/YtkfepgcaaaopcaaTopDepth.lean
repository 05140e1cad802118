/- hardtacktop.TopDepth answers true for every string and two numbers, and leaves what lay as it lay. Conditions: none beyond the form's own. -/
import Derived.Test.YtkfepgcaaaopcaaWalkB
namespace Go.Proofs.Ytkfepgcaaaopcaa
open Go Go.RowKit Go.Shelf

def nB : ByteArray := ⟨#[1, 97, 3, 111, 114, 103, 0]⟩
set_option maxHeartbeats 1000000 in
theorem begins_any (w : World) : Calls Try.prog 33 #[] w fun e w' => e = .returned (.bool true) ∧ Ext w w' := by
  have h2 : (labelsB ⟨#[1, 97, 3, 111, 114, 103, 0]⟩).length = 2 := by decide +kernel
  have CC := Lib.hid fun W => h2 ▸ Count_any ⟨#[1, 97, 3, 111, 114, 103, 0]⟩ W (by decide)
  clear h2
  go_enter Try.func33, Try.ntmps33
  go_wp2_with fail
  refine (CC.out _).mono ?_
  rintro e w' ⟨rfl, hx⟩
  have HX := Lib.hid hx; clear hx
  go_wp2
  go_ret
  exact ⟨rfl, HX.out⟩

set_option maxRecDepth 100000 in
set_option maxHeartbeats 8000000 in
theorem topDepth_walk (a : ByteArray) (i j : Int) (w : World) (ha : a.size ≤ maxLen) (hi : (Lit.int .u8 i).wf = true) (hj : (Lit.int .u8 j).wf = true) :
    Calls Try.prog 9 #[.string a, .int .u8 i, .int .u8 j] w fun e w' => e = .returned (.bool true) ∧ Ext w w' := by
  have CL := Lib.hid fun W => begins_any W
  have CA := Lib.hid fun W => Check_any a W ha
  have HX := Lib.hid (Ext.refl w)
  cases hna : isName a with
  | false =>
    have CD := Lib.hid fun W => (depth_self_none hna) ▸ Depth_any a a W ha ha
    rw [chk_none hna] at CA
    clear hna hi hj
    go_enter Try.func9, Try.ntmps9
    go_wp2_with (first
      | ((with_reducible refine (CL.out _).mono ?_); rintro e w' ⟨rfl, hx⟩; have HX := Lib.hid (HX.out.trans hx); clear hx)
      | ((with_reducible refine (CA.out _).mono ?_); rintro e w' ⟨rfl, hx⟩; have HX := Lib.hid (HX.out.trans hx); clear hx)
      | ((with_reducible refine (CD.out _).mono ?_); rintro e w' ⟨rfl, hx⟩; have HX := Lib.hid (HX.out.trans hx); clear hx))
    go_ret
    exact ⟨rfl, HX.out⟩
  | true =>
    obtain ⟨ls, hr⟩ := rep_of_name hna
    rw [chk_name hna] at CA
    have hi' : 0 ≤ i ∧ i ≤ 255 := by simpa [Lit.wf, IntKind.min, IntKind.max, IntKind.signed, IntKind.bits] using hi
    have hj' : 0 ≤ j ∧ j ≤ 255 := by simpa [Lit.wf, IntKind.min, IntKind.max, IntKind.signed, IntKind.bits] using hj
    obtain ⟨i0, rfl⟩ := Int.eq_ofNat_of_zero_le hi'.1
    obtain ⟨j0, rfl⟩ := Int.eq_ofNat_of_zero_le hj'.1
    obtain ⟨n, hn⟩ : ∃ n, ls.length = n := ⟨_, rfl⟩
    have hn255 : n ≤ 255 := by
      have h1 := labelsB_length a
      rw [hr.count, hn] at h1
      have h2 := hr.len
      omega
    have CN : Hid (∀ W, Calls Try.prog 12 #[.string a] W fun e w' => e = .returned (.int .i64 (n : Int)) ∧ Ext W w') := Lib.hid fun W => by
      have h1 := Count_any a W ha
      rw [hr.count, hn] at h1
      exact h1
    have hmx : Try.prog.follows .mixedOrders = true := by kernel_rfl
    have q1 : IntKind.i64.wrap ((n : Int) + 1) = (n : Int) + 1 := IntWalk.i64_in _ (by omega)
    have q2 : IntKind.i64.wrap (i0 : Int) = (i0 : Int) := IntWalk.i64_in _ (by omega)
    have q3 : IntKind.i64.wrap (j0 : Int) = (j0 : Int) := IntWalk.i64_in _ (by omega)
    have q4 : (((n : Int) + 1) = 0) = False := eq_false (by omega)
    have q5 : (i0 : Int).tmod ((n : Int) + 1) = ((i0 % (n + 1) : Nat) : Int) := by
      rw [IntWalk.rem_in _ _ (by omega)]; simp
    have q6 : (j0 : Int).tmod ((n : Int) + 1) = ((j0 % (n + 1) : Nat) : Int) := by
      rw [IntWalk.rem_in _ _ (by omega)]; simp
    clear hi hj
    have Hr := Lib.hid hr; clear hr
    have Hn := Lib.hid hn; clear hn hna
    go_enter Try.func9, Try.ntmps9
    go_wp2_with (first
      | ((with_reducible refine (CL.out _).mono ?_); rintro e w' ⟨rfl, hx⟩; have HX := Lib.hid (HX.out.trans hx); clear hx)
      | ((with_reducible refine (CA.out _).mono ?_); rintro e w' ⟨rfl, hx⟩; have HX := Lib.hid (HX.out.trans hx); clear hx)
      | ((with_reducible refine (CN.out _).mono ?_); rintro e w' ⟨rfl, hx⟩; have HX := Lib.hid (HX.out.trans hx); clear hx))
    refine wp_region_still hmx (by kernel_rfl) ?_
    repeat still_step
    refine wpStill_nil ?_
    obtain ⟨x0, hx0⟩ : ∃ x0 : Nat, (i0 : Int) % ((n : Int) + 1) = (x0 : Int) := ⟨i0 % (n + 1), by simp⟩
    obtain ⟨y0, hy0⟩ : ∃ y0 : Nat, (j0 : Int) % ((n : Int) + 1) = (y0 : Int) := ⟨j0 % (n + 1), by simp⟩
    have hxn : x0 ≤ n := by have := Int.emod_lt_of_pos (i0 : Int) (show (0 : Int) < (n : Int) + 1 by omega); omega
    have hyn : y0 ≤ n := by have := Int.emod_lt_of_pos (j0 : Int) (show (0 : Int) < (n : Int) + 1 by omega); omega
    rw [hx0, hy0]
    clear hx0 hy0 q1 q2 q3 q4 q5 q6 hi' hj'
    obtain ⟨x, hx⟩ : ∃ x : Nat, min (x0 : Int) (y0 : Int) = (x : Int) := ⟨min x0 y0, by omega⟩
    obtain ⟨y, hy⟩ : ∃ y : Nat, max (x0 : Int) (y0 : Int) = (y : Int) := ⟨max x0 y0, by omega⟩
    have hxy : x ≤ y := by omega
    have hyn' : y ≤ n := by omega
    go_wp2_with fail
    clear hx hy hxn hyn
    go_loopw [47, 10, 11] (fun v47 v10 v11 wr => ∃ k : Nat, v47 = .int .i64 (k : Int) ∧ k ≤ y ∧ v10 = .string (upN (min k x) a) ∧ v11 = .string (upN k a) ∧ Ext w wr)
      (fun v47 _ _ _ => match v47 with | .int _ k => (y - k).toNat | _ => 0)
    case atStart => exact ⟨0, rfl, by omega, by rw [Nat.zero_min]; rfl, rfl, HX.out.drew⟩
    case round =>
      obtain ⟨k, rfl, hk, rfl, rfl, hx⟩ := hrel
      clear HX
      have HX := Lib.hid hx; clear hx
      by_cases hky : k = y
      · subst hky
        have hlt : decide ((k : Int) < (k : Int)) = false := by simp
        rw [Nat.min_eq_right hxy]
        have dc : depthB a (upN k a) = (k : Int) := by
          have := depth_up Hr.out 0 k (by omega) (by rw [Hn.out]; exact hyn')
          simpa [upN] using this
        have db : depthB a (upN x a) = (x : Int) := by
          have := depth_up Hr.out 0 x (by omega) (by rw [Hn.out]; omega)
          simpa [upN] using this
        have dbc : depthB (upN x a) (upN k a) = (k : Int) - (x : Int) := depth_up Hr.out x k hxy (by rw [Hn.out]; exact hyn')
        have sc := upN_size a k
        have sb := upN_size a x
        have DC := Lib.hid fun W => dc ▸ Depth_any a (upN k a) W ha (by omega)
        have DB := Lib.hid fun W => db ▸ Depth_any a (upN x a) W ha (by omega)
        have DBC := Lib.hid fun W => dbc ▸ Depth_any (upN x a) (upN k a) W (by omega) (by omega)
        clear dc db dbc
        rcases Nat.eq_zero_or_pos k with hk0 | hkp
        · subst hk0
          have hn1 : (nextR a a).2 = 3 := next_root Hr.out
          obtain ⟨d, hd⟩ : ∃ d, nextR a a = (d, 3) := ⟨_, by rw [← hn1]⟩
          have NX := Lib.hid fun W => hd ▸ Next_any a a W ha ha
          obtain rfl : x = 0 := by omega
          clear hn1 hd sc sb CN CA CL
          simp only [upN] at DC DB DBC ⊢
          have q7 : IntKind.i64.wrap (((0 : Nat) : Int) - ((0 : Nat) : Int)) = 0 := by decide
          go_wp2_with (first
            | ((with_reducible refine (DC.out _).mono ?_); rintro e w' ⟨rfl, hx⟩; have HX := Lib.hid (HX.out.trans hx); clear hx)
            | ((with_reducible refine (NX.out _).mono ?_); rintro e w' ⟨rfl, hx⟩; have HX := Lib.hid (HX.out.trans hx); clear hx))
          go_ret
          exact ⟨rfl, HX.out⟩
        · have hz : decide ((0 : Int) < (k : Int)) = true := by simp; omega
          have hz2 : decide ((k : Int) > (0 : Int)) = true := hz
          obtain ⟨hn1, hn2, hn3⟩ := next_up Hr.out k hkp (by rw [Hn.out]; exact hyn')
          obtain ⟨d, hd⟩ : ∃ d, nextR (upN k a) a = (d, 0) := ⟨_, by rw [← hn1]⟩
          rw [hd] at hn2 hn3
          simp only at hn2 hn3
          have sd : d.size ≤ maxLen := by
            cases hdn : isName d with
            | false => rw [within_none (.inr hdn)] at hn3; cases hn3
            | true =>
              obtain ⟨_, h2⟩ := rep_of_name hdn
              have h2 := h2.len
              unfold maxLen; omega
          have NX := Lib.hid fun W => hd ▸ Next_any (upN k a) a W (by omega) ha
          have DD := Lib.hid fun W => hn2 ▸ Depth_any d (upN k a) W sd (by omega)
          have WD := Lib.hid fun W => hn3 ▸ Within_any a d W ha sd
          have q7 : IntKind.i64.wrap ((k : Int) - (x : Int)) = (k : Int) - (x : Int) := IntWalk.i64_in _ (by omega)
          clear hn1 hn2 hn3 hd sc sb CN CA CL
          go_wp2_with (first
            | ((with_reducible refine (DC.out _).mono ?_); rintro e w' ⟨rfl, hx⟩; have HX := Lib.hid (HX.out.trans hx); clear hx)
            | ((with_reducible refine (DB.out _).mono ?_); rintro e w' ⟨rfl, hx⟩; have HX := Lib.hid (HX.out.trans hx); clear hx)
            | ((with_reducible refine (DBC.out _).mono ?_); rintro e w' ⟨rfl, hx⟩; have HX := Lib.hid (HX.out.trans hx); clear hx)
            | ((with_reducible refine (DD.out _).mono ?_); rintro e w' ⟨rfl, hx⟩; have HX := Lib.hid (HX.out.trans hx); clear hx)
            | ((with_reducible refine (WD.out _).mono ?_); rintro e w' ⟨rfl, hx⟩; have HX := Lib.hid (HX.out.trans hx); clear hx)
            | ((with_reducible refine (NX.out _).mono ?_); rintro e w' ⟨rfl, hx⟩; have HX := Lib.hid (HX.out.trans hx); clear hx))
          go_ret
          exact ⟨rfl, HX.out⟩
      · have hlt : decide ((k : Int) < (y : Int)) = true := by simp; omega
        have sk := upN_size a k
        have hp := upN_ok Hr.out k (by rw [Hn.out]; omega)
        obtain ⟨p, hpp⟩ : ∃ p, parentR (upN k a) = (p, 0) := ⟨_, by rw [← hp]⟩
        have PA := Lib.hid fun W => hpp ▸ Parent_any (upN k a) W (by omega)
        have hp1 : upN (k + 1) a = p := by show (parentR (upN k a)).1 = p; rw [hpp]
        have q1 : IntKind.i64.wrap ((k : Int) + 1) = ((k + 1 : Nat) : Int) := by rw [IntWalk.i64_in _ (by omega)]; rfl
        clear hpp hp CN CA CL
        by_cases hkx : k < x
        · have hkx' : decide ((k : Int) < (x : Int)) = true := by simp; omega
          go_wp2_with (first
            | ((with_reducible refine (PA.out _).mono ?_); rintro e w' ⟨rfl, hx⟩; have HX := Lib.hid (HX.out.trans hx); clear hx))
          go_roundw
          case rel => exact ⟨k + 1, rfl, by omega, by rw [Nat.min_eq_left (by omega), hp1], by rw [hp1], HX.out⟩
          case measure => show ((y : Int) - ((k : Int) + 1)).toNat < ((y : Int) - (k : Int)).toNat; omega
        · have hkx' : decide ((k : Int) < (x : Int)) = false := by simp; omega
          go_wp2_with (first
            | ((with_reducible refine (PA.out _).mono ?_); rintro e w' ⟨rfl, hx⟩; have HX := Lib.hid (HX.out.trans hx); clear hx))
          go_roundw
          case rel => exact ⟨k + 1, rfl, by omega, by rw [Nat.min_eq_right (by omega), Nat.min_eq_right (by omega)], by rw [hp1], HX.out⟩
          case measure => show ((y : Int) - ((k : Int) + 1)).toNat < ((y : Int) - (k : Int)).toNat; omega

end Go.Proofs.Ytkfepgcaaaopcaa
