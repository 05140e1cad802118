/- What label's readByte does. Conditions: a text that is not empty, and that Go can hold. -/
import Derived.Test.YtmmjhdkoccpdjaaLabH
import Derived.StillTactics
namespace Go.Proofs.Ytmmjhdkoccpdjaa
open Go Go.RowKit Go.Shelf

theorem tup2 {a a' : Int} {b b' : Int} (ha : a = a') (hb : b = b') : Ending.returned (.tuple #[.int .u8 a, .int .i64 b]) = Ending.returned (.tuple #[.int .u8 a', .int .i64 b']) := by rw [ha, hb]

set_option maxRecDepth 100000 in
set_option maxHeartbeats 4000000 in
theorem readByte_any (s : ByteArray) (w : World) (hs : s.size ≤ maxLen) (h0 : 1 ≤ s.size) :
    Calls Try.prog 134 #[.string s] w fun e w' => e = .returned (.tuple #[.int .u8 (readR s).1.toNat, .int .i64 (readR s).2]) ∧ Ext w w' := by
  unfold maxLen at hs
  have h0' : 0 < s.size := h0
  obtain ⟨c0, hc0⟩ : ∃ c : Nat, s[0].toNat = c := ⟨_, rfl⟩
  have H0 : Hid (s[0]!.toNat = c0) := Lib.hid (by rw [getElem!_pos s 0 h0']; exact hc0)
  have h255 : c0 ≤ 255 := by have := s[0].toNat_lt; omega
  by_cases h92 : c0 = 92
  · have q92 : ((c0 : Int) != 92) = false := by rw [h92]; rfl
    have H92 := Lib.hid h92; clear h92
    by_cases h2 : 2 ≤ s.size
    · have h2' : 1 < s.size := h2
      obtain ⟨c1, hc1⟩ : ∃ c : Nat, s[1].toNat = c := ⟨_, rfl⟩
      have H1 : Hid (s[1]!.toNat = c1) := Lib.hid (by rw [getElem!_pos s 1 h2']; exact hc1)
      have h255' : c1 ≤ 255 := by have := s[1].toNat_lt; omega
      cases hd1 : digitB c1 with
      | false =>
        have Hr : Hid ((readR s).1.toNat = c1 ∧ (readR s).2 = 2) := Lib.hid (by
          rw [readR, if_neg (by rw [H0.out, H92.out]; simp), if_pos ⟨h2, by rw [H1.out]; exact hd1⟩]; exact ⟨H1.out, rfl⟩)
        go_enter Try.func134, Try.ntmps134
        go_wp2_with (go_at_call 138; refine (isDigit_any _ _ (by omega)).mono ?_; rintro e w' ⟨rfl, rfl⟩)
        go_ret2
        exact ⟨tup2 (by rw [Hr.out.1] <;> rfl) (by rw [Hr.out.2] <;> rfl), Ext.refl _⟩
      | true =>
        have Hn2 : Hid (¬ (2 ≤ s.size ∧ digitB s[1]!.toNat = false)) := Lib.hid (by rw [H1.out, hd1]; simp)
        by_cases h4 : 4 ≤ s.size
        · have h3' : 2 < s.size := by omega
          have h4' : 3 < s.size := by omega
          obtain ⟨c2, hc2⟩ : ∃ c : Nat, s[2].toNat = c := ⟨_, rfl⟩
          have H2 : Hid (s[2]!.toNat = c2) := Lib.hid (by rw [getElem!_pos s 2 h3']; exact hc2)
          have h2552 : c2 ≤ 255 := by have := s[2].toNat_lt; omega
          obtain ⟨c3, hc3⟩ : ∃ c : Nat, s[3].toNat = c := ⟨_, rfl⟩
          have H3 : Hid (s[3]!.toNat = c3) := Lib.hid (by rw [getElem!_pos s 3 h4']; exact hc3)
          have h2553 : c3 ≤ 255 := by have := s[3].toNat_lt; omega
          cases hd2 : digitB c2 with
          | false =>
            have Hr : Hid ((readR s).1.toNat = 0 ∧ (readR s).2 = 0) := Lib.hid (by
              rw [readR, if_neg (by rw [H0.out, H92.out]; simp), if_neg Hn2.out, if_neg (by rw [H2.out, hd2]; simp)]; exact ⟨rfl, rfl⟩)
            go_enter Try.func134, Try.ntmps134
            go_wp2_with (go_at_call 138; refine (isDigit_any _ _ (by omega)).mono ?_; rintro e w' ⟨rfl, rfl⟩)
            go_ret2
            exact ⟨tup2 (by rw [Hr.out.1] <;> rfl) (by rw [Hr.out.2] <;> rfl), Ext.refl _⟩
          | true =>
            cases hd3 : digitB c3 with
            | false =>
              have Hr : Hid ((readR s).1.toNat = 0 ∧ (readR s).2 = 0) := Lib.hid (by
                rw [readR, if_neg (by rw [H0.out, H92.out]; simp), if_neg Hn2.out, if_neg (by rw [H3.out, hd3]; simp)]; exact ⟨rfl, rfl⟩)
              go_enter Try.func134, Try.ntmps134
              go_wp2_with (go_at_call 138; refine (isDigit_any _ _ (by omega)).mono ?_; rintro e w' ⟨rfl, rfl⟩)
              go_ret2
              exact ⟨tup2 (by rw [Hr.out.1] <;> rfl) (by rw [Hr.out.2] <;> rfl), Ext.refl _⟩
            | true =>
              have b1 : 48 ≤ c1 ∧ c1 ≤ 57 := of_decide_eq_true hd1
              have b2 : 48 ≤ c2 ∧ c2 ≤ 57 := of_decide_eq_true hd2
              have b3 : 48 ≤ c3 ∧ c3 ≤ 57 := of_decide_eq_true hd3
              have hmx : Try.prog.follows .mixedOrders = true := by kernel_rfl
              have x1 : (1 : Int) < (s.size : Int) := by omega
              have x2 : (2 : Int) < (s.size : Int) := by omega
              have x3 : (3 : Int) < (s.size : Int) := by omega
              have q1 : IntKind.u8.wrap ((c1 : Int) - 48) = (c1 : Int) - 48 := IntWalk.u8_in _ (by omega)
              have q2 : IntKind.u8.wrap ((c2 : Int) - 48) = (c2 : Int) - 48 := IntWalk.u8_in _ (by omega)
              have q3 : IntKind.u8.wrap ((c3 : Int) - 48) = (c3 : Int) - 48 := IntWalk.u8_in _ (by omega)
              have q4 : IntKind.i64.wrap ((c1 : Int) - 48) = (c1 : Int) - 48 := IntWalk.i64_in _ (by omega)
              have q5 : IntKind.i64.wrap ((c2 : Int) - 48) = (c2 : Int) - 48 := IntWalk.i64_in _ (by omega)
              have q6 : IntKind.i64.wrap ((c3 : Int) - 48) = (c3 : Int) - 48 := IntWalk.i64_in _ (by omega)
              have q7 : IntKind.i64.wrap (100 * ((c1 : Int) - 48)) = 100 * ((c1 : Int) - 48) := IntWalk.i64_in _ (by omega)
              have q8 : IntKind.i64.wrap (10 * ((c2 : Int) - 48)) = 10 * ((c2 : Int) - 48) := IntWalk.i64_in _ (by omega)
              have q9 : IntKind.i64.wrap (100 * ((c1 : Int) - 48) + 10 * ((c2 : Int) - 48)) = 100 * ((c1 : Int) - 48) + 10 * ((c2 : Int) - 48) := IntWalk.i64_in _ (by omega)
              obtain ⟨v, hv⟩ : ∃ v : Nat, decV c1 c2 c3 = v := ⟨_, rfl⟩
              have hvi : (v : Int) = 100 * ((c1 : Int) - 48) + 10 * ((c2 : Int) - 48) + ((c3 : Int) - 48) := by rw [← hv]; unfold decV; omega
              have Hv := Lib.hid hv; clear hv
              have hv999 : v ≤ 999 := by clear q1 q2 q3 q4 q5 q6 q7 q8 q9; omega
              have Hvi := Lib.hid hvi; clear hvi
              by_cases hle : v ≤ 255
              · have Hr : Hid ((readR s).1.toNat = v ∧ (readR s).2 = 4) := Lib.hid (by
                  rw [readR, if_neg (by rw [H0.out, H92.out]; simp), if_neg Hn2.out, if_pos ⟨h4, by rw [H1.out]; exact hd1, by rw [H2.out]; exact hd2, by rw [H3.out]; exact hd3, by rw [H1.out, H2.out, H3.out, Hv.out]; exact hle⟩, H1.out, H2.out, H3.out, Hv.out]
                  exact ⟨by simp; omega, rfl⟩)
                go_enter Try.func134, Try.ntmps134
                go_wp2_with (go_at_call 138; refine (isDigit_any _ _ (by omega)).mono ?_; rintro e w' ⟨rfl, rfl⟩)
                go_still hmx
                rw [show IntKind.i64.wrap (100 * ((c1 : Int) - 48) + 10 * ((c2 : Int) - 48) + ((c3 : Int) - 48)) = (v : Int) from by rw [← Hvi.out]; exact IntWalk.i64_in _ (by omega)]
                change Exit.then _ _ Exit.normal _ w.drew
                clear q1 q2 q3 q4 q5 q6 q7 q8 q9 x1 x2 x3 hc0 hc1 hc2 hc3
                go_wp2
                go_ret2
                exact ⟨tup2 (by rw [Hr.out.1] <;> rfl) (by rw [Hr.out.2] <;> rfl), (Ext.refl _).drew⟩
              · have Hr : Hid ((readR s).1.toNat = 0 ∧ (readR s).2 = 0) := Lib.hid (by
                  rw [readR, if_neg (by rw [H0.out, H92.out]; simp), if_neg Hn2.out, if_neg (by rw [H1.out, H2.out, H3.out, Hv.out]; intro h; exact hle h.2.2.2.2)]; exact ⟨rfl, rfl⟩)
                go_enter Try.func134, Try.ntmps134
                go_wp2_with (go_at_call 138; refine (isDigit_any _ _ (by omega)).mono ?_; rintro e w' ⟨rfl, rfl⟩)
                go_still hmx
                rw [show IntKind.i64.wrap (100 * ((c1 : Int) - 48) + 10 * ((c2 : Int) - 48) + ((c3 : Int) - 48)) = (v : Int) from by rw [← Hvi.out]; exact IntWalk.i64_in _ (by omega)]
                change Exit.then _ _ Exit.normal _ w.drew
                clear q1 q2 q3 q4 q5 q6 q7 q8 q9 x1 x2 x3 hc0 hc1 hc2 hc3
                go_wp2
                go_ret2
                exact ⟨tup2 (by rw [Hr.out.1] <;> rfl) (by rw [Hr.out.2] <;> rfl), (Ext.refl _).drew⟩
        · have Hr : Hid ((readR s).1.toNat = 0 ∧ (readR s).2 = 0) := Lib.hid (by
            rw [readR, if_neg (by rw [H0.out, H92.out]; simp), if_neg Hn2.out, if_neg (fun h => h4 h.1)]; exact ⟨rfl, rfl⟩)
          go_enter Try.func134, Try.ntmps134
          go_wp2_with (go_at_call 138; refine (isDigit_any _ _ (by omega)).mono ?_; rintro e w' ⟨rfl, rfl⟩)
          go_ret2
          exact ⟨tup2 (by rw [Hr.out.1] <;> rfl) (by rw [Hr.out.2] <;> rfl), Ext.refl _⟩
    · have Hr : Hid ((readR s).1.toNat = 0 ∧ (readR s).2 = 0) := Lib.hid (by
        rw [readR, if_neg (by rw [H0.out, H92.out]; simp), if_neg (fun h => h2 h.1), if_neg (fun h => h2 (by omega))]; exact ⟨rfl, rfl⟩)
      go_enter Try.func134, Try.ntmps134
      go_wp2
      go_ret2
      exact ⟨tup2 (by rw [Hr.out.1] <;> rfl) (by rw [Hr.out.2] <;> rfl), Ext.refl _⟩
  · have q92 : ((c0 : Int) != 92) = true := by rw [bne_iff_ne]; omega
    cases hp : plainB c0 with
    | true =>
      have Hr : Hid ((readR s).1.toNat = c0 ∧ (readR s).2 = 1) := Lib.hid (by
        rw [readR, if_pos (by rw [H0.out]; exact h92), if_pos (by rw [H0.out]; exact hp)]; exact ⟨H0.out, rfl⟩)
      clear h92
      go_enter Try.func134, Try.ntmps134
      go_wp2_with (go_at_call 128; refine (isPlain_any _ _ (by omega)).mono ?_; rintro e w' ⟨rfl, rfl⟩)
      go_ret2
      exact ⟨tup2 (by rw [Hr.out.1] <;> rfl) (by rw [Hr.out.2] <;> rfl), Ext.refl _⟩
    | false =>
      have Hr : Hid ((readR s).1.toNat = 0 ∧ (readR s).2 = 0) := Lib.hid (by
        rw [readR, if_pos (by rw [H0.out]; exact h92), if_neg (by rw [H0.out, hp]; simp)]; exact ⟨rfl, rfl⟩)
      clear h92
      go_enter Try.func134, Try.ntmps134
      go_wp2_with (go_at_call 128; refine (isPlain_any _ _ (by omega)).mono ?_; rintro e w' ⟨rfl, rfl⟩)
      go_ret2
      exact ⟨tup2 (by rw [Hr.out.1] <;> rfl) (by rw [Hr.out.2] <;> rfl), Ext.refl _⟩

end Go.Proofs.Ytmmjhdkoccpdjaa
