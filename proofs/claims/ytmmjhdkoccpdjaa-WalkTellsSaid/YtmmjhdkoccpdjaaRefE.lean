/- What hardtackref02's Less does. Conditions: strings that Go can hold. -/
import Derived.Test.YtmmjhdkoccpdjaaRefD
import Derived.StillTactics
import Derived.IntWalk
namespace Go.Proofs.Ytmmjhdkoccpdjaa
open Go Go.RowKit Go.Shelf
attribute [local go_sem] Oper.semAt_some wide_fn wide_depth

theorem cmpL_go : ∀ (k : Nat) (xs ys : List ByteArray), k ≤ xs.length → k ≤ ys.length → xs.take k = ys.take k → cmpL xs ys = cmpL (xs.drop k) (ys.drop k)
  | 0, _, _, _, _, _ => rfl
  | k + 1, [], _, h, _, _ => by simp at h
  | k + 1, _ :: _, [], _, h, _ => by simp at h
  | k + 1, x :: xs, y :: ys, h1, h2, h => by
    simp only [List.take_succ_cons, List.cons.injEq] at h
    obtain ⟨rfl, h⟩ := h
    have h0 : cmpS x x = 0 := by
      rcases cmpS_cases x x with ⟨h, _⟩ | ⟨_, h⟩ | ⟨_, h, _⟩
      · rw [bless_irrefl] at h; cases h
      · exact h
      · exact absurd rfl h
    rw [cmpL, if_pos h0, List.drop_succ_cons, List.drop_succ_cons]
    exact cmpL_go k xs ys (by simpa using h1) (by simpa using h2) h
theorem cmpL_at {xs ys : List ByteArray} {k : Nat} {p q : ByteArray} (h : xs.take k = ys.take k) (hx : xs[k]? = some p) (hy : ys[k]? = some q) :
    (p ≠ q → decide (cmpL xs ys < 0) = Op.bytesLess p.toList q.toList) ∧ (p = q → xs.take (k + 1) = ys.take (k + 1)) := by
  obtain ⟨h1, e1⟩ := List.getElem?_eq_some_iff.1 hx
  obtain ⟨h2, e2⟩ := List.getElem?_eq_some_iff.1 hy
  constructor
  · intro hne
    rw [cmpL_go k xs ys (by omega) (by omega) h, List.drop_eq_getElem_cons h1, List.drop_eq_getElem_cons h2, e1, e2, cmpL]
    rcases cmpS_cases p q with ⟨h3, h4⟩ | ⟨h3, _⟩ | ⟨h3, h5, h4⟩
    · rw [h4, h3]; rfl
    · exact absurd h3 hne
    · rw [h4]
      have : Op.bytesLess p.toList q.toList = false := by
        cases h : Op.bytesLess p.toList q.toList with
        | false => rfl
        | true => have := bless_trans _ _ _ h h3; rw [bless_irrefl] at this; cases this
      rw [this]; rfl
  · rintro rfl
    rw [List.take_succ_eq_append_getElem h1, List.take_succ_eq_append_getElem h2, h, e1, e2]
theorem cmpL_end {xs ys : List ByteArray} {k : Nat} (h : xs.take k = ys.take k) (h1 : k ≤ xs.length) (h2 : k ≤ ys.length) (h3 : k = xs.length ∨ k = ys.length) :
    decide (cmpL xs ys < 0) = decide (xs.length < ys.length) := by
  rw [cmpL_go k xs ys h1 h2 h]
  rcases Nat.lt_or_ge k xs.length with h4 | h4
  · obtain rfl : k = ys.length := by omega
    rw [List.drop_eq_getElem_cons h4, List.drop_length, cmpL]
    have : ¬ xs.length < ys.length := by omega
    simp [this]
  · obtain rfl : k = xs.length := by omega
    rcases Nat.lt_or_ge xs.length ys.length with h5 | h5
    · rw [List.drop_eq_getElem_cons h5, List.drop_length, cmpL]; simp [h5]
    · have h6 : xs.length = ys.length := by omega
      rw [List.drop_length, h6, List.drop_length, cmpL]; simp

theorem StrsC.cell {W : World} {b off n cap : Nat} {ss : List ByteArray} (h : StrsC W (.slice (some ⟨b, off, none⟩) n cap) ss) {j : Nat} {p : ByteArray} (hj : ss[j]? = some p) : W.cell? ⟨b, off + j, none⟩ = some (.string p) := by
  obtain ⟨b', off1, cap', e, _, _, hc⟩ := h
  simp only [Value.slice.injEq, Option.some.injEq, Addr.mk.injEq, and_true] at e
  obtain ⟨⟨rfl, rfl⟩, _⟩ := e
  obtain ⟨h1, h2⟩ := List.getElem?_eq_some_iff.1 hj
  rw [hc j h1, hj]; rfl

set_option maxRecDepth 100000 in
set_option maxHeartbeats 4000000 in
theorem RLess_any (a b : ByteArray) (w : World) (ha : a.size ≤ maxLen) (hb : b.size ≤ maxLen) :
    Calls Try.prog 28 #[.string a, .string b] w fun e w' => e = .returned (.bool (lessB a b)) ∧ Ext w w' := by
  have CA := Lib.hid fun W => RCheck_any a W ha
  have CB := Lib.hid fun W => RCheck_any b W hb
  have FA := Lib.hid fun W => RFold_any a W ha
  have FB := Lib.hid fun W => RFold_any b W hb
  have SA := Lib.hid fun W => RSplit_any (foldS a) W (by rw [size_foldS]; exact ha)
  have SB := Lib.hid fun W => RSplit_any (foldS b) W (by rw [size_foldS]; exact hb)
  have HX := Lib.hid (Ext.refl w)
  have hlab : ∀ {s : ByteArray}, isName s = true → isName (foldS s) = true := fun h => by
    obtain ⟨ls, hr⟩ := rep_of_name h
    exact hr.fold.name
  have hles : lessB a b = (isName a && isName b && decide (cmpL (placeB a) (placeB b) < 0)) := rfl
  have Hles := Lib.hid hles; clear hles
  cases hfa : isName (foldS a) with
  | false =>
    have hl : lessB a b = false := by
      cases hna : isName a with
      | true => rw [hlab hna] at hfa; cases hfa
      | false => rw [Hles.out, hna]; rfl
    rw [hl]
    clear hl hlab
    have Hfa := Lib.hid hfa; clear hfa
    cases hfb : isName (foldS b)
    all_goals
      have Hfb := Lib.hid hfb; clear hfb
      go_enter Try.func28, Try.ntmps28
      go_wp2_with fail
      refine (FA.out _).mono ?_
      rintro e w1 ⟨rfl, hx⟩
      have HX := Lib.hid (HX.out.trans hx); clear hx
      go_wp2_with fail
      refine (SA.out _).mono ?_
      rintro e w2 ⟨v, rfl, hv, hx⟩
      rw [Hfa.out]
      clear hv
      have HX := Lib.hid (HX.out.trans hx); clear hx
      go_wp2_with fail
      refine (FB.out _).mono ?_
      rintro e w3 ⟨rfl, hx⟩
      have HX := Lib.hid (HX.out.trans hx); clear hx
      go_wp2_with fail
      refine (SB.out _).mono ?_
      rintro e w4 ⟨u, rfl, hu, hx⟩
      rw [Hfb.out]
      clear hu
      have HX := Lib.hid (HX.out.trans hx); clear hx
      go_wp2
      go_ret
      exact ⟨rfl, HX.out⟩
  | true =>
    cases hfb : isName (foldS b) with
    | false =>
      have hl : lessB a b = false := by
        cases hnb : isName b with
        | true => rw [hlab hnb] at hfb; cases hfb
        | false => rw [Hles.out, hnb, Bool.and_false]; rfl
      rw [hl]
      clear hl hlab
      have Hfa := Lib.hid hfa; clear hfa
      have Hfb := Lib.hid hfb; clear hfb
      go_enter Try.func28, Try.ntmps28
      go_wp2_with fail
      refine (FA.out _).mono ?_
      rintro e w1 ⟨rfl, hx⟩
      have HX := Lib.hid (HX.out.trans hx); clear hx
      go_wp2_with fail
      refine (SA.out _).mono ?_
      rintro e w2 ⟨v, rfl, hv, hx⟩
      rw [Hfa.out]
      clear hv
      have HX := Lib.hid (HX.out.trans hx); clear hx
      go_wp2_with fail
      refine (FB.out _).mono ?_
      rintro e w3 ⟨rfl, hx⟩
      have HX := Lib.hid (HX.out.trans hx); clear hx
      go_wp2_with fail
      refine (SB.out _).mono ?_
      rintro e w4 ⟨u, rfl, hu, hx⟩
      rw [Hfb.out]
      clear hu
      have HX := Lib.hid (HX.out.trans hx); clear hx
      go_wp2
      go_ret
      exact ⟨rfl, HX.out⟩
    | true =>
      clear hlab
      have hma := labn hfa
      have hmb := labn hfb
      have Hfa := Lib.hid hfa; clear hfa
      have Hfb := Lib.hid hfb; clear hfb
      obtain ⟨m, hm⟩ : ∃ m, (labelsB (foldS a)).length = m := ⟨_, rfl⟩
      obtain ⟨n, hn⟩ : ∃ n, (labelsB (foldS b)).length = n := ⟨_, rfl⟩
      rw [hm] at hma
      rw [hn] at hmb
      have hpa : ∀ i, i < m → ∃ p, (placeB a)[i]? = some p ∧ (labelsB (foldS a))[m - (i + 1)]? = some p := fun i hi => by
        have h1 : m - (i + 1) < (labelsB (foldS a)).length := by omega
        refine ⟨(labelsB (foldS a))[m - (i + 1)], ?_, List.getElem?_eq_getElem h1⟩
        rw [placeB, List.getElem?_reverse (by omega), hm, show m - 1 - i = m - (i + 1) by omega]
        exact List.getElem?_eq_getElem h1
      have hpb : ∀ i, i < n → ∃ p, (placeB b)[i]? = some p ∧ (labelsB (foldS b))[n - (i + 1)]? = some p := fun i hi => by
        have h1 : n - (i + 1) < (labelsB (foldS b)).length := by omega
        refine ⟨(labelsB (foldS b))[n - (i + 1)], ?_, List.getElem?_eq_getElem h1⟩
        rw [placeB, List.getElem?_reverse (by omega), hn, show n - 1 - i = n - (i + 1) by omega]
        exact List.getElem?_eq_getElem h1
      have hpl : (placeB a).length = m := by rw [placeB, List.length_reverse, hm]
      have hql : (placeB b).length = n := by rw [placeB, List.length_reverse, hn]
      have Hpa := Lib.hid hpa; clear hpa
      have Hpb := Lib.hid hpb; clear hpb
      have Hpl := Lib.hid hpl; clear hpl
      have Hql := Lib.hid hql; clear hql
      have Hm := Lib.hid hm; clear hm
      have Hn := Lib.hid hn; clear hn
      have hmx : Try.prog.follows .mixedOrders = true := by kernel_rfl
      cases hna : isName a with
      | false =>
        rw [chk_none hna] at CA
        rw [hna] at Hles
        clear hna
        go_enter Try.func28, Try.ntmps28
        go_wp2_with fail
        refine (FA.out _).mono ?_
        rintro e w1 ⟨rfl, hx⟩
        have HX := Lib.hid (HX.out.trans hx); clear hx
        go_wp2_with fail
        refine (SA.out _).mono ?_
        rintro e w2 ⟨v, rfl, hv, hx⟩
        rw [Hfa.out]
        clear hv
        have HX := Lib.hid (HX.out.trans hx); clear hx
        go_wp2_with fail
        refine (FB.out _).mono ?_
        rintro e w3 ⟨rfl, hx⟩
        have HX := Lib.hid (HX.out.trans hx); clear hx
        go_wp2_with fail
        refine (SB.out _).mono ?_
        rintro e w4 ⟨u, rfl, hu, hx⟩
        rw [Hfb.out]
        clear hu
        have HX := Lib.hid (HX.out.trans hx); clear hx
        go_wp2_with fail
        refine (CA.out _).mono ?_
        rintro e w5 ⟨rfl, hx⟩
        have HX := Lib.hid (HX.out.trans hx); clear hx
        go_wp2
        go_ret
        exact ⟨by rw [Hles.out]; rfl, HX.out⟩
      | true =>
        rw [chk_name hna] at CA
        rw [hna] at Hles
        clear hna
        cases hnb : isName b with
        | false =>
          rw [chk_none hnb] at CB
          rw [hnb] at Hles
          clear hnb
          go_enter Try.func28, Try.ntmps28
          go_wp2_with fail
          refine (FA.out _).mono ?_
          rintro e w1 ⟨rfl, hx⟩
          have HX := Lib.hid (HX.out.trans hx); clear hx
          go_wp2_with fail
          refine (SA.out _).mono ?_
          rintro e w2 ⟨v, rfl, hv, hx⟩
          rw [Hfa.out]
          clear hv
          have HX := Lib.hid (HX.out.trans hx); clear hx
          go_wp2_with fail
          refine (FB.out _).mono ?_
          rintro e w3 ⟨rfl, hx⟩
          have HX := Lib.hid (HX.out.trans hx); clear hx
          go_wp2_with fail
          refine (SB.out _).mono ?_
          rintro e w4 ⟨u, rfl, hu, hx⟩
          rw [Hfb.out]
          clear hu
          have HX := Lib.hid (HX.out.trans hx); clear hx
          go_wp2_with fail
          refine (CA.out _).mono ?_
          rintro e w5 ⟨rfl, hx⟩
          have HX := Lib.hid (HX.out.trans hx); clear hx
          go_wp2_with fail
          refine (CB.out _).mono ?_
          rintro e w6 ⟨rfl, hx⟩
          have HX := Lib.hid (HX.out.trans hx); clear hx
          go_wp2
          go_ret
          exact ⟨by rw [Hles.out]; rfl, HX.out⟩
        | true =>
          rw [chk_name hnb] at CB
          rw [hnb] at Hles
          clear hnb
          go_enter Try.func28, Try.ntmps28
          go_wp2_with fail
          refine (FA.out _).mono ?_
          rintro e w1 ⟨rfl, hx⟩
          have HX := Lib.hid (HX.out.trans hx); clear hx
          go_wp2_with fail
          refine (SA.out _).mono ?_
          rintro e w2 ⟨v, rfl, hv, hx⟩
          rw [Hfa.out]
          have HV := Lib.hid (hv Hfa.out); clear hv
          obtain ⟨b1, o1, c1, rfl, hc1, hc2, _⟩ := HV.out
          rw [Hm.out] at HV hc1 ⊢
          have HX := Lib.hid (HX.out.trans hx); clear hx
          go_wp2_with fail
          refine (FB.out _).mono ?_
          rintro e w3 ⟨rfl, hx⟩
          have HV := Lib.hid (HV.out.ext hx)
          have HX := Lib.hid (HX.out.trans hx); clear hx
          go_wp2_with fail
          refine (SB.out _).mono ?_
          rintro e w4 ⟨u, rfl, hu, hx⟩
          rw [Hfb.out]
          have HU := Lib.hid (hu Hfb.out); clear hu
          obtain ⟨b2, o2, c2, rfl, hd1, hd2, _⟩ := HU.out
          rw [Hn.out] at HU hd1 ⊢
          have HV := Lib.hid (HV.out.ext hx)
          have HX := Lib.hid (HX.out.trans hx); clear hx
          go_wp2_with fail
          refine (CA.out _).mono ?_
          rintro e w5 ⟨rfl, hx⟩
          have HV := Lib.hid (HV.out.ext hx)
          have HU := Lib.hid (HU.out.ext hx)
          have HX := Lib.hid (HX.out.trans hx); clear hx
          go_wp2_with fail
          refine (CB.out _).mono ?_
          rintro e w6 ⟨rfl, hx⟩
          have HV := Lib.hid (HV.out.ext hx)
          have HU := Lib.hid (HU.out.ext hx)
          have HX := Lib.hid (HX.out.trans hx); clear hx
          go_wp2_with fail
          go_loopw [9] (fun i wr => ∃ k : Nat, 1 ≤ k ∧ k ≤ m + 1 ∧ k ≤ n + 1 ∧ i = .int .i64 k ∧ (placeB a).take (k - 1) = (placeB b).take (k - 1) ∧ Ext w6 wr)
            (fun i _ => m + 1 - (intOf i).toNat)
          case atStart => exact ⟨1, Nat.le_refl _, by omega, by omega, rfl, rfl, Ext.refl _⟩
          case round =>
            obtain ⟨k, hk0, hk1, hk2, rfl, heq, hx⟩ := hrel
            have HVr := Lib.hid (HV.out.ext hx)
            have HUr := Lib.hid (HU.out.ext hx)
            have HXr := Lib.hid (HX.out.trans hx)
            have Hx := Lib.hid hx; clear hx
            have Heq := Lib.hid heq; clear heq
            by_cases hkm : k ≤ m
            · by_cases hkn : k ≤ n
              · obtain ⟨p, hp1, hp2⟩ := Hpa.out (k - 1) (by omega)
                obtain ⟨q, hq1, hq2⟩ := Hpb.out (k - 1) (by omega)
                have hat := cmpL_at Heq.out hp1 hq1
                rw [show k - 1 + 1 = k by omega] at hp2 hq2 hat
                have cp := HVr.out.cell hp2
                have cq := HUr.out.cell hq2
                have Hat := Lib.hid hat; clear hat hp1 hq1 hp2 hq2
                have s1 : IntKind.i64.wrap ((m : Int) - k) = (m : Int) - k := IntWalk.i64_in _ (by omega)
                have s2 : IntKind.i64.wrap ((n : Int) - k) = (n : Int) - k := IntWalk.i64_in _ (by omega)
                have s3 : ((m : Int) - k).toNat = m - k := by omega
                have s4 : ((n : Int) - k).toNat = n - k := by omega
                have s5 : (0 : Int) ≤ (m : Int) - k := by omega
                have s6 : (0 : Int) ≤ (n : Int) - k := by omega
                have s7 : (m : Int) - k < m := by omega
                have s8 : (n : Int) - k < n := by omega
                go_wp2_with fail
                go_still hmx
                change Exit.then _ _ Exit.normal _ wr.drew
                clear s1 s2 s3 s4 s5 s6 s7 s8 cp cq
                by_cases hpq : p = q
                · have Ht := Lib.hid (Hat.out.2 hpq)
                  subst hpq
                  go_wp2
                  go_roundw
                  case rel => exact ⟨k + 1, by omega, by omega, by omega, by simp, by simpa using Ht.out, Hx.out.drew⟩
                  case measure => simp [intOf]; omega
                · have hl := Hat.out.1 hpq
                  have hne : (p.toList == q.toList) = false := beq_eq_false_iff_ne.2 fun h => hpq (text_inj h)
                  have hne2 : (p.toList != q.toList) = true := by rw [bne, hne]; rfl
                  have Hl := Lib.hid hl; clear hl hpq
                  go_wp2
                  go_ret
                  exact ⟨by rw [Hles.out, Hl.out]; rfl, HXr.out.drew⟩
              · have hend := cmpL_end Heq.out (by rw [Hpl.out]; omega) (by rw [Hql.out]; omega) (by rw [Hpl.out, Hql.out]; omega)
                rw [Hpl.out, Hql.out] at hend
                have Hend := Lib.hid hend; clear hend
                have hkn' : decide ((k : Int) ≤ (n : Int)) = false := by simp; omega
                go_wp2
                go_ret
                exact ⟨by rw [Hles.out, Hend.out]; simp, HXr.out⟩
            · have hend := cmpL_end Heq.out (by rw [Hpl.out]; omega) (by rw [Hql.out]; omega) (by rw [Hpl.out, Hql.out]; omega)
              rw [Hpl.out, Hql.out] at hend
              have Hend := Lib.hid hend; clear hend
              have hkm' : decide ((k : Int) ≤ (m : Int)) = false := by simp; omega
              go_wp2
              go_ret
              exact ⟨by rw [Hles.out, Hend.out]; simp, HXr.out⟩

end Go.Proofs.Ytmmjhdkoccpdjaa
