/- What hardtackref01's Within and Same, and hardtackref02's Up, Depth, Common and Next do. Conditions: strings that Go can hold. -/
import Derived.Test.YtmmjhdkoccpdjaaMath6
namespace Go.Proofs.Ytmmjhdkoccpdjaa
open Go Go.RowKit Go.Shelf
attribute [local go_sem] Oper.semAt_some wide_fn wide_depth

theorem lab255 {s : ByteArray} (h : isName s = true) : ∀ x ∈ labelsB s, x.size ≤ 255 := by
  intro x hx
  obtain ⟨ls, hr⟩ := rep_of_name h
  have h1 := hr.labels
  have h2 : bl x ∈ ls := by rw [← h1]; exact List.mem_map_of_mem hx
  have := hr.ok _ h2
  rw [bl_size] at this
  omega
theorem labn {s : ByteArray} (h : isName s = true) : (labelsB s).length ≤ 255 := Nat.le_trans (labelsB_length s) (name_le h)
theorem StrsC.drop {W : World} {b off n cap : Nat} {ss : List ByteArray} (hn : n = ss.length) (h : StrsC W (.slice (some ⟨b, off, none⟩) n cap) ss) (k : Nat) (hk : k ≤ n) (off' c : Nat) (ho : k < n → off' = off + k) : Strs W (.slice (some ⟨b, off', none⟩) (n - k) c) (ss.drop k) := by
  subst hn
  obtain ⟨b', off1, cap', e, _, _, hc⟩ := h
  simp only [Value.slice.injEq, Option.some.injEq, Addr.mk.injEq, and_true, true_and] at e
  obtain ⟨⟨rfl, rfl⟩, rfl⟩ := e
  refine .inr ⟨b, off', _, by rw [List.length_drop], fun j hj => ?_⟩
  rw [List.length_drop] at hj
  have := hc (k + j) (by omega)
  rw [ho (by omega), List.getElem?_drop, Nat.add_assoc]
  exact this

set_option maxRecDepth 100000 in
set_option maxHeartbeats 4000000 in
theorem RWithin_any (s z : ByteArray) (w : World) (hs : s.size ≤ maxLen) (hz : z.size ≤ maxLen) :
    Calls Try.prog 76 #[.string s, .string z] w fun e w' => e = .returned (.bool (withinB s z)) ∧ Ext w w' := by
  have CA := Lib.hid fun W => RSplit_any s W hs
  have CB := Lib.hid fun W => RSplit_any z W hz
  have CF := Lib.hid fun W => RFold_any z W hz
  have HX := Lib.hid (Ext.refl w)
  cases hns : isName s with
  | false =>
    rw [within_none (.inl hns)]
    have Hns := Lib.hid hns; clear hns
    go_enter Try.func76, Try.ntmps76
    go_wp2_with fail
    refine (CA.out _).mono ?_
    rintro e w1 ⟨v, rfl, hv, hx⟩
    rw [Hns.out]
    clear hv
    have HX := Lib.hid (HX.out.trans hx); clear hx
    go_wp2_with fail
    refine (CB.out _).mono ?_
    rintro e w2 ⟨u, rfl, hu, hx⟩
    clear hu
    have HX := Lib.hid (HX.out.trans hx); clear hx
    go_wp2
    go_ret
    exact ⟨rfl, HX.out⟩
  | true =>
    cases hnz : isName z with
    | false =>
      rw [within_none (.inr hnz)]
      have Hns := Lib.hid hns; clear hns
      have Hnz := Lib.hid hnz; clear hnz
      go_enter Try.func76, Try.ntmps76
      go_wp2_with fail
      refine (CA.out _).mono ?_
      rintro e w1 ⟨v, rfl, hv, hx⟩
      rw [Hns.out]
      clear hv
      have HX := Lib.hid (HX.out.trans hx); clear hx
      go_wp2_with fail
      refine (CB.out _).mono ?_
      rintro e w2 ⟨u, rfl, hu, hx⟩
      rw [Hnz.out]
      clear hu
      have HX := Lib.hid (HX.out.trans hx); clear hx
      go_wp2
      go_ret
      exact ⟨rfl, HX.out⟩
    | true =>
      have hwm := within_make hns hnz
      have hna := labn hns
      have hnb := labn hnz
      have hla := lab255 hns
      obtain ⟨lss, hrs⟩ := rep_of_name hns
      have hmk : ∀ k, (makeB ((labelsB s).drop k)).size ≤ maxLen := fun k => by have := (make_rep hrs k).len; unfold maxLen; omega
      have Hmk := Lib.hid hmk; clear hmk hrs
      have Hla := Lib.hid hla; clear hla
      have Hns := Lib.hid hns; clear hns
      have Hnz := Lib.hid hnz; clear hnz
      obtain ⟨m, hm⟩ : ∃ m, (labelsB s).length = m := ⟨_, rfl⟩
      obtain ⟨n, hn⟩ : ∃ n, (labelsB z).length = n := ⟨_, rfl⟩
      rw [hm] at hna hwm
      rw [hn] at hnb hwm
      have Hm := Lib.hid hm; clear hm
      have Hn := Lib.hid hn; clear hn
      have Hwm := Lib.hid hwm; clear hwm
      by_cases hle : n ≤ m
      · have Hwm2 : Hid (withinB s z = ((foldS (makeB ((labelsB s).drop (m - n)))).toList == (foldS z).toList)) := Lib.hid (by rw [Hwm.out, decide_eq_true hle, Bool.true_and])
        clear Hwm
        go_enter Try.func76, Try.ntmps76
        go_wp2_with fail
        refine (CA.out _).mono ?_
        rintro e w1 ⟨v, rfl, hv, hx⟩
        rw [Hns.out]
        have HV := Lib.hid (hv Hns.out); clear hv
        obtain ⟨b, off, cap, rfl, hc1, hc2, _⟩ := HV.out
        rw [Hm.out] at HV hc1 ⊢
        have HX := Lib.hid (HX.out.trans hx); clear hx
        go_wp2_with fail
        refine (CB.out _).mono ?_
        rintro e w2 ⟨u, rfl, hu, hx⟩
        rw [Hnz.out]
        obtain ⟨b', off', cap', rfl, hd1, hd2, _⟩ := hu Hnz.out
        rw [Hn.out] at hd1 ⊢
        clear hu
        have HV := Lib.hid (HV.out.ext hx)
        have HX := Lib.hid (HX.out.trans hx); clear hx
        have i1 : (n : Int) ≤ (m : Int) := by omega
        have i2 : (0 : Int) ≤ (m : Int) - n := by omega
        have i3 : ((m : Int) - n).toNat = m - n := by omega
        unfold maxLen at hc2 hd2
        go_wp2_with fail
        all_goals
          refine (RMake_any _ ((labelsB s).drop (m - n)) w2 (StrsC.drop Hm.out.symm HV.out (m - n) (by omega) _ _ (by omega)) (by rw [List.length_drop, Hm.out]; omega) (fun x hx => Hla.out x (List.mem_of_mem_drop hx))).mono ?_
          rintro e w3 ⟨rfl, hx⟩
          have HX := Lib.hid (HX.out.trans hx); clear hx
          go_wp2_with fail
          refine (RFold_any _ w3 (Hmk.out _)).mono ?_
          rintro e w4 ⟨rfl, hx⟩
          have HX := Lib.hid (HX.out.trans hx); clear hx
          go_wp2_with fail
          refine (CF.out _).mono ?_
          rintro e w5 ⟨rfl, hx⟩
          have HX := Lib.hid (HX.out.trans hx); clear hx
          go_wp2
          go_ret
          exact ⟨by rw [Hwm2.out]; rfl, HX.out⟩
      · have Hwm2 : Hid (withinB s z = false) := Lib.hid (by rw [Hwm.out, decide_eq_false hle, Bool.false_and])
        clear Hwm
        have i1 : ¬ (n : Int) ≤ (m : Int) := by omega
        go_enter Try.func76, Try.ntmps76
        go_wp2_with fail
        refine (CA.out _).mono ?_
        rintro e w1 ⟨v, rfl, hv, hx⟩
        rw [Hns.out]
        obtain ⟨b, off, cap, rfl, hc1, hc2, _⟩ := hv Hns.out
        rw [Hm.out] at hc1 ⊢
        clear hv
        have HX := Lib.hid (HX.out.trans hx); clear hx
        go_wp2_with fail
        refine (CB.out _).mono ?_
        rintro e w2 ⟨u, rfl, hu, hx⟩
        rw [Hnz.out]
        obtain ⟨b', off', cap', rfl, hd1, hd2, _⟩ := hu Hnz.out
        rw [Hn.out] at hd1 ⊢
        clear hu
        have HX := Lib.hid (HX.out.trans hx); clear hx
        go_wp2
        go_ret
        exact ⟨by rw [Hwm2.out]; rfl, HX.out⟩

set_option maxRecDepth 100000 in
set_option maxHeartbeats 4000000 in
theorem RSame_any (a b : ByteArray) (w : World) (ha : a.size ≤ maxLen) (hb : b.size ≤ maxLen) :
    Calls Try.prog 88 #[.string a, .string b] w fun e w' => e = .returned (.bool (sameB a b)) ∧ Ext w w' := by
  have CA := Lib.hid fun W => RCheck_any a W ha
  have CB := Lib.hid fun W => RCheck_any b W hb
  have FA := Lib.hid fun W => RFold_any a W ha
  have FB := Lib.hid fun W => RFold_any b W hb
  have HX := Lib.hid (Ext.refl w)
  have hs : sameB a b = (isName a && isName b && ((foldS a).toList == (foldS b).toList)) := rfl
  have Hs := Lib.hid hs; clear hs
  cases hna : isName a with
  | false =>
    rw [chk_none hna] at CA
    rw [hna] at Hs
    clear hna
    go_enter Try.func88, Try.ntmps88
    go_wp2_with fail
    refine (CA.out _).mono ?_
    rintro e w1 ⟨rfl, hx⟩
    have HX := Lib.hid (HX.out.trans hx); clear hx
    go_wp2
    go_ret
    exact ⟨by rw [Hs.out]; rfl, HX.out⟩
  | true =>
    cases hnb : isName b with
    | false =>
      rw [chk_name hna] at CA
      rw [chk_none hnb] at CB
      rw [hna, hnb] at Hs
      clear hna hnb
      go_enter Try.func88, Try.ntmps88
      go_wp2_with fail
      refine (CA.out _).mono ?_
      rintro e w1 ⟨rfl, hx⟩
      have HX := Lib.hid (HX.out.trans hx); clear hx
      go_wp2_with fail
      refine (CB.out _).mono ?_
      rintro e w2 ⟨rfl, hx⟩
      have HX := Lib.hid (HX.out.trans hx); clear hx
      go_wp2
      go_ret
      exact ⟨by rw [Hs.out]; rfl, HX.out⟩
    | true =>
      rw [chk_name hna] at CA
      rw [chk_name hnb] at CB
      rw [hna, hnb] at Hs
      clear hna hnb
      go_enter Try.func88, Try.ntmps88
      go_wp2_with fail
      refine (CA.out _).mono ?_
      rintro e w1 ⟨rfl, hx⟩
      have HX := Lib.hid (HX.out.trans hx); clear hx
      go_wp2_with fail
      refine (CB.out _).mono ?_
      rintro e w2 ⟨rfl, hx⟩
      have HX := Lib.hid (HX.out.trans hx); clear hx
      go_wp2_with fail
      refine (FA.out _).mono ?_
      rintro e w3 ⟨rfl, hx⟩
      have HX := Lib.hid (HX.out.trans hx); clear hx
      go_wp2_with fail
      refine (FB.out _).mono ?_
      rintro e w4 ⟨rfl, hx⟩
      have HX := Lib.hid (HX.out.trans hx); clear hx
      go_wp2
      go_ret
      exact ⟨by rw [Hs.out]; rfl, HX.out⟩

set_option maxRecDepth 100000 in
set_option maxHeartbeats 4000000 in
theorem RDepth_any (s z : ByteArray) (w : World) (hs : s.size ≤ maxLen) (hz : z.size ≤ maxLen) :
    Calls Try.prog 26 #[.string s, .string z] w fun e w' => e = .returned (.int .i64 (depthB s z)) ∧ Ext w w' := by
  have CW := Lib.hid fun W => RWithin_any s z W hs hz
  have CS := Lib.hid fun W => RCount_any s W hs
  have CZ := Lib.hid fun W => RCount_any z W hz
  have HX := Lib.hid (Ext.refl w)
  have h1 := labelsB_length s
  have h2 := labelsB_length z
  unfold maxLen at hs hz
  obtain ⟨m, hm⟩ : ∃ m, (labelsB s).length = m := ⟨_, rfl⟩
  obtain ⟨k, hk⟩ : ∃ m, (labelsB z).length = m := ⟨_, rfl⟩
  have hd : depthB s z = if withinB s z then (m : Int) - (k : Int) else -1 := by rw [depthB, hm, hk]
  rw [hm] at CS h1
  rw [hk] at CZ h2
  clear hm hk
  cases hw : withinB s z with
  | false =>
    rw [hw] at CW hd
    have Hd := Lib.hid hd; clear hd hw
    go_enter Try.func26, Try.ntmps26
    go_wp2_with (first
      | ((with_reducible refine (CW.out _).mono ?_); rintro e w' ⟨rfl, hx⟩; have HX := Lib.hid (HX.out.trans hx); clear hx))
    go_ret
    exact ⟨by rw [Hd.out]; rfl, HX.out⟩
  | true =>
    rw [hw] at CW hd
    have Hd := Lib.hid hd; clear hd hw
    go_enter Try.func26, Try.ntmps26
    go_wp2_with (first
      | ((with_reducible refine (CW.out _).mono ?_); rintro e w' ⟨rfl, hx⟩; have HX := Lib.hid (HX.out.trans hx); clear hx)
      | ((with_reducible refine (CS.out _).mono ?_); rintro e w' ⟨rfl, hx⟩; have HX := Lib.hid (HX.out.trans hx); clear hx)
      | ((with_reducible refine (CZ.out _).mono ?_); rintro e w' ⟨rfl, hx⟩; have HX := Lib.hid (HX.out.trans hx); clear hx))
    go_ret
    exact ⟨by rw [Hd.out]; rfl, HX.out⟩

/-- What hardtackref02.Up answers. -/
def RUpPost (s : ByteArray) (w : World) (e : Ending) (w' : World) : Prop := ∃ v, e = .returned v ∧ Strs w' v (upB s) ∧ Ext w w'

set_option maxRecDepth 100000 in
set_option maxHeartbeats 1000000 in
theorem RUp_any (s : ByteArray) (w : World) (hs : s.size ≤ maxLen) :
    Calls Try.prog 31 #[.string s] w (RUpPost s w) := by
  have CA := Lib.hid fun W => RSplit_any s W hs
  cases hns : isName s with
  | false =>
    have hu := upB_none hns
    have Hns := Lib.hid hns; clear hns
    have Hu := Lib.hid hu; clear hu
    go_enter Try.func31, Try.ntmps31
    go_wp2_with fail
    refine (CA.out _).mono ?_
    rintro e w1 ⟨v, rfl, hv, hx⟩
    rw [Hns.out]
    clear hv
    have HX := Lib.hid hx; clear hx
    go_wp2
    go_ret
    exact ⟨_, rfl, .inl ⟨rfl, Hu.out⟩, HX.out⟩
  | true =>
    obtain ⟨i0, hi, hz0, hz1, hz2⟩ := info_parts infoString
    have hna := labn hns
    have hla := lab255 hns
    obtain ⟨lss, hrs⟩ := rep_of_name hns
    have hup := upM_up lss s hrs
    rw [← hrs.count] at hup
    obtain ⟨m, hm⟩ : ∃ m, (labelsB s).length = m := ⟨_, rfl⟩
    rw [hm] at hup hna
    have Hup := Lib.hid hup; clear hup hrs
    have Hla := Lib.hid hla; clear hla
    have Hm := Lib.hid hm; clear hm
    have Hns := Lib.hid hns; clear hns
    go_enter Try.func31, Try.ntmps31
    go_wp2_with fail
    refine (CA.out _).mono ?_
    rintro e w1 ⟨v, rfl, hv, hx⟩
    rw [Hns.out]
    have HV := Lib.hid (hv Hns.out); clear hv
    obtain ⟨b, off, cap, rfl, hc1, hc2, _⟩ := HV.out
    rw [Hm.out] at HV hc1 ⊢
    have hwz := hx.size
    have HX := Lib.hid hx; clear hx
    unfold maxLen at hc2
    go_wp2_with fail
    go_loopw [5, 6] (fun v i wr => ∃ (k : Nat) (ao : Option Addr) (c : Nat), k ≤ m + 1 ∧ i = .int .i64 k ∧ v = .slice ao k c ∧ wr.ownsRow w1.heap.size 9 1 (.slice ao k c) k ((upM s k).map Value.string) ∧ Ext w1 wr)
      (fun _ i _ => m + 1 - (intOf i).toNat)
    case atStart => exact ⟨0, _, _, Nat.zero_le _, rfl, rfl, World.ownsRow_nil _ _ _ _, Ext.refl _⟩
    case round =>
      obtain ⟨k, ao, c, hk, rfl, rfl, hown, hx⟩ := hrel
      have Hx := Lib.hid hx; clear hx
      by_cases hlt : k ≤ m
      · have HVr := Lib.hid (HV.out.ext Hx.out)
        have Hown := Lib.hid hown; clear hown
        by_cases hcap : cap = k
        · obtain rfl : k = m := by omega
          subst hcap
          have hs0 : ∀ (W : World) (off' c' : Nat), Strs W (.slice (some ⟨b, off', none⟩) 0 c') ((labelsB s).drop cap) := fun W off' c' =>
            .inr ⟨b, off', c', by rw [List.length_drop, Hm.out, Nat.sub_self], fun j hj => by rw [List.length_drop, Hm.out, Nat.sub_self] at hj; omega⟩
          go_wp2_with fail
          with_reducible refine (RMake_any _ ((labelsB s).drop cap) wr (hs0 _ _ _) (by rw [List.length_drop, Hm.out]; omega) (fun x hx => Hla.out x (List.mem_of_mem_drop hx))).mono ?_
          rintro e w3 ⟨rfl, hx⟩
          have hz3 := hx.size
          have hown3 := hx.keeps.ownsRow Hown.out (fun _ _ => trivial)
          have hzw := Hx.out.size
          have Hx3 := Lib.hid (Hx.out.trans hx); clear hx
          go_wp2_with (at_builtin; refine wpList_append_own _ rfl _ _ 32 rfl w1.heap.size 9 i0 (.string ⟨#[]⟩) 1 16 Try.underlying32 hi hz0 hz1 hz2 rfl (by decide) _ _ _ rfl (hown3.alloc _) ⟨w3.heap.size, 0, none⟩ 1 1 [.string (makeB ((labelsB s).drop cap))] rfl rfl ?c1 ?c2 ?c3 ?c4 ?c5 ?_)
          case c1 =>
            intro j u hj
            match j, hj with
            | 0, hj => simp at hj; subst hj; simp [Addr.add]
          case c2 => intro u hu; simp at hu; subst hu; rfl
          case c3 => unfold maxLen; omega
          case c4 => omega
          case c5 => simp; omega
          intro v' w4 hown' hgrow _
          have hrow := hown3.lt
          have Hx4 : Hid (Ext w1 w4) := Lib.hid ((((Hx3.out.alloc (.cells #[.string (makeB ((labelsB s).drop cap))] 9)).keeps.mono (K' := fun k => k < w1.heap.size) fun _ _ _ => trivial).grown hgrow (fun k e h => by
            have e' := (hrow k e).1
            omega)).ext fun _ h => h)
          obtain ⟨ao', cap', rfl⟩ := ownsRow_slice hown'
          have Hown' := Lib.hid hown'; clear hown' hown3 hgrow hrow
          go_wp2
          go_roundw
          case rel =>
            refine ⟨cap + 1, ao', cap', by omega, by simp, rfl, ?_, Hx4.out⟩
            rw [upM_succ]; simpa using Hown'.out
          case measure => simp [intOf] <;> omega
        · have hcap' : (cap == k) = false := beq_eq_false_iff_ne.2 hcap
          go_wp2_with fail
          refine (RMake_any _ ((labelsB s).drop k) wr (StrsC.drop Hm.out.symm HVr.out k (by omega) _ _ (by omega)) (by rw [List.length_drop, Hm.out]; omega) (fun x hx => Hla.out x (List.mem_of_mem_drop hx))).mono ?_
          rintro e w3 ⟨rfl, hx⟩
          have hz3 := hx.size
          have hown3 := hx.keeps.ownsRow Hown.out (fun _ _ => trivial)
          have hzw := Hx.out.size
          have Hx3 := Lib.hid (Hx.out.trans hx); clear hx
          go_wp2_with (at_builtin; refine wpList_append_own _ rfl _ _ 32 rfl w1.heap.size 9 i0 (.string ⟨#[]⟩) 1 16 Try.underlying32 hi hz0 hz1 hz2 rfl (by decide) _ _ _ rfl (hown3.alloc _) ⟨w3.heap.size, 0, none⟩ 1 1 [.string (makeB ((labelsB s).drop k))] rfl rfl ?c1 ?c2 ?c3 ?c4 ?c5 ?_)
          case c1 =>
            intro j u hj
            match j, hj with
            | 0, hj => simp at hj; subst hj; simp [Addr.add]
          case c2 => intro u hu; simp at hu; subst hu; rfl
          case c3 => unfold maxLen; omega
          case c4 => omega
          case c5 => simp; omega
          intro v' w4 hown' hgrow _
          have hrow := hown3.lt
          have Hx4 : Hid (Ext w1 w4) := Lib.hid ((((Hx3.out.alloc (.cells #[.string (makeB ((labelsB s).drop k))] 9)).keeps.mono (K' := fun k => k < w1.heap.size) fun _ _ _ => trivial).grown hgrow (fun k e h => by
            have e' := (hrow k e).1
            omega)).ext fun _ h => h)
          obtain ⟨ao', cap', rfl⟩ := ownsRow_slice hown'
          have Hown' := Lib.hid hown'; clear hown' hown3 hgrow hrow
          go_wp2
          go_roundw
          case rel =>
            refine ⟨k + 1, ao', cap', by omega, by simp, rfl, ?_, Hx4.out⟩
            rw [upM_succ]; simpa using Hown'.out
          case measure => simp [intOf] <;> omega
      · obtain rfl : k = m + 1 := by omega
        have hs := strs_of_row (ls := upM s (m + 1)) (by simpa [upM] using hown)
        rw [Hup.out] at hs
        have Hs := Lib.hid hs; clear hs hown
        go_wp2
        go_ret
        exact ⟨_, rfl, Hs.out, HX.out.trans Hx.out⟩

end Go.Proofs.Ytmmjhdkoccpdjaa
