/- The walk of hardtacklaw03.PackEnds: it answers true. Conditions: strings and numbers that Go can hold. -/
import Derived.Test.YtmmjhdkoccpdjaaMath7
import Derived.Test.YtmmjhdkoccpdjaaRefB
import Derived.DataShut
namespace Go.Proofs.Ytmmjhdkoccpdjaa
open Go Go.RowKit Go.Shelf
attribute [local go_sem] Oper.semAt_some wide_fn wide_depth

theorem f_name : (nameR Rd.failed).1 = ⟨#[]⟩ := by decide +kernel
theorem f_name2 : (nameR Rd.failed).2 = Rd.failed := by
  have h : isName ⟨(gatherR Rd.failed.s Rd.failed.at_).1.toArray⟩ = false := by decide +kernel
  rw [nameR, if_neg (by rw [h]; simp)]
theorem f_num : (numR Rd.failed ((1 : Nat) : Int)).1 = 0 := by decide +kernel
theorem f_num2 : (numR Rd.failed ((1 : Nat) : Int)).2 = Rd.failed := by
  have h : widthB ((1 : Nat) : Int) = true := by decide
  have h2 : ((1 : Nat) : Int) < 0 ∨ (Rd.failed.left : Int) < ((1 : Nat) : Int) := by decide +kernel
  rw [numR, if_pos h]
  show (rawR Rd.failed ((1 : Nat) : Int)).2 = _
  rw [rawR, if_pos h2]
theorem f_left : Rd.failed.left = 0 := rfl
theorem f_bad : Rd.failed.bad = true := rfl
theorem f_ok : Rd.failed.ok := by decide +kernel

set_option maxRecDepth 100000 in
set_option maxHeartbeats 8000000 in
theorem packEnds_walk (s : ByteArray) (p : Int) (w : World) (hs : s.size ≤ maxLen) (hp : (Lit.int .i64 p).wf = true) :
    Calls Try.prog 9 #[.string s, .int .i64 p] w fun e w' => e = .returned (.bool true) ∧ Ext w w' := by
  have hp' : -9223372036854775808 ≤ p ∧ p ≤ 9223372036854775807 := by
    have := (Lit.wf_int_iff .i64 p).1 hp
    simp [IntKind.min, IntKind.max, IntKind.bits, IntKind.signed] at this
    omega
  clear hp
  have CL := Lib.hid fun W => L3.lives_any W
  by_cases h17 : 131072 < s.size
  · unfold maxLen at hs
    go_enter Try.func9, Try.ntmps9
    go_wp2_with fail
    refine (CL.out _).mono ?_
    rintro e w1 ⟨rfl, hx⟩
    have HX := Lib.hid hx; clear hx
    go_wp2
    go_ret
    exact ⟨rfl, HX.out⟩
  · have h17' : decide ((131072 : Int) < s.size) = false := by simp; omega
    have hok0 : (⟨s, 0, false⟩ : Rd).ok := ⟨Nat.zero_le _, by show s.size ≤ _; omega⟩
    have Hok0 := Lib.hid hok0; clear hok0
    have Hs := Lib.hid hs; clear hs
    by_cases hout : p < 0 ∨ (s.size : Int) < p
    · have hraw : rawR ⟨s, 0, false⟩ p = (⟨#[]⟩, Rd.failed) := by
        rw [rawR, if_pos]
        rcases hout with h | h
        · exact .inl h
        · exact .inr (by show ((s.size - 0 : Nat) : Int) < p; omega)
      have Hraw := Lib.hid hraw; clear hraw
      rcases hout with hp0 | hp0
      all_goals
        go_enter Try.func9, Try.ntmps9
        go_wp2_with fail
        refine (CL.out _).mono ?_
        rintro e w1 ⟨rfl, hx⟩
        have HX := Lib.hid hx; clear hx
        have C := Lib.hid (Open_any s w1)
        go_wp2_with fail
        refine C.out.mono ?_
        rintro e w2 ⟨rfl, hr, hx⟩
        obtain ⟨R, hR⟩ : ∃ R, w1.heap.size = R := ⟨_, rfl⟩
        rw [hR] at hr ⊢
        have hRw : w.heap.size ≤ R := by rw [← hR]; exact HX.out.size
        have Hr := Lib.hid hr; clear hr hR
        have HK : Hid (Keeps (fun k => k < w.heap.size) w w2) := Lib.hid ((HX.out.keeps.mono fun _ _ _ => trivial).trans (hx.keeps.mono fun _ _ _ => trivial)); clear hx
        have C := Lib.hid (Raw_any R ⟨s, 0, false⟩ p w2 Hr.out Hok0.out hp')
        rw [Hraw.out] at C
        go_wp2_with fail
        refine C.out.mono ?_
        rintro e w3 ⟨rfl, hr, hk, _⟩
        have Hr := Lib.hid hr; clear hr
        have HK := Lib.hid (HK.out.trans (hk.mono fun j _ hj => by omega)); clear hk
        have C := Lib.hid (Bad_any R Rd.failed w3 Hr.out)
        rw [f_bad] at C
        go_wp2_with fail
        refine C.out.mono ?_
        rintro e w3' ⟨rfl, rfl⟩
        have C := Lib.hid (Name_any R Rd.failed w3 Hr.out f_ok)
        rw [f_name, f_name2] at C
        go_wp2_with fail
        refine C.out.mono ?_
        rintro e w4 ⟨rfl, hr, hk⟩
        have Hr := Lib.hid hr; clear hr
        have HK := Lib.hid (HK.out.trans (hk.mono fun j _ hj => by omega)); clear hk
        have C := Lib.hid (Num_any R Rd.failed 1 w4 Hr.out f_ok (.inl rfl))
        rw [f_num, f_num2, show (((1 : Nat) : Int)) = 1 from rfl] at C
        go_wp2_with fail
        refine C.out.mono ?_
        rintro e w5 ⟨rfl, hr, hk⟩
        have Hr := Lib.hid hr; clear hr
        have HK := Lib.hid (HK.out.trans (hk.mono fun j _ hj => by omega)); clear hk
        have C := Lib.hid (Left_any R Rd.failed w5 Hr.out f_ok)
        rw [f_left] at C
        go_wp2_with fail
        refine C.out.mono ?_
        rintro e w6 ⟨rfl, rfl⟩
        go_wp2
        go_ret
        exact ⟨rfl, (HK.out.drew).ext fun _ h => h⟩
    · obtain ⟨a, rfl⟩ : ∃ a : Nat, p = a := ⟨p.toNat, by omega⟩
      have ha : a ≤ s.size := by omega
      have hraw : rawR ⟨s, 0, false⟩ (a : Int) = (s.extract 0 a, ⟨s, a, false⟩) := by
        rw [rawR, if_neg (by show ¬ ((a : Int) < 0 ∨ ((s.size - 0 : Nat) : Int) < a); omega)]
        show (s.extract 0 (0 + ((a : Int)).toNat), (⟨s, 0 + ((a : Int)).toNat, false⟩ : Rd)) = _
        rw [Int.toNat_natCast, Nat.zero_add]
      have Hraw := Lib.hid hraw; clear hraw hout
      have hok1 : (⟨s, a, false⟩ : Rd).ok := ⟨ha, by show s.size ≤ _; omega⟩
      have Hok1 := Lib.hid hok1; clear hok1
      have hnr : nameR ⟨s, a, false⟩ = if isName ⟨(gatherR s a).1.toArray⟩ then (⟨(gatherR s a).1.toArray⟩, ⟨s, (gatherR s a).2, false⟩) else (⟨#[]⟩, Rd.failed) := rfl
      cases hn : isName ⟨(gatherR s a).1.toArray⟩ with
      | false =>
        rw [hn] at hnr
        have Hnr : Hid (nameR ⟨s, a, false⟩ = (⟨#[]⟩, Rd.failed)) := Lib.hid hnr
        clear hnr hn
        go_enter Try.func9, Try.ntmps9
        go_wp2_with fail
        refine (CL.out _).mono ?_
        rintro e w1 ⟨rfl, hx⟩
        have HX := Lib.hid hx; clear hx
        have C := Lib.hid (Open_any s w1)
        go_wp2_with fail
        refine C.out.mono ?_
        rintro e w2 ⟨rfl, hr, hx⟩
        obtain ⟨R, hR⟩ : ∃ R, w1.heap.size = R := ⟨_, rfl⟩
        rw [hR] at hr ⊢
        have hRw : w.heap.size ≤ R := by rw [← hR]; exact HX.out.size
        have Hr := Lib.hid hr; clear hr hR
        have HK : Hid (Keeps (fun k => k < w.heap.size) w w2) := Lib.hid ((HX.out.keeps.mono fun _ _ _ => trivial).trans (hx.keeps.mono fun _ _ _ => trivial)); clear hx
        have C := Lib.hid (Raw_any R ⟨s, 0, false⟩ a w2 Hr.out Hok0.out hp')
        rw [Hraw.out] at C
        go_wp2_with fail
        refine C.out.mono ?_
        rintro e w3 ⟨rfl, hr, hk, _⟩
        have Hr := Lib.hid hr; clear hr
        have HK := Lib.hid (HK.out.trans (hk.mono fun j _ hj => by omega)); clear hk
        have C := Lib.hid (Bad_any R ⟨s, a, false⟩ w3 Hr.out)
        go_wp2_with fail
        refine C.out.mono ?_
        rintro e w3' ⟨rfl, rfl⟩
        have C := Lib.hid (Name_any R ⟨s, a, false⟩ w3 Hr.out Hok1.out)
        rw [Hnr.out] at C
        go_wp2_with fail
        refine C.out.mono ?_
        rintro e w4 ⟨rfl, hr, hk⟩
        have Hr := Lib.hid hr; clear hr
        have HK := Lib.hid (HK.out.trans (hk.mono fun j _ hj => by omega)); clear hk
        have C := Lib.hid (Bad_any R Rd.failed w4 Hr.out)
        rw [f_bad] at C
        go_wp2_with fail
        refine C.out.mono ?_
        rintro e w4' ⟨rfl, rfl⟩
        have C := Lib.hid (Left_any R Rd.failed w4 Hr.out f_ok)
        rw [f_left] at C
        go_wp2_with fail
        refine C.out.mono ?_
        rintro e w6 ⟨rfl, rfl⟩
        go_wp2
        go_ret
        exact ⟨rfl, (HK.out.drew).ext fun _ h => h⟩
      | true =>
        rw [hn] at hnr
        obtain ⟨hb1, hb2⟩ := gather_behind hn ha
        have hpt := gather_part (s := s) (a := a) _ hb2
        obtain ⟨⟨g, b⟩, hg⟩ : ∃ g, gatherR s a = g := ⟨_, rfl⟩
        rw [hg] at hnr hb1 hb2 hpt hn
        simp only at hnr hb1 hb2 hpt hn
        obtain ⟨N, hN⟩ : ∃ N : ByteArray, (⟨g.toArray⟩ : ByteArray) = N := ⟨_, rfl⟩
        rw [hN] at hnr hn
        have Hnr : Hid (nameR ⟨s, a, false⟩ = (N, ⟨s, b, false⟩)) := Lib.hid hnr
        have hN255 := name_le hn
        have hpart : (nameR ⟨s.extract 0 b, a, false⟩ = (⟨#[]⟩, Rd.failed)) ∨ (nameR ⟨s.extract 0 b, a, false⟩ = (N, ⟨s.extract 0 b, b, false⟩)) := by
          rcases hpt with h | h
          · left; rw [nameR, if_neg (by rw [h]; simp)]
          · right
            rw [nameR, h]
            show (if isName ⟨g.toArray⟩ then ((⟨g.toArray⟩ : ByteArray), (⟨s.extract 0 b, b, false⟩ : Rd)) else (⟨#[]⟩, Rd.failed)) = _
            rw [hN, if_pos hn]
        have CC := Lib.hid fun W => RCheck_any N W (by unfold maxLen; omega)
        rw [chk_name hn] at CC
        have hraw2 : rawR ⟨s, a, false⟩ ((b : Int) - a) = (s.extract a b, ⟨s, b, false⟩) := by
          rw [rawR, if_neg (by show ¬ ((b : Int) - a < 0 ∨ ((s.size - a : Nat) : Int) < (b : Int) - a); omega)]
          show (s.extract a (a + ((b : Int) - a).toNat), (⟨s, a + ((b : Int) - a).toNat, false⟩ : Rd)) = _
          rw [show a + ((b : Int) - a).toNat = b by omega]
        have hpr : partR ⟨s, a, false⟩ ((b : Int) - a) = ⟨s.extract 0 b, a, false⟩ := by rw [partR, hraw2]; rfl
        have hps : (s.extract 0 b).size = b := by rw [ByteArray.size_extract]; omega
        have hokb : (⟨s, b, false⟩ : Rd).ok := ⟨hb2, by show s.size ≤ _; omega⟩
        have hokp : (⟨s.extract 0 b, a, false⟩ : Rd).ok := ⟨by show a ≤ (s.extract 0 b).size; omega, by show (s.extract 0 b).size ≤ _; omega⟩
        have hokq : (⟨s.extract 0 b, b, false⟩ : Rd).ok := ⟨by show b ≤ (s.extract 0 b).size; omega, by show (s.extract 0 b).size ≤ _; omega⟩
        have hlb : (((⟨s, b, false⟩ : Rd).left : Nat) : Int) = (s.size : Int) - b := by show ((s.size - b : Nat) : Int) = _; omega
        have hlq : (⟨s.extract 0 b, b, false⟩ : Rd).left = 0 := by show (s.extract 0 b).size - b = 0; omega
        have Hraw2 := Lib.hid hraw2; clear hraw2
        have Hpr := Lib.hid hpr; clear hpr
        have Hokb := Lib.hid hokb; clear hokb
        have Hokp := Lib.hid hokp; clear hokp
        have Hokq := Lib.hid hokq; clear hokq
        have Hlb := Lib.hid hlb; clear hlb
        have Hlq := Lib.hid hlq; clear hlq
        clear hnr hn hpt hg hN hps
        have z1 : ¬ (b : Int) ≤ a := by omega
        go_enter Try.func9, Try.ntmps9
        go_wp2_with fail
        refine (CL.out _).mono ?_
        rintro e w1 ⟨rfl, hx⟩
        have HX := Lib.hid hx; clear hx
        have C := Lib.hid (Open_any s w1)
        go_wp2_with fail
        refine C.out.mono ?_
        rintro e w2 ⟨rfl, hr, hx⟩
        obtain ⟨R, hR⟩ : ∃ R, w1.heap.size = R := ⟨_, rfl⟩
        rw [hR] at hr ⊢
        have hRw : w.heap.size ≤ R := by rw [← hR]; exact HX.out.size
        have Hr := Lib.hid hr; clear hr hR
        have HK : Hid (Keeps (fun k => k < w.heap.size) w w2) := Lib.hid ((HX.out.keeps.mono fun _ _ _ => trivial).trans (hx.keeps.mono fun _ _ _ => trivial)); clear hx
        have C := Lib.hid (Raw_any R ⟨s, 0, false⟩ a w2 Hr.out Hok0.out hp')
        rw [Hraw.out] at C
        go_wp2_with fail
        refine C.out.mono ?_
        rintro e w3 ⟨rfl, hr, hk, _⟩
        have Hr := Lib.hid hr; clear hr
        have HK := Lib.hid (HK.out.trans (hk.mono fun j _ hj => by omega)); clear hk
        have C := Lib.hid (Bad_any R ⟨s, a, false⟩ w3 Hr.out)
        go_wp2_with fail
        refine C.out.mono ?_
        rintro e w3' ⟨rfl, rfl⟩
        have C := Lib.hid (Name_any R ⟨s, a, false⟩ w3 Hr.out Hok1.out)
        rw [Hnr.out] at C
        go_wp2_with fail
        refine C.out.mono ?_
        rintro e w4 ⟨rfl, hr, hk⟩
        have Hr := Lib.hid hr; clear hr
        have HK := Lib.hid (HK.out.trans (hk.mono fun j _ hj => by omega)); clear hk
        have C := Lib.hid (Bad_any R ⟨s, b, false⟩ w4 Hr.out)
        go_wp2_with fail
        refine C.out.mono ?_
        rintro e w4' ⟨rfl, rfl⟩
        go_wp2_with fail
        refine (CC.out _).mono ?_
        rintro e w5 ⟨rfl, hx⟩
        have Hr := Lib.hid (hx.keeps.rd Hr.out trivial)
        have HK := Lib.hid (HK.out.trans (hx.keeps.mono fun _ _ _ => trivial)); clear hx
        have C := Lib.hid (At_any R ⟨s, b, false⟩ w5 Hr.out)
        go_wp2_with fail
        refine C.out.mono ?_
        rintro e w5' ⟨rfl, rfl⟩
        have CL2 := Lib.hid (Left_any R ⟨s, b, false⟩ w5 Hr.out Hokb.out)
        rw [Hlb.out] at CL2
        go_wp2_with fail
        refine CL2.out.mono ?_
        rintro e w6 ⟨rfl, rfl⟩
        have Hr : Hid (RdAt w5.drew R ⟨s, b, false⟩) := Lib.hid Hr.out
        have HK := Lib.hid HK.out.drew
        have C := Lib.hid (At_any R ⟨s, b, false⟩ w5.drew Hr.out)
        go_wp2_with fail
        refine C.out.mono ?_
        rintro e w5' ⟨rfl, rfl⟩
        have C := Lib.hid (Open_any s w5.drew)
        go_wp2_with fail
        refine C.out.mono ?_
        rintro e w7 ⟨rfl, hp1, hx⟩
        obtain ⟨P, hP⟩ : ∃ P, w5.drew.heap.size = P := ⟨_, rfl⟩
        rw [hP] at hp1 ⊢
        have hPR : R < P := by rw [← hP]; exact (Array.getElem?_eq_some_iff.1 Hr.out).1
        have Hp := Lib.hid hp1; clear hp1 hP
        have Hr := Lib.hid (hx.keeps.rd Hr.out trivial)
        have HK := Lib.hid (HK.out.trans (hx.keeps.mono fun _ _ _ => trivial)); clear hx
        have C := Lib.hid (Raw_any P ⟨s, 0, false⟩ a w7 Hp.out Hok0.out hp')
        rw [Hraw.out] at C
        go_wp2_with fail
        refine C.out.mono ?_
        rintro e w8 ⟨rfl, hp1, hk, _⟩
        have Hp := Lib.hid hp1; clear hp1
        have Hr := Lib.hid (hk.rd Hr.out (by omega))
        have HK := Lib.hid (HK.out.trans (hk.mono fun j _ hj => by omega)); clear hk
        have C := Lib.hid (At_any R ⟨s, b, false⟩ w8 Hr.out)
        go_wp2_with fail
        refine C.out.mono ?_
        rintro e w8' ⟨rfl, rfl⟩
        have C := Lib.hid (Part_any P ⟨s, a, false⟩ ((b : Int) - a) w8 Hp.out Hok1.out (by omega))
        have hPl := (Array.getElem?_eq_some_iff.1 Hp.out).1
        go_wp2_with fail
        refine C.out.mono ?_
        rintro e w9 ⟨Q, hQ, rfl, hq1, hp1, hk⟩
        rw [Hpr.out] at hq1
        rw [Hraw2.out] at hp1
        have hRP : R ≠ P := by omega
        have hQP : P < Q := by omega
        have Hp := Lib.hid hp1; clear hp1
        have Hq := Lib.hid hq1; clear hq1
        have Hr := Lib.hid (hk.rd Hr.out (by omega))
        have HK := Lib.hid (HK.out.trans (hk.mono fun j _ hj => by omega)); clear hk hPl hQ
        have C := Lib.hid (At_any Q ⟨s.extract 0 b, a, false⟩ w9 Hq.out)
        go_wp2_with fail
        refine C.out.mono ?_
        rintro e w9' ⟨rfl, rfl⟩
        have C := Lib.hid (At_any P ⟨s, b, false⟩ w9 Hp.out)
        go_wp2_with fail
        refine C.out.mono ?_
        rintro e w9' ⟨rfl, rfl⟩
        have C := Lib.hid (At_any R ⟨s, b, false⟩ w9 Hr.out)
        go_wp2_with fail
        refine C.out.mono ?_
        rintro e w9' ⟨rfl, rfl⟩
        have CQ := Lib.hid (Name_any Q ⟨s.extract 0 b, a, false⟩ w9 Hq.out Hokp.out)
        clear C
        rcases hpart with hpart | hpart
        · rw [hpart] at CQ
          have Hpart := Lib.hid hpart; clear hpart
          go_wp2_with fail
          refine CQ.out.mono ?_
          rintro e w10 ⟨rfl, hq1, hk⟩
          have Hq := Lib.hid hq1; clear hq1
          have HK := Lib.hid (HK.out.trans (hk.mono fun j _ hj => by omega)); clear hk
          have C := Lib.hid (Bad_any Q Rd.failed w10 Hq.out)
          rw [f_bad] at C
          go_wp2_with fail
          refine C.out.mono ?_
          rintro e w10' ⟨rfl, rfl⟩
          go_wp2
          go_ret
          exact ⟨rfl, HK.out.ext fun _ h => h⟩
        · rw [hpart] at CQ
          have Hpart := Lib.hid hpart; clear hpart
          go_wp2_with fail
          refine CQ.out.mono ?_
          rintro e w10 ⟨rfl, hq1, hk⟩
          have Hq := Lib.hid hq1; clear hq1
          have HK := Lib.hid (HK.out.trans (hk.mono fun j _ hj => by omega)); clear hk
          have C := Lib.hid (Bad_any Q ⟨s.extract 0 b, b, false⟩ w10 Hq.out)
          go_wp2_with fail
          refine C.out.mono ?_
          rintro e w10' ⟨rfl, rfl⟩
          have CL3 := Lib.hid (Left_any Q ⟨s.extract 0 b, b, false⟩ w10 Hq.out Hokq.out)
          rw [Hlq.out] at CL3
          go_wp2_with fail
          refine CL3.out.mono ?_
          rintro e w11 ⟨rfl, rfl⟩
          go_wp2
          go_ret
          exact ⟨rfl, (HK.out.drew).ext fun _ h => h⟩

end Go.Proofs.Ytmmjhdkoccpdjaa
