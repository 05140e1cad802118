/- The walk of hardtacklaw04.RdataBack: it answers true. Conditions: strings and numbers that Go can hold. -/
import Derived.Test.YtmmjhdkoccpdjaaLives4
namespace Go.Proofs.Ytmmjhdkoccpdjaa
open Go Go.RowKit Go.Shelf
attribute [local go_sem] Oper.semAt_some wide_fn wide_depth

theorem part_all (s : ByteArray) (a : Nat) (ha : a ≤ s.size) : partR ⟨s, a, false⟩ ((s.size : Int) - a) = ⟨s, a, false⟩ ∧ (rawR ⟨s, a, false⟩ ((s.size : Int) - a)).2 = ⟨s, s.size, false⟩ := by
  have h := rawR_fit s a (s.size - a) (by omega)
  rw [show ((s.size - a : Nat) : Int) = (s.size : Int) - a from by omega, show a + (s.size - a) = s.size from by omega] at h
  rw [partR, h]
  refine ⟨?_, rfl⟩
  show (⟨s.extract 0 s.size, a, false⟩ : Rd) = _
  rw [extract_all]
def bigW : Wr := ⟨[], 65536, false, []⟩
theorem bigW_ok : bigW.ok := by decide +kernel
theorem bigW_inv : bigW.inv := fun x hx => by cases hx
theorem big_name (n : ByteArray) (pt : Bool) : (nameW bigW n pt).ok ∧ (nameW bigW n pt).inv ∧ (nameW bigW n pt).full = false ∧ (nameW bigW n pt).limit = 65536 ∧ (nameW bigW n pt).bytes.length ≤ 255 := by
  refine ⟨nameW_ok n pt bigW_ok, ?_⟩
  cases hn : isName n with
  | false =>
    have e : nameW bigW n pt = bigW := by rw [nameW, hn]; rfl
    rw [e]
    exact ⟨bigW_inv, rfl, rfl, by decide⟩
  | true =>
    obtain ⟨ls, hr⟩ := rep_of_name hn
    have hl := hr.len
    obtain ⟨y, i1, i2, i3, i4, i5, i6⟩ := nameW_tells (q := bigW) pt hr rfl (by show ((0 + n.size : Nat) : Int) ≤ 65536; omega) (fun x hx => by cases hx) bigW_inv
    exact ⟨i6, i3, i4, by rw [i1]; show ([] ++ y).length ≤ 255; rw [List.nil_append]; omega⟩

/-- What the second half asks. -/
theorem back_read (t : Int) (raw : ByteArray) (hr : raw.size ≤ 16384) : (∃ x, gotR t ⟨raw, 0, false⟩ (raw.size : Int) = (x, 0) ∧ x.size ≤ 4294967296 ∧ errR t x = 0) ∨ gotR t ⟨raw, 0, false⟩ (raw.size : Int) = (⟨#[]⟩, 6) := by
  have hp := (part_all raw 0 (Nat.zero_le _)).1
  rw [show (raw.size : Int) - ((0 : Nat) : Int) = raw.size from by omega] at hp
  unfold gotR
  rw [hp]
  cases hb : dataB t ⟨raw, 0, false⟩ with
  | false => exact .inr rfl
  | true =>
    have hok : (⟨raw, 0, false⟩ : Rd).ok := ⟨Nat.zero_le _, by show raw.size ≤ _; omega⟩
    have h1 := (data_right hok hb).1
    refine .inl ⟨_, rfl, ?_, by unfold errR; rw [h1]; rfl⟩
    have hq : (dataW t ⟨raw, 0, false⟩).ok := foldW_ok false _ _ newW_ok
    unfold outR
    split
    · exact Nat.zero_le _
    · show (dataW t ⟨raw, 0, false⟩).bytes.toArray.size ≤ _
      rw [List.size_toArray]; exact hq.1
/-- What the first half asks. -/
theorem back_write (n : ByteArray) (t : Int) (d : ByteArray) (hd : d.size ≤ 16384) (h : rightB t d = true) :
    ∃ s, outR (wroteW t d (nameW bigW n true)) = (s, 0) ∧ (nameW bigW n true).bytes.length ≤ s.size ∧ s.size ≤ 4351 ∧ gotR t ⟨s, (nameW bigW n true).bytes.length, false⟩ ((s.size : Int) - (nameW bigW n true).bytes.length) = (d, 0) := by
  have hb := big_name n true
  generalize nameW bigW n true = q at hb ⊢
  obtain ⟨h1, h2, h3, h4, h5⟩ := hb
  obtain ⟨i1, y, i2, i3, i4, i5, i6, i7⟩ := write_read h (by omega) (decide (t ≠ 33)) h3 (by rw [h4]; omega) h1 h2
  have hw : wroteW t d q = (readPcs (pieces t) ⟨d, 0, false⟩).1.foldl (apW (decide (t ≠ 33))) q := by rw [wroteW, if_pos h]; rfl
  rw [hw]
  have hs := i7 ⟨(q.bytes ++ y).toArray⟩ (bl_mk _)
  have hz : (⟨(q.bytes ++ y).toArray⟩ : ByteArray).size = q.bytes.length + y.length := by show (q.bytes ++ y).toArray.size = _; simp
  refine ⟨⟨(q.bytes ++ y).toArray⟩, ?_, by omega, by omega, ?_⟩
  · unfold outR; rw [i4, i2]; rfl
  · unfold gotR
    rw [(part_all _ _ (by omega)).1, hs.1]
    show ((outR _).1, (0 : Int)) = _
    rw [hs.2]

set_option maxRecDepth 100000 in
set_option maxHeartbeats 8000000 in
theorem rdataBack_walk (n : ByteArray) (t : Int) (d raw : ByteArray) (w : World) (hn : n.size ≤ maxLen) (_ht : (Lit.int .u16 t).wf = true) (hd : d.size ≤ maxLen) (hraw : raw.size ≤ maxLen) :
    Calls Try.prog 11 #[.string n, .int .u16 t, .string d, .string raw] w fun e w' => e = .returned (.bool true) ∧ Ext w w' := by
  have CL := Lib.hid fun W => L4.lives_any W
  by_cases h14 : 16384 < d.size
  · unfold maxLen at hd
    obtain ⟨k, hk⟩ : ∃ k, d.size = k := ⟨_, rfl⟩
    rw [hk] at h14 hd
    go_enter Try.func11, Try.ntmps11
    go_wp2_with fail
    refine (CL.out _).mono ?_
    rintro e w1 ⟨rfl, hx⟩
    have HX := Lib.hid hx; clear hx
    go_wp2
    go_ret
    exact ⟨rfl, HX.out⟩
  by_cases h15 : 16384 < raw.size
  · unfold maxLen at hraw
    have h14' : d.size ≤ 16384 := by omega
    obtain ⟨k, hk⟩ : ∃ k, d.size = k := ⟨_, rfl⟩
    obtain ⟨m, hm⟩ : ∃ m, raw.size = m := ⟨_, rfl⟩
    rw [hk] at h14 h14'
    rw [hm] at h15 hraw
    go_enter Try.func11, Try.ntmps11
    go_wp2_with fail
    refine (CL.out _).mono ?_
    rintro e w1 ⟨rfl, hx⟩
    have HX := Lib.hid hx; clear hx
    go_wp2
    go_ret
    exact ⟨rfl, HX.out⟩
  have hd' : d.size ≤ 16384 := by omega
  have hraw' : raw.size ≤ 16384 := by omega
  clear hd hraw
  have CA := Lib.hid fun B G W h => WNamed_any B G bigW n W h bigW_ok hn
  have hq1 := big_name n true
  have hbw := back_write n t d hd'
  obtain ⟨q, hq⟩ : ∃ q, nameW bigW n true = q := ⟨_, rfl⟩
  rw [hq] at CA hq1 hbw
  have CN := Lib.hid fun B G W h => Len_any B G q W h
  have CW := Lib.hid fun B G W h => DWrite_any B G q t d W (by omega) h hq1.1
  have hbl := hq1.2.2.2.2
  have hwok : (wroteW t d q).ok := by
    unfold wroteW; split
    · exact foldW_ok _ _ _ hq1.1
    · exact hq1.1
  have CO := Lib.hid fun B G W h => Out_any B G (wroteW t d q) W h
  have CP := Lib.hid fun W => Open_any raw W
  have hbr := back_read t raw hraw'
  have CR := Lib.hid fun R W h => DRead_any R ⟨raw, 0, false⟩ t (raw.size : Int) W h ⟨Nat.zero_le _, by show raw.size ≤ _; omega⟩ (by show raw.size ≤ _; omega) (by omega)
  have hend := (part_all raw 0 (Nat.zero_le _)).2
  rw [show (raw.size : Int) - ((0 : Nat) : Int) = raw.size from by omega] at hend
  rw [hend] at CR
  have CB := Lib.hid fun R W h => Bad_any R ⟨raw, raw.size, false⟩ W h
  have CF := Lib.hid fun R W h => Left_any R ⟨raw, raw.size, false⟩ W h ⟨Nat.le_refl _, by show raw.size ≤ _; omega⟩
  rw [show (⟨raw, raw.size, false⟩ : Rd).left = 0 from Nat.sub_self _] at CF
  clear hend
  have hbl2 : (q.bytes.length : Int) ≤ 255 := by omega
  obtain ⟨F, hF⟩ : ∃ F, q.bytes.length = F := ⟨_, rfl⟩
  rw [hF] at CN hbw hbl2
  have CW2 : Hid (∀ B G W, WrAt W B G q → Calls Try.prog 66 #[.pointer (some ⟨B, 0, none⟩)] W fun e w' => e = .returned (.int .i64 F) ∧ W = w') := CN
  have he : errR t d = if rightB t d then 0 else 2 := rfl
  obtain ⟨b, hb⟩ : ∃ b, rightB t d = b := ⟨_, rfl⟩
  rw [hb] at he hbw
  rw [he] at CW
  clear hb he hF hq hq1 hbl CN hwok h14 h15 hn
  obtain ⟨dz, hdz⟩ : ∃ dz, d.size = dz := ⟨_, rfl⟩
  obtain ⟨rz, hrz⟩ : ∃ rz, raw.size = rz := ⟨_, rfl⟩
  rw [hdz] at hd'
  rw [hrz] at hraw' hbr CR CB CF
  go_enter Try.func11, Try.ntmps11
  go_wp2_with fail
  refine (CL.out _).mono ?_
  rintro e w1 ⟨rfl, hx⟩
  have HX := Lib.hid hx; clear hx
  go_wp2_with fail
  refine (New_any 65536 _).mono ?_
  rintro e w2 ⟨rfl, hw, hx⟩
  obtain ⟨B, hB⟩ : ∃ B, w1.heap.size + 1 = B := ⟨_, rfl⟩
  rw [hB] at hw ⊢
  clear hB
  have Hw := Lib.hid hw; clear hw
  have hww : w.heap.size ≤ w1.heap.size := HX.out.size
  have HK := Lib.hid ((HX.out.trans hx).keeps.mono (K' := fun k => k < w.heap.size) fun _ _ _ => trivial); clear hx
  go_wp2_with fail
  refine (CA.out B _ _ Hw.out).mono ?_
  rintro e w3 ⟨⟨v3, rfl⟩, hw, hk⟩
  have Hw := Lib.hid hw; clear hw
  have HK := Lib.hid (HK.out.trans (hk.mono fun j _ hj => by omega)); clear hk
  go_wp2_with fail
  refine (CW2.out B _ _ Hw.out).mono ?_
  rintro e w3' ⟨rfl, rfl⟩
  go_wp2_with fail
  refine (CW.out B _ _ Hw.out).mono ?_
  rintro e w4 ⟨rfl, hw, hk⟩
  have Hw := Lib.hid hw; clear hw
  have HK := Lib.hid (HK.out.trans (hk.mono fun j _ hj => by omega)); clear hk
  cases b with
  | false =>
    simp only [Bool.false_eq_true, if_false]
    clear hbw CO
    go_wp2_with fail
    refine (CP.out _).mono ?_
    rintro e wa ⟨rfl, hr, hx⟩
    obtain ⟨R2, hR2⟩ : ∃ R2, w4.heap.size = R2 := ⟨_, rfl⟩
    rw [hR2] at hr ⊢
    have hR2w : w.heap.size ≤ R2 := by rw [← hR2]; exact HK.out.size
    have Hr := Lib.hid hr; clear hr hR2
    have HK := Lib.hid (HK.out.trans (hx.keeps.mono fun _ _ _ => trivial)); clear hx
    rcases hbr with ⟨x, hg, hxs, hxe⟩ | hg
    · rw [hg] at CR
      clear hg
      have CC := Lib.hid fun W => DCheck_any t x W hxs
      rw [hxe] at CC
      clear hxe
      go_wp2_with fail
      refine (CR.out R2 _ Hr.out).mono ?_
      rintro e wb ⟨rfl, hr, hk⟩
      have Hr := Lib.hid hr; clear hr
      have HK := Lib.hid (HK.out.trans (hk.mono fun j _ hj => by omega)); clear hk
      go_wp2_with fail
      refine (CC.out _).mono ?_
      rintro e wc ⟨rfl, hx⟩
      have Hr := Lib.hid (hx.keeps.rd Hr.out trivial)
      have HK := Lib.hid (HK.out.trans (hx.keeps.mono fun _ _ _ => trivial)); clear hx
      go_wp2_with fail
      refine (CB.out R2 _ Hr.out).mono ?_
      rintro e wd ⟨rfl, rfl⟩
      go_wp2_with fail
      refine (CF.out R2 _ Hr.out).mono ?_
      rintro e wd ⟨rfl, rfl⟩
      have HK := Lib.hid HK.out.drew
      go_wp2
      go_ret
      exact ⟨rfl, HK.out.ext fun _ h => h⟩
    · rw [hg] at CR
      clear hg
      go_wp2_with fail
      refine (CR.out R2 _ Hr.out).mono ?_
      rintro e wb ⟨rfl, hr, hk⟩
      have HK := Lib.hid (HK.out.trans (hk.mono fun j _ hj => by omega)); clear hk hr
      go_wp2
      go_ret
      exact ⟨rfl, HK.out.ext fun _ h => h⟩
  | true =>
    simp only [if_true]
    obtain ⟨s, h1, h2, h3, h4⟩ := hbw rfl
    rw [h1] at CO
    have CRs := Lib.hid fun R W h => Raw_any R ⟨s, 0, false⟩ (F : Int) W h ⟨Nat.zero_le _, by show s.size ≤ _; omega⟩ (by omega)
    rw [rawR_fit s 0 F (by omega), Nat.zero_add] at CRs
    have CDs := Lib.hid fun R W h => DRead_any R ⟨s, F, false⟩ t ((s.size : Int) - F) W h ⟨h2, by show s.size ≤ _; omega⟩ (by show s.size ≤ _; omega) (by omega)
    rw [h4, (part_all s F h2).2] at CDs
    have CBs := Lib.hid fun R W h => Bad_any R ⟨s, s.size, false⟩ W h
    have CFs := Lib.hid fun R W h => Left_any R ⟨s, s.size, false⟩ W h ⟨Nat.le_refl _, by show s.size ≤ _; omega⟩
    rw [show (⟨s, s.size, false⟩ : Rd).left = 0 from Nat.sub_self _] at CFs
    obtain ⟨sz, hsz⟩ : ∃ sz, s.size = sz := ⟨_, rfl⟩
    rw [hsz] at h2 h3 CDs CBs CFs
    clear h1 h4 hbw
    have hdd : (d.toList == d.toList) = true := by simp
    go_wp2_with fail
    refine (CO.out B _ _ Hw.out).mono ?_
    rintro e w4' ⟨rfl, rfl⟩
    go_wp2_with fail
    refine (Open_any s _).mono ?_
    rintro e w5 ⟨rfl, hr, hx⟩
    obtain ⟨R, hR⟩ : ∃ R, w4.heap.size = R := ⟨_, rfl⟩
    rw [hR] at hr ⊢
    have hRw : w.heap.size ≤ R := by rw [← hR]; exact HK.out.size
    have Hr := Lib.hid hr; clear hr hR
    have HK := Lib.hid (HK.out.trans (hx.keeps.mono fun _ _ _ => trivial)); clear hx
    go_wp2_with fail
    refine (CRs.out R _ Hr.out).mono ?_
    rintro e w6 ⟨rfl, hr, hk, _⟩
    have Hr := Lib.hid hr; clear hr
    have HK := Lib.hid (HK.out.trans (hk.mono fun j _ hj => by omega)); clear hk
    go_wp2_with fail
    refine (CDs.out R _ Hr.out).mono ?_
    rintro e w7 ⟨rfl, hr, hk⟩
    have Hr := Lib.hid hr; clear hr
    have HK := Lib.hid (HK.out.trans (hk.mono fun j _ hj => by omega)); clear hk
    go_wp2_with fail
    refine (CFs.out R _ Hr.out).mono ?_
    rintro e w8 ⟨rfl, rfl⟩
    have HK := Lib.hid HK.out.drew
    have Hr := Lib.hid ((Keeps.refl (fun _ => True) w7).drew.rd Hr.out trivial)
    go_wp2_with fail
    refine (CBs.out R _ Hr.out).mono ?_
    rintro e w8 ⟨rfl, rfl⟩
    go_wp2_with fail
    refine (CP.out _).mono ?_
    rintro e wa ⟨rfl, hr, hx⟩
    obtain ⟨R2, hR2⟩ : ∃ R2, w7.drew.heap.size = R2 := ⟨_, rfl⟩
    rw [hR2] at hr ⊢
    have hR2w : w.heap.size ≤ R2 := by rw [← hR2]; exact HK.out.size
    have Hr := Lib.hid hr; clear hr hR2
    have HK := Lib.hid (HK.out.trans (hx.keeps.mono fun _ _ _ => trivial)); clear hx
    rcases hbr with ⟨x, hg, hxs, hxe⟩ | hg
    · rw [hg] at CR
      clear hg
      have CC := Lib.hid fun W => DCheck_any t x W hxs
      rw [hxe] at CC
      clear hxe
      go_wp2_with fail
      refine (CR.out R2 _ Hr.out).mono ?_
      rintro e wb ⟨rfl, hr, hk⟩
      have Hr := Lib.hid hr; clear hr
      have HK := Lib.hid (HK.out.trans (hk.mono fun j _ hj => by omega)); clear hk
      go_wp2_with fail
      refine (CC.out _).mono ?_
      rintro e wc ⟨rfl, hx⟩
      have Hr := Lib.hid (hx.keeps.rd Hr.out trivial)
      have HK := Lib.hid (HK.out.trans (hx.keeps.mono fun _ _ _ => trivial)); clear hx
      go_wp2_with fail
      refine (CB.out R2 _ Hr.out).mono ?_
      rintro e wd ⟨rfl, rfl⟩
      go_wp2_with fail
      refine (CF.out R2 _ Hr.out).mono ?_
      rintro e wd ⟨rfl, rfl⟩
      have HK := Lib.hid HK.out.drew
      go_wp2
      go_ret
      exact ⟨rfl, HK.out.ext fun _ h => h⟩
    · rw [hg] at CR
      clear hg
      go_wp2_with fail
      refine (CR.out R2 _ Hr.out).mono ?_
      rintro e wb ⟨rfl, hr, hk⟩
      have HK := Lib.hid (HK.out.trans (hk.mono fun j _ hj => by omega)); clear hk hr
      go_wp2
      go_ret
      exact ⟨rfl, HK.out.ext fun _ h => h⟩

end Go.Proofs.Ytmmjhdkoccpdjaa
