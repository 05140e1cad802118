/- What rdata's Read, Addr, Least, Texts do. Conditions: bytes of a bound. -/
import Derived.Test.YteoelhhkdfmaiaaRdF
namespace Go.Proofs.Yteoelhhkdfmaiaa
open Go Go.RowKit Go.Shelf
attribute [local go_sem] Oper.semAt_some wide_fn wide_depth

def gotR (t : Int) (r : Rd) (n : Int) : ByteArray × Int :=
  if (partR r n).bad then (⟨#[]⟩, 5) else if dataB t (partR r n) then ((outR (dataW t (partR r n))).1, 0) else (⟨#[]⟩, 6)
theorem partR_ok {r : Rd} (h : r.ok) (n : Int) : (partR r n).ok ∧ (partR r n).s.size ≤ r.s.size := by
  have h1 := rawR_ok h n
  unfold partR
  split
  · exact ⟨⟨Nat.le_refl _, Nat.zero_le _⟩, Nat.zero_le _⟩
  · next hb =>
    have hb' : ¬ (n < 0 ∨ (r.left : Int) < n) := fun hc => hb (by rw [rawR, if_pos hc]; rfl)
    have e : rawR r n = (r.s.extract r.at_ (r.at_ + n.toNat), ⟨r.s, r.at_ + n.toNat, r.bad⟩) := by rw [rawR, if_neg hb']
    rw [e] at h1 ⊢
    obtain ⟨h2, h3⟩ := h1
    simp only at h2 h3 ⊢
    have hz : (r.s.extract 0 (r.at_ + n.toNat)).size = r.at_ + n.toNat := by rw [ByteArray.size_extract]; omega
    refine ⟨⟨?_, ?_⟩, ?_⟩
    · show r.at_ ≤ (r.s.extract 0 (r.at_ + n.toNat)).size; omega
    · show (r.s.extract 0 (r.at_ + n.toNat)).size ≤ _; omega
    · omega
set_option maxRecDepth 100000 in
set_option maxHeartbeats 2000000 in
theorem DRead_any (R : Nat) (r : Rd) (t : Int) (n : Int) (w : World) (h : RdAt w R r) (hr : r.ok) (hs : r.s.size ≤ 4294967296) (hn : -9223372036854775808 ≤ n ∧ n ≤ 9223372036854775807) :
    Calls Try.prog 37 #[.pointer (some ⟨R, 0, none⟩), .int .u16 t, .int .i64 n] w fun e w' =>
      e = .returned (.tuple #[.string (gotR t r n).1, .int .i64 (gotR t r n).2]) ∧ RdAt w' R (rawR r n).2 ∧ Keeps (fun j => j ≠ R) w w' := by
  have CP := Lib.hid (Part_any R r n w h hr hn)
  have hR : R < w.heap.size := (Array.getElem?_eq_some_iff.1 h).1
  have hrr : gotR t r n = if (partR r n).bad then (⟨#[]⟩, 5) else if dataB t (partR r n) then ((outR (dataW t (partR r n))).1, 0) else (⟨#[]⟩, 6) := rfl
  obtain ⟨hpo, hps⟩ := partR_ok hr n
  have CL := Lib.hid fun P W h => plain_any t P (partR r n) W h hpo (Nat.le_trans hps hs)
  have CB := Lib.hid fun P W h => Bad_any P (partR r n) W h
  have hdr : dataR t (partR r n) = if dataB t (partR r n) then ((outR (dataW t (partR r n))).1, true) else (⟨#[]⟩, false) := rfl
  unfold PartPost at CP
  obtain ⟨p, hp⟩ : ∃ p, partR r n = p := ⟨_, rfl⟩
  rw [hp] at CP CL CB hrr hdr
  have Hrr := Lib.hid hrr
  clear hrr hp hpo hps hr hs hn h
  obtain ⟨bad, hbad⟩ : ∃ b, p.bad = b := ⟨_, rfl⟩
  rw [hbad] at CB Hrr
  clear hbad
  obtain ⟨db, hdb⟩ : ∃ b, dataB t p = b := ⟨_, rfl⟩
  rw [hdb] at Hrr hdr
  rw [hdr] at CL
  clear hdb hdr
  go_enter Try.func37, Try.ntmps37
  go_wp2_with fail
  refine CP.out.mono ?_
  rintro e w1 ⟨P, hP, rfl, hp1, hr1, hk1⟩
  have Hp1 := Lib.hid hp1
  have Hr1 := Lib.hid hr1
  have Hk1 := Lib.hid hk1
  clear hp1 hr1 hk1
  cases bad with
  | true =>
    go_wp2_with fail
    refine (CB.out P _ Hp1.out).mono ?_
    rintro e w2 ⟨rfl, rfl⟩
    go_wp2
    go_ret2
    exact ⟨by rw [Hrr.out]; rfl, Hr1.out, Hk1.out⟩
  | false =>
    go_wp2_with fail
    refine (CB.out P _ Hp1.out).mono ?_
    rintro e w2 ⟨rfl, rfl⟩
    go_wp2_with fail
    refine (CL.out P _ Hp1.out).mono ?_
    rintro e w2 ⟨rfl, _, hk2⟩
    have Hr2 := Lib.hid (hk2.rd Hr1.out (by omega))
    have Hk2 : Hid (Keeps (fun j => j ≠ R) w w2) := Lib.hid (((Hk1.out.mono (K' := fun j => j ≠ R ∧ j ≠ P) fun _ _ h => h.1).trans (hk2.mono fun _ _ h => h.2)).mono fun j hj h => ⟨h, by omega⟩)
    clear hk2
    cases db with
    | true =>
      simp only [if_true]
      go_wp2
      go_ret2
      exact ⟨by rw [Hrr.out]; rfl, Hr2.out, Hk2.out⟩
    | false =>
      simp only
      go_wp2
      go_ret2
      exact ⟨by rw [Hrr.out]; rfl, Hr2.out, Hk2.out⟩

def addrR (d : ByteArray) : Int × Int := if rightB 1 d then (((numR ⟨d, 0, false⟩ 4).1 : Int), 0) else (0, 2)
set_option maxRecDepth 100000 in
set_option maxHeartbeats 2000000 in
theorem DAddr_any (d : ByteArray) (w : World) (hd : d.size ≤ 4294967296) :
    Calls Try.prog 14 #[.string d] w fun e w' => e = .returned (.tuple #[.int .u32 (addrR d).1, .int .i64 (addrR d).2]) ∧ Ext w w' := by
  have CR := Lib.hid fun w => isRight_any 1 d w hd
  have hok : (⟨d, 0, false⟩ : Rd).ok := ⟨Nat.zero_le _, by show d.size ≤ _; omega⟩
  have CN := Lib.hid fun R W h => Num_any R ⟨d, 0, false⟩ 4 W h hok (by decide)
  have ha : addrR d = if rightB 1 d then (((numR ⟨d, 0, false⟩ 4).1 : Int), 0) else (0, 2) := rfl
  have hlt : (numR ⟨d, 0, false⟩ 4).1 < 4294967296 := by
    have hb := beN_lt (bl (rawR ⟨d, 0, false⟩ 4).1)
    rw [bl_size] at hb
    rw [numR, if_pos (by decide)]
    rcases rawR_size ⟨d, 0, false⟩ 4 hok with h1 | h1
    · rw [show ((4 : Nat) : Int) = 4 from rfl] at h1; rw [h1] at hb; exact hb
    · rw [show ((4 : Nat) : Int) = 4 from rfl] at h1; rw [h1]; show beN (bl ⟨#[]⟩) < _; decide +kernel
  rw [show ((4 : Nat) : Int) = 4 from rfl] at CN
  obtain ⟨x, hx⟩ : ∃ x, (numR ⟨d, 0, false⟩ 4).1 = x := ⟨_, rfl⟩
  rw [hx] at CN ha hlt
  obtain ⟨b, hb⟩ : ∃ b, rightB 1 d = b := ⟨_, rfl⟩
  rw [hb] at CR ha
  have Ha := Lib.hid ha
  have h2 : ((x : Int) < 4294967296) := by omega
  have h3 : ((0 : Int) ≤ x) := by omega
  clear hx hb ha hok hlt hd
  go_enter Try.func14, Try.ntmps14
  go_wp2_with fail
  refine (CR.out _).mono ?_
  rintro e w1 ⟨rfl, hx⟩
  have Hx := Lib.hid hx; clear hx
  cases b with
  | false =>
    go_wp2
    go_ret2
    exact ⟨by rw [Ha.out]; rfl, Hx.out⟩
  | true =>
    go_wp2_with fail
    refine (Open_any d _).mono ?_
    rintro e w2 ⟨rfl, hr2, hx2⟩
    have Hr2 := Lib.hid hr2; clear hr2
    have Hx2 := Lib.hid hx2; clear hx2
    go_wp2_with fail
    refine (CN.out _ _ Hr2.out).mono ?_
    rintro e w3 ⟨rfl, _, hk3⟩
    have Hx3 := Lib.hid (Hx.out.trans (ext_of Hx2.out hk3)); clear hk3
    go_wp2
    go_ret2
    exact ⟨by rw [Ha.out]; simp, Hx3.out⟩

def leastR (d : ByteArray) : Int × Int := if rightB 6 d then (((numR ⟨d.extract (d.size - 4) d.size, 0, false⟩ 4).1 : Int), 0) else (0, 2)
theorem least_size {d : ByteArray} (h : rightB 6 d = true) (hd : d.size ≤ 4294967296) : 4 ≤ d.size := by
  have hm := right_made (t := 6) (by decide) (by omega) h
  obtain ⟨l, hl⟩ : ∃ l, (readPcs (pieces 6) ⟨d, 0, false⟩).1 = l := ⟨_, rfl⟩
  rw [hl] at hm
  have hk := hm.kinds
  rw [show pieces 6 = [.name, .name, .num 4, .num 4, .num 4, .num 4, .num 4] from by kernel_rfl] at hk
  match l, hk with
  | [a, b, c, e, f, g, i], hk =>
    simp only [List.map_cons, List.map_nil, List.cons.injEq, and_true] at hk
    have hz := congrArg List.length hm.eq
    rw [bl_size] at hz
    have hi : (itB i).length = 4 := by
      cases i with
      | num k x =>
        have : k = 4 := by have := hk.2.2.2.2.2.2; simp only [pcOf, Pc.num.injEq] at this; exact this
        subst this; exact nbs_length x 4 (by decide)
      | raw b => have := hk.2.2.2.2.2.2; cases this
      | name n => have := hk.2.2.2.2.2.2; cases this
    have : 4 ≤ (flat [a, b, c, e, f, g, i]).length := by
      simp only [flat, List.map_cons, List.map_nil, List.flatten_cons, List.flatten_nil, List.length_append, List.length_nil]
      omega
    omega

set_option maxRecDepth 100000 in
set_option maxHeartbeats 2000000 in
theorem DLeast_any (d : ByteArray) (w : World) (hd : d.size ≤ 4294967296) :
    Calls Try.prog 16 #[.string d] w fun e w' => e = .returned (.tuple #[.int .u32 (leastR d).1, .int .i64 (leastR d).2]) ∧ Ext w w' := by
  have CR := Lib.hid fun w => isRight_any 6 d w hd
  obtain ⟨s, hs⟩ : ∃ s, d.extract (d.size - 4) d.size = s := ⟨_, rfl⟩
  have hsz : s.size ≤ 4294967296 := by rw [← hs, ByteArray.size_extract]; omega
  have hok : (⟨s, 0, false⟩ : Rd).ok := ⟨Nat.zero_le _, by show s.size ≤ _; omega⟩
  have CN := Lib.hid fun R W h => Num_any R ⟨s, 0, false⟩ 4 W h hok (by decide)
  have ha : leastR d = if rightB 6 d then (((numR ⟨d.extract (d.size - 4) d.size, 0, false⟩ 4).1 : Int), 0) else (0, 2) := rfl
  have hle := least_size (d := d)
  have hlt : (numR ⟨s, 0, false⟩ 4).1 < 4294967296 := by
    have hb := beN_lt (bl (rawR ⟨s, 0, false⟩ 4).1)
    rw [bl_size] at hb
    rw [numR, if_pos (by decide)]
    rcases rawR_size ⟨s, 0, false⟩ 4 hok with h1 | h1
    · rw [show ((4 : Nat) : Int) = 4 from rfl] at h1; rw [h1] at hb; exact hb
    · rw [show ((4 : Nat) : Int) = 4 from rfl] at h1; rw [h1]; show beN (bl ⟨#[]⟩) < _; decide +kernel
  rw [show ((4 : Nat) : Int) = 4 from rfl] at CN
  rw [hs] at ha
  obtain ⟨x, hx⟩ : ∃ x, (numR ⟨s, 0, false⟩ 4).1 = x := ⟨_, rfl⟩
  rw [hx] at CN ha hlt
  obtain ⟨b, hb⟩ : ∃ b, rightB 6 d = b := ⟨_, rfl⟩
  rw [hb] at CR ha hle
  have Ha := Lib.hid ha
  have h2 : ((x : Int) < 4294967296) := by omega
  have h3 : ((0 : Int) ≤ x) := by omega
  clear hx hb ha hok hlt
  go_enter Try.func16, Try.ntmps16
  go_wp2_with fail
  refine (CR.out _).mono ?_
  rintro e w1 ⟨rfl, hx⟩
  have Hx := Lib.hid hx; clear hx
  cases b with
  | false =>
    clear hle
    go_wp2
    go_ret2
    exact ⟨by rw [Ha.out]; rfl, Hx.out⟩
  | true =>
    have hle := hle rfl hd
    have Hs := Lib.hid hs
    have CO := Lib.hid fun W => Open_any s W
    rw [← hs] at CO
    clear hs hsz
    go_wp2_with fail
    refine (CO.out _).mono ?_
    rintro e w2 ⟨rfl, hr2, hx2⟩
    rw [Hs.out] at hr2
    have Hr2 := Lib.hid hr2; clear hr2
    have Hx2 := Lib.hid hx2; clear hx2
    go_wp2_with fail
    refine (CN.out _ _ Hr2.out).mono ?_
    rintro e w3 ⟨rfl, _, hk3⟩
    have Hx3 := Lib.hid (Hx.out.trans (ext_of Hx2.out hk3)); clear hk3
    go_wp2
    go_ret2
    exact ⟨by rw [Ha.out]; simp, Hx3.out⟩

/-- What Texts answers. -/
def txtR (d : ByteArray) : List ByteArray := if rightB 16 d then (textsR d).1 else []
set_option maxRecDepth 100000 in
set_option maxHeartbeats 2000000 in
theorem DTexts_any (d : ByteArray) (w : World) (hd : d.size ≤ 4294967296) :
    Calls Try.prog 18 #[.string d] w fun e w' => ∃ v, e = .returned (.tuple #[v, .int .i64 (errR 16 d)]) ∧ Strs w' v (txtR d) ∧ Ext w w' := by
  have CR := Lib.hid fun w => isRight_any 16 d w hd
  have CT := Lib.hid fun w => texts_any d w hd
  have hf : rightB 16 d = true → textsB d = true := by
    intro h
    rw [raw_right (by decide) d, Bool.and_eq_true] at h
    exact h.2
  unfold errR txtR
  obtain ⟨b, hb⟩ : ∃ b, rightB 16 d = b := ⟨_, rfl⟩
  rw [hb] at CR hf ⊢
  clear hb
  go_enter Try.func18, Try.ntmps18
  go_wp2_with fail
  refine (CR.out _).mono ?_
  rintro e w1 ⟨rfl, hx⟩
  have Hx := Lib.hid hx; clear hx
  cases b with
  | false =>
    clear hf
    go_wp2
    go_ret2
    exact ⟨_, rfl, .inl ⟨rfl, rfl⟩, Hx.out⟩
  | true =>
    have HF := Lib.hid (hf rfl); clear hf
    go_wp2_with fail
    refine (CT.out _).mono ?_
    rintro e w2 ⟨v, rfl, hs, _, hx2⟩
    have Hs := Lib.hid (hs HF.out); clear hs
    have Hx2 := Lib.hid (Hx.out.trans hx2); clear hx2
    go_wp2
    go_ret2
    exact ⟨_, rfl, Hs.out, Hx2.out⟩

end Go.Proofs.Yteoelhhkdfmaiaa
