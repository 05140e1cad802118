/- Several texts in one (RdA RdB RdC RdD RdE Math10 Math11). Conditions: each says its own. -/
import Derived.Test.YteoelhhkdfmaiaaPackX
import Derived.Test.YteoelhhkdfmaiaaWalkM
import Derived.WalkSpells

/- What rdata's formOf does. Conditions: none. -/
namespace Go.Proofs.Yteoelhhkdfmaiaa
open Go Go.RowKit Go.Shelf
attribute [local go_sem] Oper.semAt_some wide_fn wide_depth

/-- How data with names are made: numbers of 2 bytes, names, numbers of 4 bytes; whether there are names. -/
def formR (t : Int) : Nat × Nat × Nat × Bool :=
  if t = 2 ∨ t = 5 ∨ t = 12 then (0, 1, 0, true) else if t = 15 then (1, 1, 0, true) else if t = 33 then (3, 1, 0, true) else if t = 6 then (0, 2, 5, true) else (0, 0, 0, false)

set_option maxRecDepth 100000 in
set_option maxHeartbeats 2000000 in
theorem formOf_2 (w : World) : Calls Try.prog 95 #[.int .u16 2] w fun e w' => e = .returned (.tuple #[.agg #[.int .i64 0, .int .i64 1, .int .i64 0], .bool true]) ∧ Ext w w' := by
  go_enter Try.func95, Try.ntmps95
  go_wp2
  exact bodyPost_ret (v := .tuple #[.agg #[.int .i64 0, .int .i64 1, .int .i64 0], .bool true]) (by simp [results, Try.results95, go_sem]) rfl ⟨rfl, (Ext.refl _).alloc _⟩
set_option maxRecDepth 100000 in
set_option maxHeartbeats 2000000 in
theorem formOf_5 (w : World) : Calls Try.prog 95 #[.int .u16 5] w fun e w' => e = .returned (.tuple #[.agg #[.int .i64 0, .int .i64 1, .int .i64 0], .bool true]) ∧ Ext w w' := by
  go_enter Try.func95, Try.ntmps95
  go_wp2
  exact bodyPost_ret (v := .tuple #[.agg #[.int .i64 0, .int .i64 1, .int .i64 0], .bool true]) (by simp [results, Try.results95, go_sem]) rfl ⟨rfl, (Ext.refl _).alloc _⟩
set_option maxRecDepth 100000 in
set_option maxHeartbeats 2000000 in
theorem formOf_12 (w : World) : Calls Try.prog 95 #[.int .u16 12] w fun e w' => e = .returned (.tuple #[.agg #[.int .i64 0, .int .i64 1, .int .i64 0], .bool true]) ∧ Ext w w' := by
  go_enter Try.func95, Try.ntmps95
  go_wp2
  exact bodyPost_ret (v := .tuple #[.agg #[.int .i64 0, .int .i64 1, .int .i64 0], .bool true]) (by simp [results, Try.results95, go_sem]) rfl ⟨rfl, (Ext.refl _).alloc _⟩
set_option maxRecDepth 100000 in
set_option maxHeartbeats 2000000 in
theorem formOf_15 (w : World) : Calls Try.prog 95 #[.int .u16 15] w fun e w' => e = .returned (.tuple #[.agg #[.int .i64 1, .int .i64 1, .int .i64 0], .bool true]) ∧ Ext w w' := by
  go_enter Try.func95, Try.ntmps95
  go_wp2
  exact bodyPost_ret (v := .tuple #[.agg #[.int .i64 1, .int .i64 1, .int .i64 0], .bool true]) (by simp [results, Try.results95, go_sem]) rfl ⟨rfl, (Ext.refl _).alloc _⟩
set_option maxRecDepth 100000 in
set_option maxHeartbeats 2000000 in
theorem formOf_33 (w : World) : Calls Try.prog 95 #[.int .u16 33] w fun e w' => e = .returned (.tuple #[.agg #[.int .i64 3, .int .i64 1, .int .i64 0], .bool true]) ∧ Ext w w' := by
  go_enter Try.func95, Try.ntmps95
  go_wp2
  exact bodyPost_ret (v := .tuple #[.agg #[.int .i64 3, .int .i64 1, .int .i64 0], .bool true]) (by simp [results, Try.results95, go_sem]) rfl ⟨rfl, (Ext.refl _).alloc _⟩
set_option maxRecDepth 100000 in
set_option maxHeartbeats 2000000 in
theorem formOf_6 (w : World) : Calls Try.prog 95 #[.int .u16 6] w fun e w' => e = .returned (.tuple #[.agg #[.int .i64 0, .int .i64 2, .int .i64 5], .bool true]) ∧ Ext w w' := by
  go_enter Try.func95, Try.ntmps95
  go_wp2
  exact bodyPost_ret (v := .tuple #[.agg #[.int .i64 0, .int .i64 2, .int .i64 5], .bool true]) (by simp [results, Try.results95, go_sem]) rfl ⟨rfl, (Ext.refl _).alloc _⟩
set_option maxRecDepth 100000 in
set_option maxHeartbeats 2000000 in
theorem formOf_no (t : Int) (h2 : (t == 2) = false) (h5 : (t == 5) = false) (h12 : (t == 12) = false) (h15 : (t == 15) = false) (h33 : (t == 33) = false) (h6 : (t == 6) = false) (w : World) : Calls Try.prog 95 #[.int .u16 t] w fun e w' => e = .returned (.tuple #[.agg #[.int .i64 0, .int .i64 0, .int .i64 0], .bool false]) ∧ Ext w w' := by
  go_enter Try.func95, Try.ntmps95
  go_wp2
  exact bodyPost_ret (v := .tuple #[.agg #[.int .i64 0, .int .i64 0, .int .i64 0], .bool false]) (by simp [results, Try.results95, go_sem]) rfl ⟨rfl, (Ext.refl _).alloc _⟩

theorem formOf_any (t : Int) (w : World) : Calls Try.prog 95 #[.int .u16 t] w fun e w' => e = .returned (.tuple #[.agg #[.int .i64 ((formR t).1 : Nat), .int .i64 ((formR t).2.1 : Nat), .int .i64 ((formR t).2.2.1 : Nat)], .bool (formR t).2.2.2]) ∧ Ext w w' := by
  by_cases h2 : t = 2
  · subst h2; exact formOf_2 w
  · by_cases h5 : t = 5
    · subst h5; exact formOf_5 w
    · by_cases h12 : t = 12
      · subst h12; exact formOf_12 w
      · by_cases h15 : t = 15
        · subst h15; exact formOf_15 w
        · by_cases h33 : t = 33
          · subst h33; exact formOf_33 w
          · by_cases h6 : t = 6
            · subst h6; exact formOf_6 w
            · have e : formR t = (0, 0, 0, false) := by
                rw [formR, if_neg (by omega), if_neg h15, if_neg h33, if_neg h6]
              rw [e]
              exact formOf_no t (beq_eq_false_iff_ne.2 h2) (beq_eq_false_iff_ne.2 h5) (beq_eq_false_iff_ne.2 h12) (beq_eq_false_iff_ne.2 h15) (beq_eq_false_iff_ne.2 h33) (beq_eq_false_iff_ne.2 h6) w

/-- The texts of TXT's data, as they are read; whether they are whole. -/
def textsF : Nat → Rd → List ByteArray → List ByteArray × Rd
  | 0, r, l => (l, r)
  | f + 1, r, l => if 0 < r.left then textsF f (rawR (numR r 1).2 ((numR r 1).1 : Int)).2 (l ++ [(rawR (numR r 1).2 ((numR r 1).1 : Int)).1]) else (l, r)
def textsR (d : ByteArray) : List ByteArray × Rd := textsF (d.size + 1) ⟨d, 0, false⟩ []
def textsB (d : ByteArray) : Bool := !((textsR d).2.bad || (textsR d).1.isEmpty)
/-- What fits answers. -/
def fitsB (t : Int) (d : ByteArray) : Bool := if t = 1 then decide (d.size = 4) else if t = 28 then decide (d.size = 16) else if t = 16 then textsB d else true

end Go.Proofs.Yteoelhhkdfmaiaa

/- What rdata's texts and fits do. Conditions: strings of a bound. -/
namespace Go.Proofs.Yteoelhhkdfmaiaa
open Go Go.RowKit Go.Shelf
attribute [local go_sem] Oper.semAt_some wide_fn wide_depth

def TextsPost (d : ByteArray) (w : World) (e : Ending) (w' : World) : Prop :=
  ∃ v, e = .returned (.tuple #[v, .bool (textsB d)]) ∧ (textsB d = true → Strs w' v (textsR d).1) ∧ (textsB d = false → v = .slice none 0 0) ∧ Ext w w'
theorem textsPost_no {d w w'} (h : textsB d = false) (hx : Ext w w') : TextsPost d w (.returned (.tuple #[.slice none 0 0, .bool false])) w' :=
  ⟨_, by rw [h], fun h' => by rw [h] at h'; exact Bool.noConfusion h', fun _ => rfl, hx⟩
theorem textsPost_yes {d w w' v} (h : textsB d = true) (hs : Strs w' v (textsR d).1) (hx : Ext w w') : TextsPost d w (.returned (.tuple #[v, .bool true])) w' :=
  ⟨_, by rw [h], fun _ => hs, fun h' => by rw [h] at h'; exact Bool.noConfusion h', hx⟩
theorem numR_ok {r : Rd} (h : r.ok) (k : Int) : (numR r k).2.ok := by
  unfold numR; split
  · exact rawR_ok h _
  · exact ⟨Nat.le_refl _, Nat.zero_le _⟩
theorem rawR_left {r : Rd} (h : r.ok) (n : Int) : (rawR r n).2.left ≤ r.left ∧ (0 < n → 0 < r.left → (rawR r n).2.left < r.left) := by
  obtain ⟨h1, h2⟩ := h
  unfold rawR
  split
  · next hc => exact ⟨Nat.zero_le _, fun _ h => h⟩
  · next hc =>
    have e : (⟨r.s, r.at_ + n.toNat, r.bad⟩ : Rd).left = r.left - n.toNat := by unfold Rd.left; show r.s.size - (r.at_ + n.toNat) = r.s.size - r.at_ - n.toNat; omega
    show (⟨r.s, r.at_ + n.toNat, r.bad⟩ : Rd).left ≤ r.left ∧ _
    exact ⟨by rw [e]; omega, fun a b => by show (⟨r.s, r.at_ + n.toNat, r.bad⟩ : Rd).left < r.left; rw [e]; omega⟩
theorem numR_1 (r : Rd) : numR r 1 = (beN (bl (rawR r 1).1), (rawR r 1).2) := by rw [numR, if_pos (by decide)]
theorem numR_lt (r : Rd) (hr : r.ok) : (numR r ((1 : Nat) : Int)).1 < 256 := by
  rw [show ((1 : Nat) : Int) = 1 from rfl, numR_1]
  have h := beN_lt (bl (rawR r 1).1)
  rw [bl_size] at h
  rcases rawR_size r 1 hr with h1 | h1
  · rw [show ((1 : Nat) : Int) = 1 from rfl] at h1; rw [h1] at h; simpa using h
  · rw [show ((1 : Nat) : Int) = 1 from rfl] at h1; rw [h1]; show beN (bl ⟨#[]⟩) < 256; decide +kernel
theorem neql_nil (ao : Option Addr) (n c : Nat) (w : World) : (binOp .eql 22 (.slice ao n c) (.slice none 0 0)).run Try.prog w = .ok (.bool ao.isNone) w := Lib.run_eql_slice_nil w 22 9 ao n c 0 0 Try.underlying22

set_option maxRecDepth 100000 in
set_option maxHeartbeats 4000000 in
theorem texts_any (d : ByteArray) (w : World) (hd : d.size ≤ 4294967296) :
    Calls Try.prog 62 #[.string d] w (TextsPost d w) := by
  obtain ⟨i0, hi, hz0, hz1, hz2⟩ := info_parts infoString
  have hB : textsB d = !((textsR d).2.bad || (textsR d).1.isEmpty) := rfl
  have HB := Lib.hid hB; clear hB
  go_enter Try.func62, Try.ntmps62
  go_wp2_with fail
  refine (Open_any d w).mono ?_
  rintro e w1 ⟨rfl, hr, hx⟩
  obtain ⟨R, hR⟩ : ∃ R, w.heap.size = R := ⟨_, rfl⟩
  rw [hR] at hr ⊢
  have hR1 : R + 1 ≤ w1.heap.size := (Array.getElem?_eq_some_iff.1 hr).1
  have Hr := Lib.hid hr; clear hr
  have HX := Lib.hid hx; clear hx
  have HRe := Lib.hid hR; clear hR
  go_wp2_with fail
  go_loopw [4] (fun v wr => ∃ (f : Nat) (r : Rd) (l : List ByteArray) (lo : Option Addr) (c : Nat), v = .slice lo l.length c ∧ (l = [] → lo = none) ∧ textsR d = textsF f r l ∧ r.left < f ∧ l.length + r.left ≤ d.size ∧ r.ok ∧ RdAt wr R r ∧
      wr.ownsRow (R + 1) 9 1 (.slice lo l.length c) l.length (l.map Value.string) ∧ Keeps (fun j => j < R) w wr ∧ R + 1 ≤ wr.heap.size)
    (fun _ wr => match wr.cell? ⟨R, 0, none⟩, wr.cell? ⟨R, 1, none⟩ with | some (.string s), some (.int _ a) => s.size - a.toNat | _, _ => 0)
  case atStart => exact ⟨d.size + 1, ⟨d, 0, false⟩, [], none, 0, rfl, fun _ => rfl, rfl, by show d.size - 0 < d.size + 1; omega, by show 0 + (d.size - 0) ≤ d.size; omega, ⟨Nat.zero_le _, by show d.size ≤ _; omega⟩, Hr.out, World.ownsRow_nil _ _ _ _, (HX.out.keeps.mono fun _ _ _ => trivial), hR1⟩
  case round =>
    obtain ⟨f, r, l, lo, c, rfl, hne, hf, hlf, hll, hok, hr, hown, hk, hRw⟩ := hrel
    obtain ⟨f, rfl⟩ : ∃ f', f = f' + 1 := ⟨f - 1, by omega⟩
    have hfe : textsF (f + 1) r l = if 0 < r.left then textsF f (rawR (numR r 1).2 ((numR r 1).1 : Int)).2 (l ++ [(rawR (numR r 1).2 ((numR r 1).1 : Int)).1]) else (l, r) := rfl
    rw [hfe] at hf
    clear hfe
    have CL := Lib.hid (Left_any R r wr hr hok)
    have hm : (match wr.cell? ⟨R, 0, none⟩, wr.cell? ⟨R, 1, none⟩ with | some (.string s), some (.int _ a) => s.size - a.toNat | _, _ => 0) = r.left := by
      obtain ⟨c0, c1, _⟩ := hr.cells
      rw [c0, c1]; rfl
    obtain ⟨n, hn⟩ : ∃ n, r.left = n := ⟨_, rfl⟩
    by_cases hp : 0 < n
    · rw [if_pos (by omega)] at hf
      have hlt := rawR_left hok 1
      have hlt2 := rawR_left (numR_ok hok 1) ((numR r 1).1 : Int)
      have hok2 := numR_ok hok 1
      have hok3 := rawR_ok hok2 ((numR r 1).1 : Int)
      have hnl := numR_lt r hok
      rw [show ((1 : Nat) : Int) = 1 from rfl] at hnl
      have e1 := numR_1 r
      rw [← show (numR r 1).2 = (rawR r 1).2 from by rw [e1]] at hlt
      have CN := Lib.hid (Num_any R r 1 wr.drew hr hok (.inl rfl))
      rw [show ((1 : Nat) : Int) = 1 from rfl] at CN
      obtain ⟨⟨x, r1⟩, hx1⟩ : ∃ y, numR r 1 = y := ⟨_, rfl⟩
      rw [hx1] at hf hlt hlt2 hok2 hok3 hnl CN
      simp only at hf hlt hlt2 hok2 hok3 hnl
      have CR := Lib.hid fun W h => Raw_any R r1 (x : Int) W h hok2 (by omega)
      obtain ⟨⟨t, r2⟩, hx2⟩ : ∃ y, rawR r1 (x : Int) = y := ⟨_, rfl⟩
      rw [hx2] at hf hlt2 hok3 CR
      simp only at hf hlt2 hok3
      have hdec : r2.left < n := by have := hlt.2 (by omega) (by omega); omega
      have hll2 : l.length + 1 + r2.left ≤ d.size := by omega
      have Hf := Lib.hid hf
      have Hok3 := Lib.hid hok3
      have Hm := Lib.hid hm
      have Hk := Lib.hid hk
      rw [hn] at CL
      have hll3 : l.length ≤ 4294967296 := by omega
      have hx256 : (x : Int) < 256 := by omega
      have hx0 : (0 : Int) ≤ (x : Int) := by omega
      clear hf hok3 hok2 hok hm hk hx1 hx2 hlt hlt2 e1 hne hr
      have Hn := Lib.hid hn; clear hn
      go_wp2_with fail
      refine CL.out.mono ?_
      rintro e w2 ⟨rfl, rfl⟩
      go_wp2_with fail
      refine CN.out.mono ?_
      rintro e w3 ⟨rfl, hr1, hk1⟩
      have hk1' : Keeps (fun j => j ≠ R) wr w3 := ((Keeps.refl _ wr).drew).trans hk1
      have Hr1 := Lib.hid hr1; clear hr1 hk1
      go_wp2_with fail
      refine (CR.out w3 Hr1.out).mono ?_
      rintro e w4 ⟨rfl, hr2, hk2, hsz⟩
      clear hsz
      have hk12 := hk1'.trans hk2
      have hown4 := hk12.ownsRow hown (fun k hk => by omega)
      have hRz : R + 1 ≤ w4.heap.size := Nat.le_trans hRw hk12.size
      have Hr2 := Lib.hid hr2; clear hr2
      have Hk4 := Lib.hid (Hk.out.trans (hk12.mono fun j _ hj => by omega)); clear hk12 hk1' hk2 hown
      go_wp2_with (at_builtin; refine wpList_append_own _ rfl _ _ 22 rfl (R + 1) 9 i0 (.string ⟨#[]⟩) 1 16 Try.underlying22 hi hz0 hz1 hz2 rfl (by decide) _ _ _ rfl (hown4.alloc _) ⟨w4.heap.size, 0, none⟩ 1 1 [.string t] rfl rfl ?c1 ?c2 ?c3 ?c4 ?c5 ?_)
      case c1 =>
        intro j u hj
        match j, hj with
        | 0, hj => simp at hj; subst hj; simp [Addr.add]
      case c2 => intro u hu; simp at hu; subst hu; rfl
      case c3 => unfold maxLen; omega
      case c4 => omega
      case c5 => simp; omega
      intro v' w5 hown' hgrow _
      have hrow := hown4.lt
      have hk45 : Keeps (fun j => j < R + 1) w4 w5 := (((Keeps.refl _ w4).alloc _).grown hgrow (fun k e h => by have := (hrow k e).1; omega))
      have hr5 := hk45.rd Hr2.out (by omega)
      have Hk5 := Lib.hid (Hk4.out.trans (hk45.mono fun j _ hj => by omega))
      have hRz5 : R + 1 ≤ w5.heap.size := Nat.le_trans hRz hk45.size
      have hm2 : (match w5.cell? ⟨R, 0, none⟩, w5.cell? ⟨R, 1, none⟩ with | some (.string s), some (.int _ a) => s.size - a.toNat | _, _ => 0) = r2.left := by
        obtain ⟨c0, c1, _⟩ := hr5.cells
        rw [c0, c1]; rfl
      have Hm2 := Lib.hid hm2
      obtain ⟨lo', c', rfl⟩ := ownsRow_slice hown'
      have Hown' := Lib.hid hown'
      have Hr5 := Lib.hid hr5
      clear hown' hrow hk45 hgrow hown4 hr5 hm2
      go_wp2
      go_roundw
      case rel =>
        exact ⟨f, r2, l ++ [t], lo', c', by rw [List.length_append]; rfl, fun h => by simp at h, Hf.out, by have := Hn.out; omega, by rw [List.length_append, List.length_singleton]; exact hll2, Hok3.out, Hr5.out, by rw [List.length_append, List.map_append]; exact Hown'.out, Hk5.out, hRz5⟩
      case measure => rw [Hm2.out, Hm.out, Hn.out]; exact hdec
    · rw [if_neg (by omega)] at hf
      have hb : textsB d = !(r.bad || l.isEmpty) := by rw [HB.out, hf]
      have he1 : (textsR d).1 = l := by rw [hf]
      have Hb := Lib.hid hb; clear hb hf
      have Hs := Lib.hid (strs_of_row hown)
      have HXr : Hid (Ext w wr) := Lib.hid (hk.ext fun j hj => by have := HRe.out; omega)
      have CB := Lib.hid (Bad_any R r wr.drew hr)
      have He1 := Lib.hid he1
      rw [hn] at CL
      obtain rfl : n = 0 := by omega
      have hnl := neql_nil lo l.length c wr.drew
      clear hown hk hr hok hm he1 hn hll
      cases hbad : r.bad with
      | true =>
        rw [hbad] at CB Hb
        clear hbad hnl
        go_wp2_with fail
        refine CL.out.mono ?_
        rintro e w2 ⟨rfl, rfl⟩
        go_wp2_with fail
        refine CB.out.mono ?_
        rintro e w3 ⟨rfl, rfl⟩
        go_wp2
        go_ret2
        exact textsPost_no Hb.out HXr.out.drew
      | false =>
        rw [hbad] at CB Hb
        clear hbad
        cases lo with
        | none =>
          have hl0 : l.isEmpty = true := by
            rcases Hs.out with ⟨_, h⟩ | ⟨b, off, cap, h, _⟩
            · rw [h]; rfl
            · simp at h
          rw [hl0] at Hb
          simp only [Option.isNone_none] at hnl
          clear hl0
          go_wp2_with fail
          refine CL.out.mono ?_
          rintro e w2 ⟨rfl, rfl⟩
          go_wp2_with fail
          refine CB.out.mono ?_
          rintro e w3 ⟨rfl, rfl⟩
          go_wp2
          go_ret2
          exact textsPost_no Hb.out HXr.out.drew
        | some ad =>
          have hl0 : l.isEmpty = false := by
            cases l with
            | nil => have := hne rfl; cases this
            | cons x y => rfl
          rw [hl0] at Hb
          simp only [Option.isNone_some] at hnl
          clear hl0 hne
          go_wp2_with fail
          refine CL.out.mono ?_
          rintro e w2 ⟨rfl, rfl⟩
          go_wp2_with fail
          refine CB.out.mono ?_
          rintro e w3 ⟨rfl, rfl⟩
          go_wp2
          go_ret2
          exact textsPost_yes Hb.out (by rw [He1.out]; exact Hs.out.ext ((Ext.refl wr).drew)) HXr.out.drew

end Go.Proofs.Yteoelhhkdfmaiaa

/- What rdata's carry does, whatever the writer and the function that is given. Conditions: what these keep. -/
namespace Go.Proofs.Yteoelhhkdfmaiaa
open Go Go.RowKit Go.Shelf
attribute [local go_sem] Oper.semAt_some wide_fn wide_depth

/-- The pieces that data are made of, and what is read of them. -/
inductive Pc where
  | num (k : Nat)
  | raw
  | name
inductive It where
  | num (k x : Nat)
  | raw (b : ByteArray)
  | name (n : ByteArray)
def readPc : Pc → Rd → It × Rd
  | .num k, r => (.num k (numR r k).1, (numR r k).2)
  | .raw, r => (.raw (rawR r r.left).1, (rawR r r.left).2)
  | .name, r => (.name (nameR r).1, (nameR r).2)
def readPcs : List Pc → Rd → List It × Rd
  | [], r => ([], r)
  | p :: ps, r => ((readPc p r).1 :: (readPcs ps (readPc p r).2).1, (readPcs ps (readPc p r).2).2)
def pieces (t : Int) : List Pc :=
  if (formR t).2.2.2 then List.replicate (formR t).1 (.num 2) ++ (List.replicate (formR t).2.1 .name ++ List.replicate (formR t).2.2.1 (.num 4)) else [.raw]
theorem formR_le (t : Int) : (formR t).1 ≤ 5 ∧ (formR t).2.1 ≤ 5 ∧ (formR t).2.2.1 ≤ 5 := by
  unfold formR
  split
  · exact ⟨by decide, by decide, by decide⟩
  split
  · exact ⟨by decide, by decide, by decide⟩
  split
  · exact ⟨by decide, by decide, by decide⟩
  split
  · exact ⟨by decide, by decide, by decide⟩
  · exact ⟨by decide, by decide, by decide⟩
theorem nameR_ok {r : Rd} (h : r.ok) : (nameR r).2.ok ∧ (nameR r).1.size ≤ 255 ∧ ((nameR r).2.s = r.s ∨ (nameR r).2.s = ⟨#[]⟩) := by
  unfold nameR
  split
  · next hn =>
    obtain ⟨ls, hr⟩ := rep_of_name hn
    have h1 := rep_len hr
    have h2 := hr.eq
    refine ⟨⟨(gather_behind hn h.1).2, h.2⟩, ?_, .inl rfl⟩
    rw [← bl_size, h2]; exact h1
  · exact ⟨⟨Nat.le_refl _, Nat.zero_le _⟩, Nat.zero_le _, .inr rfl⟩
theorem rawR_s (r : Rd) (n : Int) : ((rawR r n).2.s = r.s ∨ (rawR r n).2.s = ⟨#[]⟩) ∧ (rawR r n).1.size ≤ r.s.size := by
  unfold rawR
  split
  · exact ⟨.inr rfl, Nat.zero_le _⟩
  · refine ⟨.inl rfl, ?_⟩
    show (r.s.extract _ _).size ≤ _
    rw [ByteArray.size_extract]; omega
theorem numR_s (r : Rd) (n : Int) : (numR r n).2.s = r.s ∨ (numR r n).2.s = ⟨#[]⟩ := by
  unfold numR
  split
  · exact (rawR_s r n).1
  · exact .inr rfl
theorem s_le {r q : Rd} (h : q.s = r.s ∨ q.s = ⟨#[]⟩) {n : Nat} (hr : r.s.size ≤ n) : q.s.size ≤ n := by
  rcases h with h | h
  · rw [h]; exact hr
  · rw [h]; exact Nat.zero_le _
/-- What is left to do comes to rf, sf. -/
def Togo {σ : Type} (ap : σ → It → σ) (ps : List Pc) (r : Rd) (s : σ) (rf : Rd) (sf : σ) : Prop := (readPcs ps r).2 = rf ∧ (readPcs ps r).1.foldl ap s = sf
theorem Togo.next {σ : Type} {ap : σ → It → σ} {p : Pc} {ps : List Pc} {r : Rd} {s : σ} {rf : Rd} {sf : σ} (h : Togo ap (p :: ps) r s rf sf) : Togo ap ps (readPc p r).2 (ap s (readPc p r).1) rf sf := h

/-- A writer, and a function that takes names, as carry uses them. -/
structure Takes {σ : Type} (R B gf : Nat) (b lb : Array Value) (ap : σ → It → σ) (Inv : (Nat → Prop) → σ → World → Prop) (Room : σ → Nat → Prop) : Prop where
  rle : ∀ s m m', Room s m → m' ≤ m → Room s m'
  rnum : ∀ s k x m, Room s m → Room (ap s (.num k x)) m
  rname : ∀ s n m, Room s (m + 1) → Room (ap s (.name n)) m
  eg : ∀ args w, (callFunc gf args).run Try.prog w = .ok (.enter gf args) w
  turn : ∀ G s W W', Inv G s W → G R → Keeps (fun j => j ≠ R) W W' → Inv G s W'
  grow : ∀ G s W W', Inv G s W → Ext W W' → Inv (fun j => G j ∨ (W.heap.size ≤ j ∧ j < W'.heap.size)) s W'
  mono : ∀ G G' s W, Inv G s W → (∀ j, G' j → G j) → Inv G' s W
  num : ∀ G s W (k x : Nat), Inv G s W → (k = 2 ∨ k = 4) → x < 18446744073709551616 → Calls Try.prog 97 #[.pointer (some ⟨B, 0, none⟩), .int .i64 k, .int .u64 (x : Int)] W fun e W' => (∃ v, e = .returned v) ∧ Inv G (ap s (.num k x)) W' ∧ Keeps G W W'
  raw : ∀ G s W (x : ByteArray), Inv G s W → x.size ≤ 4294967296 → Calls Try.prog 96 #[.pointer (some ⟨B, 0, none⟩), .string x] W fun e W' => (∃ v, e = .returned v) ∧ Inv G (ap s (.raw x)) W' ∧ Keeps G W W'
  name : ∀ G s W (n : ByteArray), Inv G s W → n.size ≤ 255 → Room s 1 → Calls Try.prog gf (b ++ #[.string n] ++ lb) W fun e W' => (∃ v, e = .returned v) ∧ Inv G (ap s (.name n)) W' ∧ Keeps G W W'

theorem numR_lt2 (r : Rd) (hr : r.ok) (k : Nat) (hk : k = 2 ∨ k = 4) : (numR r k).1 < 18446744073709551616 := by
  have hb : ∀ b : ByteArray, b.size = k ∨ b = ⟨#[]⟩ → beN (bl b) < 18446744073709551616 := by
    intro b hb
    have h := beN_lt (bl b)
    rw [bl_size] at h
    rcases hb with hb | hb
    · rw [hb] at h
      rcases hk with rfl | rfl
      · omega
      · omega
    · rw [hb]; show beN (bl ⟨#[]⟩) < _; decide +kernel
  unfold numR
  split
  · exact hb _ (rawR_size r k hr)
  · decide

set_option maxRecDepth 100000 in
set_option maxHeartbeats 4000000 in
theorem carry_any {σ : Type} (t : Int) (R B gf : Nat) (b lb : Array Value) (ap : σ → It → σ) (Inv : (Nat → Prop) → σ → World → Prop) (Room : σ → Nat → Prop) (T : Takes R B gf b lb ap Inv Room)
    (G : Nat → Prop) (hGR : G R) (r : Rd) (s : σ) (w : World) (h : RdAt w R r) (hr : r.ok) (hs : r.s.size ≤ 4294967296) (hi : Inv G s w) (hrm : Room s 5) :
    Calls Try.prog 66 #[.int .u16 t, .pointer (some ⟨R, 0, none⟩), .pointer (some ⟨B, 0, none⟩), .func (.func gf) b lb] w fun e w' =>
      (∃ v, e = .returned v) ∧ RdAt w' R (readPcs (pieces t) r).2 ∧ Inv G ((readPcs (pieces t) r).1.foldl ap s) w' ∧ Keeps (fun j => G j ∧ j ≠ R) w w' := by
  have eg := T.eg
  have HT := Lib.hid T; clear T
  have CF := Lib.hid (formOf_any t)
  have hle := formR_le t
  obtain ⟨a, ha⟩ : ∃ a, (formR t).1 = a := ⟨_, rfl⟩
  obtain ⟨n, hn⟩ : ∃ n, (formR t).2.1 = n := ⟨_, rfl⟩
  obtain ⟨l, hl⟩ : ∃ l, (formR t).2.2.1 = l := ⟨_, rfl⟩
  obtain ⟨q, hq⟩ : ∃ q, (formR t).2.2.2 = q := ⟨_, rfl⟩
  have hp : pieces t = if q then List.replicate a (.num 2) ++ (List.replicate n .name ++ List.replicate l (.num 4)) else [.raw] := by rw [pieces, ha, hn, hl, hq]
  rw [hp]
  rw [ha, hn, hl, hq] at CF
  rw [ha, hn, hl] at hle
  clear ha hn hl hq hp
  have H := Lib.hid h; clear h
  have Hi := Lib.hid hi; clear hi
  have Hrm := Lib.hid hrm; clear hrm
  have hR : R < w.heap.size := (Array.getElem?_eq_some_iff.1 H.out).1
  go_enter Try.func66, Try.ntmps66
  cases q with
  | false =>
    obtain ⟨hz1, hz2⟩ := rawR_s r r.left
    have hokL := rawR_ok hr r.left
    have CL := Lib.hid fun W h => Left_any R r W h hr
    have CR := Lib.hid fun W h => Raw_any R r (r.left : Int) W h hr (by have := hr.2; unfold Rd.left; omega)
    have hg : (readPcs [Pc.raw] r) = ([.raw (rawR r r.left).1], (rawR r r.left).2) := rfl
    simp only [if_neg (by decide : ¬ (false = true))]
    rw [hg]
    clear hg
    obtain ⟨⟨x, r1⟩, hx1⟩ : ∃ y, rawR r r.left = y := ⟨_, rfl⟩
    rw [hx1] at hz2 CR ⊢
    have CW := Lib.hid fun G W hi => HT.out.raw G s W x hi (Nat.le_trans hz2 hs)
    simp only at hz2
    clear hx1 hz1 hokL
    obtain ⟨n1, hn1⟩ : ∃ n1, r.left = n1 := ⟨_, rfl⟩
    rw [hn1] at CL CR
    clear hn1
    go_wp2_with fail
    refine (CF.out w).mono ?_
    rintro e w1 ⟨rfl, hx⟩
    obtain ⟨w2, hw2⟩ : ∃ w2, w1.alloc (Obj.cells #[Value.int IntKind.i64 ↑a, Value.int IntKind.i64 ↑n, Value.int IntKind.i64 ↑l] 117) = w2 := ⟨_, rfl⟩
    have hx2 : Ext w w2 := hw2 ▸ hx.alloc _
    clear hx
    have h2 := hx2.keeps.rd H.out trivial
    have hi2 := HT.out.mono _ G _ _ (HT.out.grow _ _ _ _ Hi.out hx2) (fun j hj => .inl hj)
    have Hw := Lib.hid hx2.keeps
    have Hw2 := Lib.hid hw2; clear hw2
    clear hx2
    go_wp2_with fail
    rw [Hw2.out]
    refine (CL.out _ h2).mono ?_
    rintro e w3 ⟨rfl, rfl⟩
    go_wp2_with fail
    refine (CR.out _ (((Keeps.refl (fun _ => True) w2).drew).rd h2 trivial)).mono ?_
    rintro e w4 ⟨rfl, hr4, hk4, hsz⟩
    clear hsz
    have hi4 := HT.out.turn _ _ _ _ hi2 hGR (((Keeps.refl _ w2).drew).trans hk4)
    have Hk4 := Lib.hid ((Hw.out.mono fun _ _ _ => trivial).trans ((Keeps.refl (fun j => G j ∧ j ≠ R) w2).drew.trans (hk4.mono fun _ _ h => h.2)))
    have Hr4 := Lib.hid hr4; clear hr4 hk4 h2
    have hR4 : R < w4.heap.size := (Array.getElem?_eq_some_iff.1 Hr4.out).1
    have Hi4 := Lib.hid hi4; clear hi4 hi2
    go_wp2_with fail
    refine (CW.out G w4 Hi4.out).mono ?_
    rintro e w5 ⟨⟨v, rfl⟩, hi5, hk5⟩
    have Hi5 := Lib.hid hi5
    have Hr5 := Lib.hid (hk5.rd Hr4.out hGR)
    have Hk5 := Lib.hid (Hk4.out.trans (hk5.mono fun _ _ h => h.1))
    clear hi5 hk5
    go_wp2
    exact bodyPost_ret (results_none rfl _ _ _) rfl ⟨⟨_, rfl⟩, Hr5.out, Hi5.out, Hk5.out⟩
  | true =>
    obtain ⟨rf, hrf⟩ : ∃ rf, (readPcs (List.replicate a (Pc.num 2) ++ (List.replicate n .name ++ List.replicate l (.num 4))) r).2 = rf := ⟨_, rfl⟩
    obtain ⟨sf, hsf⟩ : ∃ sf, (readPcs (List.replicate a (Pc.num 2) ++ (List.replicate n .name ++ List.replicate l (.num 4))) r).1.foldl ap s = sf := ⟨_, rfl⟩
    rw [if_pos rfl, hrf, hsf]
    have Ht := Lib.hid (show Togo ap (List.replicate a (Pc.num 2) ++ (List.replicate n .name ++ List.replicate l (.num 4))) r s rf sf from ⟨hrf, hsf⟩)
    clear hrf hsf
    go_wp2_with fail
    refine (CF.out w).mono ?_
    rintro e w1 ⟨rfl, hx⟩
    obtain ⟨F, hF⟩ : ∃ F, w1.heap.size = F := ⟨_, rfl⟩
    have hwF : w.heap.size ≤ F := hF ▸ hx.size
    obtain ⟨w2, hw2⟩ : ∃ w2, w1.alloc (Obj.cells #[Value.int IntKind.i64 ↑a, Value.int IntKind.i64 ↑n, Value.int IntKind.i64 ↑l] 117) = w2 := ⟨_, rfl⟩
    have hx2 : Ext w w2 := hw2 ▸ hx.alloc _
    have hF2 : F < w2.heap.size := by rw [← hw2, ← hF]; simp
    have hfm : w2.heap[F]? = some (.cells #[Value.int IntKind.i64 ↑a, Value.int IntKind.i64 ↑n, Value.int IntKind.i64 ↑l] 117 (0, 0)) := by rw [← hw2, ← hF]; exact World.alloc_heap_new w1 _
    have h2 := Lib.hid (hx2.keeps.rd H.out trivial)
    obtain ⟨G', hG'⟩ : ∃ G' : Nat → Prop, (fun j => G j ∨ (w.heap.size ≤ j ∧ j < w2.heap.size)) = G' := ⟨_, rfl⟩
    have hGG : ∀ j, G j → G' j := fun j hj => by rw [← hG']; exact .inl hj
    have hGF : G' F := by rw [← hG']; exact .inr ⟨hwF, hF2⟩
    have hi2 := HT.out.grow _ _ _ _ Hi.out hx2
    rw [hG'] at hi2
    have Hi2 := Lib.hid hi2
    have Hw := Lib.hid hx2.keeps
    have Hw2 := Lib.hid hw2
    have HF := Lib.hid hF
    have Hfm := Lib.hid hfm
    have HG1 := Lib.hid hGG
    have HG2 := Lib.hid hGF
    have Hww : Hid (w.heap.size ≤ w2.heap.size) := Lib.hid hx2.size
    have HFR : Hid (F ≠ R) := Lib.hid (by omega)
    clear hx hx2 hfm hi2 hG' hGG hGF
    have hc0 : w2.cell? ⟨F, 0, none⟩ = some (.int .i64 a) := by have := Hfm.out; simp [World.cell?, this]
    go_wp2_with fail
    go_loopw [25] (fun v wr => ∃ (i : Nat) (r1 : Rd) (z1 : σ), v = .int .i64 i ∧ i ≤ a ∧ r1.ok ∧ r1.s.size ≤ 4294967296 ∧ RdAt wr R r1 ∧ Inv G' z1 wr ∧ Togo ap (List.replicate (a - i) (Pc.num 2) ++ (List.replicate n .name ++ List.replicate l (.num 4))) r1 z1 rf sf ∧ Keeps (fun j => G' j ∧ j ≠ R) w2 wr ∧ Room z1 n)
      (fun v _ => a - (intOf v).toNat)
    case atStart => exact ⟨0, r, s, rfl, Nat.zero_le _, hr, hs, h2.out, Hi2.out, Ht.out, Keeps.refl _ _, HT.out.rle _ _ _ Hrm.out (by omega)⟩
    case round =>
      obtain ⟨i, q1, z1, rfl, hin, hok, hsz, hrd, hiv, htg, hk, hrm⟩ := hrel
      by_cases hlt : i < a
      · rw [show a - i = (a - (i + 1)) + 1 from by omega, List.replicate_succ, List.cons_append] at htg
        have htg2 := Lib.hid htg.next; clear htg
        have hRw : R < wr.heap.size := (Array.getElem?_eq_some_iff.1 hrd).1
        have CN := Lib.hid fun W h => Num_any R q1 2 W h hok (by decide)
        have hlt2 := numR_lt2 q1 hok 2 (by decide)
        have hok2 := numR_ok hok 2
        have hsz2 := s_le (numR_s q1 2) hsz
        have CW := Lib.hid fun s W x hi hx => HT.out.num G' s W 2 x hi (by decide) hx
        rw [show ((2 : Nat) : Int) = 2 from rfl] at CN CW hlt2
        rw [show readPc (Pc.num 2) q1 = (It.num 2 (numR q1 2).1, (numR q1 2).2) from rfl] at htg2
        obtain ⟨⟨x, q2⟩, hx1⟩ : ∃ y, numR q1 2 = y := ⟨_, rfl⟩
        rw [hx1] at CN hlt2 hok2 hsz2 htg2
        clear hx1
        simp only at hlt2 hok2 hsz2
        have Hok2 := Lib.hid hok2; clear hok2
        have Hsz2 := Lib.hid hsz2; clear hsz2
        have Hlt2 := Lib.hid hlt2; clear hlt2
        have Hrd := Lib.hid hrd; clear hrd
        have Hiv := Lib.hid hiv; clear hiv
        have Hk := Lib.hid hk; clear hk
        have Hrm2 := Lib.hid (HT.out.rnum _ 2 x _ hrm)
        clear hok hsz hrm
        go_wp2_with fail
        refine (CN.out _ Hrd.out).mono ?_
        rintro e w3 ⟨rfl, hr3, hk3⟩
        have hk3' : Keeps (fun j => j ≠ R) wr w3 := hk3
        have Hi3 := Lib.hid (HT.out.turn _ _ _ _ Hiv.out (HG1.out R hGR) hk3')
        have Hr3 := Lib.hid hr3
        have Hk3 := Lib.hid (Hk.out.trans (hk3'.mono fun _ _ h => h.2))
        clear hr3 hk3 hk3' hRw
        go_wp2_with fail
        refine (CW.out z1 w3 x Hi3.out Hlt2.out).mono ?_
        rintro e w4 ⟨⟨v, rfl⟩, hi4, hk4⟩
        have Hi4 := Lib.hid hi4
        have Hr4 := Lib.hid (hk4.rd Hr3.out (HG1.out R hGR))
        have Hk4 := Lib.hid (Hk3.out.trans (hk4.mono fun _ _ h => h.1))
        clear hi4 hk4
        go_wp2
        go_roundw
        case rel => exact ⟨i + 1, q2, _, by simp, by omega, Hok2.out, Hsz2.out, Hr4.out, Hi4.out, htg2.out, Hk4.out, Hrm2.out⟩
        case measure => simp [intOf] <;> omega
      · rw [show a - i = 0 from by omega, List.replicate_zero, List.nil_append] at htg
        have hfr := hk.heap Hfm.out ⟨HG2.out, HFR.out⟩
        have hc1 : wr.cell? ⟨F, 1, none⟩ = some (.int .i64 n) := by simp [World.cell?, hfr]
        clear hfr
        have Hr1 := Lib.hid hrd; clear hrd
        have Hv1 := Lib.hid hiv; clear hiv
        have Ht1 := Lib.hid htg; clear htg
        have Hk1 := Lib.hid hk; clear hk
        have Hm1 := Lib.hid hrm; clear hrm
        obtain ⟨r1, hr1⟩ : ∃ r', q1 = r' := ⟨_, rfl⟩
        obtain ⟨s1, hs1⟩ : ∃ s', z1 = s' := ⟨_, rfl⟩
        rw [hr1] at Hr1 Ht1 hok hsz
        rw [hs1] at Hv1 Ht1 Hm1
        have hok1 := hok; have hsz1 := hsz
        clear hok hsz hr1 hs1 q1 z1
        go_wp2_with fail
        go_loopw [34] (fun v wr => ∃ (i : Nat) (r1 : Rd) (z1 : σ), v = .int .i64 i ∧ i ≤ n ∧ r1.ok ∧ r1.s.size ≤ 4294967296 ∧ RdAt wr R r1 ∧ Inv G' z1 wr ∧ Togo ap (List.replicate (n - i) Pc.name ++ List.replicate l (.num 4)) r1 z1 rf sf ∧ Keeps (fun j => G' j ∧ j ≠ R) w2 wr ∧ Room z1 (n - i))
          (fun v _ => n - (intOf v).toNat)
        case atStart => exact ⟨0, r1, s1, rfl, Nat.zero_le _, hok1, hsz1, Hr1.out, Hv1.out, by simpa using Ht1.out, Hk1.out, HT.out.rle _ _ _ Hm1.out (by omega)⟩
        case round =>
          obtain ⟨i, q1, z1, rfl, hin, hok, hsz, hrd, hiv, htg, hk, hrm⟩ := hrel
          by_cases hlt : i < n
          · rw [show n - i = (n - (i + 1)) + 1 from by omega, List.replicate_succ, List.cons_append] at htg
            have htg2 := Lib.hid htg.next; clear htg
            have hRw : R < wr.heap.size := (Array.getElem?_eq_some_iff.1 hrd).1
            have CN := Lib.hid fun W h => Name_any R q1 W h hok
            obtain ⟨hok2, hlt2, hs2⟩ := nameR_ok hok
            have hsz2 := s_le hs2 hsz
            have CW := Lib.hid fun s W x hi hx hm => HT.out.name G' s W x hi hx hm
            rw [show readPc Pc.name q1 = (It.name (nameR q1).1, (nameR q1).2) from rfl] at htg2
            clear hs2
            obtain ⟨⟨x, q2⟩, hx1⟩ : ∃ y, nameR q1 = y := ⟨_, rfl⟩
            rw [hx1] at CN hlt2 hok2 hsz2 htg2
            clear hx1
            simp only at hlt2 hok2 hsz2
            have Hok2 := Lib.hid hok2; clear hok2
            have Hsz2 := Lib.hid hsz2; clear hsz2
            have Hlt2 := Lib.hid hlt2; clear hlt2
            have Hrd := Lib.hid hrd; clear hrd
            have Hiv := Lib.hid hiv; clear hiv
            have Hk := Lib.hid hk; clear hk
            have Hrm1 := Lib.hid (HT.out.rle _ _ 1 hrm (by omega))
            rw [show n - i = (n - (i + 1)) + 1 from by omega] at hrm
            have Hrm2 := Lib.hid (HT.out.rname _ x _ hrm)
            clear hok hsz hrm
            go_wp2_with fail
            refine (CN.out _ Hrd.out).mono ?_
            rintro e w3 ⟨rfl, hr3, hk3⟩
            have hk3' : Keeps (fun j => j ≠ R) wr w3 := hk3
            have Hi3 := Lib.hid (HT.out.turn _ _ _ _ Hiv.out (HG1.out R hGR) hk3')
            have Hr3 := Lib.hid hr3
            have Hk3 := Lib.hid (Hk.out.trans (hk3'.mono fun _ _ h => h.2))
            clear hr3 hk3 hk3' hRw
            go_wp2_with fail
            refine (CW.out z1 w3 x Hi3.out Hlt2.out Hrm1.out).mono ?_
            rintro e w4 ⟨⟨v, rfl⟩, hi4, hk4⟩
            have Hi4 := Lib.hid hi4
            have Hr4 := Lib.hid (hk4.rd Hr3.out (HG1.out R hGR))
            have Hk4 := Lib.hid (Hk3.out.trans (hk4.mono fun _ _ h => h.1))
            clear hi4 hk4
            go_wp2
            go_roundw
            case rel => exact ⟨i + 1, q2, _, by simp, by omega, Hok2.out, Hsz2.out, Hr4.out, Hi4.out, htg2.out, Hk4.out, Hrm2.out⟩
            case measure => simp [intOf] <;> omega
          · rw [show n - i = 0 from by omega, List.replicate_zero, List.nil_append] at htg
            have hfr := hk.heap Hfm.out ⟨HG2.out, HFR.out⟩
            have hc2 : wr.cell? ⟨F, 2, none⟩ = some (.int .i64 l) := by simp [World.cell?, hfr]
            clear hfr
            have Hr2 := Lib.hid hrd; clear hrd
            have Hv2 := Lib.hid hiv; clear hiv
            have Ht2 := Lib.hid htg; clear htg
            have Hk2 := Lib.hid hk; clear hk
            have Hm2 := Lib.hid hrm; clear hrm
            obtain ⟨r2, hr2⟩ : ∃ r', q1 = r' := ⟨_, rfl⟩
            obtain ⟨s2, hs2⟩ : ∃ s', z1 = s' := ⟨_, rfl⟩
            rw [hr2] at Hr2 Ht2 hok hsz
            rw [hs2] at Hv2 Ht2 Hm2
            have hok2 := hok; have hsz2 := hsz
            clear hok hsz hr2 hs2 q1 z1
            go_wp2_with fail
            go_loopw [43] (fun v wr => ∃ (i : Nat) (r1 : Rd) (z1 : σ), v = .int .i64 i ∧ i ≤ l ∧ r1.ok ∧ r1.s.size ≤ 4294967296 ∧ RdAt wr R r1 ∧ Inv G' z1 wr ∧ Togo ap (List.replicate (l - i) (Pc.num 4) ++ ([] : List Pc)) r1 z1 rf sf ∧ Keeps (fun j => G' j ∧ j ≠ R) w2 wr ∧ Room z1 0)
              (fun v _ => l - (intOf v).toNat)
            case atStart => exact ⟨0, r2, s2, rfl, Nat.zero_le _, hok2, hsz2, Hr2.out, Hv2.out, by simpa using Ht2.out, Hk2.out, HT.out.rle _ _ _ Hm2.out (by omega)⟩
            case round =>
              obtain ⟨i, q1, z1, rfl, hin, hok, hsz, hrd, hiv, htg, hk, hrm⟩ := hrel
              by_cases hlt : i < l
              · rw [show l - i = (l - (i + 1)) + 1 from by omega, List.replicate_succ, List.cons_append] at htg
                have htg2 := Lib.hid htg.next; clear htg
                have hRw : R < wr.heap.size := (Array.getElem?_eq_some_iff.1 hrd).1
                have CN := Lib.hid fun W h => Num_any R q1 4 W h hok (by decide)
                have hlt2 := numR_lt2 q1 hok 4 (by decide)
                have hok2 := numR_ok hok 4
                have hsz2 := s_le (numR_s q1 4) hsz
                have CW := Lib.hid fun s W x hi hx => HT.out.num G' s W 4 x hi (by decide) hx
                rw [show ((4 : Nat) : Int) = 4 from rfl] at CN CW hlt2
                rw [show readPc (Pc.num 4) q1 = (It.num 4 (numR q1 4).1, (numR q1 4).2) from rfl] at htg2
                obtain ⟨⟨x, q2⟩, hx1⟩ : ∃ y, numR q1 4 = y := ⟨_, rfl⟩
                rw [hx1] at CN hlt2 hok2 hsz2 htg2
                clear hx1
                simp only at hlt2 hok2 hsz2
                have Hok2 := Lib.hid hok2; clear hok2
                have Hsz2 := Lib.hid hsz2; clear hsz2
                have Hlt2 := Lib.hid hlt2; clear hlt2
                have Hrd := Lib.hid hrd; clear hrd
                have Hiv := Lib.hid hiv; clear hiv
                have Hk := Lib.hid hk; clear hk
                have Hrm2 := Lib.hid (HT.out.rnum _ 4 x _ hrm)
                clear hok hsz hrm
                go_wp2_with fail
                refine (CN.out _ Hrd.out).mono ?_
                rintro e w3 ⟨rfl, hr3, hk3⟩
                have hk3' : Keeps (fun j => j ≠ R) wr w3 := hk3
                have Hi3 := Lib.hid (HT.out.turn _ _ _ _ Hiv.out (HG1.out R hGR) hk3')
                have Hr3 := Lib.hid hr3
                have Hk3 := Lib.hid (Hk.out.trans (hk3'.mono fun _ _ h => h.2))
                clear hr3 hk3 hk3' hRw
                go_wp2_with fail
                refine (CW.out z1 w3 x Hi3.out Hlt2.out).mono ?_
                rintro e w4 ⟨⟨v, rfl⟩, hi4, hk4⟩
                have Hi4 := Lib.hid hi4
                have Hr4 := Lib.hid (hk4.rd Hr3.out (HG1.out R hGR))
                have Hk4 := Lib.hid (Hk3.out.trans (hk4.mono fun _ _ h => h.1))
                clear hi4 hk4
                go_wp2
                go_roundw
                case rel => exact ⟨i + 1, q2, _, by simp, by omega, Hok2.out, Hsz2.out, Hr4.out, Hi4.out, htg2.out, Hk4.out, Hrm2.out⟩
                case measure => simp [intOf] <;> omega
              · rw [show l - i = 0 from by omega, List.replicate_zero, List.nil_append] at htg
                obtain ⟨rfl, rfl⟩ : q1 = rf ∧ z1 = sf := htg
                have Hr9 := Lib.hid hrd; clear hrd
                have Hv9 := Lib.hid (HT.out.mono _ G _ _ hiv HG1.out); clear hiv
                have Hk9 := Lib.hid ((Hw.out.mono (K' := fun j => G j ∧ j ≠ R) fun _ _ _ => trivial).trans (hk.mono fun j _ h => ⟨HG1.out j h.1, h.2⟩)); clear hk
                go_wp2
                go_end0
                exact ⟨⟨_, rfl⟩, Hr9.out, Hv9.out, Hk9.out⟩

end Go.Proofs.Yteoelhhkdfmaiaa

/- What rdata's fits, plain, isRight do. Conditions: bytes of a bound. -/
namespace Go.Proofs.Yteoelhhkdfmaiaa
open Go Go.RowKit Go.Shelf
attribute [local go_sem] Oper.semAt_some wide_fn wide_depth

set_option maxRecDepth 100000 in
set_option maxHeartbeats 2000000 in
theorem fits_1 (d : ByteArray) (w : World) (hd : d.size ≤ 4294967296) : Calls Try.prog 107 #[.int .u16 1, .string d] w fun e w' => e = .returned (.bool (decide (d.size = 4))) ∧ Ext w w' := by
  obtain ⟨n, hn⟩ : ∃ n, d.size = n := ⟨_, rfl⟩
  rw [hn] at hd ⊢
  by_cases h : n = 4
  · subst h
    go_enter Try.func107, Try.ntmps107
    go_wp2
    go_ret
    exact ⟨rfl, Ext.refl _⟩
  · have h' : ((n : Int) == 4) = false := beq_eq_false_iff_ne.2 (by omega)
    rw [decide_eq_false h]
    go_enter Try.func107, Try.ntmps107
    go_wp2
    go_ret
    exact ⟨rfl, Ext.refl _⟩
set_option maxRecDepth 100000 in
set_option maxHeartbeats 2000000 in
theorem fits_28 (d : ByteArray) (w : World) (hd : d.size ≤ 4294967296) : Calls Try.prog 107 #[.int .u16 28, .string d] w fun e w' => e = .returned (.bool (decide (d.size = 16))) ∧ Ext w w' := by
  obtain ⟨n, hn⟩ : ∃ n, d.size = n := ⟨_, rfl⟩
  rw [hn] at hd ⊢
  by_cases h : n = 16
  · subst h
    go_enter Try.func107, Try.ntmps107
    go_wp2
    go_ret
    exact ⟨rfl, Ext.refl _⟩
  · have h' : ((n : Int) == 16) = false := beq_eq_false_iff_ne.2 (by omega)
    rw [decide_eq_false h]
    go_enter Try.func107, Try.ntmps107
    go_wp2
    go_ret
    exact ⟨rfl, Ext.refl _⟩
set_option maxRecDepth 100000 in
set_option maxHeartbeats 2000000 in
theorem fits_16 (d : ByteArray) (w : World) (hd : d.size ≤ 4294967296) : Calls Try.prog 107 #[.int .u16 16, .string d] w fun e w' => e = .returned (.bool (textsB d)) ∧ Ext w w' := by
  have CT := Lib.hid fun W => texts_any d W hd
  go_enter Try.func107, Try.ntmps107
  go_wp2_with fail
  refine (CT.out _).mono ?_
  rintro e w1 ⟨v, rfl, _, _, hx⟩
  have Hx := Lib.hid hx; clear hx
  go_wp2
  go_ret
  exact ⟨rfl, Hx.out⟩
set_option maxRecDepth 100000 in
set_option maxHeartbeats 2000000 in
theorem fits_no (t : Int) (h1 : (t == 1) = false) (h28 : (t == 28) = false) (h16 : (t == 16) = false) (d : ByteArray) (w : World) : Calls Try.prog 107 #[.int .u16 t, .string d] w fun e w' => e = .returned (.bool true) ∧ Ext w w' := by
  go_enter Try.func107, Try.ntmps107
  go_wp2
  go_ret
  exact ⟨rfl, Ext.refl _⟩
theorem fits_any (t : Int) (d : ByteArray) (w : World) (hd : d.size ≤ 4294967296) : Calls Try.prog 107 #[.int .u16 t, .string d] w fun e w' => e = .returned (.bool (fitsB t d)) ∧ Ext w w' := by
  by_cases h1 : t = 1
  · subst h1; exact fits_1 d w hd
  · by_cases h28 : t = 28
    · subst h28; exact fits_28 d w hd
    · by_cases h16 : t = 16
      · subst h16; exact fits_16 d w hd
      · rw [fitsB, if_neg h1, if_neg h28, if_neg h16]
        exact fits_no t (beq_eq_false_iff_ne.2 h1) (beq_eq_false_iff_ne.2 h28) (beq_eq_false_iff_ne.2 h16) d w

/-- What a writer does with a piece. -/
def apW (pt : Bool) (q : Wr) : It → Wr
  | .num k x => rawW q ⟨(nbs x k).toArray⟩
  | .raw b => rawW q b
  | .name n => nameW q n pt
def InvW (B : Nat) (G : Nat → Prop) (q : Wr) (W : World) : Prop := WrAt W B G q ∧ q.ok
theorem apW_ok {q : Wr} (h : q.ok) (pt : Bool) (i : It) : (apW pt q i).ok := by
  cases i with
  | num k x => exact rawW_ok h _
  | raw b => exact rawW_ok h _
  | name n => exact nameW_ok n pt h
theorem takes_full (R B : Nat) : Takes R B 69 #[.pointer (some ⟨B, 0, none⟩)] #[] (apW false) (InvW B) (fun _ _ => True) where
  rle := fun _ _ _ _ _ => trivial
  rnum := fun _ _ _ _ _ => trivial
  rname := fun _ _ _ _ => trivial
  eg := enters_of Try.func69 (by kernel_rfl) rfl
  turn := fun G s W W' h hR k => ⟨h.1.turned k (fun j hj e => hj (e ▸ hR)), h.2⟩
  grow := fun G s W W' h x => ⟨h.1.more x, h.2⟩
  mono := fun G G' s W h hg => ⟨h.1.mono hg, h.2⟩
  num := fun G s W k x h hk hx => (WNum_any B G s k x W h.1 h.2 (by omega) hx).mono fun e w' ⟨a, b, c⟩ => ⟨a, ⟨b, apW_ok h.2 false (.num k x)⟩, c⟩
  raw := fun G s W x h hx => (WRaw_any B G s x W h.1 h.2 hx).mono fun e w' ⟨a, b, c⟩ => ⟨a, ⟨b, apW_ok h.2 false (.raw x)⟩, c⟩
  name := fun G s W n h hn _ => (WFull_any B G s n W h.1 h.2 (by unfold maxLen; omega)).mono fun e w' ⟨a, b, c⟩ => ⟨a, ⟨b, apW_ok h.2 false (.name n)⟩, c⟩
theorem takes_named (R B : Nat) : Takes R B 57 #[.pointer (some ⟨B, 0, none⟩)] #[] (apW true) (InvW B) (fun _ _ => True) where
  rle := fun _ _ _ _ _ => trivial
  rnum := fun _ _ _ _ _ => trivial
  rname := fun _ _ _ _ => trivial
  eg := enters_of Try.func57 (by kernel_rfl) rfl
  turn := fun G s W W' h hR k => ⟨h.1.turned k (fun j hj e => hj (e ▸ hR)), h.2⟩
  grow := fun G s W W' h x => ⟨h.1.more x, h.2⟩
  mono := fun G G' s W h hg => ⟨h.1.mono hg, h.2⟩
  num := fun G s W k x h hk hx => (WNum_any B G s k x W h.1 h.2 (by omega) hx).mono fun e w' ⟨a, b, c⟩ => ⟨a, ⟨b, apW_ok h.2 true (.num k x)⟩, c⟩
  raw := fun G s W x h hx => (WRaw_any B G s x W h.1 h.2 hx).mono fun e w' ⟨a, b, c⟩ => ⟨a, ⟨b, apW_ok h.2 true (.raw x)⟩, c⟩
  name := fun G s W n h hn _ => (WNamed_any B G s n W h.1 h.2 (by unfold maxLen; omega)).mono fun e w' ⟨a, b, c⟩ => ⟨a, ⟨b, apW_ok h.2 true (.name n)⟩, c⟩

end Go.Proofs.Yteoelhhkdfmaiaa

/- What rdata's plain and isRight do. Conditions: bytes of a bound. -/
namespace Go.Proofs.Yteoelhhkdfmaiaa
open Go Go.RowKit Go.Shelf
attribute [local go_sem] Oper.semAt_some wide_fn wide_depth

def newW : Wr := ⟨[], 4096, false, []⟩
theorem newW_ok : newW.ok := ⟨by decide, by decide, by decide, by decide, by simp [newW]⟩
/-- What is written of what is read. -/
def dataW (t : Int) (r : Rd) : Wr := (readPcs (pieces t) r).1.foldl (apW false) newW
def dataB (t : Int) (r : Rd) : Bool := !((dataW t r).full || (readPcs (pieces t) r).2.bad || decide (0 < (readPcs (pieces t) r).2.left) || !fitsB t (outR (dataW t r)).1)
def dataR (t : Int) (r : Rd) : ByteArray × Bool := if dataB t r then ((outR (dataW t r)).1, true) else (⟨#[]⟩, false)
theorem foldW_ok (pt : Bool) : ∀ (l : List It) (q : Wr), q.ok → (l.foldl (apW pt) q).ok
  | [], _, h => h
  | i :: l, q, h => foldW_ok pt l (apW pt q i) (apW_ok h pt i)
theorem readPcs_ok : ∀ (ps : List Pc) (r : Rd), r.ok → (readPcs ps r).2.ok ∧ ((readPcs ps r).2.s = r.s ∨ (readPcs ps r).2.s = ⟨#[]⟩)
  | [], r, h => ⟨h, .inl rfl⟩
  | p :: ps, r, h => by
    have h1 : (readPc p r).2.ok ∧ ((readPc p r).2.s = r.s ∨ (readPc p r).2.s = ⟨#[]⟩) := by
      cases p with
      | num k => exact ⟨numR_ok h _, numR_s r _⟩
      | raw => exact ⟨rawR_ok h _, (rawR_s r _).1⟩
      | name => exact ⟨(nameR_ok h).1, (nameR_ok h).2.2⟩
    obtain ⟨h2, h3⟩ := readPcs_ok ps _ h1.1
    refine ⟨h2, ?_⟩
    show (readPcs ps (readPc p r).2).2.s = r.s ∨ _
    rcases h3 with h3 | h3
    · exact h1.2.imp (fun e => h3.trans e) (fun e => h3.trans e)
    · exact .inr h3

/-- What keeps all but a block that was laid since, keeps all that was. -/
theorem ext_of {w w1 w2 : World} (h : Ext w w1) (k : Keeps (fun j => j ≠ w.heap.size) w1 w2) : Ext w w2 :=
  ((h.keeps.mono (K' := fun j => j ≠ w.heap.size) fun _ _ _ => trivial).trans k).ext fun k hk => by omega

set_option maxRecDepth 100000 in
set_option maxHeartbeats 4000000 in
theorem plain_any (t : Int) (R : Nat) (r : Rd) (w : World) (h : RdAt w R r) (hr : r.ok) (hs : r.s.size ≤ 4294967296) :
    Calls Try.prog 81 #[.int .u16 t, .pointer (some ⟨R, 0, none⟩)] w fun e w' =>
      e = .returned (.tuple #[.string (dataR t r).1, .bool (dataR t r).2]) ∧ RdAt w' R (readPcs (pieces t) r).2 ∧ Keeps (fun j => j ≠ R) w w' := by
  have hR : R < w.heap.size := (Array.getElem?_eq_some_iff.1 h).1
  have hok := (readPcs_ok (pieces t) r hr).1
  have hqk : (dataW t r).ok := foldW_ok false _ _ newW_ok
  have hB : dataB t r = !((dataW t r).full || (readPcs (pieces t) r).2.bad || decide (0 < (readPcs (pieces t) r).2.left) || !fitsB t (outR (dataW t r)).1) := rfl
  have hP : dataR t r = if dataB t r then ((outR (dataW t r)).1, true) else (⟨#[]⟩, false) := rfl
  have CC := Lib.hid fun B G hG W h hi => carry_any t R B 69 #[.pointer (some ⟨B, 0, none⟩)] #[] (apW false) (InvW B) (fun _ _ => True) (takes_full R B) G hG r newW W h hr hs hi trivial
  rw [show (readPcs (pieces t) r).1.foldl (apW false) newW = dataW t r from rfl] at CC
  obtain ⟨q, hq⟩ : ∃ q, dataW t r = q := ⟨_, rfl⟩
  obtain ⟨rf, hrf⟩ : ∃ rf, (readPcs (pieces t) r).2 = rf := ⟨_, rfl⟩
  rw [hq, hrf] at hB
  rw [hq] at hP hqk CC
  rw [hrf] at hok CC ⊢
  obtain ⟨n, hn⟩ : ∃ n, rf.left = n := ⟨_, rfl⟩
  have hdz : (outR q).1.size ≤ 4294967296 := by
    unfold outR
    split
    · exact Nat.zero_le _
    · show q.bytes.toArray.size ≤ _
      rw [List.size_toArray]; exact hqk.1
  have CF := Lib.hid fun W => fits_any t (outR q).1 W hdz
  have hd7 : (outR q).2 = if q.full then 7 else 0 := by unfold outR; split <;> rfl
  have CO := Lib.hid fun B G W h => Out_any B G q W h
  obtain ⟨⟨d, y⟩, hd⟩ : ∃ z, outR q = z := ⟨_, rfl⟩
  rw [hd] at CF CO hB hP hd7
  simp only at hd7
  subst hd7
  have CL := Lib.hid fun W h => Left_any R rf W h hok
  have CB := Lib.hid fun W h => Bad_any R rf W h
  rw [hn] at hB CL
  obtain ⟨qf, hqf⟩ : ∃ qf, q.full = qf := ⟨_, rfl⟩
  rw [hqf] at hB CO
  clear hqf
  obtain ⟨rb, hrb⟩ : ∃ rb, rf.bad = rb := ⟨_, rfl⟩
  rw [hrb] at hB CB
  clear hrb
  obtain ⟨ft, hft⟩ : ∃ ft, fitsB t d = ft := ⟨_, rfl⟩
  rw [hft] at hB CF
  clear hft
  have HP := Lib.hid hP
  have HB := Lib.hid hB
  have H := Lib.hid h
  have Hqk := Lib.hid hqk
  have Hn := Lib.hid hn
  clear hP hB h hqk hq hrf hd hdz hs hr hok hn
  have Hk : Hid (Keeps (fun j => j ≠ R) w w) := Lib.hid (Keeps.refl _ _)
  go_enter Try.func81, Try.ntmps81
  go_wp2_with fail
  refine (New_any 4096 _).mono ?_
  rintro e w1 ⟨rfl, hw1, hx⟩
  have Hw1 := Lib.hid hw1
  have Hx := Lib.hid hx
  clear hw1 hx
  go_wp2_with fail
  refine (CC.out (w.heap.size + 1) (fun k => k < w.heap.size) hR w1 (Hx.out.keeps.rd H.out trivial) ⟨Hw1.out, newW_ok⟩).mono ?_
  rintro e w2 ⟨⟨v, rfl⟩, hr2, hi2, hk2⟩
  have Hr2 := Lib.hid hr2
  have Hi2 := Lib.hid hi2
  have Hk2 : Hid (Keeps (fun j => j ≠ R) w w2) := Lib.hid (((Hx.out.keeps.mono (K' := fun j => j < w.heap.size ∧ j ≠ R) fun _ _ _ => trivial).trans hk2).mono fun k hk h => ⟨hk, h⟩)
  clear hr2 hi2 hk2
  go_wp2_with fail
  refine (CO.out _ _ w2 Hi2.out.1).mono ?_
  rintro e w3 ⟨rfl, rfl⟩
  have hno : dataB t r = false → dataR t r = (⟨#[]⟩, false) := fun h => by rw [HP.out, h]; rfl
  have hyes : dataB t r = true → dataR t r = (d, true) := fun h => by rw [HP.out, h]; rfl
  cases qf with
  | true =>
    have hz := Lib.hid (hno (by rw [HB.out]; simp))
    clear hno hyes
    go_wp2
    exact bodyPost_ret (v := .tuple #[.string ⟨#[]⟩, .bool false]) (by simp [results, Try.results81, go_sem]) rfl ⟨by rw [hz.out], Hr2.out, Hk2.out⟩
  | false =>
    cases rb with
    | true =>
      have hz := Lib.hid (hno (by rw [HB.out]; simp))
      clear hno hyes
      go_wp2_with fail
      refine (CB.out _ Hr2.out).mono ?_
      rintro e w4 ⟨rfl, rfl⟩
      go_wp2
      exact bodyPost_ret (v := .tuple #[.string ⟨#[]⟩, .bool false]) (by simp [results, Try.results81, go_sem]) rfl ⟨by rw [hz.out], Hr2.out, Hk2.out⟩
    | false =>
      by_cases hp : 0 < n
      · have hz := Lib.hid (hno (by rw [HB.out, decide_eq_true hp]; simp))
        clear hno hyes
        go_wp2_with fail
        refine (CB.out _ Hr2.out).mono ?_
        rintro e w4 ⟨rfl, rfl⟩
        go_wp2_with fail
        refine (CL.out _ Hr2.out).mono ?_
        rintro e w4 ⟨rfl, rfl⟩
        go_wp2
        exact bodyPost_ret (v := .tuple #[.string ⟨#[]⟩, .bool false]) (by simp [results, Try.results81, go_sem]) rfl ⟨by rw [hz.out], (Keeps.refl (fun _ => True) w2).drew.rd Hr2.out trivial, Hk2.out.drew⟩
      · obtain rfl : n = 0 := by omega
        cases ft with
        | false =>
          have hz := Lib.hid (hno (by rw [HB.out]; simp))
          clear hno hyes
          go_wp2_with fail
          refine (CB.out _ Hr2.out).mono ?_
          rintro e w4 ⟨rfl, rfl⟩
          go_wp2_with fail
          refine (CL.out _ Hr2.out).mono ?_
          rintro e w4 ⟨rfl, rfl⟩
          go_wp2_with fail
          refine (CF.out _).mono ?_
          rintro e w5 ⟨rfl, hx5⟩
          have Hx5 := Lib.hid hx5; clear hx5
          go_wp2
          exact bodyPost_ret (v := .tuple #[.string ⟨#[]⟩, .bool false]) (by simp [results, Try.results81, go_sem]) rfl ⟨by rw [hz.out], Hx5.out.keeps.rd ((Keeps.refl (fun _ => True) w2).drew.rd Hr2.out trivial) trivial, Hk2.out.drew.trans (Hx5.out.keeps.mono fun _ _ _ => trivial)⟩
        | true =>
          have hz := Lib.hid (hyes (by rw [HB.out]; simp))
          clear hno hyes
          go_wp2_with fail
          refine (CB.out _ Hr2.out).mono ?_
          rintro e w4 ⟨rfl, rfl⟩
          go_wp2_with fail
          refine (CL.out _ Hr2.out).mono ?_
          rintro e w4 ⟨rfl, rfl⟩
          go_wp2_with fail
          refine (CF.out _).mono ?_
          rintro e w5 ⟨rfl, hx5⟩
          have Hx5 := Lib.hid hx5; clear hx5
          go_wp2
          exact bodyPost_ret (v := .tuple #[.string d, .bool true]) (by simp [results, Try.results81, go_sem]) rfl ⟨by rw [hz.out], Hx5.out.keeps.rd ((Keeps.refl (fun _ => True) w2).drew.rd Hr2.out trivial) trivial, Hk2.out.drew.trans (Hx5.out.keeps.mono fun _ _ _ => trivial)⟩

/-- What isRight answers. -/
def rightB (t : Int) (d : ByteArray) : Bool := dataB t ⟨d, 0, false⟩ && ((outR (dataW t ⟨d, 0, false⟩)).1.toList == d.toList)
set_option maxRecDepth 100000 in
set_option maxHeartbeats 4000000 in
theorem isRight_any (t : Int) (d : ByteArray) (w : World) (hd : d.size ≤ 4294967296) :
    Calls Try.prog 59 #[.int .u16 t, .string d] w fun e w' => e = .returned (.bool (rightB t d)) ∧ Ext w w' := by
  have hr : rightB t d = (dataB t ⟨d, 0, false⟩ && ((outR (dataW t ⟨d, 0, false⟩)).1.toList == d.toList)) := rfl
  have hP : dataR t ⟨d, 0, false⟩ = if dataB t ⟨d, 0, false⟩ then ((outR (dataW t ⟨d, 0, false⟩)).1, true) else (⟨#[]⟩, false) := rfl
  have CP := Lib.hid fun R W h => plain_any t R ⟨d, 0, false⟩ W h ⟨Nat.zero_le _, by show d.size ≤ _; omega⟩ hd
  obtain ⟨x, hx⟩ : ∃ x, (outR (dataW t ⟨d, 0, false⟩)).1 = x := ⟨_, rfl⟩
  obtain ⟨y, hy⟩ : ∃ y, dataB t ⟨d, 0, false⟩ = y := ⟨_, rfl⟩
  rw [hx, hy] at hr hP
  rw [hP] at CP
  clear hx hy hP hd
  cases y with
  | false =>
    rw [Bool.false_and] at hr
    rw [hr]
    clear hr
    rw [if_neg (by decide)] at CP
    go_enter Try.func59, Try.ntmps59
    go_wp2_with fail
    refine (Open_any d w).mono ?_
    rintro e w1 ⟨rfl, hw1, hx⟩
    have Hx := Lib.hid hx; clear hx
    have Hw1 := Lib.hid hw1; clear hw1
    go_wp2_with fail
    refine (CP.out _ w1 Hw1.out).mono ?_
    rintro e w2 ⟨rfl, hr2, hk2⟩
    have Hx2 := Lib.hid (ext_of Hx.out hk2)
    clear hr2 hk2
    go_wp2
    go_ret
    exact ⟨rfl, Hx2.out⟩
  | true =>
    rw [Bool.true_and] at hr
    rw [hr]
    clear hr
    rw [if_pos rfl] at CP
    go_enter Try.func59, Try.ntmps59
    go_wp2_with fail
    refine (Open_any d w).mono ?_
    rintro e w1 ⟨rfl, hw1, hx⟩
    have Hx := Lib.hid hx; clear hx
    have Hw1 := Lib.hid hw1; clear hw1
    go_wp2_with fail
    refine (CP.out _ w1 Hw1.out).mono ?_
    rintro e w2 ⟨rfl, hr2, hk2⟩
    have Hx2 := Lib.hid (ext_of Hx.out hk2)
    clear hr2 hk2
    go_wp2
    go_ret
    exact ⟨rfl, Hx2.out⟩

end Go.Proofs.Yteoelhhkdfmaiaa

/- The mathematics of data that are made of numbers and names: written, read, right. Conditions: none. -/
namespace Go.Proofs.Yteoelhhkdfmaiaa
open Go

theorem rawW_back {q : Wr} {s : ByteArray} (h : (rawW q s).full = false) : q.full = false ∧ (rawW q s).bytes = q.bytes ++ bl s ∧ (rawW q s).limit = q.limit ∧ (rawW q s).rests = q.rests ∧ ((q.bytes.length : Int) ≤ q.limit → ((rawW q s).bytes.length : Int) ≤ q.limit) := by
  revert h
  unfold rawW
  split
  · next hc =>
    intro h
    have h0 : s.size = 0 := hc.resolve_right (by rw [h]; simp)
    have : bl s = [] := List.eq_nil_of_length_eq_zero (by rw [bl_size, h0])
    rw [this, List.append_nil]
    exact ⟨h, rfl, rfl, rfl, id⟩
  · next hc =>
    split
    · intro h; cases h
    · next hl =>
      intro h
      refine ⟨h, rfl, rfl, rfl, fun _ => ?_⟩
      show ((q.bytes ++ bl s).length : Int) ≤ _
      rw [List.length_append, bl_size]; omega
theorem startW_back {q : Wr} {rest first : ByteArray} (h : (startW q rest first).full = false) : q.full = false ∧ (startW q rest first).bytes = q.bytes ++ bl first ∧ (startW q rest first).limit = q.limit ∧ ((q.bytes.length : Int) ≤ q.limit → ((startW q rest first).bytes.length : Int) ≤ q.limit) := by
  revert h
  unfold startW
  split
  · intro h; obtain ⟨a, b, c, _, d⟩ := rawW_back h; exact ⟨a, b, c, d⟩
  · intro h; obtain ⟨a, b, c, _, d⟩ := rawW_back h; exact ⟨a, b, c, d⟩
/-- What Full leaves, if it is not full. -/
theorem goW_back : ∀ (L : List ByteArray) (q : Wr) (rest : ByteArray), bl rest = enc (L.map bl) → (goW false L (q, rest)).full = false →
    q.full = false ∧ (goW false L (q, rest)).bytes = q.bytes ++ enc (L.map bl) ∧ (goW false L (q, rest)).limit = q.limit ∧ ((q.bytes.length : Int) ≤ q.limit → ((goW false L (q, rest)).bytes.length : Int) ≤ q.limit)
  | [], q, rest, hr, h => by
    obtain ⟨a, b, c, _, d⟩ := rawW_back (q := q) (s := ⟨#[0]⟩) h
    exact ⟨a, b, c, d⟩
  | l :: L, q, rest, hr, h => by
    have e0 : goW false (l :: L) (q, rest) = goW false L (stepW (q, rest) l) := by rw [goW, if_neg (by simp [hitW])]
    rw [e0] at h ⊢
    have hel : (enc ((l :: L).map bl)).length = 1 + l.size + (enc (L.map bl)).length := by
      show (UInt8.ofNat (bl l).length :: (bl l ++ enc (L.map bl))).length = _
      rw [List.length_cons, List.length_append, bl_size]; omega
    have hfirst : bl (rest.extract 0 (1 + l.size)) = UInt8.ofNat l.size :: bl l := by
      rw [bl_extract, List.drop_zero, hr]
      show (UInt8.ofNat (bl l).length :: (bl l ++ enc (L.map bl))).take (1 + l.size) = _
      rw [Nat.add_comm, List.take_succ_cons, bl_size, ← bl_size, List.take_left]
    have hrest : bl (rest.extract (1 + l.size) rest.size) = enc (L.map bl) := by
      rw [bl_extract, take_bl, hr]
      exact enc_drop l _
    obtain ⟨a, b, c, d⟩ := goW_back L (startW q rest (rest.extract 0 (1 + l.size))) (rest.extract (1 + l.size) rest.size) hrest h
    obtain ⟨a2, b2, c2, d2⟩ := startW_back a
    refine ⟨a2, ?_, c.trans c2, fun hl => ?_⟩
    · rw [show stepW (q, rest) l = (startW q rest (rest.extract 0 (1 + l.size)), rest.extract (1 + l.size) rest.size) from rfl, b, b2, hfirst, List.append_assoc]; rfl
    · rw [show stepW (q, rest) l = (startW q rest (rest.extract 0 (1 + l.size)), rest.extract (1 + l.size) rest.size) from rfl, ← c2]
      exact d (by rw [c2]; exact d2 hl)
theorem nameW_back {q : Wr} {n : ByteArray} (hn : isName n = true) (h : (nameW q n false).full = false) : q.full = false ∧ (nameW q n false).bytes = q.bytes ++ bl n ∧ (nameW q n false).limit = q.limit ∧ ((q.bytes.length : Int) ≤ q.limit → ((nameW q n false).bytes.length : Int) ≤ q.limit) := by
  obtain ⟨ls, hr⟩ := rep_of_name hn
  have hen : bl n = enc ((labelsB n).map bl) := by rw [hr.labels]; exact hr.eq
  have e : nameW q n false = goW false (labelsB n) (q, n) := by rw [nameW, if_pos hn]
  rw [e] at h ⊢
  rw [hen]
  exact goW_back (labelsB n) q n hen h

theorem byB0 (n : Nat) : byB n 0 = UInt8.ofNat (n % 256) := by rw [byB, Nat.pow_zero, Nat.div_one]
theorem beN_nbs (k x : Nat) (hk : k = 2 ∨ k = 4) (hx : x < 256 ^ k) : beN (nbs x k) = x := by
  rcases hk with rfl | rfl
  · show beF 0 [byB x 1, byB x 0] = x
    simp only [beF, byB]
    rw [UInt8.toNat_ofNat_of_lt' (by omega : x / 256 ^ 1 % 256 < 256), UInt8.toNat_ofNat_of_lt' (by omega : x / 256 ^ 0 % 256 < 256)]
    omega
  · show beF 0 [byB x 3, byB x 2, byB x 1, byB x 0] = x
    simp only [beF, byB]
    rw [UInt8.toNat_ofNat_of_lt' (by omega : x / 256 ^ 3 % 256 < 256), UInt8.toNat_ofNat_of_lt' (by omega : x / 256 ^ 2 % 256 < 256), UInt8.toNat_ofNat_of_lt' (by omega : x / 256 ^ 1 % 256 < 256), UInt8.toNat_ofNat_of_lt' (by omega : x / 256 ^ 0 % 256 < 256)]
    omega

/-- A piece's own bytes, its kind, and whether it is right. -/
def itB : It → List UInt8
  | .num k x => nbs x k
  | .raw b => bl b
  | .name n => bl n
def pcOf : It → Pc
  | .num k _ => .num k
  | .raw _ => .raw
  | .name _ => .name
def OkIt : It → Prop
  | .num k x => (k = 2 ∨ k = 4) ∧ x < 256 ^ k
  | .raw _ => False
  | .name n => isName n = true
def flat (l : List It) : List UInt8 := (l.map itB).flatten
theorem flat_cons (i : It) (l : List It) : flat (i :: l) = itB i ++ flat l := rfl
theorem apW_back {q : Wr} {i : It} (hi : OkIt i) (h : (apW false q i).full = false) : q.full = false ∧ (apW false q i).bytes = q.bytes ++ itB i ∧ (apW false q i).limit = q.limit ∧ ((q.bytes.length : Int) ≤ q.limit → ((apW false q i).bytes.length : Int) ≤ q.limit) := by
  cases i with
  | num k x =>
    obtain ⟨a, b, c, _, d⟩ := rawW_back (q := q) (s := ⟨(nbs x k).toArray⟩) h
    rw [bl_mk] at b
    exact ⟨a, b, c, d⟩
  | raw b => exact hi.elim
  | name n => exact nameW_back hi h
theorem foldW_back : ∀ (l : List It) (q : Wr), (∀ i ∈ l, OkIt i) → (l.foldl (apW false) q).full = false →
    q.full = false ∧ (l.foldl (apW false) q).bytes = q.bytes ++ flat l ∧ (l.foldl (apW false) q).limit = q.limit ∧ ((q.bytes.length : Int) ≤ q.limit → ((l.foldl (apW false) q).bytes.length : Int) ≤ q.limit)
  | [], q, _, h => ⟨h, by simp [flat], rfl, id⟩
  | i :: l, q, hi, h => by
    obtain ⟨a, b, c, d⟩ := foldW_back l (apW false q i) (fun j hj => hi j (by simp [hj])) h
    obtain ⟨a2, b2, c2, d2⟩ := apW_back (hi i (by simp)) a
    refine ⟨a2, ?_, c.trans c2, fun hl => ?_⟩
    · show (l.foldl (apW false) (apW false q i)).bytes = _
      rw [b, b2, flat_cons, List.append_assoc]
    · show ((l.foldl (apW false) (apW false q i)).bytes.length : Int) ≤ _
      rw [← c2]; exact d (by rw [c2]; exact d2 hl)

/-- From a on bytes tell pieces, one behind the other, up to e. -/
def TellsI (bs : List UInt8) : Nat → List It → Nat → Prop
  | a, [], e => a = e
  | a, .num k x :: r, e => a + k ≤ bs.length ∧ (bs.drop a).take k = nbs x k ∧ TellsI bs (a + k) r e
  | a, .name n :: r, e => ∃ ls m, Rep n ls ∧ Tells bs a a ls m ∧ TellsI bs m r e
  | _, .raw _ :: _, _ => False
theorem rawR_fit (s : ByteArray) (a k : Nat) (h : a + k ≤ s.size) : rawR ⟨s, a, false⟩ (k : Int) = (s.extract a (a + k), ⟨s, a + k, false⟩) := by
  have : ¬ ((k : Int) < 0 ∨ ((⟨s, a, false⟩ : Rd).left : Int) < (k : Int)) := by
    show ¬ ((k : Int) < 0 ∨ ((s.size - a : Nat) : Int) < (k : Int)); omega
  rw [rawR, if_neg this]
  simp
theorem readPcs_tells (s : ByteArray) : ∀ (l : List It) (a e : Nat), (∀ i ∈ l, OkIt i) → TellsI (bl s) a l e → readPcs (l.map pcOf) ⟨s, a, false⟩ = (l, ⟨s, e, false⟩)
  | [], a, e, _, h => by obtain rfl := h; rfl
  | .num k x :: l, a, e, hi, ⟨h1, h2, h3⟩ => by
    obtain ⟨hk, hx⟩ := hi (.num k x) (by simp)
    have hw : widthB (k : Int) = true := by unfold widthB; exact decide_eq_true (by omega)
    have hr : numR ⟨s, a, false⟩ (k : Int) = (x, ⟨s, a + k, false⟩) := by
      rw [numR, if_pos hw, rawR_fit s a k h1]
      have : bl (s.extract a (a + k)) = nbs x k := by rw [bl_extract, ← h2, List.drop_take]; congr 1; omega
      rw [this, beN_nbs k x hk hx]
    have ih := readPcs_tells s l (a + k) e (fun j hj => hi j (by simp [hj])) h3
    show ((It.num k (numR ⟨s, a, false⟩ k).1) :: (readPcs (l.map pcOf) (numR ⟨s, a, false⟩ k).2).1, (readPcs (l.map pcOf) (numR ⟨s, a, false⟩ k).2).2) = _
    rw [hr]
    simp only
    rw [ih]
  | .name n :: l, a, e, hi, ⟨ls, m, h1, h2, h3⟩ => by
    have hr := nameR_tells h1 h2
    have ih := readPcs_tells s l m e (fun j hj => hi j (by simp [hj])) h3
    show ((It.name (nameR ⟨s, a, false⟩).1) :: (readPcs (l.map pcOf) (nameR ⟨s, a, false⟩).2).1, (readPcs (l.map pcOf) (nameR ⟨s, a, false⟩).2).2) = _
    rw [hr]
    simp only
    rw [ih]
  | .raw _ :: _, _, _, _, h => h.elim

theorem rawR_bad {r : Rd} (h : r.bad = true) (n : Int) : (rawR r n).2.bad = true := by
  unfold rawR; split
  · rfl
  · exact h
theorem readPc_bad {r : Rd} (h : r.bad = true) (p : Pc) : (readPc p r).2.bad = true := by
  cases p with
  | num k =>
    show (numR r k).2.bad = true
    unfold numR; split
    · exact rawR_bad h _
    · rfl
  | raw => exact rawR_bad h _
  | name =>
    show (nameR r).2.bad = true
    unfold nameR; split
    · exact h
    · rfl
theorem readPcs_bad : ∀ (ps : List Pc) {r : Rd}, r.bad = true → (readPcs ps r).2.bad = true
  | [], _, h => h
  | p :: ps, _, h => readPcs_bad ps (readPc_bad h p)
theorem readPcs_sound : ∀ (ps : List Pc) (r : Rd), (∀ p ∈ ps, p = .num 2 ∨ p = .num 4 ∨ p = .name) → r.ok → (readPcs ps r).2.bad = false →
    r.bad = false ∧ (∀ i ∈ (readPcs ps r).1, OkIt i) ∧ (readPcs ps r).1.map pcOf = ps
  | [], r, _, _, h => ⟨h, fun i hi => (by cases hi), rfl⟩
  | p :: ps, r, hp, hr, h => by
    obtain ⟨a, b, c⟩ := readPcs_sound ps (readPc p r).2 (fun x hx => hp x (by simp [hx])) (readPcs_ok [p] r hr).1 h
    have hbad : r.bad = false := by
      cases hb : r.bad with
      | false => rfl
      | true => rw [readPc_bad hb p] at a; cases a
    have h1 : OkIt (readPc p r).1 ∧ pcOf (readPc p r).1 = p := by
      have hnum : ∀ k : Nat, (k = 2 ∨ k = 4) → OkIt (readPc (.num k) r).1 ∧ pcOf (readPc (.num k) r).1 = .num k := by
        intro k hk
        have hlt := beN_lt (bl (rawR r k).1)
        rw [bl_size] at hlt
        have hw : widthB (k : Int) = true := by unfold widthB; exact decide_eq_true (by omega)
        refine ⟨⟨hk, ?_⟩, rfl⟩
        show (numR r k).1 < 256 ^ k
        rw [numR, if_pos hw]
        rcases rawR_size r k hr with h1 | h1
        · rw [h1] at hlt; exact hlt
        · show beN (bl (rawR r k).1) < _
          rw [h1]; exact Nat.lt_of_lt_of_le (show beN (bl ⟨#[]⟩) < 1 by decide +kernel) (Nat.pow_pos (by decide))
      rcases hp p (by simp) with rfl | rfl | rfl
      · exact hnum 2 (.inl rfl)
      · exact hnum 4 (.inr rfl)
      · refine ⟨?_, rfl⟩
        have a' : (nameR r).2.bad = false := a
        show isName (nameR r).1 = true
        revert a'
        unfold nameR; split
        · next hn => intro _; exact hn
        · intro h; cases h
    refine ⟨hbad, fun i hi => ?_, ?_⟩
    · rcases List.mem_cons.1 hi with rfl | hi
      · exact h1.1
      · exact b i hi
    · show pcOf (readPc p r).1 :: (readPcs ps (readPc p r).2).1.map pcOf = _
      rw [h1.2, c]

theorem rawW_inv {q : Wr} {s : ByteArray} (h : q.inv) (hf : q.full = false) (hl : ((q.bytes.length + s.size : Nat) : Int) ≤ q.limit) : (rawW q s).inv := by
  rw [rawW_fit hf hl]
  exact fun x hx => (h x hx).more _
/-- What is written is told. -/
theorem apW_tells (pt : Bool) {q : Wr} {i : It} (hi : OkIt i) (hf : q.full = false) (hl : ((q.bytes.length + (itB i).length : Nat) : Int) ≤ q.limit) (hq : q.ok) (hv : q.inv) :
    ∃ y, (apW pt q i).bytes = q.bytes ++ y ∧ y.length ≤ (itB i).length ∧ (apW pt q i).full = false ∧ (apW pt q i).limit = q.limit ∧ (apW pt q i).inv ∧
      ∀ z r e, TellsI (q.bytes ++ y ++ z) (q.bytes ++ y).length r e → TellsI (q.bytes ++ y ++ z) q.bytes.length (i :: r) e := by
  cases i with
  | num k x =>
    have hz : (⟨(nbs x k).toArray⟩ : ByteArray).size = (nbs x k).length := by show (nbs x k).toArray.size = _; simp
    have hk : k ≤ 8 := by rcases hi.1 with h | h <;> omega
    have hl' : ((q.bytes.length + (⟨(nbs x k).toArray⟩ : ByteArray).size : Nat) : Int) ≤ q.limit := by rw [hz]; exact hl
    have e : apW pt q (.num k x) = { q with bytes := q.bytes ++ nbs x k } := by
      show rawW q _ = _
      rw [rawW_fit hf hl', bl_mk]
    have hv2 := rawW_inv hv hf hl'
    refine ⟨nbs x k, by rw [e], Nat.le_refl _, by rw [e]; exact hf, by rw [e], hv2, fun z r e h => ?_⟩
    have hlen := nbs_length x k hk
    rw [List.length_append, hlen] at h
    refine ⟨?_, ?_, h⟩
    · rw [List.length_append, List.length_append, hlen]; omega
    · rw [List.append_assoc, List.drop_left, List.take_append, hlen, Nat.sub_self, List.take_zero, List.append_nil, List.take_of_length_le (by omega)]
  | raw b => exact hi.elim
  | name n =>
    obtain ⟨ls, hr⟩ := rep_of_name hi
    obtain ⟨y, i1, i2, i3, i4, i5, i6⟩ := nameW_tells pt hr hf hl (fun x hx => hq.2.2.2.2 x hx) hv
    exact ⟨y, i1, i2, i3, i4, i6, fun z r e h => ⟨ls, _, hr, i5.more z, h⟩⟩
theorem foldW_tells (pt : Bool) : ∀ (l : List It) (q : Wr), (∀ i ∈ l, OkIt i) → q.full = false → ((q.bytes.length + (flat l).length : Nat) : Int) ≤ q.limit → q.ok → q.inv →
    ∃ y, (l.foldl (apW pt) q).bytes = q.bytes ++ y ∧ y.length ≤ (flat l).length ∧ (l.foldl (apW pt) q).full = false ∧ (l.foldl (apW pt) q).limit = q.limit ∧ (l.foldl (apW pt) q).inv ∧
      TellsI (q.bytes ++ y) q.bytes.length l (q.bytes ++ y).length
  | [], q, _, hf, _, _, hv => ⟨[], by simp, by simp [flat], hf, rfl, hv, by simp [TellsI]⟩
  | i :: l, q, hi, hf, hl, hq, hv => by
    rw [flat_cons, List.length_append] at hl
    obtain ⟨y, a1, a2, a3, a4, a5, a6⟩ := apW_tells pt (hi i (by simp)) hf (by omega) hq hv
    obtain ⟨z, b1, b2, b3, b4, b5, b6⟩ := foldW_tells pt l (apW pt q i) (fun j hj => hi j (by simp [hj])) a3 (by rw [a1, a4, List.length_append]; omega) (apW_ok hq pt i) a5
    rw [a1] at b1 b6
    refine ⟨y ++ z, by rw [← List.append_assoc]; exact b1, by rw [flat_cons, List.length_append, List.length_append]; omega, b3, b4.trans a4, b5, ?_⟩
    rw [← List.append_assoc]
    exact a6 z l _ b6

end Go.Proofs.Yteoelhhkdfmaiaa

/- The mathematics of right data. Conditions: bytes of a bound. -/
namespace Go.Proofs.Yteoelhhkdfmaiaa
open Go

def named (t : Int) : Bool := (formR t).2.2.2
theorem pieces_kinds (t : Int) (hn : named t = true) : ∀ p ∈ pieces t, p = .num 2 ∨ p = .num 4 ∨ p = .name := by
  intro p hp
  rw [pieces, if_pos (show (formR t).2.2.2 = true from hn)] at hp
  rcases List.mem_append.1 hp with h | h
  · exact .inl (List.eq_of_mem_replicate h)
  · rcases List.mem_append.1 h with h | h
    · exact .inr (.inr (List.eq_of_mem_replicate h))
    · exact .inr (.inl (List.eq_of_mem_replicate h))
theorem pieces_raw (t : Int) (hn : named t = false) : pieces t = [.raw] := by
  rw [pieces, if_neg]; intro h; rw [show (formR t).2.2.2 = named t from rfl, hn] at h; cases h
theorem fits_named (t : Int) (hn : named t = true) (d : ByteArray) : fitsB t d = true := by
  unfold named formR at hn
  unfold fitsB
  split at hn
  · next h => rw [if_neg (by omega), if_neg (by omega), if_neg (by omega)]
  split at hn
  · next h => rw [if_neg (by omega), if_neg (by omega), if_neg (by omega)]
  split at hn
  · next h => rw [if_neg (by omega), if_neg (by omega), if_neg (by omega)]
  split at hn
  · next h => rw [if_neg (by omega), if_neg (by omega), if_neg (by omega)]
  · cases hn
/-- Data that are made of pieces. -/
structure Made (t : Int) (l : List It) (d : ByteArray) : Prop where
  ok : ∀ i ∈ l, OkIt i
  kinds : l.map pcOf = pieces t
  eq : bl d = flat l
  le : d.size ≤ 4096
theorem newW_inv : newW.inv := fun x hx => by cases hx
theorem Made.plain {t : Int} {l : List It} {d : ByteArray} (h : Made t l d) : (l.foldl (apW false) newW).full = false ∧ (l.foldl (apW false) newW).bytes = bl d := by
  have hl : (((newW).bytes.length + (flat l).length : Nat) : Int) ≤ newW.limit := by
    have := h.le
    rw [← h.eq, bl_size]; show ((0 + d.size : Nat) : Int) ≤ 4096; omega
  obtain ⟨y, _, _, h3, _⟩ := foldW_tells false l newW h.ok rfl hl newW_ok newW_inv
  obtain ⟨_, b, _⟩ := foldW_back l newW h.ok h3
  exact ⟨h3, by rw [b, h.eq]; rfl⟩
theorem Made.reads {t : Int} {l : List It} {d : ByteArray} (h : Made t l d) : readPcs (pieces t) ⟨d, 0, false⟩ = (l, ⟨d, d.size, false⟩) := by
  have hl : (((newW).bytes.length + (flat l).length : Nat) : Int) ≤ newW.limit := by
    have := h.le
    rw [← h.eq, bl_size]; show ((0 + d.size : Nat) : Int) ≤ 4096; omega
  obtain ⟨y, h1, _, h3, _, _, h6⟩ := foldW_tells false l newW h.ok rfl hl newW_ok newW_inv
  have hb := h.plain.2
  rw [h1] at hb
  rw [hb] at h6
  rw [← h.kinds]
  exact readPcs_tells d l 0 d.size h.ok h6
theorem outR_of {q : Wr} (h : q.full = false) {d : ByteArray} (hb : q.bytes = bl d) : outR q = (d, 0) := by
  unfold outR
  rw [h, hb]
  have : (⟨(bl d).toArray⟩ : ByteArray) = d := bl_inj (bl_mk _)
  rw [this]; rfl
/-- What reads as pieces of which data are made is right, and is these data. -/
theorem Made.data {t : Int} {l : List It} {d : ByteArray} (h : Made t l d) (hn : named t = true) {r rf : Rd} (hr : readPcs (pieces t) r = (l, rf)) (hb : rf.bad = false) (hl : rf.left = 0) : dataB t r = true ∧ outR (dataW t r) = (d, 0) := by
  have hw : dataW t r = l.foldl (apW false) newW := by rw [dataW, hr]
  have ho : outR (dataW t r) = (d, 0) := by rw [hw]; exact outR_of h.plain.1 h.plain.2
  refine ⟨?_, ho⟩
  unfold dataB
  rw [ho, hw, h.plain.1, hr, hb]
  simp only [hl]
  rw [fits_named t hn]; rfl
theorem Made.right {t : Int} {l : List It} {d : ByteArray} (h : Made t l d) (hn : named t = true) : rightB t d = true := by
  obtain ⟨a, b⟩ := h.data hn h.reads rfl (Nat.sub_self _)
  unfold rightB
  rw [a, b]
  show (true && (d.toList == d.toList)) = true
  simp
theorem data_made {t : Int} {r : Rd} (hn : named t = true) (hr : r.ok) (h : dataB t r = true) : Made t (readPcs (pieces t) r).1 (outR (dataW t r)).1 ∧ (readPcs (pieces t) r).2.bad = false ∧ (readPcs (pieces t) r).2.left = 0 := by
  unfold dataB at h
  rw [Bool.not_eq_true', Bool.or_eq_false_iff, Bool.or_eq_false_iff, Bool.or_eq_false_iff] at h
  obtain ⟨⟨⟨h1, h2⟩, h3⟩, _⟩ := h
  obtain ⟨_, a, b⟩ := readPcs_sound (pieces t) r (pieces_kinds t hn) hr h2
  obtain ⟨_, c, _, e⟩ := foldW_back _ newW a h1
  have e' := e (by decide)
  have ho : (outR (dataW t r)).1 = ⟨(flat (readPcs (pieces t) r).1).toArray⟩ := by
    rw [outR, h1]
    show (⟨((readPcs (pieces t) r).1.foldl (apW false) newW).bytes.toArray⟩ : ByteArray) = _
    rw [c]; rfl
  refine ⟨⟨a, b, by rw [ho, bl_mk], ?_⟩, h2, by simpa using h3⟩
  rw [← bl_size, ho, bl_mk]
  rw [c] at e'
  have : ((flat (readPcs (pieces t) r).1).length : Int) ≤ 4096 := e'
  omega
theorem right_eq {t : Int} {d : ByteArray} (h : rightB t d = true) : dataB t ⟨d, 0, false⟩ = true ∧ (outR (dataW t ⟨d, 0, false⟩)).1 = d := by
  unfold rightB at h
  rw [Bool.and_eq_true, beq_iff_eq] at h
  exact ⟨h.1, bl_inj (by
    have := h.2
    rw [toList_bl, toList_bl] at this
    exact this)⟩
theorem right_made {t : Int} {d : ByteArray} (hn : named t = true) (hd : d.size ≤ 1099511627776) (h : rightB t d = true) : Made t (readPcs (pieces t) ⟨d, 0, false⟩).1 d := by
  obtain ⟨a, b⟩ := right_eq h
  have := (data_made hn (r := ⟨d, 0, false⟩) ⟨Nat.zero_le _, hd⟩ a).1
  rwa [b] at this

/-- Data without names. -/
theorem raw_data {t : Int} (hn : named t = false) (s : ByteArray) (a : Nat) (b : Bool) (ha : a ≤ s.size) :
    readPcs (pieces t) ⟨s, a, b⟩ = ([.raw (s.extract a s.size)], ⟨s, s.size, b⟩) ∧ dataW t ⟨s, a, b⟩ = rawW newW (s.extract a s.size) := by
  have h1 : readPcs (pieces t) ⟨s, a, b⟩ = ([.raw (s.extract a s.size)], ⟨s, s.size, b⟩) := by
    rw [pieces_raw t hn]
    show ([It.raw (rawR ⟨s, a, b⟩ (Rd.left ⟨s, a, b⟩)).1], (rawR ⟨s, a, b⟩ (Rd.left ⟨s, a, b⟩)).2) = _
    have hl : (Rd.left ⟨s, a, b⟩) = s.size - a := rfl
    rw [rawR, if_neg (by rw [hl]; omega), hl]
    have : a + ((s.size - a : Nat) : Int).toNat = s.size := by omega
    simp only [this]
  refine ⟨h1, ?_⟩
  rw [dataW, h1]; rfl
theorem raw_out (x : ByteArray) : (rawW newW x).full = decide (4096 < x.size) ∧ (x.size ≤ 4096 → outR (rawW newW x) = (x, 0)) := by
  by_cases h : x.size ≤ 4096
  · have e := rawW_fit (q := newW) (s := x) rfl (by show ((0 + x.size : Nat) : Int) ≤ 4096; omega)
    refine ⟨by rw [e, decide_eq_false (by omega)]; rfl, fun _ => outR_of (by rw [e]; rfl) (by rw [e]; rfl)⟩
  · refine ⟨?_, fun h' => absurd h' h⟩
    rw [decide_eq_true (by omega)]
    have h1 : ¬ (x.size = 0 ∨ newW.full = true) := by
      rintro (h1 | h1)
      · omega
      · cases h1
    have h2 : newW.limit < ((newW.bytes.length + x.size : Nat) : Int) := by show (4096 : Int) < ((0 + x.size : Nat) : Int); omega
    rw [rawW, if_neg h1, if_pos h2]
theorem raw_dataB {t : Int} (hn : named t = false) (s : ByteArray) (a : Nat) (ha : a ≤ s.size) : dataB t ⟨s, a, false⟩ = (decide (s.size - a ≤ 4096) && fitsB t (s.extract a s.size)) := by
  obtain ⟨h1, h2⟩ := raw_data hn s a false ha
  obtain ⟨h3, h4⟩ := raw_out (s.extract a s.size)
  have hz : (s.extract a s.size).size = s.size - a := by rw [ByteArray.size_extract]; omega
  rw [hz] at h3 h4
  unfold dataB
  rw [h1, h2, h3]
  by_cases h : s.size - a ≤ 4096
  · rw [h4 h, decide_eq_true h, decide_eq_false (by omega)]
    have : (Rd.left ⟨s, s.size, false⟩) = 0 := Nat.sub_self _
    simp [this]
  · rw [decide_eq_false h, decide_eq_true (by omega)]; simp
theorem extract_all (s : ByteArray) : s.extract 0 s.size = s := bl_inj (by rw [bl_extract, take_bl, List.drop_zero])
theorem raw_right {t : Int} (hn : named t = false) (d : ByteArray) : rightB t d = (decide (d.size ≤ 4096) && fitsB t d) := by
  have h1 := raw_dataB hn d 0 (Nat.zero_le _)
  rw [extract_all, Nat.sub_zero] at h1
  unfold rightB
  rw [h1]
  by_cases h : d.size ≤ 4096
  · have h2 := (raw_data hn d 0 false (Nat.zero_le _)).2
    rw [extract_all] at h2
    rw [h2, (raw_out d).2 h]; simp
  · rw [decide_eq_false h]; simp

/-- What is read is right. -/
theorem data_right {t : Int} {r : Rd} (hr : r.ok) (h : dataB t r = true) : rightB t (outR (dataW t r)).1 = true ∧ (readPcs (pieces t) r).2.bad = false ∧ (readPcs (pieces t) r).2.left = 0 := by
  cases hn : named t with
  | true =>
    obtain ⟨a, b, c⟩ := data_made hn hr h
    exact ⟨a.right hn, b, c⟩
  | false =>
    obtain ⟨s, a, b⟩ := r
    obtain ⟨h1, h2⟩ := raw_data hn s a b hr.1
    have hb : b = false := by
      cases b with
      | false => rfl
      | true => unfold dataB at h; rw [h1] at h; simp at h
    subst hb
    rw [h1]
    refine ⟨?_, rfl, Nat.sub_self _⟩
    rw [raw_dataB hn s a hr.1, Bool.and_eq_true, decide_eq_true_eq] at h
    have hz : (s.extract a s.size).size = s.size - a := by have := hr.1; simp only at this; rw [ByteArray.size_extract]; omega
    rw [h2, (raw_out _).2 (by rw [hz]; exact h.1), raw_right hn]
    simp only [hz, decide_eq_true h.1, Bool.true_and]
    exact h.2

/-- Right data that are written are read as they were. -/
theorem write_read {t : Int} {d : ByteArray} (h : rightB t d = true) (hd : d.size ≤ 1099511627776) (pt : Bool) {q : Wr} (hf : q.full = false) (hl : ((q.bytes.length + 4096 : Nat) : Int) ≤ q.limit) (hq : q.ok) (hv : q.inv) :
    d.size ≤ 4096 ∧ ∃ y, ((readPcs (pieces t) ⟨d, 0, false⟩).1.foldl (apW pt) q).bytes = q.bytes ++ y ∧ y.length ≤ d.size ∧ ((readPcs (pieces t) ⟨d, 0, false⟩).1.foldl (apW pt) q).full = false ∧
      ((readPcs (pieces t) ⟨d, 0, false⟩).1.foldl (apW pt) q).limit = q.limit ∧ ((readPcs (pieces t) ⟨d, 0, false⟩).1.foldl (apW pt) q).inv ∧
      ∀ s : ByteArray, bl s = q.bytes ++ y → dataB t ⟨s, q.bytes.length, false⟩ = true ∧ (outR (dataW t ⟨s, q.bytes.length, false⟩)).1 = d := by
  cases hn : named t with
  | true =>
    have hm := right_made hn hd h
    obtain ⟨l, hl'⟩ : ∃ l, (readPcs (pieces t) ⟨d, 0, false⟩).1 = l := ⟨_, rfl⟩
    rw [hl'] at hm ⊢
    have hz : (flat l).length = d.size := by rw [← hm.eq, bl_size]
    have hle := hm.le
    obtain ⟨y, a1, a2, a3, a4, a5, a6⟩ := foldW_tells pt l q hm.ok hf (by rw [hz]; omega) hq hv
    refine ⟨hle, y, a1, by rw [← hz]; exact a2, a3, a4, a5, fun s hs => ?_⟩
    rw [← hs] at a6
    have hr := readPcs_tells s l _ _ hm.ok a6
    rw [hm.kinds] at hr
    obtain ⟨b1, b2⟩ := hm.data hn hr rfl (Nat.sub_self _)
    exact ⟨b1, by rw [b2]⟩
  | false =>
    have hr := raw_right hn d
    rw [h] at hr
    have hr' := hr.symm
    rw [Bool.and_eq_true, decide_eq_true_eq] at hr'
    obtain ⟨h1, _⟩ := raw_data hn d 0 false (Nat.zero_le _)
    rw [extract_all] at h1
    rw [h1]
    have hfit : ((q.bytes.length + d.size : Nat) : Int) ≤ q.limit := by omega
    have e : [It.raw d].foldl (apW pt) q = { q with bytes := q.bytes ++ bl d } := rawW_fit hf hfit
    have hi := rawW_inv hv hf hfit
    refine ⟨hr'.1, bl d, by rw [e], Nat.le_refl _, by rw [e]; exact hf, by rw [e], hi, fun s hs => ?_⟩
    have hss : s.size = q.bytes.length + d.size := by rw [← bl_size, hs, List.length_append, bl_size]
    have hx : s.extract q.bytes.length s.size = d := bl_inj (by rw [bl_extract, take_bl, hs, List.drop_left])
    have hb := raw_dataB hn s q.bytes.length (by omega)
    rw [hx, show s.size - q.bytes.length = d.size by omega, ← hr] at hb
    refine ⟨hb, ?_⟩
    rw [(raw_data hn s q.bytes.length false (by omega)).2, hx, (raw_out d).2 hr'.1]

end Go.Proofs.Yteoelhhkdfmaiaa
