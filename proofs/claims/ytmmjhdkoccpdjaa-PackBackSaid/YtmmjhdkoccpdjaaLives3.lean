/- What the first question of layer 3's statements (lives) answers: true. Conditions: none. -/
import Derived.Test.YtmmjhdkoccpdjaaPackP
namespace Go.Proofs.Ytmmjhdkoccpdjaa
open Go Go.RowKit Go.Shelf

instance : DecidablePred Wr.ok := fun q => by unfold Wr.ok; infer_instance
instance : DecidablePred Rd.ok := fun q => by unfold Rd.ok; infer_instance
namespace L3
def nA : ByteArray := ⟨#[1, 97, 3, 111, 114, 103, 0]⟩
def nB : ByteArray := ⟨#[1, 98, 3, 111, 114, 103, 0]⟩
def nS : ByteArray := ⟨#[0, 7, 1, 97, 3, 111, 114, 103, 0, 1, 98, 192, 4, 0]⟩
def q0 : Wr := ⟨[], 40, false, []⟩
def q1 : Wr := rawW q0 ⟨(nbs 66051 2).toArray⟩
def q2 : Wr := nameW q1 nA true
def q3 : Wr := nameW q2 nB true
def q4 : Wr := nameW q3 ⟨#[0]⟩ true
def q5 : Wr := setW q4 0 7
def q6 : Wr := rawW q5 (nS ++ nS)
def r0 : Rd := ⟨nS, 0, false⟩
def r1 : Rd := (numR r0 2).2
def r2 : Rd := (nameR r1).2
def r3 : Rd := (nameR r2).2
def r4 : Rd := (nameR r3).2
def r5 : Rd := (rawR r4 1).2
theorem o0 : q0.ok := by decide +kernel
theorem o1 : q1.ok := by decide +kernel
theorem o2 : q2.ok := by decide +kernel
theorem o3 : q3.ok := by decide +kernel
theorem o4 : q4.ok := by decide +kernel
theorem o5 : q5.ok := by decide +kernel
theorem p0 : r0.ok := by decide +kernel
theorem p1 : r1.ok := by decide +kernel
theorem p2 : r2.ok := by decide +kernel
theorem p3 : r3.ok := by decide +kernel
theorem p4 : r4.ok := by decide +kernel
theorem p5 : r5.ok := by decide +kernel
theorem e1 : q5.bytes.length = 14 := by decide +kernel
theorem e2 : outR q5 = (nS, 0) := by decide +kernel
theorem e3 : (outR q6).2 = 7 := by decide +kernel
theorem e4 : (numR r0 2).1 = 7 := by decide +kernel
theorem e5 : (nameR r1).1 = nA := by decide +kernel
theorem e6 : (nameR r2).1 = nB := by decide +kernel
theorem e7 : (nameR r3).1 = ⟨#[0]⟩ := by decide +kernel
theorem e8 : r4.left = 0 := by decide +kernel
theorem e9 : r4.at_ = 14 := by decide +kernel
theorem e10 : r5.bad = true := by decide +kernel
theorem e11 : 0 + 2 ≤ q4.bytes.length := by decide +kernel

set_option maxRecDepth 100000 in
set_option maxHeartbeats 4000000 in
theorem lives_any (w : World) : Calls Try.prog 38 #[] w fun e w' => e = .returned (.bool true) ∧ Ext w w' := by
  have g1 : (nS.toList == [0, 7, 1, 97, 3, 111, 114, 103, 0, 1, 98, 192, 4, 0]) = true := by decide +kernel
  have g2 : (nA.toList == [1, 97, 3, 111, 114, 103, 0]) = true := by decide +kernel
  have g3 : (nB.toList == [1, 98, 3, 111, 114, 103, 0]) = true := by decide +kernel
  have g4 : nS.size = 14 := by decide +kernel
  have C0 := Lib.hid fun W => New_any 40 W
  go_enter Try.func38, Try.ntmps38
  go_wp2_with fail
  refine (C0.out _).mono ?_
  rintro e w1 ⟨rfl, hw, hx⟩
  obtain ⟨B, hB⟩ : ∃ B, w.heap.size + 1 = B := ⟨_, rfl⟩
  rw [hB] at hw ⊢
  have HB := Lib.hid hB; clear hB
  have Hw := Lib.hid hw; clear hw
  have HK := Lib.hid (hx.keeps.mono (K' := fun k => k < w.heap.size) fun _ _ _ => trivial); clear hx
  have C := Lib.hid (WNum_any B _ q0 2 66051 w1 Hw.out o0 (.inr (.inl rfl)) (by decide))
  go_wp2_with fail
  refine C.out.mono ?_
  rintro e w2 ⟨⟨v, rfl⟩, hw, hk⟩
  have Hw := Lib.hid hw; clear hw
  have HK := Lib.hid (HK.out.trans hk); clear hk
  have C := Lib.hid (WNamed_any B _ q1 nA w2 Hw.out o1 (by decide))
  go_wp2_with fail
  refine C.out.mono ?_
  rintro e w3 ⟨⟨v, rfl⟩, hw, hk⟩
  have Hw := Lib.hid hw; clear hw
  have HK := Lib.hid (HK.out.trans hk); clear hk
  have C := Lib.hid (WNamed_any B _ q2 nB w3 Hw.out o2 (by decide))
  go_wp2_with fail
  refine C.out.mono ?_
  rintro e w4 ⟨⟨v, rfl⟩, hw, hk⟩
  have Hw := Lib.hid hw; clear hw
  have HK := Lib.hid (HK.out.trans hk); clear hk
  have C := Lib.hid (WNamed_any B _ q3 ⟨#[0]⟩ w4 Hw.out o3 (by decide))
  go_wp2_with fail
  refine C.out.mono ?_
  rintro e w5 ⟨⟨v, rfl⟩, hw, hk⟩
  have Hw := Lib.hid hw; clear hw
  have HK := Lib.hid (HK.out.trans hk); clear hk
  have C := Lib.hid (WSet_any B _ q4 0 7 w5 Hw.out o4 e11 (by decide))
  go_wp2_with fail
  refine C.out.mono ?_
  rintro e w6 ⟨⟨v, rfl⟩, hw, hk⟩
  have Hw := Lib.hid hw; clear hw
  have HK := Lib.hid (HK.out.trans hk); clear hk
  have C := Lib.hid (Len_any B _ q5 w6 Hw.out)
  rw [e1] at C
  go_wp2_with fail
  refine C.out.mono ?_
  rintro e w6' ⟨rfl, rfl⟩
  have C := Lib.hid (Out_any B _ q5 w6 Hw.out)
  rw [e2] at C
  go_wp2_with fail
  refine C.out.mono ?_
  rintro e w6' ⟨rfl, rfl⟩
  have C := Lib.hid (WRaw_any B _ q5 (nS ++ nS) w6 Hw.out o5 (by decide +kernel))
  go_wp2_with fail
  refine C.out.mono ?_
  rintro e w7 ⟨⟨v, rfl⟩, hw, hk⟩
  have Hw := Lib.hid hw; clear hw
  have HK := Lib.hid (HK.out.trans hk); clear hk
  have C := Lib.hid (Out_any B _ q6 w7 Hw.out)
  rw [e3] at C
  go_wp2_with fail
  refine C.out.mono ?_
  rintro e w7' ⟨rfl, rfl⟩
  have C := Lib.hid (Open_any nS w7)
  go_wp2_with fail
  refine C.out.mono ?_
  rintro e w8 ⟨rfl, hr, hx⟩
  obtain ⟨R, hR⟩ : ∃ R, w7.heap.size = R := ⟨_, rfl⟩
  rw [hR] at hr ⊢
  have hRw : w.heap.size ≤ R := by rw [← hR]; exact HK.out.size
  have Hr := Lib.hid hr; clear hr hR
  have HK := Lib.hid (HK.out.trans (hx.keeps.mono fun _ _ _ => trivial)); clear hx
  have C := Lib.hid (Num_any R r0 2 w8 Hr.out p0 (.inr (.inl rfl)))
  rw [show (((2 : Nat) : Int)) = 2 from rfl] at C
  rw [e4] at C
  go_wp2_with fail
  refine C.out.mono ?_
  rintro e w9 ⟨rfl, hr, hk⟩
  have Hr := Lib.hid hr; clear hr
  have HK := Lib.hid (HK.out.trans (hk.mono fun j _ hj => by omega)); clear hk
  have C := Lib.hid (Name_any R r1 w9 Hr.out p1)
  rw [e5] at C
  go_wp2_with fail
  refine C.out.mono ?_
  rintro e w10 ⟨rfl, hr, hk⟩
  have Hr := Lib.hid hr; clear hr
  have HK := Lib.hid (HK.out.trans (hk.mono fun j _ hj => by omega)); clear hk
  have C := Lib.hid (Name_any R r2 w10 Hr.out p2)
  rw [e6] at C
  go_wp2_with fail
  refine C.out.mono ?_
  rintro e w11 ⟨rfl, hr, hk⟩
  have Hr := Lib.hid hr; clear hr
  have HK := Lib.hid (HK.out.trans (hk.mono fun j _ hj => by omega)); clear hk
  have C := Lib.hid (Name_any R r3 w11 Hr.out p3)
  rw [e7] at C
  go_wp2_with fail
  refine C.out.mono ?_
  rintro e w12 ⟨rfl, hr, hk⟩
  have Hr := Lib.hid hr; clear hr
  have HK := Lib.hid (HK.out.trans (hk.mono fun j _ hj => by omega)); clear hk
  have C := Lib.hid (Left_any R r4 w12 Hr.out p4)
  rw [e8] at C
  go_wp2_with fail
  refine C.out.mono ?_
  rintro e w13 ⟨rfl, rfl⟩
  have Hr : Hid (RdAt w12.drew R r4) := Lib.hid Hr.out
  have HK := Lib.hid (HK.out.drew)
  have C := Lib.hid (At_any R r4 w12.drew Hr.out)
  rw [e9] at C
  go_wp2_with fail
  refine C.out.mono ?_
  rintro e w13 ⟨rfl, rfl⟩
  have C := Lib.hid (Raw_any R r4 1 w12.drew Hr.out p4 (by decide))
  go_wp2_with fail
  refine C.out.mono ?_
  rintro e w14 ⟨rfl, hr, hk, _⟩
  have Hr := Lib.hid hr; clear hr
  have HK := Lib.hid (HK.out.trans (hk.mono fun j _ hj => by omega)); clear hk
  have C := Lib.hid (Bad_any R r5 w14 Hr.out)
  rw [e10] at C
  go_wp2_with fail
  refine C.out.mono ?_
  rintro e w15 ⟨rfl, rfl⟩
  go_wp2
  go_ret
  exact ⟨rfl, HK.out.ext fun _ h => h⟩
end L3

end Go.Proofs.Ytmmjhdkoccpdjaa
