/- The walk of hardtacklaw02.WalkTells: it answers true. Conditions: strings that Go can hold. -/
import Derived.Test.YtmmjhdkoccpdjaaRefE
import Derived.Test.YtmmjhdkoccpdjaaLives2
namespace Go.Proofs.Ytmmjhdkoccpdjaa
open Go Go.RowKit Go.Shelf
attribute [local go_sem] Oper.semAt_some wide_fn wide_depth

set_option maxRecDepth 100000 in
set_option maxHeartbeats 8000000 in
theorem walkTells_walk (a b : ByteArray) (w : World) (ha : a.size ≤ maxLen) (hb : b.size ≤ maxLen) :
    Calls Try.prog 4 #[.string a, .string b] w fun e w' => e = .returned (.bool true) ∧ Ext w w' := by
  have CL := Lib.hid fun W => lives2_any W
  by_cases h1 : 1000 < a.size
  · unfold maxLen at ha hb
    go_enter Try.func4, Try.ntmps4
    go_wp2_with fail
    refine (CL.out _).mono ?_
    rintro e w1 ⟨rfl, hx⟩
    have HX := Lib.hid hx; clear hx
    go_wp2
    go_ret
    exact ⟨rfl, HX.out⟩
  · by_cases h2 : 1000 < b.size
    · unfold maxLen at ha hb
      have h1' : decide ((1000 : Int) < a.size) = false := by simp; omega
      go_enter Try.func4, Try.ntmps4
      go_wp2_with fail
      refine (CL.out _).mono ?_
      rintro e w1 ⟨rfl, hx⟩
      have HX := Lib.hid hx; clear hx
      go_wp2
      go_ret
      exact ⟨rfl, HX.out⟩
    · have C1 := Lib.hid fun W => Common_any a b W ha hb
      have C2 := Lib.hid fun W => RCommon_any a b W ha hb
      have C3 := Lib.hid fun W => Next_any a b W ha hb
      have C4 := Lib.hid fun W => RNext_any a b W ha hb
      have C5 := Lib.hid fun W => Depth_any a b W ha hb
      have C6 := Lib.hid fun W => RDepth_any a b W ha hb
      have C7 := Lib.hid fun W => Less_any a b W ha hb
      have C8 := Lib.hid fun W => RLess_any a b W ha hb
      have C9 := Lib.hid fun W => list_any a W ha
      have C10 := Lib.hid fun W => RUp_any a W ha
      have hul := upB_len255 a
      have Hul : Hid ((upB a).length ≤ 140737488355328) := Lib.hid (by omega)
      clear hul
      unfold maxLen at ha hb
      have h1' : decide ((1000 : Int) < a.size) = false := by simp; omega
      have h2' : decide ((1000 : Int) < b.size) = false := by simp; omega
      obtain ⟨⟨c, c'⟩, hc⟩ : ∃ c, commonR a b = c := ⟨_, rfl⟩
      obtain ⟨⟨n, n'⟩, hn⟩ : ∃ c, nextR a b = c := ⟨_, rfl⟩
      obtain ⟨d, hd⟩ : ∃ c, depthB a b = c := ⟨_, rfl⟩
      obtain ⟨l, hl⟩ : ∃ c, lessB a b = c := ⟨_, rfl⟩
      rw [hc] at C1 C2
      rw [hn] at C3 C4
      rw [hd] at C5 C6
      rw [hl] at C7 C8
      clear hc hn hd hl
      go_enter Try.func4, Try.ntmps4
      go_wp2_with fail
      refine (C1.out _).mono ?_
      rintro e w1 ⟨rfl, hx⟩
      have HX := Lib.hid hx; clear hx
      go_wp2_with fail
      refine (C2.out _).mono ?_
      rintro e w2 ⟨rfl, hx⟩
      have HX := Lib.hid (HX.out.trans hx); clear hx
      go_wp2_with fail
      refine (C3.out _).mono ?_
      rintro e w3 ⟨rfl, hx⟩
      have HX := Lib.hid (HX.out.trans hx); clear hx
      go_wp2_with fail
      refine (C4.out _).mono ?_
      rintro e w4 ⟨rfl, hx⟩
      have HX := Lib.hid (HX.out.trans hx); clear hx
      go_wp2_with fail
      refine (CL.out _).mono ?_
      rintro e w5 ⟨rfl, hx⟩
      have HX := Lib.hid (HX.out.trans hx); clear hx
      go_wp2_with fail
      refine (C5.out _).mono ?_
      rintro e w6 ⟨rfl, hx⟩
      have HX := Lib.hid (HX.out.trans hx); clear hx
      go_wp2_with fail
      refine (C6.out _).mono ?_
      rintro e w7 ⟨rfl, hx⟩
      have HX := Lib.hid (HX.out.trans hx); clear hx
      go_wp2_with fail
      refine (C7.out _).mono ?_
      rintro e w8 ⟨rfl, hx⟩
      have HX := Lib.hid (HX.out.trans hx); clear hx
      go_wp2_with fail
      refine (C8.out _).mono ?_
      rintro e w9 ⟨rfl, hx⟩
      have HX := Lib.hid (HX.out.trans hx); clear hx
      go_wp2_with fail
      refine (C9.out _).mono ?_
      rintro e w10 ⟨v, rfl, hv, hx⟩
      have HV := Lib.hid hv; clear hv
      have HX := Lib.hid (HX.out.trans hx); clear hx
      go_wp2_with fail
      refine (C10.out _).mono ?_
      rintro e w11 ⟨u, rfl, hu, hx⟩
      have HU := Lib.hid hu; clear hu
      have HV := Lib.hid (HV.out.ext hx)
      have HX := Lib.hid (HX.out.trans hx); clear hx
      go_wp2_with fail
      refine (SameTexts_any v u _ _ w11 HV.out HU.out Hul.out).mono ?_
      rintro e w12 ⟨rfl, hx⟩
      have HX := Lib.hid (HX.out.trans hx); clear hx
      rw [decide_eq_true rfl]
      go_wp2
      go_ret
      exact ⟨rfl, HX.out⟩

end Go.Proofs.Ytmmjhdkoccpdjaa
