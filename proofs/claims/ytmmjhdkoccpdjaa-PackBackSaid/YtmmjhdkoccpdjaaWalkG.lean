/- What walk's Less does. Conditions: strings that Go can hold. -/
import Derived.Test.YtmmjhdkoccpdjaaWalkF
namespace Go.Proofs.Ytmmjhdkoccpdjaa
open Go Go.RowKit Go.Shelf

def lessB (a b : ByteArray) : Bool := isName a && isName b && decide (cmpL (placeB a) (placeB b) < 0)

theorem name_le {a : ByteArray} (h : isName a = true) : a.size ≤ 255 := by
  obtain ⟨ls, hr⟩ := rep_of_name h
  exact hr.len
theorem placeB_len (a : ByteArray) : (placeB a).length ≤ a.size := by
  rw [placeB, List.length_reverse]
  have := labelsB_length (foldS a)
  rw [size_foldS] at this
  exact this

set_option maxRecDepth 100000 in
set_option maxHeartbeats 4000000 in
theorem Less_any (a b : ByteArray) (w : World) (ha : a.size ≤ maxLen) (hb : b.size ≤ maxLen) :
    Calls Try.prog 27 #[.string a, .string b] w fun e w' => e = .returned (.bool (lessB a b)) ∧ Ext w w' := by
  have CA := Lib.hid fun W => Check_any a W ha
  have CB := Lib.hid fun W => Check_any b W hb
  have HX := Lib.hid (Ext.refl w)
  cases hna : isName a with
  | false =>
    rw [chk_none hna] at CA
    rw [show lessB a b = false by rw [lessB, hna]; rfl]
    clear CB hna
    go_enter Try.func27, Try.ntmps27
    go_wp2_with (first
      | ((with_reducible refine (CA.out _).mono ?_); rintro e w' ⟨rfl, hx⟩; have HX := Lib.hid (HX.out.trans hx); clear hx))
    go_ret
    exact ⟨rfl, HX.out⟩
  | true =>
    cases hnb : isName b with
    | false =>
      rw [chk_name hna] at CA
      rw [chk_none hnb] at CB
      rw [show lessB a b = false by rw [lessB, hna, hnb]; rfl]
      clear hna hnb
      go_enter Try.func27, Try.ntmps27
      go_wp2_with (first
        | ((with_reducible refine (CA.out _).mono ?_); rintro e w' ⟨rfl, hx⟩; have HX := Lib.hid (HX.out.trans hx); clear hx)
        | ((with_reducible refine (CB.out _).mono ?_); rintro e w' ⟨rfl, hx⟩; have HX := Lib.hid (HX.out.trans hx); clear hx))
      go_ret
      exact ⟨rfl, HX.out⟩
    | true =>
      rw [chk_name hna] at CA
      rw [chk_name hnb] at CB
      rw [show lessB a b = decide (cmpL (placeB a) (placeB b) < 0) by rw [lessB, hna, hnb]; rfl]
      have la := placeB_len a
      have lb := placeB_len b
      have sa := name_le hna
      have sb := name_le hnb
      have PA := Lib.hid fun W => place_any a W sa
      have PB := Lib.hid fun W => place_any b W sb
      clear hna hnb
      go_enter Try.func27, Try.ntmps27
      go_wp2_with (first
        | ((with_reducible refine (CA.out _).mono ?_); rintro e w' ⟨rfl, hx⟩; have HX := Lib.hid (HX.out.trans hx); clear hx)
        | ((with_reducible refine (CB.out _).mono ?_); rintro e w' ⟨rfl, hx⟩; have HX := Lib.hid (HX.out.trans hx); clear hx)
        | ((with_reducible refine (PA.out _).mono ?_); rintro e w3 ⟨v, rfl, hown, hx⟩; have HX := Lib.hid (HX.out.trans hx); have HV := Lib.hid (strs_of_row (ls := placeB a) (by simpa using hown)); clear hx hown)
        | ((with_reducible refine (PB.out _).mono ?_); rintro e w4 ⟨u, rfl, hown, hx⟩; have HV2 := Lib.hid (HV.out.ext hx); have HX := Lib.hid (HX.out.trans hx); have HU := Lib.hid (strs_of_row (ls := placeB b) (by simpa using hown)); clear hx hown))
      refine (Compare_any v u (placeB a) (placeB b) w4 HV2.out HU.out (by omega)).mono ?_
      rintro e w5 ⟨rfl, hx⟩
      have HX5 := Lib.hid (HX.out.trans hx)
      obtain ⟨c, hc⟩ : ∃ c, cmpL (placeB a) (placeB b) = c := ⟨_, rfl⟩
      rw [hc]
      have Hc := Lib.hid hc
      clear hx hc
      go_wp2
      go_ret
      exact ⟨by rw [Hc.out]; rfl, HX5.out⟩

end Go.Proofs.Ytmmjhdkoccpdjaa
