/- hardtacklaw02.WalkOrder answers true for every three strings, and leaves what lay as it lay. Conditions: none beyond the form's own. -/
import Derived.Test.YtkfepgcaaaopcaaWalkOrder
namespace Go.Proofs.Ytkfepgcaaaopcaa
open Go Go.RowKit Go.Shelf

set_option maxRecDepth 100000 in
set_option maxHeartbeats 8000000 in
theorem walkOrder_walk (a b c : ByteArray) (w : World) (ha : a.size ≤ maxLen) (hb : b.size ≤ maxLen) (hc : c.size ≤ maxLen) :
    Calls Try.prog 6 #[.string a, .string b, .string c] w fun e w' => e = .returned (.bool true) ∧ Ext w w' := by
  have LV := Lib.hid lives2_any
  have CA := Lib.hid fun W => Check_any a W ha
  have CB := Lib.hid fun W => Check_any b W hb
  have CC := Lib.hid fun W => Check_any c W hc
  have LAB := Lib.hid fun W => Less_any a b W ha hb
  have HX := Lib.hid (Ext.refl w)
  cases hna : isName a with
  | false =>
    rw [chk_none hna] at CA
    rw [show lessB a b = false by rw [lessB, hna]; rfl] at LAB
    clear hna ha hb hc
    go_enter Try.func6, Try.ntmps6
    go_wp2_with (first
      | ((with_reducible refine (LV.out _).mono ?_); rintro e w' ⟨rfl, hx⟩; have HX := Lib.hid (HX.out.trans hx); clear hx)
      | ((with_reducible refine (CA.out _).mono ?_); rintro e w' ⟨rfl, hx⟩; have HX := Lib.hid (HX.out.trans hx); clear hx)
      | ((with_reducible refine (CB.out _).mono ?_); rintro e w' ⟨rfl, hx⟩; have HX := Lib.hid (HX.out.trans hx); clear hx)
      | ((with_reducible refine (CC.out _).mono ?_); rintro e w' ⟨rfl, hx⟩; have HX := Lib.hid (HX.out.trans hx); clear hx)
      | ((with_reducible refine (LAB.out _).mono ?_); rintro e w' ⟨rfl, hx⟩; have HX := Lib.hid (HX.out.trans hx); clear hx))
    go_ret
    exact ⟨rfl, HX.out⟩
  | true =>
   cases hnb : isName b with
   | false =>
    rw [chk_name hna] at CA
    rw [chk_none hnb] at CB
    rw [show lessB a b = false by rw [lessB, hna, hnb]; rfl] at LAB
    clear hna hnb ha hb hc
    go_enter Try.func6, Try.ntmps6
    go_wp2_with (first
      | ((with_reducible refine (LV.out _).mono ?_); rintro e w' ⟨rfl, hx⟩; have HX := Lib.hid (HX.out.trans hx); clear hx)
      | ((with_reducible refine (CA.out _).mono ?_); rintro e w' ⟨rfl, hx⟩; have HX := Lib.hid (HX.out.trans hx); clear hx)
      | ((with_reducible refine (CB.out _).mono ?_); rintro e w' ⟨rfl, hx⟩; have HX := Lib.hid (HX.out.trans hx); clear hx)
      | ((with_reducible refine (CC.out _).mono ?_); rintro e w' ⟨rfl, hx⟩; have HX := Lib.hid (HX.out.trans hx); clear hx)
      | ((with_reducible refine (LAB.out _).mono ?_); rintro e w' ⟨rfl, hx⟩; have HX := Lib.hid (HX.out.trans hx); clear hx))
    go_ret
    exact ⟨rfl, HX.out⟩
   | true =>
    cases hnc : isName c with
    | true => exact walkOrder_names a b c w hna hnb hnc
    | false =>
     rw [chk_name hna] at CA
     rw [chk_name hnb] at CB
     rw [chk_none hnc] at CC
     obtain ⟨v, hv⟩ : ∃ v, lessB a b = v := ⟨_, rfl⟩
     rw [hv] at LAB
     clear hna hnb hnc hv ha hb hc
     cases v with
     | true =>
      go_enter Try.func6, Try.ntmps6
      go_wp2_with (first
        | ((with_reducible refine (LV.out _).mono ?_); rintro e w' ⟨rfl, hx⟩; have HX := Lib.hid (HX.out.trans hx); clear hx)
        | ((with_reducible refine (CA.out _).mono ?_); rintro e w' ⟨rfl, hx⟩; have HX := Lib.hid (HX.out.trans hx); clear hx)
        | ((with_reducible refine (CB.out _).mono ?_); rintro e w' ⟨rfl, hx⟩; have HX := Lib.hid (HX.out.trans hx); clear hx)
        | ((with_reducible refine (CC.out _).mono ?_); rintro e w' ⟨rfl, hx⟩; have HX := Lib.hid (HX.out.trans hx); clear hx)
        | ((with_reducible refine (LAB.out _).mono ?_); rintro e w' ⟨rfl, hx⟩; have HX := Lib.hid (HX.out.trans hx); clear hx))
      go_ret
      exact ⟨rfl, HX.out⟩
     | false =>
      go_enter Try.func6, Try.ntmps6
      go_wp2_with (first
        | ((with_reducible refine (LV.out _).mono ?_); rintro e w' ⟨rfl, hx⟩; have HX := Lib.hid (HX.out.trans hx); clear hx)
        | ((with_reducible refine (CA.out _).mono ?_); rintro e w' ⟨rfl, hx⟩; have HX := Lib.hid (HX.out.trans hx); clear hx)
        | ((with_reducible refine (CB.out _).mono ?_); rintro e w' ⟨rfl, hx⟩; have HX := Lib.hid (HX.out.trans hx); clear hx)
        | ((with_reducible refine (CC.out _).mono ?_); rintro e w' ⟨rfl, hx⟩; have HX := Lib.hid (HX.out.trans hx); clear hx)
        | ((with_reducible refine (LAB.out _).mono ?_); rintro e w' ⟨rfl, hx⟩; have HX := Lib.hid (HX.out.trans hx); clear hx))
      go_ret
      exact ⟨rfl, HX.out⟩

end Go.Proofs.Ytkfepgcaaaopcaa
