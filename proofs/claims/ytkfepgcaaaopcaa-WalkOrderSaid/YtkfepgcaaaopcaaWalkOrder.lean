/- hardtacklaw02.WalkOrder answers true for every three strings, and leaves what lay as it lay. Conditions: none beyond the form's own. -/
import Derived.Test.YtkfepgcaaaopcaaLives2
import Derived.Test.YtkfepgcaaaopcaaMath5
namespace Go.Proofs.Ytkfepgcaaaopcaa
open Go Go.RowKit Go.Shelf

def cnt (b : Bool) : Int := if b = true then 1 else 0

set_option maxRecDepth 100000 in
set_option maxHeartbeats 16000000 in
/-- The part over three names. -/
theorem walkOrder_names (a b c : ByteArray) (w : World) (ha : isName a = true) (hb : isName b = true) (hc : isName c = true) :
    Calls Try.prog 6 #[.string a, .string b, .string c] w fun e w' => e = .returned (.bool true) ∧ Ext w w' := by
  have sa := name_le ha
  have sb := name_le hb
  have sc := name_le hc
  obtain ⟨la, hla⟩ := rep_of_name ha
  obtain ⟨lb, hlb⟩ := rep_of_name hb
  obtain ⟨lc, hlc⟩ := rep_of_name hc
  have LV := Lib.hid lives2_any
  have CA := Lib.hid fun W => chk_name ha ▸ Check_any a W (by unfold maxLen; omega)
  have CB := Lib.hid fun W => chk_name hb ▸ Check_any b W (by unfold maxLen; omega)
  have CC := Lib.hid fun W => chk_name hc ▸ Check_any c W (by unfold maxLen; omega)
  have LAB := Lib.hid fun W => Less_any a b W (by unfold maxLen; omega) (by unfold maxLen; omega)
  have LBA := Lib.hid fun W => Less_any b a W (by unfold maxLen; omega) (by unfold maxLen; omega)
  have LBC := Lib.hid fun W => Less_any b c W (by unfold maxLen; omega) (by unfold maxLen; omega)
  have LAC := Lib.hid fun W => Less_any a c W (by unfold maxLen; omega) (by unfold maxLen; omega)
  have SAB := Lib.hid fun W => Same_any a b W (by unfold maxLen; omega) (by unfold maxLen; omega)
  have WCA := Lib.hid fun W => Within_any c a W (by unfold maxLen; omega) (by unfold maxLen; omega)
  have WBA := Lib.hid fun W => Within_any b a W (by unfold maxLen; omega) (by unfold maxLen; omega)
  have PA := Lib.hid fun W => Parent_any a W (by unfold maxLen; omega)
  have h1 := one_of hla hlb
  have h2 : lessB a b = true → lessB b c = true → lessB a c = true := less_trans hla hlb hlc
  have h3 : withinB c a = true → lessB a b = true → lessB b c = true → withinB b a = true := less_between hla hlb hlc
  have hpar : ∃ p q, parentR a = (p, q) ∧ (q = 3 ∨ (q = 0 ∧ p.size ≤ 255 ∧ lessB p a = true)) := by
    cases la with
    | nil => exact ⟨_, _, parent_root hla, .inl rfl⟩
    | cons l r =>
      have hp := parent_cons hla
      exact ⟨(parentR a).1, (parentR a).2, rfl, .inr ⟨hp.1, hp.2.len, less_parent hla⟩⟩
  obtain ⟨p, q, hpq, hpar⟩ := hpar
  rw [hpq] at PA
  obtain ⟨vab, e1⟩ : ∃ v, lessB a b = v := ⟨_, rfl⟩
  obtain ⟨vba, e2⟩ : ∃ v, lessB b a = v := ⟨_, rfl⟩
  obtain ⟨vsm, e3⟩ : ∃ v, sameB a b = v := ⟨_, rfl⟩
  obtain ⟨vbc, e4⟩ : ∃ v, lessB b c = v := ⟨_, rfl⟩
  obtain ⟨vac, e5⟩ : ∃ v, lessB a c = v := ⟨_, rfl⟩
  obtain ⟨wca, e6⟩ : ∃ v, withinB c a = v := ⟨_, rfl⟩
  obtain ⟨wba, e7⟩ : ∃ v, withinB b a = v := ⟨_, rfl⟩
  rw [e1] at LAB h1 h2 h3
  rw [e2] at LBA h1
  rw [e3] at SAB h1
  rw [e4] at LBC h2 h3
  rw [e5] at LAC h2
  rw [e6] at WCA h3
  rw [e7] at WBA h3
  have LPA : Hid (q = 0 → ∀ W, Calls Try.prog 22 #[.string p, .string a] W fun e w' => e = .returned (.bool true) ∧ Ext W w') := Lib.hid fun hq W => by
    rcases hpar with h | ⟨_, h, h'⟩
    · omega
    · exact h' ▸ Less_any p a W (by unfold maxLen; omega) (by unfold maxLen; omega)
  have hq : q = 3 ∨ q = 0 := hpar.imp id (fun h => h.1)
  have HX := Lib.hid (Ext.refl w)
  clear ha hb hc sa sb sc hla hlb hlc hpq hpar e1 e2 e3 e4 e5 e6 e7
  go_enter Try.func6, Try.ntmps6
  go_wp2_with (first
    | ((with_reducible refine (LV.out _).mono ?_); rintro e w' ⟨rfl, hx⟩; have HX := Lib.hid (HX.out.trans hx); clear hx)
    | ((with_reducible refine (CA.out _).mono ?_); rintro e w' ⟨rfl, hx⟩; have HX := Lib.hid (HX.out.trans hx); clear hx)
    | ((with_reducible refine (CB.out _).mono ?_); rintro e w' ⟨rfl, hx⟩; have HX := Lib.hid (HX.out.trans hx); clear hx)
    | ((with_reducible refine (CC.out _).mono ?_); rintro e w' ⟨rfl, hx⟩; have HX := Lib.hid (HX.out.trans hx); clear hx)
    | ((with_reducible refine (LAB.out _).mono ?_); rintro e w' ⟨rfl, hx⟩; have HX := Lib.hid (HX.out.trans hx); clear hx)
    | ((with_reducible refine (LBA.out _).mono ?_); rintro e w' ⟨rfl, hx⟩; have HX := Lib.hid (HX.out.trans hx); clear hx)
    | ((with_reducible refine (SAB.out _).mono ?_); rintro e w' ⟨rfl, hx⟩; have HX := Lib.hid (HX.out.trans hx); clear hx))
  have HX2 : Hid (Ext w (w'.alloc (.cells #[.bool vab, .bool vba, .bool vsm] 4))) := Lib.hid (HX.out.alloc _)
  have hcell := World.alloc_heap_new w' (.cells #[.bool vab, .bool vba, .bool vsm] 4)
  have c0 : (w'.alloc (.cells #[.bool vab, .bool vba, .bool vsm] 4)).cell? ⟨w'.heap.size, 0, none⟩ = some (.bool vab) := by simp only [World.cell?, hcell]; rfl
  have c1 : (w'.alloc (.cells #[.bool vab, .bool vba, .bool vsm] 4)).cell? ⟨w'.heap.size, 1, none⟩ = some (.bool vba) := by simp only [World.cell?, hcell]; rfl
  have c2 : (w'.alloc (.cells #[.bool vab, .bool vba, .bool vsm] 4)).cell? ⟨w'.heap.size, 2, none⟩ = some (.bool vsm) := by simp only [World.cell?, hcell]; rfl
  clear hcell
  generalize w'.alloc (.cells #[.bool vab, .bool vba, .bool vsm] 4) = W at HX2 c0 c1 c2 ⊢
  generalize w'.heap.size = z at c0 c1 c2 ⊢
  clear CA CB CC LV LBA SAB
  rcases h1 with ⟨rfl, rfl, rfl⟩ | ⟨rfl, rfl, rfl⟩ | ⟨rfl, rfl, rfl⟩
  · go_loopw [7, 47] (fun s7 s47 wr => wr = W ∧ ((s47 = .int .i64 0 ∧ s7 = .int .i64 0) ∨ (s47 = .int .i64 1 ∧ s7 = .int .i64 1) ∨ (s47 = .int .i64 2 ∧ s7 = .int .i64 1) ∨ (s47 = .int .i64 3 ∧ s7 = .int .i64 1)))
      (fun _ s47 _ => 3 - (intOf s47).toNat)
    case atStart => exact ⟨rfl, .inl ⟨rfl, rfl⟩⟩
    case round =>
      obtain ⟨rfl, (⟨rfl, rfl⟩ | ⟨rfl, rfl⟩ | ⟨rfl, rfl⟩ | ⟨rfl, rfl⟩)⟩ := hrel
      · go_wp2
        go_roundw
        case rel => exact ⟨by first | trivial | rfl, .inr (.inl ⟨rfl, rfl⟩)⟩
        case measure => simp [intOf]
      · go_wp2
        go_roundw
        case rel => exact ⟨by first | trivial | rfl, .inr (.inr (.inl ⟨rfl, rfl⟩))⟩
        case measure => simp [intOf]
      · go_wp2
        go_roundw
        case rel => exact ⟨by first | trivial | rfl, .inr (.inr (.inr ⟨rfl, rfl⟩))⟩
        case measure => simp [intOf]
      · have HX := HX2
        clear HX2 c0 c1 c2
        cases vbc with
        | true =>
          obtain rfl := h2 rfl rfl
          cases wca with
          | true =>
            obtain rfl := h3 rfl rfl rfl
            rcases hq with rfl | rfl
            · clear h2 h3 LPA
              go_wp2_with (first
                | ((with_reducible refine (LAB.out _).mono ?_); rintro e w' ⟨rfl, hx⟩; have HX := Lib.hid (HX.out.trans hx); clear hx)
                | ((with_reducible refine (LBC.out _).mono ?_); rintro e w' ⟨rfl, hx⟩; have HX := Lib.hid (HX.out.trans hx); clear hx)
                | ((with_reducible refine (LAC.out _).mono ?_); rintro e w' ⟨rfl, hx⟩; have HX := Lib.hid (HX.out.trans hx); clear hx)
                | ((with_reducible refine (PA.out _).mono ?_); rintro e w' ⟨rfl, hx⟩; have HX := Lib.hid (HX.out.trans hx); clear hx)
                | ((with_reducible refine (WCA.out _).mono ?_); rintro e w' ⟨rfl, hx⟩; have HX := Lib.hid (HX.out.trans hx); clear hx)
                | ((with_reducible refine (WBA.out _).mono ?_); rintro e w' ⟨rfl, hx⟩; have HX := Lib.hid (HX.out.trans hx); clear hx))
              go_ret
              exact ⟨rfl, HX.out⟩
            · have LP := Lib.hid (LPA.out rfl)
              clear h2 h3 LPA
              go_wp2_with (first
                | ((with_reducible refine (LAB.out _).mono ?_); rintro e w' ⟨rfl, hx⟩; have HX := Lib.hid (HX.out.trans hx); clear hx)
                | ((with_reducible refine (LBC.out _).mono ?_); rintro e w' ⟨rfl, hx⟩; have HX := Lib.hid (HX.out.trans hx); clear hx)
                | ((with_reducible refine (LAC.out _).mono ?_); rintro e w' ⟨rfl, hx⟩; have HX := Lib.hid (HX.out.trans hx); clear hx)
                | ((with_reducible refine (PA.out _).mono ?_); rintro e w' ⟨rfl, hx⟩; have HX := Lib.hid (HX.out.trans hx); clear hx)
                | ((with_reducible refine (WCA.out _).mono ?_); rintro e w' ⟨rfl, hx⟩; have HX := Lib.hid (HX.out.trans hx); clear hx)
                | ((with_reducible refine (WBA.out _).mono ?_); rintro e w' ⟨rfl, hx⟩; have HX := Lib.hid (HX.out.trans hx); clear hx)
                | ((with_reducible refine (LP.out _).mono ?_); rintro e w' ⟨rfl, hx⟩; have HX := Lib.hid (HX.out.trans hx); clear hx))
              go_ret
              exact ⟨rfl, HX.out⟩
          | false =>
            rcases hq with rfl | rfl
            · clear h2 h3 LPA
              go_wp2_with (first
                | ((with_reducible refine (LAB.out _).mono ?_); rintro e w' ⟨rfl, hx⟩; have HX := Lib.hid (HX.out.trans hx); clear hx)
                | ((with_reducible refine (LBC.out _).mono ?_); rintro e w' ⟨rfl, hx⟩; have HX := Lib.hid (HX.out.trans hx); clear hx)
                | ((with_reducible refine (LAC.out _).mono ?_); rintro e w' ⟨rfl, hx⟩; have HX := Lib.hid (HX.out.trans hx); clear hx)
                | ((with_reducible refine (PA.out _).mono ?_); rintro e w' ⟨rfl, hx⟩; have HX := Lib.hid (HX.out.trans hx); clear hx)
                | ((with_reducible refine (WCA.out _).mono ?_); rintro e w' ⟨rfl, hx⟩; have HX := Lib.hid (HX.out.trans hx); clear hx)
                | ((with_reducible refine (WBA.out _).mono ?_); rintro e w' ⟨rfl, hx⟩; have HX := Lib.hid (HX.out.trans hx); clear hx))
              go_ret
              exact ⟨rfl, HX.out⟩
            · have LP := Lib.hid (LPA.out rfl)
              clear h2 h3 LPA
              go_wp2_with (first
                | ((with_reducible refine (LAB.out _).mono ?_); rintro e w' ⟨rfl, hx⟩; have HX := Lib.hid (HX.out.trans hx); clear hx)
                | ((with_reducible refine (LBC.out _).mono ?_); rintro e w' ⟨rfl, hx⟩; have HX := Lib.hid (HX.out.trans hx); clear hx)
                | ((with_reducible refine (LAC.out _).mono ?_); rintro e w' ⟨rfl, hx⟩; have HX := Lib.hid (HX.out.trans hx); clear hx)
                | ((with_reducible refine (PA.out _).mono ?_); rintro e w' ⟨rfl, hx⟩; have HX := Lib.hid (HX.out.trans hx); clear hx)
                | ((with_reducible refine (WCA.out _).mono ?_); rintro e w' ⟨rfl, hx⟩; have HX := Lib.hid (HX.out.trans hx); clear hx)
                | ((with_reducible refine (WBA.out _).mono ?_); rintro e w' ⟨rfl, hx⟩; have HX := Lib.hid (HX.out.trans hx); clear hx)
                | ((with_reducible refine (LP.out _).mono ?_); rintro e w' ⟨rfl, hx⟩; have HX := Lib.hid (HX.out.trans hx); clear hx))
              go_ret
              exact ⟨rfl, HX.out⟩
        | false =>
          rcases hq with rfl | rfl
          · cases wca with
            | true =>
              clear h2 h3 LPA
              go_wp2_with (first
                | ((with_reducible refine (LAB.out _).mono ?_); rintro e w' ⟨rfl, hx⟩; have HX := Lib.hid (HX.out.trans hx); clear hx)
                | ((with_reducible refine (LBC.out _).mono ?_); rintro e w' ⟨rfl, hx⟩; have HX := Lib.hid (HX.out.trans hx); clear hx)
                | ((with_reducible refine (LAC.out _).mono ?_); rintro e w' ⟨rfl, hx⟩; have HX := Lib.hid (HX.out.trans hx); clear hx)
                | ((with_reducible refine (PA.out _).mono ?_); rintro e w' ⟨rfl, hx⟩; have HX := Lib.hid (HX.out.trans hx); clear hx)
                | ((with_reducible refine (WCA.out _).mono ?_); rintro e w' ⟨rfl, hx⟩; have HX := Lib.hid (HX.out.trans hx); clear hx)
                | ((with_reducible refine (WBA.out _).mono ?_); rintro e w' ⟨rfl, hx⟩; have HX := Lib.hid (HX.out.trans hx); clear hx))
              go_ret
              exact ⟨rfl, HX.out⟩
            | false =>
              clear h2 h3 LPA
              go_wp2_with (first
                | ((with_reducible refine (LAB.out _).mono ?_); rintro e w' ⟨rfl, hx⟩; have HX := Lib.hid (HX.out.trans hx); clear hx)
                | ((with_reducible refine (LBC.out _).mono ?_); rintro e w' ⟨rfl, hx⟩; have HX := Lib.hid (HX.out.trans hx); clear hx)
                | ((with_reducible refine (LAC.out _).mono ?_); rintro e w' ⟨rfl, hx⟩; have HX := Lib.hid (HX.out.trans hx); clear hx)
                | ((with_reducible refine (PA.out _).mono ?_); rintro e w' ⟨rfl, hx⟩; have HX := Lib.hid (HX.out.trans hx); clear hx)
                | ((with_reducible refine (WCA.out _).mono ?_); rintro e w' ⟨rfl, hx⟩; have HX := Lib.hid (HX.out.trans hx); clear hx)
                | ((with_reducible refine (WBA.out _).mono ?_); rintro e w' ⟨rfl, hx⟩; have HX := Lib.hid (HX.out.trans hx); clear hx))
              go_ret
              exact ⟨rfl, HX.out⟩
          · cases wca with
            | true =>
              have LP := Lib.hid (LPA.out rfl)
              clear h2 h3 LPA
              go_wp2_with (first
                | ((with_reducible refine (LAB.out _).mono ?_); rintro e w' ⟨rfl, hx⟩; have HX := Lib.hid (HX.out.trans hx); clear hx)
                | ((with_reducible refine (LBC.out _).mono ?_); rintro e w' ⟨rfl, hx⟩; have HX := Lib.hid (HX.out.trans hx); clear hx)
                | ((with_reducible refine (LAC.out _).mono ?_); rintro e w' ⟨rfl, hx⟩; have HX := Lib.hid (HX.out.trans hx); clear hx)
                | ((with_reducible refine (PA.out _).mono ?_); rintro e w' ⟨rfl, hx⟩; have HX := Lib.hid (HX.out.trans hx); clear hx)
                | ((with_reducible refine (WCA.out _).mono ?_); rintro e w' ⟨rfl, hx⟩; have HX := Lib.hid (HX.out.trans hx); clear hx)
                | ((with_reducible refine (WBA.out _).mono ?_); rintro e w' ⟨rfl, hx⟩; have HX := Lib.hid (HX.out.trans hx); clear hx)
                | ((with_reducible refine (LP.out _).mono ?_); rintro e w' ⟨rfl, hx⟩; have HX := Lib.hid (HX.out.trans hx); clear hx))
              go_ret
              exact ⟨rfl, HX.out⟩
            | false =>
              have LP := Lib.hid (LPA.out rfl)
              clear h2 h3 LPA
              go_wp2_with (first
                | ((with_reducible refine (LAB.out _).mono ?_); rintro e w' ⟨rfl, hx⟩; have HX := Lib.hid (HX.out.trans hx); clear hx)
                | ((with_reducible refine (LBC.out _).mono ?_); rintro e w' ⟨rfl, hx⟩; have HX := Lib.hid (HX.out.trans hx); clear hx)
                | ((with_reducible refine (LAC.out _).mono ?_); rintro e w' ⟨rfl, hx⟩; have HX := Lib.hid (HX.out.trans hx); clear hx)
                | ((with_reducible refine (PA.out _).mono ?_); rintro e w' ⟨rfl, hx⟩; have HX := Lib.hid (HX.out.trans hx); clear hx)
                | ((with_reducible refine (WCA.out _).mono ?_); rintro e w' ⟨rfl, hx⟩; have HX := Lib.hid (HX.out.trans hx); clear hx)
                | ((with_reducible refine (WBA.out _).mono ?_); rintro e w' ⟨rfl, hx⟩; have HX := Lib.hid (HX.out.trans hx); clear hx)
                | ((with_reducible refine (LP.out _).mono ?_); rintro e w' ⟨rfl, hx⟩; have HX := Lib.hid (HX.out.trans hx); clear hx))
              go_ret
              exact ⟨rfl, HX.out⟩
  · go_loopw [7, 47] (fun s7 s47 wr => wr = W ∧ ((s47 = .int .i64 0 ∧ s7 = .int .i64 0) ∨ (s47 = .int .i64 1 ∧ s7 = .int .i64 0) ∨ (s47 = .int .i64 2 ∧ s7 = .int .i64 1) ∨ (s47 = .int .i64 3 ∧ s7 = .int .i64 1)))
      (fun _ s47 _ => 3 - (intOf s47).toNat)
    case atStart => exact ⟨rfl, .inl ⟨rfl, rfl⟩⟩
    case round =>
      obtain ⟨rfl, (⟨rfl, rfl⟩ | ⟨rfl, rfl⟩ | ⟨rfl, rfl⟩ | ⟨rfl, rfl⟩)⟩ := hrel
      · go_wp2
        go_roundw
        case rel => exact ⟨by first | trivial | rfl, .inr (.inl ⟨rfl, rfl⟩)⟩
        case measure => simp [intOf]
      · go_wp2
        go_roundw
        case rel => exact ⟨by first | trivial | rfl, .inr (.inr (.inl ⟨rfl, rfl⟩))⟩
        case measure => simp [intOf]
      · go_wp2
        go_roundw
        case rel => exact ⟨by first | trivial | rfl, .inr (.inr (.inr ⟨rfl, rfl⟩))⟩
        case measure => simp [intOf]
      · have HX := HX2
        clear HX2 c0 c1 c2
        rcases hq with rfl | rfl
        · cases wca with
          | true =>
            clear h2 h3 LPA
            go_wp2_with (first
              | ((with_reducible refine (LAB.out _).mono ?_); rintro e w' ⟨rfl, hx⟩; have HX := Lib.hid (HX.out.trans hx); clear hx)
              | ((with_reducible refine (LBC.out _).mono ?_); rintro e w' ⟨rfl, hx⟩; have HX := Lib.hid (HX.out.trans hx); clear hx)
              | ((with_reducible refine (LAC.out _).mono ?_); rintro e w' ⟨rfl, hx⟩; have HX := Lib.hid (HX.out.trans hx); clear hx)
              | ((with_reducible refine (PA.out _).mono ?_); rintro e w' ⟨rfl, hx⟩; have HX := Lib.hid (HX.out.trans hx); clear hx)
              | ((with_reducible refine (WCA.out _).mono ?_); rintro e w' ⟨rfl, hx⟩; have HX := Lib.hid (HX.out.trans hx); clear hx)
              | ((with_reducible refine (WBA.out _).mono ?_); rintro e w' ⟨rfl, hx⟩; have HX := Lib.hid (HX.out.trans hx); clear hx))
            go_ret
            exact ⟨rfl, HX.out⟩
          | false =>
            clear h2 h3 LPA
            go_wp2_with (first
              | ((with_reducible refine (LAB.out _).mono ?_); rintro e w' ⟨rfl, hx⟩; have HX := Lib.hid (HX.out.trans hx); clear hx)
              | ((with_reducible refine (LBC.out _).mono ?_); rintro e w' ⟨rfl, hx⟩; have HX := Lib.hid (HX.out.trans hx); clear hx)
              | ((with_reducible refine (LAC.out _).mono ?_); rintro e w' ⟨rfl, hx⟩; have HX := Lib.hid (HX.out.trans hx); clear hx)
              | ((with_reducible refine (PA.out _).mono ?_); rintro e w' ⟨rfl, hx⟩; have HX := Lib.hid (HX.out.trans hx); clear hx)
              | ((with_reducible refine (WCA.out _).mono ?_); rintro e w' ⟨rfl, hx⟩; have HX := Lib.hid (HX.out.trans hx); clear hx)
              | ((with_reducible refine (WBA.out _).mono ?_); rintro e w' ⟨rfl, hx⟩; have HX := Lib.hid (HX.out.trans hx); clear hx))
            go_ret
            exact ⟨rfl, HX.out⟩
        · cases wca with
          | true =>
            have LP := Lib.hid (LPA.out rfl)
            clear h2 h3 LPA
            go_wp2_with (first
              | ((with_reducible refine (LAB.out _).mono ?_); rintro e w' ⟨rfl, hx⟩; have HX := Lib.hid (HX.out.trans hx); clear hx)
              | ((with_reducible refine (LBC.out _).mono ?_); rintro e w' ⟨rfl, hx⟩; have HX := Lib.hid (HX.out.trans hx); clear hx)
              | ((with_reducible refine (LAC.out _).mono ?_); rintro e w' ⟨rfl, hx⟩; have HX := Lib.hid (HX.out.trans hx); clear hx)
              | ((with_reducible refine (PA.out _).mono ?_); rintro e w' ⟨rfl, hx⟩; have HX := Lib.hid (HX.out.trans hx); clear hx)
              | ((with_reducible refine (WCA.out _).mono ?_); rintro e w' ⟨rfl, hx⟩; have HX := Lib.hid (HX.out.trans hx); clear hx)
              | ((with_reducible refine (WBA.out _).mono ?_); rintro e w' ⟨rfl, hx⟩; have HX := Lib.hid (HX.out.trans hx); clear hx)
              | ((with_reducible refine (LP.out _).mono ?_); rintro e w' ⟨rfl, hx⟩; have HX := Lib.hid (HX.out.trans hx); clear hx))
            go_ret
            exact ⟨rfl, HX.out⟩
          | false =>
            have LP := Lib.hid (LPA.out rfl)
            clear h2 h3 LPA
            go_wp2_with (first
              | ((with_reducible refine (LAB.out _).mono ?_); rintro e w' ⟨rfl, hx⟩; have HX := Lib.hid (HX.out.trans hx); clear hx)
              | ((with_reducible refine (LBC.out _).mono ?_); rintro e w' ⟨rfl, hx⟩; have HX := Lib.hid (HX.out.trans hx); clear hx)
              | ((with_reducible refine (LAC.out _).mono ?_); rintro e w' ⟨rfl, hx⟩; have HX := Lib.hid (HX.out.trans hx); clear hx)
              | ((with_reducible refine (PA.out _).mono ?_); rintro e w' ⟨rfl, hx⟩; have HX := Lib.hid (HX.out.trans hx); clear hx)
              | ((with_reducible refine (WCA.out _).mono ?_); rintro e w' ⟨rfl, hx⟩; have HX := Lib.hid (HX.out.trans hx); clear hx)
              | ((with_reducible refine (WBA.out _).mono ?_); rintro e w' ⟨rfl, hx⟩; have HX := Lib.hid (HX.out.trans hx); clear hx)
              | ((with_reducible refine (LP.out _).mono ?_); rintro e w' ⟨rfl, hx⟩; have HX := Lib.hid (HX.out.trans hx); clear hx))
            go_ret
            exact ⟨rfl, HX.out⟩
  · go_loopw [7, 47] (fun s7 s47 wr => wr = W ∧ ((s47 = .int .i64 0 ∧ s7 = .int .i64 0) ∨ (s47 = .int .i64 1 ∧ s7 = .int .i64 0) ∨ (s47 = .int .i64 2 ∧ s7 = .int .i64 0) ∨ (s47 = .int .i64 3 ∧ s7 = .int .i64 1)))
      (fun _ s47 _ => 3 - (intOf s47).toNat)
    case atStart => exact ⟨rfl, .inl ⟨rfl, rfl⟩⟩
    case round =>
      obtain ⟨rfl, (⟨rfl, rfl⟩ | ⟨rfl, rfl⟩ | ⟨rfl, rfl⟩ | ⟨rfl, rfl⟩)⟩ := hrel
      · go_wp2
        go_roundw
        case rel => exact ⟨by first | trivial | rfl, .inr (.inl ⟨rfl, rfl⟩)⟩
        case measure => simp [intOf]
      · go_wp2
        go_roundw
        case rel => exact ⟨by first | trivial | rfl, .inr (.inr (.inl ⟨rfl, rfl⟩))⟩
        case measure => simp [intOf]
      · go_wp2
        go_roundw
        case rel => exact ⟨by first | trivial | rfl, .inr (.inr (.inr ⟨rfl, rfl⟩))⟩
        case measure => simp [intOf]
      · have HX := HX2
        clear HX2 c0 c1 c2
        rcases hq with rfl | rfl
        · cases wca with
          | true =>
            clear h2 h3 LPA
            go_wp2_with (first
              | ((with_reducible refine (LAB.out _).mono ?_); rintro e w' ⟨rfl, hx⟩; have HX := Lib.hid (HX.out.trans hx); clear hx)
              | ((with_reducible refine (LBC.out _).mono ?_); rintro e w' ⟨rfl, hx⟩; have HX := Lib.hid (HX.out.trans hx); clear hx)
              | ((with_reducible refine (LAC.out _).mono ?_); rintro e w' ⟨rfl, hx⟩; have HX := Lib.hid (HX.out.trans hx); clear hx)
              | ((with_reducible refine (PA.out _).mono ?_); rintro e w' ⟨rfl, hx⟩; have HX := Lib.hid (HX.out.trans hx); clear hx)
              | ((with_reducible refine (WCA.out _).mono ?_); rintro e w' ⟨rfl, hx⟩; have HX := Lib.hid (HX.out.trans hx); clear hx)
              | ((with_reducible refine (WBA.out _).mono ?_); rintro e w' ⟨rfl, hx⟩; have HX := Lib.hid (HX.out.trans hx); clear hx))
            go_ret
            exact ⟨rfl, HX.out⟩
          | false =>
            clear h2 h3 LPA
            go_wp2_with (first
              | ((with_reducible refine (LAB.out _).mono ?_); rintro e w' ⟨rfl, hx⟩; have HX := Lib.hid (HX.out.trans hx); clear hx)
              | ((with_reducible refine (LBC.out _).mono ?_); rintro e w' ⟨rfl, hx⟩; have HX := Lib.hid (HX.out.trans hx); clear hx)
              | ((with_reducible refine (LAC.out _).mono ?_); rintro e w' ⟨rfl, hx⟩; have HX := Lib.hid (HX.out.trans hx); clear hx)
              | ((with_reducible refine (PA.out _).mono ?_); rintro e w' ⟨rfl, hx⟩; have HX := Lib.hid (HX.out.trans hx); clear hx)
              | ((with_reducible refine (WCA.out _).mono ?_); rintro e w' ⟨rfl, hx⟩; have HX := Lib.hid (HX.out.trans hx); clear hx)
              | ((with_reducible refine (WBA.out _).mono ?_); rintro e w' ⟨rfl, hx⟩; have HX := Lib.hid (HX.out.trans hx); clear hx))
            go_ret
            exact ⟨rfl, HX.out⟩
        · cases wca with
          | true =>
            have LP := Lib.hid (LPA.out rfl)
            clear h2 h3 LPA
            go_wp2_with (first
              | ((with_reducible refine (LAB.out _).mono ?_); rintro e w' ⟨rfl, hx⟩; have HX := Lib.hid (HX.out.trans hx); clear hx)
              | ((with_reducible refine (LBC.out _).mono ?_); rintro e w' ⟨rfl, hx⟩; have HX := Lib.hid (HX.out.trans hx); clear hx)
              | ((with_reducible refine (LAC.out _).mono ?_); rintro e w' ⟨rfl, hx⟩; have HX := Lib.hid (HX.out.trans hx); clear hx)
              | ((with_reducible refine (PA.out _).mono ?_); rintro e w' ⟨rfl, hx⟩; have HX := Lib.hid (HX.out.trans hx); clear hx)
              | ((with_reducible refine (WCA.out _).mono ?_); rintro e w' ⟨rfl, hx⟩; have HX := Lib.hid (HX.out.trans hx); clear hx)
              | ((with_reducible refine (WBA.out _).mono ?_); rintro e w' ⟨rfl, hx⟩; have HX := Lib.hid (HX.out.trans hx); clear hx)
              | ((with_reducible refine (LP.out _).mono ?_); rintro e w' ⟨rfl, hx⟩; have HX := Lib.hid (HX.out.trans hx); clear hx))
            go_ret
            exact ⟨rfl, HX.out⟩
          | false =>
            have LP := Lib.hid (LPA.out rfl)
            clear h2 h3 LPA
            go_wp2_with (first
              | ((with_reducible refine (LAB.out _).mono ?_); rintro e w' ⟨rfl, hx⟩; have HX := Lib.hid (HX.out.trans hx); clear hx)
              | ((with_reducible refine (LBC.out _).mono ?_); rintro e w' ⟨rfl, hx⟩; have HX := Lib.hid (HX.out.trans hx); clear hx)
              | ((with_reducible refine (LAC.out _).mono ?_); rintro e w' ⟨rfl, hx⟩; have HX := Lib.hid (HX.out.trans hx); clear hx)
              | ((with_reducible refine (PA.out _).mono ?_); rintro e w' ⟨rfl, hx⟩; have HX := Lib.hid (HX.out.trans hx); clear hx)
              | ((with_reducible refine (WCA.out _).mono ?_); rintro e w' ⟨rfl, hx⟩; have HX := Lib.hid (HX.out.trans hx); clear hx)
              | ((with_reducible refine (WBA.out _).mono ?_); rintro e w' ⟨rfl, hx⟩; have HX := Lib.hid (HX.out.trans hx); clear hx)
              | ((with_reducible refine (LP.out _).mono ?_); rintro e w' ⟨rfl, hx⟩; have HX := Lib.hid (HX.out.trans hx); clear hx))
            go_ret
            exact ⟨rfl, HX.out⟩

end Go.Proofs.Ytkfepgcaaaopcaa
