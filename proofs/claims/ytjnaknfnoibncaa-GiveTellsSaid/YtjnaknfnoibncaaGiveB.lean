/- Which cookies are verified: give's Verify. Conditions: numbers of their kinds. -/
import Derived.Test.YtjnaknfnoibncaaGiveA
namespace Go.Proofs.Ytjnaknfnoibncaa
open Go Go.RowKit Go.Shelf
attribute [local go_sem] Oper.semAt_some wide_fn wide_depth

def beginsB (sv : ByteArray) : Bool := decide ((bl sv).take 4 = [1, 0, 0, 0])
/-- What Verify answers. -/
def verV (o : Bool) (l : List SumC) (sn sw c sv : ByteArray) (n : Nat) (now : Int) : Bool × Int :=
  if c.size ≠ 8 then (false, 2) else if sv.size = 0 then (false, 3) else if sv.size ≠ 16 then (false, 2) else if beginsB sv = false then (false, 2) else
  if freshS now (stampN sv) ≠ 0 then (false, 10) else if madeB o l sn c sv n then (renewS now (stampN sv), 0) else if madeB o l sw c sv n then (true, 0) else (false, 6)
theorem fresh_or (now s : Int) : freshS now s = 0 ∨ freshS now s = 10 := by unfold freshS; split <;> simp
theorem ver_cases (o : Bool) (l : List SumC) (sn sw c sv : ByteArray) (n : Nat) (now : Int) :
    (c.size ≠ 8 ∧ verV o l sn sw c sv n now = (false, 2)) ∨ (c.size = 8 ∧ sv.size = 0 ∧ verV o l sn sw c sv n now = (false, 3)) ∨ (c.size = 8 ∧ sv.size ≠ 0 ∧ sv.size ≠ 16 ∧ verV o l sn sw c sv n now = (false, 2)) ∨
    (c.size = 8 ∧ sv.size = 16 ∧ beginsB sv = false ∧ verV o l sn sw c sv n now = (false, 2)) ∨ (c.size = 8 ∧ sv.size = 16 ∧ beginsB sv = true ∧ ((freshS now (stampN sv) = 10 ∧ verV o l sn sw c sv n now = (false, 10)) ∨
      (freshS now (stampN sv) = 0 ∧ ((madeB o l sn c sv n = true ∧ verV o l sn sw c sv n now = (renewS now (stampN sv), 0)) ∨ (madeB o l sn c sv n = false ∧ madeB o l sw c sv n = true ∧ verV o l sn sw c sv n now = (true, 0)) ∨ (madeB o l sn c sv n = false ∧ madeB o l sw c sv n = false ∧ verV o l sn sw c sv n now = (false, 6)))))) := by
  unfold verV
  by_cases h1 : c.size = 8
  · refine .inr ?_
    rw [if_neg (not_not_intro h1)]
    by_cases h2 : sv.size = 0
    · exact .inl ⟨h1, h2, by rw [if_pos h2]⟩
    · refine .inr ?_
      rw [if_neg h2]
      by_cases h3 : sv.size = 16
      · refine .inr ?_
        rw [if_neg (not_not_intro h3)]
        cases hp : beginsB sv with
        | false => exact .inl ⟨h1, h3, rfl, by simp⟩
        | true =>
          refine .inr ⟨h1, h3, rfl, ?_⟩
          rw [if_neg (by decide)]
          rcases fresh_or now (stampN sv) with h4 | h4
          · refine .inr ⟨h4, ?_⟩
            rw [if_neg (not_not_intro h4)]
            cases h5 : madeB o l sn c sv n with
            | true => exact .inl ⟨rfl, rfl⟩
            | false =>
              cases h6 : madeB o l sw c sv n with
              | true => exact .inr (.inl ⟨rfl, rfl, rfl⟩)
              | false => exact .inr (.inr ⟨rfl, rfl, rfl⟩)
          · exact .inl ⟨h4, by rw [if_pos (by rw [h4]; decide)]⟩
      · exact .inl ⟨h1, h2, h3, by rw [if_pos h3]⟩
  · exact .inl ⟨h1, by rw [if_pos h1]⟩
theorem empty_iff (s : ByteArray) : s.toList = [] ↔ s.size = 0 := by
  rw [toList_bl, ← bl_size]
  exact ⟨fun h => by rw [h]; rfl, fun h => List.eq_nil_of_length_eq_zero h⟩

set_option maxRecDepth 100000 in
set_option maxHeartbeats 8000000 in
theorem Verify_any (l : List SumC) (v : Value) (o : Bool) (sn sw c sv : ByteArray) (n : Nat) (now : Int) (w : World) (hr : SRow w v 3 (l.map SumC.cells)) (hn : n < 4294967296) :
    Calls Try.prog 26 #[.agg #[.bool o, v], .agg #[.string sn, .string sw], .string c, .string sv, .int .u32 (n : Int), .int .i64 now] w fun e w' => e = .returned (.tuple #[.bool (verV o l sn sw c sv n now).1, .int .i64 (verV o l sn sw c sv n now).2]) ∧ Ext w w' := by
  have Hr := Lib.hid hr
  obtain ⟨ao, m, ac, rfl⟩ := hr.slice
  clear hr
  have hv := ver_cases o l sn sw c sv n now
  obtain ⟨⟨rb, re⟩, hre⟩ : ∃ y, verV o l sn sw c sv n now = y := ⟨_, rfl⟩
  rw [hre] at hv ⊢
  clear hre
  have C3 : Hid (c.size = 8 → sv.size = 16 → ∀ W, SRow W (.slice ao m ac) 3 (l.map SumC.cells) → Calls Try.prog 60 #[.agg #[.bool o, .slice ao m ac], .agg #[.string sn, .string sw], .string c, .string sv, .int .u32 (n : Int)] W fun e w' => e = .returned (.int .i64 (if madeB o l sn c sv n then 0 else if madeB o l sw c sv n then 1 else -1)) ∧ Ext W w') :=
    Lib.hid fun h1 h2 W h => maker_any l (.slice ao m ac) o sn sw c sv n W h (by omega) h2 hn
  have C0 : Hid (sv.size = 16 → ∀ W, Calls Try.prog 57 #[.string sv, .string ⟨#[1, 0, 0, 0]⟩] W fun e w' => e = .returned (.bool (beginsB sv)) ∧ W = w') := Lib.hid fun h W => HasPrefix_any sv W h
  have C1 : Hid (sv.size = 16 → ∀ W, _) := Lib.hid fun h W => stampOf_any sv W h
  have C2 := Lib.hid fun W => SFresh_any now (stampN sv) W
  have C4 := Lib.hid fun W => SRenew_any now (stampN sv) W
  have he := empty_iff sv
  obtain ⟨st, hst⟩ : ∃ y, stampN sv = y := ⟨_, rfl⟩
  obtain ⟨fr, hfr⟩ : ∃ y, freshS now st = y := ⟨_, rfl⟩
  obtain ⟨rn, hrn⟩ : ∃ y, renewS now st = y := ⟨_, rfl⟩
  obtain ⟨pr, hpr⟩ : ∃ y, beginsB sv = y := ⟨_, rfl⟩
  obtain ⟨b1, hb1⟩ : ∃ y, madeB o l sn c sv n = y := ⟨_, rfl⟩
  obtain ⟨b2, hb2⟩ : ∃ y, madeB o l sw c sv n = y := ⟨_, rfl⟩
  rw [hst, hfr, hrn, hpr, hb1, hb2] at hv
  rw [hpr] at C0
  rw [hst] at C1 C2 C4
  rw [hfr] at C2
  rw [hrn] at C4
  rw [hb1, hb2] at C3
  clear hst hfr hrn hpr hb1 hb2
  obtain ⟨w1, h1⟩ : ∃ w1, (w.alloc (.cells #[.bool o, .slice ao m ac] 24)).alloc (.cells #[.string sn, .string sw] 50) = w1 := ⟨_, rfl⟩
  have X1 : Ext w w1 := by rw [← h1]; exact ((Ext.refl w).alloc _).alloc _
  have hz : (w.alloc (.cells #[.bool o, .slice ao m ac] 24)).heap.size = w.heap.size + 1 := by simp
  have hA : w1.heap[w.heap.size]? = some (.cells #[.bool o, .slice ao m ac] 24 (0, 0)) := by
    rw [← h1]
    exact ((Keeps.refl (fun _ => True) _).alloc _).heap (World.alloc_heap_new w _) trivial
  have hB : w1.heap[w.heap.size + 1]? = some (.cells #[.string sn, .string sw] 50 (0, 0)) := by
    rw [← h1, ← hz]
    exact World.alloc_heap_new _ _
  have TW : Hid (∀ W, Ext w1 W → (W.cell? ⟨w.heap.size, 0, none⟩ = some (.bool o) ∧ W.cell? ⟨w.heap.size, 1, none⟩ = some (.slice ao m ac)) ∧ W.cell? ⟨w.heap.size + 1, 0, none⟩ = some (.string sn) ∧ W.cell? ⟨w.heap.size + 1, 1, none⟩ = some (.string sw)) := Lib.hid fun W hx => by
    obtain ⟨g0, g1, _, _⟩ := cells_of (hx.keeps.heap hA trivial)
    obtain ⟨g2, g3, _, _⟩ := cells_of (hx.keeps.heap hB trivial)
    exact ⟨⟨g0, g1⟩, g2, g3⟩
  have HX := Lib.hid X1
  clear hA hB hz X1
  subst h1
  rcases hv with ⟨h1, h2⟩ | ⟨h1, h2, h3⟩ | ⟨h1, h2, h3, h4⟩ | ⟨h1, h2, rfl, h4⟩ | ⟨h1, h2, rfl, hv⟩
  · simp only [Prod.mk.injEq] at h2
    obtain ⟨rfl, rfl⟩ := h2
    have h1i : ((c.size : Int) != 8) = true := by simp only [bne_iff_ne, ne_eq]; omega
    clear h1 he C0 C1 C2 C3 C4
    go_enter Try.func26, Try.ntmps26
    go_wp2_with fail
    go_ret2
    exact ⟨rfl, HX.out⟩
  · simp only [Prod.mk.injEq] at h3
    obtain ⟨rfl, rfl⟩ := h3
    have h1i : (c.size : Int) = 8 := by omega
    have h2i := he.2 h2
    clear h1 he h2 C0 C1 C2 C3 C4
    go_enter Try.func26, Try.ntmps26
    go_wp2_with fail
    go_ret2
    exact ⟨rfl, HX.out⟩
  · simp only [Prod.mk.injEq] at h4
    obtain ⟨rfl, rfl⟩ := h4
    have h1i : (c.size : Int) = 8 := by omega
    have h2i : sv.toList.isEmpty = false := by rw [Bool.eq_false_iff, ne_eq, List.isEmpty_iff]; exact fun h => h2 (he.1 h)
    have h3i : ((sv.size : Int) != 16) = true := by simp only [bne_iff_ne, ne_eq]; omega
    clear h1 he h2 h3 C0 C1 C2 C3 C4
    go_enter Try.func26, Try.ntmps26
    go_wp2_with fail
    go_ret2
    exact ⟨rfl, HX.out⟩
  · simp only [Prod.mk.injEq] at h4
    obtain ⟨rfl, rfl⟩ := h4
    have h1i : (c.size : Int) = 8 := by omega
    have h2i : sv.toList.isEmpty = false := by rw [Bool.eq_false_iff, ne_eq, List.isEmpty_iff]; exact fun h => absurd (he.1 h) (by omega)
    have h3i : (sv.size : Int) = 16 := by omega
    have H16 := Lib.hid h2
    clear h1 he h2 C1 C2 C3 C4
    go_enter Try.func26, Try.ntmps26
    go_wp2_with (((with_reducible refine ((C0.out H16.out) _).mono ?_); rintro e W2 ⟨rfl, rfl⟩))
    go_ret2
    exact ⟨rfl, HX.out⟩
  · have h1i : (c.size : Int) = 8 := by omega
    have h2i : sv.toList.isEmpty = false := by rw [Bool.eq_false_iff, ne_eq, List.isEmpty_iff]; exact fun h => absurd (he.1 h) (by omega)
    have h3i : (sv.size : Int) = 16 := by omega
    have H16 := Lib.hid h2
    have H8 := Lib.hid h1
    clear h1 he h2
    rcases hv with ⟨rfl, h4⟩ | ⟨rfl, ⟨rfl, h4⟩ | ⟨rfl, rfl, h4⟩ | ⟨rfl, rfl, h4⟩⟩
    all_goals
      simp only [Prod.mk.injEq] at h4
      obtain ⟨rfl, rfl⟩ := h4
      try simp only [if_true, Bool.false_eq_true, if_false] at C3
      go_enter Try.func26, Try.ntmps26
      go_wp2_with (first
        | ((with_reducible refine ((C0.out H16.out) _).mono ?_); rintro e W2 ⟨rfl, rfl⟩)
        | ((with_reducible refine ((C1.out H16.out) _).mono ?_); rintro e W3 ⟨rfl, hx⟩; have HX3 := Lib.hid hx; obtain ⟨⟨a0, a1⟩, b0, b1⟩ := TW.out _ HX3.out; clear hx)
        | ((with_reducible refine (C2.out _).mono ?_); rintro e W4 ⟨rfl, rfl⟩)
        | ((with_reducible refine (C3.out H8.out H16.out _ (Hr.out.ext (HX.out.trans HX3.out))).mono ?_); rintro e W5 ⟨rfl, hx⟩; clear a0 a1 b0 b1; have HX5 := Lib.hid (HX3.out.trans hx); clear hx)
        | ((with_reducible refine (C4.out _).mono ?_); rintro e W6 ⟨rfl, rfl⟩))
      go_ret2
      first
        | exact ⟨rfl, HX.out.trans HX5.out⟩
        | exact ⟨rfl, HX.out.trans HX3.out⟩

end Go.Proofs.Ytjnaknfnoibncaa
