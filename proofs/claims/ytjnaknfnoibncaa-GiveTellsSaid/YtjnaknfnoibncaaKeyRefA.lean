/- What the document's answers for layer 9 (hardtackref09) return: find, Of, Known, Put. Conditions: texts that are no longer than may be. -/
import Derived.Test.YtjnaknfnoibncaaKeyedApart
import Derived.Test.YtjnaknfnoibncaaSipT
namespace Go.Proofs.Ytjnaknfnoibncaa
open Go Go.RowKit Go.Shelf
attribute [local go_sem] Oper.semAt_some wide_fn wide_depth

set_option maxRecDepth 100000 in
set_option maxHeartbeats 1000000 in
theorem RFind_any (l : List SumC) (v : Value) (o : Bool) (k s : ByteArray) (w : World) (hr : SRow w v 3 (l.map SumC.cells)) :
    Calls Try.prog 68 #[.agg #[.bool o, v], .string k, .string s] w fun e w' => e = .returned (.tuple #[.int .u64 (entryN k s l : Nat), .bool (hasB k s l)]) ∧ Ext w w' := by
  have Hr := Lib.hid hr
  obtain ⟨ao, ac, rfl, hal⟩ := hr.open
  rw [List.length_map] at Hr hal ⊢
  clear hr
  obtain ⟨na, hna⟩ : ∃ n, l.length = n := ⟨_, rfl⟩
  have Hna := Lib.hid hna
  rw [hna] at Hr hal ⊢
  unfold maxLen at hal
  have hal2 : na ≤ 9223372036854775807 := by omega
  clear hal hna
  have HX0 := Lib.hid ((Ext.refl w).alloc (.cells #[.bool o, .slice ao na ac] 24))
  obtain ⟨y, hy⟩ : ∃ y, entryN k s l = y := ⟨_, rfl⟩
  obtain ⟨q, hq⟩ : ∃ y, hasB k s l = y := ⟨_, rfl⟩
  rw [hy, hq]
  have Hy := Lib.hid hy; clear hy
  have Hq := Lib.hid hq; clear hq
  go_enter Try.func68, Try.ntmps68
  go_wp2_with fail
  go_loopw [13] (fun i wr => ∃ j : Nat, j ≤ na ∧ i = .int .i64 j ∧ (∀ (i : Nat) (x : SumC), i < j → l[i]? = some x → x.is k s = false) ∧ Ext w wr)
    (fun i _ => na - (intOf i).toNat)
  case atStart => exact ⟨0, Nat.zero_le _, rfl, fun _ _ h => absurd h (Nat.not_lt_zero _), HX0.out⟩
  case round =>
    obtain ⟨j, hj, rfl, hall, hx⟩ := hrel
    have HX := Lib.hid hx; clear hx
    have HAll := Lib.hid hall; clear hall
    by_cases hlt : j < na
    · obtain ⟨x, hxa⟩ : ∃ x, l[j]? = some x := ⟨l[j]'(by rw [Hna.out]; exact hlt), List.getElem?_eq_getElem _⟩
      obtain ⟨b1, off1, cap1, e1, c0, c1, c2⟩ := srow_at (Hr.out.ext HX.out) j x hxa
      obtain rfl : ao = some ⟨b1, off1, none⟩ := by simp only [Value.slice.injEq] at e1; exact e1.1
      clear e1
      have Hxa := Lib.hid hxa; clear hxa
      have hki : (j : Int) < na := by omega
      have hw : IntKind.i64.wrap ((j : Int) + 1) = (j : Int) + 1 := IntWalk.i64_in _ (by omega)
      cases hb : x.is k s with
      | true =>
        have hb2 := hb
        unfold SumC.is at hb2
        rw [Bool.and_eq_true] at hb2
        obtain ⟨q1, q2⟩ := hb2
        have Hb := Lib.hid hb; clear hb
        go_wp2_with fail
        go_ret2
        have hfn := findN_hit k s l j x Hxa.out Hb.out fun i y hi hy => HAll.out i y hi hy
        refine ⟨?_, HX.out.alloc _⟩
        rw [← Hy.out, ← Hq.out]
        unfold entryN hasB findI
        rw [hfn]
        simp [Hxa.out]
      | false =>
        have hb2 : (x.k.toList == k.toList) = false ∨ ((x.k.toList == k.toList) = true ∧ (x.s.toList == s.toList) = false) := by
          unfold SumC.is at hb
          cases h1 : (x.k.toList == k.toList) with
          | false => exact .inl rfl
          | true => rw [h1] at hb; exact .inr ⟨rfl, by simpa using hb⟩
        have Hb := Lib.hid hb; clear hb
        rcases hb2 with q1 | ⟨q1, q2⟩
        all_goals
          go_wp2_with fail
          go_roundw
          case rel =>
            refine ⟨j + 1, by omega, by simp, fun i y hi hy => ?_, HX.out.alloc _⟩
            by_cases hij : i = j
            · subst hij
              rw [Hxa.out] at hy
              obtain rfl := Option.some.inj hy
              exact Hb.out
            · exact HAll.out i y (by omega) hy
          case measure => simp [intOf]; omega
    · obtain rfl : j = na := by omega
      go_wp2_with fail
      go_ret2
      have hfn := findN_none k s l fun i x hx => HAll.out i x (by have := (List.getElem?_eq_some_iff.1 hx).1; rw [Hna.out] at this; exact this) hx
      refine ⟨?_, HX.out⟩
      rw [← Hy.out, ← Hq.out]
      unfold entryN hasB findI
      rw [hfn]
      rfl

set_option maxRecDepth 100000 in
set_option maxHeartbeats 1000000 in
theorem ROf9_any (l : List SumC) (v : Value) (o : Bool) (k s : ByteArray) (w : World) (hr : SRow w v 3 (l.map SumC.cells)) :
    Calls Try.prog 36 #[.agg #[.bool o, v], .string k, .string s] w fun e w' => e = .returned (.tuple #[.int .u64 (hashV o l k s : Nat), .int .i64 (sumE k s)]) ∧ Ext w w' := by
  have Hr := Lib.hid hr
  obtain ⟨ao, n, ac, rfl⟩ := hr.slice
  clear hr
  have CS := Lib.hid fun W => RSum_any k s W
  rw [sumR_eq] at CS
  have CF := Lib.hid fun W h => RFind_any l (.slice ao n ac) o k s W h
  have HX := Lib.hid ((Ext.refl w).alloc (.cells #[.bool o, .slice ao n ac] 24))
  have hcell := cell_new w #[.bool o, .slice ao n ac] 24
  have Hc := Lib.hid (show ∀ w2, Ext (w.alloc (.cells #[.bool o, .slice ao n ac] 24)) w2 → w2.cell? ⟨w.heap.size, 0, none⟩ = some (.bool o) ∧ w2.cell? ⟨w.heap.size, 1, none⟩ = some (.slice ao n ac) from fun w2 h => ⟨h.keeps.cell (hcell 0) trivial, h.keeps.cell (hcell 1) trivial⟩)
  clear hcell
  unfold hashV
  obtain ⟨y, hy⟩ : ∃ y, sumV k s = y := ⟨_, rfl⟩
  obtain ⟨ee, he⟩ : ∃ y, sumE k s = y := ⟨_, rfl⟩
  obtain ⟨m, hm⟩ : ∃ y, entryN k s l = y := ⟨_, rfl⟩
  obtain ⟨q, hq⟩ : ∃ y, hasB k s l = y := ⟨_, rfl⟩
  rw [hy, he] at CS ⊢
  rw [hm, hq] at CF
  rw [hm]
  clear hy he hm hq
  by_cases h0 : ee = 0
  · subst h0
    rw [if_neg (by simp)]
    cases o with
    | false =>
      go_enter Try.func36, Try.ntmps36
      go_wp2_with ((with_reducible refine (CS.out _).mono ?_); rintro e w' ⟨rfl, hx⟩; obtain ⟨hc0, hc1⟩ := Hc.out _ hx; have HX2 := Lib.hid (HX.out.trans hx); clear hx)
      go_ret2
      exact ⟨rfl, HX2.out⟩
    | true =>
      rw [if_pos rfl]
      go_enter Try.func36, Try.ntmps36
      go_wp2_with (first
          | ((with_reducible refine (CS.out _).mono ?_); rintro e w' ⟨rfl, hx⟩; obtain ⟨hc0, hc1⟩ := Hc.out _ hx; have HX2 := Lib.hid (HX.out.trans hx); clear hx)
          | ((with_reducible refine (CF.out _ (Hr.out.ext HX2.out)).mono ?_); rintro e w' ⟨rfl, hx⟩; have HX3 := Lib.hid (HX2.out.trans hx); clear hx))
      go_ret2
      exact ⟨rfl, HX3.out⟩
  · rw [if_pos h0]
    have hne : (ee == 0) = false := by simpa using h0
    go_enter Try.func36, Try.ntmps36
    go_wp2_with ((with_reducible refine (CS.out _).mono ?_); rintro e w' ⟨rfl, hx⟩; obtain ⟨hc0, hc1⟩ := Hc.out _ hx; have HX2 := Lib.hid (HX.out.trans hx); clear hx)
    go_ret2
    exact ⟨rfl, HX2.out⟩
end Go.Proofs.Ytjnaknfnoibncaa
