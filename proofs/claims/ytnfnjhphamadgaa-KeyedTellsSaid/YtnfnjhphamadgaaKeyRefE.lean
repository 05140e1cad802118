/- What the document's Apart tells. Conditions: texts that are no longer than may be. -/
import Derived.Test.YtnfnjhphamadgaaKeyRefD
namespace Go.Proofs.Ytnfnjhphamadgaa
open Go Go.RowKit Go.Shelf
attribute [local go_sem] Oper.semAt_some wide_fn wide_depth

set_option maxRecDepth 100000 in
set_option maxHeartbeats 4000000 in
theorem RApart9_any (l : List SumC) (v : Value) (o : Bool) (w : World) (hr : SRow w v 3 (l.map SumC.cells)) :
    Calls Try.prog 19 #[.agg #[.bool o, v]] w fun e w' => e = .returned (.bool (apartB l)) ∧ Ext w w' := by
  have Hr := Lib.hid hr
  obtain ⟨ao, ac, rfl, hac1, hac2, _⟩ := hr
  rw [List.length_map] at Hr hac1 ⊢
  obtain ⟨nl, hnl⟩ : ∃ n, l.length = n := ⟨_, rfl⟩
  have Hnl := Lib.hid hnl
  rw [hnl] at Hr hac1 ⊢
  clear hnl
  obtain ⟨r, hrr⟩ : ∃ r, apartB l = r := ⟨_, rfl⟩
  rw [hrr]
  have HE := Lib.hid hrr; clear hrr
  have Hac := Lib.hid (And.intro hac1 hac2); clear hac1 hac2
  have hbad : ¬ (0 :: l.map SumC.n).Nodup → r = false := fun h => by rw [← HE.out]; unfold apartB unlikeB; rw [decide_eq_false h, Bool.and_false]
  have hbad2 : rightB l = false → r = false := fun h => by rw [← HE.out]; unfold apartB; rw [h, Bool.false_and]
  have hgood : rightB l = true → (0 :: l.map SumC.n).Nodup → r = true := fun h1 h2 => by rw [← HE.out]; unfold apartB unlikeB; rw [decide_eq_true h2, h1]; rfl
  have Hbad := Lib.hid hbad
  have Hgood := Lib.hid hgood
  have HX0 := Lib.hid ((Ext.refl w).alloc (.cells #[.bool o, .slice ao nl ac] 24))
  have HB := Lib.hid (World.alloc_heap_new w (.cells #[.bool o, .slice ao nl ac] 24))
  have CC := Lib.hid (RCheck9_any l (.slice ao nl ac) o _ (Hr.out.ext HX0.out))
  have hlen : rightB l = true → nl ≤ 4096 := fun h => by unfold rightB at h; have := (of_decide_eq_true h).1; rw [Hnl.out] at this; exact this
  unfold checkE at CC
  cases hrb : rightB l with
  | false =>
    obtain rfl := hbad2 hrb
    rw [hrb] at CC
    clear hbad hbad2 hgood hrb hlen Hgood
    go_enter Try.func19, Try.ntmps19
    go_wp2_with ((with_reducible refine (CC.out).mono ?_); rintro e w' ⟨rfl, hx⟩; have HX2 := Lib.hid (HX0.out.trans hx); clear hx)
    go_ret
    exact ⟨rfl, HX2.out⟩
  | true =>
  rw [hrb] at CC
  have Hrb := Lib.hid hrb
  have hbig := hlen hrb
  clear hbad hbad2 hgood hrb hlen HE
  go_enter Try.func19, Try.ntmps19
  go_wp2_with ((with_reducible refine (CC.out).mono ?_); rintro e w2 ⟨rfl, hx⟩; obtain ⟨_, a1, _, _⟩ := cells_of (hx.keeps.heap HB.out trivial); have HXc := Lib.hid hx; clear hx)
  clear a1
  go_loopw [13] (fun i wr => ∃ j : Nat, j ≤ nl ∧ i = .int .i64 j ∧ (∀ (i : Nat) (x : SumC), i < j → l[i]? = some x → x.n ≠ 0) ∧ ((l.take j).map SumC.n).Nodup ∧ Ext (w.alloc (.cells #[.bool o, .slice ao nl ac] 24)) wr)
    (fun i _ => nl - (intOf i).toNat)
  case atStart => exact ⟨0, Nat.zero_le _, rfl, fun _ _ h => absurd h (Nat.not_lt_zero _), by simp, HXc.out⟩
  case round =>
    obtain ⟨j, hj, rfl, hall, hnod, hx⟩ := hrel
    have HX := Lib.hid hx; clear hx
    have HAll := Lib.hid hall; clear hall
    have HNod := Lib.hid hnod; clear hnod
    by_cases hlt : j < nl
    · obtain ⟨⟨xk, xs, xn⟩, hxa⟩ : ∃ x, l[j]? = some x := ⟨l[j]'(by rw [Hnl.out]; exact hlt), List.getElem?_eq_getElem _⟩
      obtain ⟨b1, off1, cap1, e1, c0, c1, c2⟩ := srow_at (Hr.out.ext (HX0.out.trans HX.out)) j _ hxa
      obtain rfl : ao = some ⟨b1, off1, none⟩ := by simp only [Value.slice.injEq] at e1; exact e1.1
      clear e1
      have Hxa := Lib.hid hxa; clear hxa
      have hki : (j : Int) < nl := by omega
      have hw : IntKind.i64.wrap ((j : Int) + 1) = (j : Int) + 1 := IntWalk.i64_in _ (by omega)
      by_cases h16 : xn = 0
      case pos =>
        subst h16
        obtain rfl := Hbad.out fun h => (List.nodup_cons.1 h).1 (List.mem_map.2 ⟨_, List.mem_of_getElem? Hxa.out, rfl⟩)
        go_wp2_with fail
        go_ret
        exact ⟨rfl, HX0.out.trans (HX.out.alloc _)⟩
      have hne : ((xn : Int) == 0) = false := by rw [beq_eq_false_iff_ne]; omega
      have H16 := Lib.hid h16; clear h16
      have HX2 := Lib.hid (HX.out.alloc (.cells #[.string xk, .string xs, .int .u64 (xn : Int)] 40))
      obtain ⟨_, a1, _, _⟩ := cells_of (HX2.out.keeps.heap HB.out trivial)
      have hja : (j : Int) ≤ ac := by have := Hac.out.1; omega
      have HXc := Lib.hid (World.alloc_heap_new wr (.cells #[.string xk, .string xs, .int .u64 (xn : Int)] 40))
      go_wp2_with fail
      obtain ⟨X, hX⟩ : ∃ X, wr.heap.size = X := ⟨_, rfl⟩
      rw [hX] at HXc ⊢
      clear hX a1 c0 c1 c2 hja
      go_loopw [26] (fun i wr2 => ∃ m : Nat, m ≤ j ∧ i = .int .i64 m ∧ (∀ (i : Nat) (y : SumC), i < m → l[i]? = some y → xn ≠ y.n) ∧ Ext (wr.alloc (.cells #[.string xk, .string xs, .int .u64 (xn : Int)] 40)) wr2)
        (fun i _ => j - (intOf i).toNat)
      case atStart => exact ⟨0, Nat.zero_le _, rfl, fun _ _ h => absurd h (Nat.not_lt_zero _), Ext.refl _⟩
      case round =>
        obtain ⟨m, hm, rfl, hdiff, hx⟩ := hrel
        have HY := Lib.hid hx; clear hx
        have HDiff := Lib.hid hdiff; clear hdiff
        have HH := Lib.hid (HY.out.keeps.heap HXc.out trivial)
        by_cases hmj : m < j
        · obtain ⟨⟨yk, ys, yn⟩, hya⟩ : ∃ x, l[m]? = some x := ⟨l[m]'(by rw [Hnl.out]; omega), List.getElem?_eq_getElem _⟩
          obtain ⟨b2, off2, cap2, e2, c0, c1, c2⟩ := srow_at (Hr.out.ext (HX0.out.trans (HX2.out.trans HY.out))) m _ hya
          obtain ⟨rfl, rfl⟩ := slice_inj e2
          clear e2
          have Hya := Lib.hid hya; clear hya
          have d2 : (wr.alloc (.cells #[.string yk, .string ys, .int .u64 (yn : Int)] 40)).cell? ⟨X, 2, none⟩ = some (.int .u64 (xn : Int)) := ((Keeps.refl (fun _ => True) wr).alloc _).cell (cell_of_row _ _ 2 _ _ _ HH.out) trivial
          have hmi : (m : Int) < j := by omega
          have hwm : IntKind.i64.wrap ((m : Int) + 1) = (m : Int) + 1 := IntWalk.i64_in _ (by omega)
          by_cases hp : xn = yn
          · obtain rfl := Hbad.out fun h => nodup_not hmj Hya.out Hxa.out hp (List.nodup_cons.1 h).2
            subst hp
            go_wp2_with fail
            go_ret
            exact ⟨rfl, HX0.out.trans (HX2.out.trans (HY.out.alloc _))⟩
          · have q1 : ((xn : Int) == (yn : Int)) = false := by rw [beq_eq_false_iff_ne]; omega
            have Hp := Lib.hid hp; clear hp
            all_goals
              go_wp2_with fail
              go_roundw
              case rel =>
                refine ⟨m + 1, by omega, by simp, fun i y hi hy => ?_, HY.out.alloc _⟩
                by_cases him : i = m
                · subst him
                  rw [Hya.out] at hy
                  obtain rfl := Option.some.inj hy
                  exact Hp.out
                · exact HDiff.out i y (by omega) hy
              case measure => simp [intOf]; omega
        · obtain rfl : m = j := by omega
          go_wp2_with fail
          go_roundw
          case rel =>
            refine ⟨m + 1, by omega, by simp, fun i y hi hy => ?_, (take_nodup Hxa.out).2 ⟨HNod.out, HDiff.out⟩, HX2.out.trans HY.out⟩
            by_cases him : i = m
            · subst him
              rw [Hxa.out] at hy
              obtain rfl := Option.some.inj hy
              exact H16.out
            · exact HAll.out i y (by omega) hy
          case measure => simp [intOf]; omega
    · obtain rfl : j = nl := by omega
      have ht : l.take j = l := List.take_of_length_le (by rw [Hnl.out]; exact Nat.le_refl _)
      rw [ht] at HNod
      obtain rfl := Hgood.out Hrb.out (List.nodup_cons.2 ⟨fun h => by
        obtain ⟨x, hx, e⟩ := List.mem_map.1 h
        obtain ⟨i, hi⟩ := List.getElem?_of_mem hx
        exact HAll.out i x (by have := (List.getElem?_eq_some_iff.1 hi).1; rw [Hnl.out] at this; exact this) hi e, HNod.out⟩)
      go_wp2_with fail
      go_ret
      exact ⟨rfl, HX0.out.trans HX.out⟩
end Go.Proofs.Ytnfnjhphamadgaa
