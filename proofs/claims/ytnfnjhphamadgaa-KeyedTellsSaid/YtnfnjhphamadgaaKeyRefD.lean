/- What the document's Check tells. Conditions: texts that are no longer than may be. -/
import Derived.Test.YtnfnjhphamadgaaKeyRefA
namespace Go.Proofs.Ytnfnjhphamadgaa
open Go Go.RowKit Go.Shelf
attribute [local go_sem] Oper.semAt_some wide_fn wide_depth

theorem take_nodup {α β : Type} {f : α → β} {l : List α} {j : Nat} {x : α} (hx : l[j]? = some x) : ((l.take (j + 1)).map f).Nodup ↔ ((l.take j).map f).Nodup ∧ ∀ (i : Nat) (y : α), i < j → l[i]? = some y → f x ≠ f y := by
  have hj := (List.getElem?_eq_some_iff.1 hx).1
  rw [List.take_add_one, hx, List.map_append, List.nodup_append]
  simp only [Option.toList_some, List.map_cons, List.map_nil]
  constructor
  · rintro ⟨h1, _, h3⟩
    refine ⟨h1, fun i y hi hy e => ?_⟩
    refine h3 (f y) (List.mem_map.2 ⟨y, ?_, rfl⟩) (f x) (by simp) e.symm
    refine List.mem_of_getElem? (i := i) ?_
    rw [List.getElem?_take_of_lt hi]
    exact hy
  · rintro ⟨h1, h3⟩
    refine ⟨h1, by simp, fun a ha b hb e => ?_⟩
    simp only [List.mem_singleton] at hb
    subst hb
    obtain ⟨y, hy, rfl⟩ := List.mem_map.1 ha
    obtain ⟨i, hi⟩ := List.getElem?_of_mem hy
    have hlt := (List.getElem?_eq_some_iff.1 hi).1
    rw [List.length_take] at hlt
    rw [List.getElem?_take_of_lt (by omega)] at hi
    exact h3 i y (by omega) hi e.symm
theorem nodup_not {α β : Type} {f : α → β} {l : List α} {i j : Nat} {x y : α} (hij : i < j) (hi : l[i]? = some y) (hj : l[j]? = some x) (e : f x = f y) : ¬ (l.map f).Nodup := by
  intro h
  have h1 : (l.map f)[i]? = some (f y) := by rw [List.getElem?_map, hi]; rfl
  have h2 : (l.map f)[j]? = some (f y) := by rw [List.getElem?_map, hj, ← e]; rfl
  have hlt := (List.getElem?_eq_some_iff.1 h1).1
  have := (List.getElem?_inj hlt h).1 (h1.trans h2.symm)
  omega
theorem pair_ne {x y : SumC} : x.pair ≠ y.pair ↔ ((x.k.toList == y.k.toList) = false ∨ ((x.k.toList == y.k.toList) = true ∧ (x.s.toList == y.s.toList) = false)) := by
  rw [same_text, same_text]
  unfold SumC.pair
  simp only [ne_eq, Prod.mk.injEq, decide_eq_false_iff_not, decide_eq_true_eq]
  by_cases h : x.k = y.k <;> simp [h]

set_option maxRecDepth 100000 in
set_option maxHeartbeats 4000000 in
theorem RCheck9_any (l : List SumC) (v : Value) (o : Bool) (w : World) (hr : SRow w v 3 (l.map SumC.cells)) :
    Calls Try.prog 17 #[.agg #[.bool o, v]] w fun e w' => e = .returned (.int .i64 (checkE l)) ∧ Ext w w' := by
  have Hr := Lib.hid hr
  obtain ⟨ao, ac, rfl, hac1, hac2, _⟩ := hr
  rw [List.length_map] at Hr hac1 ⊢
  obtain ⟨nl, hnl⟩ : ∃ n, l.length = n := ⟨_, rfl⟩
  have Hnl := Lib.hid hnl
  rw [hnl] at Hr hac1 ⊢
  clear hnl
  obtain ⟨r, hrr⟩ : ∃ r, checkE l = r := ⟨_, rfl⟩
  rw [hrr]
  have HE := Lib.hid hrr; clear hrr
  have Hac := Lib.hid (And.intro hac1 hac2); clear hac1 hac2
  have hbad : ¬ Right l → r = 2 := fun h => by rw [← HE.out]; unfold checkE rightB; rw [decide_eq_false h]; rfl
  have hgood : Right l → r = 0 := fun h => by rw [← HE.out]; unfold checkE rightB; rw [decide_eq_true h]; rfl
  have Hbad := Lib.hid hbad
  have Hgood := Lib.hid hgood
  clear hbad hgood HE
  have HX0 := Lib.hid ((Ext.refl w).alloc (.cells #[.bool o, .slice ao nl ac] 24))
  have HB := Lib.hid (World.alloc_heap_new w (.cells #[.bool o, .slice ao nl ac] 24))
  by_cases hbig : nl ≤ 4096
  case neg =>
    obtain rfl := Hbad.out fun h => by have := h.1; rw [Hnl.out] at this; exact hbig this
    have hnb : (4096 : Int) < nl := by omega
    go_enter Try.func17, Try.ntmps17
    go_wp2_with fail
    go_ret
    exact ⟨rfl, HX0.out⟩
  go_enter Try.func17, Try.ntmps17
  go_wp2_with fail
  go_loopw [14] (fun i wr => ∃ j : Nat, j ≤ nl ∧ i = .int .i64 j ∧ (∀ (i : Nat) (x : SumC), i < j → l[i]? = some x → x.k.size = 16) ∧ ((l.take j).map SumC.pair).Nodup ∧ Ext (w.alloc (.cells #[.bool o, .slice ao nl ac] 24)) wr)
    (fun i _ => nl - (intOf i).toNat)
  case atStart => exact ⟨0, Nat.zero_le _, rfl, fun _ _ h => absurd h (Nat.not_lt_zero _), by simp, Ext.refl _⟩
  case round =>
    obtain ⟨j, hj, rfl, hall, hnod, hx⟩ := hrel
    have HX := Lib.hid hx; clear hx
    have HAll := Lib.hid hall; clear hall
    have HNod := Lib.hid hnod; clear hnod
    by_cases hlt : j < nl
    · obtain ⟨⟨xk, xs, xn⟩, hxa⟩ : ∃ x, l[j]? = some x := ⟨l[j]'(by rw [Hnl.out]; exact hlt), List.getElem?_eq_getElem _⟩
      obtain ⟨b1, off1, cap1, e1, c0, c1, c2⟩ := srow_at (Hr.out.ext (HX0.out.trans HX.out)) j _ hxa
      obtain rfl : ao = some ⟨b1, off1, none⟩ := by simp only [Value.slice.injEq] at e1; exact e1.1
      clear e1
      have Hxa := Lib.hid hxa; clear hxa
      have hki : (j : Int) < nl := by omega
      have hw : IntKind.i64.wrap ((j : Int) + 1) = (j : Int) + 1 := IntWalk.i64_in _ (by omega)
      by_cases h16 : xk.size = 16
      case neg =>
        obtain rfl := Hbad.out fun h => h16 (h.2.1 _ (List.mem_of_getElem? Hxa.out))
        have hne : ((xk.size : Int) != 16) = true := by simp only [bne_iff_ne, ne_eq]; omega
        go_wp2_with fail
        go_ret
        exact ⟨rfl, HX0.out.trans (HX.out.alloc _)⟩
      have hne : ((xk.size : Int) != 16) = false := by rw [h16]; rfl
      have H16 := Lib.hid h16; clear h16
      have HX2 := Lib.hid (HX.out.alloc (.cells #[.string xk, .string xs, .int .u64 (xn : Int)] 40))
      obtain ⟨_, a1, _, _⟩ := cells_of (HX2.out.keeps.heap HB.out trivial)
      have hja : (j : Int) ≤ ac := by have := Hac.out.1; omega
      have HXc := Lib.hid (World.alloc_heap_new wr (.cells #[.string xk, .string xs, .int .u64 (xn : Int)] 40))
      go_wp2_with fail
      obtain ⟨X, hX⟩ : ∃ X, wr.heap.size = X := ⟨_, rfl⟩
      rw [hX] at HXc ⊢
      clear hX a1 c0 c1 c2 hja
      go_loopw [28] (fun i wr2 => ∃ m : Nat, m ≤ j ∧ i = .int .i64 m ∧ (∀ (i : Nat) (y : SumC), i < m → l[i]? = some y → (⟨xk, xs, xn⟩ : SumC).pair ≠ y.pair) ∧ Ext (wr.alloc (.cells #[.string xk, .string xs, .int .u64 (xn : Int)] 40)) wr2)
        (fun i _ => j - (intOf i).toNat)
      case atStart => exact ⟨0, Nat.zero_le _, rfl, fun _ _ h => absurd h (Nat.not_lt_zero _), Ext.refl _⟩
      case round =>
        obtain ⟨m, hm, rfl, hdiff, hx⟩ := hrel
        have HY := Lib.hid hx; clear hx
        have HDiff := Lib.hid hdiff; clear hdiff
        have HH := Lib.hid (HY.out.keeps.heap HXc.out trivial)
        by_cases hmj : m < j
        · obtain ⟨⟨yk, ys, yn⟩, hya⟩ : ∃ x, l[m]? = some x := ⟨l[m]'(by rw [Hnl.out]; omega), List.getElem?_eq_getElem _⟩
          obtain ⟨b2, off2, cap2, e2, c0, c1, c2⟩ := srow_at (Hr.out.ext (HX0.out.trans (HX2.out.trans HY.out))) m _ hya
          obtain ⟨rfl, rfl⟩ := slice_inj e2
          clear e2
          have Hya := Lib.hid hya; clear hya
          have d0 : (wr.alloc (.cells #[.string yk, .string ys, .int .u64 (yn : Int)] 40)).cell? ⟨X, 0, none⟩ = some (.string xk) := ((Keeps.refl (fun _ => True) wr).alloc _).cell (cell_of_row _ _ 0 _ _ _ HH.out) trivial
          have d1 : (wr.alloc (.cells #[.string yk, .string ys, .int .u64 (yn : Int)] 40)).cell? ⟨X, 1, none⟩ = some (.string xs) := ((Keeps.refl (fun _ => True) wr).alloc _).cell (cell_of_row _ _ 1 _ _ _ HH.out) trivial
          have hmi : (m : Int) < j := by omega
          have hwm : IntKind.i64.wrap ((m : Int) + 1) = (m : Int) + 1 := IntWalk.i64_in _ (by omega)
          by_cases hp : (⟨xk, xs, xn⟩ : SumC).pair = (⟨yk, ys, yn⟩ : SumC).pair
          · obtain rfl := Hbad.out fun h => nodup_not hmj Hya.out Hxa.out hp h.2.2
            have hp2 := hp
            unfold SumC.pair at hp2
            simp only [Prod.mk.injEq] at hp2
            obtain ⟨rfl, rfl⟩ := hp2
            clear hp
            go_wp2_with fail
            go_ret
            exact ⟨rfl, HX0.out.trans (HX2.out.trans (HY.out.alloc _))⟩
          · have hp2 := pair_ne.1 hp
            have Hp := Lib.hid hp; clear hp
            rcases hp2 with q1 | ⟨q1, q2⟩
            all_goals
              simp only at q1
              try simp only at q2
              go_wp2_with fail
              go_roundw
              case rel =>
                refine ⟨m + 1, by omega, by simp, fun i y hi hy => ?_, HY.out.alloc _⟩
                by_cases him : i = m
                · subst him
                  rw [Hya.out] at hy
                  obtain rfl := Option.some.inj hy
                  exact Hp.out
                · exact HDiff.out i y (by omega) hy
              case measure => simp [intOf]; omega
        · obtain rfl : m = j := by omega
          go_wp2_with fail
          go_roundw
          case rel =>
            refine ⟨m + 1, by omega, by simp, fun i y hi hy => ?_, (take_nodup Hxa.out).2 ⟨HNod.out, HDiff.out⟩, HX2.out.trans HY.out⟩
            by_cases him : i = m
            · subst him
              rw [Hxa.out] at hy
              obtain rfl := Option.some.inj hy
              exact H16.out
            · exact HAll.out i y (by omega) hy
          case measure => simp [intOf]; omega
    · obtain rfl : j = nl := by omega
      have ht : l.take j = l := List.take_of_length_le (by rw [Hnl.out]; exact Nat.le_refl _)
      rw [ht] at HNod
      obtain rfl := Hgood.out ⟨by rw [Hnl.out]; exact hbig, fun x hx => by
        obtain ⟨i, hi⟩ := List.getElem?_of_mem hx
        exact HAll.out i x (by have := (List.getElem?_eq_some_iff.1 hi).1; rw [Hnl.out] at this; exact this) hi, HNod.out⟩
      go_wp2_with fail
      go_ret
      exact ⟨rfl, HX0.out.trans HX.out⟩
end Go.Proofs.Ytnfnjhphamadgaa
