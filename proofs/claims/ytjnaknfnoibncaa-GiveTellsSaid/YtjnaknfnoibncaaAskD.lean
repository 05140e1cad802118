/- Which replies are accepted: ask's Accept, and the document's. Conditions: texts that are no longer than may be. -/
import Derived.Test.YtjnaknfnoibncaaOptA
import Derived.Deep.QuietTactic
import Derived.BigQuiet
namespace Go.Proofs.Ytjnaknfnoibncaa
open Go Go.RowKit Go.Shelf
attribute [local go_sem] Oper.semAt_some wide_fn wide_depth

set_option maxHeartbeats 1000000 in
theorem R7cookie_any (c s : ByteArray) (w : World) : Calls Try.prog 69 #[.string c, .string s] w fun e w' => e = .returned (.bool (areC c s)) ∧ w = w' := by
  have he : s.toList = [] ↔ s.size = 0 := by
    rw [ByteArray.toList_eq]
    exact ⟨fun h => by have := congrArg List.length h; simpa using this, fun h => List.eq_nil_of_length_eq_zero h⟩
  have hem : s.toList.isEmpty = decide (s.size = 0) := by rw [Bool.eq_iff_iff, List.isEmpty_iff, decide_eq_true_iff]; exact he
  by_cases h8 : c.size = 8
  · have h1 : ((c.size : Int) == 8) = true := by rw [h8]; rfl
    have h1i : (c.size : Int) = 8 := by omega
    go_enter Try.func69, Try.ntmps69
    have Hem := Lib.hid hem; have He := Lib.hid he; clear hem he
    go_wp2
    all_goals go_ret
    all_goals refine ⟨congrArg (fun b => Ending.returned (Value.bool b)) (?_ : _ = areC c s), rfl⟩
    · have hs : s.size = 0 := He.out.1 (by assumption)
      unfold areC
      rw [decide_eq_true ⟨h8, .inl hs⟩]
    all_goals
      have hs : ¬ s.size = 0 := fun h => absurd (He.out.2 h) (by assumption)
      have hem := Hem.out
      rw [decide_eq_false hs] at hem
      unfold areC
      rw [Bool.eq_iff_iff, decide_eq_true_iff]
      have hne : ¬ s.toList = [] := by assumption
      have hse : ∀ a : Bool, (s.toList.isEmpty || a) = a := fun a => by rw [hem]; rfl
      have h8i : c.size = 8 := h8
      try rw [hse]
      try rw [hem]
      simp only [h8i, true_and, hs, false_or, decide_eq_true_iff, Bool.false_eq_true, false_iff]
      omega
  · have h1 : ((c.size : Int) == 8) = false := by simp only [beq_eq_false_iff_ne, ne_eq]; omega
    have h1i : ¬ (c.size : Int) = 8 := by omega
    go_enter Try.func69, Try.ntmps69
    go_wp2
    go_ret
    exact ⟨by unfold areC; rw [decide_eq_false (fun h => h8 h.1)]; rfl, rfl⟩

theorem Ext.drew7 (w : World) (n : Nat) : Ext w (w.drewN n) := (Ext.refl w).trans ⟨rfl, rfl, rfl, Nat.le_refl _, fun _ _ => rfl⟩
set_option maxRecDepth 100000 in
set_option maxHeartbeats 4000000 in
theorem RCookies_any (e : EdC) (l : List OptC) (v : Value) (w : World) (hr : SRow w v 2 (l.map OptC.cells)) (hl : ∀ x ∈ l, x.d.size ≤ maxLen) :
    Calls Try.prog 38 #[.agg (e.cells v)] w fun en w' => en = .returned (.tuple #[.string (cookC l).1, .string (cookC l).2.1, .int .i64 (cookC l).2.2]) ∧ Ext w w' := by
  have Hr := Lib.hid hr
  obtain ⟨ao, ac, rfl, hal⟩ := hr.open
  rw [List.length_map] at Hr hal ⊢
  clear hr
  obtain ⟨et, es, eh, ev, ef⟩ := e
  unfold EdC.cells
  simp only
  obtain ⟨na, hna⟩ : ∃ n, l.length = n := ⟨_, rfl⟩
  have Hna := Lib.hid hna
  rw [hna] at Hr hal ⊢
  unfold maxLen at hal
  have hal2 : na ≤ 9223372036854775807 := by omega
  clear hal hna
  have HX0 := Lib.hid ((Ext.refl w).alloc (.cells #[.bool et, .int .u16 (es : Int), .int .u8 (eh : Int), .int .u8 (ev : Int), .int .u16 (ef : Int), .slice ao na ac] 29))
  have CK := Lib.hid fun a b W => R7cookie_any a b W
  have hmx : Try.prog.follows .mixedOrders = true := by kernel_rfl
  obtain ⟨kk, hkk⟩ : ∃ q, cookC l = q := ⟨_, rfl⟩
  rw [hkk]
  have Hkk := Lib.hid hkk; clear hkk
  go_enter Try.func38, Try.ntmps38
  go_wp2_with fail
  go_loopw [11] (fun i wr => ∃ j : Nat, j ≤ na ∧ i = .int .i64 j ∧ (∀ (i : Nat) (x : OptC), i < j → l[i]? = some x → x.c ≠ 10) ∧ Ext w wr)
    (fun i _ => na - (intOf i).toNat)
  case atStart => exact ⟨0, Nat.zero_le _, rfl, fun _ _ h => absurd h (Nat.not_lt_zero _), HX0.out⟩
  case round =>
    obtain ⟨j, hj, rfl, hall, hx⟩ := hrel
    have HX := Lib.hid hx; clear hx
    have HAll := Lib.hid hall; clear hall
    by_cases hlt : j < na
    · obtain ⟨x, hxa⟩ : ∃ x, l[j]? = some x := ⟨l[j]'(by rw [Hna.out]; exact hlt), List.getElem?_eq_getElem _⟩
      obtain ⟨b1, off1, cap1, e1, c0, c1⟩ := srow_o (Hr.out.ext HX.out) j x hxa
      obtain rfl : ao = some ⟨b1, off1, none⟩ := by simp only [Value.slice.injEq] at e1; exact e1.1
      clear e1
      have Hxa := Lib.hid hxa
      have hki : (j : Int) < na := by omega
      have hw : IntKind.i64.wrap ((j : Int) + 1) = (j : Int) + 1 := IntWalk.i64_in _ (by omega)
      have hxs := hl x (List.mem_of_getElem? hxa)
      clear hxa
      obtain ⟨xc, xd⟩ := x
      simp only at hxs c0 c1
      have HN := Lib.hid (cellO_new wr #[.int .u16 (xc : Int), .string xd] 72 1)
      have HXA := Lib.hid (HX.out.alloc (.cells #[.int .u16 (xc : Int), .string xd] 72))
      by_cases h10 : xc = 10
      · subst h10
        have hck : cookC l = if areC (xd.extract 0 (min 8 xd.size)) (xd.extract (min 8 xd.size) xd.size) then (xd.extract 0 (min 8 xd.size), xd.extract (min 8 xd.size) xd.size, 0) else (⟨#[]⟩, ⟨#[]⟩, 2) := by
          have hfn := findO_hit 10 l j _ Hxa.out rfl fun i y hi hy => HAll.out i y hi hy
          unfold cookC
          rw [hfn]
          simp only [Hxa.out]
        have hkk := Hkk.out.symm.trans hck
        clear hck Hkk
        by_cases h8 : xd.size ≤ 8
        · rw [show min 8 xd.size = xd.size by omega] at hkk
          have e1 : xd.extract 0 xd.size = xd := by simp
          have e2 : xd.extract xd.size xd.size = ByteArray.empty := by simp
          rw [e1, e2] at hkk
          clear e1 e2
          have h8i : (xd.size : Int) ≤ 8 := by omega
          clear h8
          obtain ⟨q, hq⟩ : ∃ q, areC xd ByteArray.empty = q := ⟨_, rfl⟩
          have C4 := Lib.hid (CK.out xd ByteArray.empty)
          rw [hq] at C4 hkk
          have hkk2 : kk = if q then (xd, ByteArray.empty, 0) else (⟨#[]⟩, ⟨#[]⟩, 2) := hkk
          clear hkk hq
          cases q with
          | false =>
            simp only [Bool.false_eq_true, if_false] at hkk2
            subst hkk2
            go_wp2_with fail
            go_quiet ((go_at_call 69; refine Calls.quiet_of_same ((C4.out _).mono fun _ _ h => ⟨h.1, h.2.symm⟩)))
            go_wp2_with fail
            refine bodyPost_ret (v := .tuple #[.string ⟨#[]⟩, .string ⟨#[]⟩, .int .i64 2]) ?_ rfl ⟨rfl, HXA.out.trans (Ext.drew7 _ _)⟩
            exact results_tmp3 (p := 2) (q := 3) (r := 4) rfl _ _ _ _ _ rfl rfl rfl
          | true =>
            simp only [if_true] at hkk2
            subst hkk2
            go_wp2_with fail
            go_quiet ((go_at_call 69; refine Calls.quiet_of_same ((C4.out _).mono fun _ _ h => ⟨h.1, h.2.symm⟩)))
            go_wp2_with fail
            go_quiet (fail)
            go_wp2_with fail
            refine bodyPost_ret (v := .tuple #[.string xd, .string ByteArray.empty, .int .i64 0]) ?_ rfl ⟨rfl, ?_⟩
            · exact results_tmp3 (p := 2) (q := 3) (r := 4) rfl _ _ _ _ _ rfl rfl rfl
            · exact HXA.out.trans (Ext.drew7 _ _)
        · rw [show min 8 xd.size = 8 by omega] at hkk
          have h8i : (8 : Int) ≤ xd.size := by omega
          have h8j : ¬ (xd.size : Int) ≤ 8 := by omega
          clear h8
          obtain ⟨q, hq⟩ : ∃ q, areC (xd.extract 0 8) (xd.extract 8 xd.size) = q := ⟨_, rfl⟩
          have C4 := Lib.hid (CK.out (xd.extract 0 8) (xd.extract 8 xd.size))
          rw [hq] at C4 hkk
          have hkk2 : kk = if q then ((xd.extract 0 8), (xd.extract 8 xd.size), 0) else (⟨#[]⟩, ⟨#[]⟩, 2) := hkk
          clear hkk hq
          cases q with
          | false =>
            simp only [Bool.false_eq_true, if_false] at hkk2
            subst hkk2
            go_wp2_with fail
            go_quiet ((go_at_call 69; refine Calls.quiet_of_same ((C4.out _).mono fun _ _ h => ⟨h.1, h.2.symm⟩)))
            go_wp2_with fail
            refine bodyPost_ret (v := .tuple #[.string ⟨#[]⟩, .string ⟨#[]⟩, .int .i64 2]) ?_ rfl ⟨rfl, HXA.out.trans (Ext.drew7 _ _)⟩
            exact results_tmp3 (p := 2) (q := 3) (r := 4) rfl _ _ _ _ _ rfl rfl rfl
          | true =>
            simp only [if_true] at hkk2
            subst hkk2
            go_wp2_with fail
            go_quiet ((go_at_call 69; refine Calls.quiet_of_same ((C4.out _).mono fun _ _ h => ⟨h.1, h.2.symm⟩)))
            go_wp2_with fail
            go_quiet (fail)
            go_wp2_with fail
            refine bodyPost_ret (v := .tuple #[.string (xd.extract 0 8), .string (xd.extract 8 xd.size), .int .i64 0]) ?_ rfl ⟨rfl, ?_⟩
            · exact results_tmp3 (p := 2) (q := 3) (r := 4) rfl _ _ _ _ _ rfl rfl rfl
            · exact HXA.out.trans (Ext.drew7 _ _)
      · have h10i : ((xc : Int) != 10) = true := by simp only [bne_iff_ne, ne_eq]; omega
        go_wp2_with fail
        go_roundw
        case rel =>
          refine ⟨j + 1, by omega, by simp, fun i y hi hy => ?_, HXA.out⟩
          by_cases hij : i = j
          · subst hij
            rw [Hxa.out] at hy
            obtain rfl := Option.some.inj hy
            exact h10
          · exact HAll.out i y (by omega) hy
        case measure => simp [intOf]; omega
    · obtain rfl : j = na := by omega
      go_wp2_with fail
      have hfn := findO_none 10 l fun i x hx => HAll.out i x (by have := (List.getElem?_eq_some_iff.1 hx).1; rw [Hna.out] at this; exact this) hx
      have hck : cookC l = (⟨#[]⟩, ⟨#[]⟩, 3) := by unfold cookC; rw [hfn]
      obtain rfl := Hkk.out.symm.trans hck
      refine bodyPost_ret (v := .tuple #[.string ⟨#[]⟩, .string ⟨#[]⟩, .int .i64 3]) ?_ rfl ⟨rfl, HX.out⟩
      exact results_tmp3 (p := 2) (q := 3) (r := 4) rfl _ _ _ _ _ rfl rfl rfl

/-- What Accept answers. -/
def acceptV (sent : ByteArray) (en : Bool) (l : List OptC) : ByteArray × Int :=
  if (cookC l).2.2 = 2 then (⟨#[]⟩, 2) else if (cookC l).2.2 = 3 then (if en then (⟨#[]⟩, 3) else (⟨#[]⟩, 0)) else if (cookC l).1 = sent then ((cookC l).2.1, 0) else (⟨#[]⟩, 6)
theorem cookC_cases (l : List OptC) : cookC l = (⟨#[]⟩, ⟨#[]⟩, 2) ∨ cookC l = (⟨#[]⟩, ⟨#[]⟩, 3) ∨ ∃ c s, cookC l = (c, s, 0) ∧ areC c s = true := by
  unfold cookC
  split
  · exact .inr (.inl rfl)
  · split
    · exact .inr (.inl rfl)
    · split
      · rename_i h; exact .inr (.inr ⟨_, _, rfl, h⟩)
      · exact .inl rfl
theorem text_eq {a b : ByteArray} : (a.toList == b.toList) = decide (a = b) := by
  rw [Bool.eq_iff_iff]
  simp only [beq_iff_eq, decide_eq_true_eq]
  constructor
  · intro h
    rw [ByteArray.toList_eq, ByteArray.toList_eq] at h
    cases a; cases b; simp only [ByteArray.mk.injEq]; exact Array.toList_inj.1 h
  · intro h; rw [h]

set_option maxRecDepth 100000 in
set_option maxHeartbeats 2000000 in
theorem Accept_any (e : EdC) (l : List OptC) (v : Value) (sent : ByteArray) (en : Bool) (w : World) (hr : SRow w v 2 (l.map OptC.cells)) (hl : ∀ x ∈ l, x.d.size ≤ maxLen) :
    Calls Try.prog 14 #[.string sent, .bool en, .agg (e.cells v)] w fun r w' => r = .returned (.tuple #[.string (acceptV sent en l).1, .int .i64 (acceptV sent en l).2]) ∧ Ext w w' := by
  have Hr := Lib.hid hr
  obtain ⟨ao, ac, rfl, hal⟩ := hr.open
  rw [List.length_map] at Hr hal ⊢
  clear hr hal
  have C := Lib.hid fun W h => Cookies_any e l (.slice ao l.length ac) W h hl
  obtain ⟨et, es, eh, ev, ef⟩ := e
  unfold EdC.cells at *
  simp only at C ⊢
  obtain ⟨na, hna⟩ : ∃ n, l.length = n := ⟨_, rfl⟩
  rw [hna] at Hr C ⊢
  clear hna
  have HX0 := Lib.hid ((Ext.refl w).alloc (.cells #[.bool et, .int .u16 (es : Int), .int .u8 (eh : Int), .int .u8 (ev : Int), .int .u16 (ef : Int), .slice ao na ac] 29))
  unfold acceptV
  rcases cookC_cases l with hk | hk | ⟨c, s, hk, _⟩
  · rw [hk] at C ⊢
    simp only [if_true] at C ⊢
    go_enter Try.func14, Try.ntmps14
    go_wp2_with ((with_reducible refine (C.out _ (Hr.out.ext HX0.out)).mono ?_); rintro e w' ⟨rfl, hx⟩; have HX1 := Lib.hid (HX0.out.trans hx); clear hx)
    go_ret2
    exact ⟨rfl, HX1.out⟩
  · rw [hk] at C ⊢
    simp only [if_true, if_neg (show ¬ (3 : Int) = 2 by decide)] at C ⊢
    cases en
    all_goals
      go_enter Try.func14, Try.ntmps14
      go_wp2_with ((with_reducible refine (C.out _ (Hr.out.ext HX0.out)).mono ?_); rintro e w' ⟨rfl, hx⟩; have HX1 := Lib.hid (HX0.out.trans hx); clear hx)
      go_ret2
      exact ⟨rfl, HX1.out⟩
  · rw [hk] at C ⊢
    simp only [if_neg (show ¬ (0 : Int) = 2 by decide), if_neg (show ¬ (0 : Int) = 3 by decide)] at C ⊢
    have ht := text_eq (a := c) (b := sent)
    by_cases hc : c = sent
    · rw [if_pos hc]
      rw [decide_eq_true hc] at ht
      clear hc
      go_enter Try.func14, Try.ntmps14
      go_wp2_with ((with_reducible refine (C.out _ (Hr.out.ext HX0.out)).mono ?_); rintro e w' ⟨rfl, hx⟩; have HX1 := Lib.hid (HX0.out.trans hx); clear hx)
      go_ret2
      exact ⟨rfl, HX1.out⟩
    · rw [if_neg hc]
      rw [decide_eq_false hc] at ht
      clear hc
      go_enter Try.func14, Try.ntmps14
      go_wp2_with ((with_reducible refine (C.out _ (Hr.out.ext HX0.out)).mono ?_); rintro e w' ⟨rfl, hx⟩; have HX1 := Lib.hid (HX0.out.trans hx); clear hx)
      go_ret2
      exact ⟨rfl, HX1.out⟩

set_option maxRecDepth 100000 in
set_option maxHeartbeats 2000000 in
theorem RAccept_any (e : EdC) (l : List OptC) (v : Value) (sent : ByteArray) (en : Bool) (w : World) (hr : SRow w v 2 (l.map OptC.cells)) (hl : ∀ x ∈ l, x.d.size ≤ maxLen) :
    Calls Try.prog 15 #[.string sent, .bool en, .agg (e.cells v)] w fun r w' => r = .returned (.tuple #[.string (acceptV sent en l).1, .int .i64 (acceptV sent en l).2]) ∧ Ext w w' := by
  have Hr := Lib.hid hr
  obtain ⟨ao, ac, rfl, hal⟩ := hr.open
  rw [List.length_map] at Hr hal ⊢
  clear hr hal
  have C := Lib.hid fun W h => RCookies_any e l (.slice ao l.length ac) W h hl
  obtain ⟨et, es, eh, ev, ef⟩ := e
  unfold EdC.cells at *
  simp only at C ⊢
  obtain ⟨na, hna⟩ : ∃ n, l.length = n := ⟨_, rfl⟩
  rw [hna] at Hr C ⊢
  clear hna
  have HX0 := Lib.hid ((Ext.refl w).alloc (.cells #[.bool et, .int .u16 (es : Int), .int .u8 (eh : Int), .int .u8 (ev : Int), .int .u16 (ef : Int), .slice ao na ac] 29))
  unfold acceptV
  rcases cookC_cases l with hk | hk | ⟨c, s, hk, _⟩
  · rw [hk] at C ⊢
    simp only [if_true] at C ⊢
    go_enter Try.func15, Try.ntmps15
    go_wp2_with ((with_reducible refine (C.out _ (Hr.out.ext HX0.out)).mono ?_); rintro e w' ⟨rfl, hx⟩; have HX1 := Lib.hid (HX0.out.trans hx); clear hx)
    go_ret2
    exact ⟨rfl, HX1.out⟩
  · rw [hk] at C ⊢
    simp only [if_true, if_neg (show ¬ (3 : Int) = 2 by decide)] at C ⊢
    cases en
    all_goals
      go_enter Try.func15, Try.ntmps15
      go_wp2_with ((with_reducible refine (C.out _ (Hr.out.ext HX0.out)).mono ?_); rintro e w' ⟨rfl, hx⟩; have HX1 := Lib.hid (HX0.out.trans hx); clear hx)
      go_ret2
      exact ⟨rfl, HX1.out⟩
  · rw [hk] at C ⊢
    simp only [if_neg (show ¬ (0 : Int) = 2 by decide), if_neg (show ¬ (0 : Int) = 3 by decide)] at C ⊢
    have ht := text_eq (a := c) (b := sent)
    by_cases hc : c = sent
    · rw [if_pos hc]
      rw [decide_eq_true hc] at ht
      clear hc
      go_enter Try.func15, Try.ntmps15
      go_wp2_with ((with_reducible refine (C.out _ (Hr.out.ext HX0.out)).mono ?_); rintro e w' ⟨rfl, hx⟩; have HX1 := Lib.hid (HX0.out.trans hx); clear hx)
      go_ret2
      exact ⟨rfl, HX1.out⟩
    · rw [if_neg hc]
      rw [decide_eq_false hc] at ht
      clear hc
      go_enter Try.func15, Try.ntmps15
      go_wp2_with ((with_reducible refine (C.out _ (Hr.out.ext HX0.out)).mono ?_); rintro e w' ⟨rfl, hx⟩; have HX1 := Lib.hid (HX0.out.trans hx); clear hx)
      go_ret2
      exact ⟨rfl, HX1.out⟩
end Go.Proofs.Ytjnaknfnoibncaa
