/- hardtacklaw11.AskOwn answers true, and leaves what lay as it lay. Conditions: numbers and texts of their kinds. -/
import Derived.Test.YtjnaknfnoibncaaAskE
import Derived.Test.YtjnaknfnoibncaaOptArgs
namespace Go.Proofs.Ytjnaknfnoibncaa
open Go Go.RowKit Go.Shelf
attribute [local go_sem] Oper.semAt_some wide_fn wide_depth

theorem findO_skip (c : Nat) : ∀ (l m : List OptC), (∀ x ∈ l, x.c ≠ c) → findO c (l ++ m) = (findO c m).map (· + l.length)
  | [], m, _ => by simp
  | x :: l, m, h => by
    have h0 := h x (List.mem_cons_self ..)
    have ih := findO_skip c l m fun y hy => h y (List.mem_cons_of_mem _ hy)
    show (if x.c = c then some 0 else (findO c (l ++ m)).map (· + 1)) = _
    rw [if_neg h0, ih, Option.map_map]
    cases findO c m with
    | none => rfl
    | some i => simp [Nat.add_assoc]
theorem findO_put (cl sv : ByteArray) (l : List OptC) : findO 10 (keepO 10 l ++ [(⟨10, cl ++ sv⟩ : OptC)]) = some (keepO 10 l).length := by
  rw [findO_skip 10 _ _ fun x hx => by
    have := (List.mem_filter.1 hx).2
    simpa using this]
  simp [findO]
theorem cut_front {cl sv : ByteArray} (h : cl.size = 8) : (cl ++ sv).extract 0 8 = cl ∧ (cl ++ sv).extract 8 (cl ++ sv).size = sv ∧ (cl ++ sv).size = 8 + sv.size := by
  have hs : (cl ++ sv).size = cl.size + sv.size := by simp
  refine ⟨?_, ?_, by omega⟩
  · refine bl_inj ?_
    rw [bl_extract, app_bl, List.drop_zero]
    exact List.take_left' (by rw [bl_size]; exact h)
  · refine bl_inj ?_
    rw [bl_extract, take_bl, app_bl]
    exact List.drop_left' (by rw [bl_size]; exact h)
/-- What was put in as cookies is had. -/
theorem cookC_put {cl sv : ByteArray} (l : List OptC) (h : areC cl sv = true) : cookC (keepO 10 l ++ [(⟨10, cl ++ sv⟩ : OptC)]) = (cl, sv, 0) := by
  have h8 : cl.size = 8 := by unfold areC at h; exact (of_decide_eq_true h).1
  obtain ⟨h1, h2, h3⟩ := cut_front (sv := sv) h8
  unfold cookC
  rw [findO_put]
  simp only [List.getElem?_append_right (Nat.le_refl _), Nat.sub_self, List.getElem?_cons_zero]
  rw [show min 8 (cl ++ sv).size = 8 by omega, h1, h2, h]
  rfl
theorem acceptV_put {cl sv : ByteArray} (sent : ByteArray) (en : Bool) (l : List OptC) (h : areC cl sv = true) : acceptV sent en (keepO 10 l ++ [(⟨10, cl ++ sv⟩ : OptC)]) = if cl = sent then (sv, 0) else (⟨#[]⟩, 6) := by
  unfold acceptV
  rw [cookC_put l h]
  rfl
theorem put_sizes {cl sv : ByteArray} {l : List OptC} (h : areC cl sv = true) (hl : ∀ x ∈ l, x.d.size ≤ maxLen) : ∀ x ∈ keepO 10 l ++ [(⟨10, cl ++ sv⟩ : OptC)], x.d.size ≤ maxLen := by
  intro x hx
  rcases List.mem_append.1 hx with hx | hx
  · exact hl x (List.mem_filter.1 hx).1
  · rw [List.mem_singleton] at hx
    subst hx
    unfold areC at h
    have h2 := of_decide_eq_true h
    have hs : (cl ++ sv).size = cl.size + sv.size := by simp
    show (cl ++ sv).size ≤ maxLen
    unfold maxLen
    omega

set_option maxRecDepth 100000 in
set_option maxHeartbeats 8000000 in
theorem askOwn_walk (sent cl sv : ByteArray) (en : Bool) (e : EdC) (lo : List OptC) (vo : Value) (w : World) (hro : SRow w vo 2 (lo.map OptC.cells)) (hfo : ∀ x ∈ lo, x.d.size ≤ maxLen) :
    Calls Try.prog 4 #[.string sent, .string cl, .string sv, .bool en, .agg (e.cells vo)] w fun e w' => e = .returned (.bool true) ∧ Ext w w' := by
  have Hro := Lib.hid hro
  obtain ⟨bo, bc, rfl, hlm⟩ := hro.open
  rw [List.length_map] at Hro hlm ⊢
  clear hro hlm
  have CL := Lib.hid fun W => L11.lives_any W
  have C3 := Lib.hid fun W h => Cookies_any e lo (.slice bo lo.length bc) W h hfo
  have C4 := Lib.hid fun W h => Accept_any e lo (.slice bo lo.length bc) sent en W h hfo
  have hk : (∃ c s r, cookC lo = (c, s, r) ∧ (r = 0 ∨ r = 2)) ∨ (cookC lo = (⟨#[]⟩, ⟨#[]⟩, 3) ∧ acceptV sent en lo = (⟨#[]⟩, if en then 3 else 0)) := by
    rcases cookC_cases lo with h | h | ⟨c, s, h, _⟩
    · exact .inl ⟨_, _, _, h, .inr rfl⟩
    · refine .inr ⟨h, ?_⟩
      unfold acceptV
      rw [h]
      cases en <;> rfl
    · exact .inl ⟨_, _, _, h, .inl rfl⟩
  by_cases hc : 60 < lo.length
  · have hc1 : (60 : Int) < lo.length := by omega
    obtain ⟨et, es, eh, ev, ef⟩ := e
    unfold EdC.cells
    simp only
    obtain ⟨no, hno⟩ : ∃ no, lo.length = no := ⟨_, rfl⟩
    rw [hno] at hc1 ⊢
    clear hc hk C3 C4 hfo hno Hro
    have HX := Lib.hid ((Ext.refl w).alloc (.cells #[.bool et, .int .u16 (es : Int), .int .u8 (eh : Int), .int .u8 (ev : Int), .int .u16 (ef : Int), .slice bo no bc] 29))
    have HB := Lib.hid (World.alloc_heap_new w (.cells #[.bool et, .int .u16 (es : Int), .int .u8 (eh : Int), .int .u8 (ev : Int), .int .u16 (ef : Int), .slice bo no bc] 29))
    go_enter Try.func4, Try.ntmps4
    go_wp2_with ((with_reducible refine (CL.out _).mono ?_); rintro e W2 ⟨rfl, hx⟩; have HX2 := Lib.hid (HX.out.trans hx); obtain ⟨b0, b1, b2, b3, b4, b5⟩ := cells_six (hx.keeps.heap HB.out trivial); clear hx)
    go_ret
    exact ⟨rfl, HX2.out⟩
  have hc1 : (lo.length : Int) ≤ 60 := by omega
  have C1 := Lib.hid fun W h => With_any e lo (.slice bo lo.length bc) cl sv W h (by omega)
  obtain ⟨⟨c1, s1, r1⟩, hck⟩ : ∃ y, cookC lo = y := ⟨_, rfl⟩
  obtain ⟨⟨p2, q2⟩, hav⟩ : ∃ y, acceptV sent en lo = y := ⟨_, rfl⟩
  rw [hck] at C3 hk
  rw [hav] at C4 hk
  have hk2 : r1 = 0 ∨ r1 = 2 ∨ (r1 = 3 ∧ p2 = ⟨#[]⟩ ∧ ((en = true ∧ q2 = 3) ∨ (en = false ∧ q2 = 0))) := by
    rcases hk with ⟨c, s, r, h, hr⟩ | ⟨h1, h2⟩
    · simp only [Prod.mk.injEq] at h
      obtain ⟨_, _, rfl⟩ := h
      rcases hr with rfl | rfl
      · exact .inl rfl
      · exact .inr (.inl rfl)
    · simp only [Prod.mk.injEq] at h1 h2
      refine .inr (.inr ⟨h1.2.2, h2.1, ?_⟩)
      cases en
      · exact .inr ⟨rfl, h2.2⟩
      · exact .inl ⟨rfl, h2.2⟩
  clear hk hck hav hc
  cases ha : areC cl sv with
  | false =>
    have HW : Hid (∀ W, SRow W (.slice bo lo.length bc) 2 (lo.map OptC.cells) → Calls Try.prog 18 #[.agg (e.cells (.slice bo lo.length bc)), .string cl, .string sv] W fun en w' => en = .returned (.tuple #[.agg #[.bool false, .int .u16 0, .int .u8 0, .int .u8 0, .int .u16 0, .slice none 0 0], .int .i64 2]) ∧ Ext W w') := Lib.hid fun W h => (C1.out W h).mono (by
      rintro en w' (⟨_, rfl, hx⟩ | ⟨h0, _⟩)
      · exact ⟨rfl, hx⟩
      · rw [ha] at h0; cases h0)
    obtain ⟨et, es, eh, ev, ef⟩ := e
    unfold EdC.cells at HW C3 C4 ⊢
    simp only at HW C3 C4 ⊢
    obtain ⟨no, hno⟩ : ∃ no, lo.length = no := ⟨_, rfl⟩
    rw [hno] at hc1 HW C3 C4 Hro ⊢
    clear hno ha C1 hfo
    have HX := Lib.hid ((Ext.refl w).alloc (.cells #[.bool et, .int .u16 (es : Int), .int .u8 (eh : Int), .int .u8 (ev : Int), .int .u16 (ef : Int), .slice bo no bc] 29))
    have HB := Lib.hid (World.alloc_heap_new w (.cells #[.bool et, .int .u16 (es : Int), .int .u8 (eh : Int), .int .u8 (ev : Int), .int .u16 (ef : Int), .slice bo no bc] 29))
    have TW : Hid (∀ W, Ext (w.alloc (.cells #[.bool et, .int .u16 (es : Int), .int .u8 (eh : Int), .int .u8 (ev : Int), .int .u16 (ef : Int), .slice bo no bc] 29)) W → W.cell? ⟨w.heap.size, 0, none⟩ = some (.bool et) ∧ W.cell? ⟨w.heap.size, 1, none⟩ = some (.int .u16 (es : Int)) ∧ W.cell? ⟨w.heap.size, 2, none⟩ = some (.int .u8 (eh : Int)) ∧ W.cell? ⟨w.heap.size, 3, none⟩ = some (.int .u8 (ev : Int)) ∧ W.cell? ⟨w.heap.size, 4, none⟩ = some (.int .u16 (ef : Int)) ∧ W.cell? ⟨w.heap.size, 5, none⟩ = some (.slice bo no bc)) := Lib.hid fun W hx => cells_six (hx.keeps.heap HB.out trivial)
    rcases hk2 with rfl | rfl | ⟨rfl, rfl, ⟨rfl, rfl⟩ | ⟨rfl, rfl⟩⟩
    all_goals
      go_enter Try.func4, Try.ntmps4
      go_wp2_with (first
        | ((with_reducible refine (CL.out _).mono ?_); rintro e W2 ⟨rfl, hx⟩; have HX2 := Lib.hid hx; obtain ⟨b0, b1, b2, b3, b4, b5⟩ := TW.out _ HX2.out; clear hx)
        | ((with_reducible refine (HW.out _ (Hro.out.ext (HX.out.trans HX2.out))).mono ?_); rintro e W3 ⟨rfl, hx⟩; clear b0 b1 b2 b3 b4 b5; have HX3 := Lib.hid ((HX2.out.trans hx).alloc (.cells #[.bool false, .int .u16 0, .int .u8 0, .int .u8 0, .int .u16 0, .slice none 0 0] 29)); obtain ⟨b0, b1, b2, b3, b4, b5⟩ := TW.out _ HX3.out; clear hx)
        | ((with_reducible refine (C3.out _ (Hro.out.ext (HX.out.trans HX3.out))).mono ?_); rintro e W4 ⟨rfl, hx⟩; clear b0 b1 b2 b3 b4 b5; have HX4 := Lib.hid (HX3.out.trans hx); obtain ⟨b0, b1, b2, b3, b4, b5⟩ := TW.out _ HX4.out; clear hx)
        | ((with_reducible refine (C4.out _ (Hro.out.ext (HX.out.trans HX4.out))).mono ?_); rintro e W5 ⟨rfl, hx⟩; clear b0 b1 b2 b3 b4 b5; have HX5 := Lib.hid (HX4.out.trans hx); clear hx))
      go_ret
      exact ⟨rfl, HX.out.trans HX5.out⟩
  | true =>
    have HW : Hid (∀ W, SRow W (.slice bo lo.length bc) 2 (lo.map OptC.cells) → Calls Try.prog 18 #[.agg (e.cells (.slice bo lo.length bc)), .string cl, .string sv] W fun en w' => ∃ ao n c, en = .returned (.tuple #[.agg (({ e with there := true } : EdC).cells (.slice ao n c)), .int .i64 0]) ∧ SRow w' (.slice ao n c) 2 ((keepO 10 lo ++ [(⟨10, cl ++ sv⟩ : OptC)]).map OptC.cells) ∧ Ext W w') := Lib.hid fun W h => With_ok e lo _ cl sv W h (by omega) ha
    have CA : Hid (∀ ao n c W, SRow W (.slice ao n c) 2 ((keepO 10 lo ++ [(⟨10, cl ++ sv⟩ : OptC)]).map OptC.cells) → _) := Lib.hid fun ao n c W h => Accept_any ({ e with there := true } : EdC) (keepO 10 lo ++ [(⟨10, cl ++ sv⟩ : OptC)]) (.slice ao n c) sent en W h (put_sizes ha hfo)
    rw [acceptV_put sent en lo ha] at CA
    have ht := text_eq (a := sent) (b := cl)
    have htv := text_eq (a := sv) (b := sv)
    rw [decide_eq_true rfl] at htv
    obtain ⟨L2, hL2⟩ : ∃ y, keepO 10 lo ++ [(⟨10, cl ++ sv⟩ : OptC)] = y := ⟨_, rfl⟩
    rw [hL2] at HW CA
    obtain ⟨et, es, eh, ev, ef⟩ := e
    unfold EdC.cells at HW CA C3 C4 ⊢
    simp only at HW CA C3 C4 ⊢
    obtain ⟨no, hno⟩ : ∃ no, lo.length = no := ⟨_, rfl⟩
    rw [hno] at hc1 HW C3 C4 Hro ⊢
    clear hno ha C1 hfo hL2
    have HX := Lib.hid ((Ext.refl w).alloc (.cells #[.bool et, .int .u16 (es : Int), .int .u8 (eh : Int), .int .u8 (ev : Int), .int .u16 (ef : Int), .slice bo no bc] 29))
    have HB := Lib.hid (World.alloc_heap_new w (.cells #[.bool et, .int .u16 (es : Int), .int .u8 (eh : Int), .int .u8 (ev : Int), .int .u16 (ef : Int), .slice bo no bc] 29))
    have TW : Hid (∀ W, Ext (w.alloc (.cells #[.bool et, .int .u16 (es : Int), .int .u8 (eh : Int), .int .u8 (ev : Int), .int .u16 (ef : Int), .slice bo no bc] 29)) W → W.cell? ⟨w.heap.size, 0, none⟩ = some (.bool et) ∧ W.cell? ⟨w.heap.size, 1, none⟩ = some (.int .u16 (es : Int)) ∧ W.cell? ⟨w.heap.size, 2, none⟩ = some (.int .u8 (eh : Int)) ∧ W.cell? ⟨w.heap.size, 3, none⟩ = some (.int .u8 (ev : Int)) ∧ W.cell? ⟨w.heap.size, 4, none⟩ = some (.int .u16 (ef : Int)) ∧ W.cell? ⟨w.heap.size, 5, none⟩ = some (.slice bo no bc)) := Lib.hid fun W hx => cells_six (hx.keeps.heap HB.out trivial)
    by_cases hsc : cl = sent
    case' pos => rw [if_pos hsc] at CA; rw [decide_eq_true hsc.symm] at ht; clear hsc
    case' neg => rw [if_neg hsc] at CA; rw [decide_eq_false fun h => hsc h.symm] at ht; clear hsc
    all_goals simp only at CA
    all_goals rcases hk2 with rfl | rfl | ⟨rfl, rfl, ⟨rfl, rfl⟩ | ⟨rfl, rfl⟩⟩
    all_goals
      go_enter Try.func4, Try.ntmps4
      go_wp2_with (first
        | ((with_reducible refine (CL.out _).mono ?_); rintro e W2 ⟨rfl, hx⟩; have HX2 := Lib.hid hx; obtain ⟨b0, b1, b2, b3, b4, b5⟩ := TW.out _ HX2.out; clear hx)
        | ((with_reducible refine (HW.out _ (Hro.out.ext (HX.out.trans HX2.out))).mono ?_); rintro e W3 ⟨ao, an, ac, rfl, hr, hx⟩; clear b0 b1 b2 b3 b4 b5; have HR3 := Lib.hid (hr.ext ((Ext.refl W3).alloc (.cells #[.bool true, .int .u16 (es : Int), .int .u8 (eh : Int), .int .u8 (ev : Int), .int .u16 (ef : Int), .slice ao an ac] 29))); have HX3 := Lib.hid ((HX2.out.trans hx).alloc (.cells #[.bool true, .int .u16 (es : Int), .int .u8 (eh : Int), .int .u8 (ev : Int), .int .u16 (ef : Int), .slice ao an ac] 29)); clear hr hx)
        | ((with_reducible refine (CA.out _ _ _ _ HR3.out).mono ?_); rintro e W4 ⟨rfl, hx⟩; have HX4 := Lib.hid (HX3.out.trans hx); obtain ⟨b0, b1, b2, b3, b4, b5⟩ := TW.out _ HX4.out; clear hx)
        | ((with_reducible refine (C3.out _ (Hro.out.ext (HX.out.trans HX4.out))).mono ?_); rintro e W5 ⟨rfl, hx⟩; clear b0 b1 b2 b3 b4 b5; have HX5 := Lib.hid (HX4.out.trans hx); obtain ⟨b0, b1, b2, b3, b4, b5⟩ := TW.out _ HX5.out; clear hx)
        | ((with_reducible refine (C4.out _ (Hro.out.ext (HX.out.trans HX5.out))).mono ?_); rintro e W6 ⟨rfl, hx⟩; clear b0 b1 b2 b3 b4 b5; have HX6 := Lib.hid (HX5.out.trans hx); clear hx))
      go_ret
      exact ⟨rfl, HX.out.trans HX6.out⟩

theorem askOwn_args (sent cl sv : ByteArray) (en : Bool) (e : EdC) (vo : Value) (lo : List OptC) (w : World) (_ : sent.size ≤ maxLen) (_ : cl.size ≤ maxLen) (_ : sv.size ≤ maxLen) (hro : SRow w vo 2 (lo.map OptC.cells)) (hfo : ∀ x ∈ lo, x.fit) :
    Calls Try.prog 4 #[.string sent, .string cl, .string sv, .bool en, .agg (e.cells vo)] w fun e w' => e = .returned (.bool true) ∧ Ext w w' :=
  askOwn_walk sent cl sv en e lo vo w hro fun x hx => (hfo x hx).d
end Go.Proofs.Ytjnaknfnoibncaa
