/- hardtacklaw12.GiveBack answers true, and leaves what lay as it lay. Conditions: numbers and texts of their kinds. -/
import Derived.Test.YtjnaknfnoibncaaGiveE
import Derived.Test.YtjnaknfnoibncaaOptArgs
namespace Go.Proofs.Ytjnaknfnoibncaa
open Go Go.RowKit Go.Shelf
attribute [local go_sem] Oper.semAt_some wide_fn wide_depth

theorem beN_be4 {n : Nat} (h : n < 4294967296) : beN (be4 n) = n := by
  have hb : ∀ k, (byB n k).toNat = n / 256 ^ k % 256 := fun k => by
    unfold byB
    rw [UInt8.toNat_ofNat', Nat.mod_eq_of_lt (show n / 256 ^ k % 256 < 2 ^ 8 by omega)]
  show (((0 * 256 + (byB n 3).toNat) * 256 + (byB n 2).toNat) * 256 + (byB n 1).toNat) * 256 + (byB n 0).toNat = n
  rw [hb, hb, hb, hb]
  omega
theorem size_giveT (c h : ByteArray) (n : Nat) : (giveT c h n).size = 8 + c.size + h.size := by
  rw [← bl_size]
  unfold giveT
  rw [bl_mk, List.length_append, List.length_append, List.length_append, bl_size, bl_size]
  show 4 + c.size + h.size + 4 = _
  omega
/-- The parts of a cookie that was made. -/
theorem made_parts {s : Nat} (hs : s < 4294967296) (y : Nat) : (headT s ++ bytesS y).size = 16 ∧ (headT s ++ bytesS y).extract 0 8 = headT s ∧ beginsB (headT s ++ bytesS y) = true ∧ stampN (headT s ++ bytesS y) = s := by
  have hb : bl (headT s ++ bytesS y) = [1, 0, 0, 0] ++ be4 s ++ bl (bytesS y) := by rw [app_bl]; unfold headT; rw [bl_mk]
  refine ⟨?_, ?_, ?_, ?_⟩
  · rw [← bl_size, hb, List.length_append, List.length_append, bl_size, size_bytesS]; rfl
  · refine bl_inj ?_
    rw [bl_extract, hb, List.drop_zero]
    unfold headT
    rw [bl_mk]
    exact List.take_left' rfl
  · unfold beginsB
    rw [hb]
    exact decide_eq_true rfl
  · unfold stampN
    rw [hb]
    show beN (be4 s) = s
    exact beN_be4 hs
theorem made_of {o : Bool} {l : List SumC} {k cl : ByteArray} {a s : Nat} (hs : s < 4294967296) {c : ByteArray} (h : cookV o l k (giveT cl (headT s) a) (headT s) = (c, 0)) :
    c.size = 16 ∧ c.extract 0 8 = headT s ∧ beginsB c = true ∧ stampN c = s ∧ madeB o l k cl c a = true := by
  have h2 := h
  unfold cookV at h2
  split at h2
  · simp only [Prod.mk.injEq, and_true] at h2
    obtain ⟨h3, h4, h5, h6⟩ := made_parts hs (hashV o l k (giveT cl (headT s) a))
    rw [h2] at h3 h4 h5 h6
    refine ⟨h3, h4, h5, h6, ?_⟩
    unfold madeB
    rw [h4, h]
    exact decide_eq_true rfl
  · rename_i h0
    simp only [Prod.mk.injEq] at h2
    exact absurd h2.2 h0
theorem age_then (now n : Int) (h1 : -2147483648 ≤ n) (h2 : n ≤ 2147483647) : ageS (now + n) (((ofS now).toNat : Nat) : Int) = n := by
  have h3 : 0 ≤ ofS now := by unfold ofS; omega
  rw [Int.toNat_of_nonneg h3]
  unfold ageS ofS halfS
  split <;> omega
theorem ofS_lt (now : Int) : (ofS now).toNat < 4294967296 := by unfold ofS; omega
theorem make_err {o : Bool} {l : List SumC} {k cl : ByteArray} {a : Nat} {now : Int} {p : ByteArray} {q : Int} (h : makeV o l k cl a now = (p, q)) (hq : q ≠ 0) : p = ⟨#[]⟩ := by
  unfold makeV cookV at h
  split at h
  · split at h
    · simp only [Prod.mk.injEq] at h; exact absurd h.2.symm hq
    · simp only [Prod.mk.injEq] at h; exact h.1.symm
  · simp only [Prod.mk.injEq] at h; exact h.1.symm
theorem make_ok {o : Bool} {l : List SumC} {k cl : ByteArray} {a : Nat} {now : Int} {c : ByteArray} (h : makeV o l k cl a now = (c, 0)) :
    cl.size = 8 ∧ cookV o l k (giveT cl (headT (ofS now).toNat) a) (headT (ofS now).toNat) = (c, 0) := by
  unfold makeV at h
  split at h
  · rename_i h8; exact ⟨h8, h⟩
  · simp only [Prod.mk.injEq] at h; exact absurd h.2 (by decide)
theorem cook_size {o : Bool} {l : List SumC} {k cl : ByteArray} {a s : Nat} (h8 : cl.size = 8) (hk : k.size = 16) : ∃ x, cookV o l k (giveT cl (headT s) a) (headT s) = (x, 0) := by
  unfold cookV sumE
  rw [if_pos hk, size_giveT, h8, size_headT, if_pos (by decide)]
  exact ⟨_, rfl⟩
/-- What a cookie that was made tells then. -/
theorem ver_then {o : Bool} {l : List SumC} {k k1 k2 cl c : ByteArray} {a : Nat} {now n : Int} (hn1 : -2147483648 ≤ n) (hn2 : n ≤ 2147483647) (h : makeV o l k cl a now = (c, 0)) :
    verV o l k1 k2 cl c a (now + n) = if -300 ≤ n ∧ n ≤ 3600 then (if madeB o l k1 cl c a then (decide (1800 < n), 0) else if madeB o l k2 cl c a then (true, 0) else (false, 6)) else (false, 10) := by
  obtain ⟨h8, hc⟩ := make_ok h
  obtain ⟨h16, _, hb, hst, _⟩ := made_of (ofS_lt now) hc
  unfold verV freshS renewS
  rw [if_neg (not_not_intro h8), if_neg (by omega), if_neg (not_not_intro h16), if_neg (by rw [hb]; decide), hst, age_then now n hn1 hn2]
  by_cases hf : -300 ≤ n ∧ n ≤ 3600
  · rw [if_pos hf, if_neg (by decide), if_pos hf]
  · rw [if_neg hf, if_pos (by decide), if_neg hf]
theorem back_facts {o : Bool} {l : List SumC} {k af cl c : ByteArray} {a : Nat} {now n : Int} (hn1 : -2147483648 ≤ n) (hn2 : n ≤ 2147483647) (h : makeV o l k cl a now = (c, 0)) (haf : af.size = 16) :
    ∃ x, makeV o l af cl a now = (x, 0) ∧ verV o l af k cl c a (now + n) = if -300 ≤ n ∧ n ≤ 3600 then (if (x.toList == c.toList) = true then (decide (1800 < n), 0) else (true, 0)) else (false, 10) := by
  obtain ⟨h8, hc⟩ := make_ok h
  obtain ⟨x, hx⟩ := cook_size (o := o) (l := l) (a := a) (s := (ofS now).toNat) h8 haf
  obtain ⟨_, h4, _, _, hm⟩ := made_of (ofS_lt now) hc
  refine ⟨x, by unfold makeV; rw [if_pos h8]; exact hx, ?_⟩
  rw [ver_then hn1 hn2 h, hm]
  have hb : madeB o l af cl c a = (x.toList == c.toList) := by
    unfold madeB
    rw [h4, hx, text_eq, Bool.eq_iff_iff, decide_eq_true_iff, decide_eq_true_iff]
    simp
  rw [hb]
  rfl

set_option maxRecDepth 100000 in
set_option maxHeartbeats 8000000 in
theorem giveBack_walk (l : List SumC) (v : Value) (o : Bool) (k cl af : ByteArray) (a : Nat) (now n : Int) (w : World) (hr : SRow w v 3 (l.map SumC.cells)) (ha : a < 4294967296) (hn1 : -2147483648 ≤ n) (hn2 : n ≤ 2147483647) :
    Calls Try.prog 7 #[.agg #[.bool o, v], .string k, .string cl, .string af, .int .u32 (a : Int), .int .i64 now, .int .i32 n] w fun e w' => e = .returned (.bool true) ∧ Ext w w' := by
  have Hr := Lib.hid hr
  obtain ⟨ao, ac, rfl, hlm⟩ := hr.open
  rw [List.length_map] at Hr hlm ⊢
  clear hr hlm
  have CL := Lib.hid fun W => L12.lives_any W
  have CM := Lib.hid fun W => Small9_any ao l.length ac o W
  have C1 := Lib.hid fun W h => Make_any l (.slice ao l.length ac) o k cl a now W h ha
  have C2 := Lib.hid fun p W h => Verify_any l (.slice ao l.length ac) o k ⟨#[]⟩ cl p a (now + n) W h ha
  have C3 := Lib.hid fun W => Roll_any k ⟨#[]⟩ af W
  have C4 := Lib.hid fun p W h => Verify_any l (.slice ao l.length ac) o af k cl p a (now + n) W h ha
  have C5 := Lib.hid fun W h => Make_any l (.slice ao l.length ac) o af cl a now W h ha
  have HX := Lib.hid ((Ext.refl w).alloc (.cells #[.bool o, .slice ao l.length ac] 24))
  have HA := Lib.hid (World.alloc_heap_new w (.cells #[.bool o, .slice ao l.length ac] 24))
  obtain ⟨⟨c, why⟩, hmk⟩ : ∃ y, makeV o l k cl a now = y := ⟨_, rfl⟩
  rw [hmk] at C1
  simp only at C1
  by_cases hb : 60 < l.length
  · rw [if_pos hb] at CM
    obtain ⟨nl, hnl⟩ : ∃ nl, l.length = nl := ⟨_, rfl⟩
    rw [hnl] at CM C1 C2 C4 C5 HA HX Hr ⊢
    clear hnl hb hmk ha hn1 hn2
    go_enter Try.func7, Try.ntmps7
    go_wp2_with (first
      | ((with_reducible refine (CL.out _).mono ?_); rintro e W1 ⟨rfl, hx⟩; have HX1 := Lib.hid hx; obtain ⟨a0, a1, _, _⟩ := cells_of (HX1.out.keeps.heap HA.out trivial); clear hx)
      | ((with_reducible refine (CM.out _).mono ?_); rintro e W2 ⟨rfl, hx⟩; clear a0 a1; have HX2 := Lib.hid (HX1.out.trans hx); obtain ⟨a0, a1, _, _⟩ := cells_of (HX2.out.keeps.heap HA.out trivial); clear hx)
      | ((with_reducible refine (C1.out _ (Hr.out.ext (HX.out.trans HX2.out))).mono ?_); rintro e W3 ⟨rfl, hx⟩; clear a0 a1; have HX3 := Lib.hid (HX2.out.trans hx); obtain ⟨a0, a1, _, _⟩ := cells_of (HX3.out.keeps.heap HA.out trivial); clear hx)
      | ((with_reducible refine (C2.out _ (Hr.out.ext (HX.out.trans HX3.out))).mono ?_); rintro e W4 ⟨rfl, hx⟩; clear a0 a1; have HX4 := Lib.hid (HX3.out.trans hx); clear hx)
      | ((with_reducible refine (C3.out _).mono ?_); rintro e W5 ⟨rfl, hx⟩; have HB := Lib.hid (World.alloc_heap_new W5 (.cells #[.string ⟨#[]⟩, .string ⟨#[]⟩] 50)); have HX5 := Lib.hid ((HX4.out.trans hx).alloc (.cells #[.string ⟨#[]⟩, .string ⟨#[]⟩] 50)); obtain ⟨a0, a1, _, _⟩ := cells_of (HX5.out.keeps.heap HA.out trivial); clear hx)
      | ((with_reducible refine (C4.out _ (Hr.out.ext (HX.out.trans HX5.out))).mono ?_); rintro e W6 ⟨rfl, hx⟩; clear a0 a1; have HX6 := Lib.hid (HX5.out.trans hx); obtain ⟨a0, a1, _, _⟩ := cells_of (HX6.out.keeps.heap HA.out trivial); clear hx)
      | ((with_reducible refine (C5.out _ (Hr.out.ext (HX.out.trans HX6.out))).mono ?_); rintro e W7 ⟨rfl, hx⟩; clear a0 a1; have HX7 := Lib.hid (HX6.out.trans hx); clear hx))
    go_ret
    first
      | exact ⟨rfl, HX.out.trans HX7.out⟩
      | exact ⟨rfl, HX.out.trans HX5.out⟩
      | exact ⟨rfl, HX.out.trans HX3.out⟩
      | exact ⟨rfl, HX.out.trans HX2.out⟩
  rw [if_neg hb] at CM
  clear hb
  by_cases hb : 1000 < cl.size
  · have hbi : (1000 : Int) < cl.size := by omega
    obtain ⟨nl, hnl⟩ : ∃ nl, l.length = nl := ⟨_, rfl⟩
    rw [hnl] at CM C1 C2 C4 C5 HA HX Hr ⊢
    clear hnl hb hmk ha hn1 hn2
    go_enter Try.func7, Try.ntmps7
    go_wp2_with (first
      | ((with_reducible refine (CL.out _).mono ?_); rintro e W1 ⟨rfl, hx⟩; have HX1 := Lib.hid hx; obtain ⟨a0, a1, _, _⟩ := cells_of (HX1.out.keeps.heap HA.out trivial); clear hx)
      | ((with_reducible refine (CM.out _).mono ?_); rintro e W2 ⟨rfl, hx⟩; clear a0 a1; have HX2 := Lib.hid (HX1.out.trans hx); obtain ⟨a0, a1, _, _⟩ := cells_of (HX2.out.keeps.heap HA.out trivial); clear hx)
      | ((with_reducible refine (C1.out _ (Hr.out.ext (HX.out.trans HX2.out))).mono ?_); rintro e W3 ⟨rfl, hx⟩; clear a0 a1; have HX3 := Lib.hid (HX2.out.trans hx); obtain ⟨a0, a1, _, _⟩ := cells_of (HX3.out.keeps.heap HA.out trivial); clear hx)
      | ((with_reducible refine (C2.out _ (Hr.out.ext (HX.out.trans HX3.out))).mono ?_); rintro e W4 ⟨rfl, hx⟩; clear a0 a1; have HX4 := Lib.hid (HX3.out.trans hx); clear hx)
      | ((with_reducible refine (C3.out _).mono ?_); rintro e W5 ⟨rfl, hx⟩; have HB := Lib.hid (World.alloc_heap_new W5 (.cells #[.string ⟨#[]⟩, .string ⟨#[]⟩] 50)); have HX5 := Lib.hid ((HX4.out.trans hx).alloc (.cells #[.string ⟨#[]⟩, .string ⟨#[]⟩] 50)); obtain ⟨a0, a1, _, _⟩ := cells_of (HX5.out.keeps.heap HA.out trivial); clear hx)
      | ((with_reducible refine (C4.out _ (Hr.out.ext (HX.out.trans HX5.out))).mono ?_); rintro e W6 ⟨rfl, hx⟩; clear a0 a1; have HX6 := Lib.hid (HX5.out.trans hx); obtain ⟨a0, a1, _, _⟩ := cells_of (HX6.out.keeps.heap HA.out trivial); clear hx)
      | ((with_reducible refine (C5.out _ (Hr.out.ext (HX.out.trans HX6.out))).mono ?_); rintro e W7 ⟨rfl, hx⟩; clear a0 a1; have HX7 := Lib.hid (HX6.out.trans hx); clear hx))
    go_ret
    first
      | exact ⟨rfl, HX.out.trans HX7.out⟩
      | exact ⟨rfl, HX.out.trans HX5.out⟩
      | exact ⟨rfl, HX.out.trans HX3.out⟩
      | exact ⟨rfl, HX.out.trans HX2.out⟩
  have hc1 : (cl.size : Int) ≤ 1000 := by omega
  clear hb
  by_cases hb : 4611686018427387904 < now
  · obtain ⟨nl, hnl⟩ : ∃ nl, l.length = nl := ⟨_, rfl⟩
    rw [hnl] at CM C1 C2 C4 C5 HA HX Hr ⊢
    clear hnl hmk ha hn1 hn2
    go_enter Try.func7, Try.ntmps7
    go_wp2_with (first
      | ((with_reducible refine (CL.out _).mono ?_); rintro e W1 ⟨rfl, hx⟩; have HX1 := Lib.hid hx; obtain ⟨a0, a1, _, _⟩ := cells_of (HX1.out.keeps.heap HA.out trivial); clear hx)
      | ((with_reducible refine (CM.out _).mono ?_); rintro e W2 ⟨rfl, hx⟩; clear a0 a1; have HX2 := Lib.hid (HX1.out.trans hx); obtain ⟨a0, a1, _, _⟩ := cells_of (HX2.out.keeps.heap HA.out trivial); clear hx)
      | ((with_reducible refine (C1.out _ (Hr.out.ext (HX.out.trans HX2.out))).mono ?_); rintro e W3 ⟨rfl, hx⟩; clear a0 a1; have HX3 := Lib.hid (HX2.out.trans hx); obtain ⟨a0, a1, _, _⟩ := cells_of (HX3.out.keeps.heap HA.out trivial); clear hx)
      | ((with_reducible refine (C2.out _ (Hr.out.ext (HX.out.trans HX3.out))).mono ?_); rintro e W4 ⟨rfl, hx⟩; clear a0 a1; have HX4 := Lib.hid (HX3.out.trans hx); clear hx)
      | ((with_reducible refine (C3.out _).mono ?_); rintro e W5 ⟨rfl, hx⟩; have HB := Lib.hid (World.alloc_heap_new W5 (.cells #[.string ⟨#[]⟩, .string ⟨#[]⟩] 50)); have HX5 := Lib.hid ((HX4.out.trans hx).alloc (.cells #[.string ⟨#[]⟩, .string ⟨#[]⟩] 50)); obtain ⟨a0, a1, _, _⟩ := cells_of (HX5.out.keeps.heap HA.out trivial); clear hx)
      | ((with_reducible refine (C4.out _ (Hr.out.ext (HX.out.trans HX5.out))).mono ?_); rintro e W6 ⟨rfl, hx⟩; clear a0 a1; have HX6 := Lib.hid (HX5.out.trans hx); obtain ⟨a0, a1, _, _⟩ := cells_of (HX6.out.keeps.heap HA.out trivial); clear hx)
      | ((with_reducible refine (C5.out _ (Hr.out.ext (HX.out.trans HX6.out))).mono ?_); rintro e W7 ⟨rfl, hx⟩; clear a0 a1; have HX7 := Lib.hid (HX6.out.trans hx); clear hx))
    go_ret
    first
      | exact ⟨rfl, HX.out.trans HX7.out⟩
      | exact ⟨rfl, HX.out.trans HX5.out⟩
      | exact ⟨rfl, HX.out.trans HX3.out⟩
      | exact ⟨rfl, HX.out.trans HX2.out⟩
  have hb1 : now ≤ 4611686018427387904 := by omega
  clear hb
  by_cases hb : now < -4611686018427387904
  · obtain ⟨nl, hnl⟩ : ∃ nl, l.length = nl := ⟨_, rfl⟩
    rw [hnl] at CM C1 C2 C4 C5 HA HX Hr ⊢
    clear hnl hmk ha hn1 hn2
    go_enter Try.func7, Try.ntmps7
    go_wp2_with (first
      | ((with_reducible refine (CL.out _).mono ?_); rintro e W1 ⟨rfl, hx⟩; have HX1 := Lib.hid hx; obtain ⟨a0, a1, _, _⟩ := cells_of (HX1.out.keeps.heap HA.out trivial); clear hx)
      | ((with_reducible refine (CM.out _).mono ?_); rintro e W2 ⟨rfl, hx⟩; clear a0 a1; have HX2 := Lib.hid (HX1.out.trans hx); obtain ⟨a0, a1, _, _⟩ := cells_of (HX2.out.keeps.heap HA.out trivial); clear hx)
      | ((with_reducible refine (C1.out _ (Hr.out.ext (HX.out.trans HX2.out))).mono ?_); rintro e W3 ⟨rfl, hx⟩; clear a0 a1; have HX3 := Lib.hid (HX2.out.trans hx); obtain ⟨a0, a1, _, _⟩ := cells_of (HX3.out.keeps.heap HA.out trivial); clear hx)
      | ((with_reducible refine (C2.out _ (Hr.out.ext (HX.out.trans HX3.out))).mono ?_); rintro e W4 ⟨rfl, hx⟩; clear a0 a1; have HX4 := Lib.hid (HX3.out.trans hx); clear hx)
      | ((with_reducible refine (C3.out _).mono ?_); rintro e W5 ⟨rfl, hx⟩; have HB := Lib.hid (World.alloc_heap_new W5 (.cells #[.string ⟨#[]⟩, .string ⟨#[]⟩] 50)); have HX5 := Lib.hid ((HX4.out.trans hx).alloc (.cells #[.string ⟨#[]⟩, .string ⟨#[]⟩] 50)); obtain ⟨a0, a1, _, _⟩ := cells_of (HX5.out.keeps.heap HA.out trivial); clear hx)
      | ((with_reducible refine (C4.out _ (Hr.out.ext (HX.out.trans HX5.out))).mono ?_); rintro e W6 ⟨rfl, hx⟩; clear a0 a1; have HX6 := Lib.hid (HX5.out.trans hx); obtain ⟨a0, a1, _, _⟩ := cells_of (HX6.out.keeps.heap HA.out trivial); clear hx)
      | ((with_reducible refine (C5.out _ (Hr.out.ext (HX.out.trans HX6.out))).mono ?_); rintro e W7 ⟨rfl, hx⟩; clear a0 a1; have HX7 := Lib.hid (HX6.out.trans hx); clear hx))
    go_ret
    first
      | exact ⟨rfl, HX.out.trans HX7.out⟩
      | exact ⟨rfl, HX.out.trans HX5.out⟩
      | exact ⟨rfl, HX.out.trans HX3.out⟩
      | exact ⟨rfl, HX.out.trans HX2.out⟩
  have hb2 : -4611686018427387904 ≤ now := by omega
  clear hb
  by_cases hw : why = 0
  · subst hw
    have hw1 : IntKind.i64.wrap (now + n) = now + n := IntWalk.i64_in _ (by omega)
    have hv1 := ver_then (k1 := k) (k2 := ⟨#[]⟩) hn1 hn2 hmk
    obtain ⟨h8, hcc⟩ := make_ok hmk
    rw [(made_of (ofS_lt now) hcc).2.2.2.2] at hv1
    simp only [if_true] at hv1
    have C2 := Lib.hid (C2.out c)
    have C4 := Lib.hid (C4.out c)
    rw [hv1] at C2
    by_cases haf : af.size = 16
    · obtain ⟨x, hx, hv2⟩ := back_facts hn1 hn2 hmk haf
      rw [hx] at C5
      rw [hv2] at C4
      have hro : rollV k af = (af, k, 0) := by unfold rollV; rw [if_pos haf]
      rw [hro] at C3
      obtain ⟨ra, hra⟩ : ∃ y, af = y := ⟨_, rfl⟩
      obtain ⟨rb, hrb⟩ : ∃ y, k = y := ⟨_, rfl⟩
      obtain ⟨nl, hnl⟩ : ∃ nl, l.length = nl := ⟨_, rfl⟩
      rw [hnl] at CM C1 C2 C4 C5 HA HX Hr ⊢
      simp only at C3 C5
      obtain ⟨q, hq⟩ : ∃ q, (x.toList == c.toList) = q := ⟨_, rfl⟩
      rw [hq] at C4
      have hr1 : -300 ≤ n ∧ n ≤ 3600 ∨ (n < -300 ∨ 3600 < n) := by omega
      clear hnl hmk ha hv1 hv2 hcc h8 hx hro haf
      subst hra hrb
      rcases hr1 with ⟨g1, g2⟩ | g
      · rw [if_pos ⟨g1, g2⟩] at C2 C4
        clear hn1 hn2
        by_cases g3 : 1800 < n
        · rw [decide_eq_true g3] at C2 C4
          rw [show (if q = true then ((true, 0) : Bool × Int) else (true, 0)) = (true, 0) by cases q <;> rfl] at C4
          simp only at C2 C4
          go_enter Try.func7, Try.ntmps7
          go_wp2_with (first
            | ((with_reducible refine (CL.out _).mono ?_); rintro e W1 ⟨rfl, hx⟩; have HX1 := Lib.hid hx; obtain ⟨a0, a1, _, _⟩ := cells_of (HX1.out.keeps.heap HA.out trivial); clear hx)
            | ((with_reducible refine (CM.out _).mono ?_); rintro e W2 ⟨rfl, hx⟩; clear a0 a1; have HX2 := Lib.hid (HX1.out.trans hx); obtain ⟨a0, a1, _, _⟩ := cells_of (HX2.out.keeps.heap HA.out trivial); clear hx)
            | ((with_reducible refine (C1.out _ (Hr.out.ext (HX.out.trans HX2.out))).mono ?_); rintro e W3 ⟨rfl, hx⟩; clear a0 a1; have HX3 := Lib.hid (HX2.out.trans hx); obtain ⟨a0, a1, _, _⟩ := cells_of (HX3.out.keeps.heap HA.out trivial); clear hx)
            | ((with_reducible refine (C2.out _ (Hr.out.ext (HX.out.trans HX3.out))).mono ?_); rintro e W4 ⟨rfl, hx⟩; clear a0 a1; have HX4 := Lib.hid (HX3.out.trans hx); clear hx)
            | ((with_reducible refine (C3.out _).mono ?_); rintro e W5 ⟨rfl, hx⟩; have HB := Lib.hid (World.alloc_heap_new W5 (.cells #[.string af, .string k] 50)); have HX5 := Lib.hid ((HX4.out.trans hx).alloc (.cells #[.string af, .string k] 50)); obtain ⟨a0, a1, _, _⟩ := cells_of (HX5.out.keeps.heap HA.out trivial); clear hx)
            | ((with_reducible refine (C4.out _ (Hr.out.ext (HX.out.trans HX5.out))).mono ?_); rintro e W6 ⟨rfl, hx⟩; clear a0 a1; have HX6 := Lib.hid (HX5.out.trans hx); obtain ⟨a0, a1, _, _⟩ := cells_of (HX6.out.keeps.heap HA.out trivial); clear hx)
            | ((with_reducible refine (C5.out _ (Hr.out.ext (HX.out.trans HX6.out))).mono ?_); rintro e W7 ⟨rfl, hx⟩; clear a0 a1; have HX7 := Lib.hid (HX6.out.trans hx); clear hx))
          go_ret
          first
            | exact ⟨rfl, HX.out.trans HX7.out⟩
            | exact ⟨rfl, HX.out.trans HX5.out⟩
            | exact ⟨rfl, HX.out.trans HX3.out⟩
            | exact ⟨rfl, HX.out.trans HX2.out⟩
        · rw [decide_eq_false g3] at C2 C4
          have g4 : decide (1800 < n) = false := decide_eq_false g3
          have g6 : n ≤ 1800 := by omega
          clear g3
          cases q
          all_goals
            simp only [if_true, Bool.false_eq_true, if_false] at C2 C4
            go_enter Try.func7, Try.ntmps7
            go_wp2_with (first
              | ((with_reducible refine (CL.out _).mono ?_); rintro e W1 ⟨rfl, hx⟩; have HX1 := Lib.hid hx; obtain ⟨a0, a1, _, _⟩ := cells_of (HX1.out.keeps.heap HA.out trivial); clear hx)
              | ((with_reducible refine (CM.out _).mono ?_); rintro e W2 ⟨rfl, hx⟩; clear a0 a1; have HX2 := Lib.hid (HX1.out.trans hx); obtain ⟨a0, a1, _, _⟩ := cells_of (HX2.out.keeps.heap HA.out trivial); clear hx)
              | ((with_reducible refine (C1.out _ (Hr.out.ext (HX.out.trans HX2.out))).mono ?_); rintro e W3 ⟨rfl, hx⟩; clear a0 a1; have HX3 := Lib.hid (HX2.out.trans hx); obtain ⟨a0, a1, _, _⟩ := cells_of (HX3.out.keeps.heap HA.out trivial); clear hx)
              | ((with_reducible refine (C2.out _ (Hr.out.ext (HX.out.trans HX3.out))).mono ?_); rintro e W4 ⟨rfl, hx⟩; clear a0 a1; have HX4 := Lib.hid (HX3.out.trans hx); clear hx)
              | ((with_reducible refine (C3.out _).mono ?_); rintro e W5 ⟨rfl, hx⟩; have HB := Lib.hid (World.alloc_heap_new W5 (.cells #[.string af, .string k] 50)); have HX5 := Lib.hid ((HX4.out.trans hx).alloc (.cells #[.string af, .string k] 50)); obtain ⟨a0, a1, _, _⟩ := cells_of (HX5.out.keeps.heap HA.out trivial); clear hx)
              | ((with_reducible refine (C4.out _ (Hr.out.ext (HX.out.trans HX5.out))).mono ?_); rintro e W6 ⟨rfl, hx⟩; clear a0 a1; have HX6 := Lib.hid (HX5.out.trans hx); obtain ⟨a0, a1, _, _⟩ := cells_of (HX6.out.keeps.heap HA.out trivial); clear hx)
              | ((with_reducible refine (C5.out _ (Hr.out.ext (HX.out.trans HX6.out))).mono ?_); rintro e W7 ⟨rfl, hx⟩; clear a0 a1; have HX7 := Lib.hid (HX6.out.trans hx); clear hx))
            go_ret
            first
              | exact ⟨rfl, HX.out.trans HX7.out⟩
              | exact ⟨rfl, HX.out.trans HX5.out⟩
              | exact ⟨rfl, HX.out.trans HX3.out⟩
              | exact ⟨rfl, HX.out.trans HX2.out⟩
      · rw [if_neg (by omega)] at C2 C4
        simp only at C2 C4
        rcases g with g | g
        case' inl => have g5 : decide (-300 ≤ n) = false := decide_eq_false (by omega)
        case' inr => have g5 : decide (-300 ≤ n) = true := decide_eq_true (by omega); have g6 : decide (n ≤ 3600) = false := decide_eq_false (by omega); have g7 : -300 ≤ n := by omega
        all_goals
          go_enter Try.func7, Try.ntmps7
          go_wp2_with (first
            | ((with_reducible refine (CL.out _).mono ?_); rintro e W1 ⟨rfl, hx⟩; have HX1 := Lib.hid hx; obtain ⟨a0, a1, _, _⟩ := cells_of (HX1.out.keeps.heap HA.out trivial); clear hx)
            | ((with_reducible refine (CM.out _).mono ?_); rintro e W2 ⟨rfl, hx⟩; clear a0 a1; have HX2 := Lib.hid (HX1.out.trans hx); obtain ⟨a0, a1, _, _⟩ := cells_of (HX2.out.keeps.heap HA.out trivial); clear hx)
            | ((with_reducible refine (C1.out _ (Hr.out.ext (HX.out.trans HX2.out))).mono ?_); rintro e W3 ⟨rfl, hx⟩; clear a0 a1; have HX3 := Lib.hid (HX2.out.trans hx); obtain ⟨a0, a1, _, _⟩ := cells_of (HX3.out.keeps.heap HA.out trivial); clear hx)
            | ((with_reducible refine (C2.out _ (Hr.out.ext (HX.out.trans HX3.out))).mono ?_); rintro e W4 ⟨rfl, hx⟩; clear a0 a1; have HX4 := Lib.hid (HX3.out.trans hx); clear hx)
            | ((with_reducible refine (C3.out _).mono ?_); rintro e W5 ⟨rfl, hx⟩; have HB := Lib.hid (World.alloc_heap_new W5 (.cells #[.string af, .string k] 50)); have HX5 := Lib.hid ((HX4.out.trans hx).alloc (.cells #[.string af, .string k] 50)); obtain ⟨a0, a1, _, _⟩ := cells_of (HX5.out.keeps.heap HA.out trivial); clear hx)
            | ((with_reducible refine (C4.out _ (Hr.out.ext (HX.out.trans HX5.out))).mono ?_); rintro e W6 ⟨rfl, hx⟩; clear a0 a1; have HX6 := Lib.hid (HX5.out.trans hx); obtain ⟨a0, a1, _, _⟩ := cells_of (HX6.out.keeps.heap HA.out trivial); clear hx)
            | ((with_reducible refine (C5.out _ (Hr.out.ext (HX.out.trans HX6.out))).mono ?_); rintro e W7 ⟨rfl, hx⟩; clear a0 a1; have HX7 := Lib.hid (HX6.out.trans hx); clear hx))
          go_ret
          first
            | exact ⟨rfl, HX.out.trans HX7.out⟩
            | exact ⟨rfl, HX.out.trans HX5.out⟩
            | exact ⟨rfl, HX.out.trans HX3.out⟩
            | exact ⟨rfl, HX.out.trans HX2.out⟩
    · have hro : rollV k af = (⟨#[]⟩, ⟨#[]⟩, 2) := by unfold rollV; rw [if_neg haf]
      rw [hro] at C3
      simp only at C3
      have hafi : ((af.size : Int) != 16) = true := by simp only [bne_iff_ne, ne_eq]; omega
      obtain ⟨nl, hnl⟩ : ∃ nl, l.length = nl := ⟨_, rfl⟩
      rw [hnl] at CM C1 C2 C4 C5 HA HX Hr ⊢
      have hr1 : -300 ≤ n ∧ n ≤ 3600 ∨ (n < -300 ∨ 3600 < n) := by omega
      clear hnl hmk ha hv1 hcc h8 hro haf
      rcases hr1 with ⟨g1, g2⟩ | g
      · rw [if_pos ⟨g1, g2⟩] at C2
        clear hn1 hn2
        simp only at C2
        go_enter Try.func7, Try.ntmps7
        go_wp2_with (first
          | ((with_reducible refine (CL.out _).mono ?_); rintro e W1 ⟨rfl, hx⟩; have HX1 := Lib.hid hx; obtain ⟨a0, a1, _, _⟩ := cells_of (HX1.out.keeps.heap HA.out trivial); clear hx)
          | ((with_reducible refine (CM.out _).mono ?_); rintro e W2 ⟨rfl, hx⟩; clear a0 a1; have HX2 := Lib.hid (HX1.out.trans hx); obtain ⟨a0, a1, _, _⟩ := cells_of (HX2.out.keeps.heap HA.out trivial); clear hx)
          | ((with_reducible refine (C1.out _ (Hr.out.ext (HX.out.trans HX2.out))).mono ?_); rintro e W3 ⟨rfl, hx⟩; clear a0 a1; have HX3 := Lib.hid (HX2.out.trans hx); obtain ⟨a0, a1, _, _⟩ := cells_of (HX3.out.keeps.heap HA.out trivial); clear hx)
          | ((with_reducible refine (C2.out _ (Hr.out.ext (HX.out.trans HX3.out))).mono ?_); rintro e W4 ⟨rfl, hx⟩; clear a0 a1; have HX4 := Lib.hid (HX3.out.trans hx); clear hx)
          | ((with_reducible refine (C3.out _).mono ?_); rintro e W5 ⟨rfl, hx⟩; have HB := Lib.hid (World.alloc_heap_new W5 (.cells #[.string ⟨#[]⟩, .string ⟨#[]⟩] 50)); have HX5 := Lib.hid ((HX4.out.trans hx).alloc (.cells #[.string ⟨#[]⟩, .string ⟨#[]⟩] 50)); obtain ⟨a0, a1, _, _⟩ := cells_of (HX5.out.keeps.heap HA.out trivial); clear hx)
          | ((with_reducible refine (C4.out _ (Hr.out.ext (HX.out.trans HX5.out))).mono ?_); rintro e W6 ⟨rfl, hx⟩; clear a0 a1; have HX6 := Lib.hid (HX5.out.trans hx); obtain ⟨a0, a1, _, _⟩ := cells_of (HX6.out.keeps.heap HA.out trivial); clear hx)
          | ((with_reducible refine (C5.out _ (Hr.out.ext (HX.out.trans HX6.out))).mono ?_); rintro e W7 ⟨rfl, hx⟩; clear a0 a1; have HX7 := Lib.hid (HX6.out.trans hx); clear hx))
        go_ret
        first
          | exact ⟨rfl, HX.out.trans HX7.out⟩
          | exact ⟨rfl, HX.out.trans HX5.out⟩
          | exact ⟨rfl, HX.out.trans HX3.out⟩
          | exact ⟨rfl, HX.out.trans HX2.out⟩
      · rw [if_neg (by omega)] at C2
        simp only at C2
        rcases g with g | g
        case' inl => have g5 : decide (-300 ≤ n) = false := decide_eq_false (by omega)
        case' inr => have g5 : decide (-300 ≤ n) = true := decide_eq_true (by omega); have g6 : decide (n ≤ 3600) = false := decide_eq_false (by omega); have g7 : -300 ≤ n := by omega
        all_goals
          go_enter Try.func7, Try.ntmps7
          go_wp2_with (first
            | ((with_reducible refine (CL.out _).mono ?_); rintro e W1 ⟨rfl, hx⟩; have HX1 := Lib.hid hx; obtain ⟨a0, a1, _, _⟩ := cells_of (HX1.out.keeps.heap HA.out trivial); clear hx)
            | ((with_reducible refine (CM.out _).mono ?_); rintro e W2 ⟨rfl, hx⟩; clear a0 a1; have HX2 := Lib.hid (HX1.out.trans hx); obtain ⟨a0, a1, _, _⟩ := cells_of (HX2.out.keeps.heap HA.out trivial); clear hx)
            | ((with_reducible refine (C1.out _ (Hr.out.ext (HX.out.trans HX2.out))).mono ?_); rintro e W3 ⟨rfl, hx⟩; clear a0 a1; have HX3 := Lib.hid (HX2.out.trans hx); obtain ⟨a0, a1, _, _⟩ := cells_of (HX3.out.keeps.heap HA.out trivial); clear hx)
            | ((with_reducible refine (C2.out _ (Hr.out.ext (HX.out.trans HX3.out))).mono ?_); rintro e W4 ⟨rfl, hx⟩; clear a0 a1; have HX4 := Lib.hid (HX3.out.trans hx); clear hx)
            | ((with_reducible refine (C3.out _).mono ?_); rintro e W5 ⟨rfl, hx⟩; have HB := Lib.hid (World.alloc_heap_new W5 (.cells #[.string ⟨#[]⟩, .string ⟨#[]⟩] 50)); have HX5 := Lib.hid ((HX4.out.trans hx).alloc (.cells #[.string ⟨#[]⟩, .string ⟨#[]⟩] 50)); obtain ⟨a0, a1, _, _⟩ := cells_of (HX5.out.keeps.heap HA.out trivial); clear hx)
            | ((with_reducible refine (C4.out _ (Hr.out.ext (HX.out.trans HX5.out))).mono ?_); rintro e W6 ⟨rfl, hx⟩; clear a0 a1; have HX6 := Lib.hid (HX5.out.trans hx); obtain ⟨a0, a1, _, _⟩ := cells_of (HX6.out.keeps.heap HA.out trivial); clear hx)
            | ((with_reducible refine (C5.out _ (Hr.out.ext (HX.out.trans HX6.out))).mono ?_); rintro e W7 ⟨rfl, hx⟩; clear a0 a1; have HX7 := Lib.hid (HX6.out.trans hx); clear hx))
          go_ret
          first
            | exact ⟨rfl, HX.out.trans HX7.out⟩
            | exact ⟨rfl, HX.out.trans HX5.out⟩
            | exact ⟨rfl, HX.out.trans HX3.out⟩
            | exact ⟨rfl, HX.out.trans HX2.out⟩
  · obtain rfl := make_err hmk hw
    have hwi : (why != 0) = true := by simpa using hw
    obtain ⟨nl, hnl⟩ : ∃ nl, l.length = nl := ⟨_, rfl⟩
    rw [hnl] at CM C1 C2 C4 C5 HA HX Hr ⊢
    clear hnl hmk ha hn1 hn2 hw
    go_enter Try.func7, Try.ntmps7
    go_wp2_with (first
      | ((with_reducible refine (CL.out _).mono ?_); rintro e W1 ⟨rfl, hx⟩; have HX1 := Lib.hid hx; obtain ⟨a0, a1, _, _⟩ := cells_of (HX1.out.keeps.heap HA.out trivial); clear hx)
      | ((with_reducible refine (CM.out _).mono ?_); rintro e W2 ⟨rfl, hx⟩; clear a0 a1; have HX2 := Lib.hid (HX1.out.trans hx); obtain ⟨a0, a1, _, _⟩ := cells_of (HX2.out.keeps.heap HA.out trivial); clear hx)
      | ((with_reducible refine (C1.out _ (Hr.out.ext (HX.out.trans HX2.out))).mono ?_); rintro e W3 ⟨rfl, hx⟩; clear a0 a1; have HX3 := Lib.hid (HX2.out.trans hx); obtain ⟨a0, a1, _, _⟩ := cells_of (HX3.out.keeps.heap HA.out trivial); clear hx)
      | ((with_reducible refine (C2.out _ (Hr.out.ext (HX.out.trans HX3.out))).mono ?_); rintro e W4 ⟨rfl, hx⟩; clear a0 a1; have HX4 := Lib.hid (HX3.out.trans hx); clear hx)
      | ((with_reducible refine (C3.out _).mono ?_); rintro e W5 ⟨rfl, hx⟩; have HB := Lib.hid (World.alloc_heap_new W5 (.cells #[.string ⟨#[]⟩, .string ⟨#[]⟩] 50)); have HX5 := Lib.hid ((HX4.out.trans hx).alloc (.cells #[.string ⟨#[]⟩, .string ⟨#[]⟩] 50)); obtain ⟨a0, a1, _, _⟩ := cells_of (HX5.out.keeps.heap HA.out trivial); clear hx)
      | ((with_reducible refine (C4.out _ (Hr.out.ext (HX.out.trans HX5.out))).mono ?_); rintro e W6 ⟨rfl, hx⟩; clear a0 a1; have HX6 := Lib.hid (HX5.out.trans hx); obtain ⟨a0, a1, _, _⟩ := cells_of (HX6.out.keeps.heap HA.out trivial); clear hx)
      | ((with_reducible refine (C5.out _ (Hr.out.ext (HX.out.trans HX6.out))).mono ?_); rintro e W7 ⟨rfl, hx⟩; clear a0 a1; have HX7 := Lib.hid (HX6.out.trans hx); clear hx))
    go_ret
    first
      | exact ⟨rfl, HX.out.trans HX7.out⟩
      | exact ⟨rfl, HX.out.trans HX5.out⟩
      | exact ⟨rfl, HX.out.trans HX3.out⟩
      | exact ⟨rfl, HX.out.trans HX2.out⟩

theorem giveBack_args (o : Bool) (v : Value) (l : List SumC) (k cl af : ByteArray) (a now n : Int) (w : World) (hr : SRow w v 3 (l.map SumC.cells)) (_ : ∀ x ∈ l, x.fit) (_ : k.size ≤ maxLen) (_ : cl.size ≤ maxLen) (_ : af.size ≤ maxLen) (ha : (Lit.int .u32 a).wf = true) (_ : (Lit.int .i64 now).wf = true) (hn : (Lit.int .i32 n).wf = true) :
    Calls Try.prog 7 #[.agg #[.bool o, v], .string k, .string cl, .string af, .int .u32 a, .int .i64 now, .int .i32 n] w fun e w' => e = .returned (.bool true) ∧ Ext w w' := by
  obtain ⟨m, rfl, hm⟩ := wf_nat32 ha
  have h2 : -2147483648 ≤ n ∧ n ≤ 2147483647 := by
    have e1 : IntKind.i32.min = -2147483648 := rfl
    have e2 : IntKind.i32.max = 2147483647 := rfl
    simp [Lit.wf] at hn
    omega
  exact giveBack_walk l v o k cl af m now n w hr hm h2.1 h2.2
end Go.Proofs.Ytjnaknfnoibncaa
