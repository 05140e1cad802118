/- Which cookies are verified by the document's answer (hardtackref12); how secrets roll over. Conditions: numbers of their kinds. -/
import Derived.Test.YtjnaknfnoibncaaGiveB
import Derived.Laws.BitsAllLaws
import Derived.Deep.QuietTactic
import Derived.BigQuiet
namespace Go.Proofs.Ytjnaknfnoibncaa
open Go Go.RowKit Go.Shelf
attribute [local go_sem] Oper.semAt_some wide_fn wide_depth

theorem ofNat_eq {b : UInt8} {n : Nat} (h : n % 256 = b.toNat) : UInt8.ofNat (n % 256) = b := by
  rw [h]; simp
theorem beN4 (a b c d : UInt8) : beN [a, b, c, d] = ((a.toNat * 256 + b.toNat) * 256 + c.toNat) * 256 + d.toNat := by
  show (((0 * 256 + a.toNat) * 256 + b.toNat) * 256 + c.toNat) * 256 + d.toNat = _
  omega
theorem be4_beN {l : List UInt8} (h : l.length = 4) : be4 (beN l) = l := by
  match l, h with
  | [a, b, c, d], _ =>
    have ha : a.toNat < 256 := a.toNat_lt
    have hb : b.toNat < 256 := b.toNat_lt
    have hc : c.toNat < 256 := c.toNat_lt
    have hd : d.toNat < 256 := d.toNat_lt
    have e : beN [a, b, c, d] = ((a.toNat * 256 + b.toNat) * 256 + c.toNat) * 256 + d.toNat := by
      show (((0 * 256 + a.toNat) * 256 + b.toNat) * 256 + c.toNat) * 256 + d.toNat = _
      omega
    rw [e]
    unfold be4 byB
    rw [ofNat_eq (b := a) (by omega), ofNat_eq (b := b) (by omega), ofNat_eq (b := c) (by omega), ofNat_eq (b := d) (by omega)]
theorem or4 (a b c d : Nat) (ha : a < 256) (hb : b < 256) (hc : c < 256) (hd : d < 256) :
    bits .or .u32 (bits .or .u32 (bits .or .u32 ((a : Int) % 4294967296 * 16777216 % 4294967296) ((b : Int) % 4294967296 * 65536 % 4294967296)) ((c : Int) % 4294967296 * 256 % 4294967296)) ((d : Int) % 4294967296) = ((((a * 256 + b) * 256 + c) * 256 + d : Nat) : Int) := by
  have e1 : (a : Int) % 4294967296 * 16777216 % 4294967296 = ((2 ^ 24 * a : Nat) : Int) := by omega
  have e2 : (b : Int) % 4294967296 * 65536 % 4294967296 = ((b * 65536 : Nat) : Int) := by omega
  have e3 : (c : Int) % 4294967296 * 256 % 4294967296 = ((c * 256 : Nat) : Int) := by omega
  have e4 : (d : Int) % 4294967296 = ((d : Nat) : Int) := by omega
  rw [e1, e2, e3, e4, u32_or_nat _ _ (by omega) (by omega), ← Nat.two_pow_add_eq_or_of_lt (show b * 65536 < 2 ^ 24 by omega) a,
    u32_or_nat _ _ (by omega) (by omega), show 2 ^ 24 * a + b * 65536 = 2 ^ 16 * (a * 256 + b) by omega, ← Nat.two_pow_add_eq_or_of_lt (show c * 256 < 2 ^ 16 by omega),
    u32_or_nat _ _ (by omega) (by omega), show 2 ^ 16 * (a * 256 + b) + c * 256 = 2 ^ 8 * ((a * 256 + b) * 256 + c) by omega, ← Nat.two_pow_add_eq_or_of_lt (show d < 2 ^ 8 by omega)]
  omega
theorem headT_back {sv : ByteArray} (h : sv.size = 16) (hp : beginsB sv = true) : headT (stampN sv) = sv.extract 0 8 := by
  refine bl_inj ?_
  unfold headT stampN
  rw [bl_mk, bl_extract, List.drop_zero, be4_beN (by rw [List.length_take, List.length_drop, bl_size]; omega)]
  unfold beginsB at hp
  rw [← of_decide_eq_true hp, ← List.take_add]

set_option maxRecDepth 100000 in
set_option maxHeartbeats 8000000 in
theorem RVerify_any (l : List SumC) (v : Value) (o : Bool) (sn sw c sv : ByteArray) (n : Nat) (now : Int) (w : World) (hr : SRow w v 3 (l.map SumC.cells)) (hf : ∀ x ∈ l, x.fit) (hn : n < 4294967296) :
    Calls Try.prog 27 #[.agg #[.bool o, v], .agg #[.string sn, .string sw], .string c, .string sv, .int .u32 (n : Int), .int .i64 now] w fun e w' => e = .returned (.tuple #[.bool (verV o l sn sw c sv n now).1, .int .i64 (verV o l sn sw c sv n now).2]) ∧ Ext w w' := by
  have Hr := Lib.hid hr
  obtain ⟨ao, m, ac, rfl⟩ := hr.slice
  clear hr
  have hv := ver_cases o l sn sw c sv n now
  obtain ⟨⟨rb, re⟩, hre⟩ : ∃ y, verV o l sn sw c sv n now = y := ⟨_, rfl⟩
  rw [hre] at hv ⊢
  clear hre
  have hb0 : beginsB sv = ((sv.extract 0 4).toList == [1, 0, 0, 0]) := by
    unfold beginsB
    rw [toList_bl, bl_extract, List.drop_zero, Bool.eq_iff_iff, decide_eq_true_eq, beq_iff_eq]
  have hsl := stampN_lt sv
  have C3 : Hid (c.size = 8 → sv.size = 16 → beginsB sv = true → ∀ W, SRow W (.slice ao m ac) 3 (l.map SumC.cells) → Calls Try.prog 55 #[.agg #[.bool o, .slice ao m ac], .string sn, .string c, .int .u32 (n : Int), .int .u32 (stampN sv : Int)] W fun e w' => e = .returned (.tuple #[.string (cookV o l sn (giveT c (sv.extract 0 8) n) (sv.extract 0 8)).1, .int .i64 (cookV o l sn (giveT c (sv.extract 0 8) n) (sv.extract 0 8)).2]) ∧ Ext W w') :=
    Lib.hid fun h1 h2 h3 W h => by rw [← headT_back h2 h3]; exact Rof_any l (.slice ao m ac) o sn c n (stampN sv) W h hf (by omega) hn hsl
  have C5 : Hid (c.size = 8 → sv.size = 16 → beginsB sv = true → ∀ W, SRow W (.slice ao m ac) 3 (l.map SumC.cells) → Calls Try.prog 55 #[.agg #[.bool o, .slice ao m ac], .string sw, .string c, .int .u32 (n : Int), .int .u32 (stampN sv : Int)] W fun e w' => e = .returned (.tuple #[.string (cookV o l sw (giveT c (sv.extract 0 8) n) (sv.extract 0 8)).1, .int .i64 (cookV o l sw (giveT c (sv.extract 0 8) n) (sv.extract 0 8)).2]) ∧ Ext W w') :=
    Lib.hid fun h1 h2 h3 W h => by rw [← headT_back h2 h3]; exact Rof_any l (.slice ao m ac) o sw c n (stampN sv) W h hf (by omega) hn hsl
  obtain ⟨p1, q1, e1, k1⟩ := made_cases o l sn c sv n
  obtain ⟨p2, q2, e2, k2⟩ := made_cases o l sw c sv n
  rw [e1] at C3
  rw [e2] at C5
  clear e1 e2
  simp only at C3 C5
  have C2 := Lib.hid fun W => RFresh_any now (stampN sv) W ⟨by omega, by omega⟩
  have C4 := Lib.hid fun W => RRenew_any now (stampN sv) W ⟨by omega, by omega⟩
  have he := empty_iff sv
  have hst4 : (h : sv.size = 16) → bits .or .u32 (bits .or .u32 (bits .or .u32 (((sv[4]'(by omega)).toNat : Int) % 4294967296 * 16777216 % 4294967296) (((sv[5]'(by omega)).toNat : Int) % 4294967296 * 65536 % 4294967296)) (((sv[6]'(by omega)).toNat : Int) % 4294967296 * 256 % 4294967296)) (((sv[7]'(by omega)).toNat : Int) % 4294967296) = (stampN sv : Int) := fun h => by
    rw [or4 _ _ _ _ (UInt8.toNat_lt _) (UInt8.toNat_lt _) (UInt8.toNat_lt _) (UInt8.toNat_lt _)]
    have hl : (bl sv).length = 16 := by rw [bl_size]; exact h
    have e : ((bl sv).drop 4).take 4 = [sv[4]'(by omega), sv[5]'(by omega), sv[6]'(by omega), sv[7]'(by omega)] := by
      refine List.ext_getElem? fun i => ?_
      rw [List.getElem?_take]
      split
      · rw [List.getElem?_drop]
        match i, (by assumption : i < 4) with
        | 0, _ => exact List.getElem?_eq_getElem (by omega)
        | 1, _ => exact List.getElem?_eq_getElem (by omega)
        | 2, _ => exact List.getElem?_eq_getElem (by omega)
        | 3, _ => exact List.getElem?_eq_getElem (by omega)
      · rw [List.getElem?_eq_none]; simp; omega
    unfold stampN
    rw [e, beN4]
  obtain ⟨st, hst⟩ : ∃ y, stampN sv = y := ⟨_, rfl⟩
  obtain ⟨fr, hfr⟩ : ∃ y, freshS now st = y := ⟨_, rfl⟩
  obtain ⟨rn, hrn⟩ : ∃ y, renewS now st = y := ⟨_, rfl⟩
  obtain ⟨pr, hpr⟩ : ∃ y, beginsB sv = y := ⟨_, rfl⟩
  obtain ⟨b1, hb1⟩ : ∃ y, madeB o l sn c sv n = y := ⟨_, rfl⟩
  obtain ⟨b2, hb2⟩ : ∃ y, madeB o l sw c sv n = y := ⟨_, rfl⟩
  rw [hst, hfr, hrn, hpr, hb1, hb2] at hv
  rw [hst] at C2 C4 hst4 hsl
  rw [hst, hpr] at C3 C5
  rw [hpr] at hb0
  rw [hb1] at k1
  rw [hb2] at k2
  rw [hfr] at C2
  rw [hrn] at C4
  clear hst hfr hrn hpr hb1 hb2
  obtain ⟨w1, h1⟩ : ∃ w1, (w.alloc (.cells #[.bool o, .slice ao m ac] 24)).alloc (.cells #[.string sn, .string sw] 50) = w1 := ⟨_, rfl⟩
  have X1 : Ext w w1 := by rw [← h1]; exact ((Ext.refl w).alloc _).alloc _
  have hz : (w.alloc (.cells #[.bool o, .slice ao m ac] 24)).heap.size = w.heap.size + 1 := by simp
  have hA : w1.heap[w.heap.size]? = some (.cells #[.bool o, .slice ao m ac] 24 (0, 0)) := by
    rw [← h1]
    exact ((Keeps.refl (fun _ => True) _).alloc _).heap (World.alloc_heap_new w _) trivial
  have hB : w1.heap[w.heap.size + 1]? = some (.cells #[.string sn, .string sw] 50 (0, 0)) := by
    rw [← h1, ← hz]
    exact World.alloc_heap_new _ _
  have TW : Hid (∀ W, Ext w1 W → (W.cell? ⟨w.heap.size, 0, none⟩ = some (.bool o) ∧ W.cell? ⟨w.heap.size, 1, none⟩ = some (.slice ao m ac)) ∧ W.cell? ⟨w.heap.size + 1, 0, none⟩ = some (.string sn) ∧ W.cell? ⟨w.heap.size + 1, 1, none⟩ = some (.string sw)) := Lib.hid fun W hx => by
    obtain ⟨g0, g1, _, _⟩ := cells_of (hx.keeps.heap hA trivial)
    obtain ⟨g2, g3, _, _⟩ := cells_of (hx.keeps.heap hB trivial)
    exact ⟨⟨g0, g1⟩, g2, g3⟩
  have HX := Lib.hid X1
  clear hA hB hz X1
  subst h1
  rcases hv with ⟨h1, h2⟩ | ⟨h1, h2, h3⟩ | ⟨h1, h2, h3, h4⟩ | ⟨h1, h2, rfl, h4⟩ | ⟨h1, h2, rfl, hv⟩
  · simp only [Prod.mk.injEq] at h2
    obtain ⟨rfl, rfl⟩ := h2
    have h1i : ((c.size : Int) != 8) = true := by simp only [bne_iff_ne, ne_eq]; omega
    clear h1 he C2 C3 C4 C5 k1 k2 hb0 hst4 hsl
    go_enter Try.func27, Try.ntmps27
    go_wp2_with fail
    go_ret2
    exact ⟨rfl, HX.out⟩
  · simp only [Prod.mk.injEq] at h3
    obtain ⟨rfl, rfl⟩ := h3
    have h1i : (c.size : Int) = 8 := by omega
    have h2i := he.2 h2
    clear h1 he h2 C2 C3 C4 C5 k1 k2 hb0 hst4 hsl
    go_enter Try.func27, Try.ntmps27
    go_wp2_with fail
    go_ret2
    exact ⟨rfl, HX.out⟩
  · simp only [Prod.mk.injEq] at h4
    obtain ⟨rfl, rfl⟩ := h4
    have h1i : (c.size : Int) = 8 := by omega
    have h2i : sv.toList.isEmpty = false := by rw [Bool.eq_false_iff, ne_eq, List.isEmpty_iff]; exact fun h => h2 (he.1 h)
    have h3i : ((sv.size : Int) != 16) = true := by simp only [bne_iff_ne, ne_eq]; omega
    clear h1 he h2 h3 C2 C3 C4 C5 k1 k2 hb0 hst4 hsl
    go_enter Try.func27, Try.ntmps27
    go_wp2_with fail
    go_ret2
    exact ⟨rfl, HX.out⟩
  · simp only [Prod.mk.injEq] at h4
    obtain ⟨rfl, rfl⟩ := h4
    have h1i : (c.size : Int) = 8 := by omega
    have h2i : sv.toList.isEmpty = false := by rw [Bool.eq_false_iff, ne_eq, List.isEmpty_iff]; exact fun h => absurd (he.1 h) (by omega)
    have h3i : (sv.size : Int) = 16 := by omega
    have H16 := Lib.hid h2
    have hb0i := hb0.symm
    clear h1 he h2 C2 C3 C4 C5 k1 k2 hb0 hst4 hsl
    go_enter Try.func27, Try.ntmps27
    go_wp2_with fail
    go_ret2
    exact ⟨rfl, HX.out⟩
  · have h1i : (c.size : Int) = 8 := by omega
    have h2i : sv.toList.isEmpty = false := by rw [Bool.eq_false_iff, ne_eq, List.isEmpty_iff]; exact fun h => absurd (he.1 h) (by omega)
    have h3i : (sv.size : Int) = 16 := by omega
    have H16 := Lib.hid h2
    have H8 := Lib.hid h1
    have hb0i := hb0.symm
    have HST := Lib.hid (hst4 h2)
    clear h1 he hb0 hst4
    rcases hv with ⟨rfl, h4⟩ | ⟨rfl, ⟨rfl, h4⟩ | ⟨rfl, rfl, h4⟩ | ⟨rfl, rfl, h4⟩⟩
    · simp only [Prod.mk.injEq] at h4
      obtain ⟨rfl, rfl⟩ := h4
      clear k1 k2
      go_enter Try.func27, Try.ntmps27
      go_wp2_with fail
      go_quiet (fail)
      rw [HST.out]
      go_wp2_with (first
        | ((with_reducible refine (C2.out _).mono ?_); rintro e W4 ⟨rfl, rfl⟩; have HX3 := Lib.hid (Ext.drew7 ((w.alloc (.cells #[.bool o, .slice ao m ac] 24)).alloc (.cells #[.string sn, .string sw] 50)) nq); obtain ⟨⟨a0, a1⟩, b0, b1⟩ := TW.out _ HX3.out)
        | ((with_reducible refine (C3.out H8.out H16.out trivial _ (Hr.out.ext (HX.out.trans HX3.out))).mono ?_); rintro e W5 ⟨rfl, hx⟩; clear a0 a1 b0 b1; have HX5 := Lib.hid (HX3.out.trans hx); obtain ⟨⟨a0, a1⟩, b0, b1⟩ := TW.out _ HX5.out; clear hx)
        | ((with_reducible refine (C5.out H8.out H16.out trivial _ (Hr.out.ext (HX.out.trans HX5.out))).mono ?_); rintro e W6 ⟨rfl, hx⟩; clear a0 a1 b0 b1; have HX6 := Lib.hid (HX5.out.trans hx); clear hx)
        | ((with_reducible refine (C4.out _).mono ?_); rintro e W7 ⟨rfl, rfl⟩))
      go_ret2
      first
        | exact ⟨rfl, HX.out.trans HX6.out⟩
        | exact ⟨rfl, HX.out.trans HX5.out⟩
        | exact ⟨rfl, HX.out.trans HX3.out⟩
    · simp only [Prod.mk.injEq] at h4
      obtain ⟨rfl, rfl⟩ := h4
      have k1' : q1 = 0 ∧ (p1.toList == sv.toList) = true := by
        rcases k1 with ⟨h1, h2, _⟩ | ⟨_, _, h⟩ | ⟨_, h⟩
        · exact ⟨h1, h2⟩
        · cases h
        · cases h
      obtain ⟨rfl, t1⟩ := k1'
      clear k1 k2
      go_enter Try.func27, Try.ntmps27
      go_wp2_with fail
      go_quiet (fail)
      rw [HST.out]
      go_wp2_with (first
        | ((with_reducible refine (C2.out _).mono ?_); rintro e W4 ⟨rfl, rfl⟩; have HX3 := Lib.hid (Ext.drew7 ((w.alloc (.cells #[.bool o, .slice ao m ac] 24)).alloc (.cells #[.string sn, .string sw] 50)) nq); obtain ⟨⟨a0, a1⟩, b0, b1⟩ := TW.out _ HX3.out)
        | ((with_reducible refine (C3.out H8.out H16.out trivial _ (Hr.out.ext (HX.out.trans HX3.out))).mono ?_); rintro e W5 ⟨rfl, hx⟩; clear a0 a1 b0 b1; have HX5 := Lib.hid (HX3.out.trans hx); obtain ⟨⟨a0, a1⟩, b0, b1⟩ := TW.out _ HX5.out; clear hx)
        | ((with_reducible refine (C5.out H8.out H16.out trivial _ (Hr.out.ext (HX.out.trans HX5.out))).mono ?_); rintro e W6 ⟨rfl, hx⟩; clear a0 a1 b0 b1; have HX6 := Lib.hid (HX5.out.trans hx); clear hx)
        | ((with_reducible refine (C4.out _).mono ?_); rintro e W7 ⟨rfl, rfl⟩))
      go_ret2
      first
        | exact ⟨rfl, HX.out.trans HX6.out⟩
        | exact ⟨rfl, HX.out.trans HX5.out⟩
        | exact ⟨rfl, HX.out.trans HX3.out⟩
    all_goals
      simp only [Prod.mk.injEq] at h4
      obtain ⟨rfl, rfl⟩ := h4
      have k1' : (q1 = 0 ∧ (p1.toList == sv.toList) = false) ∨ (q1 == 0) = false := by
        rcases k1 with ⟨_, _, h⟩ | ⟨h1, h2, _⟩ | ⟨h1, _⟩
        · cases h
        · exact .inl ⟨h1, h2⟩
        · exact .inr h1
      clear k1
    · have k2' : q2 = 0 ∧ (p2.toList == sv.toList) = true := by
        rcases k2 with ⟨h1, h2, _⟩ | ⟨_, _, h⟩ | ⟨_, h⟩
        · exact ⟨h1, h2⟩
        · cases h
        · cases h
      obtain ⟨rfl, t2⟩ := k2'
      clear k2
      rcases k1' with ⟨rfl, t1⟩ | t1
      all_goals
        go_enter Try.func27, Try.ntmps27
        go_wp2_with fail
        go_quiet (fail)
        rw [HST.out]
        go_wp2_with (first
          | ((with_reducible refine (C2.out _).mono ?_); rintro e W4 ⟨rfl, rfl⟩; have HX3 := Lib.hid (Ext.drew7 ((w.alloc (.cells #[.bool o, .slice ao m ac] 24)).alloc (.cells #[.string sn, .string sw] 50)) nq); obtain ⟨⟨a0, a1⟩, b0, b1⟩ := TW.out _ HX3.out)
          | ((with_reducible refine (C3.out H8.out H16.out trivial _ (Hr.out.ext (HX.out.trans HX3.out))).mono ?_); rintro e W5 ⟨rfl, hx⟩; clear a0 a1 b0 b1; have HX5 := Lib.hid (HX3.out.trans hx); obtain ⟨⟨a0, a1⟩, b0, b1⟩ := TW.out _ HX5.out; clear hx)
          | ((with_reducible refine (C5.out H8.out H16.out trivial _ (Hr.out.ext (HX.out.trans HX5.out))).mono ?_); rintro e W6 ⟨rfl, hx⟩; clear a0 a1 b0 b1; have HX6 := Lib.hid (HX5.out.trans hx); clear hx)
          | ((with_reducible refine (C4.out _).mono ?_); rintro e W7 ⟨rfl, rfl⟩))
        go_ret2
        first
          | exact ⟨rfl, HX.out.trans HX6.out⟩
          | exact ⟨rfl, HX.out.trans HX5.out⟩
          | exact ⟨rfl, HX.out.trans HX3.out⟩
    · have k2' : (q2 = 0 ∧ (p2.toList == sv.toList) = false) ∨ (q2 == 0) = false := by
        rcases k2 with ⟨_, _, h⟩ | ⟨h1, h2, _⟩ | ⟨h1, _⟩
        · cases h
        · exact .inl ⟨h1, h2⟩
        · exact .inr h1
      clear k2
      rcases k1' with ⟨rfl, t1⟩ | t1
      all_goals rcases k2' with ⟨rfl, t2⟩ | t2
      all_goals
        go_enter Try.func27, Try.ntmps27
        go_wp2_with fail
        go_quiet (fail)
        rw [HST.out]
        go_wp2_with (first
          | ((with_reducible refine (C2.out _).mono ?_); rintro e W4 ⟨rfl, rfl⟩; have HX3 := Lib.hid (Ext.drew7 ((w.alloc (.cells #[.bool o, .slice ao m ac] 24)).alloc (.cells #[.string sn, .string sw] 50)) nq); obtain ⟨⟨a0, a1⟩, b0, b1⟩ := TW.out _ HX3.out)
          | ((with_reducible refine (C3.out H8.out H16.out trivial _ (Hr.out.ext (HX.out.trans HX3.out))).mono ?_); rintro e W5 ⟨rfl, hx⟩; clear a0 a1 b0 b1; have HX5 := Lib.hid (HX3.out.trans hx); obtain ⟨⟨a0, a1⟩, b0, b1⟩ := TW.out _ HX5.out; clear hx)
          | ((with_reducible refine (C5.out H8.out H16.out trivial _ (Hr.out.ext (HX.out.trans HX5.out))).mono ?_); rintro e W6 ⟨rfl, hx⟩; clear a0 a1 b0 b1; have HX6 := Lib.hid (HX5.out.trans hx); clear hx)
          | ((with_reducible refine (C4.out _).mono ?_); rintro e W7 ⟨rfl, rfl⟩))
        go_ret2
        first
          | exact ⟨rfl, HX.out.trans HX6.out⟩
          | exact ⟨rfl, HX.out.trans HX5.out⟩
          | exact ⟨rfl, HX.out.trans HX3.out⟩

end Go.Proofs.Ytjnaknfnoibncaa
