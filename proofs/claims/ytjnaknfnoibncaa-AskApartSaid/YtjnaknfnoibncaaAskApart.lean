/- hardtacklaw11.AskApart answers true, and leaves what lay as it lay. Conditions: numbers and texts of their kinds. -/
import Derived.Test.YtjnaknfnoibncaaAskE
import Derived.Test.YtjnaknfnoibncaaOptArgs
import Derived.Test.YtjnaknfnoibncaaQuiet
namespace Go.Proofs.Ytjnaknfnoibncaa
open Go Go.RowKit Go.Shelf
attribute [local go_sem] Oper.semAt_some wide_fn wide_depth

section
variable {P : Program} {ops : Array Oper} {C : World → Prop}
theorem quiet_yes {Q : Act → Prop} {a : Act} {o : Oper} {rest : List Oper} (hw : Region.wanted o (yielded ops a.tmps) = true)
    (h : ∀ K : Act → Prop, (∀ a, wpQuiet P ops C Q rest a → K a) → o.quiet P a C K) : wpQuiet P ops C Q (o :: rest) a :=
  wpQuiet_step fun K hK => by rw [if_pos hw]; exact h K hK
theorem quiet_no {Q : Act → Prop} {a : Act} {o : Oper} {rest : List Oper} (hw : Region.wanted o (yielded ops a.tmps) = false)
    (h : wpQuiet P ops C Q rest (a.put o.dst undef)) : wpQuiet P ops C Q (o :: rest) a :=
  wpQuiet_step fun K hK => by rw [if_neg (by rw [hw]; decide)]; exact hK _ h
end
theorem byB_eq {a b k : Nat} (h : byB a k = byB b k) : a / 256 ^ k % 256 = b / 256 ^ k % 256 := by
  have h1 := congrArg UInt8.toNat h
  unfold byB at h1
  rw [UInt8.toNat_ofNat', UInt8.toNat_ofNat'] at h1
  omega
theorem be4_inj {a b : Nat} (ha : a < 4294967296) (hb : b < 4294967296) (h : be4 a = be4 b) : a = b := by
  simp only [be4, List.cons.injEq, and_true] at h
  have h3 := byB_eq h.1
  have h2 := byB_eq h.2.1
  have h1 := byB_eq h.2.2.1
  have h0 := byB_eq h.2.2.2
  omega
theorem askT_inj {a b : Nat} (ha : a < 4294967296) (hb : b < 4294967296) (h : askT a = askT b) : a = b := by
  have h1 := congrArg bl h
  unfold askT at h1
  rw [bl_mk, bl_mk] at h1
  exact be4_inj ha hb (List.append_cancel_left h1)
theorem bytes_low {n : Nat} (h : n < 18446744073709551616) : lowB (bytesS n).data.toList = n := by
  show lowB (bytesM n 8) = n
  rw [lowB_bytes, Nat.mod_eq_of_lt (by omega)]
theorem bytes_same {n m : Nat} (hn : n < 18446744073709551616) (hm : m < 18446744073709551616) : bytesS n = bytesS m ↔ n = m := by
  refine ⟨fun h => ?_, fun h => by rw [h]⟩
  rw [← bytes_low hn, h, bytes_low hm]

set_option maxRecDepth 100000 in
set_option maxHeartbeats 8000000 in
theorem askApart_walk (l : List SumC) (v : Value) (o : Bool) (k : ByteArray) (a b : Nat) (w : World) (hr : SRow w v 3 (l.map SumC.cells)) (hf : ∀ x ∈ l, x.fit) (ha : a < 4294967296) (hb : b < 4294967296) :
    Calls Try.prog 5 #[.agg #[.bool o, v], .string k, .int .u32 (a : Int), .int .u32 (b : Int)] w fun e w' => e = .returned (.bool true) ∧ Ext w w' := by
  have Hr := Lib.hid hr
  obtain ⟨ao, ac, rfl, hlm⟩ := hr.open
  rw [List.length_map] at Hr hlm ⊢
  clear hr hlm
  have CL := Lib.hid fun W => L11.lives_any W
  have CM := Lib.hid fun W => Small9_any ao l.length ac o W
  have CA := Lib.hid fun W h => HApart_any l (.slice ao l.length ac) o W h hf
  have C1 := Lib.hid fun W h => AClient_any l (.slice ao l.length ac) true k a W h ha
  have C2 := Lib.hid fun W h => AClient_any l (.slice ao l.length ac) true k b W h hb
  have C5 := Lib.hid fun W => AText_any a W ha
  have CK := Lib.hid fun W h => Known_any l (.slice ao l.length ac) true k (askT a) W h
  have HB := Lib.hid (World.alloc_heap_new w (.cells #[.bool o, .slice ao l.length ac] 24))
  have HX0 := Lib.hid ((Ext.refl w).alloc (.cells #[.bool o, .slice ao l.length ac] 24))
  have he : sumE k (askT b) = sumE k (askT a) := rfl
  have hya := hashV_lt (o := true) (k := k) (s := askT a) hf
  have hyb := hashV_lt (o := true) (k := k) (s := askT b) hf
  have hap : apartB l = true → sumE k (askT a) = 0 → (((hashV true l k (askT a) : Nat) : Int) != 0) = decide (0 ≤ findI k (askT a) l) ∧ (hashV true l k (askT a) ≠ 0 → ((bytesS (hashV true l k (askT a))).toList == (bytesS (hashV true l k (askT b))).toList) = ((a : Int) == (b : Int))) := fun h h0 => by
    have e1 : hashV true l k (askT a) = entryN k (askT a) l := by unfold hashV; rw [if_neg (by simpa using h0), if_pos rfl]
    have e2 : hashV true l k (askT b) = entryN k (askT b) l := by unfold hashV; rw [if_neg (by rw [he]; simpa using h0), if_pos rfl]
    rw [e1] at hya ⊢
    rw [e2] at hyb ⊢
    obtain ⟨m1, m2⟩ := apart_sums h k (askT a) k (askT b)
    have hh : decide (0 ≤ findI k (askT a) l) = hasB k (askT a) l := rfl
    refine ⟨?_, fun hne => ?_⟩
    · rw [hh, ← m2, Bool.eq_iff_iff, bne_iff_ne, bne_iff_ne]; omega
    · have hha : hasB k (askT a) l = true := by rw [← m2, bne_iff_ne]; exact hne
      rw [hha, Bool.not_true, Bool.false_and, Bool.or_false] at m1
      rw [text_eq, Bool.eq_iff_iff, decide_eq_true_iff, bytes_same hya hyb, beq_iff_eq]
      rw [Bool.eq_iff_iff, beq_iff_eq, decide_eq_true_iff] at m1
      rw [m1]
      exact ⟨fun e => by rw [askT_inj ha hb e.2], fun e => ⟨rfl, by rw [show a = b by omega]⟩⟩
  unfold cliV at C1 C2
  rw [he] at C2
  have CV := Lib.hid fun W => Value_any (bytesS (hashV true l k (askT a))) W
  rw [if_pos (size_bytesS _), bytes_low hya] at CV
  clear he hya hyb
  obtain ⟨ya, hya⟩ : ∃ y, hashV true l k (askT a) = y := ⟨_, rfl⟩
  obtain ⟨yb, hyb⟩ : ∃ y, hashV true l k (askT b) = y := ⟨_, rfl⟩
  obtain ⟨ee, he⟩ : ∃ y, sumE k (askT a) = y := ⟨_, rfl⟩
  obtain ⟨q, hq⟩ : ∃ y, decide (0 ≤ findI k (askT a) l) = y := ⟨_, rfl⟩
  obtain ⟨t, ht⟩ : ∃ y, askT a = y := ⟨_, rfl⟩
  rw [hya, he] at C1
  rw [hyb, he] at C2
  rw [hya] at CV
  rw [hya, hyb, he, hq] at hap
  rw [hq, ht] at CK
  rw [ht] at C5
  clear hya hyb he hq ht
  obtain ⟨nl, hnl⟩ : ∃ nl, l.length = nl := ⟨_, rfl⟩
  rw [hnl] at CM CA C1 C2 CK HB HX0 Hr ⊢
  clear hnl hf ha hb
  by_cases hb : 60 < nl
  · rw [if_pos hb] at CM
    clear hb hap
    go_enter Try.func5, Try.ntmps5
    go_wp2_with (first
      | ((with_reducible refine (CL.out _).mono ?_); rintro e W1 ⟨rfl, hx⟩; obtain ⟨ha0, ha1, hf0, hf1⟩ := cells_of (hx.keeps.heap HB.out trivial); have HX1 := Lib.hid hx; clear hx)
      | ((with_reducible refine (CM.out _).mono ?_); rintro e W2 ⟨rfl, hx⟩; clear ha0 ha1 hf0 hf1; have HX2 := Lib.hid (HX1.out.trans hx); clear hx))
    go_ret
    exact ⟨rfl, HX0.out.trans HX2.out⟩
  rw [if_neg hb] at CM
  clear hb
  cases hap2 : apartB l with
  | false =>
    rw [hap2] at CA
    clear hap hap2
    go_enter Try.func5, Try.ntmps5
    go_wp2_with (first
      | ((with_reducible refine (CL.out _).mono ?_); rintro e W1 ⟨rfl, hx⟩; obtain ⟨ha0, ha1, hf0, hf1⟩ := cells_of (hx.keeps.heap HB.out trivial); have HX1 := Lib.hid hx; clear hx)
      | ((with_reducible refine (CM.out _).mono ?_); rintro e W2 ⟨rfl, hx⟩; clear ha0 ha1 hf0 hf1; have HX2 := Lib.hid (HX1.out.trans hx); obtain ⟨ha0, ha1, hf0, hf1⟩ := cells_of (HX2.out.keeps.heap HB.out trivial); clear hx)
      | ((with_reducible refine (CA.out _ (Hr.out.ext (HX0.out.trans HX2.out))).mono ?_); rintro e W3 ⟨rfl, hx⟩; clear ha0 ha1 hf0 hf1; have HX3 := Lib.hid (HX2.out.trans hx); clear hx))
    go_ret
    exact ⟨rfl, HX0.out.trans HX3.out⟩
  | true =>
    rw [hap2] at CA
    replace hap := hap hap2
    clear hap2
    by_cases h0 : ee = 0
    · subst h0
      rw [if_pos rfl] at C1 C2
      obtain ⟨hq1, hq2⟩ := hap rfl
      clear hap
      obtain ⟨xa, hxa⟩ : ∃ y, bytesS ya = y := ⟨_, rfl⟩
      obtain ⟨xb, hxb⟩ : ∃ y, bytesS yb = y := ⟨_, rfl⟩
      rw [hxa] at C1 CV hq2
      rw [hxb] at C2 hq2
      clear hxa hxb
      have HQ2 := Lib.hid hq2
      clear hq2
      by_cases hz : ya = 0
      · subst hz
        rw [show (((0 : Nat)) : Int) = 0 from rfl] at CV hq1
        obtain rfl : q = false := hq1.symm
        clear hq1 HQ2
        go_enter Try.func5, Try.ntmps5
        go_wp2_with (first
          | ((with_reducible refine (CL.out _).mono ?_); rintro e W1 ⟨rfl, hx⟩; obtain ⟨ha0, ha1, hf0, hf1⟩ := cells_of (hx.keeps.heap HB.out trivial); have HX1 := Lib.hid hx; clear hx)
          | ((with_reducible refine (CM.out _).mono ?_); rintro e W2 ⟨rfl, hx⟩; clear ha0 ha1 hf0 hf1; have HX2 := Lib.hid (HX1.out.trans hx); obtain ⟨ha0, ha1, hf0, hf1⟩ := cells_of (HX2.out.keeps.heap HB.out trivial); clear hx)
          | ((with_reducible refine (CA.out _ (Hr.out.ext (HX0.out.trans HX2.out))).mono ?_); rintro e W3 ⟨rfl, hx⟩; clear ha0 ha1 hf0 hf1; have HX3 := Lib.hid (HX2.out.trans hx); have HB2 := Lib.hid (HX3.out.keeps.heap HB.out trivial); have HBA := Lib.hid (set_fst HB2.out (.bool true)); obtain ⟨ha0, ha1, hf0, hf1⟩ := cells_of HB2.out; obtain ⟨hs0, hs1, hs2, hs3⟩ := cells_of HBA.out; have HK2 : Hid (Keeps (fun j => j < w.heap.size) w (W3.setCell ⟨w.heap.size, 0, none⟩ (.bool true))) := Lib.hid (((((Keeps.refl _ _).alloc _).trans (HX3.out.keeps.mono fun _ _ _ => trivial))).setCell (by simp) _); have HRh := Lib.hid (Hr.out.keep HK2.out fun j h => h); clear hx)
          | ((with_reducible refine (C1.out _ HRh.out).mono ?_); rintro e W4 ⟨rfl, hx⟩; clear ha0 ha1 hf0 hf1 hs0 hs1 hs2 hs3; have HX4 := Lib.hid hx; obtain ⟨hs0, hs1, hs2, hs3⟩ := cells_of (HX4.out.keeps.heap HBA.out trivial); clear hx)
          | ((with_reducible refine (C2.out _ (HRh.out.ext HX4.out)).mono ?_); rintro e W5 ⟨rfl, hx⟩; clear hs0 hs1 hs2 hs3; have HX5 := Lib.hid (HX4.out.trans hx); clear hx)
          | ((with_reducible refine (CV.out _).mono ?_); rintro e W6 ⟨rfl, rfl⟩; obtain ⟨hs0, hs1, hs2, hs3⟩ := cells_of (HX5.out.keeps.heap HBA.out trivial)))
        have kq0 := fun dd os => cell_regrown hs0 dd os
        have kq1 := fun dd os => cell_regrown hs1 dd os
        refine wp_region_quiet_below (by kernel_rfl) (by decide +kernel) ?_
        iterate 8 (refine quiet_yes (by rfl) (fun K hK => ?_); go_simp; apply hK; clear hK K)
        refine quiet_yes (by rfl) (fun K hK => ?_)
        go_simp
        apply Exists.intro
        refine ⟨fun _ => ?_, hK _ ?_⟩
        · exact calls_later (C5.out _)
        clear hK K
        refine quiet_yes (by rfl) (fun K hK => ?_)
        go_simp
        apply Exists.intro
        refine ⟨fun _ => ?_, hK _ ?_⟩
        · exact calls_later (CK.out _ (HRh.out.ext (HX5.out.trans (below_regrown _ _ _))))
        clear hK K
        iterate 6 (refine quiet_yes (by rfl) (fun K hK => ?_); go_simp; apply hK; clear hK K)
        iterate 7 (apply quiet_no; rfl; simp only [Act.put, List.setIfInBounds_toArray, List.set_cons_zero, List.set_cons_succ])
        iterate 3 (refine quiet_yes (by rfl) (fun K hK => ?_); go_simp; apply hK; clear hK K)
        refine wpQuiet_nil ?_
        intro V hV
        replace hV := later_ext hV
        clear kq0 kq1 hs0 hs1 hs2 hs3
        have HV := Lib.hid (HX5.out.trans hV)
        clear hV
        go_wp2_with fail
        go_ret
        exact ⟨rfl, (HK2.out.trans (HV.out.keeps.mono fun _ _ _ => trivial)).ext fun j h => h⟩
      · have hz1 : ((ya : Int) == 0) = false := by simp only [beq_eq_false_iff_ne, ne_eq]; omega
        have hz2 : ((ya : Int) != 0) = true := by simp only [bne_iff_ne, ne_eq]; omega
        have hq2 := HQ2.out hz
        rw [hz2] at hq1
        obtain rfl : q = true := hq1.symm
        clear hq1 HQ2 hz
        have Hz1 := Lib.hid hz1
        have Hz2 := Lib.hid hz2
        have Hq2 := Lib.hid hq2
        clear hz1 hz2 hq2
        go_enter Try.func5, Try.ntmps5
        go_wp2_with (first
          | ((with_reducible refine (CL.out _).mono ?_); rintro e W1 ⟨rfl, hx⟩; obtain ⟨ha0, ha1, hf0, hf1⟩ := cells_of (hx.keeps.heap HB.out trivial); have HX1 := Lib.hid hx; clear hx)
          | ((with_reducible refine (CM.out _).mono ?_); rintro e W2 ⟨rfl, hx⟩; clear ha0 ha1 hf0 hf1; have HX2 := Lib.hid (HX1.out.trans hx); obtain ⟨ha0, ha1, hf0, hf1⟩ := cells_of (HX2.out.keeps.heap HB.out trivial); clear hx)
          | ((with_reducible refine (CA.out _ (Hr.out.ext (HX0.out.trans HX2.out))).mono ?_); rintro e W3 ⟨rfl, hx⟩; clear ha0 ha1 hf0 hf1; have HX3 := Lib.hid (HX2.out.trans hx); have HB2 := Lib.hid (HX3.out.keeps.heap HB.out trivial); have HBA := Lib.hid (set_fst HB2.out (.bool true)); obtain ⟨ha0, ha1, hf0, hf1⟩ := cells_of HB2.out; obtain ⟨hs0, hs1, hs2, hs3⟩ := cells_of HBA.out; have HK2 : Hid (Keeps (fun j => j < w.heap.size) w (W3.setCell ⟨w.heap.size, 0, none⟩ (.bool true))) := Lib.hid (((((Keeps.refl _ _).alloc _).trans (HX3.out.keeps.mono fun _ _ _ => trivial))).setCell (by simp) _); have HRh := Lib.hid (Hr.out.keep HK2.out fun j h => h); clear hx)
          | ((with_reducible refine (C1.out _ HRh.out).mono ?_); rintro e W4 ⟨rfl, hx⟩; clear ha0 ha1 hf0 hf1 hs0 hs1 hs2 hs3; have HX4 := Lib.hid hx; obtain ⟨hs0, hs1, hs2, hs3⟩ := cells_of (HX4.out.keeps.heap HBA.out trivial); clear hx)
          | ((with_reducible refine (C2.out _ (HRh.out.ext HX4.out)).mono ?_); rintro e W5 ⟨rfl, hx⟩; clear hs0 hs1 hs2 hs3; have HX5 := Lib.hid (HX4.out.trans hx); clear hx)
          | ((with_reducible refine (CV.out _).mono ?_); rintro e W6 ⟨rfl, rfl⟩; obtain ⟨hs0, hs1, hs2, hs3⟩ := cells_of (HX5.out.keeps.heap HBA.out trivial)))
        have hz1 := Hz1.out
        have hz2 := Hz2.out
        have hq2 := Hq2.out
        obtain ⟨r, hr⟩ : ∃ r, ((a : Int) == (b : Int)) = r := ⟨_, rfl⟩
        rw [hr] at hq2
        have kq0 := fun dd os => cell_regrown hs0 dd os
        have kq1 := fun dd os => cell_regrown hs1 dd os
        refine wp_region_quiet_below (by kernel_rfl) (by decide +kernel) ?_
        iterate 8 (refine quiet_yes (by rfl) (fun K hK => ?_); go_simp; apply hK; clear hK K)
        refine quiet_yes (by rfl) (fun K hK => ?_)
        go_simp
        apply Exists.intro
        refine ⟨fun _ => ?_, hK _ ?_⟩
        · exact calls_later (C5.out _)
        clear hK K
        refine quiet_yes (by rfl) (fun K hK => ?_)
        go_simp
        apply Exists.intro
        refine ⟨fun _ => ?_, hK _ ?_⟩
        · exact calls_later (CK.out _ (HRh.out.ext (HX5.out.trans (below_regrown _ _ _))))
        clear hK K
        iterate 16 (refine quiet_yes (by rfl) (fun K hK => ?_); go_simp; apply hK; clear hK K)
        refine wpQuiet_nil ?_
        intro V hV
        replace hV := later_ext hV
        clear kq0 kq1 hs0 hs1 hs2 hs3
        have HV := Lib.hid (HX5.out.trans hV)
        clear hV
        go_wp2_with fail
        go_ret
        exact ⟨rfl, (HK2.out.trans (HV.out.keeps.mono fun _ _ _ => trivial)).ext fun j h => h⟩
    · rw [if_neg h0] at C1 C2
      have hne : (ee != 0) = true := by simpa using h0
      clear hap
      go_enter Try.func5, Try.ntmps5
      go_wp2_with (first
          | ((with_reducible refine (CL.out _).mono ?_); rintro e W1 ⟨rfl, hx⟩; obtain ⟨ha0, ha1, hf0, hf1⟩ := cells_of (hx.keeps.heap HB.out trivial); have HX1 := Lib.hid hx; clear hx)
          | ((with_reducible refine (CM.out _).mono ?_); rintro e W2 ⟨rfl, hx⟩; clear ha0 ha1 hf0 hf1; have HX2 := Lib.hid (HX1.out.trans hx); obtain ⟨ha0, ha1, hf0, hf1⟩ := cells_of (HX2.out.keeps.heap HB.out trivial); clear hx)
          | ((with_reducible refine (CA.out _ (Hr.out.ext (HX0.out.trans HX2.out))).mono ?_); rintro e W3 ⟨rfl, hx⟩; clear ha0 ha1 hf0 hf1; have HX3 := Lib.hid (HX2.out.trans hx); have HB2 := Lib.hid (HX3.out.keeps.heap HB.out trivial); have HBA := Lib.hid (set_fst HB2.out (.bool true)); obtain ⟨ha0, ha1, hf0, hf1⟩ := cells_of HB2.out; obtain ⟨hs0, hs1, hs2, hs3⟩ := cells_of HBA.out; have HK2 : Hid (Keeps (fun j => j < w.heap.size) w (W3.setCell ⟨w.heap.size, 0, none⟩ (.bool true))) := Lib.hid (((((Keeps.refl _ _).alloc _).trans (HX3.out.keeps.mono fun _ _ _ => trivial))).setCell (by simp) _); have HRh := Lib.hid (Hr.out.keep HK2.out fun j h => h); clear hx)
          | ((with_reducible refine (C1.out _ HRh.out).mono ?_); rintro e W4 ⟨rfl, hx⟩; clear ha0 ha1 hf0 hf1 hs0 hs1 hs2 hs3; have HX4 := Lib.hid hx; obtain ⟨hs0, hs1, hs2, hs3⟩ := cells_of (HX4.out.keeps.heap HBA.out trivial); clear hx)
          | ((with_reducible refine (C2.out _ (HRh.out.ext HX4.out)).mono ?_); rintro e W5 ⟨rfl, hx⟩; clear hs0 hs1 hs2 hs3; have HX5 := Lib.hid (HX4.out.trans hx); clear hx))
      go_ret
      exact ⟨rfl, (HK2.out.trans (HX5.out.keeps.mono fun _ _ _ => trivial)).ext fun j h => h⟩

theorem askApart_args (o : Bool) (v : Value) (l : List SumC) (k : ByteArray) (a b : Int) (w : World) (hr : SRow w v 3 (l.map SumC.cells)) (hf : ∀ x ∈ l, x.fit) (_ : k.size ≤ maxLen) (ha : (Lit.int .u32 a).wf = true) (hb : (Lit.int .u32 b).wf = true) :
    Calls Try.prog 5 #[.agg #[.bool o, v], .string k, .int .u32 a, .int .u32 b] w fun e w' => e = .returned (.bool true) ∧ Ext w w' := by
  obtain ⟨m, rfl, hm⟩ := wf_nat32 ha
  obtain ⟨n, rfl, hn⟩ := wf_nat32 hb
  exact askApart_walk l v o k m n w hr hf hm hn
end Go.Proofs.Ytjnaknfnoibncaa
