/- hardtacklaw12.GiveOwn answers true, and leaves what lay as it lay. Conditions: numbers and texts of their kinds. -/
import Derived.Test.YtjnaknfnoibncaaGiveE
import Derived.Test.YtjnaknfnoibncaaOptArgs
namespace Go.Proofs.Ytjnaknfnoibncaa
open Go Go.RowKit Go.Shelf
attribute [local go_sem] Oper.semAt_some wide_fn wide_depth

theorem bytes_zero : (bytesS 0).toList = [0, 0, 0, 0, 0, 0, 0, 0] := by decide +kernel
/-- What verifies, and has a sum that is not 0, is known. -/
theorem made_known {l : List SumC} {k c sv : ByteArray} {n : Nat} (h : madeB true l k c sv n = true) (hs : sv.size = 16) (hz : ((sv.extract 8 16).toList == [0, 0, 0, 0, 0, 0, 0, 0]) = false) :
    decide (0 ≤ findI k (giveT c (sv.extract 0 8) n) l) = true := by
  unfold madeB at h
  have h1 := of_decide_eq_true h
  have h8 : (sv.extract 0 8).size = 8 := by rw [ByteArray.size_extract]; omega
  obtain ⟨hd, hhd⟩ : ∃ y, sv.extract 0 8 = y := ⟨_, rfl⟩
  rw [hhd] at h1 h8 ⊢
  obtain ⟨t, ht⟩ : ∃ y, giveT c hd n = y := ⟨_, rfl⟩
  rw [ht] at h1 ⊢
  unfold cookV at h1
  split at h1
  · rename_i h0
    simp only [Prod.mk.injEq, and_true] at h1
    have hv : hashV true l k t = entryN k t l := by unfold hashV; rw [if_neg (by simpa using h0), if_pos rfl]
    rw [hv] at h1
    rw [decide_eq_true_iff]
    unfold findI
    cases hf : findN k t l with
    | some i => simp
    | none =>
      have he : entryN k t l = 0 := by unfold entryN; rw [hf]
      rw [he] at h1
      have e : sv.extract 8 16 = bytesS 0 := by
        refine bl_inj ?_
        rw [← h1, bl_extract, app_bl]
        rw [List.take_of_length_le (by rw [List.length_append, bl_size, bl_size, h8, size_bytesS]; decide)]
        exact List.drop_left' (by rw [bl_size]; exact h8)
      rw [e, bytes_zero] at hz
      simp at hz
  · rename_i h0
    simp only [Prod.mk.injEq] at h1
    exact absurd h1.2 h0
theorem own_cases (l : List SumC) (sn sw c sv : ByteArray) (n : Nat) (now : Int) (rb : Bool) (re : Int) (h : verV true l sn sw c sv n now = (rb, re)) :
    (re != 0) = true ∨ (re = 0 ∧ c.size = 8 ∧ sv.size = 16 ∧ (((sv.extract 8 16).toList == [0, 0, 0, 0, 0, 0, 0, 0]) = false → decide (0 ≤ findI sn (giveT c (sv.extract 0 8) n) l) = true ∨ decide (0 ≤ findI sw (giveT c (sv.extract 0 8) n) l) = true)) := by
  have hv := ver_cases true l sn sw c sv n now
  rw [h] at hv
  simp only [Prod.mk.injEq] at hv
  rcases hv with ⟨_, _, rfl⟩ | ⟨_, _, _, rfl⟩ | ⟨_, _, _, _, rfl⟩ | ⟨_, _, _, _, rfl⟩ | ⟨h1, h2, _, ⟨_, _, rfl⟩ | ⟨_, ⟨h3, _, rfl⟩ | ⟨_, h3, _, rfl⟩ | ⟨_, _, _, rfl⟩⟩⟩
  · exact .inl rfl
  · exact .inl rfl
  · exact .inl rfl
  · exact .inl rfl
  · exact .inl rfl
  · exact .inr ⟨rfl, h1, h2, fun hz => .inl (made_known h3 h2 hz)⟩
  · exact .inr ⟨rfl, h1, h2, fun hz => .inr (made_known h3 h2 hz)⟩
  · exact .inl rfl

set_option maxRecDepth 100000 in
set_option maxHeartbeats 8000000 in
theorem giveOwn_walk (l : List SumC) (v : Value) (o : Bool) (sn sw c sv : ByteArray) (n : Nat) (now : Int) (w : World) (hr : SRow w v 3 (l.map SumC.cells)) (hf : ∀ x ∈ l, x.fit) (hn : n < 4294967296) :
    Calls Try.prog 8 #[.agg #[.bool o, v], .agg #[.string sn, .string sw], .string c, .string sv, .int .u32 (n : Int), .int .i64 now] w fun e w' => e = .returned (.bool true) ∧ Ext w w' := by
  have Hr := Lib.hid hr
  obtain ⟨ao, ac, rfl, hlm⟩ := hr.open
  rw [List.length_map] at Hr hlm ⊢
  clear hr hlm
  have CL := Lib.hid fun W => L12.lives_any W
  have CM := Lib.hid fun W => Small9_any ao l.length ac o W
  have CA := Lib.hid fun W h => HApart_any l (.slice ao l.length ac) o W h hf
  have CV := Lib.hid fun W h => Verify_any l (.slice ao l.length ac) true sn sw c sv n now W h hn
  have CT : Hid (c.size = 8 → sv.size = 16 → ∀ W, Calls Try.prog 30 #[.string c, .string (sv.extract 0 8), .int .u32 (n : Int)] W fun e w' => e = .returned (.string (giveT c (sv.extract 0 8) n)) ∧ Ext W w') := Lib.hid fun h1 h2 W => GText_any c (sv.extract 0 8) n W (by omega) (by rw [ByteArray.size_extract]; omega) hn
  have CK1 := Lib.hid fun W h => Known_any l (.slice ao l.length ac) true sn (giveT c (sv.extract 0 8) n) W h
  have CK2 := Lib.hid fun W h => Known_any l (.slice ao l.length ac) true sw (giveT c (sv.extract 0 8) n) W h
  obtain ⟨⟨rb, re⟩, hre⟩ : ∃ y, verV true l sn sw c sv n now = y := ⟨_, rfl⟩
  have hv := own_cases l sn sw c sv n now rb re hre
  rw [hre] at CV
  simp only at CV
  obtain ⟨t, ht⟩ : ∃ y, giveT c (sv.extract 0 8) n = y := ⟨_, rfl⟩
  rw [ht] at CT CK1 CK2 hv
  obtain ⟨q1, hq1⟩ : ∃ y, decide (0 ≤ findI sn t l) = y := ⟨_, rfl⟩
  obtain ⟨q2, hq2⟩ : ∃ y, decide (0 ≤ findI sw t l) = y := ⟨_, rfl⟩
  rw [hq1] at CK1 hv
  rw [hq2] at CK2 hv
  clear hre ht hq1 hq2
  obtain ⟨nl, hnl⟩ : ∃ nl, l.length = nl := ⟨_, rfl⟩
  rw [hnl] at CM CA CV CK1 CK2 Hr ⊢
  clear hnl hf hn
  obtain ⟨w1, h1⟩ : ∃ w1, (w.alloc (.cells #[.bool o, .slice ao nl ac] 24)).alloc (.cells #[.string sn, .string sw] 50) = w1 := ⟨_, rfl⟩
  have X1 : Ext w w1 := by rw [← h1]; exact ((Ext.refl w).alloc _).alloc _
  have hz : (w.alloc (.cells #[.bool o, .slice ao nl ac] 24)).heap.size = w.heap.size + 1 := by simp
  have hA : w1.heap[w.heap.size]? = some (.cells #[.bool o, .slice ao nl ac] 24 (0, 0)) := by
    rw [← h1]
    exact ((Keeps.refl (fun _ => True) _).alloc _).heap (World.alloc_heap_new w _) trivial
  have hB : w1.heap[w.heap.size + 1]? = some (.cells #[.string sn, .string sw] 50 (0, 0)) := by
    rw [← h1, ← hz]
    exact World.alloc_heap_new _ _
  have HX := Lib.hid X1
  have HA := Lib.hid hA
  have HB := Lib.hid hB
  have HKX : Hid (Keeps (fun j => j < w.heap.size) w w1) := Lib.hid (X1.keeps.mono fun _ _ _ => trivial)
  clear hA hB hz X1
  subst h1
  by_cases hb : 60 < nl
  · rw [if_pos hb] at CM
    clear hb hv
    go_enter Try.func8, Try.ntmps8
    go_wp2_with (first
      | ((with_reducible refine (CL.out _).mono ?_); rintro e W1 ⟨rfl, hx⟩; have HX1 := Lib.hid hx; obtain ⟨a0, a1, a2, a3⟩ := cells_of (HX1.out.keeps.heap HA.out trivial); clear hx)
      | ((with_reducible refine (CM.out _).mono ?_); rintro e W2 ⟨rfl, hx⟩; clear a0 a1 a2 a3; have HX2 := Lib.hid (HX1.out.trans hx); obtain ⟨a0, a1, a2, a3⟩ := cells_of (HX2.out.keeps.heap HA.out trivial); clear hx)
      | ((with_reducible refine (CA.out _ (Hr.out.ext (HX.out.trans HX2.out))).mono ?_); rintro e W3 ⟨rfl, hx⟩; clear a0 a1 a2 a3; have HX3 := Lib.hid (HX2.out.trans hx); have HA2 := Lib.hid (HX3.out.keeps.heap HA.out trivial); have HA3 := Lib.hid (set_fst HA2.out (.bool true)); have HK3 : Hid (Keeps (fun j => j ≠ w.heap.size) W3 (W3.setCell ⟨w.heap.size, 0, none⟩ (.bool true))) := Lib.hid ((Keeps.refl _ _).setCell (by simp) _); have HB3 := Lib.hid (HK3.out.heap (HX3.out.keeps.heap HB.out trivial) (by omega)); have HK : Hid (Keeps (fun j => j < w.heap.size) w (W3.setCell ⟨w.heap.size, 0, none⟩ (.bool true))) := Lib.hid ((HKX.out.trans (HX3.out.keeps.mono fun _ _ _ => trivial)).trans (HK3.out.mono fun j _ h => by omega)); have HR3 := Lib.hid (Hr.out.keep HK.out fun j h => h); obtain ⟨a0, a1, a2, a3⟩ := cells_of HA2.out; obtain ⟨s0, s1, _, _⟩ := cells_of HA3.out; obtain ⟨b0, b1, _, _⟩ := cells_of HB3.out; clear hx)
      | ((with_reducible refine (CV.out _ HR3.out).mono ?_); rintro e W4 ⟨rfl, hx⟩; clear a0 a1 a2 a3 s0 s1 b0 b1; have HY4 := Lib.hid hx; clear hx)
      | ((with_reducible refine (CT.out H8.out H16.out _).mono ?_); rintro e W5 ⟨rfl, hx⟩; have HY5 := Lib.hid (HY4.out.trans hx); obtain ⟨s0, s1, _, _⟩ := cells_of (HY5.out.keeps.heap HA3.out trivial); obtain ⟨b0, b1, _, _⟩ := cells_of (HY5.out.keeps.heap HB3.out trivial); clear hx)
      | ((with_reducible refine (CK1.out _ (HR3.out.ext HY5.out)).mono ?_); rintro e W6 ⟨rfl, hx⟩; clear s0 s1 b0 b1; have HY6 := Lib.hid (HY5.out.trans hx); obtain ⟨s0, s1, _, _⟩ := cells_of (HY6.out.keeps.heap HA3.out trivial); obtain ⟨b0, b1, _, _⟩ := cells_of (HY6.out.keeps.heap HB3.out trivial); clear hx)
      | ((with_reducible refine (CK2.out _ (HR3.out.ext HY6.out)).mono ?_); rintro e W7 ⟨rfl, hx⟩; clear s0 s1 b0 b1; have HY7 := Lib.hid (HY6.out.trans hx); clear hx))
    go_ret
    first
      | exact ⟨rfl, (HK.out.trans (HY7.out.keeps.mono fun _ _ _ => trivial)).ext fun j h => h⟩
      | exact ⟨rfl, (HK.out.trans (HY6.out.keeps.mono fun _ _ _ => trivial)).ext fun j h => h⟩
      | exact ⟨rfl, (HK.out.trans (HY4.out.keeps.mono fun _ _ _ => trivial)).ext fun j h => h⟩
      | exact ⟨rfl, HX.out.trans HX3.out⟩
      | exact ⟨rfl, HX.out.trans HX2.out⟩
  rw [if_neg hb] at CM
  clear hb
  by_cases hc : 1000 < c.size
  · have hci : (1000 : Int) < c.size := by omega
    clear hc hv
    go_enter Try.func8, Try.ntmps8
    go_wp2_with (first
      | ((with_reducible refine (CL.out _).mono ?_); rintro e W1 ⟨rfl, hx⟩; have HX1 := Lib.hid hx; obtain ⟨a0, a1, a2, a3⟩ := cells_of (HX1.out.keeps.heap HA.out trivial); clear hx)
      | ((with_reducible refine (CM.out _).mono ?_); rintro e W2 ⟨rfl, hx⟩; clear a0 a1 a2 a3; have HX2 := Lib.hid (HX1.out.trans hx); obtain ⟨a0, a1, a2, a3⟩ := cells_of (HX2.out.keeps.heap HA.out trivial); clear hx)
      | ((with_reducible refine (CA.out _ (Hr.out.ext (HX.out.trans HX2.out))).mono ?_); rintro e W3 ⟨rfl, hx⟩; clear a0 a1 a2 a3; have HX3 := Lib.hid (HX2.out.trans hx); have HA2 := Lib.hid (HX3.out.keeps.heap HA.out trivial); have HA3 := Lib.hid (set_fst HA2.out (.bool true)); have HK3 : Hid (Keeps (fun j => j ≠ w.heap.size) W3 (W3.setCell ⟨w.heap.size, 0, none⟩ (.bool true))) := Lib.hid ((Keeps.refl _ _).setCell (by simp) _); have HB3 := Lib.hid (HK3.out.heap (HX3.out.keeps.heap HB.out trivial) (by omega)); have HK : Hid (Keeps (fun j => j < w.heap.size) w (W3.setCell ⟨w.heap.size, 0, none⟩ (.bool true))) := Lib.hid ((HKX.out.trans (HX3.out.keeps.mono fun _ _ _ => trivial)).trans (HK3.out.mono fun j _ h => by omega)); have HR3 := Lib.hid (Hr.out.keep HK.out fun j h => h); obtain ⟨a0, a1, a2, a3⟩ := cells_of HA2.out; obtain ⟨s0, s1, _, _⟩ := cells_of HA3.out; obtain ⟨b0, b1, _, _⟩ := cells_of HB3.out; clear hx)
      | ((with_reducible refine (CV.out _ HR3.out).mono ?_); rintro e W4 ⟨rfl, hx⟩; clear a0 a1 a2 a3 s0 s1 b0 b1; have HY4 := Lib.hid hx; clear hx)
      | ((with_reducible refine (CT.out H8.out H16.out _).mono ?_); rintro e W5 ⟨rfl, hx⟩; have HY5 := Lib.hid (HY4.out.trans hx); obtain ⟨s0, s1, _, _⟩ := cells_of (HY5.out.keeps.heap HA3.out trivial); obtain ⟨b0, b1, _, _⟩ := cells_of (HY5.out.keeps.heap HB3.out trivial); clear hx)
      | ((with_reducible refine (CK1.out _ (HR3.out.ext HY5.out)).mono ?_); rintro e W6 ⟨rfl, hx⟩; clear s0 s1 b0 b1; have HY6 := Lib.hid (HY5.out.trans hx); obtain ⟨s0, s1, _, _⟩ := cells_of (HY6.out.keeps.heap HA3.out trivial); obtain ⟨b0, b1, _, _⟩ := cells_of (HY6.out.keeps.heap HB3.out trivial); clear hx)
      | ((with_reducible refine (CK2.out _ (HR3.out.ext HY6.out)).mono ?_); rintro e W7 ⟨rfl, hx⟩; clear s0 s1 b0 b1; have HY7 := Lib.hid (HY6.out.trans hx); clear hx))
    go_ret
    first
      | exact ⟨rfl, (HK.out.trans (HY7.out.keeps.mono fun _ _ _ => trivial)).ext fun j h => h⟩
      | exact ⟨rfl, (HK.out.trans (HY6.out.keeps.mono fun _ _ _ => trivial)).ext fun j h => h⟩
      | exact ⟨rfl, (HK.out.trans (HY4.out.keeps.mono fun _ _ _ => trivial)).ext fun j h => h⟩
      | exact ⟨rfl, HX.out.trans HX3.out⟩
      | exact ⟨rfl, HX.out.trans HX2.out⟩
  have hci : (c.size : Int) ≤ 1000 := by omega
  clear hc
  cases hap2 : apartB l with
  | false =>
    rw [hap2] at CA
    clear hap2 hv
    go_enter Try.func8, Try.ntmps8
    go_wp2_with (first
      | ((with_reducible refine (CL.out _).mono ?_); rintro e W1 ⟨rfl, hx⟩; have HX1 := Lib.hid hx; obtain ⟨a0, a1, a2, a3⟩ := cells_of (HX1.out.keeps.heap HA.out trivial); clear hx)
      | ((with_reducible refine (CM.out _).mono ?_); rintro e W2 ⟨rfl, hx⟩; clear a0 a1 a2 a3; have HX2 := Lib.hid (HX1.out.trans hx); obtain ⟨a0, a1, a2, a3⟩ := cells_of (HX2.out.keeps.heap HA.out trivial); clear hx)
      | ((with_reducible refine (CA.out _ (Hr.out.ext (HX.out.trans HX2.out))).mono ?_); rintro e W3 ⟨rfl, hx⟩; clear a0 a1 a2 a3; have HX3 := Lib.hid (HX2.out.trans hx); have HA2 := Lib.hid (HX3.out.keeps.heap HA.out trivial); have HA3 := Lib.hid (set_fst HA2.out (.bool true)); have HK3 : Hid (Keeps (fun j => j ≠ w.heap.size) W3 (W3.setCell ⟨w.heap.size, 0, none⟩ (.bool true))) := Lib.hid ((Keeps.refl _ _).setCell (by simp) _); have HB3 := Lib.hid (HK3.out.heap (HX3.out.keeps.heap HB.out trivial) (by omega)); have HK : Hid (Keeps (fun j => j < w.heap.size) w (W3.setCell ⟨w.heap.size, 0, none⟩ (.bool true))) := Lib.hid ((HKX.out.trans (HX3.out.keeps.mono fun _ _ _ => trivial)).trans (HK3.out.mono fun j _ h => by omega)); have HR3 := Lib.hid (Hr.out.keep HK.out fun j h => h); obtain ⟨a0, a1, a2, a3⟩ := cells_of HA2.out; obtain ⟨s0, s1, _, _⟩ := cells_of HA3.out; obtain ⟨b0, b1, _, _⟩ := cells_of HB3.out; clear hx)
      | ((with_reducible refine (CV.out _ HR3.out).mono ?_); rintro e W4 ⟨rfl, hx⟩; clear a0 a1 a2 a3 s0 s1 b0 b1; have HY4 := Lib.hid hx; clear hx)
      | ((with_reducible refine (CT.out H8.out H16.out _).mono ?_); rintro e W5 ⟨rfl, hx⟩; have HY5 := Lib.hid (HY4.out.trans hx); obtain ⟨s0, s1, _, _⟩ := cells_of (HY5.out.keeps.heap HA3.out trivial); obtain ⟨b0, b1, _, _⟩ := cells_of (HY5.out.keeps.heap HB3.out trivial); clear hx)
      | ((with_reducible refine (CK1.out _ (HR3.out.ext HY5.out)).mono ?_); rintro e W6 ⟨rfl, hx⟩; clear s0 s1 b0 b1; have HY6 := Lib.hid (HY5.out.trans hx); obtain ⟨s0, s1, _, _⟩ := cells_of (HY6.out.keeps.heap HA3.out trivial); obtain ⟨b0, b1, _, _⟩ := cells_of (HY6.out.keeps.heap HB3.out trivial); clear hx)
      | ((with_reducible refine (CK2.out _ (HR3.out.ext HY6.out)).mono ?_); rintro e W7 ⟨rfl, hx⟩; clear s0 s1 b0 b1; have HY7 := Lib.hid (HY6.out.trans hx); clear hx))
    go_ret
    first
      | exact ⟨rfl, (HK.out.trans (HY7.out.keeps.mono fun _ _ _ => trivial)).ext fun j h => h⟩
      | exact ⟨rfl, (HK.out.trans (HY6.out.keeps.mono fun _ _ _ => trivial)).ext fun j h => h⟩
      | exact ⟨rfl, (HK.out.trans (HY4.out.keeps.mono fun _ _ _ => trivial)).ext fun j h => h⟩
      | exact ⟨rfl, HX.out.trans HX3.out⟩
      | exact ⟨rfl, HX.out.trans HX2.out⟩
  | true =>
    rw [hap2] at CA
    clear hap2
    rcases hv with hre | ⟨rfl, h8, h16, hq⟩
    · go_enter Try.func8, Try.ntmps8
      go_wp2_with (first
        | ((with_reducible refine (CL.out _).mono ?_); rintro e W1 ⟨rfl, hx⟩; have HX1 := Lib.hid hx; obtain ⟨a0, a1, a2, a3⟩ := cells_of (HX1.out.keeps.heap HA.out trivial); clear hx)
        | ((with_reducible refine (CM.out _).mono ?_); rintro e W2 ⟨rfl, hx⟩; clear a0 a1 a2 a3; have HX2 := Lib.hid (HX1.out.trans hx); obtain ⟨a0, a1, a2, a3⟩ := cells_of (HX2.out.keeps.heap HA.out trivial); clear hx)
        | ((with_reducible refine (CA.out _ (Hr.out.ext (HX.out.trans HX2.out))).mono ?_); rintro e W3 ⟨rfl, hx⟩; clear a0 a1 a2 a3; have HX3 := Lib.hid (HX2.out.trans hx); have HA2 := Lib.hid (HX3.out.keeps.heap HA.out trivial); have HA3 := Lib.hid (set_fst HA2.out (.bool true)); have HK3 : Hid (Keeps (fun j => j ≠ w.heap.size) W3 (W3.setCell ⟨w.heap.size, 0, none⟩ (.bool true))) := Lib.hid ((Keeps.refl _ _).setCell (by simp) _); have HB3 := Lib.hid (HK3.out.heap (HX3.out.keeps.heap HB.out trivial) (by omega)); have HK : Hid (Keeps (fun j => j < w.heap.size) w (W3.setCell ⟨w.heap.size, 0, none⟩ (.bool true))) := Lib.hid ((HKX.out.trans (HX3.out.keeps.mono fun _ _ _ => trivial)).trans (HK3.out.mono fun j _ h => by omega)); have HR3 := Lib.hid (Hr.out.keep HK.out fun j h => h); obtain ⟨a0, a1, a2, a3⟩ := cells_of HA2.out; obtain ⟨s0, s1, _, _⟩ := cells_of HA3.out; obtain ⟨b0, b1, _, _⟩ := cells_of HB3.out; clear hx)
        | ((with_reducible refine (CV.out _ HR3.out).mono ?_); rintro e W4 ⟨rfl, hx⟩; clear a0 a1 a2 a3 s0 s1 b0 b1; have HY4 := Lib.hid hx; clear hx)
        | ((with_reducible refine (CT.out H8.out H16.out _).mono ?_); rintro e W5 ⟨rfl, hx⟩; have HY5 := Lib.hid (HY4.out.trans hx); obtain ⟨s0, s1, _, _⟩ := cells_of (HY5.out.keeps.heap HA3.out trivial); obtain ⟨b0, b1, _, _⟩ := cells_of (HY5.out.keeps.heap HB3.out trivial); clear hx)
        | ((with_reducible refine (CK1.out _ (HR3.out.ext HY5.out)).mono ?_); rintro e W6 ⟨rfl, hx⟩; clear s0 s1 b0 b1; have HY6 := Lib.hid (HY5.out.trans hx); obtain ⟨s0, s1, _, _⟩ := cells_of (HY6.out.keeps.heap HA3.out trivial); obtain ⟨b0, b1, _, _⟩ := cells_of (HY6.out.keeps.heap HB3.out trivial); clear hx)
        | ((with_reducible refine (CK2.out _ (HR3.out.ext HY6.out)).mono ?_); rintro e W7 ⟨rfl, hx⟩; clear s0 s1 b0 b1; have HY7 := Lib.hid (HY6.out.trans hx); clear hx))
      go_ret
      first
        | exact ⟨rfl, (HK.out.trans (HY7.out.keeps.mono fun _ _ _ => trivial)).ext fun j h => h⟩
        | exact ⟨rfl, (HK.out.trans (HY6.out.keeps.mono fun _ _ _ => trivial)).ext fun j h => h⟩
        | exact ⟨rfl, (HK.out.trans (HY4.out.keeps.mono fun _ _ _ => trivial)).ext fun j h => h⟩
        | exact ⟨rfl, HX.out.trans HX3.out⟩
        | exact ⟨rfl, HX.out.trans HX2.out⟩
    · have H8 := Lib.hid h8
      have H16 := Lib.hid h16
      have h16i : (sv.size : Int) = 16 := by omega
      clear h8 h16
      rw [show (16 : Nat) = sv.size from H16.out.symm] at hq
      cases hzz : ((sv.extract 8 sv.size).toList == [0, 0, 0, 0, 0, 0, 0, 0]) with
      | true =>
        clear hq
        go_enter Try.func8, Try.ntmps8
        go_wp2_with (first
          | ((with_reducible refine (CL.out _).mono ?_); rintro e W1 ⟨rfl, hx⟩; have HX1 := Lib.hid hx; obtain ⟨a0, a1, a2, a3⟩ := cells_of (HX1.out.keeps.heap HA.out trivial); clear hx)
          | ((with_reducible refine (CM.out _).mono ?_); rintro e W2 ⟨rfl, hx⟩; clear a0 a1 a2 a3; have HX2 := Lib.hid (HX1.out.trans hx); obtain ⟨a0, a1, a2, a3⟩ := cells_of (HX2.out.keeps.heap HA.out trivial); clear hx)
          | ((with_reducible refine (CA.out _ (Hr.out.ext (HX.out.trans HX2.out))).mono ?_); rintro e W3 ⟨rfl, hx⟩; clear a0 a1 a2 a3; have HX3 := Lib.hid (HX2.out.trans hx); have HA2 := Lib.hid (HX3.out.keeps.heap HA.out trivial); have HA3 := Lib.hid (set_fst HA2.out (.bool true)); have HK3 : Hid (Keeps (fun j => j ≠ w.heap.size) W3 (W3.setCell ⟨w.heap.size, 0, none⟩ (.bool true))) := Lib.hid ((Keeps.refl _ _).setCell (by simp) _); have HB3 := Lib.hid (HK3.out.heap (HX3.out.keeps.heap HB.out trivial) (by omega)); have HK : Hid (Keeps (fun j => j < w.heap.size) w (W3.setCell ⟨w.heap.size, 0, none⟩ (.bool true))) := Lib.hid ((HKX.out.trans (HX3.out.keeps.mono fun _ _ _ => trivial)).trans (HK3.out.mono fun j _ h => by omega)); have HR3 := Lib.hid (Hr.out.keep HK.out fun j h => h); obtain ⟨a0, a1, a2, a3⟩ := cells_of HA2.out; obtain ⟨s0, s1, _, _⟩ := cells_of HA3.out; obtain ⟨b0, b1, _, _⟩ := cells_of HB3.out; clear hx)
          | ((with_reducible refine (CV.out _ HR3.out).mono ?_); rintro e W4 ⟨rfl, hx⟩; clear a0 a1 a2 a3 s0 s1 b0 b1; have HY4 := Lib.hid hx; clear hx)
          | ((with_reducible refine (CT.out H8.out H16.out _).mono ?_); rintro e W5 ⟨rfl, hx⟩; have HY5 := Lib.hid (HY4.out.trans hx); obtain ⟨s0, s1, _, _⟩ := cells_of (HY5.out.keeps.heap HA3.out trivial); obtain ⟨b0, b1, _, _⟩ := cells_of (HY5.out.keeps.heap HB3.out trivial); clear hx)
          | ((with_reducible refine (CK1.out _ (HR3.out.ext HY5.out)).mono ?_); rintro e W6 ⟨rfl, hx⟩; clear s0 s1 b0 b1; have HY6 := Lib.hid (HY5.out.trans hx); obtain ⟨s0, s1, _, _⟩ := cells_of (HY6.out.keeps.heap HA3.out trivial); obtain ⟨b0, b1, _, _⟩ := cells_of (HY6.out.keeps.heap HB3.out trivial); clear hx)
          | ((with_reducible refine (CK2.out _ (HR3.out.ext HY6.out)).mono ?_); rintro e W7 ⟨rfl, hx⟩; clear s0 s1 b0 b1; have HY7 := Lib.hid (HY6.out.trans hx); clear hx))
        go_ret
        first
          | exact ⟨rfl, (HK.out.trans (HY7.out.keeps.mono fun _ _ _ => trivial)).ext fun j h => h⟩
          | exact ⟨rfl, (HK.out.trans (HY6.out.keeps.mono fun _ _ _ => trivial)).ext fun j h => h⟩
          | exact ⟨rfl, (HK.out.trans (HY4.out.keeps.mono fun _ _ _ => trivial)).ext fun j h => h⟩
          | exact ⟨rfl, HX.out.trans HX3.out⟩
          | exact ⟨rfl, HX.out.trans HX2.out⟩
      | false =>
        cases q1 with
        | true =>
          clear hq
          go_enter Try.func8, Try.ntmps8
          go_wp2_with (first
            | ((with_reducible refine (CL.out _).mono ?_); rintro e W1 ⟨rfl, hx⟩; have HX1 := Lib.hid hx; obtain ⟨a0, a1, a2, a3⟩ := cells_of (HX1.out.keeps.heap HA.out trivial); clear hx)
            | ((with_reducible refine (CM.out _).mono ?_); rintro e W2 ⟨rfl, hx⟩; clear a0 a1 a2 a3; have HX2 := Lib.hid (HX1.out.trans hx); obtain ⟨a0, a1, a2, a3⟩ := cells_of (HX2.out.keeps.heap HA.out trivial); clear hx)
            | ((with_reducible refine (CA.out _ (Hr.out.ext (HX.out.trans HX2.out))).mono ?_); rintro e W3 ⟨rfl, hx⟩; clear a0 a1 a2 a3; have HX3 := Lib.hid (HX2.out.trans hx); have HA2 := Lib.hid (HX3.out.keeps.heap HA.out trivial); have HA3 := Lib.hid (set_fst HA2.out (.bool true)); have HK3 : Hid (Keeps (fun j => j ≠ w.heap.size) W3 (W3.setCell ⟨w.heap.size, 0, none⟩ (.bool true))) := Lib.hid ((Keeps.refl _ _).setCell (by simp) _); have HB3 := Lib.hid (HK3.out.heap (HX3.out.keeps.heap HB.out trivial) (by omega)); have HK : Hid (Keeps (fun j => j < w.heap.size) w (W3.setCell ⟨w.heap.size, 0, none⟩ (.bool true))) := Lib.hid ((HKX.out.trans (HX3.out.keeps.mono fun _ _ _ => trivial)).trans (HK3.out.mono fun j _ h => by omega)); have HR3 := Lib.hid (Hr.out.keep HK.out fun j h => h); obtain ⟨a0, a1, a2, a3⟩ := cells_of HA2.out; obtain ⟨s0, s1, _, _⟩ := cells_of HA3.out; obtain ⟨b0, b1, _, _⟩ := cells_of HB3.out; clear hx)
            | ((with_reducible refine (CV.out _ HR3.out).mono ?_); rintro e W4 ⟨rfl, hx⟩; clear a0 a1 a2 a3 s0 s1 b0 b1; have HY4 := Lib.hid hx; clear hx)
            | ((with_reducible refine (CT.out H8.out H16.out _).mono ?_); rintro e W5 ⟨rfl, hx⟩; have HY5 := Lib.hid (HY4.out.trans hx); obtain ⟨s0, s1, _, _⟩ := cells_of (HY5.out.keeps.heap HA3.out trivial); obtain ⟨b0, b1, _, _⟩ := cells_of (HY5.out.keeps.heap HB3.out trivial); clear hx)
            | ((with_reducible refine (CK1.out _ (HR3.out.ext HY5.out)).mono ?_); rintro e W6 ⟨rfl, hx⟩; clear s0 s1 b0 b1; have HY6 := Lib.hid (HY5.out.trans hx); obtain ⟨s0, s1, _, _⟩ := cells_of (HY6.out.keeps.heap HA3.out trivial); obtain ⟨b0, b1, _, _⟩ := cells_of (HY6.out.keeps.heap HB3.out trivial); clear hx)
            | ((with_reducible refine (CK2.out _ (HR3.out.ext HY6.out)).mono ?_); rintro e W7 ⟨rfl, hx⟩; clear s0 s1 b0 b1; have HY7 := Lib.hid (HY6.out.trans hx); clear hx))
          go_ret
          first
            | exact ⟨rfl, (HK.out.trans (HY7.out.keeps.mono fun _ _ _ => trivial)).ext fun j h => h⟩
            | exact ⟨rfl, (HK.out.trans (HY6.out.keeps.mono fun _ _ _ => trivial)).ext fun j h => h⟩
            | exact ⟨rfl, (HK.out.trans (HY4.out.keeps.mono fun _ _ _ => trivial)).ext fun j h => h⟩
            | exact ⟨rfl, HX.out.trans HX3.out⟩
            | exact ⟨rfl, HX.out.trans HX2.out⟩
        | false =>
          obtain rfl : q2 = true := by
            rcases hq hzz with h | h
            · cases h
            · exact h
          clear hq
          go_enter Try.func8, Try.ntmps8
          go_wp2_with (first
            | ((with_reducible refine (CL.out _).mono ?_); rintro e W1 ⟨rfl, hx⟩; have HX1 := Lib.hid hx; obtain ⟨a0, a1, a2, a3⟩ := cells_of (HX1.out.keeps.heap HA.out trivial); clear hx)
            | ((with_reducible refine (CM.out _).mono ?_); rintro e W2 ⟨rfl, hx⟩; clear a0 a1 a2 a3; have HX2 := Lib.hid (HX1.out.trans hx); obtain ⟨a0, a1, a2, a3⟩ := cells_of (HX2.out.keeps.heap HA.out trivial); clear hx)
            | ((with_reducible refine (CA.out _ (Hr.out.ext (HX.out.trans HX2.out))).mono ?_); rintro e W3 ⟨rfl, hx⟩; clear a0 a1 a2 a3; have HX3 := Lib.hid (HX2.out.trans hx); have HA2 := Lib.hid (HX3.out.keeps.heap HA.out trivial); have HA3 := Lib.hid (set_fst HA2.out (.bool true)); have HK3 : Hid (Keeps (fun j => j ≠ w.heap.size) W3 (W3.setCell ⟨w.heap.size, 0, none⟩ (.bool true))) := Lib.hid ((Keeps.refl _ _).setCell (by simp) _); have HB3 := Lib.hid (HK3.out.heap (HX3.out.keeps.heap HB.out trivial) (by omega)); have HK : Hid (Keeps (fun j => j < w.heap.size) w (W3.setCell ⟨w.heap.size, 0, none⟩ (.bool true))) := Lib.hid ((HKX.out.trans (HX3.out.keeps.mono fun _ _ _ => trivial)).trans (HK3.out.mono fun j _ h => by omega)); have HR3 := Lib.hid (Hr.out.keep HK.out fun j h => h); obtain ⟨a0, a1, a2, a3⟩ := cells_of HA2.out; obtain ⟨s0, s1, _, _⟩ := cells_of HA3.out; obtain ⟨b0, b1, _, _⟩ := cells_of HB3.out; clear hx)
            | ((with_reducible refine (CV.out _ HR3.out).mono ?_); rintro e W4 ⟨rfl, hx⟩; clear a0 a1 a2 a3 s0 s1 b0 b1; have HY4 := Lib.hid hx; clear hx)
            | ((with_reducible refine (CT.out H8.out H16.out _).mono ?_); rintro e W5 ⟨rfl, hx⟩; have HY5 := Lib.hid (HY4.out.trans hx); obtain ⟨s0, s1, _, _⟩ := cells_of (HY5.out.keeps.heap HA3.out trivial); obtain ⟨b0, b1, _, _⟩ := cells_of (HY5.out.keeps.heap HB3.out trivial); clear hx)
            | ((with_reducible refine (CK1.out _ (HR3.out.ext HY5.out)).mono ?_); rintro e W6 ⟨rfl, hx⟩; clear s0 s1 b0 b1; have HY6 := Lib.hid (HY5.out.trans hx); obtain ⟨s0, s1, _, _⟩ := cells_of (HY6.out.keeps.heap HA3.out trivial); obtain ⟨b0, b1, _, _⟩ := cells_of (HY6.out.keeps.heap HB3.out trivial); clear hx)
            | ((with_reducible refine (CK2.out _ (HR3.out.ext HY6.out)).mono ?_); rintro e W7 ⟨rfl, hx⟩; clear s0 s1 b0 b1; have HY7 := Lib.hid (HY6.out.trans hx); clear hx))
          go_ret
          first
            | exact ⟨rfl, (HK.out.trans (HY7.out.keeps.mono fun _ _ _ => trivial)).ext fun j h => h⟩
            | exact ⟨rfl, (HK.out.trans (HY6.out.keeps.mono fun _ _ _ => trivial)).ext fun j h => h⟩
            | exact ⟨rfl, (HK.out.trans (HY4.out.keeps.mono fun _ _ _ => trivial)).ext fun j h => h⟩
            | exact ⟨rfl, HX.out.trans HX3.out⟩
            | exact ⟨rfl, HX.out.trans HX2.out⟩

theorem giveOwn_args (o : Bool) (v : Value) (l : List SumC) (sn sw c sv : ByteArray) (n now : Int) (w : World) (hr : SRow w v 3 (l.map SumC.cells)) (hf : ∀ x ∈ l, x.fit) (_ : sn.size ≤ maxLen ∧ sw.size ≤ maxLen) (_ : c.size ≤ maxLen) (_ : sv.size ≤ maxLen) (hn : (Lit.int .u32 n).wf = true) (_ : (Lit.int .i64 now).wf = true) :
    Calls Try.prog 8 #[.agg #[.bool o, v], .agg #[.string sn, .string sw], .string c, .string sv, .int .u32 n, .int .i64 now] w fun e w' => e = .returned (.bool true) ∧ Ext w w' := by
  obtain ⟨m, rfl, hm⟩ := wf_nat32 hn
  exact giveOwn_walk l v o sn sw c sv m now w hr hf hm
end Go.Proofs.Ytjnaknfnoibncaa
