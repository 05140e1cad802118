/- hardtacklaw09.KeyedTells answers true, and leaves what lay as it lay. Conditions: numbers and texts of their kinds. -/
import Derived.Test.YtnfnjhphamadgaaKeyRefB
import Derived.Test.YtnfnjhphamadgaaKeyRefC
import Derived.Test.YtnfnjhphamadgaaKeyRefE
namespace Go.Proofs.Ytnfnjhphamadgaa
open Go Go.RowKit Go.Shelf
attribute [local go_sem] Oper.semAt_some wide_fn wide_depth

set_option maxRecDepth 100000 in
set_option maxHeartbeats 4000000 in
theorem keyedTells_walk (l : List SumC) (v : Value) (o : Bool) (k s : ByteArray) (n : Nat) (w : World) (hr : SRow w v 3 (l.map SumC.cells)) (hf : ∀ x ∈ l, x.fit) :
    Calls Try.prog 3 #[.agg #[.bool o, v], .string k, .string s, .int .u64 (n : Int)] w fun e w' => e = .returned (.bool true) ∧ Ext w w' := by
  have Hr := Lib.hid hr
  obtain ⟨ao, ac, rfl, hlm⟩ := hr.open
  rw [List.length_map] at Hr hlm ⊢
  clear hr hlm
  have CL := Lib.hid fun W => L9.lives_any W
  have CM := Lib.hid fun W => Small9_any ao l.length ac o W
  have HB := Lib.hid (World.alloc_heap_new w (.cells #[.bool o, .slice ao l.length ac] 24))
  have HX0 := Lib.hid ((Ext.refl w).alloc (.cells #[.bool o, .slice ao l.length ac] 24))
  by_cases hb : 60 < l.length
  · rw [if_pos hb] at CM
    clear hb
    go_enter Try.func3, Try.ntmps3
    go_wp2_with (first
      | ((with_reducible refine (CM.out _).mono ?_); rintro e W1 ⟨rfl, hx⟩; have HX1 := Lib.hid hx; obtain ⟨ha0, ha1, _, _⟩ := cells_of (HX1.out.keeps.heap HB.out trivial); clear hx)
      | ((with_reducible refine (CL.out _).mono ?_); rintro e W2 ⟨rfl, hx⟩; have HX2 := Lib.hid (HX1.out.trans hx); clear hx))
    go_ret
    exact ⟨rfl, HX0.out.trans HX2.out⟩
  rw [if_neg hb] at CM
  by_cases h1 : 4096 < s.size ∧ s.size ≤ 65536
  · have h2 : (4096 : Int) < s.size := by omega
    have h3 : (s.size : Int) ≤ 65536 := by omega
    clear h1
    go_enter Try.func3, Try.ntmps3
    go_wp2_with (first
      | ((with_reducible refine (CM.out _).mono ?_); rintro e W1 ⟨rfl, hx⟩; have HX1 := Lib.hid hx; obtain ⟨ha0, ha1, _, _⟩ := cells_of (HX1.out.keeps.heap HB.out trivial); clear hx)
      | ((with_reducible refine (CL.out _).mono ?_); rintro e W2 ⟨rfl, hx⟩; have HX2 := Lib.hid (HX1.out.trans hx); clear hx))
    go_ret
    exact ⟨rfl, HX0.out.trans HX2.out⟩
  have h1' : (s.size : Int) ≤ 4096 ∨ ((4096 : Int) < s.size ∧ (65536 : Int) < s.size) := by omega
  have CO1 := Lib.hid fun W h => HOf_any l (.slice ao l.length ac) o k s W h
  have CO2 := Lib.hid fun W h => ROf9_any l (.slice ao l.length ac) o k s W h
  have CP1 := Lib.hid fun W h => HPut_any l (.slice ao l.length ac) o k s n W h
  have CP2 := Lib.hid fun W h => RKPut_any l (.slice ao l.length ac) o k s n W h (by omega)
  have CC1 := Lib.hid fun W h => HCheck_any l (.slice ao l.length ac) o W h fun x hx => ⟨(hf x hx).k, (hf x hx).s⟩
  have CC2 := Lib.hid fun W h => RCheck9_any l (.slice ao l.length ac) o W h
  have CA1 := Lib.hid fun W h => HApart_any l (.slice ao l.length ac) o W h hf
  have CA2 := Lib.hid fun W h => RApart9_any l (.slice ao l.length ac) o W h
  have CK1 := Lib.hid fun W h => Known_any l (.slice ao l.length ac) o k s W h
  have CK2 := Lib.hid fun W h => RKnown_any l (.slice ao l.length ac) o k s W h
  have CS := Lib.hid fun a b W ha hb => RSame9_any (l ++ [(⟨k, s, n⟩ : SumC)]) true a b W ha hb
  have CS0 := Lib.hid fun W => RSame9_any [] false (.slice none 0 0) (.slice none 0 0) W (SRow.nil W 3) (SRow.nil W 3)
  obtain ⟨y, hy⟩ : ∃ y, hashV o l k s = y := ⟨_, rfl⟩
  obtain ⟨ee, he⟩ : ∃ y, sumE k s = y := ⟨_, rfl⟩
  obtain ⟨c0, hc⟩ : ∃ y, checkE l = y := ⟨_, rfl⟩
  obtain ⟨q0, hq⟩ : ∃ y, apartB l = y := ⟨_, rfl⟩
  obtain ⟨kn, hkn⟩ : ∃ y, decide (0 ≤ findI k s l) = y := ⟨_, rfl⟩
  rw [hy, he] at CO1 CO2
  rw [hc] at CC1 CC2
  rw [hq] at CA1 CA2
  rw [hkn] at CK1 CK2
  clear hy he hc hq hkn hf
  obtain ⟨pe, hpe⟩ : ∃ pe, putE l k s = pe := ⟨_, rfl⟩
  have Hpe := Lib.hid hpe; clear hpe
  obtain ⟨nl, hnl⟩ : ∃ nl, l.length = nl := ⟨_, rfl⟩
  rw [hnl] at CM HB HX0 Hr CO1 CO2 CP1 CP2 CC1 CC2 CA1 CA2 CK1 CK2 ⊢
  clear hnl hb h1
  by_cases hp0 : pe = 0
  · subst hp0
    rcases h1' with h1 | ⟨h1, h2⟩
    all_goals
      go_enter Try.func3, Try.ntmps3
      go_wp2_with (first
        | ((with_reducible refine (CM.out _).mono ?_); rintro e W1 ⟨rfl, hx⟩; have HX1 := Lib.hid hx; obtain ⟨ha0, ha1, _, _⟩ := cells_of (HX1.out.keeps.heap HB.out trivial); clear hx)
        | ((with_reducible refine (CO1.out _ (Hr.out.ext (HX0.out.trans HX1.out))).mono ?_); rintro e W2 ⟨rfl, hx⟩; have HX2 := Lib.hid (HX1.out.trans hx); clear ha0 ha1; obtain ⟨ha0, ha1, _, _⟩ := cells_of (HX2.out.keeps.heap HB.out trivial); clear hx)
        | ((with_reducible refine (CO2.out _ (Hr.out.ext (HX0.out.trans HX2.out))).mono ?_); rintro e W3 ⟨rfl, hx⟩; have HX3 := Lib.hid (HX2.out.trans hx); clear ha0 ha1; obtain ⟨ha0, ha1, _, _⟩ := cells_of (HX3.out.keeps.heap HB.out trivial); clear hx)
        | ((with_reducible refine (CP1.out _ (Hr.out.ext (HX0.out.trans HX3.out))).mono ?_); rintro e W4 hp; rcases hp with ⟨hz, _⟩ | ⟨_, v1, rfl, hr4, hx⟩; (exact absurd Hpe.out hz); obtain ⟨co, cn, cc, rfl⟩ := hr4.slice; have HC4 := Lib.hid (World.alloc_heap_new W4 (.cells #[.bool true, .slice co cn cc] 24)); have HR4 := Lib.hid (hr4.ext ((Ext.refl W4).alloc (.cells #[.bool true, .slice co cn cc] 24))); have HX4 := Lib.hid ((HX3.out.trans hx).alloc (.cells #[.bool true, .slice co cn cc] 24)); clear ha0 ha1 hr4 hx; obtain ⟨ha0, ha1, _, _⟩ := cells_of (HX4.out.keeps.heap HB.out trivial))
        | ((with_reducible refine (CP2.out _ (Hr.out.ext (HX0.out.trans HX4.out))).mono ?_); rintro e W5 hp; rcases hp with ⟨hz, _⟩ | ⟨_, v2, rfl, hr5, hx⟩; (exact absurd Hpe.out hz); obtain ⟨eo, en, ec, rfl⟩ := hr5.slice; have HD5 := Lib.hid (World.alloc_heap_new W5 (.cells #[.bool true, .slice eo en ec] 24)); have HR5 := Lib.hid (hr5.ext ((Ext.refl W5).alloc (.cells #[.bool true, .slice eo en ec] 24))); have HX5 := Lib.hid ((HX4.out.trans hx).alloc (.cells #[.bool true, .slice eo en ec] 24)); have HY5 := Lib.hid (hx.alloc (.cells #[.bool true, .slice eo en ec] 24)); clear ha0 ha1 hr5 hx; obtain ⟨ha0, ha1, _, _⟩ := cells_of (HX5.out.keeps.heap HB.out trivial)))
      have TW : Hid (∀ W, Ext (W5.alloc (.cells #[.bool true, .slice eo en ec] 24)) W → W.cell? ⟨w.heap.size, 0, none⟩ = some (.bool o) ∧ W.cell? ⟨w.heap.size, 1, none⟩ = some (.slice ao nl ac) ∧ W.cell? ⟨W4.heap.size, 0, none⟩ = some (.bool true) ∧ W.cell? ⟨W4.heap.size, 1, none⟩ = some (.slice co cn cc) ∧ W.cell? ⟨W5.heap.size, 0, none⟩ = some (.bool true) ∧ W.cell? ⟨W5.heap.size, 1, none⟩ = some (.slice eo en ec)) := Lib.hid fun W hx => by
        obtain ⟨g0, g1, _, _⟩ := cells_of ((HX5.out.trans hx).keeps.heap HB.out trivial)
        obtain ⟨x0, x1, _, _⟩ := cells_of ((HY5.out.trans hx).keeps.heap HC4.out trivial)
        obtain ⟨y0, y1, _, _⟩ := cells_of (hx.keeps.heap HD5.out trivial)
        exact ⟨g0, g1, x0, x1, y0, y1⟩
      have hx1 := Lib.hid (Ext.refl (W5.alloc (.cells #[.bool true, .slice eo en ec] 24)))
      have hx1d := Lib.hid ((Ext.refl (W5.alloc (.cells #[.bool true, .slice eo en ec] 24))).drew)
      have HRw := Lib.hid (Hr.out.ext (HX0.out.trans HX5.out))
      clear ha0 ha1
      go_region_held3 (fun w' => w'.cell? ⟨w.heap.size, 0, none⟩ = some (.bool o) ∧ w'.cell? ⟨w.heap.size, 1, none⟩ = some (.slice ao nl ac) ∧ w'.cell? ⟨W4.heap.size, 0, none⟩ = some (.bool true) ∧ w'.cell? ⟨W4.heap.size, 1, none⟩ = some (.slice co cn cc) ∧ w'.cell? ⟨W5.heap.size, 0, none⟩ = some (.bool true) ∧ w'.cell? ⟨W5.heap.size, 1, none⟩ = some (.slice eo en ec))
        (first | exact TW.out _ hx1.out | exact TW.out _ hx1d.out | go_keep)
        (first
          | ((with_reducible refine (CL.out _).mono ?_); rintro e V1 ⟨rfl, hx⟩; replace hx1 := Lib.hid (hx1d.out.trans hx); clear hx)
          | ((with_reducible refine (CC1.out _ (HRw.out.ext hx1.out)).mono ?_); rintro e V2 ⟨rfl, hx⟩; replace hx1 := Lib.hid (hx1.out.trans hx); clear hx)
          | ((with_reducible refine (CC2.out _ (HRw.out.ext hx1.out)).mono ?_); rintro e V3 ⟨rfl, hx⟩; replace hx1 := Lib.hid (hx1.out.trans hx); clear hx)
          | ((with_reducible refine (CA1.out _ (HRw.out.ext hx1.out)).mono ?_); rintro e V4 ⟨rfl, hx⟩; replace hx1 := Lib.hid (hx1.out.trans hx); clear hx)
          | ((with_reducible refine (CA2.out _ (HRw.out.ext hx1.out)).mono ?_); rintro e V5 ⟨rfl, hx⟩; replace hx1 := Lib.hid (hx1.out.trans hx); clear hx)
          | ((with_reducible refine (CK1.out _ (HRw.out.ext hx1.out)).mono ?_); rintro e V6 ⟨rfl, hx⟩; replace hx1 := Lib.hid (hx1.out.trans hx); clear hx)
          | ((with_reducible refine (CK2.out _ (HRw.out.ext hx1.out)).mono ?_); rintro e V7 ⟨rfl, hx⟩; replace hx1 := Lib.hid (hx1.out.trans hx); clear hx)
          | ((with_reducible refine (CS.out _ _ _ ((HR4.out.ext HY5.out).ext hx1.out) (HR5.out.ext hx1.out)).mono ?_); rintro e V8 ⟨rfl, hx⟩; replace hx1 := Lib.hid (hx1.out.trans hx); clear hx))
      have HF : Hid (Ext w _) := Lib.hid (HX0.out.trans (HX5.out.trans hx1.out))
      go_wp2_with fail
      go_ret
      exact ⟨rfl, HF.out⟩
  · rcases h1' with h1 | ⟨h1, h2⟩
    all_goals
      go_enter Try.func3, Try.ntmps3
      go_wp2_with (first
        | ((with_reducible refine (CM.out _).mono ?_); rintro e W1 ⟨rfl, hx⟩; have HX1 := Lib.hid hx; obtain ⟨ha0, ha1, _, _⟩ := cells_of (HX1.out.keeps.heap HB.out trivial); clear hx)
        | ((with_reducible refine (CO1.out _ (Hr.out.ext (HX0.out.trans HX1.out))).mono ?_); rintro e W2 ⟨rfl, hx⟩; have HX2 := Lib.hid (HX1.out.trans hx); clear ha0 ha1; obtain ⟨ha0, ha1, _, _⟩ := cells_of (HX2.out.keeps.heap HB.out trivial); clear hx)
        | ((with_reducible refine (CO2.out _ (Hr.out.ext (HX0.out.trans HX2.out))).mono ?_); rintro e W3 ⟨rfl, hx⟩; have HX3 := Lib.hid (HX2.out.trans hx); clear ha0 ha1; obtain ⟨ha0, ha1, _, _⟩ := cells_of (HX3.out.keeps.heap HB.out trivial); clear hx)
        | ((with_reducible refine (CP1.out _ (Hr.out.ext (HX0.out.trans HX3.out))).mono ?_); rintro e W4 hp; rcases hp with ⟨_, rfl, hx⟩ | ⟨hz, _⟩; rotate_left; (exact absurd (Hpe.out.symm.trans hz) hp0); rw [Hpe.out]; have HC4 := Lib.hid (World.alloc_heap_new W4 (.cells #[.bool false, .slice none 0 0] 24)); have HX4 := Lib.hid ((HX3.out.trans hx).alloc (.cells #[.bool false, .slice none 0 0] 24)); clear ha0 ha1 hx; obtain ⟨ha0, ha1, _, _⟩ := cells_of (HX4.out.keeps.heap HB.out trivial))
        | ((with_reducible refine (CP2.out _ (Hr.out.ext (HX0.out.trans HX4.out))).mono ?_); rintro e W5 hp; rcases hp with ⟨_, rfl, hx⟩ | ⟨hz, _⟩; rotate_left; (exact absurd (Hpe.out.symm.trans hz) hp0); rw [Hpe.out]; have HD5 := Lib.hid (World.alloc_heap_new W5 (.cells #[.bool false, .slice none 0 0] 24)); have HX5 := Lib.hid ((HX4.out.trans hx).alloc (.cells #[.bool false, .slice none 0 0] 24)); have HY5 := Lib.hid (hx.alloc (.cells #[.bool false, .slice none 0 0] 24)); clear ha0 ha1 hx; obtain ⟨ha0, ha1, _, _⟩ := cells_of (HX5.out.keeps.heap HB.out trivial)))
      have TW : Hid (∀ W, Ext (W5.alloc (.cells #[.bool false, .slice none 0 0] 24)) W → W.cell? ⟨w.heap.size, 0, none⟩ = some (.bool o) ∧ W.cell? ⟨w.heap.size, 1, none⟩ = some (.slice ao nl ac) ∧ W.cell? ⟨W4.heap.size, 0, none⟩ = some (.bool false) ∧ W.cell? ⟨W4.heap.size, 1, none⟩ = some (.slice none 0 0) ∧ W.cell? ⟨W5.heap.size, 0, none⟩ = some (.bool false) ∧ W.cell? ⟨W5.heap.size, 1, none⟩ = some (.slice none 0 0)) := Lib.hid fun W hx => by
        obtain ⟨g0, g1, _, _⟩ := cells_of ((HX5.out.trans hx).keeps.heap HB.out trivial)
        obtain ⟨x0, x1, _, _⟩ := cells_of ((HY5.out.trans hx).keeps.heap HC4.out trivial)
        obtain ⟨y0, y1, _, _⟩ := cells_of (hx.keeps.heap HD5.out trivial)
        exact ⟨g0, g1, x0, x1, y0, y1⟩
      have hx1 := Lib.hid (Ext.refl (W5.alloc (.cells #[.bool false, .slice none 0 0] 24)))
      have hx1d := Lib.hid ((Ext.refl (W5.alloc (.cells #[.bool false, .slice none 0 0] 24))).drew)
      have HRw := Lib.hid (Hr.out.ext (HX0.out.trans HX5.out))
      clear ha0 ha1
      go_region_held3 (fun w' => w'.cell? ⟨w.heap.size, 0, none⟩ = some (.bool o) ∧ w'.cell? ⟨w.heap.size, 1, none⟩ = some (.slice ao nl ac) ∧ w'.cell? ⟨W4.heap.size, 0, none⟩ = some (.bool false) ∧ w'.cell? ⟨W4.heap.size, 1, none⟩ = some (.slice none 0 0) ∧ w'.cell? ⟨W5.heap.size, 0, none⟩ = some (.bool false) ∧ w'.cell? ⟨W5.heap.size, 1, none⟩ = some (.slice none 0 0))
        (first | exact TW.out _ hx1.out | exact TW.out _ hx1d.out | go_keep)
        (first
          | ((with_reducible refine (CL.out _).mono ?_); rintro e V1 ⟨rfl, hx⟩; replace hx1 := Lib.hid (hx1d.out.trans hx); clear hx)
          | ((with_reducible refine (CC1.out _ (HRw.out.ext hx1.out)).mono ?_); rintro e V2 ⟨rfl, hx⟩; replace hx1 := Lib.hid (hx1.out.trans hx); clear hx)
          | ((with_reducible refine (CC2.out _ (HRw.out.ext hx1.out)).mono ?_); rintro e V3 ⟨rfl, hx⟩; replace hx1 := Lib.hid (hx1.out.trans hx); clear hx)
          | ((with_reducible refine (CA1.out _ (HRw.out.ext hx1.out)).mono ?_); rintro e V4 ⟨rfl, hx⟩; replace hx1 := Lib.hid (hx1.out.trans hx); clear hx)
          | ((with_reducible refine (CA2.out _ (HRw.out.ext hx1.out)).mono ?_); rintro e V5 ⟨rfl, hx⟩; replace hx1 := Lib.hid (hx1.out.trans hx); clear hx)
          | ((with_reducible refine (CK1.out _ (HRw.out.ext hx1.out)).mono ?_); rintro e V6 ⟨rfl, hx⟩; replace hx1 := Lib.hid (hx1.out.trans hx); clear hx)
          | ((with_reducible refine (CK2.out _ (HRw.out.ext hx1.out)).mono ?_); rintro e V7 ⟨rfl, hx⟩; replace hx1 := Lib.hid (hx1.out.trans hx); clear hx)
          | ((with_reducible refine (CS0.out _).mono ?_); rintro e V8 ⟨rfl, hx⟩; replace hx1 := Lib.hid (hx1.out.trans hx); clear hx))
      have HF : Hid (Ext w _) := Lib.hid (HX0.out.trans (HX5.out.trans hx1.out))
      go_wp2_with fail
      go_ret
      exact ⟨rfl, HF.out⟩

theorem keyedTells_args (o : Bool) (v : Value) (l : List SumC) (k s : ByteArray) (n : Int) (w : World) (hr : SRow w v 3 (l.map SumC.cells)) (hf : ∀ x ∈ l, x.fit) (_ : k.size ≤ maxLen) (_ : s.size ≤ maxLen) (hn : (Lit.int .u64 n).wf = true) :
    Calls Try.prog 3 #[.agg #[.bool o, v], .string k, .string s, .int .u64 n] w fun e w' => e = .returned (.bool true) ∧ Ext w w' := by
  have h := wf_u64 hn
  obtain ⟨m, rfl⟩ := Int.eq_ofNat_of_zero_le h.1
  exact keyedTells_walk l v o k s m w hr hf
end Go.Proofs.Ytnfnjhphamadgaa
