/- hardtacklaw09.KeyedPut answers true, and leaves what lay as it lay. Conditions: numbers and texts of their kinds. -/
import Derived.Test.YtnfnjhphamadgaaHashF
import Derived.Test.YtnfnjhphamadgaaHashArgs
namespace Go.Proofs.Ytnfnjhphamadgaa
open Go Go.RowKit Go.Shelf
attribute [local go_sem] Oper.semAt_some wide_fn wide_depth

theorem findN_snoc (k s : ByteArray) (x : SumC) : ∀ l : List SumC, findN k s (l ++ [x]) = match findN k s l with | some i => some i | none => if x.is k s then some l.length else none
  | [] => by simp [findN]
  | y :: l => by
    rw [List.cons_append]
    unfold findN
    by_cases h : y.is k s
    · simp [h]
    · simp only [h, if_false, findN_snoc k s x l, Bool.false_eq_true]
      cases findN k s l with
      | some i => simp
      | none => by_cases h2 : x.is k s <;> simp [h2]
theorem findN_lt {k s : ByteArray} {l : List SumC} {i : Nat} (h : findN k s l = some i) : i < l.length := by
  obtain ⟨x, hx, _⟩ := findN_some h
  exact (List.getElem?_eq_some_iff.1 hx).1
theorem findI_neg {k s : ByteArray} {l : List SumC} : ¬ 0 ≤ findI k s l ↔ findN k s l = none := by
  unfold findI
  cases findN k s l with
  | none => simp
  | some i => simp
theorem putE_ok {l : List SumC} {k s : ByteArray} (h : putE l k s = 0) : sumE k s = 0 ∧ findN k s l = none ∧ l.length < 4096 := by
  unfold putE at h
  split at h
  · rename_i h1; exact absurd h h1
  · rename_i h1
    split at h
    · cases h
    · rename_i h2
      split at h
      · cases h
      · exact ⟨by simpa using h1, findI_neg.1 h2, by omega⟩
theorem entryN_put {l : List SumC} {k s : ByteArray} (n : Nat) (h : findN k s l = none) : entryN k s (l ++ [⟨k, s, n⟩]) = n := by
  have hs : (⟨k, s, n⟩ : SumC).is k s = true := by rw [is_eq]; simp [SumC.pair]
  unfold entryN
  rw [findN_snoc, h]
  simp [hs]
theorem entryN_other {l : List SumC} {k s k2 s2 : ByteArray} (n : Nat) (h : (k, s) ≠ (k2, s2)) : entryN k2 s2 (l ++ [⟨k, s, n⟩]) = entryN k2 s2 l := by
  have hs : (⟨k, s, n⟩ : SumC).is k2 s2 = false := by rw [is_eq, decide_eq_false_iff_not]; exact h
  unfold entryN
  rw [findN_snoc, hs]
  cases hf : findN k2 s2 l with
  | none => simp
  | some i =>
    have hi := findN_lt hf
    simp only
    rw [List.getElem?_append_left hi]
theorem sumE_key {k s : ByteArray} (h : sumE k s = 0) : k.size = 16 := by
  unfold sumE at h
  split at h
  · assumption
  · cases h
theorem right_put {l : List SumC} {k s : ByteArray} {n : Nat} (h : putE l k s = 0) (hr : rightB l = true) : rightB (l ++ [⟨k, s, n⟩]) = true := by
  obtain ⟨h1, h2, h3⟩ := putE_ok h
  unfold rightB at hr ⊢
  rw [decide_eq_true_iff] at hr ⊢
  obtain ⟨r1, r2, r3⟩ := hr
  refine ⟨by rw [List.length_append]; simp; omega, fun x hx => ?_, ?_⟩
  · rcases List.mem_append.1 hx with hx | hx
    · exact r2 x hx
    · rw [List.mem_singleton] at hx
      subst hx
      exact sumE_key h1
  · rw [List.map_append, List.nodup_append]
    refine ⟨r3, by simp, fun a ha b hb => ?_⟩
    simp at hb
    subst hb
    intro e
    subst e
    obtain ⟨y, hy, e⟩ := List.mem_map.1 ha
    obtain ⟨i, hi⟩ := List.getElem?_of_mem hy
    have : findN k s l ≠ none := by
      intro hn
      have hall : ∀ (L : List SumC), y ∈ L → findN k s L ≠ none := by
        intro L
        induction L with
        | nil => intro h; cases h
        | cons z L ih =>
          intro hm
          unfold findN
          by_cases hz : z.is k s
          · simp [hz]
          · simp only [hz, if_false, Bool.false_eq_true]
            rcases List.mem_cons.1 hm with rfl | hm
            · exact absurd (by rw [is_eq, decide_eq_true_iff]; exact e) hz
            · intro h0
              rw [Option.map_eq_none_iff] at h0
              exact ih hm h0
      exact hall l hy hn
    exact this h2
theorem set_fst {w : World} {b : Nat} {x0 y0 : Value} {t : TypeId} {fr : Nat × Nat} (h : w.heap[b]? = some (.cells #[x0, y0] t fr)) (x : Value) :
    (w.setCell ⟨b, 0, none⟩ x).heap[b]? = some (.cells #[x, y0] t fr) := by
  obtain ⟨hlt, hk⟩ := Array.getElem?_eq_some_iff.1 h
  show (w.heap.modify b _)[b]? = _
  rw [Array.getElem?_eq_getElem (by rw [Array.size_modify]; exact hlt), Array.getElem_modify_self, hk]
  simp
theorem cells_of {w : World} {b : Nat} {x y : Value} {t : TypeId} (h : w.heap[b]? = some (.cells #[x, y] t (0, 0))) : w.cell? ⟨b, 0, none⟩ = some x ∧ w.cell? ⟨b, 1, none⟩ = some y ∧ w.frozen? ⟨b, 0, none⟩ = false ∧ w.frozen? ⟨b, 1, none⟩ = false := by
  exact ⟨by simp [World.cell?, h], by simp [World.cell?, h], by simp [World.frozen?, h], by simp [World.frozen?, h]⟩

set_option maxRecDepth 100000 in
set_option maxHeartbeats 4000000 in
theorem keyedPut_walk (l : List SumC) (v : Value) (o : Bool) (k s k2 s2 : ByteArray) (n : Nat) (w : World) (hr : SRow w v 3 (l.map SumC.cells)) (hf : ∀ x ∈ l, x.fit) (hk : k.size ≤ maxLen) (hs : s.size ≤ maxLen) (hn : n < 18446744073709551616) :
    Calls Try.prog 4 #[.agg #[.bool o, v], .string k, .string s, .int .u64 (n : Int), .string k2, .string s2] w fun e w' => e = .returned (.bool true) ∧ Ext w w' := by
  have Hr := Lib.hid hr
  obtain ⟨ao, ac, rfl, hlm⟩ := hr.open
  rw [List.length_map] at Hr hlm ⊢
  clear hr
  have CL := Lib.hid fun W => L9.lives_any W
  have CM := Lib.hid fun W => Small9_any ao l.length ac o W
  have HB := Lib.hid (World.alloc_heap_new w (.cells #[.bool o, .slice ao l.length ac] 24))
  have HX0 := Lib.hid ((Ext.refl w).alloc (.cells #[.bool o, .slice ao l.length ac] 24))
  have Hf := Lib.hid hf; clear hf
  have Hfk := Lib.hid hk
  have Hfs := Lib.hid hs
  have Hfn := Lib.hid hn
  clear hk hs hlm hn
  by_cases hb : 60 < l.length
  · rw [if_pos hb] at CM
    clear hb
    go_enter Try.func4, Try.ntmps4
    go_wp2_with (first
      | ((with_reducible refine (CL.out _).mono ?_); rintro e W1 ⟨rfl, hx⟩; obtain ⟨ha0, ha1, hf0, hf1⟩ := cells_of (hx.keeps.heap HB.out trivial); have HX1 := Lib.hid hx; clear hx)
      | ((with_reducible refine (CM.out _).mono ?_); rintro e W2 ⟨rfl, hx⟩; have HX2 := Lib.hid (HX1.out.trans hx); clear hx))
    go_ret
    exact ⟨rfl, HX0.out.trans HX2.out⟩
  rw [if_neg hb] at CM
  by_cases h1 : 4096 < s.size
  · have h1' : (4096 : Int) < s.size := by omega
    go_enter Try.func4, Try.ntmps4
    go_wp2_with (first
      | ((with_reducible refine (CL.out _).mono ?_); rintro e W1 ⟨rfl, hx⟩; obtain ⟨ha0, ha1, hf0, hf1⟩ := cells_of (hx.keeps.heap HB.out trivial); have HX1 := Lib.hid hx; clear hx)
      | ((with_reducible refine (CM.out _).mono ?_); rintro e W2 ⟨rfl, hx⟩; have HX2 := Lib.hid (HX1.out.trans hx); clear hx))
    go_ret
    exact ⟨rfl, HX0.out.trans HX2.out⟩
  have h1' : (s.size : Int) ≤ 4096 := by omega
  by_cases h2 : 4096 < s2.size
  · have h2' : (4096 : Int) < s2.size := by omega
    go_enter Try.func4, Try.ntmps4
    go_wp2_with (first
      | ((with_reducible refine (CL.out _).mono ?_); rintro e W1 ⟨rfl, hx⟩; obtain ⟨ha0, ha1, hf0, hf1⟩ := cells_of (hx.keeps.heap HB.out trivial); have HX1 := Lib.hid hx; clear hx)
      | ((with_reducible refine (CM.out _).mono ?_); rintro e W2 ⟨rfl, hx⟩; have HX2 := Lib.hid (HX1.out.trans hx); clear hx))
    go_ret
    exact ⟨rfl, HX0.out.trans HX2.out⟩
  have h2' : (s2.size : Int) ≤ 4096 := by omega
  clear h1 h2 hb
  obtain ⟨nl, hnl⟩ : ∃ nl, l.length = nl := ⟨_, rfl⟩
  rw [hnl] at CM HB HX0 Hr ⊢
  have Hnl := Lib.hid hnl; clear hnl
  have CP := Lib.hid fun W h => HPut_any l (.slice ao nl ac) true k s n W h
  obtain ⟨pe, hpe⟩ : ∃ pe, putE l k s = pe := ⟨_, rfl⟩
  have Hpe := Lib.hid hpe
  by_cases hp0 : pe = 0
  · subst hp0
    obtain ⟨p1, p2, p3⟩ := putE_ok hpe
    have q1 : hashV true (l ++ [(⟨k, s, n⟩ : SumC)]) k s = n := by
      unfold hashV
      rw [if_neg (by simpa using p1), if_pos rfl]
      exact entryN_put n p2
    have q2 : 0 ≤ findI k s (l ++ [(⟨k, s, n⟩ : SumC)]) := by
      refine Decidable.byContradiction fun h => ?_
      have h2 := findI_neg.1 h
      rw [findN_snoc, p2] at h2
      have hs : (⟨k, s, n⟩ : SumC).is k s = true := by rw [is_eq]; simp [SumC.pair]
      simp [hs] at h2
    have hfit : ∀ x ∈ l ++ [(⟨k, s, n⟩ : SumC)], x.k.size ≤ maxLen ∧ x.s.size ≤ maxLen := fun x hx => by
      rcases List.mem_append.1 hx with hx | hx
      · exact ⟨(Hf.out x hx).k, (Hf.out x hx).s⟩
      · rw [List.mem_singleton] at hx
        subst hx
        exact ⟨Hfk.out, Hfs.out⟩
    have hcc : checkE l = 2 ∨ (checkE l = 0 ∧ checkE (l ++ [(⟨k, s, n⟩ : SumC)]) = 0) := by
      unfold checkE
      cases hr : rightB l with
      | false => exact .inl rfl
      | true => exact .inr ⟨rfl, by rw [right_put hpe hr]; rfl⟩
    have hbc : hashV true l k2 s2 = hashV true (l ++ [(⟨k, s, n⟩ : SumC)]) k2 s2 ∨ (k2 = k ∧ s2 = s) := by
      by_cases h : (k, s) = (k2, s2)
      · simp only [Prod.mk.injEq] at h
        exact .inr ⟨h.1.symm, h.2.symm⟩
      · refine .inl ?_
        unfold hashV
        rw [entryN_other n h]
    have CO1 := Lib.hid fun v W h => HOf_any (l ++ [(⟨k, s, n⟩ : SumC)]) v true k s W h
    have CO2 := Lib.hid fun W h => HOf_any l (.slice ao nl ac) true k2 s2 W h
    have CO3 := Lib.hid fun v W h => HOf_any (l ++ [(⟨k, s, n⟩ : SumC)]) v true k2 s2 W h
    have CK := Lib.hid fun v W h => Known_any (l ++ [(⟨k, s, n⟩ : SumC)]) v true k s W h
    have CC1 := Lib.hid fun W h => HCheck_any l (.slice ao nl ac) true W h fun x hx => ⟨(Hf.out x hx).k, (Hf.out x hx).s⟩
    have CC2 := Lib.hid fun v W h => HCheck_any (l ++ [(⟨k, s, n⟩ : SumC)]) v true W h hfit
    rw [q1, p1] at CO1
    rw [decide_eq_true q2] at CK
    clear q2 hfit p2 p3
    obtain ⟨yb, hyb⟩ : ∃ y, hashV true l k2 s2 = y := ⟨_, rfl⟩
    obtain ⟨yc, hyc⟩ : ∃ y, hashV true (l ++ [(⟨k, s, n⟩ : SumC)]) k2 s2 = y := ⟨_, rfl⟩
    obtain ⟨e2, he2⟩ : ∃ y, sumE k2 s2 = y := ⟨_, rfl⟩
    obtain ⟨c1, hc1⟩ : ∃ y, checkE l = y := ⟨_, rfl⟩
    obtain ⟨c2, hc2⟩ : ∃ y, checkE (l ++ [(⟨k, s, n⟩ : SumC)]) = y := ⟨_, rfl⟩
    rw [hyb, hyc] at hbc
    rw [hyb, he2] at CO2
    rw [hyc, he2] at CO3
    rw [hc1, hc2] at hcc
    rw [hc1] at CC1
    rw [hc2] at CC2
    have hyn : k2 = k → s2 = s → yc = n ∧ e2 = 0 := fun h1 h2 => by subst h1 h2; exact ⟨hyc.symm.trans q1, he2.symm.trans p1⟩
    clear hyb hyc he2 hc1 hc2 q1 p1 hpe
    rcases hbc with rfl | ⟨rfl, rfl⟩
    case' inr => obtain ⟨rfl, rfl⟩ := hyn rfl rfl
    all_goals clear hyn
    all_goals rcases hcc with rfl | ⟨rfl, rfl⟩
    all_goals
      go_enter Try.func4, Try.ntmps4
      go_wp2_with (first
      | ((with_reducible refine (CL.out _).mono ?_); rintro e W1 ⟨rfl, hx⟩; obtain ⟨ha0, ha1, hf0, hf1⟩ := cells_of (hx.keeps.heap HB.out trivial); have HX1 := Lib.hid hx; clear hx)
      | ((with_reducible refine (CM.out _).mono ?_); rintro e W2 ⟨rfl, hx⟩; clear ha0 ha1 hf0 hf1; have HX2 := Lib.hid (HX1.out.trans hx); have HB2 := Lib.hid (HX2.out.keeps.heap HB.out trivial); have HBA := Lib.hid (set_fst HB2.out (.bool true)); obtain ⟨ha0, ha1, hf0, hf1⟩ := cells_of HB2.out; obtain ⟨hs0, hs1, hs2, hs3⟩ := cells_of HBA.out; have HK2 : Hid (Keeps (fun j => j < w.heap.size) w (W2.setCell ⟨w.heap.size, 0, none⟩ (.bool true))) := Lib.hid (((((Keeps.refl _ _).alloc _).trans (HX2.out.keeps.mono fun _ _ _ => trivial))).setCell (by simp) _); have HRh := Lib.hid (Hr.out.keep HK2.out fun j h => h); clear hx)
      | ((with_reducible refine (CP.out _ HRh.out).mono ?_); rintro e W3 hp; rcases hp with ⟨hz, _⟩ | ⟨_, v1, rfl, hr1, hx⟩; (exact absurd Hpe.out hz); obtain ⟨go, gn, gc, rfl⟩ := hr1.slice; have HBG := Lib.hid (World.alloc_heap_new W3 (.cells #[.bool true, .slice go gn gc] 24)); have HRg := Lib.hid (hr1.ext ((Ext.refl W3).alloc (.cells #[.bool true, .slice go gn gc] 24))); have HA3 := Lib.hid (hx.alloc (.cells #[.bool true, .slice go gn gc] 24)); clear hs0 hs1 hs2 hs3 hr1 hx; obtain ⟨hg0, hg1, _, _⟩ := cells_of HBG.out)
      | ((with_reducible refine (CO1.out _ _ HRg.out).mono ?_); rintro e W4 ⟨rfl, hx⟩; clear hg0 hg1; have HG4 := Lib.hid hx; have HA4 := Lib.hid (HA3.out.trans hx); obtain ⟨hs0, hs1, hs2, hs3⟩ := cells_of (HA4.out.keeps.heap HBA.out trivial); clear hx)
      | ((with_reducible refine (CO2.out _ (HRh.out.ext HA4.out)).mono ?_); rintro e W5 ⟨rfl, hx⟩; clear hs0 hs1 hs2 hs3; have HG5 := Lib.hid (HG4.out.trans hx); have HA5 := Lib.hid (HA4.out.trans hx); obtain ⟨hg0, hg1, _, _⟩ := cells_of (HG5.out.keeps.heap HBG.out trivial); clear hx)
      | ((with_reducible refine (CO3.out _ _ (HRg.out.ext HG5.out)).mono ?_); rintro e W6 ⟨rfl, hx⟩; clear hg0 hg1; have HG6 := Lib.hid (HG5.out.trans hx); have HA6 := Lib.hid (HA5.out.trans hx); obtain ⟨hg0, hg1, _, _⟩ := cells_of (HG6.out.keeps.heap HBG.out trivial); clear hx)
      | ((with_reducible refine (CK.out _ _ (HRg.out.ext HG6.out)).mono ?_); rintro e W7 ⟨rfl, hx⟩; clear hg0 hg1; have HG7 := Lib.hid (HG6.out.trans hx); have HA7 := Lib.hid (HA6.out.trans hx); obtain ⟨hs0, hs1, hs2, hs3⟩ := cells_of (HA7.out.keeps.heap HBA.out trivial); clear hx)
      | ((with_reducible refine (CC1.out _ (HRh.out.ext HA7.out)).mono ?_); rintro e W8 ⟨rfl, hx⟩; clear hs0 hs1 hs2 hs3; have HG8 := Lib.hid (HG7.out.trans hx); have HA8 := Lib.hid (HA7.out.trans hx); obtain ⟨hg0, hg1, _, _⟩ := cells_of (HG8.out.keeps.heap HBG.out trivial); clear hx)
      | ((with_reducible refine (CC2.out _ _ (HRg.out.ext HG8.out)).mono ?_); rintro e W9 ⟨rfl, hx⟩; have HA9 := Lib.hid (HA8.out.trans hx); clear hx))
    all_goals go_ret
    all_goals first
      | exact ⟨rfl, (HK2.out.trans (HA9.out.keeps.mono fun _ _ _ => trivial)).ext fun j h => h⟩
      | exact ⟨rfl, (HK2.out.trans (HA8.out.keeps.mono fun _ _ _ => trivial)).ext fun j h => h⟩
  · have hpe' : (pe != 0) = true := by simpa using hp0
    go_enter Try.func4, Try.ntmps4
    go_wp2_with (first
      | ((with_reducible refine (CL.out _).mono ?_); rintro e W1 ⟨rfl, hx⟩; obtain ⟨ha0, ha1, hf0, hf1⟩ := cells_of (hx.keeps.heap HB.out trivial); have HX1 := Lib.hid hx; clear hx)
      | ((with_reducible refine (CM.out _).mono ?_); rintro e W2 ⟨rfl, hx⟩; clear ha0 ha1 hf0 hf1; have HX2 := Lib.hid (HX1.out.trans hx); have HB2 := Lib.hid (HX2.out.keeps.heap HB.out trivial); have HBA := Lib.hid (set_fst HB2.out (.bool true)); obtain ⟨ha0, ha1, hf0, hf1⟩ := cells_of HB2.out; obtain ⟨hs0, hs1, hs2, hs3⟩ := cells_of HBA.out; have HK2 : Hid (Keeps (fun j => j < w.heap.size) w (W2.setCell ⟨w.heap.size, 0, none⟩ (.bool true))) := Lib.hid (((((Keeps.refl _ _).alloc _).trans (HX2.out.keeps.mono fun _ _ _ => trivial))).setCell (by simp) _); have HRh := Lib.hid (Hr.out.keep HK2.out fun j h => h); clear hx)
      | ((with_reducible refine (CP.out _ HRh.out).mono ?_); rintro e W3 hp; rcases hp with ⟨_, rfl, hx⟩ | ⟨hz, _⟩; rotate_left; (exact absurd (Hpe.out.symm.trans hz) hp0); rw [Hpe.out]; have HK3 := Lib.hid (HK2.out.trans (hx.keeps.mono fun _ _ _ => trivial)); clear hx))
    go_ret
    exact ⟨rfl, (HK3.out.alloc _).ext fun j h => h⟩

theorem keyedPut_args (o : Bool) (v : Value) (l : List SumC) (k s : ByteArray) (n : Int) (k2 s2 : ByteArray) (w : World) (hr : SRow w v 3 (l.map SumC.cells)) (hf : ∀ x ∈ l, x.fit) (hk : k.size ≤ maxLen) (hs : s.size ≤ maxLen) (hn : (Lit.int .u64 n).wf = true) (_ : k2.size ≤ maxLen) (_ : s2.size ≤ maxLen) :
    Calls Try.prog 4 #[.agg #[.bool o, v], .string k, .string s, .int .u64 n, .string k2, .string s2] w fun e w' => e = .returned (.bool true) ∧ Ext w w' := by
  have h := wf_u64 hn
  obtain ⟨m, rfl⟩ := Int.eq_ofNat_of_zero_le h.1
  exact keyedPut_walk l v o k s k2 s2 m w hr hf hk hs (by omega)
end Go.Proofs.Ytnfnjhphamadgaa
