/- hardtacktop.TopTable answers true, and leaves what lay as it lay. Conditions: numbers and texts of their kinds. -/
import Derived.Test.YtnfnjhphamadgaaTableA
import Derived.IntWalk
import Derived.Deep.RegionHeld3
namespace Go.Proofs.Ytnfnjhphamadgaa
open Go Go.RowKit Go.Shelf
attribute [local go_sem] Oper.semAt_some wide_fn wide_depth

set_option maxHeartbeats 1000000 in
theorem begins5_any (w : World) : Calls Try.prog 36 #[] w fun e w' => e = .returned (.bool true) ∧ Ext w w' := by
  have h2 : (labelsB ⟨#[1, 97, 3, 111, 114, 103, 0]⟩).length = 2 := by decide +kernel
  have CC := Lib.hid fun W => h2 ▸ Count_any ⟨#[1, 97, 3, 111, 114, 103, 0]⟩ W (by decide)
  clear h2
  go_enter Try.func36, Try.ntmps36
  go_wp2_with fail
  refine (CC.out _).mono ?_
  rintro e w' ⟨rfl, hx⟩
  have HX := Lib.hid hx; clear hx
  go_wp2
  go_ret
  exact ⟨rfl, HX.out⟩

/-- A row of sums stays where a hash's cells are stored. -/
theorem srow_past {W : World} {v : Value} {L : List SumC} {A : Nat} {o : Bool} {hv : Value} {t : TypeId} {fr : Nat × Nat} (hA : W.heap[A]? = some (.cells #[.bool o, hv] t fr)) (hs : ∃ ao n c, hv = .slice ao n c)
    (h : SRow W v 3 (L.map SumC.cells)) {W' : World} (k : Keeps (fun j => j ≠ A) W W') : SRow W' v 3 (L.map SumC.cells) := by
  obtain ⟨ao, cap, e, h1, h2, hc⟩ := h
  refine ⟨ao, cap, e, h1, h2, fun i c hi => ?_⟩
  obtain ⟨b, off, e2, h3, h4⟩ := hc i c hi
  have hb : b ≠ A := by
    rintro rfl
    obtain ⟨x, _, rfl⟩ := List.mem_map.1 (List.mem_of_getElem? hi)
    have h5 := h4 0 (.string x.k) rfl
    rw [cell_of_row _ _ _ _ _ _ hA] at h5
    obtain ⟨x0, n0, c0, rfl⟩ := hs
    generalize off + i * 3 + 0 = j at h5
    match j with
    | 0 => simp at h5
    | 1 => simp at h5
    | j + 2 => simp at h5
  exact ⟨b, off, e2, h3, fun j u hu => k.cell (h4 j u hu) hb⟩

set_option maxRecDepth 100000 in
set_option maxHeartbeats 4000000 in
theorem topTable_walk (key : ByteArray) (v : Value) (S : List Nat) (o : Nat) (w : World) (hv : URow w v S) (hS : ∀ x ∈ S, x < 4294967296) (ho : o < 4294967296) :
    Calls Try.prog 9 #[.string key, v, .int .u32 (o : Int)] w fun e w' => e = .returned (.bool true) ∧ Ext w w' := by
  have Hv := Lib.hid hv
  obtain ⟨ao, ac, rfl, hn1, hn2, _⟩ := hv
  have CB := Lib.hid fun W => begins5_any W
  by_cases hk : key.size = 16
  case neg =>
    have hk' : ((key.size : Int) != 16) = true := by simp only [bne_iff_ne, ne_eq]; omega
    go_enter Try.func9, Try.ntmps9
    go_wp2_with ((with_reducible refine (CB.out _).mono ?_); rintro e W1 ⟨rfl, hx⟩; have HX1 := Lib.hid hx; clear hx)
    go_ret
    exact ⟨rfl, HX1.out⟩
  have hk' : ((key.size : Int) != 16) = false := by rw [hk]; rfl
  by_cases hl : 40 < S.length
  case pos =>
    have hl' : (40 : Int) < S.length := by omega
    go_enter Try.func9, Try.ntmps9
    go_wp2_with ((with_reducible refine (CB.out _).mono ?_); rintro e W1 ⟨rfl, hx⟩; have HX1 := Lib.hid hx; clear hx)
    go_ret
    exact ⟨rfl, HX1.out⟩
  obtain ⟨nl, hnl⟩ : ∃ nl, S.length = nl := ⟨_, rfl⟩
  have Hnl := Lib.hid hnl
  rw [hnl] at Hv hl hn1 ⊢
  have hl' : (nl : Int) ≤ 40 := by omega
  have Hk := Lib.hid hk
  have HS := Lib.hid hS
  have Ho := Lib.hid ho
  clear hnl hk hS ho hn1 hn2
  go_enter Try.func9, Try.ntmps9
  go_wp2_with ((with_reducible refine (CB.out _).mono ?_); rintro e W1 ⟨rfl, hx⟩; have HX1 := Lib.hid hx; clear hx)
  have HW0 := Lib.hid (World.alloc_heap_new W1 (.cells #[.bool false, .slice none 0 0] 24))
  have HK0 : Hid (Keeps (fun j => j < w.heap.size) w (W1.alloc (.cells #[.bool false, .slice none 0 0] 24))) := Lib.hid ((HX1.out.keeps.mono fun _ _ _ => trivial).alloc _)
  have hA := HX1.out.size
  obtain ⟨A, hAe⟩ : ∃ A, W1.heap.size = A := ⟨_, rfl⟩
  rw [hAe] at HW0 hA ⊢
  have HA : Hid (w.heap.size ≤ A) := Lib.hid hA
  clear hA hAe
  go_loopw [8, 35] (fun kn i wr => ∃ (j : Nat) (L : List SumC) (oh : Bool) (hv : Value), j ≤ nl ∧ i = .int .i64 j ∧ kn = .bool (decide (o ∈ S.take j)) ∧ Tab key (S.take j) L ∧ wr.heap[A]? = some (.cells #[.bool oh, hv] 24 (0, 0)) ∧ SRow wr hv 3 (L.map SumC.cells) ∧ Keeps (fun j => j < w.heap.size) w wr)
    (fun _ i _ => nl - (intOf i).toNat)
  case atStart => exact ⟨0, [], false, .slice none 0 0, Nat.zero_le _, rfl, by simp, ⟨by simp, by simp, by simp, by simp⟩, HW0.out, SRow.nil _ 3, HK0.out⟩
  case round =>
    obtain ⟨j, L, oh, hv, hj, rfl, rfl, htab, hheap, hrow, hkeep⟩ := hrel
    obtain ⟨go, gn, gc, rfl⟩ := hrow.slice
    have Htab := Lib.hid htab; clear htab
    have Hrow := Lib.hid hrow; clear hrow
    have Hheap := Lib.hid hheap; clear hheap
    have HK := Lib.hid hkeep; clear hkeep
    obtain ⟨ha0, ha1, hf0, hf1⟩ := cells_of Hheap.out
    obtain ⟨kn0, hkn⟩ : ∃ b, decide (o ∈ S.take j) = b := ⟨_, rfl⟩
    rw [hkn]
    have Hkn := Lib.hid hkn; clear hkn
    by_cases hlt : j < nl
    · obtain ⟨s, hs⟩ : ∃ x, S[j]? = some x := ⟨S[j]'(by rw [Hnl.out]; exact hlt), List.getElem?_eq_getElem _⟩
      obtain ⟨ao2, ac2, e, _, _, hc⟩ := Hv.out.keep HK.out
      obtain ⟨b, off, rfl, _, c0⟩ := hc j s hs
      simp only [Value.slice.injEq] at e
      obtain rfl : ao = some ⟨b, off, none⟩ := e.1
      clear e hc
      have Hs := Lib.hid hs
      have hs32 : s < 4294967296 := HS.out s (List.mem_of_getElem? hs)
      clear hs
      have hki : (j : Int) < nl := by omega
      have hw : IntKind.i64.wrap ((j : Int) + 1) = (j : Int) + 1 := IntWalk.i64_in _ (by omega)
      have Hwu : Hid (IntKind.u64.wrap (s : Int) = (s : Int)) := Lib.hid (by rw [IntKind.wrap_u64]; omega)
      have C1 := Lib.hid fun W => SAdd_any (s : Int) 0 W
      rw [show addS (s : Int) 0 = (s : Int) by unfold addS; omega] at C1
      clear hs32
      have C2 := Lib.hid fun W => Bytes_any s W
      have C3 := Lib.hid fun W => Sum_any key (bytesS s) W
      rw [sumR_eq, sumE_stamp Hk.out] at C3
      have C4 := Lib.hid fun W h => HPut_any L (.slice go gn gc) oh key (bytesS s) (sumV key (bytesS s)) W h
      have hp := putE_stamp Hk.out (L := L) (by have := Htab.out.len; rw [List.length_take] at this; omega) s
      have hadd := Htab.out.add Hk.out (by rw [List.length_take]; omega) s
      have htk : S.take (j + 1) = S.take j ++ [s] := by rw [List.take_add_one, Hs.out]; rfl
      rw [← htk] at hadd
      have Hadd := Lib.hid hadd; clear hadd
      have hknn : decide (o ∈ S.take (j + 1)) = (kn0 || ((s : Int) == (o : Int))) := by
        rw [htk, ← Hkn.out, Bool.eq_iff_iff]
        simp only [decide_eq_true_eq, Bool.or_eq_true, List.mem_append, List.mem_singleton, beq_iff_eq]
        exact or_congr Iff.rfl ⟨fun h => by omega, fun h => by omega⟩
      have Hknn := Lib.hid hknn; clear hknn htk
      unfold addT stampT at Hadd
      obtain ⟨t, ht⟩ : ∃ t, bytesS s = t := ⟨_, rfl⟩
      rw [ht] at C2 C3 C4 hp Hadd
      obtain ⟨y, hy⟩ : ∃ y, sumV key t = y := ⟨_, rfl⟩
      rw [hy] at C3 C4 Hadd
      clear hy ht
      have HlA : Hid (A < wr.heap.size) := Lib.hid (Array.getElem?_eq_some_iff.1 Hheap.out).1
      rcases hp with ⟨hp, _⟩ | ⟨hp, _⟩
      · have Hp := Lib.hid hp
        rw [if_pos hp] at Hadd
        clear hp
        go_wp2_with (first
          | ((with_reducible refine (C1.out _).mono ?_); rintro e w' ⟨rfl, rfl⟩; have hwu := Hwu.out)
          | ((with_reducible refine (C2.out _).mono ?_); rintro e W2 ⟨rfl, hx⟩; clear hwu; have HX2 := Lib.hid hx; clear hx)
          | ((with_reducible refine (C3.out _).mono ?_); rintro e W3 ⟨rfl, hx⟩; have HX3 := Lib.hid (HX2.out.trans hx); clear ha0 ha1 hf0 hf1; obtain ⟨ha0, ha1, hf0, hf1⟩ := cells_of (HX3.out.keeps.heap Hheap.out trivial); clear hx)
          | ((with_reducible refine (C4.out _ (Hrow.out.ext HX3.out)).mono ?_); rintro e W4 hp; rcases hp with ⟨hz, _⟩ | ⟨_, v1, rfl, hr1, hx⟩; (exact absurd Hp.out hz); obtain ⟨bo, bn, bc, rfl⟩ := hr1.slice; have HX5 := Lib.hid ((HX3.out.trans hx).alloc (.cells #[.bool true, .slice bo bn bc] 24)); have HR5 := Lib.hid (hr1.ext ((Ext.refl W4).alloc (.cells #[.bool true, .slice bo bn bc] 24))); have HN5 := World.alloc_heap_new W4 (.cells #[.bool true, .slice bo bn bc] 24); clear ha0 ha1 hf0 hf1; obtain ⟨ha0, ha1, hf0, hf1⟩ := cells_of (HX5.out.keeps.heap Hheap.out trivial); obtain ⟨hb0, hb1, _, _⟩ := cells_of HN5; clear hx hr1 HN5))
        all_goals exact ⟨⟨j + 1, _, true, .slice bo bn bc, by omega, by simp, (by first | (rw [Hknn.out, (by assumption : kn0 = true)]; rfl) | (rw [Hknn.out, (by simpa using (by assumption : ¬ kn0 = true) : kn0 = false)]; rfl)), Hadd.out, set_two (HX5.out.keeps.heap Hheap.out trivial) _ _, srow_past (HX5.out.keeps.heap Hheap.out trivial) ⟨_, _, _, rfl⟩ HR5.out (((Keeps.refl _ _).setCell (by simp) _).setCell (by simp) _),
          ((HK.out.trans (HX5.out.keeps.mono fun _ _ _ => trivial)).setCell (by have := HA.out; simp; omega) _).setCell (by have := HA.out; simp; omega) _⟩, by simp [intOf]; omega⟩
      · have Hp := Lib.hid hp
        rw [if_neg (by rw [hp]; decide)] at Hadd
        clear hp
        go_wp2_with (first
          | ((with_reducible refine (C1.out _).mono ?_); rintro e w' ⟨rfl, rfl⟩; have hwu := Hwu.out)
          | ((with_reducible refine (C2.out _).mono ?_); rintro e W2 ⟨rfl, hx⟩; clear hwu; have HX2 := Lib.hid hx; clear hx)
          | ((with_reducible refine (C3.out _).mono ?_); rintro e W3 ⟨rfl, hx⟩; have HX3 := Lib.hid (HX2.out.trans hx); clear ha0 ha1 hf0 hf1; obtain ⟨ha0, ha1, hf0, hf1⟩ := cells_of (HX3.out.keeps.heap Hheap.out trivial); clear hx)
          | ((with_reducible refine (C4.out _ (Hrow.out.ext HX3.out)).mono ?_); rintro e W4 hp; rcases hp with ⟨_, rfl, hx⟩ | ⟨hz, _⟩; rotate_left; (exact absurd (Hp.out.symm.trans hz) (by decide)); rw [Hp.out]; have HX5 := Lib.hid ((HX3.out.trans hx).alloc (.cells #[.bool false, .slice none 0 0] 24)); clear hx))
        all_goals exact ⟨⟨j + 1, L, oh, .slice go gn gc, by omega, by simp, (by first | (rw [Hknn.out, (by assumption : kn0 = true)]; rfl) | (rw [Hknn.out, (by simpa using (by assumption : ¬ kn0 = true) : kn0 = false)]; rfl)), Hadd.out, HX5.out.keeps.heap Hheap.out trivial, Hrow.out.ext HX5.out, HK.out.trans (HX5.out.keeps.mono fun _ _ _ => trivial)⟩, by simp [intOf]; omega⟩
    · obtain rfl : j = nl := by omega
      have ht : S.take j = S := List.take_of_length_le (by rw [Hnl.out]; exact Nat.le_refl _)
      rw [ht] at Htab Hkn
      have HB := Lib.hid (set_fst Hheap.out (.bool true))
      have HRB := Lib.hid (srow_past Hheap.out ⟨_, _, _, rfl⟩ Hrow.out (W' := wr.setCell ⟨A, 0, none⟩ (.bool true)) ((Keeps.refl _ _).setCell (by simp) _))
      have HKB : Hid (Keeps (fun j => j < w.heap.size) w (wr.setCell ⟨A, 0, none⟩ (.bool true))) := Lib.hid (HK.out.setCell (by have := HA.out; simp; omega) _)
      clear ht hj hlt
      go_wp2_with fail
      go_loopw [74] (fun i wr => ∃ j2 : Nat, j2 ≤ j ∧ i = .int .i64 j2 ∧ wr.heap[A]? = some (.cells #[.bool true, .slice go gn gc] 24 (0, 0)) ∧ SRow wr (.slice go gn gc) 3 (L.map SumC.cells) ∧ Keeps (fun j => j < w.heap.size) w wr)
        (fun i _ => j - (intOf i).toNat)
      case atStart => exact ⟨0, Nat.zero_le _, rfl, HB.out, HRB.out, HKB.out⟩
      case round =>
        obtain ⟨j2, hj2, rfl, hheap, hrow, hkeep⟩ := hrel
        clear HB HRB HKB Hheap Hrow HK ha0 ha1 hf0 hf1
        have Hrow := Lib.hid hrow; clear hrow
        have Hheap := Lib.hid hheap; clear hheap
        have HK := Lib.hid hkeep; clear hkeep
        obtain ⟨ha0, ha1, hf0, hf1⟩ := cells_of Hheap.out
        clear hf0 hf1
        by_cases hlt : j2 < j
        · obtain ⟨s, hs⟩ : ∃ x, S[j2]? = some x := ⟨S[j2]'(by rw [Hnl.out]; exact hlt), List.getElem?_eq_getElem _⟩
          obtain ⟨ao2, ac2, e, _, _, hc⟩ := Hv.out.keep HK.out
          obtain ⟨b, off, rfl, _, c0⟩ := hc j2 s hs
          simp only [Value.slice.injEq] at e
          obtain rfl : ao = some ⟨b, off, none⟩ := e.1
          clear e hc
          have Hs := Lib.hid (List.mem_of_getElem? hs)
          have hs32 : s < 4294967296 := HS.out s Hs.out
          clear hs
          have hki : (j2 : Int) < j := by omega
          have hw : IntKind.i64.wrap ((j2 : Int) + 1) = (j2 : Int) + 1 := IntWalk.i64_in _ (by omega)
          have Hwu : Hid (IntKind.u64.wrap (s : Int) = (s : Int)) := Lib.hid (by rw [IntKind.wrap_u64]; omega)
          clear hs32
          have C2 := Lib.hid fun W => Bytes_any s W
          have C3 := Lib.hid fun W h => HOf_any L (.slice go gn gc) true key (bytesS s) W h
          have C4 := Lib.hid fun W => HOf_any [] (.slice none 0 0) false key (bytesS s) W (SRow.nil W 3)
          have hv1 : hashV true L key (bytesS s) = sumV key (bytesS s) := by
            unfold hashV
            rw [if_neg (by rw [sumE_stamp Hk.out]; decide), if_pos rfl]
            exact Htab.out.entry Hs.out
          have hv2 : hashV false [] key (bytesS s) = sumV key (bytesS s) := by
            unfold hashV
            split <;> rfl
          rw [hv1, sumE_stamp Hk.out] at C3
          rw [hv2, sumE_stamp Hk.out] at C4
          clear hv1 hv2
          obtain ⟨t, ht⟩ : ∃ t, bytesS s = t := ⟨_, rfl⟩
          rw [ht] at C2 C3 C4
          obtain ⟨y, hy⟩ : ∃ y, sumV key t = y := ⟨_, rfl⟩
          rw [hy] at C3 C4
          clear hy ht
          have hwu := Hwu.out
          go_wp2_with (first
            | ((with_reducible refine (C2.out _).mono ?_); rintro e W2 ⟨rfl, hx⟩; clear hwu; have HX2 := Lib.hid hx; clear ha0 ha1; obtain ⟨ha0, ha1, _, _⟩ := cells_of (HX2.out.keeps.heap Hheap.out trivial); clear hx)
            | ((with_reducible refine (C3.out _ (Hrow.out.ext HX2.out)).mono ?_); rintro e W3 ⟨rfl, hx⟩; have HX3 := Lib.hid (HX2.out.trans hx); clear hx)
            | ((with_reducible refine (C4.out _).mono ?_); rintro e W4 ⟨rfl, hx⟩; have HX4 := Lib.hid (HX3.out.trans hx); clear hx))
          exact ⟨⟨j2 + 1, by omega, by simp, HX4.out.keeps.heap Hheap.out trivial, Hrow.out.ext HX4.out, HK.out.trans (HX4.out.keeps.mono fun _ _ _ => trivial)⟩, by simp [intOf]; omega⟩
        · obtain rfl : j2 = j := by omega
          have C2 := Lib.hid fun W => Bytes_any o W
          have C3 := Lib.hid fun W h => Known_any L (.slice go gn gc) true key (bytesS o) W h
          have C4 := Lib.hid fun W h => HCheck_any L (.slice go gn gc) true W h (Htab.out.fit Hk.out)
          rw [Htab.out.known HS.out Ho.out, Hkn.out] at C3
          rw [Htab.out.right Hk.out (by rw [Hnl.out]; omega)] at C4
          have Hwu : Hid (IntKind.u64.wrap (o : Int) = (o : Int)) := Lib.hid (by have := Ho.out; rw [IntKind.wrap_u64]; omega)
          obtain ⟨t, ht⟩ : ∃ t, bytesS o = t := ⟨_, rfl⟩
          rw [ht] at C2 C3
          clear ht
          have TW : Hid (∀ W, Ext wr W → W.cell? ⟨A, 0, none⟩ = some (.bool true) ∧ W.cell? ⟨A, 1, none⟩ = some (.slice go gn gc)) := Lib.hid fun W hx => by
            obtain ⟨h0, h1, _, _⟩ := cells_of (hx.keeps.heap Hheap.out trivial)
            exact ⟨h0, h1⟩
          have hx1 := Lib.hid (Ext.refl wr)
          have hx1d := Lib.hid ((Ext.refl wr).drew)
          go_wp2_with fail
          have hwu := Hwu.out
          go_region_held3 (fun w' => w'.cell? ⟨A, 0, none⟩ = some (.bool true) ∧ w'.cell? ⟨A, 1, none⟩ = some (.slice go gn gc))
            (first | exact TW.out _ hx1.out | exact TW.out _ hx1d.out | go_keep)
            (first
              | ((with_reducible refine (C2.out _).mono ?_); rintro e W2 ⟨rfl, hx⟩; replace hx1 := Lib.hid (hx1d.out.trans hx); clear hx)
              | ((with_reducible refine (C3.out _ (Hrow.out.ext hx1.out)).mono ?_); rintro e W3 ⟨rfl, hx⟩; replace hx1 := Lib.hid (hx1.out.trans hx); clear hx)
              | ((with_reducible refine (C4.out _ (Hrow.out.ext hx1.out)).mono ?_); rintro e W4 ⟨rfl, hx⟩; replace hx1 := Lib.hid (hx1.out.trans hx); clear hx))
          clear hwu
          go_wp2_with fail
          go_ret
          exact ⟨rfl, (HK.out.trans (hx1.out.keeps.mono fun _ _ _ => trivial)).ext fun j h => h⟩

theorem topTable_args (key : ByteArray) (v : Value) (S : List Nat) (o : Int) (w : World) (_ : key.size ≤ maxLen) (hv : URow w v S) (hS : ∀ x ∈ S, x < 4294967296) (ho : (Lit.int .u32 o).wf = true) :
    Calls Try.prog 9 #[.string key, v, .int .u32 o] w fun e w' => e = .returned (.bool true) ∧ Ext w w' := by
  have h := wf_u32' ho
  obtain ⟨m, rfl⟩ := Int.eq_ofNat_of_zero_le h.1
  exact topTable_walk key v S m w hv hS (by omega)
end Go.Proofs.Ytnfnjhphamadgaa
