/- What keyed's Check and Apart tell, by right and unlike. Conditions: texts that are no longer than may be. -/
import Derived.Test.YtjnaknfnoibncaaHashD
namespace Go.Proofs.Ytjnaknfnoibncaa
open Go Go.RowKit Go.Shelf
attribute [local go_sem] Oper.semAt_some wide_fn wide_depth

def checkE (l : List SumC) : Int := if rightB l then 0 else 2
theorem numLaw : Go.Maps.Keyed Try.prog 44 := Go.Maps.int_keyed Try.underlying44
def numL (n : Nat) : Lit := .int .u64 (n : Int)
theorem wfN {n : Nat} (h : n < 18446744073709551616) : (Lit.int .u64 (n : Int)).wf = true := by
  simp [Lit.wf, IntKind.min, IntKind.max, IntKind.bits, IntKind.signed]
  omega
theorem num_key (n : Nat) (h : n < 18446744073709551616) : keyOf Try.prog 44 (.int .u64 (n : Int)) = some (numL n) := Go.Maps.keyOf_int_mk Try.underlying44 (wfN h)
/-- Are all numbers unlike, and none 0? -/
def unlikeB (l : List SumC) : Bool := decide ((0 :: l.map SumC.n).Nodup)
theorem nums_size (L : List Nat) : (Go.Maps.size (keysD (L.map numL)) = L.length) ↔ L.Nodup := by
  have hk : ∀ x ∈ L.map numL, WideAt.IsKeyLit x := fun x hx => by
    obtain ⟨y, _, rfl⟩ := List.mem_map.1 hx
    trivial
  unfold keysD
  rw [Go.Maps.size_setOf _ _ hk]
  have h := (addKeys_len (L.map numL) [] hk).2
  simp only [List.length_nil, Nat.zero_add, List.length_map, List.not_mem_nil, not_false_eq_true, implies_true, and_true] at h
  rw [h]
  refine ⟨fun h => ?_, fun h => ?_⟩
  · exact (List.pairwise_map.1 h).imp fun hne e => hne (by rw [e])
  · refine List.pairwise_map.2 (h.imp fun hne e => hne ?_)
    unfold numL at e
    simp only [Lit.int.injEq, true_and] at e
    omega

theorem run_makeNums (w : World) : (Instr.makeMap 107 none).run Try.prog w = .ok (.map (some w.heap.size)) (w.alloc (.map #[] 0)) := rfl

set_option maxRecDepth 100000 in
set_option maxHeartbeats 1000000 in
theorem unlike_any (l : List SumC) (v : Value) (w : World) (hr : SRow w v 3 (l.map SumC.cells)) (hf : ∀ x ∈ l, x.n < 18446744073709551616) (hl : l.length ≤ 4096) :
    Calls Try.prog 49 #[v] w fun e w' => e = .returned (.bool (unlikeB l)) ∧ Ext w w' := by
  have Hr := Lib.hid hr
  have Hf := Lib.hid hf; clear hf
  obtain ⟨ao, ac, rfl, hlm⟩ := hr.open
  rw [List.length_map] at Hr hlm ⊢
  clear hr hlm
  obtain ⟨r, hrr⟩ : ∃ r, unlikeB l = r := ⟨_, rfl⟩
  rw [hrr]
  have HE := Lib.hid hrr; clear hrr
  obtain ⟨nl, hnl⟩ : ∃ nl, l.length = nl := ⟨_, rfl⟩
  have Hnl := Lib.hid hnl
  rw [hnl] at Hr hl ⊢
  clear hnl
  have hmm := run_makeNums
  have hown0 : (w.alloc (.map #[] 0)).ownsMap (H := Unit) Try.prog 44 unitElem w.heap.size 0 (keysD []) := World.ownsMap_made _ _ _ _
  obtain ⟨w1, hru, hown1, hgr⟩ := hown0.update numLaw Try.underlying107 (by unfold maxLen; omega) (num_key 0 (by omega)) unitElem_mk
  have hins : (Instr.mapUpdate 107 (.map (some w.heap.size)) (.int .u64 0) (.agg #[])).run Try.prog (w.alloc (.map #[] 0)) = .ok () w1 := hru
  have Hown1 := Lib.hid hown1
  have HK1 : Hid (Keeps (fun j => j < w.heap.size) w w1) := Lib.hid (((Keeps.refl _ _).alloc _).grown hgr (by intro k hk; cases hk; omega))
  clear hown0 hru hown1 hgr
  go_enter Try.func49, Try.ntmps49
  go_wp2_with fail
  go_loopw [11] (fun i wr => ∃ j : Nat, j ≤ nl ∧ i = .int .i64 j ∧ wr.ownsMap (H := Unit) Try.prog 44 unitElem w.heap.size (j + 1) (keysD ((0 :: (l.take j).map SumC.n).map numL)) ∧ Keeps (fun j => j < w.heap.size) w wr)
    (fun i _ => nl - (intOf i).toNat)
  case atStart => exact ⟨0, Nat.zero_le _, rfl, by simpa [keysD, Go.Maps.setOf] using Hown1.out, HK1.out⟩
  case round =>
    obtain ⟨j, hj, rfl, hown, hk⟩ := hrel
    have HK := Lib.hid hk; clear hk
    have Hown := Lib.hid hown; clear hown
    by_cases hlt : j < nl
    · obtain ⟨x, hxa⟩ : ∃ x, l[j]? = some x := ⟨l[j]'(by rw [Hnl.out]; exact hlt), List.getElem?_eq_getElem _⟩
      obtain ⟨b1, off1, cap1, e1, c0, c1, c2⟩ := srow_at (Hr.out.keep HK.out fun j h => h) j x hxa
      obtain rfl : ao = some ⟨b1, off1, none⟩ := by simp only [Value.slice.injEq] at e1; exact e1.1
      clear e1
      have Hxa := Lib.hid hxa; clear hxa
      have hki : (j : Int) < nl := by omega
      have hw : IntKind.i64.wrap ((j : Int) + 1) = (j : Int) + 1 := IntWalk.i64_in _ (by omega)
      go_wp2_with (at_mapUpdate; refine wpList_mapUpdate_own _ rfl _ _ _ 107 rfl 44 104 numLaw Try.underlying107 unitElem w.heap.size (j + 1) (keysD ((0 :: (l.take j).map SumC.n).map numL)) rfl ?own (by unfold maxLen; omega) _ _ (numL x.n) rfl rfl ?key (.agg []) [] unitElem_mk ?_)
      case own => exact Hown.out.alloc _
      case key => exact num_key x.n (Hf.out x (List.mem_of_getElem? Hxa.out))
      intro w2 hown2 hgr2
      have Ho := Lib.hid hown2
      have HK2 : Hid (Keeps (fun j => j < w.heap.size) w w2) := Lib.hid ((HK.out.alloc _).grown hgr2 (by intro k hk; cases hk; omega))
      clear hown2 hgr2 c0 c1 c2
      go_wp2
      go_roundw
      case rel =>
        refine ⟨j + 1, by omega, by simp, ?_, HK2.out⟩
        have ht : (0 :: (l.take (j + 1)).map SumC.n).map numL = (0 :: (l.take j).map SumC.n).map numL ++ [numL x.n] := by
          rw [List.take_add_one, Hxa.out]
          simp
        rw [ht]
        unfold keysD
        rw [Go.Maps.setOf_snoc]
        have h := Ho.out
        unfold keysD at h
        simpa using h
      case measure => simp [intOf]; omega
    · obtain rfl : j = nl := by omega
      have hlen := Hown.out.len Try.underlying107
      have hw : IntKind.i64.wrap (1 + (j : Int)) = 1 + (j : Int) := IntWalk.i64_in _ (by omega)
      go_wp2
      go_ret
      refine ⟨?_, HK.out.ext fun j h => h⟩
      have ht : l.take j = l := List.take_of_length_le (by rw [Hnl.out]; exact Nat.le_refl _)
      have hs := nums_size (0 :: l.map SumC.n)
      rw [List.length_cons, List.length_map, Hnl.out] at hs
      have hq : ((Go.Maps.size (keysD ((0 :: (l.take j).map SumC.n).map numL)) : Int) == 1 + (j : Int)) = r := by
        rw [← HE.out, ht]
        unfold unlikeB
        rw [Bool.eq_iff_iff, beq_iff_eq, decide_eq_true_iff, ← hs]
        omega
      rw [← hq]
      simp

def apartB (l : List SumC) : Bool := rightB l && unlikeB l
set_option maxHeartbeats 1000000 in
theorem HApart_any (l : List SumC) (v : Value) (o : Bool) (w : World) (hr : SRow w v 3 (l.map SumC.cells)) (hf : ∀ x ∈ l, x.fit) :
    Calls Try.prog 20 #[.agg #[.bool o, v]] w fun e w' => e = .returned (.bool (apartB l)) ∧ Ext w w' := by
  obtain ⟨ao, n, ac, rfl⟩ := hr.slice
  have X := (Ext.refl w).alloc (.cells #[.bool o, .slice ao n ac] 24)
  have C := Lib.hid (right_any l _ o _ (hr.ext X) fun x hx => ⟨(hf x hx).k, (hf x hx).s⟩)
  have HX := Lib.hid X; clear X
  have CU := Lib.hid fun W h hl => unlike_any l (.slice ao n ac) W h (fun x hx => (hf x hx).n) hl
  have Hr := Lib.hid hr
  have hl : rightB l = true → l.length ≤ 4096 := fun h => by unfold rightB at h; exact (of_decide_eq_true h).1
  have hcell := cell_new w #[.bool o, .slice ao n ac] 24
  have Hc := Lib.hid (show ∀ w2, Ext (w.alloc (.cells #[.bool o, .slice ao n ac] 24)) w2 → w2.cell? ⟨w.heap.size, 1, none⟩ = some (.slice ao n ac) from fun w2 h => h.keeps.cell (hcell 1) trivial)
  clear hr hf hcell
  unfold apartB
  obtain ⟨r, hr⟩ : ∃ r, rightB l = r := ⟨_, rfl⟩
  obtain ⟨q, hq⟩ : ∃ r, unlikeB l = r := ⟨_, rfl⟩
  rw [hr] at C hl ⊢
  rw [hq] at CU ⊢
  have Hl := Lib.hid hl
  clear hr hq hl
  cases r with
  | false =>
    go_enter Try.func20, Try.ntmps20
    go_wp2_with ((with_reducible refine (C.out).mono ?_); rintro e w' ⟨rfl, hx⟩; have HX2 := Lib.hid (HX.out.trans hx); clear hx)
    go_ret
    exact ⟨rfl, HX2.out⟩
  | true =>
    have Hl2 := Lib.hid (Hl.out rfl); clear Hl
    go_enter Try.func20, Try.ntmps20
    go_wp2_with (first
      | ((with_reducible refine (C.out).mono ?_); rintro e w' ⟨rfl, hx⟩; have hc := Hc.out _ hx; have HX2 := Lib.hid (HX.out.trans hx); clear hx)
      | ((with_reducible refine (CU.out _ (Hr.out.ext HX2.out) Hl2.out).mono ?_); rintro e w' ⟨rfl, hx⟩; have HX3 := Lib.hid (HX2.out.trans hx); clear hx))
    go_ret
    exact ⟨by simp, HX3.out⟩
end Go.Proofs.Ytjnaknfnoibncaa
