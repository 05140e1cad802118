/- What keyed's Of and Put tell. Conditions: texts that are no longer than may be. -/
import Derived.Test.YtjnaknfnoibncaaHashA
import Derived.Test.YtjnaknfnoibncaaSipD
import Derived.Deep.RegionHeld3
import Derived.Deep.DeepAppendRoom
import Derived.IntWalk
namespace Go.Proofs.Ytjnaknfnoibncaa
open Go Go.RowKit Go.Shelf
attribute [local go_sem] Oper.semAt_some wide_fn wide_depth

def sumE (key s : ByteArray) : Int := if key.size = 16 then (if s.size ≤ 65536 then 0 else 7) else 2
def sumV (key s : ByteArray) : Nat := if key.size = 16 then (if s.size ≤ 65536 then sumM key s else 0) else 0
theorem sumR_eq (key s : ByteArray) : sumR key s = #[.int .u64 (sumV key s : Nat), .int .i64 (sumE key s)] := by
  unfold sumR sumV sumE
  by_cases h1 : key.size = 16
  · by_cases h2 : s.size ≤ 65536 <;> simp [h1, h2]
  · simp [h1]
theorem slice_inj {b1 b2 o1 o2 n1 n2 c1 c2 : Nat} (h : Value.slice (some ⟨b1, o1, none⟩) n1 c1 = .slice (some ⟨b2, o2, none⟩) n2 c2) : b1 = b2 ∧ o1 = o2 := by
  simp only [Value.slice.injEq, Option.some.injEq, Addr.mk.injEq] at h
  exact ⟨h.1.1, h.1.2.1⟩
/-- What the entry of k and s says: 0, if there is none. -/
def entryN (k s : ByteArray) (l : List SumC) : Nat := match findN k s l with | some i => (l[i]?.map SumC.n).getD 0 | none => 0
/-- The sum, by a hash. -/
def hashV (o : Bool) (l : List SumC) (k s : ByteArray) : Nat := if sumE k s ≠ 0 then sumV k s else if o then entryN k s l else sumV k s

set_option maxRecDepth 100000 in
set_option maxHeartbeats 1000000 in
theorem HOf_any (l : List SumC) (v : Value) (o : Bool) (k s : ByteArray) (w : World) (hr : SRow w v 3 (l.map SumC.cells)) :
    Calls Try.prog 34 #[.agg #[.bool o, v], .string k, .string s] w fun e w' => e = .returned (.tuple #[.int .u64 (hashV o l k s : Nat), .int .i64 (sumE k s)]) ∧ Ext w w' := by
  have Hr := Lib.hid hr
  obtain ⟨ao, n, ac, rfl⟩ := hr.slice
  clear hr
  have CS := Lib.hid fun W => Sum_any k s W
  rw [sumR_eq] at CS
  have CF := Lib.hid fun W h => find_any l (.slice ao n ac) o k s W h
  have HX := Lib.hid ((Ext.refl w).alloc (.cells #[.bool o, .slice ao n ac] 24))
  have hcell := cell_new w #[.bool o, .slice ao n ac] 24
  have Hc := Lib.hid (show ∀ w2, Ext (w.alloc (.cells #[.bool o, .slice ao n ac] 24)) w2 → w2.cell? ⟨w.heap.size, 0, none⟩ = some (.bool o) ∧ w2.cell? ⟨w.heap.size, 1, none⟩ = some (.slice ao n ac) from fun w2 h => ⟨h.keeps.cell (hcell 0) trivial, h.keeps.cell (hcell 1) trivial⟩)
  clear hcell
  unfold hashV
  obtain ⟨y, hy⟩ : ∃ y, sumV k s = y := ⟨_, rfl⟩
  obtain ⟨ee, he⟩ : ∃ y, sumE k s = y := ⟨_, rfl⟩
  rw [hy, he] at CS ⊢
  clear hy he
  by_cases h0 : ee = 0
  · subst h0
    rw [if_neg (by simp)]
    cases o with
    | false =>
      go_enter Try.func34, Try.ntmps34
      go_wp2_with ((with_reducible refine (CS.out _).mono ?_); rintro e w' ⟨rfl, hx⟩; obtain ⟨hc0, hc1⟩ := Hc.out _ hx; have HX2 := Lib.hid (HX.out.trans hx); clear hx)
      go_ret2
      exact ⟨rfl, HX2.out⟩
    | true =>
      rw [if_pos rfl]
      have hfi : (findI k s l < 0 ∧ entryN k s l = 0) ∨ ∃ (i : Nat) (x : SumC), findI k s l = (i : Int) ∧ l[i]? = some x ∧ entryN k s l = x.n := by
        unfold findI entryN
        cases hf : findN k s l with
        | none => exact .inl ⟨by simp, rfl⟩
        | some i =>
          obtain ⟨x, hx, _⟩ := findN_some hf
          exact .inr ⟨i, x, rfl, hx, by simp [hx]⟩
      obtain ⟨r, hrr⟩ : ∃ r, findI k s l = r := ⟨_, rfl⟩
      obtain ⟨m, hm⟩ : ∃ r, entryN k s l = r := ⟨_, rfl⟩
      rw [hrr] at CF hfi
      rw [hm] at hfi ⊢
      clear hrr hm
      rcases hfi with ⟨hneg, rfl⟩ | ⟨i, x, rfl, hx, rfl⟩
      · go_enter Try.func34, Try.ntmps34
        go_wp2_with (first
          | ((with_reducible refine (CS.out _).mono ?_); rintro e w' ⟨rfl, hx⟩; obtain ⟨hc0, hc1⟩ := Hc.out _ hx; have HX2 := Lib.hid (HX.out.trans hx); clear hx)
          | ((with_reducible refine (CF.out _ (Hr.out.ext HX2.out)).mono ?_); rintro e w' ⟨rfl, hx⟩; have HX3 := Lib.hid (HX2.out.trans hx); clear hx))
        go_ret2
        exact ⟨rfl, HX3.out⟩
      · have HXx := Lib.hid hx
        obtain ⟨b1, off1, cap1, e1, _⟩ := srow_at Hr.out i x hx
        obtain rfl : ao = some ⟨b1, off1, none⟩ := by simp only [Value.slice.injEq] at e1; exact e1.1
        obtain rfl : n = l.length := by simp only [Value.slice.injEq] at e1; exact e1.2.1
        have hil : i < l.length := (List.getElem?_eq_some_iff.1 hx).1
        obtain ⟨nl, hnl⟩ : ∃ nl, l.length = nl := ⟨_, rfl⟩
        have Hnl := Lib.hid hnl
        rw [hnl] at Hr CF HX Hc hil ⊢
        clear e1 hx hnl
        have hki : (i : Int) < nl := by omega
        go_enter Try.func34, Try.ntmps34
        go_wp2_with (first
          | ((with_reducible refine (CS.out _).mono ?_); rintro e w' ⟨rfl, hx⟩; obtain ⟨hc0, hc1⟩ := Hc.out _ hx; have HXo := Lib.hid hx; have HX2 := Lib.hid (HX.out.trans hx); clear hx)
          | ((with_reducible refine (CF.out _ (Hr.out.ext HX2.out)).mono ?_); rintro e w' ⟨rfl, hx⟩; obtain ⟨hc0, hc1⟩ := Hc.out _ (HXo.out.trans hx); have HX3 := Lib.hid (HX2.out.trans hx); clear hx; obtain ⟨b2, off2, cap2, e2, d0, d1, d2⟩ := srow_at (Hr.out.ext HX3.out) i x HXx.out; obtain ⟨rfl, rfl⟩ := slice_inj e2; clear e2))
        go_ret2
        exact ⟨rfl, HX3.out⟩
  · rw [if_pos h0]
    have hne : (ee != 0) = true := by simpa using h0
    go_enter Try.func34, Try.ntmps34
    go_wp2_with ((with_reducible refine (CS.out _).mono ?_); rintro e w' ⟨rfl, hx⟩; obtain ⟨hc0, hc1⟩ := Hc.out _ hx; have HX2 := Lib.hid (HX.out.trans hx); clear hx)
    go_ret2
    exact ⟨rfl, HX2.out⟩
end Go.Proofs.Ytjnaknfnoibncaa
