/- Tables of sums, as Go has them; what keyed's find tells. Conditions: texts that are no longer than may be. -/
import Derived.Test.YtjnaknfnoibncaaRows2
import Derived.Handy
namespace Go.Proofs.Ytjnaknfnoibncaa
open Go Go.RowKit Go.Shelf
attribute [local go_sem] Oper.semAt_some wide_fn wide_depth

theorem cell_new (w : World) (cs : Array Value) (t : TypeId) (j : Nat) : (w.alloc (.cells cs t)).cell? ⟨w.heap.size, j, none⟩ = cs[j]? := by
  have h := World.alloc_heap_new w (.cells cs t)
  unfold World.cell?
  rw [show (w.alloc (.cells cs t)).heap[(⟨w.heap.size, j, none⟩ : Addr).block]? = _ from h]
  rfl
/-- An entry. -/
structure SumC where
  k : ByteArray
  s : ByteArray
  n : Nat
def SumC.cells (x : SumC) : Array Value := #[.string x.k, .string x.s, .int .u64 (x.n : Int)]
def SumC.val (x : SumC) : Value := .agg x.cells
structure SumC.fit (x : SumC) : Prop where
  k : x.k.size ≤ maxLen
  s : x.s.size ≤ maxLen
  n : x.n < 18446744073709551616
theorem srow_at {W : World} {v : Value} {L : List SumC} (h : SRow W v 3 (L.map SumC.cells)) (k : Nat) (x : SumC) (hx : L[k]? = some x) :
    ∃ b off cap, v = .slice (some ⟨b, off, none⟩) L.length cap ∧ W.cell? ⟨b, off + k * 3, none⟩ = some (.string x.k) ∧ W.cell? ⟨b, off + k * 3 + 1, none⟩ = some (.string x.s) ∧
      W.cell? ⟨b, off + k * 3 + 2, none⟩ = some (.int .u64 (x.n : Int)) := by
  obtain ⟨ao, cap, e, _, _, hc⟩ := h
  obtain ⟨b, off, e2, _, h4⟩ := hc k x.cells (by rw [List.getElem?_map, hx]; rfl)
  rw [List.length_map] at e
  exact ⟨b, off, cap, by rw [e, e2], h4 0 _ rfl, h4 1 _ rfl, h4 2 _ rfl⟩

/-- Is it the entry of key k and text s? -/
def SumC.is (k s : ByteArray) (x : SumC) : Bool := x.k.toList == k.toList && x.s.toList == s.toList
/-- The place of the first entry of k and s. -/
def findN (k s : ByteArray) : List SumC → Option Nat
  | [] => none
  | x :: l => if x.is k s then some 0 else (findN k s l).map (· + 1)
def findI (k s : ByteArray) (l : List SumC) : Int := match findN k s l with | some i => (i : Int) | none => -1

theorem findN_hit (k s : ByteArray) : ∀ (l : List SumC) (i : Nat) (x : SumC), l[i]? = some x → x.is k s = true → (∀ (j : Nat) (y : SumC), j < i → l[j]? = some y → y.is k s = false) → findN k s l = some i
  | [], i, x, h, _, _ => by simp at h
  | y :: l, 0, x, h, hx, _ => by
    simp only [List.getElem?_cons_zero, Option.some.injEq] at h
    subst h
    simp [findN, hx]
  | y :: l, i + 1, x, h, hx, hall => by
    have h0 := hall 0 y (by omega) rfl
    rw [List.getElem?_cons_succ] at h
    have h1 := findN_hit k s l i x h hx fun j z hj hz => hall (j + 1) z (by omega) (by rw [List.getElem?_cons_succ]; exact hz)
    simp [findN, h0, h1]
theorem findN_none (k s : ByteArray) : ∀ (l : List SumC), (∀ (j : Nat) (y : SumC), l[j]? = some y → y.is k s = false) → findN k s l = none
  | [], _ => rfl
  | y :: l, hall => by
    have h0 := hall 0 y rfl
    have h1 := findN_none k s l fun j z hz => hall (j + 1) z (by rw [List.getElem?_cons_succ]; exact hz)
    simp [findN, h0, h1]
theorem findN_some {k s : ByteArray} : ∀ {l : List SumC} {i : Nat}, findN k s l = some i → ∃ x, l[i]? = some x ∧ x.is k s = true
  | [], i, h => by simp [findN] at h
  | y :: l, i, h => by
    unfold findN at h
    split at h
    · rename_i h0; cases h; exact ⟨y, rfl, h0⟩
    · obtain ⟨j, hj, rfl⟩ := Option.map_eq_some_iff.1 h
      obtain ⟨x, hx, hs⟩ := findN_some hj
      exact ⟨x, by rw [List.getElem?_cons_succ]; exact hx, hs⟩

set_option maxRecDepth 100000 in
set_option maxHeartbeats 1000000 in
theorem find1_any (x : SumC) (p q : Nat) (k s : ByteArray) (w : World) (hp : w.cell? ⟨p, 0, none⟩ = some (.string k)) (hq : w.cell? ⟨q, 0, none⟩ = some (.string s)) :
    Calls Try.prog 76 #[x.val, .pointer (some ⟨p, 0, none⟩), .pointer (some ⟨q, 0, none⟩)] w fun e w' => e = .returned (.bool (x.is k s)) ∧ Ext w w' := by
  obtain ⟨xk, xs, xn⟩ := x
  unfold SumC.is SumC.val SumC.cells
  simp only
  have hp' : ∀ o, (w.alloc o).cell? ⟨p, 0, none⟩ = some (.string k) := fun o => ((Keeps.refl (fun _ => True) w).alloc o).cell hp trivial
  have hq' : ∀ o, (w.alloc o).cell? ⟨q, 0, none⟩ = some (.string s) := fun o => ((Keeps.refl (fun _ => True) w).alloc o).cell hq trivial
  have hb : (xk.toList == k.toList) = true ∨ (xk.toList == k.toList) = false := by cases (xk.toList == k.toList) <;> simp
  obtain ⟨b1, h1⟩ : ∃ b, (xk.toList == k.toList) = b := ⟨_, rfl⟩
  obtain ⟨b2, h2⟩ : ∃ b, (xs.toList == s.toList) = b := ⟨_, rfl⟩
  go_enter Try.func76, Try.ntmps76
  go_wp2
  all_goals go_ret
  all_goals exact ⟨by rw [h1, h2]; cases b1 <;> simp_all, (Ext.refl w).alloc _⟩

set_option maxRecDepth 100000 in
set_option maxHeartbeats 1000000 in
theorem IndexS_any (l : List SumC) (v : Value) (p q : Nat) (k s : ByteArray) (w : World) (hr : SRow w v 3 (l.map SumC.cells)) (hp : w.cell? ⟨p, 0, none⟩ = some (.string k)) (hq : w.cell? ⟨q, 0, none⟩ = some (.string s)) :
    Calls Try.prog 75 #[v, .func (.func 76) #[] #[.pointer (some ⟨p, 0, none⟩), .pointer (some ⟨q, 0, none⟩)]] w fun e w' => e = .returned (.int .i64 (findI k s l)) ∧ Ext w w' := by
  have Hr := Lib.hid hr
  obtain ⟨ao, ac, hae, hal⟩ := hr.open
  rw [List.length_map] at hae hal
  clear hr
  obtain ⟨na, hna⟩ : ∃ n, l.length = n := ⟨_, rfl⟩
  rw [hna] at hae hal
  subst hae
  unfold maxLen at hal
  have hal2 : na ≤ 9223372036854775807 := by omega
  clear hal
  have Hna := Lib.hid hna; clear hna
  have Hp := Lib.hid hp; clear hp
  have Hq := Lib.hid hq; clear hq
  have eg := enters_of (P := Try.prog) Try.func76 (by kernel_rfl) rfl
  have CF := Lib.hid fun x W h1 h2 => find1_any x p q k s W h1 h2
  obtain ⟨r, hr⟩ : ∃ r, findI k s l = r := ⟨_, rfl⟩
  rw [hr]
  have HE := Lib.hid hr; clear hr
  go_enter Try.func75, Try.ntmps75
  go_wp2_with fail
  go_loopw [8] (fun i wr => ∃ j : Nat, j ≤ na ∧ i = .int .i64 j ∧ (∀ (i : Nat) (x : SumC), i < j → l[i]? = some x → x.is k s = false) ∧ Ext w wr)
    (fun i _ => na - (intOf i).toNat)
  case atStart => exact ⟨0, Nat.zero_le _, rfl, fun _ _ h => absurd h (Nat.not_lt_zero _), Ext.refl _⟩
  case round =>
    obtain ⟨j, hj, rfl, hall, hx⟩ := hrel
    have HX := Lib.hid hx; clear hx
    have HAll := Lib.hid hall; clear hall
    by_cases hlt : j < na
    · obtain ⟨x, hxa⟩ : ∃ x, l[j]? = some x := ⟨l[j]'(by rw [Hna.out]; exact hlt), List.getElem?_eq_getElem _⟩
      obtain ⟨b1, off1, cap1, e1, c0, c1, c2⟩ := srow_at (Hr.out.ext HX.out) j x hxa
      obtain rfl : ao = some ⟨b1, off1, none⟩ := by simp only [Value.slice.injEq] at e1; exact e1.1
      clear e1
      have Hxa := Lib.hid hxa; clear hxa
      have hki : (j : Int) < na := by omega
      have Hw : Hid (IntKind.i64.wrap ((j : Int) + 1) = (j : Int) + 1) := Lib.hid (IntWalk.i64_in _ (by omega))
      have CX := Lib.hid (CF.out x wr (HX.out.keeps.cell Hp.out trivial) (HX.out.keeps.cell Hq.out trivial))
      obtain ⟨b, hb⟩ : ∃ b, x.is k s = b := ⟨_, rfl⟩
      rw [hb] at CX
      have Hb := Lib.hid hb; clear hb
      unfold SumC.val SumC.cells at CX
      have hw := Hw.out
      cases b with
      | false =>
        go_wp2_with ((with_reducible refine (CX.out).mono ?_); rintro e w' ⟨rfl, hx⟩; have HX2 := Lib.hid (HX.out.trans hx); clear hx)
        go_roundw
        case rel =>
          refine ⟨j + 1, by omega, by simp, fun i y hi hy => ?_, HX2.out⟩
          by_cases hij : i = j
          · subst hij
            rw [Hxa.out] at hy
            obtain rfl := Option.some.inj hy
            exact Hb.out
          · exact HAll.out i y (by omega) hy
        case measure => simp [intOf]; omega
      | true =>
        go_wp2_with ((with_reducible refine (CX.out).mono ?_); rintro e w' ⟨rfl, hx⟩; have HX2 := Lib.hid (HX.out.trans hx); clear hx)
        go_ret
        exact ⟨by rw [← HE.out]; unfold findI; rw [findN_hit k s l j x Hxa.out Hb.out fun i y hi hy => HAll.out i y hi hy]; rfl, HX2.out⟩
    · obtain rfl : j = na := by omega
      go_wp2
      go_ret
      exact ⟨by rw [← HE.out]; unfold findI; rw [findN_none k s l fun i x hx => HAll.out i x (by have := (List.getElem?_eq_some_iff.1 hx).1; rw [Hna.out] at this; exact this) hx]; rfl, HX.out⟩
set_option maxRecDepth 100000 in
set_option maxHeartbeats 1000000 in
theorem find_any (l : List SumC) (v : Value) (o : Bool) (k s : ByteArray) (w : World) (hr : SRow w v 3 (l.map SumC.cells)) :
    Calls Try.prog 51 #[.agg #[.bool o, v], .string k, .string s] w fun e w' => e = .returned (.int .i64 (findI k s l)) ∧ Ext w w' := by
  have Hr := Lib.hid hr
  obtain ⟨ao, n, ac, rfl⟩ := hr.slice
  clear hr
  obtain ⟨w0, h0⟩ : ∃ w0, w.alloc (.cells #[.bool o, .slice ao n ac] 24) = w0 := ⟨_, rfl⟩
  obtain ⟨w1, h1⟩ : ∃ w1, w0.alloc (.cells #[.string k] 9) = w1 := ⟨_, rfl⟩
  obtain ⟨w2, h2⟩ : ∃ w2, w1.alloc (.cells #[.string s] 9) = w2 := ⟨_, rfl⟩
  have hz0 : w0.heap.size = w.heap.size + 1 := by rw [← h0]; simp
  have hz1 : w1.heap.size = w.heap.size + 1 + 1 := by rw [← h1]; simp [hz0]
  have X2 : Ext w w2 := by rw [← h2, ← h1, ← h0]; exact (((Ext.refl w).alloc _).alloc _).alloc _
  have hp1 : w1.cell? ⟨w.heap.size + 1, 0, none⟩ = some (.string k) := by rw [← hz0, ← h1]; exact cell_new w0 #[.string k] 9 0
  have hp : w2.cell? ⟨w.heap.size + 1, 0, none⟩ = some (.string k) := by rw [← h2]; exact ((Keeps.refl (fun _ => True) w1).alloc _).cell hp1 trivial
  have hq : w2.cell? ⟨w.heap.size + 1 + 1, 0, none⟩ = some (.string s) := by rw [← hz1, ← h2]; exact cell_new w1 #[.string s] 9 0
  have C2 := Lib.hid (IndexS_any l (.slice ao n ac) (w.heap.size + 1) (w.heap.size + 1 + 1) k s w2 (Hr.out.ext X2) hp hq)
  have HX := Lib.hid X2
  clear hp hq hp1 hz0 hz1 X2
  subst h2 h1 h0
  go_enter Try.func51, Try.ntmps51
  go_wp2_with ((with_reducible refine (C2.out).mono ?_); rintro e w' ⟨rfl, hx⟩; have HX2 := Lib.hid (HX.out.trans hx); clear hx)
  go_ret
  exact ⟨rfl, HX2.out⟩

set_option maxHeartbeats 1000000 in
theorem Known_any (l : List SumC) (v : Value) (o : Bool) (k s : ByteArray) (w : World) (hr : SRow w v 3 (l.map SumC.cells)) :
    Calls Try.prog 22 #[.agg #[.bool o, v], .string k, .string s] w fun e w' => e = .returned (.bool (decide (0 ≤ findI k s l))) ∧ Ext w w' := by
  obtain ⟨ao, n, ac, rfl⟩ := hr.slice
  have X := (Ext.refl w).alloc (.cells #[.bool o, .slice ao n ac] 24)
  have C := Lib.hid (find_any l _ o k s _ (hr.ext X))
  have HX := Lib.hid X; clear X
  clear hr
  obtain ⟨r, hr⟩ : ∃ r, findI k s l = r := ⟨_, rfl⟩
  rw [hr] at C ⊢
  clear hr
  go_enter Try.func22, Try.ntmps22
  go_wp2_with ((with_reducible refine (C.out).mono ?_); rintro e w' ⟨rfl, hx⟩; have HX2 := Lib.hid (HX.out.trans hx); clear hx)
  go_ret
  exact ⟨rfl, HX2.out⟩
end Go.Proofs.Ytjnaknfnoibncaa
