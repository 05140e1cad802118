/- What sip's turns and rounds do. Conditions: numbers of 64 bits. -/
import Derived.Test.YtjnaknfnoibncaaBaseM
import Derived.Test.YtjnaknfnoibncaaSipMath
import Derived.Laws.BitsAllLaws
import Derived.Laws.Bits64
import Derived.StillTailTactics
namespace Go.Proofs.Ytjnaknfnoibncaa
open Go Go.RowKit Go.Shelf
attribute [local go_sem] Oper.semAt_some wide_fn wide_depth

theorem shl64 (x k : Nat) : IntKind.u64.wrap ((x : Int) * 2 ^ k) = ((x * 2 ^ k % 18446744073709551616 : Nat) : Int) := by
  rw [IntKind.wrap_u64, Int.natCast_emod, Int.natCast_mul, Int.natCast_pow]; rfl
theorem rot64 (x k : Nat) (hx : x < 18446744073709551616) :
    Go.bits .or .u64 (IntKind.u64.wrap ((x : Int) * 2 ^ k)) ((x : Int) / 2 ^ (64 - k)) = ((rotM x k : Nat) : Int) := by
  rw [shl64 x k]
  have h1 : x * 2 ^ k % 18446744073709551616 < 18446744073709551616 := Nat.mod_lt _ (by decide)
  have h2 : x / 2 ^ (64 - k) < 18446744073709551616 := Nat.lt_of_le_of_lt (Nat.div_le_self _ _) hx
  have h3 : ((x : Int) / 2 ^ (64 - k)) = ((x / 2 ^ (64 - k) : Nat) : Int) := by
    rw [Int.natCast_ediv, Int.natCast_pow]; rfl
  rw [h3, u64_or_nat _ _ h1 h2]
  rfl

set_option maxHeartbeats 400000 in
theorem RotateLeft_any (x k : Nat) (w : World) (hx : x < 18446744073709551616) (hk : k ≤ 63) :
    Calls Try.prog 106 #[.int .u64 (x : Int), .int .i64 (k : Int)] w fun e w' => e = .returned (.int .u64 (rotM x k : Nat)) ∧ w = w' := by
  have hand : Go.bits .and .u64 (k : Int) 63 = (k : Int) := by
    have h1 := u64_and_nat k 63 (by omega) (by omega)
    rw [show (((63 : Nat) : Int)) = 63 from rfl] at h1
    rw [h1, show (63 : Nat) = 2 ^ 6 - 1 from rfl, Nat.and_two_pow_sub_one_eq_mod, Nat.mod_eq_of_lt (by omega)]
  have hm : min k 64 = k := by omega
  have hs : IntKind.u64.wrap (64 - (k : Int)) = ((64 - k : Nat) : Int) := by rw [IntKind.wrap_u64]; omega
  have hm2 : min (64 - k) 64 = 64 - k := by omega
  have hz : (0 : Int) ≤ ((64 - k : Nat) : Int) := Int.natCast_nonneg _
  go_enter Try.func106, Try.ntmps106
  go_wp2
  go_ret
  exact ⟨by rw [← rot64 x k hx]; rfl, rfl⟩

def encU (l : List Nat) : List Value := l.map fun n => Value.int .u64 (n : Nat)
/-- Block B is a row of numbers. -/
def NumsAt (W : World) (B : Nat) (t : TypeId) (l : List Nat) : Prop := W.heap[B]? = some (.cells (encU l).toArray t (0, 0))
theorem NumsAt.lt {W : World} {B : Nat} {t : TypeId} {l : List Nat} (h : NumsAt W B t l) : B < W.heap.size := (Array.getElem?_eq_some_iff.1 h).1
theorem NumsAt.cell {W : World} {B : Nat} {t : TypeId} {l : List Nat} (h : NumsAt W B t l) {i x : Nat} (hi : l[i]? = some x) : W.cell? ⟨B, i, none⟩ = some (.int .u64 (x : Nat)) := by
  simp [World.cell?, show W.heap[B]? = _ from h, encU, hi]
theorem NumsAt.frozen {W : World} {B : Nat} {t : TypeId} {l : List Nat} (h : NumsAt W B t l) (i : Nat) : W.frozen? ⟨B, i, none⟩ = false := by simp [World.frozen?, show W.heap[B]? = _ from h]
theorem NumsAt.set {W : World} {B : Nat} {t : TypeId} {l : List Nat} (h : NumsAt W B t l) (i x : Nat) : NumsAt (W.setCell ⟨B, i, none⟩ (.int .u64 (x : Nat))) B t (l.set i x) := by
  obtain ⟨hlt, hk⟩ := Array.getElem?_eq_some_iff.1 h
  show (W.heap.modify B _)[B]? = _
  rw [Array.getElem?_eq_getElem (by rw [Array.size_modify]; exact hlt), Array.getElem_modify_self, hk]
  simp [encU, List.map_set]
theorem NumsAt.keeps {W W' : World} {B : Nat} {t : TypeId} {l : List Nat} (h : NumsAt W B t l) {K : Nat → Prop} (k : Keeps K W W') (hK : K B) : NumsAt W' B t l := k.heap h hK
theorem NumsAt.new (W : World) (t : TypeId) (l : List Nat) : NumsAt (W.alloc (.cells (encU l).toArray t)) W.heap.size t l := World.alloc_heap_new W _

set_option maxRecDepth 100000 in
set_option maxHeartbeats 1000000 in
theorem turn_any (B i k x : Nat) (t : TypeId) (l : List Nat) (w : World) (h : NumsAt w B t l) (hi : i < 4) (hx : l[i]? = some x) (hx64 : x < 18446744073709551616) (hk : k ≤ 63) :
    Calls Try.prog 104 #[.pointer (some ⟨B, 0, none⟩), .int .i64 (i : Int), .int .i64 (k : Int)] w fun e w' => (∃ v, e = .returned v) ∧ NumsAt w' B t (l.set i (rotM x k)) ∧ Keeps (fun j => j ≠ B) w w' := by
  have hc := h.cell hx
  have hf := h.frozen i
  have H := Lib.hid h
  have HX := Lib.hid hx
  have hi4 : (i : Int) < 4 := by omega
  clear h hx
  go_enter Try.func104, Try.ntmps104
  refine wp_region_still_tail 11 (by kernel_rfl) (by kernel_rfl) ?_
  simp only [List.take_succ_cons, List.take_zero, List.drop_succ_cons, List.drop_zero]
  iterate 8 still_step
  still_call ((RotateLeft_any x k _ hx64 hk).mono fun _ _ h => ⟨h.1, h.2.symm⟩)
  iterate 2 still_step
  refine wpStill_nil ?_
  change wpList _ _ _ _ _ w.drew
  go_wp2
  go_end0
  have h1 := H.out.set i (rotM x k)
  exact ⟨⟨_, rfl⟩, h1, ((Keeps.refl _ w).setCell (p := ⟨B, i, none⟩) (fun h => h rfl) _).drew⟩

theorem add64 (x y : Nat) : IntKind.u64.wrap ((x : Int) + (y : Int)) = ((addM x y : Nat) : Int) := by
  rw [IntKind.wrap_u64]; unfold addM; omega

set_option maxRecDepth 100000 in
set_option maxHeartbeats 2000000 in
theorem stir_any (B i j k x y : Nat) (t : TypeId) (l : List Nat) (w : World) (h : NumsAt w B t l) (hi : i < 4) (hj : j < 4) (hij : i ≠ j) (hx : l[i]? = some x) (hy : l[j]? = some y)
    (hy64 : y < 18446744073709551616) (hk : k ≤ 63) :
    Calls Try.prog 103 #[.pointer (some ⟨B, 0, none⟩), .int .i64 (i : Int), .int .i64 (j : Int), .int .i64 (k : Int)] w
      fun e w' => (∃ v, e = .returned v) ∧ NumsAt w' B t ((l.set i (addM x y)).set j (mixM (addM x y) y k)) ∧ Keeps (fun j => j ≠ B) w w' := by
  have hc := h.cell hx
  have hcj := h.cell hy
  have hf := h.frozen i
  have hfj := h.frozen j
  have hil := (List.getElem?_eq_some_iff.1 hx).1
  have hjl := (List.getElem?_eq_some_iff.1 hy).1
  have H := Lib.hid h
  have HX := Lib.hid hx
  have HY := Lib.hid hy
  have hi4 : (i : Int) < 4 := by omega
  have hj4 : (j : Int) < 4 := by omega
  have HIJ := Lib.hid hij
  have HA := Lib.hid (add64 x y)
  clear h hx hy hij
  go_enter Try.func103, Try.ntmps103
  go_wp2_with fail
  refine wp_region_still_tail 13 (by kernel_rfl) (by kernel_rfl) ?_
  simp only [List.take_succ_cons, List.take_zero, List.drop_succ_cons, List.drop_zero]
  iterate 10 still_step
  refine wpStill_step (fun K hK => ?_)
  go_simp
  rw [HA.out]
  refine hK _ ?_
  clear hK K
  iterate 2 still_step
  refine wpStill_nil ?_
  change wpList _ _ _ _ _ w.drew
  have hl1 : (l.set i (addM x y))[j]? = some y := by rw [List.getElem?_set_ne HIJ.out]; exact HY.out
  have CT := Lib.hid fun W (h : NumsAt W B t (l.set i (addM x y))) => turn_any B j k y t _ W h hj hl1 hy64 hk
  have h1 : NumsAt (w.drew.setCell ⟨B, i, none⟩ (.int .u64 (addM x y : Nat))) B t (l.set i (addM x y)) := H.out.set i (addM x y)
  have hk1 : Keeps (fun j => j ≠ B) w (w.drew.setCell ⟨B, i, none⟩ (.int .u64 (addM x y : Nat))) := ((Keeps.refl _ w).drew).setCell (p := ⟨B, i, none⟩) (fun h => h rfl) _
  have H1 := Lib.hid h1
  have HK1 := Lib.hid hk1
  have HL1 := Lib.hid hl1
  clear h1 hk1 hl1
  go_wp2_with fail
  refine (CT.out _ H1.out).mono ?_
  rintro e w2 ⟨⟨v, rfl⟩, h2, hk2⟩
  have hc2 := h2.cell (i := i) (x := addM x y) (by rw [List.getElem?_set_ne HIJ.out.symm, List.getElem?_set_self hil])
  have hcj2 := h2.cell (i := j) (x := rotM y k) (by rw [List.getElem?_set_self (by simpa using hjl)])
  have hfi2 := h2.frozen i
  have hfj2 := h2.frozen j
  have hxor := bits_xor_u64_nat (rotM y k) (addM x y) (rotM_lt y k (by omega) hy64) (addM_lt x y)
  have H2 := Lib.hid h2
  have HK2 : Hid (Keeps (fun j => j ≠ B) w w2) := Lib.hid (HK1.out.trans hk2)
  clear h2 hk2 HK1 H1 hc hcj hf hfj
  have HXR := Lib.hid hxor
  clear hxor
  go_wp2_with fail
  refine wp_region_still_tail 13 (by kernel_rfl) (by kernel_rfl) ?_
  simp only [List.take_succ_cons, List.take_zero, List.drop_succ_cons, List.drop_zero]
  iterate 10 still_step
  refine wpStill_step (fun K hK => ?_)
  go_simp
  rw [HXR.out]
  refine hK _ ?_
  clear hK K
  iterate 2 still_step
  refine wpStill_nil ?_
  change wpList _ _ _ _ _ w2.drew
  go_wp2
  go_end0
  refine ⟨⟨_, rfl⟩, ?_, (HK2.out.setCell (p := ⟨B, j, none⟩) (fun h => h rfl) _).drew⟩
  have h3 := H2.out.set j (rotM y k ^^^ addM x y)
  rw [List.set_set] at h3
  exact h3

def St.list (s : St) : List Nat := [s.a, s.b, s.c, s.d]
set_option maxRecDepth 100000 in
set_option maxHeartbeats 2000000 in
theorem round_any (B : Nat) (t : TypeId) (s : St) (w : World) (h : NumsAt w B t s.list) (hs : s.ok) :
    Calls Try.prog 98 #[.pointer (some ⟨B, 0, none⟩)] w fun e w' => (∃ v, e = .returned v) ∧ NumsAt w' B t (roundM s).list ∧ Keeps (fun j => j ≠ B) w w' := by
  obtain ⟨a, b, c, d⟩ := s
  obtain ⟨ha, hb, hc, hd⟩ := hs
  simp only at ha hb hc hd
  simp only [St.list] at h
  simp only [St.list, roundM]
  obtain ⟨a1, e1⟩ : ∃ a1, addM a b = a1 := ⟨_, rfl⟩
  obtain ⟨c1, e2⟩ : ∃ c1, addM c d = c1 := ⟨_, rfl⟩
  rw [e1, e2]
  have ha1 : a1 < 18446744073709551616 := e1 ▸ addM_lt a b
  have hc1 : c1 < 18446744073709551616 := e2 ▸ addM_lt c d
  obtain ⟨b1, e3⟩ : ∃ b1, mixM a1 b 13 = b1 := ⟨_, rfl⟩
  obtain ⟨d1, e4⟩ : ∃ d1, mixM c1 d 16 = d1 := ⟨_, rfl⟩
  obtain ⟨a2, e5⟩ : ∃ a2, rotM a1 32 = a2 := ⟨_, rfl⟩
  rw [e3, e4, e5]
  have hb1 : b1 < 18446744073709551616 := e3 ▸ mixM_lt (by decide) ha1 hb
  have hd1 : d1 < 18446744073709551616 := e4 ▸ mixM_lt (by decide) hc1 hd
  have ha2 : a2 < 18446744073709551616 := e5 ▸ rotM_lt _ _ (by decide) ha1
  obtain ⟨a3, e6⟩ : ∃ a3, addM a2 d1 = a3 := ⟨_, rfl⟩
  obtain ⟨c2, e7⟩ : ∃ c2, addM c1 b1 = c2 := ⟨_, rfl⟩
  rw [e6, e7]
  have hc2 : c2 < 18446744073709551616 := e7 ▸ addM_lt _ _
  have C1 := Lib.hid fun W (h : NumsAt W B t [a, b, c, d]) => stir_any B 0 1 13 a b t _ W h (by decide) (by decide) (by decide) rfl rfl hb (by decide)
  have C2 := Lib.hid fun W (h : NumsAt W B t [a1, b1, c, d]) => turn_any B 0 32 a1 t _ W h (by decide) rfl ha1 (by decide)
  have C3 := Lib.hid fun W (h : NumsAt W B t [a2, b1, c, d]) => stir_any B 2 3 16 c d t _ W h (by decide) (by decide) (by decide) rfl rfl hd (by decide)
  have C4 := Lib.hid fun W (h : NumsAt W B t [a2, b1, c1, d1]) => stir_any B 0 3 21 a2 d1 t _ W h (by decide) (by decide) (by decide) rfl rfl hd1 (by decide)
  have C5 := Lib.hid fun W (h : NumsAt W B t [a3, b1, c1, mixM a3 d1 21]) => stir_any B 2 1 17 c1 b1 t _ W h (by decide) (by decide) (by decide) rfl rfl hb1 (by decide)
  have C6 := Lib.hid fun W (h : NumsAt W B t [a3, mixM c2 b1 17, c2, mixM a3 d1 21]) => turn_any B 2 32 c2 t _ W h (by decide) rfl hc2 (by decide)
  rw [e1, e3] at C1
  rw [e5] at C2
  rw [e2, e4] at C3
  rw [e6] at C4
  rw [e7] at C5
  simp only [List.set] at C1 C2 C3 C4 C5 C6
  have H := Lib.hid h
  clear h e1 e2 e3 e4 e5 e6 e7
  go_enter Try.func98, Try.ntmps98
  go_wp2_with fail
  refine (C1.out _ H.out).mono ?_
  rintro e w1 ⟨⟨v, rfl⟩, h1, k1⟩
  have H1 := Lib.hid h1; have K1 := Lib.hid k1; clear h1 k1
  go_wp2_with fail
  refine (C2.out _ H1.out).mono ?_
  rintro e w2 ⟨⟨v2, rfl⟩, h2, k2⟩
  have H2 := Lib.hid h2; have K2 := Lib.hid (K1.out.trans k2); clear h2 k2
  go_wp2_with fail
  refine (C3.out _ H2.out).mono ?_
  rintro e w3 ⟨⟨v3, rfl⟩, h3, k3⟩
  have H3 := Lib.hid h3; have K3 := Lib.hid (K2.out.trans k3); clear h3 k3
  go_wp2_with fail
  refine (C4.out _ H3.out).mono ?_
  rintro e w4 ⟨⟨v4, rfl⟩, h4, k4⟩
  have H4 := Lib.hid h4; have K4 := Lib.hid (K3.out.trans k4); clear h4 k4
  go_wp2_with fail
  refine (C5.out _ H4.out).mono ?_
  rintro e w5 ⟨⟨v5, rfl⟩, h5, k5⟩
  have H5 := Lib.hid h5; have K5 := Lib.hid (K4.out.trans k5); clear h5 k5
  go_wp2_with fail
  refine (C6.out _ H5.out).mono ?_
  rintro e w6 ⟨⟨v6, rfl⟩, h6, k6⟩
  have H6 := Lib.hid h6; have K6 := Lib.hid (K5.out.trans k6); clear h6 k6
  go_wp2_with fail
  go_end0
  exact ⟨⟨_, rfl⟩, H6.out, K6.out⟩

theorem Keeps.setRowS {K : Nat → Prop} {a w : World} (h : Keeps K a w) {g : Nat} (hg : ¬ K g) (cs : Array Value) : Keeps K a (w.setRow g cs) :=
  h.trans ⟨rfl, rfl, rfl, by simp, fun k _ hK => setRow_other w g k cs (fun e => hg (e ▸ hK))⟩
theorem start_nums (w : World) (s : St) (t1 t2 t3 : TypeId) :
    NumsAt (((w.alloc (.cells (encU s.list).toArray t1)).alloc (.cells (encU [0, 0, 0, 0]).toArray t2)).alloc (.cells (encU s.list).toArray t3)) (w.heap.size + 1 + 1) t3 s.list ∧
    NumsAt (((w.alloc (.cells (encU s.list).toArray t1)).alloc (.cells (encU [0, 0, 0, 0]).toArray t2)).alloc (.cells (encU s.list).toArray t3)) (w.heap.size + 1) t2 [0, 0, 0, 0] := by
  have h1 := NumsAt.new ((w.alloc (.cells (encU s.list).toArray t1)).alloc (.cells (encU [0, 0, 0, 0]).toArray t2)) t3 s.list
  have h2 := (NumsAt.new (w.alloc (.cells (encU s.list).toArray t1)) t2 [0, 0, 0, 0]).keeps (K := fun _ => True) ((Keeps.refl _ _).alloc (.cells (encU s.list).toArray t3)) trivial
  simp only [World.size_alloc] at h1 h2
  exact ⟨h1, h2⟩
def St.agg (s : St) : Value := .agg (encU s.list).toArray
set_option maxRecDepth 100000 in
set_option maxHeartbeats 2000000 in
theorem Round_any (s : St) (n : Int) (w : World) (hs : s.ok) (hn : -9223372036854775808 ≤ n) (hn2 : n ≤ 9223372036854775807) :
    Calls Try.prog 86 #[s.agg, .int .i64 n] w fun e w' => e = .returned (roundsM (min n 64).toNat s).agg ∧ Ext w w' := by
  obtain ⟨M, hM⟩ : ∃ M : Nat, (min n 64).toNat = M := ⟨_, rfl⟩
  rw [hM]
  have hM1 : M ≤ 64 := by omega
  have CR := Lib.hid fun (B k : Nat) W (h : NumsAt W B 120 (roundsM k s).list) => round_any B 120 (roundsM k s) W h (roundsM_ok hs k)
  by_cases hle : n ≤ 64
  · have hA : n ≤ (M : Int) := by omega
    have hB : 0 < n → (M : Int) ≤ n := by omega
    have hB2 : n ≤ 0 → M = 0 := by omega
    have HB := Lib.hid hB
    have HB2 := Lib.hid hB2
    clear hM hB hB2 hs
    go_enter Try.func86, Try.ntmps86
    simp only [St.agg, St.list, encU, List.map_cons, List.map_nil]
    go_wp2
    obtain ⟨W, hW⟩ : ∃ W, ((w.alloc (.cells #[.int .u64 s.a, .int .u64 s.b, .int .u64 s.c, .int .u64 s.d] 119)).alloc (.cells #[.int .u64 0, .int .u64 0, .int .u64 0, .int .u64 0] 119)).alloc (.cells #[.int .u64 s.a, .int .u64 s.b, .int .u64 s.c, .int .u64 s.d] 120) = W := ⟨_, rfl⟩
    rw [hW]
    obtain ⟨h0, hz⟩ : NumsAt W (w.heap.size + 1 + 1) 120 s.list ∧ NumsAt W (w.heap.size + 1) 119 [0, 0, 0, 0] := by
      rw [← hW]; exact start_nums w s _ _ _
    have hx : Ext w W := by
      rw [← hW]
      exact (((Ext.refl w).alloc _).alloc _).alloc _
    clear hW
    go_loopw [9] (fun i wr => ∃ k : Nat, k ≤ M ∧ i = .int .i64 k ∧ NumsAt wr (w.heap.size + 1 + 1) 120 (roundsM k s).list ∧ NumsAt wr (w.heap.size + 1) 119 [0, 0, 0, 0] ∧ Ext w wr) (fun i _ => M - (intOf i).toNat)
    case atStart => exact ⟨0, Nat.zero_le _, rfl, h0, hz, hx⟩
    case round =>
      obtain ⟨k, hk, rfl, hs, hz, hx⟩ := hrel
      have HS := Lib.hid hs
      have HZ := Lib.hid hz
      have HX := Lib.hid hx
      clear hs hz hx h0
      by_cases hlt : (k : Int) < n
      · go_wp2_with fail
        refine (CR.out _ k _ HS.out).mono ?_
        rintro e w1 ⟨⟨v, rfl⟩, h1, k1⟩
        have H1 := Lib.hid h1
        have K1 := Lib.hid k1
        clear h1 k1
        go_wp2_with fail
        go_roundw
        case rel => exact ⟨k + 1, by have := HB.out; omega, by go_num, H1.out, HZ.out.keeps K1.out (by simp), Below.trans HX.out (K1.out.below HX.out.size (fun j hj => by omega))⟩
        case measure => simp [intOf]; have := HB.out; omega
      · obtain rfl : k = M := by have := HB.out; have := HB2.out; omega
        have HR : Hid (wr.heap[w.heap.size + 1 + 1]? = some (.cells #[.int .u64 (roundsM k s).a, .int .u64 (roundsM k s).b, .int .u64 (roundsM k s).c, .int .u64 (roundsM k s).d] 120 (0, 0))) := Lib.hid HS.out
        have HZ2 : Hid (wr.heap[w.heap.size + 1]? = some (.cells #[.int .u64 0, .int .u64 0, .int .u64 0, .int .u64 0] 119 (0, 0))) := Lib.hid HZ.out
        clear HS HZ CR
        go_wp2_with (first
          | (with_reducible refine wpList_load_row rfl _ _ rfl (w.heap.size + 1 + 1) rfl _ _ _ _ HR.out Try.underlying120 rfl (by kernel_rfl) ?_)
          | (refine wpList_store_row rfl _ _ _ rfl (w.heap.size + 1) #[.int .u64 (roundsM k s).a, .int .u64 (roundsM k s).b, .int .u64 (roundsM k s).c, .int .u64 (roundsM k s).d] rfl rfl _ _ HZ2.out (by kernel_rfl) rfl (by kernel_rfl) ?_))
        refine bodyPost_ret (v := (roundsM k s).agg) ?_ rfl ⟨rfl, ?_⟩
        · exact results_cell_row (P := Try.prog) (fn := Try.f86) (p := 4) (ty := 119) rfl _ _ (w.heap.size + 1) _ #[.int .u64 (roundsM k s).a, .int .u64 (roundsM k s).b, .int .u64 (roundsM k s).c, .int .u64 (roundsM k s).d] _ _ rfl (setRow_heap _ _ _ _ _ _ HZ2.out) Try.underlying119 rfl (by kernel_rfl)
        · exact ((HX.out.keeps.mono (K' := fun k => k < w.heap.size) fun _ _ _ => trivial).setRowS (by omega) _).ext fun _ h => h
  · have hM2 : 64 ≤ M := by omega
    clear hM hs
    go_enter Try.func86, Try.ntmps86
    simp only [St.agg, St.list, encU, List.map_cons, List.map_nil]
    go_wp2
    obtain ⟨W, hW⟩ : ∃ W, ((w.alloc (.cells #[.int .u64 s.a, .int .u64 s.b, .int .u64 s.c, .int .u64 s.d] 119)).alloc (.cells #[.int .u64 0, .int .u64 0, .int .u64 0, .int .u64 0] 119)).alloc (.cells #[.int .u64 s.a, .int .u64 s.b, .int .u64 s.c, .int .u64 s.d] 120) = W := ⟨_, rfl⟩
    rw [hW]
    obtain ⟨h0, hz⟩ : NumsAt W (w.heap.size + 1 + 1) 120 s.list ∧ NumsAt W (w.heap.size + 1) 119 [0, 0, 0, 0] := by
      rw [← hW]; exact start_nums w s _ _ _
    have hx : Ext w W := by
      rw [← hW]
      exact (((Ext.refl w).alloc _).alloc _).alloc _
    clear hW
    go_loopw [9] (fun i wr => ∃ k : Nat, k ≤ M ∧ i = .int .i64 k ∧ NumsAt wr (w.heap.size + 1 + 1) 120 (roundsM k s).list ∧ NumsAt wr (w.heap.size + 1) 119 [0, 0, 0, 0] ∧ Ext w wr) (fun i _ => M - (intOf i).toNat)
    case atStart => exact ⟨0, Nat.zero_le _, rfl, h0, hz, hx⟩
    case round =>
      obtain ⟨k, hk, rfl, hs, hz, hx⟩ := hrel
      have HS := Lib.hid hs
      have HZ := Lib.hid hz
      have HX := Lib.hid hx
      clear hs hz hx h0
      by_cases hlt : (k : Int) < 64
      · go_wp2_with fail
        refine (CR.out _ k _ HS.out).mono ?_
        rintro e w1 ⟨⟨v, rfl⟩, h1, k1⟩
        have H1 := Lib.hid h1
        have K1 := Lib.hid k1
        clear h1 k1
        go_wp2_with fail
        go_roundw
        case rel => exact ⟨k + 1, by omega, by go_num, H1.out, HZ.out.keeps K1.out (by simp), Below.trans HX.out (K1.out.below HX.out.size (fun j hj => by omega))⟩
        case measure => simp [intOf]; omega
      · obtain rfl : k = M := by omega
        have HR : Hid (wr.heap[w.heap.size + 1 + 1]? = some (.cells #[.int .u64 (roundsM k s).a, .int .u64 (roundsM k s).b, .int .u64 (roundsM k s).c, .int .u64 (roundsM k s).d] 120 (0, 0))) := Lib.hid HS.out
        have HZ2 : Hid (wr.heap[w.heap.size + 1]? = some (.cells #[.int .u64 0, .int .u64 0, .int .u64 0, .int .u64 0] 119 (0, 0))) := Lib.hid HZ.out
        clear HS HZ CR
        go_wp2_with (first
          | (with_reducible refine wpList_load_row rfl _ _ rfl (w.heap.size + 1 + 1) rfl _ _ _ _ HR.out Try.underlying120 rfl (by kernel_rfl) ?_)
          | (refine wpList_store_row rfl _ _ _ rfl (w.heap.size + 1) #[.int .u64 (roundsM k s).a, .int .u64 (roundsM k s).b, .int .u64 (roundsM k s).c, .int .u64 (roundsM k s).d] rfl rfl _ _ HZ2.out (by kernel_rfl) rfl (by kernel_rfl) ?_))
        refine bodyPost_ret (v := (roundsM k s).agg) ?_ rfl ⟨rfl, ?_⟩
        · exact results_cell_row (P := Try.prog) (fn := Try.f86) (p := 4) (ty := 119) rfl _ _ (w.heap.size + 1) _ #[.int .u64 (roundsM k s).a, .int .u64 (roundsM k s).b, .int .u64 (roundsM k s).c, .int .u64 (roundsM k s).d] _ _ rfl (setRow_heap _ _ _ _ _ _ HZ2.out) Try.underlying119 rfl (by kernel_rfl)
        · exact ((HX.out.keeps.mono (K' := fun k => k < w.heap.size) fun _ _ _ => trivial).setRowS (by omega) _).ext fun _ h => h
end Go.Proofs.Ytjnaknfnoibncaa
