/- hardtacktop.TopRound answers true, and leaves what lay as it lay. Conditions: numbers and texts of their kinds. -/
import Derived.Test.YtjnaknfnoibncaaGiveBack
import Derived.Test.YtjnaknfnoibncaaAskOwn
namespace Go.Proofs.Ytjnaknfnoibncaa
open Go Go.RowKit Go.Shelf
attribute [local go_sem] Oper.semAt_some wide_fn wide_depth

set_option maxHeartbeats 1000000 in
theorem begins6_any (w : World) : Calls Try.prog 32 #[] w fun e w' => e = .returned (.bool true) ∧ Ext w w' := by
  have h2 : (labelsB ⟨#[1, 97, 3, 111, 114, 103, 0]⟩).length = 2 := by decide +kernel
  have CC := Lib.hid fun W => h2 ▸ Count_any ⟨#[1, 97, 3, 111, 114, 103, 0]⟩ W (by decide)
  clear h2
  go_enter Try.func32, Try.ntmps32
  go_wp2_with fail
  refine (CC.out _).mono ?_
  rintro e w' ⟨rfl, hx⟩
  have HX := Lib.hid hx; clear hx
  go_wp2
  go_ret
  exact ⟨rfl, HX.out⟩

theorem cli_ok {o : Bool} {l : List SumC} {k : ByteArray} {n : Nat} (hk : k.size = 16) : ∃ c, cliV o l k (askT n) = (c, 0) ∧ c.size = 8 := by
  have h0 : sumE k (askT n) = 0 := by
    unfold sumE
    rw [if_pos hk, if_pos]
    show (askT n).size ≤ 65536
    have : (askT n).size = 7 := rfl
    omega
  unfold cliV
  rw [if_pos h0]
  exact ⟨_, rfl, size_bytesS _⟩
/-- The numbers of the round. -/
theorem round_facts {o : Bool} {l : List SumC} {sn sw nx c : ByteArray} {a : Nat} {now lt : Int} (h8 : c.size = 8) (hs : sn.size = 16) (hx : nx.size = 16) (h1 : 0 ≤ lt) (h2 : lt ≤ 65535) :
    ∃ g r1 r2, makeV o l sn c a now = (g, 0) ∧ areC c g = true ∧ (∀ x ∈ [(⟨10, c ++ g⟩ : OptC)], x.d.size ≤ maxLen) ∧ acceptV c true [(⟨10, c ++ g⟩ : OptC)] = (g, 0) ∧ rollV sn nx = (nx, sn, 0) ∧
      verV o l sn sw c g a (now + lt) = (r1, if lt ≤ 3600 then 0 else 10) ∧ verV o l nx sn c g a (now + lt) = (r2, if lt ≤ 3600 then 0 else 10) := by
  obtain ⟨g, hg⟩ := cook_size (o := o) (l := l) (a := a) (s := (ofS now).toNat) h8 hs
  have hm : makeV o l sn c a now = (g, 0) := by unfold makeV; rw [if_pos h8]; exact hg
  obtain ⟨h16, _, _, _, hmb⟩ := made_of (ofS_lt now) hg
  have har : areC c g = true := by unfold areC; exact decide_eq_true ⟨h8, .inr ⟨by omega, by omega⟩⟩
  have hv1 := ver_then (k1 := sn) (k2 := sw) (n := lt) (by omega) (by omega) hm
  rw [hmb] at hv1
  obtain ⟨x, _, hv2⟩ := back_facts (n := lt) (by omega) (by omega) hm hx
  have hput := put_sizes (l := []) har (by simp)
  have hacc := acceptV_put c true [] har
  rw [if_pos rfl] at hacc
  by_cases hf : lt ≤ 3600
  · rw [if_pos ⟨by omega, hf⟩] at hv1 hv2
    simp only [if_true] at hv1
    refine ⟨g, _, (if (x.toList == g.toList) = true then decide (1800 < lt) else true), hm, har, hput, hacc, by unfold rollV; rw [if_pos hx], by rw [hv1, if_pos hf], ?_⟩
    rw [hv2, if_pos hf]
    split <;> rfl
  · rw [if_neg (by omega)] at hv1 hv2
    exact ⟨g, _, _, hm, har, hput, hacc, by unfold rollV; rw [if_pos hx], by rw [hv1, if_neg hf], by rw [hv2, if_neg hf]⟩

set_option maxRecDepth 100000 in
set_option maxHeartbeats 8000000 in
theorem topRound_walk (l : List SumC) (v : Value) (o : Bool) (k sn sw nx : ByteArray) (b a : Nat) (now lt : Int) (w : World) (hr : SRow w v 3 (l.map SumC.cells)) (hb : b < 4294967296) (ha : a < 4294967296) (h1 : 0 ≤ lt) (h2 : lt ≤ 65535) :
    Calls Try.prog 9 #[.agg #[.bool o, v], .string k, .agg #[.string sn, .string sw], .string nx, .int .u32 (b : Int), .int .u32 (a : Int), .int .i64 now, .int .u16 lt] w fun e w' => e = .returned (.bool true) ∧ Ext w w' := by
  have Hr := Lib.hid hr
  obtain ⟨ao, ac, rfl, hlm⟩ := hr.open
  rw [List.length_map] at Hr hlm ⊢
  clear hr hlm
  have CL := Lib.hid fun W => begins6_any W
  have CM := Lib.hid fun W => Small9_any ao l.length ac o W
  have C1 := Lib.hid fun W h => AClient_any l (.slice ao l.length ac) o k b W h hb
  have C2 := Lib.hid fun c W h => Make_any l (.slice ao l.length ac) o sn c a now W h ha
  have C5 := Lib.hid fun c g W h => Verify_any l (.slice ao l.length ac) o sn sw c g a (now + lt) W h ha
  have C6 := Lib.hid fun W => Roll_any sn sw nx W
  have C7 := Lib.hid fun c g W h => Verify_any l (.slice ao l.length ac) o nx sn c g a (now + lt) W h ha
  have hcli := fun h => cli_ok (o := o) (l := l) (k := k) (n := b) h
  have hrf := fun c h8 hs hx => round_facts (o := o) (l := l) (sn := sn) (sw := sw) (nx := nx) (c := c) (a := a) (now := now) (lt := lt) h8 hs hx h1 h2
  obtain ⟨nl, hnl⟩ : ∃ nl, l.length = nl := ⟨_, rfl⟩
  rw [hnl] at CM C1 C2 C5 C7 Hr ⊢
  clear hnl ha hb
  obtain ⟨w1, he1⟩ : ∃ w1, (w.alloc (.cells #[.bool o, .slice ao nl ac] 24)).alloc (.cells #[.string sn, .string sw] 50) = w1 := ⟨_, rfl⟩
  have X1 : Ext w w1 := by rw [← he1]; exact ((Ext.refl w).alloc _).alloc _
  have hz : (w.alloc (.cells #[.bool o, .slice ao nl ac] 24)).heap.size = w.heap.size + 1 := by simp
  have hA : w1.heap[w.heap.size]? = some (.cells #[.bool o, .slice ao nl ac] 24 (0, 0)) := by
    rw [← he1]
    exact ((Keeps.refl (fun _ => True) _).alloc _).heap (World.alloc_heap_new w _) trivial
  have hB : w1.heap[w.heap.size + 1]? = some (.cells #[.string sn, .string sw] 50 (0, 0)) := by
    rw [← he1, ← hz]
    exact World.alloc_heap_new _ _
  have TW : Hid (∀ W, Ext w1 W → (W.cell? ⟨w.heap.size, 0, none⟩ = some (.bool o) ∧ W.cell? ⟨w.heap.size, 1, none⟩ = some (.slice ao nl ac)) ∧ W.cell? ⟨w.heap.size + 1, 0, none⟩ = some (.string sn) ∧ W.cell? ⟨w.heap.size + 1, 1, none⟩ = some (.string sw)) := Lib.hid fun W hx => by
    obtain ⟨g0, g1, _, _⟩ := cells_of (hx.keeps.heap hA trivial)
    obtain ⟨g2, g3, _, _⟩ := cells_of (hx.keeps.heap hB trivial)
    exact ⟨⟨g0, g1⟩, g2, g3⟩
  have HX := Lib.hid X1
  clear hA hB hz X1
  subst he1
  by_cases hb : 60 < nl
  · rw [if_pos hb] at CM
    clear hb hcli hrf
    go_enter Try.func9, Try.ntmps9
    go_wp2_with (first
      | ((with_reducible refine (CL.out _).mono ?_); rintro e W1 ⟨rfl, hx⟩; have HX1 := Lib.hid hx; obtain ⟨⟨a0, a1⟩, b0, b1⟩ := TW.out _ HX1.out; clear hx)
      | ((with_reducible refine (CM.out _).mono ?_); rintro e W2 ⟨rfl, hx⟩; clear a0 a1 b0 b1; have HX2 := Lib.hid (HX1.out.trans hx); obtain ⟨⟨a0, a1⟩, b0, b1⟩ := TW.out _ HX2.out; clear hx))
    go_ret
    exact ⟨rfl, HX.out.trans HX2.out⟩
  rw [if_neg hb] at CM
  clear hb
  by_cases hb : ¬ k.size = 16
  · have hbi : ((k.size : Int) != 16) = true := by simp only [bne_iff_ne, ne_eq]; omega
    clear hb hcli hrf
    go_enter Try.func9, Try.ntmps9
    go_wp2_with (first
      | ((with_reducible refine (CL.out _).mono ?_); rintro e W1 ⟨rfl, hx⟩; have HX1 := Lib.hid hx; obtain ⟨⟨a0, a1⟩, b0, b1⟩ := TW.out _ HX1.out; clear hx)
      | ((with_reducible refine (CM.out _).mono ?_); rintro e W2 ⟨rfl, hx⟩; clear a0 a1 b0 b1; have HX2 := Lib.hid (HX1.out.trans hx); obtain ⟨⟨a0, a1⟩, b0, b1⟩ := TW.out _ HX2.out; clear hx))
    go_ret
    exact ⟨rfl, HX.out.trans HX2.out⟩
  have hk := Decidable.not_not.1 hb
  have hki : (k.size : Int) = 16 := by omega
  clear hb
  by_cases hb : ¬ sn.size = 16
  · have hbi : ((sn.size : Int) != 16) = true := by simp only [bne_iff_ne, ne_eq]; omega
    clear hb hcli hrf
    go_enter Try.func9, Try.ntmps9
    go_wp2_with (first
      | ((with_reducible refine (CL.out _).mono ?_); rintro e W1 ⟨rfl, hx⟩; have HX1 := Lib.hid hx; obtain ⟨⟨a0, a1⟩, b0, b1⟩ := TW.out _ HX1.out; clear hx)
      | ((with_reducible refine (CM.out _).mono ?_); rintro e W2 ⟨rfl, hx⟩; clear a0 a1 b0 b1; have HX2 := Lib.hid (HX1.out.trans hx); obtain ⟨⟨a0, a1⟩, b0, b1⟩ := TW.out _ HX2.out; clear hx))
    go_ret
    exact ⟨rfl, HX.out.trans HX2.out⟩
  have hsn := Decidable.not_not.1 hb
  have hsni : (sn.size : Int) = 16 := by omega
  clear hb
  by_cases hb : ¬ nx.size = 16
  · have hbi : ((nx.size : Int) != 16) = true := by simp only [bne_iff_ne, ne_eq]; omega
    clear hb hcli hrf
    go_enter Try.func9, Try.ntmps9
    go_wp2_with (first
      | ((with_reducible refine (CL.out _).mono ?_); rintro e W1 ⟨rfl, hx⟩; have HX1 := Lib.hid hx; obtain ⟨⟨a0, a1⟩, b0, b1⟩ := TW.out _ HX1.out; clear hx)
      | ((with_reducible refine (CM.out _).mono ?_); rintro e W2 ⟨rfl, hx⟩; clear a0 a1 b0 b1; have HX2 := Lib.hid (HX1.out.trans hx); obtain ⟨⟨a0, a1⟩, b0, b1⟩ := TW.out _ HX2.out; clear hx))
    go_ret
    exact ⟨rfl, HX.out.trans HX2.out⟩
  have hnx := Decidable.not_not.1 hb
  have hnxi : (nx.size : Int) = 16 := by omega
  clear hb
  by_cases hb : now < 0
  · have hbi : decide (now < 0) = true := decide_eq_true hb
    clear hb hcli hrf
    go_enter Try.func9, Try.ntmps9
    go_wp2_with (first
      | ((with_reducible refine (CL.out _).mono ?_); rintro e W1 ⟨rfl, hx⟩; have HX1 := Lib.hid hx; obtain ⟨⟨a0, a1⟩, b0, b1⟩ := TW.out _ HX1.out; clear hx)
      | ((with_reducible refine (CM.out _).mono ?_); rintro e W2 ⟨rfl, hx⟩; clear a0 a1 b0 b1; have HX2 := Lib.hid (HX1.out.trans hx); obtain ⟨⟨a0, a1⟩, b0, b1⟩ := TW.out _ HX2.out; clear hx))
    go_ret
    exact ⟨rfl, HX.out.trans HX2.out⟩
  have hn1 : 0 ≤ now := by omega
  clear hb
  by_cases hb : 1099511627776 < now
  · have hbi : decide (1099511627776 < now) = true := decide_eq_true hb
    clear hb hcli hrf
    go_enter Try.func9, Try.ntmps9
    go_wp2_with (first
      | ((with_reducible refine (CL.out _).mono ?_); rintro e W1 ⟨rfl, hx⟩; have HX1 := Lib.hid hx; obtain ⟨⟨a0, a1⟩, b0, b1⟩ := TW.out _ HX1.out; clear hx)
      | ((with_reducible refine (CM.out _).mono ?_); rintro e W2 ⟨rfl, hx⟩; clear a0 a1 b0 b1; have HX2 := Lib.hid (HX1.out.trans hx); obtain ⟨⟨a0, a1⟩, b0, b1⟩ := TW.out _ HX2.out; clear hx))
    go_ret
    exact ⟨rfl, HX.out.trans HX2.out⟩
  have hn2 : now ≤ 1099511627776 := by omega
  clear hb
  obtain ⟨c, hc1, h8⟩ := hcli hk
  obtain ⟨g, r1, r2, e1, e2, e3, e4, e5, e6, e7⟩ := hrf c h8 hsn hnx
  have C2 := Lib.hid (C2.out c)
  have C5 := Lib.hid (C5.out c g)
  have C7 := Lib.hid (C7.out c g)
  have C3 := Lib.hid fun W => With_zero c g W e2
  have C4 := Lib.hid fun v W h => Accept_any ⟨true, 0, 0, 0, 0⟩ [(⟨10, c ++ g⟩ : OptC)] v c true W h e3
  rw [hc1] at C1
  rw [e1] at C2
  rw [e4] at C4
  rw [e5] at C6
  rw [e6] at C5
  rw [e7] at C7
  unfold EdC.cells at C4
  simp only at C1 C2 C4 C5 C6 C7
  rw [show (((0 : Nat)) : Int) = 0 from rfl] at C4
  have hw1 : IntKind.i64.wrap (now + lt) = now + lt := IntWalk.i64_in _ (by omega)
  clear hcli hrf hk hsn hnx h8 hc1 e1 e2 e3 e4 e5 e6 e7
  by_cases hf : lt ≤ 3600
  · rw [if_pos hf] at C5 C7
    go_enter Try.func9, Try.ntmps9
    go_wp2_with (first
      | ((with_reducible refine (CL.out _).mono ?_); rintro e W1 ⟨rfl, hx⟩; have HX1 := Lib.hid hx; obtain ⟨⟨a0, a1⟩, b0, b1⟩ := TW.out _ HX1.out; clear hx)
      | ((with_reducible refine (CM.out _).mono ?_); rintro e W2 ⟨rfl, hx⟩; clear a0 a1 b0 b1; have HX2 := Lib.hid (HX1.out.trans hx); obtain ⟨⟨a0, a1⟩, b0, b1⟩ := TW.out _ HX2.out; clear hx)
      | ((with_reducible refine (C1.out _ (Hr.out.ext (HX.out.trans HX2.out))).mono ?_); rintro e W3 ⟨rfl, hx⟩; clear a0 a1 b0 b1; have HX3 := Lib.hid (HX2.out.trans hx); obtain ⟨⟨a0, a1⟩, b0, b1⟩ := TW.out _ HX3.out; clear hx)
      | ((with_reducible refine (C2.out _ (Hr.out.ext (HX.out.trans HX3.out))).mono ?_); rintro e W4 ⟨rfl, hx⟩; clear a0 a1 b0 b1; have HX4 := Lib.hid (HX3.out.trans hx); clear hx)
      | ((with_reducible refine (C3.out _).mono ?_); rintro e W5 ⟨bo, bn, bc, rfl, hr, hx⟩; have HR5 := Lib.hid (hr.ext ((Ext.refl W5).alloc (.cells #[.bool true, .int .u16 0, .int .u8 0, .int .u8 0, .int .u16 0, .slice bo bn bc] 29))); have HX5 := Lib.hid ((HX4.out.trans hx).alloc (.cells #[.bool true, .int .u16 0, .int .u8 0, .int .u8 0, .int .u16 0, .slice bo bn bc] 29)); clear hr hx)
      | ((with_reducible refine (C4.out _ _ HR5.out).mono ?_); rintro e W6 ⟨rfl, hx⟩; have HX6 := Lib.hid (HX5.out.trans hx); obtain ⟨⟨a0, a1⟩, b0, b1⟩ := TW.out _ HX6.out; clear hx)
      | ((with_reducible refine (C5.out _ (Hr.out.ext (HX.out.trans HX6.out))).mono ?_); rintro e W7 ⟨rfl, hx⟩; clear a0 a1 b0 b1; have HX7 := Lib.hid (HX6.out.trans hx); obtain ⟨⟨a0, a1⟩, b0, b1⟩ := TW.out _ HX7.out; clear hx)
      | ((with_reducible refine (C6.out _).mono ?_); rintro e W8 ⟨rfl, hx⟩; clear a0 a1 b0 b1; have HX8 := Lib.hid ((HX7.out.trans hx).alloc (.cells #[.string nx, .string sn] 50)); obtain ⟨⟨a0, a1⟩, b0, b1⟩ := TW.out _ HX8.out; clear hx)
      | ((with_reducible refine (C7.out _ (Hr.out.ext (HX.out.trans HX8.out))).mono ?_); rintro e W9 ⟨rfl, hx⟩; clear a0 a1 b0 b1; have HX9 := Lib.hid (HX8.out.trans hx); clear hx))
    go_ret
    exact ⟨rfl, HX.out.trans HX9.out⟩
  · rw [if_neg hf] at C5 C7
    have hfi : decide (lt ≤ 3600) = false := decide_eq_false hf
    clear hf
    go_enter Try.func9, Try.ntmps9
    go_wp2_with (first
      | ((with_reducible refine (CL.out _).mono ?_); rintro e W1 ⟨rfl, hx⟩; have HX1 := Lib.hid hx; obtain ⟨⟨a0, a1⟩, b0, b1⟩ := TW.out _ HX1.out; clear hx)
      | ((with_reducible refine (CM.out _).mono ?_); rintro e W2 ⟨rfl, hx⟩; clear a0 a1 b0 b1; have HX2 := Lib.hid (HX1.out.trans hx); obtain ⟨⟨a0, a1⟩, b0, b1⟩ := TW.out _ HX2.out; clear hx)
      | ((with_reducible refine (C1.out _ (Hr.out.ext (HX.out.trans HX2.out))).mono ?_); rintro e W3 ⟨rfl, hx⟩; clear a0 a1 b0 b1; have HX3 := Lib.hid (HX2.out.trans hx); obtain ⟨⟨a0, a1⟩, b0, b1⟩ := TW.out _ HX3.out; clear hx)
      | ((with_reducible refine (C2.out _ (Hr.out.ext (HX.out.trans HX3.out))).mono ?_); rintro e W4 ⟨rfl, hx⟩; clear a0 a1 b0 b1; have HX4 := Lib.hid (HX3.out.trans hx); clear hx)
      | ((with_reducible refine (C3.out _).mono ?_); rintro e W5 ⟨bo, bn, bc, rfl, hr, hx⟩; have HR5 := Lib.hid (hr.ext ((Ext.refl W5).alloc (.cells #[.bool true, .int .u16 0, .int .u8 0, .int .u8 0, .int .u16 0, .slice bo bn bc] 29))); have HX5 := Lib.hid ((HX4.out.trans hx).alloc (.cells #[.bool true, .int .u16 0, .int .u8 0, .int .u8 0, .int .u16 0, .slice bo bn bc] 29)); clear hr hx)
      | ((with_reducible refine (C4.out _ _ HR5.out).mono ?_); rintro e W6 ⟨rfl, hx⟩; have HX6 := Lib.hid (HX5.out.trans hx); obtain ⟨⟨a0, a1⟩, b0, b1⟩ := TW.out _ HX6.out; clear hx)
      | ((with_reducible refine (C5.out _ (Hr.out.ext (HX.out.trans HX6.out))).mono ?_); rintro e W7 ⟨rfl, hx⟩; clear a0 a1 b0 b1; have HX7 := Lib.hid (HX6.out.trans hx); obtain ⟨⟨a0, a1⟩, b0, b1⟩ := TW.out _ HX7.out; clear hx)
      | ((with_reducible refine (C6.out _).mono ?_); rintro e W8 ⟨rfl, hx⟩; clear a0 a1 b0 b1; have HX8 := Lib.hid ((HX7.out.trans hx).alloc (.cells #[.string nx, .string sn] 50)); obtain ⟨⟨a0, a1⟩, b0, b1⟩ := TW.out _ HX8.out; clear hx)
      | ((with_reducible refine (C7.out _ (Hr.out.ext (HX.out.trans HX8.out))).mono ?_); rintro e W9 ⟨rfl, hx⟩; clear a0 a1 b0 b1; have HX9 := Lib.hid (HX8.out.trans hx); clear hx))
    go_ret
    exact ⟨rfl, HX.out.trans HX9.out⟩

theorem topRound_args (o : Bool) (v : Value) (l : List SumC) (k sn sw nx : ByteArray) (b a now lt : Int) (w : World) (hr : SRow w v 3 (l.map SumC.cells)) (_ : ∀ x ∈ l, x.fit) (_ : k.size ≤ maxLen) (_ : sn.size ≤ maxLen ∧ sw.size ≤ maxLen) (_ : nx.size ≤ maxLen) (hb : (Lit.int .u32 b).wf = true) (ha : (Lit.int .u32 a).wf = true) (_ : (Lit.int .i64 now).wf = true) (hn : (Lit.int .u16 lt).wf = true) :
    Calls Try.prog 9 #[.agg #[.bool o, v], .string k, .agg #[.string sn, .string sw], .string nx, .int .u32 b, .int .u32 a, .int .i64 now, .int .u16 lt] w fun e w' => e = .returned (.bool true) ∧ Ext w w' := by
  obtain ⟨m, rfl, hm⟩ := wf_nat32 hb
  obtain ⟨n, rfl, hn2⟩ := wf_nat32 ha
  obtain ⟨z, rfl, hz⟩ := wf_nat16 hn
  exact topRound_walk l v o k sn sw nx m n now z w hr hm hn2 (by omega) (by omega)
end Go.Proofs.Ytjnaknfnoibncaa
