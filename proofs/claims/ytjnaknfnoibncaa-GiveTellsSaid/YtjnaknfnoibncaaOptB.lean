/- What slices.Clone and slices.DeleteFunc do to options; edns' without. Conditions: lists that are not endless. -/
import Derived.Test.YtjnaknfnoibncaaOptA
import Derived.Laws.OwnMore
import Derived.Laws.IdiomCopy
import Derived.Lib.SliceRun
namespace Go.Proofs.Ytjnaknfnoibncaa
open Go Go.RowKit Go.Shelf
attribute [local go_sem] Oper.semAt_some wide_fn wide_depth

theorem infoO : (Try.prog.info? 72).map (fun i => (i.zero, i.size, i.bytes)) = some (some (.agg #[.int .u16 0, .string ⟨#[]⟩]), 2, 24) := by kernel_rfl
def flatO (l : List OptC) : List Value := ((l.map OptC.cells).map Array.toList).flatten
theorem flatO_nil : flatO [] = [] := rfl
theorem flatO_cons (x : OptC) (l : List OptC) : flatO (x :: l) = .int .u16 (x.c : Int) :: .string x.d :: flatO l := rfl
theorem flatO_len (l : List OptC) : (flatO l).length = l.length * 2 := by
  induction l with
  | nil => rfl
  | cons x l ih => rw [flatO_cons, List.length_cons, List.length_cons, ih, List.length_cons]; omega
theorem flatO_one (l : List OptC) : ∀ u ∈ flatO l, u.oneCell' = true := by
  induction l with
  | nil => intro u hu; cases hu
  | cons x l ih =>
    intro u hu
    rw [flatO_cons] at hu
    rcases List.mem_cons.1 hu with rfl | hu
    · rfl
    · rcases List.mem_cons.1 hu with rfl | hu
      · rfl
      · exact ih u hu
theorem flatO_at : ∀ (l : List OptC) (k : Nat) (x : OptC), l[k]? = some x → (flatO l)[k * 2]? = some (.int .u16 (x.c : Int)) ∧ (flatO l)[k * 2 + 1]? = some (.string x.d)
  | [], k, x, h => by simp at h
  | y :: l, 0, x, h => by
    simp only [List.getElem?_cons_zero, Option.some.injEq] at h
    subst h
    exact ⟨rfl, rfl⟩
  | y :: l, k + 1, x, h => by
    rw [List.getElem?_cons_succ] at h
    have h1 := flatO_at l k x h
    rw [flatO_cons, show (k + 1) * 2 = k * 2 + 1 + 1 by omega, List.getElem?_cons_succ, List.getElem?_cons_succ, List.getElem?_cons_succ, List.getElem?_cons_succ]
    exact h1
theorem flatO_take : ∀ (l : List OptC) (a : Nat), (flatO l).take (a * 2) = flatO (l.take a)
  | [], a => by simp [flatO]
  | y :: l, 0 => by simp [flatO]
  | y :: l, a + 1 => by
    rw [flatO_cons, show (a + 1) * 2 = a * 2 + 1 + 1 by omega, List.take_succ_cons, List.take_succ_cons, flatO_take l a, List.take_succ_cons, flatO_cons]
theorem flatO_set : ∀ (l : List OptC) (a : Nat) (x : OptC), ((flatO l).set (a * 2) (.int .u16 (x.c : Int))).set (a * 2 + 1) (.string x.d) = flatO (l.set a x)
  | [], a, x => by simp [flatO]
  | y :: l, 0, x => by simp [flatO_cons]
  | y :: l, a + 1, x => by
    rw [flatO_cons, show (a + 1) * 2 = a * 2 + 1 + 1 by omega]
    simp only [List.set_cons_succ]
    rw [flatO_set l a x, flatO_cons]
theorem flatO_reads {W : World} {b off n cap : Nat} {p : Option Nat} {l : List OptC} (h : SRow W (.slice (some ⟨b, off, p⟩) n cap) 2 (l.map OptC.cells)) : ∀ (j : Nat) (u : Value), (flatO l)[j]? = some u → W.cell? ((⟨b, off, p⟩ : Addr).add j) = some u := by
  refine flat_read (sz := 2) _ (fun j u => W.cell? ((⟨b, off, p⟩ : Addr).add j) = some u) (fun c hc => by obtain ⟨x, _, rfl⟩ := List.mem_map.1 hc; rfl) fun k c hk i u hu => ?_
  obtain ⟨ao2, c2, e, _, _, hc⟩ := h
  obtain ⟨b2, off2, e2, _, h4⟩ := hc k c hk
  simp only [Value.slice.injEq] at e
  rw [← e.1] at e2
  cases e2
  rw [Addr.add_lit]
  have := h4 i u hu
  rw [show off + (k * 2 + i) = off + k * 2 + i from by omega]
  exact this
theorem own_rowO {W : World} {base : Nat} {v : Value} {l : List OptC} (h : W.ownsRow base 72 2 v l.length (flatO l)) : SRow W v 2 (l.map OptC.cells) := by
  refine owns_row (base := base) (T := 72) OptC.cells (fun x _ => rfl) ?_
  rw [show (l.map fun x => (OptC.cells x).toList).flatten = flatO l by simp [flatO, Function.comp_def]]
  exact h

set_option maxRecDepth 100000 in
set_option maxHeartbeats 1000000 in
theorem CloneO_any (l : List OptC) (v : Value) (w : World) (hr : SRow w v 2 (l.map OptC.cells)) (hl : l.length < 4294967296) :
    Calls Try.prog 73 #[v] w fun e w' => ∃ v', e = .returned v' ∧ w'.ownsRow w.heap.size 72 2 v' l.length (flatO l) ∧ Ext w w' := by
  have Hr := Lib.hid hr
  obtain ⟨ao, cap, rfl, hlm⟩ := hr.open
  clear hr
  rw [List.length_map] at Hr hlm ⊢
  have q22 : ∀ (w : World) (a : Option Addr) (n c n' c' : Nat), (binOp .eql 27 (.slice a n c) (.slice none n' c')).run Try.prog w = .ok (.bool a.isNone) w := fun w a n c n' c' => Lib.run_eql_slice_nil w _ _ a n c n' c' Try.underlying27
  cases ao with
  | none =>
    have hn : l = [] := List.map_eq_nil_iff.1 Hr.out.none
    subst hn
    go_enter Try.func73, Try.ntmps73
    go_wp2
    go_ret
    exact ⟨_, rfl, World.ownsRow_nil _ _ _ _, Ext.refl w⟩
  | some a =>
    obtain ⟨b, off, p⟩ := a
    have Hcell := Lib.hid (flatO_reads Hr.out)
    have Hlen := Lib.hid (flatO_len l)
    have H1c := Lib.hid (flatO_one l)
    obtain ⟨i0, hi, hz0, hz1, hz2⟩ := info_parts infoO
    have Hlm := Lib.hid (And.intro hlm hl); clear hlm hl
    go_enter Try.func73, Try.ntmps73
    go_wp2_with (at_builtin; refine wpList_append_own _ rfl _ _ 27 rfl w.heap.size 72 i0 (.agg #[.int .u16 0, .string ⟨#[]⟩]) 2 24 Try.underlying27 hi hz0 hz1 hz2 rfl (by decide) _ _ _ rfl (World.ownsRow_made w #[] 0 (Nat.le_refl _) (Nat.zero_le _) rfl) ⟨b, off, p⟩ l.length cap (flatO l) rfl ?qc1 ?qc2 ?qc3 ?qc4 ?qc5 ?qc6 ?_)
    case qc1 => rw [Hlen.out]
    case qc2 => exact fun j u hj => ((Keeps.refl (fun _ => True) w).alloc _).cell (Hcell.out j u hj) trivial
    case qc3 => exact H1c.out
    case qc4 => have := Hlm.out.1; omega
    case qc5 => have := Hlm.out.2; omega
    case qc6 => simp
    intro v' w1 hown hgrow hnil
    go_wp2
    go_ret
    refine ⟨v', rfl, by simpa using hown, ?_⟩
    exact (((Keeps.refl (fun j => j < w.heap.size) w).alloc _).grown hgrow (by intro k hk; simp [Value.ownBlock] at hk; omega)).ext fun _ h => h

/-- What is kept: all but the options of a code. -/
def keepO (c : Nat) (l : List OptC) : List OptC := l.filter fun x => decide (x.c ≠ c)
theorem keepO_snoc (c : Nat) (l : List OptC) (x : OptC) : keepO c (l ++ [x]) = if x.c = c then keepO c l else keepO c l ++ [x] := by
  unfold keepO
  rw [List.filter_append]
  by_cases h : x.c = c <;> simp [h]
theorem keepO_len (c : Nat) (l : List OptC) : (keepO c l).length ≤ l.length := List.length_filter_le _ _
theorem keepO_all {c : Nat} {l : List OptC} (h : ∀ x ∈ l, x.c ≠ c) : keepO c l = l := List.filter_eq_self.2 fun x hx => by simpa using h x hx

theorem own_shrink {W : World} {base : Nat} {T : TypeId} {sz g n cap a : Nat} {xs : List Value} (h : W.ownsRow base T sz (.slice (some ⟨g, 0, none⟩) n cap) n xs) (ha : a ≤ n) : W.ownsRow base T sz (.slice (some ⟨g, 0, none⟩) a cap) a (xs.take (a * sz)) := by
  obtain ⟨h1, h2⟩ := h
  have hmul : a * sz ≤ n * sz := Nat.mul_le_mul_right _ ha
  refine ⟨by rw [List.length_take, h1]; omega, .inr ?_⟩
  rcases h2 with ⟨h, _⟩ | ⟨g', cap', cur, e, hb, hg, hnc, hcm, hcs, htake⟩
  · cases h
  · cases e
    refine ⟨g, cap, cur, rfl, hb, hg, by omega, hcm, hcs, ?_⟩
    rw [← htake, List.take_take, Nat.min_eq_left hmul]
theorem own_cap {W : World} {base : Nat} {T : TypeId} {sz g n cap : Nat} {xs : List Value} (h : W.ownsRow base T sz (.slice (some ⟨g, 0, none⟩) n cap) n xs) : n ≤ cap ∧ cap ≤ maxLen := by
  rcases h.2 with ⟨h, _⟩ | ⟨g', cap', cur, e, _, _, h1, h2, _⟩
  · cases h
  · cases e; exact ⟨h1, h2⟩
theorem own_setCells {base : Nat} {T : TypeId} {sz g n cap : Nat} : ∀ (Z : List Value) (o : Nat) (W : World) (xs : List Value), W.ownsRow base T sz (.slice (some ⟨g, 0, none⟩) n cap) n xs →
    ∃ xs', (W.setCells g o Z).ownsRow base T sz (.slice (some ⟨g, 0, none⟩) n cap) n xs' ∧ xs'.take o = xs.take o ∧ Keeps (fun j => j ≠ g) W (W.setCells g o Z)
  | [], o, W, xs, h => ⟨xs, h, rfl, Keeps.refl _ _⟩
  | u :: Z, o, W, xs, h => by
    obtain ⟨h1, _⟩ := h.stored o u
    obtain ⟨xs', h2, h3, h4⟩ := own_setCells Z (o + 1) (W.setCell ⟨g, o, none⟩ u) (xs.set o u) h1
    refine ⟨xs', h2, ?_, ((Keeps.refl _ _).setCell (by simp) _).trans h4⟩
    have h5 := congrArg (List.take o) h3
    rw [List.take_take, List.take_take, Nat.min_eq_left (Nat.le_succ o)] at h5
    rw [h5, List.take_set_of_le (Nat.le_refl o)]
theorem run_clear2 (w : World) (ty : TypeId) (b o n c : Nat) (hn : 0 < n) (hc : ∀ j, j < n * 2 → (w.cell? ⟨b, o + j, none⟩).isSome = true) (hf : ∀ j, j < n * 2 → w.frozen? ⟨b, o + j, none⟩ = false) :
    ∃ Z : List Value, (Builtin.clear_ #[27] ty #[.slice (some ⟨b, o, none⟩) n c]).run Try.prog w = .ok (.tuple #[]) (w.setCells b o Z) := by
  obtain ⟨i0, hi, hz0, hz1, hz2⟩ := info_parts infoO
  have hv : ∀ w : World, (zeroValue 72).run Try.prog w = .ok (.agg #[.int .u16 0, .string ⟨#[]⟩]) w := fun w => by simp [zeroValue, typeInfo, hi, hz0]
  have hlen : (Builtin.zeroCells #[.int .u16 0, .string ⟨#[]⟩] n).toList.length = n * 2 := by simp [Builtin.zeroCells]
  have hone : ∀ v ∈ (Builtin.zeroCells #[.int .u16 0, .string ⟨#[]⟩] n).toList, v.oneCell' = true := by
    intro v hv'
    simp [Builtin.zeroCells] at hv'
    obtain ⟨j, _, rfl⟩ := hv'
    rcases Nat.mod_two_eq_zero_or_one j with h | h <;> simp [h] <;> rfl
  have hst := run_storeCells_cells (P := Try.prog) b o (Builtin.zeroCells #[.int .u16 0, .string ⟨#[]⟩] n).toList 0 w (by rw [hlen]; simpa using hc) (by rw [hlen]; simpa using hf) hone
  simp only [Nat.add_zero] at hst
  obtain ⟨m, rfl⟩ : ∃ m, n = m + 1 := ⟨n - 1, by omega⟩
  refine ⟨(Builtin.zeroCells #[.int .u16 0, .string ⟨#[]⟩] (m + 1)).toList, ?_⟩
  simp [Builtin.clear_, run_underlying Try.underlying27, hv, hst, Value.cells]

set_option maxRecDepth 100000 in
set_option maxHeartbeats 2000000 in
theorem DeleteO_any (base : Nat) (l : List OptC) (v : Value) (p c : Nat) (w : World) (hown : w.ownsRow base 72 2 v l.length (flatO l)) (hp : w.cell? ⟨p, 0, none⟩ = some (.int .u16 (c : Int))) (hpv : v.ownBlock ≠ some p) (hl : l.length < 4294967296) :
    Calls Try.prog 72 #[v, .func (.func 74) #[] #[.pointer (some ⟨p, 0, none⟩)]] w fun e w' =>
      ∃ v', e = .returned v' ∧ w'.ownsRow base 72 2 v' (keepO c l).length (flatO (keepO c l)) ∧ Keeps (fun j => v.ownBlock ≠ some j) w w' ∧ (v'.ownBlock = v.ownBlock) := by
  have Hown := Lib.hid hown
  have HR := Lib.hid (own_rowO hown)
  have C1 := Lib.hid (IndexO_any l v p c w HR.out hp)
  have CF := Lib.hid fun x W h1 => isOf1_any x p c W h1
  have eg := enters_of (P := Try.prog) Try.func74 (by kernel_rfl) rfl
  cases hf : findO c l with
  | none =>
    have hi : findOI c l = -1 := by unfold findOI; rw [hf]
    rw [hi] at C1
    have hk := keepO_all (findO_no hf)
    rw [hk]
    clear hi hf hk hp hpv
    obtain ⟨ao, n, cap, rfl⟩ := HR.out.slice
    clear hown
    go_enter Try.func72, Try.ntmps72
    go_wp2_with ((with_reducible refine (C1.out).mono ?_); rintro e W1 ⟨rfl, hx⟩; have HX1 := Lib.hid hx; clear hx)
    go_ret
    exact ⟨_, rfl, owns_keep HX1.out.keeps Hown.out fun _ _ => trivial, HX1.out.keeps.mono fun _ _ _ => trivial, rfl⟩
  | some i0 =>
    have hi : findOI c l = (i0 : Int) := by unfold findOI; rw [hf]
    rw [hi] at C1
    obtain ⟨x0, hx0, hxc0, hx0a⟩ := findO_some hf
    have hi0 : i0 < l.length := (List.getElem?_eq_some_iff.1 hx0).1
    obtain ⟨g, cap, rfl⟩ : ∃ g cap, v = .slice (some ⟨g, 0, none⟩) l.length cap := by
      rcases hown.2 with ⟨_, h⟩ | ⟨g, cap, _, h, _⟩
      · omega
      · exact ⟨g, cap, h⟩
    have hpg : p ≠ g := fun h => hpv (by rw [h]; rfl)
    have hkeep0 : l.take i0 = keepO c (l.take (i0 + 1)) := by
      rw [List.take_add_one, hx0]
      show l.take i0 = keepO c (l.take i0 ++ [x0])
      rw [keepO_snoc, if_pos hxc0, keepO_all]
      intro x hx
      obtain ⟨j, hj⟩ := List.getElem?_of_mem hx
      have hlt := (List.getElem?_eq_some_iff.1 hj).1
      rw [List.length_take] at hlt
      rw [List.getElem?_take_of_lt (by omega)] at hj
      exact hx0a j x (by omega) hj
    have Hk0 := Lib.hid hkeep0
    have Hi0 := Lib.hid hi0
    have Hpg := Lib.hid hpg
    have Hp := Lib.hid hp
    clear hown hpv hp hx0 hx0a hxc0 hf hi hkeep0 hpg
    obtain ⟨n, hnl⟩ : ∃ n, l.length = n := ⟨_, rfl⟩
    have Hnl := Lib.hid hnl
    rw [hnl] at Hown HR C1 hl Hi0 ⊢
    have hcap := own_cap Hown.out
    have hi0n : (i0 : Int) < n := by have := Hi0.out; omega
    have hni : ¬ ((i0 : Int) = -1) := by omega
    have hw0 : IntKind.i64.wrap ((i0 : Int) + 1) = (i0 : Int) + 1 := IntWalk.i64_in _ (by omega)
    clear hnl hi0
    go_enter Try.func72, Try.ntmps72
    go_wp2_with ((with_reducible refine (C1.out).mono ?_); rintro e W1 ⟨rfl, hx⟩; have HX1 := Lib.hid hx; clear hx)
    clear hni hw0 hi0n
    go_loopw [5, 6] (fun i j wr => ∃ (a b : Nat) (cur : List OptC), i = .int .i64 a ∧ j = .int .i64 b ∧ a < b ∧ b ≤ n ∧ cur.length = n ∧ wr.ownsRow base 72 2 (.slice (some ⟨g, 0, none⟩) n cap) n (flatO cur) ∧ cur.take a = keepO c (l.take b) ∧ cur.drop b = l.drop b ∧ Keeps (fun j => j ≠ g) w wr)
      (fun _ j _ => n - (intOf j).toNat)
    case atStart => exact ⟨i0, i0 + 1, l, rfl, by simp, by omega, Hi0.out, Hnl.out, owns_keep HX1.out.keeps Hown.out fun _ _ => trivial, Hk0.out, rfl, HX1.out.keeps.mono fun _ _ _ => trivial⟩
    case round =>
      obtain ⟨a, b, cur, rfl, rfl, hab, hbn, hcl, hown, htk, hdr, hkp⟩ := hrel
      have Hown2 := Lib.hid hown; clear hown
      have Htk := Lib.hid htk; clear htk
      have Hdr := Lib.hid hdr; clear hdr
      have HK := Lib.hid hkp; clear hkp
      have Hcl := Lib.hid hcl; clear hcl
      by_cases hlt : b < n
      · obtain ⟨⟨xc, xd⟩, hx⟩ : ∃ x, cur[b]? = some x := ⟨cur[b]'(by rw [Hcl.out]; exact hlt), List.getElem?_eq_getElem _⟩
        obtain ⟨⟨yc, yd⟩, hy⟩ : ∃ x, cur[a]? = some x := ⟨cur[a]'(by rw [Hcl.out]; omega), List.getElem?_eq_getElem _⟩
        have hlx : l[b]? = some ⟨xc, xd⟩ := by
          have h1 := congrArg (fun L => L[0]?) Hdr.out
          simp only [List.getElem?_drop, Nat.add_zero] at h1
          rw [← h1]; exact hx
        have hfx := flatO_at cur b _ hx
        have hfy := flatO_at cur a _ hy
        have c0 : wr.cell? ⟨g, b * 2, none⟩ = some (.int .u16 (xc : Int)) := (Hown2.out.cellAt (b * 2) (by omega)).trans hfx.1
        have c1 : wr.cell? ⟨g, b * 2 + 1, none⟩ = some (.string xd) := (Hown2.out.cellAt (b * 2 + 1) (by omega)).trans hfx.2
        have Hlx := Lib.hid hlx
        have Hfy := Lib.hid hfy
        have hki : (b : Int) < n := by omega
        have hwb : IntKind.i64.wrap ((b : Int) + 1) = (b : Int) + 1 := IntWalk.i64_in _ (by omega)
        have CX := CF.out ⟨xc, xd⟩ (wr.alloc (.cells #[.int .u16 (xc : Int), .string xd] 72)) (((Keeps.refl (fun _ => True) wr).alloc _).cell (HK.out.cell Hp.out Hpg.out) trivial)
        unfold OptC.val OptC.cells at CX
        simp only at CX
        have ht1 : keepO c (l.take (b + 1)) = if xc = c then keepO c (l.take b) else keepO c (l.take b) ++ [⟨xc, xd⟩] := by
          rw [List.take_add_one, hlx]
          exact keepO_snoc c (l.take b) ⟨xc, xd⟩
        have Hal := Lib.hid (((Keeps.refl (fun j => j ≠ g) wr).alloc (.cells #[.int .u16 (xc : Int), .string xd] 72)))
        have HN0 := Lib.hid (cellO_new wr #[.int .u16 (xc : Int), .string xd] 72)
        clear hfx hfy hx hy hlx
        by_cases hc : xc = c
        · rw [decide_eq_true hc] at CX
          rw [if_pos hc] at ht1
          have Ht1 := Lib.hid ht1
          have HCX := Lib.hid CX
          clear ht1 CX hc
          go_wp2_with ((with_reducible refine (HCX.out).mono ?_); rintro e W2 ⟨rfl, hx⟩; have HX2 := Lib.hid hx; clear hx)
          have hdr : cur.drop (b + 1) = l.drop (b + 1) := by
            have h1 := congrArg (List.drop 1) Hdr.out
            rw [List.drop_drop, List.drop_drop] at h1
            exact h1
          refine ⟨⟨_, _, _, _, _, _, _, _, _, _, _, _, _, _, _, _, _, _, _, _, _, _, _, ?rel, rfl⟩, ?measure⟩
          case rel => exact ⟨a, b + 1, cur, rfl, by simp, by omega, by omega, Hcl.out, owns_keep HX2.out.keeps (Hown2.out.alloc _) fun _ _ => trivial, by rw [Htk.out, Ht1.out], hdr, HK.out.trans (Hal.out.trans (HX2.out.keeps.mono fun _ _ _ => trivial))⟩
          case measure => simp [intOf]; omega
        · rw [decide_eq_false hc] at CX
          rw [if_neg hc] at ht1
          have Ht1 := Lib.hid ht1
          have HCX := Lib.hid CX
          clear ht1 CX hc
          have hka : (a : Int) < n := by omega
          have hwa : IntKind.i64.wrap ((a : Int) + 1) = (a : Int) + 1 := IntWalk.i64_in _ (by omega)
          go_wp2_with ((with_reducible refine (HCX.out).mono ?_); rintro e W2 ⟨rfl, hx⟩; have HX2 := Lib.hid hx; have HO2 := Lib.hid (owns_keep hx.keeps (Hown2.out.alloc _) fun _ _ => trivial); have d0 : W2.cell? ⟨g, a * 2, none⟩ = some (.int .u16 (yc : Int)) := (HO2.out.cellAt (a * 2) (by omega)).trans Hfy.out.1; have d1 : W2.cell? ⟨g, a * 2 + 1, none⟩ = some (.string yd) := (HO2.out.cellAt (a * 2 + 1) (by omega)).trans Hfy.out.2; have f0 := HO2.out.frozenAt (a * 2); have f1 := HO2.out.frozenAt (a * 2 + 1); have e0 : W2.cell? ⟨wr.heap.size, 0, none⟩ = some (.int .u16 (xc : Int)) := hx.keeps.cell (HN0.out 0) trivial; have e1 : W2.cell? ⟨wr.heap.size, 1, none⟩ = some (.string xd) := hx.keeps.cell (HN0.out 1) trivial; clear hx)
          have hdr : (cur.set a ⟨xc, xd⟩).drop (b + 1) = l.drop (b + 1) := by
            have h1 := congrArg (List.drop 1) Hdr.out
            rw [List.drop_drop, List.drop_drop] at h1
            rw [List.drop_set_of_lt (by omega)]
            exact h1
          have htk : (cur.set a ⟨xc, xd⟩).take (a + 1) = keepO c (l.take (b + 1)) := by
            rw [Ht1.out, ← Htk.out, List.take_add_one, List.take_set_of_le (Nat.le_refl a)]
            rw [List.getElem?_set_self (by rw [Hcl.out]; omega)]
            rfl
          have hown : ((W2.setCell ⟨g, a * 2, none⟩ (.int .u16 (xc : Int))).setCell ⟨g, a * 2 + 1, none⟩ (.string xd)).ownsRow base 72 2 (.slice (some ⟨g, 0, none⟩) n cap) n (flatO (cur.set a ⟨xc, xd⟩)) := by
            rw [← flatO_set]
            exact ((HO2.out.stored (a * 2) _).1.stored (a * 2 + 1) _).1
          refine ⟨⟨_, _, _, _, _, _, _, _, _, _, _, _, _, _, _, _, _, _, _, _, _, _, _, ?rel, rfl⟩, ?measure⟩
          case rel => exact ⟨a + 1, b + 1, cur.set a ⟨xc, xd⟩, by simp, by simp, by omega, by omega, by rw [List.length_set]; exact Hcl.out, hown, htk, hdr, ((HK.out.trans (Hal.out.trans (HX2.out.keeps.mono fun _ _ _ => trivial))).setCell (by simp) _).setCell (by simp) _⟩
          case measure => simp [intOf]; omega
      · obtain rfl : b = n := by omega
        have hab2 : (a : Int) ≤ (b : Int) := by omega
        have hac2 : (a : Int) ≤ (cap : Int) := by omega
        have hbc2 : (b : Int) ≤ (cap : Int) := by omega
        obtain ⟨Z, hclr⟩ := run_clear2 wr 0 g (a * 2) (b - a) (cap - a) (by omega) (fun j hj => by
          rw [Hown2.out.cellAt (a * 2 + j) (by omega), List.getElem?_eq_getElem (by rw [flatO_len, Hcl.out]; omega)]
          rfl) (fun j hj => Hown2.out.frozenAt (a * 2 + j))
        obtain ⟨xs', h2, h3, h4⟩ := own_setCells Z (a * 2) wr (flatO cur) Hown2.out
        have h5 := own_shrink h2 (show a ≤ b by omega)
        rw [h3, flatO_take, Htk.out, List.take_of_length_le (by rw [Hnl.out]; exact Nat.le_refl _)] at h5
        have hlen : a = (keepO c l).length := by
          have h6 := congrArg List.length Htk.out
          rw [List.length_take, Hcl.out, List.take_of_length_le (by rw [Hnl.out]; exact Nat.le_refl _)] at h6
          omega
        have H5 := Lib.hid h5
        have H4 := Lib.hid h4
        have HLen := Lib.hid hlen
        clear h2 h3 h4 h5 hlen
        obtain ⟨W3, hW3⟩ : ∃ W3, wr.setCells g (a * 2) Z = W3 := ⟨_, rfl⟩
        rw [hW3] at hclr H5 H4
        clear hW3
        go_wp2_with fail
        go_ret
        refine ⟨_, rfl, ?_, ?_, rfl⟩
        · rw [← HLen.out]; exact H5.out
        · exact (HK.out.trans H4.out).mono fun j _ h e => h (by rw [e]; rfl)
end Go.Proofs.Ytjnaknfnoibncaa
