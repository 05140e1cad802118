/- What pack's writer does with names: name. Conditions: a writer that New made. -/
import Derived.Test.YtmmjhdkoccpdjaaPackN
import Derived.Test.YtmmjhdkoccpdjaaLabD
namespace Go.Proofs.Ytmmjhdkoccpdjaa
open Go Go.RowKit Go.Shelf
attribute [local go_sem] Oper.semAt_some wide_fn wide_depth

theorem WrAt.turned {W W' : World} {B : Nat} {G : Nat → Prop} {q : Wr} (h : WrAt W B G q) {K : Nat → Prop} (k : Keeps K W W') (hK : ∀ j, ¬ G j → K j) : WrAt W' B G q := by
  obtain ⟨mb, bv, h⟩ := h
  exact ⟨mb, bv, h.keep k (hK B fun hg => (h.out B hg).2.1 rfl) (hK mb fun hg => (h.out mb hg).2.2.1 rfl) fun j hj => hK j fun hg => (h.out j hg).2.2.2 hj⟩
theorem lookup_mem : ∀ (l : List (List UInt8 × Nat)) (k : List UInt8) (v : Nat), l.lookup k = some v → ∃ k', (k', v) ∈ l
  | [], _, _, h => by cases h
  | (a, b) :: r, k, v, h => by
    rw [List.lookup] at h
    split at h
    · cases h; exact ⟨a, by simp⟩
    · obtain ⟨k', hk'⟩ := lookup_mem r k v h
      exact ⟨k', List.mem_cons_of_mem _ hk'⟩
theorem i64_or_mark (a : Nat) (ha : a < 16384) : bits .or .i64 (49152 : Int) (a : Int) = 49152 + (a : Int) := by
  have h := i64_or_nat 49152 a (by omega) (by omega)
  rw [nat_join 14 49152 a (by omega) (by omega)] at h
  simpa using h
theorem Boxed.lt {W : World} {A : Nat} {t : TypeId} {v : Value} (h : Boxed W A t v) : A < W.heap.size := (Array.getElem?_eq_some_iff.1 (show W.heap[A]? = some (.cells #[v] t (0, 0)) from h)).1

set_option maxRecDepth 100000 in
set_option maxHeartbeats 4000000 in
theorem WName_any (B : Nat) (G : Nat → Prop) (q : Wr) (n : ByteArray) (pt : Bool) (w : World) (h : WrAt w B G q) (hq : q.ok) (hn : n.size ≤ maxLen) :
    Calls Try.prog 92 #[.pointer (some ⟨B, 0, none⟩), .string n, .bool pt] w fun e w' => (∃ v, e = .returned v) ∧ WrAt w' B G (nameW q n pt) ∧ Keeps G w w' := by
  have CC := Lib.hid fun W => Check_any n W hn
  have H := Lib.hid h
  have hG : ∀ j, G j → j < w.heap.size := by
    obtain ⟨mb, bv, h⟩ := h
    exact fun j hj => (h.out j hj).1
  have hBl : B < w.heap.size := by
    obtain ⟨mb, bv, h⟩ := h
    exact h.lt.1
  have HG := Lib.hid hG
  clear h hG
  have hX0 : Ext w ((w.alloc (.cells #[.pointer (some ⟨B, 0, none⟩)] 43)).alloc (.cells #[.bool pt] 4)) := ((Ext.refl _).alloc _).alloc _
  have hA0 : Boxed ((w.alloc (.cells #[.pointer (some ⟨B, 0, none⟩)] 43)).alloc (.cells #[.bool pt] 4)) w.heap.size 43 (.pointer (some ⟨B, 0, none⟩)) := (Boxed.new w 43 _).alloc _
  have hP0 : Boxed ((w.alloc (.cells #[.pointer (some ⟨B, 0, none⟩)] 43)).alloc (.cells #[.bool pt] 4)) (w.heap.size + 1) 4 (.bool pt) := by
    have := Boxed.new (w.alloc (.cells #[.pointer (some ⟨B, 0, none⟩)] 43)) 4 (.bool pt)
    simpa using this
  have hz0 : ((w.alloc (.cells #[.pointer (some ⟨B, 0, none⟩)] 43)).alloc (.cells #[.bool pt] 4)).heap.size = w.heap.size + 2 := by simp
  cases hnm : isName n with
  | false =>
    rw [show nameW q n pt = q by rw [nameW, hnm]; rfl]
    rw [chk_none hnm] at CC
    clear hnm
    refine (callsIn_wide (n := 9)).1 ?_
    refine callsIn_of_wp_marks Try.func92 rfl trivial ?_ rfl
    simp only [Try.ntmps92, List.size_toArray, List.length_cons, List.length_nil, Nat.reduceAdd, Nat.reduceSub, Array.replicate_succ, Array.replicate_zero, List.push_toArray, List.append_toArray, List.nil_append, List.cons_append]
    gi_wp2_with fail
    generalize (w.alloc (.cells #[.pointer (some ⟨B, 0, none⟩)] 43)).alloc (.cells #[.bool pt] 4) = w0 at hX0 hA0 hP0 hz0 ⊢
    refine (callsIn_wide.2 (CC.out _)).mono ?_
    rintro e w1 ⟨rfl, hx⟩
    have HX := Lib.hid (hX0.trans hx); clear hx
    gi_wp2
    exact ⟨_, results_none rfl _ _ _, ⟨_, rfl⟩, H.out.ext HX.out, HX.out.keeps.mono fun _ _ _ => trivial⟩
  | true =>
    rw [show nameW q n pt = goW pt (labelsB n) (q, n) by rw [nameW, hnm]; rfl]
    rw [chk_name hnm] at CC
    have Hnm := Lib.hid hnm; clear hnm
    refine (callsIn_wide (n := 9)).1 ?_
    refine callsIn_of_wp_marks Try.func92 rfl trivial ?_ rfl
    simp only [Try.ntmps92, List.size_toArray, List.length_cons, List.length_nil, Nat.reduceAdd, Nat.reduceSub, Array.replicate_succ, Array.replicate_zero, List.push_toArray, List.append_toArray, List.nil_append, List.cons_append]
    gi_wp2_with fail
    generalize (w.alloc (.cells #[.pointer (some ⟨B, 0, none⟩)] 43)).alloc (.cells #[.bool pt] 4) = w0 at hX0 hA0 hP0 hz0 ⊢
    refine (callsIn_wide.2 (CC.out _)).mono ?_
    rintro e w1 ⟨rfl, hx⟩
    have HX := Lib.hid (hX0.trans hx)
    have hA1 := (Ext.keeps hx).boxed hA0 trivial
    have hP1 := (Ext.keeps hx).boxed hP0 trivial
    have hz1 := hx.size
    clear hx hX0 hA0 hP0
    gi_wp2_with fail
    refine (callsIn_wide.2 (Labels_any n _)).mono ?_
    rintro e w2' ⟨rfl, rfl⟩
    have hA2 := (hA1.alloc (.cells #[.string n] 9)).alloc (.cells #[.string n] 9)
    have hP2 := (hP1.alloc (.cells #[.string n] 9)).alloc (.cells #[.string n] 9)
    have hR2 := (Boxed.new w1 9 (.string n)).alloc (.cells #[.string n] 9)
    have hN : Boxed ((w1.alloc (.cells #[.string n] 9)).alloc (.cells #[.string n] 9)) (w1.heap.size + 1) 9 (.string n) := by
      have := Boxed.new (w1.alloc (.cells #[.string n] 9)) 9 (.string n)
      simpa using this
    have hz2 : ((w1.alloc (.cells #[.string n] 9)).alloc (.cells #[.string n] 9)).heap.size = w1.heap.size + 2 := by simp
    have HX2 := Lib.hid ((HX.out.alloc (.cells #[.string n] 9)).alloc (.cells #[.string n] 9))
    have hse : (w1.alloc (.cells #[.string n] 9)).heap.size = w1.heap.size + 1 := by simp
    rw [hse]
    clear hse
    generalize (w1.alloc (.cells #[.string n] 9)).alloc (.cells #[.string n] 9) = w2 at hA2 hP2 hR2 hN hz2 HX2 ⊢
    have HWr := Lib.hid (H.out.more HX2.out)
    obtain ⟨RB, hRB⟩ : ∃ RB, w1.heap.size = RB := ⟨_, rfl⟩
    rw [hRB] at hR2 hN hz2 hz1 ⊢
    obtain ⟨A0, hA0⟩ : ∃ A0, w.heap.size = A0 := ⟨_, rfl⟩
    rw [hA0] at hA2 hP2 hz0 hBl HG HWr ⊢
    clear hRB hA1 hP1 HX
    have hlt : A0 + 2 ≤ RB := by omega
    gi_wp2_with fail
    refine wpIn_rangeX rfl wide_room (gf := 114) (lb := #[.pointer (some ⟨RB + 1, 0, none⟩)]) rfl trivial (enters_of Try.func114 (by kernel_rfl) rfl)
      (labels1_seq _ _ n hn w2 hN.cell) (Keeps.refl _ _) (fun k h => by rw [hz2]; subst h; omega) (fun _ => rfl)
      (fun D pre A => WrAt A B (fun j => G j ∨ (A0 ≤ j ∧ j < D)) (stW n q pre).1 ∧ Boxed A A0 43 (.pointer (some ⟨B, 0, none⟩)) ∧ Boxed A (A0 + 1) 4 (.bool pt) ∧ Boxed A RB 9 (.string (stW n q pre).2) ∧
        Keeps G w A ∧ ∀ post, labelsB n = pre ++ post → goW pt (labelsB n) (q, n) = goW pt post (stW n q pre))
      (fun c D _ A => c = Code.ret ∧ WrAt A B (fun j => G j ∨ (A0 ≤ j ∧ j < D)) (goW pt (labelsB n) (q, n)) ∧ Keeps G w A)
      (fun D pre A A' h k => ⟨h.1.turned k (fun j hj => by
          by_cases h1 : A0 ≤ j
          · right; exact Nat.le_of_not_lt fun h2 => hj (.inr ⟨h1, h2⟩)
          · left; omega), k.boxed h.2.1 (by omega), k.boxed h.2.2.1 (by omega), k.boxed h.2.2.2.1 (by omega), h.2.2.2.2.1.trans (k.mono fun j _ hj => by have := HG.out j hj; omega), h.2.2.2.2.2⟩)
      (fun c D pre A A' h k => ⟨h.1, h.2.1.turned k (fun j hj => by
          by_cases h1 : A0 ≤ j
          · right; exact Nat.le_of_not_lt fun h2 => hj (.inr ⟨h1, h2⟩)
          · left; omega), h.2.2.trans (k.mono fun j _ hj => by have := HG.out j hj; omega)⟩)
      (fun D W h1 h2 k => ⟨(HWr.out.more (k.ext fun _ h => h)).mono (fun j hj => by
          rcases hj with hj | ⟨h3, h4⟩
          · exact .inl (.inl hj)
          · by_cases h5 : j < w2.heap.size
            · exact .inl (.inr ⟨h3, h5⟩)
            · exact .inr ⟨by omega, by omega⟩), k.boxed hA2 (by omega), k.boxed hP2 (by omega), k.boxed hR2 (by omega), (HX2.out.keeps.mono fun _ _ _ => trivial).trans (k.mono fun j _ hj => by have := HG.out j hj; omega), fun post hp => by rw [hp]; rfl⟩)
      (fun _ x a' _ => a' = { tmps := #[.pointer (some ⟨B, 0, none⟩), .string n, .bool pt, .pointer (some ⟨A0, 0, none⟩), undef, .pointer (some ⟨A0 + 1, 0, none⟩), .pointer (some ⟨RB, 0, none⟩), .string x, undef, undef, undef, .string n,
        .int .i64 0, .bool false, .string n, .string n, .func (.func 114) #[] #[.pointer (some ⟨RB + 1, 0, none⟩)], .string x, undef, undef, undef, undef, undef, undef, undef, undef, undef, undef, undef, undef, undef, undef, undef, undef, undef, undef, undef, undef, undef, undef, undef, undef, undef, undef, undef, undef, undef, undef, undef, undef], defers := [] })
      (fun _ _ _ _ _ h _ => h) ?assign ?body ?done ?stop
    case assign =>
      intro l D x W K _ hK
      gi_wp2
      exact hK _ _ (Keeps.refl _ _) rfl
    case body =>
      rintro l D pre x rest a' W hx hD hDW ⟨r, hr⟩ ⟨hw, hA, hP, hR, hk, hgo⟩ rfl
      have hfit := stW_fits Hnm.out q pre x rest hx
      have hxp := lab_pos Hnm.out x (by rw [hx]; simp)
      have hok := stW_ok Hnm.out hq pre _ hx
      have hgo1 := hgo _ hx
      have hsn := stW_snoc n q pre x
      obtain ⟨⟨qs, rt⟩, hst⟩ : ∃ s, stW n q pre = s := ⟨_, rfl⟩
      rw [hst] at hw hR hfit hok hgo1 hsn
      simp only at hw hR hfit hok
      obtain ⟨hf1, hf2, hf3⟩ := hfit
      obtain ⟨hx1, hx2⟩ := hxp
      have hgt : goW pt (x :: rest) (qs, rt) = if hitW pt (qs, rt) then ptrW (qs, rt) else goW pt rest (stepW (qs, rt) x) := rfl
      rw [hgt] at hgo1
      have hhw : hitW pt (qs, rt) = (pt && (qs.rests.lookup (bl rt)).isSome) := rfl
      have hpw : ptrW (qs, rt) = rawW qs ⟨(nbs (49152 + (qs.rests.lookup (bl rt)).getD 0) 2).toArray⟩ := rfl
      have hlk : ∃ mb bv, W.cell? ⟨B, 0, none⟩ = some bv ∧ W.cell? ⟨B, 3, none⟩ = some (.map (some mb)) ∧ (Instr.lookup 94 (.map (some mb)) (.string rt) true).run Try.prog W = .ok (.tuple #[.int .i64 (((qs.rests.lookup (bl rt)).getD 0 : Nat) : Int), .bool (qs.rests.lookup (bl rt)).isSome]) W := by
        obtain ⟨mb, bv, hi⟩ := hw
        exact ⟨mb, bv, hi.cells.1, hi.cells.2.2.2.1, hi.map.look rt (by unfold maxLen; omega)⟩
      obtain ⟨mb, bv, _, c3, hlk⟩ := hlk
      have hlk' : (Instr.lookup 94 (.map (some mb)) (.string rt) true).run Try.prog W.drew = .ok (.tuple #[.int .i64 (((qs.rests.lookup (bl rt)).getD 0 : Nat) : Int), .bool (qs.rests.lookup (bl rt)).isSome]) W.drew := by
        obtain ⟨mb', bv', hi⟩ := WrAt.ext hw ((Ext.refl W).drew)
        have e : W.drew.cell? ⟨B, 3, none⟩ = some (.map (some mb)) := c3
        rw [hi.cells.2.2.2.1] at e
        cases e
        exact hi.map.look rt (by unfold maxLen; omega)
      have hat : (qs.rests.lookup (bl rt)).getD 0 < 16384 := by
        cases ho : qs.rests.lookup (bl rt) with
        | none => simp
        | some v =>
          obtain ⟨k', hk'⟩ := lookup_mem _ _ _ ho
          exact hok.2.2.2.2 _ hk'
      have cA := hA.cell
      have cP := hP.cell
      have cR := hR.cell
      have fR := hR.frozen
      have hmx : Try.prog.follows .mixedOrders = true := by kernel_rfl
      have HW := Lib.hid hw; clear hw
      have HA := Lib.hid hA; clear hA
      have HP := Lib.hid hP; clear hP
      have HR := Lib.hid hR; clear hR
      have Hk := Lib.hid hk; clear hk
      have Hgo := Lib.hid hgo; clear hgo
      have Hgo1 := Lib.hid hgo1; clear hgo1
      have Hst := Lib.hid hst; clear hst
      have Hsn := Lib.hid hsn; clear hsn
      have Hx := Lib.hid hx; clear hx
      have Hok := Lib.hid hok; clear hok
      have Hhw := Lib.hid hhw; clear hhw
      have Hpw := Lib.hid hpw; clear hpw hgt hlk
      obtain ⟨o, ho⟩ : ∃ o, qs.rests.lookup (bl rt) = o := ⟨_, rfl⟩
      rw [ho] at hlk' hat Hhw Hpw
      clear ho
      cases o with
      | none =>
        simp only [Option.isSome_none, Option.getD_none] at hlk'
        have Hgo2 : Hid (goW pt (labelsB n) (q, n) = goW pt rest (stepW (qs, rt) x)) := Lib.hid (by rw [Hgo1.out, if_neg (by rw [Hhw.out]; simp)])
        have CS := Lib.hid fun W' (h : WrAt W' B (fun j => G j ∨ (A0 ≤ j ∧ j < D)) qs) => start_any B _ qs rt (rt.extract 0 (1 + x.size)) W' h Hok.out (by omega) (by omega) (by omega)
        have i1 : (1 : Int) + x.size ≤ rt.size := by omega
        have i2 : (0 : Int) ≤ (1 : Int) + x.size := by omega
        have i3 : ((1 : Int) + x.size).toNat = 1 + x.size := by omega
        gi_wp2
        refine wpIn_region_tail (Wide.round l) 10 hmx (by kernel_rfl) ?_
        simp only [List.take_succ_cons, List.take_zero, List.drop_succ_cons, List.drop_zero]
        repeat still_step
        refine wpStill_nil ?_
        gi_wp2_with fail
        clear hlk' c3
        refine wpIn_region_tail (Wide.round l) 5 hmx (by kernel_rfl) ?_
        simp only [List.take_succ_cons, List.take_zero, List.drop_succ_cons, List.drop_zero]
        repeat still_step
        refine wpStill_nil ?_
        gi_wp2_with fail
        refine ((Wide.round l).calls (CS.out W.drew.drew (HW.out.ext ((Ext.refl W).drew.drew)))).mono ?_
        rintro e W3 ⟨⟨v, rfl⟩, hw3, hk3⟩
        have hkW : Keeps (fun j => G j ∨ (A0 ≤ j ∧ j < D)) W W3 := ((Keeps.refl _ W).drew.drew).trans hk3
        have hA3 := hkW.boxed HA.out (.inr ⟨Nat.le_refl _, by omega⟩)
        have hP3 := hkW.boxed HP.out (.inr ⟨by omega, by omega⟩)
        have hR3 := hkW.boxed HR.out (.inr ⟨by omega, by omega⟩)
        have cR3 := hR3.cell
        have fR3 := hR3.frozen
        have Hw3 := Lib.hid hw3; clear hw3
        have HkW := Lib.hid hkW; clear hkW hk3
        have HA3 := Lib.hid hA3; clear hA3
        have HP3 := Lib.hid hP3; clear hP3
        have HR3 := Lib.hid hR3; clear hR3
        clear cA cP cR fR CS
        gi_wp2
        have hset : ∀ K : Nat → Prop, ¬ K RB → Keeps K W3 (W3.setCell ⟨RB, 0, none⟩ (.string (rt.extract (1 + x.size) rt.size))) := fun K hK => (Keeps.refl K W3).setCell (p := ⟨RB, 0, none⟩) hK _
        refine ⟨?_, ?_, ?_, ?_, ?_, ?_, ?_⟩
        · exact (HkW.out.mono fun j _ hj => by rcases hj with hj | hj <;> exact .inr (by omega)).trans (hset _ (by omega))
        · rw [Hsn.out]
          exact Hw3.out.turned (hset (fun j => j ≠ RB) (fun h => h rfl)) (fun j hj he => hj (.inr (by omega)))
        · exact HA3.out.other (by omega) _
        · exact HP3.out.other (by omega) _
        · rw [Hsn.out]; exact HR3.out.set _
        · exact Hk.out.trans ((HkW.out.mono fun j _ hj => .inl hj).trans (hset _ (fun hg => by have := HG.out RB hg; omega)))
        · intro post hp
          rw [Hgo2.out, Hsn.out]
          rw [Hx.out, List.append_assoc, List.append_cancel_left_eq] at hp
          cases hp
          rfl
      | some at_ =>
        simp only [Option.isSome_some, Option.getD_some] at hlk' hat
        cases pt with
        | false =>
          have Hgo2 : Hid (goW false (labelsB n) (q, n) = goW false rest (stepW (qs, rt) x)) := Lib.hid (by rw [Hgo1.out, if_neg (by rw [Hhw.out]; simp)])
          have CS := Lib.hid fun W' (h : WrAt W' B (fun j => G j ∨ (A0 ≤ j ∧ j < D)) qs) => start_any B _ qs rt (rt.extract 0 (1 + x.size)) W' h Hok.out (by omega) (by omega) (by omega)
          have i1 : (1 : Int) + x.size ≤ rt.size := by omega
          have i2 : (0 : Int) ≤ (1 : Int) + x.size := by omega
          have i3 : ((1 : Int) + x.size).toNat = 1 + x.size := by omega
          gi_wp2
          refine wpIn_region_tail (Wide.round l) 10 hmx (by kernel_rfl) ?_
          simp only [List.take_succ_cons, List.take_zero, List.drop_succ_cons, List.drop_zero]
          repeat still_step
          refine wpStill_nil ?_
          gi_wp2_with fail
          clear hlk' c3
          refine wpIn_region_tail (Wide.round l) 5 hmx (by kernel_rfl) ?_
          simp only [List.take_succ_cons, List.take_zero, List.drop_succ_cons, List.drop_zero]
          repeat still_step
          refine wpStill_nil ?_
          gi_wp2_with fail
          refine ((Wide.round l).calls (CS.out W.drew.drew (HW.out.ext ((Ext.refl W).drew.drew)))).mono ?_
          rintro e W3 ⟨⟨v, rfl⟩, hw3, hk3⟩
          have hkW : Keeps (fun j => G j ∨ (A0 ≤ j ∧ j < D)) W W3 := ((Keeps.refl _ W).drew.drew).trans hk3
          have hA3 := hkW.boxed HA.out (.inr ⟨Nat.le_refl _, by omega⟩)
          have hP3 := hkW.boxed HP.out (.inr ⟨by omega, by omega⟩)
          have hR3 := hkW.boxed HR.out (.inr ⟨by omega, by omega⟩)
          have cR3 := hR3.cell
          have fR3 := hR3.frozen
          have Hw3 := Lib.hid hw3; clear hw3
          have HkW := Lib.hid hkW; clear hkW hk3
          have HA3 := Lib.hid hA3; clear hA3
          have HP3 := Lib.hid hP3; clear hP3
          have HR3 := Lib.hid hR3; clear hR3
          clear cA cP cR fR CS
          gi_wp2
          have hset : ∀ K : Nat → Prop, ¬ K RB → Keeps K W3 (W3.setCell ⟨RB, 0, none⟩ (.string (rt.extract (1 + x.size) rt.size))) := fun K hK => (Keeps.refl K W3).setCell (p := ⟨RB, 0, none⟩) hK _
          refine ⟨?_, ?_, ?_, ?_, ?_, ?_, ?_⟩
          · exact (HkW.out.mono fun j _ hj => by rcases hj with hj | hj <;> exact .inr (by omega)).trans (hset _ (by omega))
          · rw [Hsn.out]
            exact Hw3.out.turned (hset (fun j => j ≠ RB) (fun h => h rfl)) (fun j hj he => hj (.inr (by omega)))
          · exact HA3.out.other (by omega) _
          · exact HP3.out.other (by omega) _
          · rw [Hsn.out]; exact HR3.out.set _
          · exact Hk.out.trans ((HkW.out.mono fun j _ hj => .inl hj).trans (hset _ (fun hg => by have := HG.out RB hg; omega)))
          · intro post hp
            rw [Hgo2.out, Hsn.out]
            rw [Hx.out, List.append_assoc, List.append_cancel_left_eq] at hp
            cases hp
            rfl
        | true =>
          have Hgo2 : Hid (goW true (labelsB n) (q, n) = rawW qs ⟨(nbs (49152 + at_) 2).toArray⟩) := Lib.hid (by rw [Hgo1.out, if_pos (by rw [Hhw.out]; rfl), Hpw.out]; rfl)
          have hat' : at_ < 16384 := hat
          have q1 := i64_or_mark at_ hat'
          have CNn := Lib.hid fun W' (h : WrAt W' B (fun j => G j ∨ (A0 ≤ j ∧ j < D)) qs) => WNum_any B _ qs 2 (49152 + at_) W' h Hok.out (.inr (.inl rfl)) (by omega)
          simp only [Int.natCast_add, Int.cast_ofNat_Int] at CNn
          gi_wp2
          refine wpIn_region_tail (Wide.round l) 10 hmx (by kernel_rfl) ?_
          simp only [List.take_succ_cons, List.take_zero, List.drop_succ_cons, List.drop_zero]
          repeat still_step
          refine wpStill_nil ?_
          gi_wp2_with fail
          refine ((Wide.round l).calls (CNn.out W.drew (HW.out.ext ((Ext.refl W).drew)))).mono ?_
          rintro e W3 ⟨⟨v, rfl⟩, hw3, hk3⟩
          have hkW : Keeps (fun j => G j ∨ (A0 ≤ j ∧ j < D)) W W3 := ((Keeps.refl _ W).drew).trans hk3
          have Hw3 := Lib.hid hw3; clear hw3
          have HkW := Lib.hid hkW; clear hkW hk3
          gi_wp2
          refine ⟨HkW.out.mono fun j _ hj => by rcases hj with hj | hj <;> exact .inr (by omega), rfl, ?_, Hk.out.trans (HkW.out.mono fun j _ hj => .inl hj)⟩
          rw [Hgo2.out]
          exact Hw3.out
    case done =>
      rintro D W hD hDW ⟨hw, hA, hP, hR, hk, hgo⟩ hd
      have hgo1 := hgo [] (List.append_nil _).symm
      have hok := stW_ok Hnm.out hq (labelsB n) [] (List.append_nil _).symm
      obtain ⟨⟨qs, rt⟩, hst⟩ : ∃ s, stW n q (labelsB n) = s := ⟨_, rfl⟩
      rw [hst] at hw hgo1 hok
      simp only at hw hok
      have hgo2 : goW pt (labelsB n) (q, n) = rawW qs ⟨#[0]⟩ := hgo1
      have CR := Lib.hid (WRaw_any B _ qs ⟨#[0]⟩ W hw hok (by decide))
      have cA := hA.cell
      have Hgo2 := Lib.hid hgo2; clear hgo2 hgo1 hgo hst hok hw hA hP hR
      have Hk := Lib.hid hk; clear hk
      have Hd := Lib.hid hd; clear hd
      gi_wp2_with fail
      refine (callsIn_wide.2 CR.out).mono ?_
      rintro e W3 ⟨⟨v, rfl⟩, hw3, hk3⟩
      have hd3 := hk3.heap Hd.out (.inr (by omega))
      rw [hz2] at hd3
      have HP := Lib.hid (And.intro hw3 hk3); clear hw3 hk3 cA CR
      gi_wp2
      refine ⟨by simp, .inl ⟨_, _, rfl, run_takeDeferred hd3, ?_⟩⟩
      refine ⟨_, results_none rfl _ _ _, ⟨_, rfl⟩, ?_, ?_⟩
      · rw [Hgo2.out]
        exact (HP.out.1.turned ((Keeps.refl (fun j => j ≠ RB + 2) W3).putObj (fun h => h rfl) (.deferred none)) (fun j hj he => hj (.inr (by omega)))).mono fun j hj => .inl hj
      · exact (Hk.out.trans (HP.out.2.mono fun j _ hj => .inl hj)).putObj (fun hg => by have := HG.out _ hg; omega) _
    case stop =>
      rintro c D pre x rest W hx hD hDW ⟨rfl, hw, hk⟩ hd
      have Hw := Lib.hid hw; clear hw
      have Hk := Lib.hid hk; clear hk
      have Hd := Lib.hid hd; clear hd hx
      gi_wp2
      refine ⟨by simp, .inl ⟨_, _, rfl, run_takeDeferred Hd.out, ?_⟩⟩
      refine ⟨_, results_none rfl _ _ _, ⟨_, rfl⟩, ?_, ?_⟩
      · exact (Hw.out.turned ((Keeps.refl (fun j => j ≠ w2.heap.size) W).putObj (fun h => h rfl) (.deferred none)) (fun j hj he => hj (.inr (by omega)))).mono fun j hj => .inl hj
      · exact Hk.out.putObj (fun hg => by have := HG.out _ hg; omega) _

end Go.Proofs.Ytmmjhdkoccpdjaa
