/- What the library's insertion sort does with a row of walk's Sort. Conditions: the row, and the two places in it. -/
import Derived.Test.YtmmjhdkoccpdjaaSortA
import Derived.StillTail
namespace Go.Proofs.Ytmmjhdkoccpdjaa
open Go Go.RowKit Go.Shelf

attribute [local irreducible] wpStill

def ltE (x y : El) : Bool := decide (cmpL x.key y.key < 0)
/-- x goes leftward past what stands behind it; r is the row, turned round. -/
def bubR (x : El) : List El → List El
  | [] => [x]
  | y :: r => if ltE x y = true then y :: bubR x r else x :: y :: r
def insR (l : List El) : List El := l.foldl (fun r x => bubR x r) []
theorem insR_snoc (l : List El) (x : El) : insR (l ++ [x]) = bubR x (insR l) := by rw [insR, List.foldl_append]; rfl
theorem bubR_len (x : El) : ∀ r, (bubR x r).length = r.length + 1
  | [] => rfl
  | y :: r => by
    rw [bubR]
    split
    · simp [bubR_len x r]
    · simp
theorem bubR_mem (x : El) : ∀ r, ∀ e ∈ bubR x r, e = x ∨ e ∈ r
  | [], e, h => by simpa [bubR] using h
  | y :: r, e, h => by
    rw [bubR] at h
    split at h
    · rcases List.mem_cons.1 h with rfl | h
      · exact .inr (by simp)
      · exact (bubR_mem x r e h).imp id (fun h => by simp [h])
    · simpa using h
theorem insR_len : ∀ (n : Nat) (l : List El), l.length = n → (insR l).length = n
  | 0, l, h => by rw [List.eq_nil_of_length_eq_zero h]; rfl
  | n + 1, l, h => by
    obtain ⟨a, x, rfl⟩ : ∃ a x, l = a ++ [x] := by
      rcases List.eq_nil_or_concat l with rfl | ⟨a, x, rfl⟩
      · simp at h
      · exact ⟨a, x, by simp⟩
    rw [insR_snoc, bubR_len, insR_len n a (by simpa using h)]

theorem wp_region_tail {P : Program} {id : Nat} {Q : Exit → Act → World → Prop} {a : Act} {w : World} {l : List Oper} (n : Nat) (hm : P.follows .mixedOrders = true) (hB : Region.lexTailB .any l.toArray n = true)
    (h : wpStill P l.toArray w.drew (fun a' => wpList P l.toArray Q (l.drop n) a' w.drew) (l.take n) a) : (Code.region id l.toArray true).wp P Q a w := wp_region_still_tail n hm hB h

theorem Row.drew {base g cap : Nat} {w : World} {l : List El} (h : Row base g cap w l) : Row base g cap w.drew l := ⟨h.own, fun e he => ⟨(h.ok e he).key, (h.ok e he).off, (h.ok e he).len⟩⟩

theorem swap_rows (A B : List El) (x y : El) :
    ((((rowOf (A ++ y :: x :: B)).set ((A.length + 1) * 2) (.string y.name)).set ((A.length + 1) * 2 + 1) y.pv).set (A.length * 2) (.string x.name)).set (A.length * 2 + 1) x.pv = rowOf (A ++ x :: y :: B) := by
  have h1 := rowOf_set (A ++ [y]) B x y
  simp only [List.append_assoc, List.singleton_append, List.length_append, List.length_singleton] at h1
  rw [h1]
  exact rowOf_set A (y :: B) y x

theorem Row.swap {base g cap : Nat} {w : World} {A B : List El} {x y : El} (h : Row base g cap w (A ++ y :: x :: B)) {p j : Nat} (hp : A.length = p) (hj : j = p + 1) :
    Row base g cap ((((w.setCell ⟨g, j * 2, none⟩ (.string y.name)).setCell ⟨g, j * 2 + 1, none⟩ (.slice y.ao y.key.length y.cap)).setCell ⟨g, p * 2, none⟩ (.string x.name)).setCell ⟨g, p * 2 + 1, none⟩ (.slice x.ao x.key.length x.cap)) (A ++ x :: y :: B) ∧
    Keeps (fun k => k ≠ g) w ((((w.setCell ⟨g, j * 2, none⟩ (.string y.name)).setCell ⟨g, j * 2 + 1, none⟩ (.slice y.ao y.key.length y.cap)).setCell ⟨g, p * 2, none⟩ (.string x.name)).setCell ⟨g, p * 2 + 1, none⟩ (.slice x.ao x.key.length x.cap)) := by
  subst hp hj
  have hk : Keeps (fun k => k ≠ g) w ((((w.setCell ⟨g, (A.length + 1) * 2, none⟩ (.string y.name)).setCell ⟨g, (A.length + 1) * 2 + 1, none⟩ (.slice y.ao y.key.length y.cap)).setCell ⟨g, A.length * 2, none⟩ (.string x.name)).setCell ⟨g, A.length * 2 + 1, none⟩ (.slice x.ao x.key.length x.cap)) :=
    ((((Keeps.refl _ w).setCell (p := ⟨g, _, none⟩) (fun h => h rfl) _).setCell (p := ⟨g, _, none⟩) (fun h => h rfl) _).setCell (p := ⟨g, _, none⟩) (fun h => h rfl) _).setCell (p := ⟨g, _, none⟩) (fun h => h rfl) _
  have h1 := ((((h.own.stored ((A.length + 1) * 2) (.string y.name)).1.stored ((A.length + 1) * 2 + 1) (.slice y.ao y.key.length y.cap)).1.stored (A.length * 2) (.string x.name)).1.stored (A.length * 2 + 1) (.slice x.ao x.key.length x.cap)).1
  have h2 := swap_rows A B x y
  simp only [El.pv] at h2
  rw [h2] at h1
  have hl : (A ++ y :: x :: B).length = (A ++ x :: y :: B).length := by simp
  rw [hl] at h1
  exact ⟨⟨h1, fun e he => (h.ok e (by simp only [List.mem_append, List.mem_cons] at he ⊢; rcases he with h | h | h | h <;> simp [h])).keeps hk⟩, hk⟩

set_option maxRecDepth 100000 in
set_option maxHeartbeats 8000000 in
theorem insertion_any (base g cap : Nat) (pre seg post : List El) (w : World) (h : Row base g cap w (pre ++ seg ++ post)) (hlen : (pre ++ seg ++ post).length ≤ 4294967296) :
    Calls Try.prog 132 #[.slice (some ⟨g, 0, none⟩) (pre ++ seg ++ post).length cap, .int .i64 (pre.length : Int), .int .i64 ((pre.length + seg.length : Nat) : Int), .func (.func 84) #[] #[]] w
      fun e w' => (∃ u, e = .returned u) ∧ Row base g cap w' (pre ++ (insR seg).reverse ++ post) ∧ Keeps (fun k => k ≠ g) w w' := by
  obtain ⟨N, hN⟩ : ∃ N, (pre ++ seg ++ post).length = N := ⟨_, rfl⟩
  have hN2 := hN
  simp only [List.length_append] at hN2
  rw [hN] at hlen ⊢
  have hmx : Try.prog.follows .mixedOrders = true := by kernel_rfl
  obtain ⟨a, ha⟩ : ∃ a, pre.length = a := ⟨_, rfl⟩
  obtain ⟨m, hm⟩ : ∃ m, seg.length = m := ⟨_, rfl⟩
  rw [ha, hm] at hN2 ⊢
  obtain ⟨b, hb⟩ : ∃ b, a + m = b := ⟨_, rfl⟩
  rw [hb] at hN2 ⊢
  have H := Lib.hid h; clear h
  have HNN := Lib.hid hN; clear hN
  have Ha := Lib.hid ha; clear ha
  have Hm := Lib.hid hm; clear hm
  have q1 : IntKind.i64.wrap ((a : Int) + 1) = ((a + 1 : Nat) : Int) := by rw [IntWalk.i64_in _ (by omega)]; rfl
  go_enter Try.func132, Try.ntmps132
  go_wp2_with fail
  go_loopw [8] (fun s8 wr => ∃ (i : Nat), s8 = .int .i64 (i : Int) ∧ a + 1 ≤ i ∧ (i ≤ b ∨ (m = 0 ∧ i = a + 1)) ∧ Row base g cap wr (pre ++ ((insR (seg.take (i - a))).reverse ++ (seg.drop (i - a) ++ post))) ∧ Keeps (fun k => k ≠ g) w wr)
    (fun s8 _ => (b + 1) - (intOf s8).toNat)
  case atStart =>
    refine ⟨a + 1, rfl, Nat.le_refl _, by omega, ?_, Keeps.refl _ _⟩
    have h1 : pre ++ seg ++ post = pre ++ ((insR (seg.take 1)).reverse ++ (seg.drop 1 ++ post)) := by
      cases seg with
      | nil => simp [insR]
      | cons x l => simp [insR, bubR]
    rw [show a + 1 - a = 1 by omega, ← h1]
    exact H.out
  case round =>
    obtain ⟨i, rfl, hi1, him, hrow, hkeep⟩ := hrel
    obtain ⟨k, hk⟩ : ∃ k, i - a = k := ⟨_, rfl⟩
    rw [hk] at hrow
    by_cases hlt : i < b
    · have hsd : seg.drop k = seg[k]'(by rw [Hm.out]; omega) :: seg.drop (k + 1) := List.drop_eq_getElem_cons (by rw [Hm.out]; omega)
      have hst : seg.take (k + 1) = seg.take k ++ [seg[k]'(by rw [Hm.out]; omega)] := by rw [List.take_succ_eq_append_getElem (by rw [Hm.out]; omega)]
      obtain ⟨x, hx⟩ : ∃ x, seg[k]'(by rw [Hm.out]; omega) = x := ⟨_, rfl⟩
      rw [hx] at hsd hst
      rw [hsd] at hrow
      have hR : (insR (seg.take k)).length = k := insR_len k _ (by rw [List.length_take, Hm.out]; omega)
      have HR : Hid (insR (seg.take (k + 1)) = bubR x (insR (seg.take k))) := Lib.hid (by rw [hst, insR_snoc])
      obtain ⟨R, hRR⟩ : ∃ R, insR (seg.take k) = R := ⟨_, rfl⟩
      rw [hRR] at hrow hR HR
      have Hrow := Lib.hid hrow
      have Hkeep := Lib.hid hkeep
      have HRl := Lib.hid hR
      clear hx hsd hst hrow hkeep hRR hR
      have q2 : IntKind.i64.wrap ((i : Int) + 1) = ((i + 1 : Nat) : Int) := by rw [IntWalk.i64_in _ (by omega)]; rfl
      have fin : ∀ (W : World), Row base g cap W (pre ++ ((bubR x R).reverse ++ (seg.drop (k + 1) ++ post))) → Row base g cap W (pre ++ ((insR (seg.take (i + 1 - a))).reverse ++ (seg.drop (i + 1 - a) ++ post))) := fun W h => by
        rw [show i + 1 - a = k + 1 by omega, HR.out]; exact h
      have Fin := Lib.hid fin; clear fin
      go_wp2_with fail
      go_loopw [9] (fun s9 wr => ∃ (j : Nat) (r mv : List El), s9 = .int .i64 (j : Int) ∧ j = a + r.length ∧ r.length ≤ k ∧ Row base g cap wr (pre ++ ((r.reverse ++ x :: mv) ++ (seg.drop (k + 1) ++ post))) ∧ bubR x R = mv.reverse ++ bubR x r ∧ Keeps (fun k => k ≠ g) w wr)
        (fun s9 _ => (intOf s9).toNat)
      case atStart => exact ⟨i, R, [], rfl, by rw [HRl.out]; omega, by rw [HRl.out]; exact Nat.le_refl _, by simpa using Hrow.out, by simp, Hkeep.out⟩
      case round =>
        obtain ⟨j, r, mv, rfl, hj, hr, hrow, hbub, hkeep⟩ := hrel
        have Hbub := Lib.hid hbub
        clear hbub Hrow Hkeep
        cases r with
        | nil =>
          have Hrow := Lib.hid hrow
          have Hkeep := Lib.hid hkeep
          clear hrow hkeep
          obtain rfl : j = a := by simpa using hj
          clear hj hr
          have hd2 : decide ((j : Int) < (j : Int)) = false := by simp
          go_wp2_with fail
          refine wp_region_still hmx (by decide +kernel) ?_
          iterate 17 still_step
          refine wpStill_nil ?_
          go_wp2
          go_roundw
          case rel => exact ⟨i + 1, by simp, by omega, by omega, Fin.out _ (by rw [Hbub.out]; simpa [bubR] using Hrow.out.drew), Hkeep.out.drew⟩
          case measure => simp [intOf]; omega
        | cons y r' =>
          rw [show pre ++ (((y :: r').reverse ++ x :: mv) ++ (seg.drop (k + 1) ++ post)) = (pre ++ r'.reverse) ++ y :: x :: (mv ++ (seg.drop (k + 1) ++ post)) by simp] at hrow
          obtain ⟨p, hp⟩ : ∃ p, (pre ++ r'.reverse).length = p := ⟨_, rfl⟩
          have hjp : j = p + 1 := by rw [← hp, hj]; simp [Ha.out]; omega
          have hap : a ≤ p := by rw [← hp]; simp [Ha.out]
          obtain ⟨A, hA⟩ : ∃ A, pre ++ r'.reverse = A := ⟨_, rfl⟩
          obtain ⟨B, hB⟩ : ∃ B, mv ++ (seg.drop (k + 1) ++ post) = B := ⟨_, rfl⟩
          rw [hA, hB] at hrow
          rw [hA] at hp
          have hown := hrow.own
          have hl : (A ++ y :: x :: B).length = N := by
            have h4 := congrArg List.length Hbub.out
            rw [bubR_len, HRl.out] at h4
            rw [← hA, ← hB]
            have h5 := Hm.out
            have h6 := Ha.out
            simp only [List.length_append, List.length_cons, List.length_reverse, List.length_drop, bubR_len] at h4 ⊢
            omega
          rw [hl] at hown
          have hokx := hrow.ok x (by simp)
          have hoky := hrow.ok y (by simp)
          have c1 := hown.cellAt (p * 2) (by rw [← hl, ← hp]; simp <;> omega)
          have c2 := hown.cellAt (p * 2 + 1) (by rw [← hl, ← hp]; simp <;> omega)
          have c3 := hown.cellAt ((p + 1) * 2) (by rw [← hl, ← hp]; simp <;> omega)
          have c4 := hown.cellAt ((p + 1) * 2 + 1) (by rw [← hl, ← hp]; simp <;> omega)
          have hat1 := rowOf_at A (x :: B) y
          have hat2 := rowOf_at (A ++ [y]) B x
          simp only [List.append_assoc, List.singleton_append, List.length_append, List.length_singleton] at hat2
          rw [hp] at hat1 hat2
          rw [hat1.1] at c1
          rw [hat1.2, El.pv] at c2
          rw [hat2.1] at c3
          rw [hat2.2, El.pv] at c4
          rw [← hjp] at c3 c4
          have hjN : j < N := by rw [← hl, hjp, ← hp]; simp <;> omega
          have hpN : p < N := by omega
          have hd2 : a < j := by omega
          have q3 : IntKind.i64.wrap ((j : Int) - 1) = (p : Int) := by rw [IntWalk.i64_in _ (by omega)]; omega
          have Hjp := Lib.hid hjp
          have Hpr : Hid (p = a + r'.length ∧ r'.length ≤ k) := Lib.hid ⟨by rw [← hp, ← hA]; simp [Ha.out], by simp at hr; omega⟩
          clear hat1 hat2 hj hr hjp
          have Hrow := Lib.hid hrow
          have Hkeep := Lib.hid hkeep
          have Hown := Lib.hid hown
          have HA := Lib.hid hA
          have HB := Lib.hid hB
          have Hp := Lib.hid hp
          have Hl := Lib.hid hl
          have HC := Lib.hid (cmpEl_any g x y wr.drew ⟨hokx.key, hokx.off, hokx.len⟩ ⟨hoky.key, hoky.off, hoky.len⟩)
          clear hrow hkeep hown hA hB hp hl hokx hoky him hk hap hb hN2
          go_wp2_with fail
          refine wp_region_tail 14 hmx (by decide +kernel) ?_
          simp only [List.take_succ_cons, List.take_zero, List.drop_succ_cons, List.drop_zero]
          iterate 14 still_step
          refine wpStill_nil ?_
          go_wp2_with fail
          refine HC.out.mono ?_
          rintro e w2 ⟨rfl, hx2⟩
          have hx3 : Ext wr w2 := ((Ext.refl wr).drew).trans hx2
          have Hrow2 : Hid (Row base g cap w2 (A ++ y :: x :: B)) := Lib.hid (Hrow.out.ext hx3)
          have Hkeep2 : Hid (Keeps (fun k => k ≠ g) w w2) := Lib.hid (Hkeep.out.trans (hx3.keeps.mono fun _ _ _ => trivial))
          replace c1 := hx3.keeps.cell c1 trivial
          replace c2 := hx3.keeps.cell c2 trivial
          replace c3 := hx3.keeps.cell c3 trivial
          replace c4 := hx3.keeps.cell c4 trivial
          obtain ⟨c, hc⟩ : ∃ c, cmpL x.key y.key = c := ⟨_, rfl⟩
          have Hc := Lib.hid hc
          rw [hc]
          clear hc hx2 hx3 HC Hrow Hkeep Hown
          by_cases hc0 : c < 0
          · have hlt' : ltE x y = true := by rw [ltE, Hc.out]; exact decide_eq_true hc0
            have Hlt := Lib.hid hlt'; clear hlt'
            have hown2 := Hrow2.out.own
            rw [Hl.out] at hown2
            have f1 := hown2.frozenAt (p * 2)
            have f2 := hown2.frozenAt (p * 2 + 1)
            have f3 := hown2.frozenAt (j * 2)
            have f4 := hown2.frozenAt (j * 2 + 1)
            clear hown2
            have hne : ¬ j = p := by have := Hjp.out; omega
            have hne' : ¬ p = j := fun h => hne h.symm
            go_wp2_with fail
            go_region_o
            have hsw := Hrow2.out.swap Hp.out Hjp.out
            have Hrow3 := Lib.hid hsw.1
            have Hkeep3 := Lib.hid (Hkeep2.out.trans hsw.2)
            clear hsw
            go_wp2
            go_roundw
            case rel =>
              have hpr := Hpr.out
              refine ⟨p, r', y :: mv, by simp, hpr.1, hpr.2, ?_, ?_, Hkeep3.out.drew⟩
              · have := Hrow3.out.drew
                rw [← HA.out, ← HB.out] at this
                simpa using this
              · rw [Hbub.out, bubR, if_pos Hlt.out]
                simp
            case measure => have := Hjp.out; simp [intOf]; omega
          · have hlt' : ltE x y = false := by rw [ltE, Hc.out]; exact decide_eq_false hc0
            have Hfin : Hid (Row base g cap w2 (pre ++ ((bubR x R).reverse ++ (seg.drop (k + 1) ++ post)))) := Lib.hid (by
              rw [Hbub.out, bubR, hlt']
              have := Hrow2.out
              rw [← HA.out, ← HB.out] at this
              simpa using this)
            clear hlt'
            go_wp2
            go_roundw
            case rel => exact ⟨i + 1, by simp, by omega, by omega, Fin.out _ Hfin.out, Hkeep2.out⟩
            case measure => simp [intOf]; omega
    · have Hrow := Lib.hid hrow
      have Hkeep := Lib.hid hkeep
      clear hrow hkeep
      go_wp2
      go_end0
      refine ⟨⟨_, rfl⟩, ?_, Hkeep.out⟩
      have h1 := Hrow.out
      rw [List.take_of_length_le (by rw [Hm.out]; omega), List.drop_of_length_le (by rw [Hm.out]; omega)] at h1
      simpa using h1

end Go.Proofs.Ytmmjhdkoccpdjaa
