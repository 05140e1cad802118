/- Several texts in one (SortA SortB SortC SortD ListA SortE SortF Lives2). Conditions: each says its own. -/
import Derived.Test.YteoelhhkdfmaiaaWalkM
import Derived.StillTail
import Derived.Lib.SliceRun

/- What walk's Sort hands to the library: the rows that it sorts, what compares two of their elements, and what tells whether two are one. Conditions: the elements' keys lie off the row. -/
namespace Go.Proofs.Yteoelhhkdfmaiaa
open Go Go.RowKit Go.Shelf

/-- An element of the sorted row: a name; its key, as a slice. -/
structure El where
  name : ByteArray
  key : List ByteArray
  ao : Option Addr
  cap : Nat
def El.pv (e : El) : Value := .slice e.ao e.key.length e.cap
def El.agg (e : El) : Value := .agg #[.string e.name, e.pv]
/-- The element's key lies in w, off the block g. -/
structure OkEl (g : Nat) (w : World) (e : El) : Prop where
  key : Strs w e.pv e.key
  off : ∀ a, e.ao = some a → a.block ≠ g
  len : e.key.length ≤ 255
theorem OkEl.keeps {g : Nat} {w w' : World} {e : El} (h : OkEl g w e) (k : Keeps (fun k => k ≠ g) w w') : OkEl g w' e := by
  refine ⟨?_, h.off, h.len⟩
  rcases h.key with h1 | ⟨b, off, cap, h1, hc⟩
  · exact .inl h1
  · refine .inr ⟨b, off, cap, h1, fun j hj => k.cell (hc j hj) ?_⟩
    have : e.ao = some ⟨b, off, none⟩ := by
      simp only [El.pv, Value.slice.injEq] at h1
      exact h1.1
    exact h.off ⟨b, off, none⟩ this
theorem OkEl.ext {g : Nat} {w w' : World} {e : El} (h : OkEl g w e) (k : Ext w w') : OkEl g w' e := ⟨h.key.ext k, h.off, h.len⟩

def rowOf : List El → List Value
  | [] => []
  | e :: l => .string e.name :: e.pv :: rowOf l
theorem rowOf_len : ∀ l, (rowOf l).length = l.length * 2
  | [] => rfl
  | e :: l => by simp only [rowOf, List.length_cons, rowOf_len l]; omega
theorem rowOf_append : ∀ a b, rowOf (a ++ b) = rowOf a ++ rowOf b
  | [], _ => rfl
  | e :: a, b => by simp only [List.cons_append, rowOf, rowOf_append a b]
/-- The cells of the element behind A. -/
theorem rowOf_at (A B : List El) (e : El) : (rowOf (A ++ e :: B))[A.length * 2]? = some (.string e.name) ∧ (rowOf (A ++ e :: B))[A.length * 2 + 1]? = some e.pv := by
  rw [rowOf_append]
  constructor
  · rw [List.getElem?_append_right (by rw [rowOf_len]; exact Nat.le_refl _), rowOf_len, Nat.sub_self]; rfl
  · rw [List.getElem?_append_right (by rw [rowOf_len]; omega), rowOf_len, show A.length * 2 + 1 - A.length * 2 = 1 by omega]; rfl
/-- Another element in its place. -/
theorem rowOf_set (A B : List El) (e f : El) : ((rowOf (A ++ e :: B)).set (A.length * 2) (.string f.name)).set (A.length * 2 + 1) f.pv = rowOf (A ++ f :: B) := by
  rw [rowOf_append, rowOf_append]
  rw [List.set_append_right (h := by rw [rowOf_len]; exact Nat.le_refl _), List.set_append_right (h := by rw [rowOf_len]; omega), rowOf_len, Nat.sub_self, show A.length * 2 + 1 - A.length * 2 = 1 by omega]
  rfl

/-- The row: the block g holds the elements of l; their keys lie off it. -/
structure Row (base g cap : Nat) (w : World) (l : List El) : Prop where
  own : w.ownsRow base 62 2 (.slice (some ⟨g, 0, none⟩) l.length cap) l.length (rowOf l)
  ok : ∀ e ∈ l, OkEl g w e
theorem Row.ext {base g cap : Nat} {w w' : World} {l : List El} (h : Row base g cap w l) (k : Ext w w') : Row base g cap w' l :=
  ⟨k.keeps.ownsRow h.own (fun _ _ => trivial), fun e he => (h.ok e he).ext k⟩

set_option maxRecDepth 100000 in
set_option maxHeartbeats 2000000 in
theorem cmpEl_any (g : Nat) (p q : El) (w : World) (hp : OkEl g w p) (hq : OkEl g w q) :
    Calls Try.prog 50 #[p.agg, q.agg] w fun e w' => e = .returned (.int .i64 (cmpL p.key q.key)) ∧ Ext w w' := by
  have HP := Lib.hid hp; clear hp
  have HQ := Lib.hid hq; clear hq
  go_enter Try.func50, Try.ntmps50
  rw [El.agg, El.agg, El.pv, El.pv]
  go_wp2_with fail
  have hx : Ext w ((w.alloc (.cells #[.string p.name, p.pv] 62)).alloc (.cells #[.string q.name, q.pv] 62)) := ((Ext.refl _).alloc _).alloc _
  refine (Compare_any p.pv q.pv p.key q.key _ (HP.out.ext hx).key (HQ.out.ext hx).key (by have := HP.out.len; omega)).mono ?_
  rintro e w' ⟨rfl, hx2⟩
  have HX : Hid (Ext w w') := Lib.hid (hx.trans hx2)
  clear hx hx2
  go_wp2
  go_ret
  exact ⟨rfl, HX.out⟩

set_option maxRecDepth 100000 in
set_option maxHeartbeats 4000000 in
theorem Equal_any (u v : Value) (xs ys : List ByteArray) (w : World) (hu : Strs w u xs) (hv : Strs w v ys) (ha : xs.length ≤ 140737488355328) :
    Calls Try.prog 54 #[u, v] w fun e w' => e = .returned (.bool (decide (xs = ys))) ∧ Ext w w' := by
  obtain ⟨ao, cap, rfl, hu2⟩ := hu.open
  obtain ⟨bo, cap2, rfl, hv2⟩ := hv.open
  have Hu := Lib.hid hu2; clear hu2 hu
  have Hv := Lib.hid hv2; clear hv2 hv
  have hmx : Try.prog.follows .mixedOrders = true := by kernel_rfl
  by_cases hl : xs.length = ys.length
  · have Hl := Lib.hid hl
    rw [hl] at ha
    have hl' : ((xs.length : Int) == (ys.length : Int)) = true := by simp [hl]
    go_enter Try.func54, Try.ntmps54
    rw [hl]
    go_wp2_with fail
    go_loopw [13] (fun i wr => ∃ k : Nat, k ≤ ys.length ∧ i = .int .i64 k ∧ xs.take k = ys.take k ∧ Ext w wr)
      (fun i _ => ys.length - (intOf i).toNat)
    case atStart => exact ⟨0, Nat.zero_le _, rfl, by simp, Ext.refl _⟩
    case round =>
      obtain ⟨k, hk, rfl, heq, hx⟩ := hrel
      have HX := Lib.hid hx; clear hx
      by_cases hlt : k < ys.length
      · obtain ⟨b, off, rfl, hc⟩ := Hu.out k (by omega)
        obtain ⟨b2, off2, rfl, hc2⟩ := Hv.out k hlt
        replace hc := HX.out.keeps.cell hc trivial
        replace hc2 := HX.out.keeps.cell hc2 trivial
        have hts := take_snoc xs k ⟨#[]⟩ (by omega)
        have hts2 := take_snoc ys k ⟨#[]⟩ hlt
        have hg : xs[k]? = ys[k]? ↔ xs[k]?.getD ⟨#[]⟩ = ys[k]?.getD ⟨#[]⟩ := by
          rw [List.getElem?_eq_getElem hlt, List.getElem?_eq_getElem (show k < xs.length by omega)]; simp
        obtain ⟨x, hx⟩ : ∃ x, xs[k]?.getD ⟨#[]⟩ = x := ⟨_, rfl⟩
        obtain ⟨y, hy⟩ : ∃ y, ys[k]?.getD ⟨#[]⟩ = y := ⟨_, rfl⟩
        rw [hx] at hc hts hg
        rw [hy] at hc2 hts2 hg
        have Hg := Lib.hid hg
        have Ht := Lib.hid hts
        have Ht2 := Lib.hid hts2
        have He := Lib.hid heq
        clear hx hy hg hts hts2 heq
        by_cases hxy : x = y
        · subst hxy
          have hxb : (x.toList == x.toList) = true := by simp
          go_wp2_with fail
          refine wp_region_still hmx (by kernel_rfl) ?_
          repeat still_step
          refine wpStill_nil ?_
          go_wp2
          go_roundw
          case rel => exact ⟨k + 1, by omega, by simp, by rw [Ht.out, Ht2.out, He.out], HX.out.drew⟩
          case measure => simp [intOf]; omega
        · have hxb : (x.toList == y.toList) = false := beq_eq_false_iff_ne.2 fun h => hxy (text_inj h)
          go_wp2_with fail
          refine wp_region_still hmx (by kernel_rfl) ?_
          repeat still_step
          refine wpStill_nil ?_
          go_wp2
          go_ret
          exact ⟨by rw [decide_eq_false (fun h0 => hxy (Hg.out.1 (by rw [h0])))]; rfl, HX.out.drew⟩
      · obtain rfl : k = ys.length := by omega
        rw [List.take_length] at heq
        have He : Hid (xs = ys) := Lib.hid (by rw [← heq, ← Hl.out, List.take_length])
        clear heq hlt hk
        go_wp2
        go_ret
        exact ⟨by rw [decide_eq_true He.out]; rfl, HX.out⟩
  · have hl' : ((xs.length : Int) == (ys.length : Int)) = false := by rw [beq_eq_false_iff_ne]; omega
    go_enter Try.func54, Try.ntmps54
    go_wp2
    go_ret
    exact ⟨by rw [decide_eq_false (fun h0 => hl (by rw [h0]))]; rfl, Ext.refl _⟩

set_option maxRecDepth 100000 in
set_option maxHeartbeats 2000000 in
theorem eqEl_any (g : Nat) (p q : El) (w : World) (hp : OkEl g w p) (hq : OkEl g w q) :
    Calls Try.prog 53 #[p.agg, q.agg] w fun e w' => e = .returned (.bool (decide (p.key = q.key))) ∧ Ext w w' := by
  have HP := Lib.hid hp; clear hp
  have HQ := Lib.hid hq; clear hq
  go_enter Try.func53, Try.ntmps53
  rw [El.agg, El.agg, El.pv, El.pv]
  go_wp2_with fail
  have hx : Ext w ((w.alloc (.cells #[.string p.name, p.pv] 62)).alloc (.cells #[.string q.name, q.pv] 62)) := ((Ext.refl _).alloc _).alloc _
  refine (Equal_any p.pv q.pv p.key q.key _ (HP.out.ext hx).key (HQ.out.ext hx).key (by have := HP.out.len; omega)).mono ?_
  rintro e w' ⟨rfl, hx2⟩
  have HX : Hid (Ext w w') := Lib.hid (hx.trans hx2)
  clear hx hx2
  obtain ⟨c, hc⟩ : ∃ c, decide (p.key = q.key) = c := ⟨_, rfl⟩
  rw [hc]
  have Hc := Lib.hid hc
  clear hc
  go_wp2
  go_ret
  exact ⟨by rw [Hc.out]; rfl, HX.out⟩

end Go.Proofs.Yteoelhhkdfmaiaa

/- What the library's insertion sort does with a row of walk's Sort. Conditions: the row, and the two places in it. -/
namespace Go.Proofs.Yteoelhhkdfmaiaa
open Go Go.RowKit Go.Shelf

attribute [local irreducible] wpStill

def ltE (x y : El) : Bool := decide (cmpL x.key y.key < 0)
/-- x goes leftward past what stands behind it; r is the row, turned round. -/
def bubR (x : El) : List El → List El
  | [] => [x]
  | y :: r => if ltE x y = true then y :: bubR x r else x :: y :: r
def insR (l : List El) : List El := l.foldl (fun r x => bubR x r) []
theorem insR_snoc (l : List El) (x : El) : insR (l ++ [x]) = bubR x (insR l) := by rw [insR, List.foldl_append]; rfl
theorem bubR_len (x : El) : ∀ r, (bubR x r).length = r.length + 1
  | [] => rfl
  | y :: r => by
    rw [bubR]
    split
    · simp [bubR_len x r]
    · simp
theorem bubR_mem (x : El) : ∀ r, ∀ e ∈ bubR x r, e = x ∨ e ∈ r
  | [], e, h => by simpa [bubR] using h
  | y :: r, e, h => by
    rw [bubR] at h
    split at h
    · rcases List.mem_cons.1 h with rfl | h
      · exact .inr (by simp)
      · exact (bubR_mem x r e h).imp id (fun h => by simp [h])
    · simpa using h
theorem insR_len : ∀ (n : Nat) (l : List El), l.length = n → (insR l).length = n
  | 0, l, h => by rw [List.eq_nil_of_length_eq_zero h]; rfl
  | n + 1, l, h => by
    obtain ⟨a, x, rfl⟩ : ∃ a x, l = a ++ [x] := by
      rcases List.eq_nil_or_concat l with rfl | ⟨a, x, rfl⟩
      · simp at h
      · exact ⟨a, x, by simp⟩
    rw [insR_snoc, bubR_len, insR_len n a (by simpa using h)]

theorem wp_region_tail {P : Program} {id : Nat} {Q : Exit → Act → World → Prop} {a : Act} {w : World} {l : List Oper} (n : Nat) (hm : P.follows .mixedOrders = true) (hB : Region.lexTailB .any l.toArray n = true)
    (h : wpStill P l.toArray w.drew (fun a' => wpList P l.toArray Q (l.drop n) a' w.drew) (l.take n) a) : (Code.region id l.toArray true).wp P Q a w := wp_region_still_tail n hm hB h

theorem Row.drew {base g cap : Nat} {w : World} {l : List El} (h : Row base g cap w l) : Row base g cap w.drew l := ⟨h.own, fun e he => ⟨(h.ok e he).key, (h.ok e he).off, (h.ok e he).len⟩⟩

theorem swap_rows (A B : List El) (x y : El) :
    ((((rowOf (A ++ y :: x :: B)).set ((A.length + 1) * 2) (.string y.name)).set ((A.length + 1) * 2 + 1) y.pv).set (A.length * 2) (.string x.name)).set (A.length * 2 + 1) x.pv = rowOf (A ++ x :: y :: B) := by
  have h1 := rowOf_set (A ++ [y]) B x y
  simp only [List.append_assoc, List.singleton_append, List.length_append, List.length_singleton] at h1
  rw [h1]
  exact rowOf_set A (y :: B) y x

theorem Row.swap {base g cap : Nat} {w : World} {A B : List El} {x y : El} (h : Row base g cap w (A ++ y :: x :: B)) {p j : Nat} (hp : A.length = p) (hj : j = p + 1) :
    Row base g cap ((((w.setCell ⟨g, j * 2, none⟩ (.string y.name)).setCell ⟨g, j * 2 + 1, none⟩ (.slice y.ao y.key.length y.cap)).setCell ⟨g, p * 2, none⟩ (.string x.name)).setCell ⟨g, p * 2 + 1, none⟩ (.slice x.ao x.key.length x.cap)) (A ++ x :: y :: B) ∧
    Keeps (fun k => k ≠ g) w ((((w.setCell ⟨g, j * 2, none⟩ (.string y.name)).setCell ⟨g, j * 2 + 1, none⟩ (.slice y.ao y.key.length y.cap)).setCell ⟨g, p * 2, none⟩ (.string x.name)).setCell ⟨g, p * 2 + 1, none⟩ (.slice x.ao x.key.length x.cap)) := by
  subst hp hj
  have hk : Keeps (fun k => k ≠ g) w ((((w.setCell ⟨g, (A.length + 1) * 2, none⟩ (.string y.name)).setCell ⟨g, (A.length + 1) * 2 + 1, none⟩ (.slice y.ao y.key.length y.cap)).setCell ⟨g, A.length * 2, none⟩ (.string x.name)).setCell ⟨g, A.length * 2 + 1, none⟩ (.slice x.ao x.key.length x.cap)) :=
    ((((Keeps.refl _ w).setCell (p := ⟨g, _, none⟩) (fun h => h rfl) _).setCell (p := ⟨g, _, none⟩) (fun h => h rfl) _).setCell (p := ⟨g, _, none⟩) (fun h => h rfl) _).setCell (p := ⟨g, _, none⟩) (fun h => h rfl) _
  have h1 := ((((h.own.stored ((A.length + 1) * 2) (.string y.name)).1.stored ((A.length + 1) * 2 + 1) (.slice y.ao y.key.length y.cap)).1.stored (A.length * 2) (.string x.name)).1.stored (A.length * 2 + 1) (.slice x.ao x.key.length x.cap)).1
  have h2 := swap_rows A B x y
  simp only [El.pv] at h2
  rw [h2] at h1
  have hl : (A ++ y :: x :: B).length = (A ++ x :: y :: B).length := by simp
  rw [hl] at h1
  exact ⟨⟨h1, fun e he => (h.ok e (by simp only [List.mem_append, List.mem_cons] at he ⊢; rcases he with h | h | h | h <;> simp [h])).keeps hk⟩, hk⟩

set_option maxRecDepth 100000 in
set_option maxHeartbeats 8000000 in
theorem insertion_any (base g cap : Nat) (pre seg post : List El) (w : World) (h : Row base g cap w (pre ++ seg ++ post)) (hlen : (pre ++ seg ++ post).length ≤ 4294967296) :
    Calls Try.prog 109 #[.slice (some ⟨g, 0, none⟩) (pre ++ seg ++ post).length cap, .int .i64 (pre.length : Int), .int .i64 ((pre.length + seg.length : Nat) : Int), .func (.func 50) #[] #[]] w
      fun e w' => (∃ u, e = .returned u) ∧ Row base g cap w' (pre ++ (insR seg).reverse ++ post) ∧ Keeps (fun k => k ≠ g) w w' := by
  obtain ⟨N, hN⟩ : ∃ N, (pre ++ seg ++ post).length = N := ⟨_, rfl⟩
  have hN2 := hN
  simp only [List.length_append] at hN2
  rw [hN] at hlen ⊢
  have hmx : Try.prog.follows .mixedOrders = true := by kernel_rfl
  obtain ⟨a, ha⟩ : ∃ a, pre.length = a := ⟨_, rfl⟩
  obtain ⟨m, hm⟩ : ∃ m, seg.length = m := ⟨_, rfl⟩
  rw [ha, hm] at hN2 ⊢
  obtain ⟨b, hb⟩ : ∃ b, a + m = b := ⟨_, rfl⟩
  rw [hb] at hN2 ⊢
  have H := Lib.hid h; clear h
  have HNN := Lib.hid hN; clear hN
  have Ha := Lib.hid ha; clear ha
  have Hm := Lib.hid hm; clear hm
  have q1 : IntKind.i64.wrap ((a : Int) + 1) = ((a + 1 : Nat) : Int) := by rw [IntWalk.i64_in _ (by omega)]; rfl
  go_enter Try.func109, Try.ntmps109
  go_wp2_with fail
  go_loopw [8] (fun s8 wr => ∃ (i : Nat), s8 = .int .i64 (i : Int) ∧ a + 1 ≤ i ∧ (i ≤ b ∨ (m = 0 ∧ i = a + 1)) ∧ Row base g cap wr (pre ++ ((insR (seg.take (i - a))).reverse ++ (seg.drop (i - a) ++ post))) ∧ Keeps (fun k => k ≠ g) w wr)
    (fun s8 _ => (b + 1) - (intOf s8).toNat)
  case atStart =>
    refine ⟨a + 1, rfl, Nat.le_refl _, by omega, ?_, Keeps.refl _ _⟩
    have h1 : pre ++ seg ++ post = pre ++ ((insR (seg.take 1)).reverse ++ (seg.drop 1 ++ post)) := by
      cases seg with
      | nil => simp [insR]
      | cons x l => simp [insR, bubR]
    rw [show a + 1 - a = 1 by omega, ← h1]
    exact H.out
  case round =>
    obtain ⟨i, rfl, hi1, him, hrow, hkeep⟩ := hrel
    obtain ⟨k, hk⟩ : ∃ k, i - a = k := ⟨_, rfl⟩
    rw [hk] at hrow
    by_cases hlt : i < b
    · have hsd : seg.drop k = seg[k]'(by rw [Hm.out]; omega) :: seg.drop (k + 1) := List.drop_eq_getElem_cons (by rw [Hm.out]; omega)
      have hst : seg.take (k + 1) = seg.take k ++ [seg[k]'(by rw [Hm.out]; omega)] := by rw [List.take_succ_eq_append_getElem (by rw [Hm.out]; omega)]
      obtain ⟨x, hx⟩ : ∃ x, seg[k]'(by rw [Hm.out]; omega) = x := ⟨_, rfl⟩
      rw [hx] at hsd hst
      rw [hsd] at hrow
      have hR : (insR (seg.take k)).length = k := insR_len k _ (by rw [List.length_take, Hm.out]; omega)
      have HR : Hid (insR (seg.take (k + 1)) = bubR x (insR (seg.take k))) := Lib.hid (by rw [hst, insR_snoc])
      obtain ⟨R, hRR⟩ : ∃ R, insR (seg.take k) = R := ⟨_, rfl⟩
      rw [hRR] at hrow hR HR
      have Hrow := Lib.hid hrow
      have Hkeep := Lib.hid hkeep
      have HRl := Lib.hid hR
      clear hx hsd hst hrow hkeep hRR hR
      have q2 : IntKind.i64.wrap ((i : Int) + 1) = ((i + 1 : Nat) : Int) := by rw [IntWalk.i64_in _ (by omega)]; rfl
      have fin : ∀ (W : World), Row base g cap W (pre ++ ((bubR x R).reverse ++ (seg.drop (k + 1) ++ post))) → Row base g cap W (pre ++ ((insR (seg.take (i + 1 - a))).reverse ++ (seg.drop (i + 1 - a) ++ post))) := fun W h => by
        rw [show i + 1 - a = k + 1 by omega, HR.out]; exact h
      have Fin := Lib.hid fin; clear fin
      go_wp2_with fail
      go_loopw [9] (fun s9 wr => ∃ (j : Nat) (r mv : List El), s9 = .int .i64 (j : Int) ∧ j = a + r.length ∧ r.length ≤ k ∧ Row base g cap wr (pre ++ ((r.reverse ++ x :: mv) ++ (seg.drop (k + 1) ++ post))) ∧ bubR x R = mv.reverse ++ bubR x r ∧ Keeps (fun k => k ≠ g) w wr)
        (fun s9 _ => (intOf s9).toNat)
      case atStart => exact ⟨i, R, [], rfl, by rw [HRl.out]; omega, by rw [HRl.out]; exact Nat.le_refl _, by simpa using Hrow.out, by simp, Hkeep.out⟩
      case round =>
        obtain ⟨j, r, mv, rfl, hj, hr, hrow, hbub, hkeep⟩ := hrel
        have Hbub := Lib.hid hbub
        clear hbub Hrow Hkeep
        cases r with
        | nil =>
          have Hrow := Lib.hid hrow
          have Hkeep := Lib.hid hkeep
          clear hrow hkeep
          obtain rfl : j = a := by simpa using hj
          clear hj hr
          have hd2 : decide ((j : Int) < (j : Int)) = false := by simp
          go_wp2_with fail
          refine wp_region_still hmx (by decide +kernel) ?_
          iterate 17 still_step
          refine wpStill_nil ?_
          go_wp2
          go_roundw
          case rel => exact ⟨i + 1, by simp, by omega, by omega, Fin.out _ (by rw [Hbub.out]; simpa [bubR] using Hrow.out.drew), Hkeep.out.drew⟩
          case measure => simp [intOf]; omega
        | cons y r' =>
          rw [show pre ++ (((y :: r').reverse ++ x :: mv) ++ (seg.drop (k + 1) ++ post)) = (pre ++ r'.reverse) ++ y :: x :: (mv ++ (seg.drop (k + 1) ++ post)) by simp] at hrow
          obtain ⟨p, hp⟩ : ∃ p, (pre ++ r'.reverse).length = p := ⟨_, rfl⟩
          have hjp : j = p + 1 := by rw [← hp, hj]; simp [Ha.out]; omega
          have hap : a ≤ p := by rw [← hp]; simp [Ha.out]
          obtain ⟨A, hA⟩ : ∃ A, pre ++ r'.reverse = A := ⟨_, rfl⟩
          obtain ⟨B, hB⟩ : ∃ B, mv ++ (seg.drop (k + 1) ++ post) = B := ⟨_, rfl⟩
          rw [hA, hB] at hrow
          rw [hA] at hp
          have hown := hrow.own
          have hl : (A ++ y :: x :: B).length = N := by
            have h4 := congrArg List.length Hbub.out
            rw [bubR_len, HRl.out] at h4
            rw [← hA, ← hB]
            have h5 := Hm.out
            have h6 := Ha.out
            simp only [List.length_append, List.length_cons, List.length_reverse, List.length_drop, bubR_len] at h4 ⊢
            omega
          rw [hl] at hown
          have hokx := hrow.ok x (by simp)
          have hoky := hrow.ok y (by simp)
          have c1 := hown.cellAt (p * 2) (by rw [← hl, ← hp]; simp <;> omega)
          have c2 := hown.cellAt (p * 2 + 1) (by rw [← hl, ← hp]; simp <;> omega)
          have c3 := hown.cellAt ((p + 1) * 2) (by rw [← hl, ← hp]; simp <;> omega)
          have c4 := hown.cellAt ((p + 1) * 2 + 1) (by rw [← hl, ← hp]; simp <;> omega)
          have hat1 := rowOf_at A (x :: B) y
          have hat2 := rowOf_at (A ++ [y]) B x
          simp only [List.append_assoc, List.singleton_append, List.length_append, List.length_singleton] at hat2
          rw [hp] at hat1 hat2
          rw [hat1.1] at c1
          rw [hat1.2, El.pv] at c2
          rw [hat2.1] at c3
          rw [hat2.2, El.pv] at c4
          rw [← hjp] at c3 c4
          have hjN : j < N := by rw [← hl, hjp, ← hp]; simp <;> omega
          have hpN : p < N := by omega
          have hd2 : a < j := by omega
          have q3 : IntKind.i64.wrap ((j : Int) - 1) = (p : Int) := by rw [IntWalk.i64_in _ (by omega)]; omega
          have Hjp := Lib.hid hjp
          have Hpr : Hid (p = a + r'.length ∧ r'.length ≤ k) := Lib.hid ⟨by rw [← hp, ← hA]; simp [Ha.out], by simp at hr; omega⟩
          clear hat1 hat2 hj hr hjp
          have Hrow := Lib.hid hrow
          have Hkeep := Lib.hid hkeep
          have Hown := Lib.hid hown
          have HA := Lib.hid hA
          have HB := Lib.hid hB
          have Hp := Lib.hid hp
          have Hl := Lib.hid hl
          have HC := Lib.hid (cmpEl_any g x y wr.drew ⟨hokx.key, hokx.off, hokx.len⟩ ⟨hoky.key, hoky.off, hoky.len⟩)
          clear hrow hkeep hown hA hB hp hl hokx hoky him hk hap hb hN2
          go_wp2_with fail
          refine wp_region_tail 14 hmx (by decide +kernel) ?_
          simp only [List.take_succ_cons, List.take_zero, List.drop_succ_cons, List.drop_zero]
          iterate 14 still_step
          refine wpStill_nil ?_
          go_wp2_with fail
          refine HC.out.mono ?_
          rintro e w2 ⟨rfl, hx2⟩
          have hx3 : Ext wr w2 := ((Ext.refl wr).drew).trans hx2
          have Hrow2 : Hid (Row base g cap w2 (A ++ y :: x :: B)) := Lib.hid (Hrow.out.ext hx3)
          have Hkeep2 : Hid (Keeps (fun k => k ≠ g) w w2) := Lib.hid (Hkeep.out.trans (hx3.keeps.mono fun _ _ _ => trivial))
          replace c1 := hx3.keeps.cell c1 trivial
          replace c2 := hx3.keeps.cell c2 trivial
          replace c3 := hx3.keeps.cell c3 trivial
          replace c4 := hx3.keeps.cell c4 trivial
          obtain ⟨c, hc⟩ : ∃ c, cmpL x.key y.key = c := ⟨_, rfl⟩
          have Hc := Lib.hid hc
          rw [hc]
          clear hc hx2 hx3 HC Hrow Hkeep Hown
          by_cases hc0 : c < 0
          · have hlt' : ltE x y = true := by rw [ltE, Hc.out]; exact decide_eq_true hc0
            have Hlt := Lib.hid hlt'; clear hlt'
            have hown2 := Hrow2.out.own
            rw [Hl.out] at hown2
            have f1 := hown2.frozenAt (p * 2)
            have f2 := hown2.frozenAt (p * 2 + 1)
            have f3 := hown2.frozenAt (j * 2)
            have f4 := hown2.frozenAt (j * 2 + 1)
            clear hown2
            have hne : ¬ j = p := by have := Hjp.out; omega
            have hne' : ¬ p = j := fun h => hne h.symm
            go_wp2_with fail
            go_region_o
            have hsw := Hrow2.out.swap Hp.out Hjp.out
            have Hrow3 := Lib.hid hsw.1
            have Hkeep3 := Lib.hid (Hkeep2.out.trans hsw.2)
            clear hsw
            go_wp2
            go_roundw
            case rel =>
              have hpr := Hpr.out
              refine ⟨p, r', y :: mv, by simp, hpr.1, hpr.2, ?_, ?_, Hkeep3.out.drew⟩
              · have := Hrow3.out.drew
                rw [← HA.out, ← HB.out] at this
                simpa using this
              · rw [Hbub.out, bubR, if_pos Hlt.out]
                simp
            case measure => have := Hjp.out; simp [intOf]; omega
          · have hlt' : ltE x y = false := by rw [ltE, Hc.out]; exact decide_eq_false hc0
            have Hfin : Hid (Row base g cap w2 (pre ++ ((bubR x R).reverse ++ (seg.drop (k + 1) ++ post)))) := Lib.hid (by
              rw [Hbub.out, bubR, hlt']
              have := Hrow2.out
              rw [← HA.out, ← HB.out] at this
              simpa using this)
            clear hlt'
            go_wp2
            go_roundw
            case rel => exact ⟨i + 1, by simp, by omega, by omega, Fin.out _ Hfin.out, Hkeep2.out⟩
            case measure => simp [intOf]; omega
    · have Hrow := Lib.hid hrow
      have Hkeep := Lib.hid hkeep
      clear hrow hkeep
      go_wp2
      go_end0
      refine ⟨⟨_, rfl⟩, ?_, Hkeep.out⟩
      have h1 := Hrow.out
      rw [List.take_of_length_le (by rw [Hm.out]; omega), List.drop_of_length_le (by rw [Hm.out]; omega)] at h1
      simpa using h1

end Go.Proofs.Yteoelhhkdfmaiaa

/- What the library's stable sort does with a row of at most 19 elements, and its compacting with a row in which no two neighbours are one. Conditions: these. -/
namespace Go.Proofs.Yteoelhhkdfmaiaa
open Go Go.RowKit Go.Shelf
attribute [local irreducible] wpStill

set_option maxRecDepth 100000 in
set_option maxHeartbeats 4000000 in
theorem stable_small (base g cap : Nat) (l : List El) (w : World) (h : Row base g cap w l) (hlen : l.length ≤ 19) :
    Calls Try.prog 86 #[.slice (some ⟨g, 0, none⟩) l.length cap, .int .i64 (l.length : Int), .func (.func 50) #[] #[]] w
      fun e w' => (∃ u, e = .returned u) ∧ Row base g cap w' (insR l).reverse ∧ Keeps (fun k => k ≠ g) w w' := by
  have HI := Lib.hid (insertion_any base g cap [] l [] w (by simpa using h) (by simp; omega))
  simp only [List.nil_append, List.append_nil, List.length_nil, Nat.zero_add] at HI
  obtain ⟨n, hn⟩ : ∃ n, l.length = n := ⟨_, rfl⟩
  rw [hn] at hlen HI ⊢
  have h1 : decide ((20 : Int) ≤ (n : Int)) = false := by simp; omega
  have h2 : decide ((20 : Int) < (n : Int)) = false := by simp; omega
  clear h hn
  go_enter Try.func86, Try.ntmps86
  go_wp2_with fail
  go_loopw [7, 8] (fun s7 s8 wr => s7 = .int .i64 0 ∧ s8 = .int .i64 20 ∧ wr = w) (fun _ _ _ => 0)
  case atStart => exact ⟨rfl, rfl, rfl⟩
  case round =>
    obtain ⟨rfl, rfl, rfl⟩ := hrel
    go_wp2_with fail
    refine HI.out.mono ?_
    rintro e w2 ⟨⟨u, rfl⟩, hrow, hk⟩
    have Hrow := Lib.hid hrow
    have Hk := Lib.hid hk
    clear hrow hk HI
    go_wp2_with fail
    go_loopw [6] (fun s6 wr' => s6 = .int .i64 20 ∧ wr' = w2) (fun _ _ => 0)
    case atStart => exact ⟨rfl, rfl⟩
    case round =>
      obtain ⟨rfl, rfl⟩ := hrel
      go_wp2
      go_end0
      exact ⟨⟨_, rfl⟩, Hrow.out, Hk.out⟩

set_option maxRecDepth 100000 in
set_option maxHeartbeats 4000000 in
theorem sorted_small (base g cap : Nat) (l : List El) (w : World) (h : Row base g cap w l) (hlen : l.length ≤ 19) :
    Calls Try.prog 49 #[.slice (some ⟨g, 0, none⟩) l.length cap, .func (.func 50) #[] #[]] w
      fun e w' => (∃ u, e = .returned u) ∧ Row base g cap w' (insR l).reverse ∧ Keeps (fun k => k ≠ g) w w' := by
  have HI := Lib.hid (stable_small base g cap l w h hlen)
  clear h
  go_enter Try.func49, Try.ntmps49
  go_wp2_with fail
  refine HI.out.mono ?_
  rintro e w2 ⟨⟨u, rfl⟩, hrow, hk⟩
  have Hrow := Lib.hid hrow
  have Hk := Lib.hid hk
  clear hrow hk HI
  go_wp2
  go_end0
  exact ⟨⟨_, rfl⟩, Hrow.out, Hk.out⟩

/-- No two neighbours have one key. -/
def NoTwin (l : List El) : Prop := ∀ (A B : List El) (x y : El), l = A ++ x :: y :: B → y.key ≠ x.key

set_option maxRecDepth 100000 in
set_option maxHeartbeats 8000000 in
theorem compact_none (base g cap : Nat) (l : List El) (w : World) (h : Row base g cap w l) (hno : NoTwin l) (hlen : l.length ≤ 4294967296) :
    Calls Try.prog 52 #[.slice (some ⟨g, 0, none⟩) l.length cap, .func (.func 53) #[] #[]] w
      fun e w' => e = .returned (.slice (some ⟨g, 0, none⟩) l.length cap) ∧ Row base g cap w' l ∧ Ext w w' := by
  have hmx : Try.prog.follows .mixedOrders = true := by kernel_rfl
  have H := Lib.hid h; clear h
  have Hno := Lib.hid hno; clear hno
  obtain ⟨n, hn⟩ : ∃ n, l.length = n := ⟨_, rfl⟩
  rw [hn] at hlen ⊢
  have Hn := Lib.hid hn; clear hn
  by_cases h2 : n < 2
  · have h2' : decide ((n : Int) < 2) = true := by simp; omega
    go_enter Try.func52, Try.ntmps52
    go_wp2
    go_ret
    exact ⟨rfl, H.out, Ext.refl _⟩
  · have h2' : decide ((n : Int) < 2) = false := by simp; omega
    go_enter Try.func52, Try.ntmps52
    go_wp2_with fail
    go_loopw [5] (fun s5 wr => ∃ i : Nat, s5 = .int .i64 (i : Int) ∧ 1 ≤ i ∧ i ≤ n ∧ Row base g cap wr l ∧ Ext w wr) (fun s5 _ => n - (intOf s5).toNat)
    case atStart => exact ⟨1, rfl, Nat.le_refl _, by omega, H.out, Ext.refl _⟩
    case round =>
      obtain ⟨i, rfl, hi1, hin, hrow, hx⟩ := hrel
      have HX := Lib.hid hx; clear hx
      by_cases hlt : i < n
      · obtain ⟨p, hp⟩ : ∃ p, i = p + 1 := ⟨i - 1, by omega⟩
        obtain ⟨A, x, y, B, hl⟩ : ∃ A x y B, l = A ++ x :: y :: B ∧ A.length = p := by
          have hn' := Hn.out
          refine ⟨l.take p, l[p]'(by omega), l[p + 1]'(by omega), l.drop (p + 2), ?_, by rw [List.length_take]; omega⟩
          rw [← List.drop_eq_getElem_cons, ← List.drop_eq_getElem_cons, List.take_append_drop]
        have hkey := Hno.out A B x y hl.1
        have hown := hrow.own
        rw [Hn.out] at hown
        have hokx := hrow.ok x (by rw [hl.1]; simp)
        have hoky := hrow.ok y (by rw [hl.1]; simp)
        have c1 := hown.cellAt (p * 2) (by omega)
        have c2 := hown.cellAt (p * 2 + 1) (by omega)
        have c3 := hown.cellAt ((p + 1) * 2) (by omega)
        have c4 := hown.cellAt ((p + 1) * 2 + 1) (by omega)
        have hat1 := rowOf_at A (y :: B) x
        have hat2 := rowOf_at (A ++ [x]) B y
        simp only [List.append_assoc, List.singleton_append, List.length_append, List.length_singleton] at hat2
        rw [← hl.1, hl.2] at hat1 hat2
        rw [hat1.1] at c1
        rw [hat1.2, El.pv] at c2
        rw [hat2.1] at c3
        rw [hat2.2, El.pv] at c4
        rw [← hp] at c3 c4
        have hpn : p < n := by omega
        have q1 : IntKind.i64.wrap ((i : Int) - 1) = (p : Int) := by rw [IntWalk.i64_in _ (by omega)]; omega
        have q2 : IntKind.i64.wrap ((i : Int) + 1) = ((i + 1 : Nat) : Int) := by rw [IntWalk.i64_in _ (by omega)]; rfl
        have HC := Lib.hid (eqEl_any g y x wr.drew ⟨hoky.key, hoky.off, hoky.len⟩ ⟨hokx.key, hokx.off, hokx.len⟩)
        rw [decide_eq_false hkey] at HC
        have Hrow := Lib.hid hrow
        clear hkey hown hokx hoky hat1 hat2 hl hrow hp
        go_wp2_with fail
        refine wp_region_tail 10 hmx (by decide +kernel) ?_
        simp only [List.take_succ_cons, List.take_zero, List.drop_succ_cons, List.drop_zero]
        iterate 10 still_step
        refine wpStill_nil ?_
        go_wp2_with fail
        refine HC.out.mono ?_
        rintro e w2 ⟨rfl, hx2⟩
        have hx3 : Ext wr w2 := ((Ext.refl wr).drew).trans hx2
        have Hrow2 := Lib.hid (Hrow.out.ext hx3)
        have HX2 := Lib.hid (HX.out.trans hx3)
        clear hx2 hx3 HC
        go_wp2
        go_roundw
        case rel => exact ⟨i + 1, by simp, by omega, by omega, Hrow2.out, HX2.out⟩
        case measure => simp [intOf]; omega
      · have hd : decide ((i : Int) < (n : Int)) = false := by simp; omega
        have Hrow := Lib.hid hrow; clear hrow
        go_wp2
        go_ret
        exact ⟨rfl, Hrow.out, HX.out⟩

end Go.Proofs.Yteoelhhkdfmaiaa

/- What walk's Sort does with at most 19 names of which no two are one. Conditions: these. -/
namespace Go.Proofs.Yteoelhhkdfmaiaa
open Go Go.RowKit Go.Shelf

theorem infoPlaced : (Try.prog.info? 62).map (fun i => (i.zero, i.size, i.bytes)) = some (some (.agg #[.string ⟨#[]⟩, .slice none 0 0]), 2, 40) := by kernel_rfl

theorem Keeps.ownsRow2 {K : Nat → Prop} {w w' : World} (h : Keeps K w w') {base size n : Nat} {e : TypeId} {v : Value} {xs : List Value} (hr : w.ownsRow base e size v n xs) (hp : ∀ k, v.ownBlock = some k → K k) : w'.ownsRow base e size v n xs := by
  refine ⟨hr.1, ?_⟩
  rcases hr.2 with hn | ⟨g, cap, cur, rfl, hb, hgg, rest⟩
  · exact .inl hn
  · exact .inr ⟨g, cap, cur, rfl, hb, h.heap hgg (hp g rfl), rest⟩
theorem rows_apart {w : World} {b1 b2 s1 s2 n1 n2 : Nat} {e1 e2 : TypeId} {v1 v2 : Value} {xs1 xs2 : List Value} (h1 : w.ownsRow b1 e1 s1 v1 n1 xs1) (h2 : w.ownsRow b2 e2 s2 v2 n2 xs2) (he : e1 ≠ e2) :
    ∀ k, v1.ownBlock = some k → v2.ownBlock ≠ some k := by
  intro k hk1 hk2
  rcases h1.2 with ⟨rfl, _⟩ | ⟨g1, _, _, rfl, _, hg1, _⟩
  · cases hk1
  · rcases h2.2 with ⟨rfl, _⟩ | ⟨g2, _, _, rfl, _, hg2, _⟩
    · cases hk2
    · simp only [Value.ownBlock, Option.some.injEq] at hk1 hk2
      subst hk1 hk2
      rw [hg1] at hg2
      injection hg2 with hg2
      injection hg2 with _ h3
      exact he h3
theorem grown_keeps {w w' : World} {row : Option Nat} (h : w.grownBy w' row) : Keeps (fun k => row ≠ some k) w w' := (Keeps.refl _ w).grown h fun _ e h => h e

def ltN (x y : ByteArray) : Bool := decide (cmpL (placeB x) (placeB y) < 0)
def bubN (x : ByteArray) : List ByteArray → List ByteArray
  | [] => [x]
  | y :: r => if ltN x y = true then y :: bubN x r else x :: y :: r
def insN (l : List ByteArray) : List ByteArray := l.foldl (fun r x => bubN x r) []
/-- The names in their order. -/
def sortN (l : List ByteArray) : List ByteArray := (insN (l.filter isName)).reverse

def Keyed (l : List El) : Prop := ∀ e ∈ l, e.key = placeB e.name
theorem keyed_nil : Keyed [] := fun _ h => by cases h
theorem none_of {p : El → Prop} : ∀ e ∈ ([] : List El), p e := fun _ h => by cases h
theorem bubR_names (x : El) (hx : x.key = placeB x.name) : ∀ r : List El, Keyed r → (bubR x r).map El.name = bubN x.name (r.map El.name)
  | [], _ => rfl
  | y :: r, h => by
    have hy := h y (by simp)
    have he : ltE x y = ltN x.name y.name := by rw [ltE, ltN, hx, hy]
    rw [bubR, List.map_cons, bubN, he]
    split
    · rw [List.map_cons, bubR_names x hx r fun e he => h e (by simp [he])]
    · rfl
theorem insR_names : ∀ (n : Nat) (l : List El), l.length = n → Keyed l → (insR l).map El.name = insN (l.map El.name) ∧ Keyed (insR l)
  | 0, l, h, _ => by rw [List.eq_nil_of_length_eq_zero h]; exact ⟨rfl, fun _ h => by cases h⟩
  | n + 1, l, h, hk => by
    obtain ⟨a, x, rfl⟩ : ∃ a x, l = a ++ [x] := by
      rcases List.eq_nil_or_concat l with rfl | ⟨a, x, rfl⟩
      · simp at h
      · exact ⟨a, x, by simp⟩
    obtain ⟨h1, h2⟩ := insR_names n a (by simpa using h) fun e he => hk e (by simp [he])
    have hx := hk x (by simp)
    rw [insR_snoc, bubR_names x hx _ h2, h1]
    refine ⟨?_, fun e he => ?_⟩
    · rw [List.map_append, insN, insN, List.foldl_append]; rfl
    · rcases bubR_mem x _ e he with rfl | he
      · exact hx
      · exact h2 e he

theorem rowOf_snoc (l : List El) (e : El) : rowOf (l ++ [e]) = rowOf l ++ [.string e.name, e.pv] := by rw [rowOf_append]; rfl

set_option maxRecDepth 100000 in
set_option maxHeartbeats 8000000 in
theorem Sort_small (sv : Value) (ls : List ByteArray) (w : World) (hsv : Strs w sv ls) (hlen : ls.length ≤ 19) (hpos : 0 < ls.length) (hll : ∀ x ∈ ls, isName x = true)
    (hno : ∀ (A B : List ByteArray) (x y : ByteArray), sortN ls = A ++ x :: y :: B → placeB y ≠ placeB x) :
    Calls Try.prog 11 #[sv] w fun e w' => ∃ v, e = .returned v ∧ Strs w' v (sortN ls) ∧ Ext w w' := by
  obtain ⟨i0, hi, hz0, hz1, hz2⟩ := info_parts infoPlaced
  obtain ⟨i1, hj, hy0, hy1, hy2⟩ := info_parts infoString
  obtain ⟨ao, cap, rfl, hsv2⟩ := hsv.open
  have Hsv := Lib.hid hsv2; clear hsv2 hsv
  have Hll := Lib.hid hll; clear hll
  have Hno := Lib.hid hno; clear hno
  go_enter Try.func11, Try.ntmps11
  go_wp2_with fail
  go_loopw [3, 11] (fun s3 s11 wr => ∃ (k : Nat) (els : List El), s11 = .int .i64 (k : Int) ∧ k ≤ ls.length ∧ els.length = k ∧ els.map El.name = ls.take k ∧ Keyed els ∧
      wr.ownsRow w.heap.size 62 2 s3 els.length (rowOf els) ∧ (∀ e ∈ els, wr.ownsRow w.heap.size 9 1 e.pv e.key.length (e.key.map Value.string) ∧ e.key.length ≤ 255) ∧ Ext w wr)
    (fun _ s11 _ => ls.length - (intOf s11).toNat)
  case atStart => exact ⟨0, [], rfl, Nat.zero_le _, rfl, rfl, keyed_nil, World.ownsRow_nil _ _ _ _, none_of, Ext.refl _⟩
  case round =>
    obtain ⟨k, els, rfl, hk, hel, hnm, hkey, hown, hkeys, hx⟩ := hrel
    have HX := Lib.hid hx; clear hx
    obtain ⟨ao3, cap3, rfl⟩ := ownsRow_slice hown
    by_cases hlt : k < ls.length
    · obtain ⟨b, off, rfl, hc⟩ := Hsv.out k hlt
      replace hc := HX.out.keeps.cell hc trivial
      have hts := take_snoc ls k ⟨#[]⟩ hlt
      have hmem : (ls[k]?.getD ⟨#[]⟩) ∈ ls := by rw [List.getElem?_eq_getElem hlt]; exact List.getElem_mem hlt
      obtain ⟨x, hx⟩ : ∃ x, ls[k]?.getD ⟨#[]⟩ = x := ⟨_, rfl⟩
      rw [hx] at hc hts hmem
      clear hx
      have hname := Hll.out x hmem
      have hx255 := name_le hname
      have CK := Lib.hid fun W => Check_any x W (by unfold maxLen; omega)
      rw [chk_name hname] at CK
      have PL := Lib.hid fun W => place_any x W hx255
      have Hts := Lib.hid hts
      have Hown := Lib.hid hown
      have Hkeys := Lib.hid hkeys
      have Hnm := Lib.hid hnm
      have Hkey := Lib.hid hkey
      have Hel := Lib.hid hel
      have hpl := placeB_len x
      clear hts hmem hname hown hkeys hnm hkey hel
      go_wp2_with (first
        | ((with_reducible refine (CK.out _).mono ?_); rintro e w' ⟨rfl, hx⟩; have HX1 := Lib.hid (Ext.trans (Ext.refl _) hx); clear hx))
      refine (PL.out _).mono ?_
      rintro e w3 ⟨v, rfl, hown2, hx⟩
      obtain ⟨aov, capv, rfl⟩ := ownsRow_slice hown2
      have Hown2 := Lib.hid hown2
      have HX2 := Lib.hid (HX1.out.trans hx)
      have hbase := HX.out.size
      have hbase1 := HX1.out.size
      clear hx hown2
      have hk3 := HX2.out.keeps
      have hown3 := hk3.ownsRow2 Hown.out (fun _ _ => trivial)
      have HX3 := Lib.hid (HX.out.trans HX2.out)
      have hsz : w.heap.size ≤ w3.heap.size := HX3.out.size
      have Hown3 := Lib.hid (hown3.alloc (.cells #[.string x, .slice aov (placeB x).length capv] 62))
      have hsz3 : w.heap.size ≤ (w3.alloc (.cells #[.string x, .slice aov (placeB x).length capv] 62)).heap.size := by simp; omega
      obtain ⟨ne, hne⟩ : ∃ ne, els.length = ne := ⟨_, rfl⟩
      have hne2 : ne ≤ 19 := by have := Hel.out; omega
      rw [hne] at Hown3 ⊢
      have Hne := Lib.hid hne
      obtain ⟨np, hnp⟩ : ∃ np, (placeB x).length = np := ⟨_, rfl⟩
      rw [hnp] at Hown3 hsz3 ⊢
      have Hnp := Lib.hid hnp
      clear hown3 hk3 hne hnp
      go_wp2_with (at_builtin; refine wpList_append_own _ rfl _ _ 60 rfl w.heap.size 62 i0 (.agg #[.string ⟨#[]⟩, .slice none 0 0]) 2 40 Try.underlying60 hi hz0 hz1 hz2 rfl (by decide) _ _ _ rfl Hown3.out ⟨w3.heap.size, 0, none⟩ 1 1 [.string x, .slice aov np capv] rfl rfl ?c1 ?c2 ?c3 ?c4 ?c5 ?_)
      case c1 =>
        intro j u hj
        match j, hj with
        | 0, hj => simp at hj; subst hj; simp [Addr.add]
        | 1, hj => simp at hj; subst hj; simp [Addr.add]
      case c2 => intro u hu; simp at hu; rcases hu with rfl | rfl <;> rfl
      case c3 => unfold maxLen; omega
      case c4 => omega
      case c5 => exact hsz3
      intro v' w4 hown' hgrow _
      obtain ⟨ao', cap', hv1⟩ := ownsRow_slice hown'
      subst hv1
      have hrow := Hown3.out.lt
      have hk4 := grown_keeps hgrow
      have HX4 : Hid (Ext w w4) := Lib.hid ((((HX3.out.keeps.mono (K' := fun k => k < w.heap.size) fun _ _ _ => trivial).alloc _).grown hgrow (fun k e h => by have := (hrow k e).1; omega)).ext fun _ h => h)
      have keep : ∀ (vk : Value) (n : Nat) (zs : List Value), w3.ownsRow w.heap.size 9 1 vk n zs → w4.ownsRow w.heap.size 9 1 vk n zs := fun vk n zs h => by
        have h1 := h.alloc (.cells #[.string x, .slice aov np capv] 62)
        exact hk4.ownsRow2 h1 (rows_apart h1 Hown3.out (by decide))
      have hnew := ownsRow_mono Hown2.out (show w.heap.size ≤ w'.heap.size by omega)
      rw [Hnp.out] at hnew
      have hnew4 := keep _ _ _ hnew
      have hels : ∀ e ∈ els ++ [(⟨x, placeB x, aov, capv⟩ : El)], w4.ownsRow w.heap.size 9 1 e.pv e.key.length (e.key.map Value.string) ∧ e.key.length ≤ 255 := by
        intro e he
        rcases List.mem_append.1 he with he | he
        · obtain ⟨h1, h2⟩ := Hkeys.out e he
          exact ⟨keep _ _ _ (HX2.out.keeps.ownsRow2 h1 fun _ _ => trivial), h2⟩
        · obtain rfl : e = ⟨x, placeB x, aov, capv⟩ := by simpa using he
          refine ⟨?_, by show (placeB x).length ≤ 255; omega⟩
          show w4.ownsRow w.heap.size 9 1 (.slice aov (placeB x).length capv) (placeB x).length ((placeB x).map Value.string)
          rw [Hnp.out]
          exact hnew4
      have Hels := Lib.hid hels
      have Hown' := Lib.hid hown'
      clear hels hnew4 hnew keep hk4 hrow hown' hgrow hsz3 hsz
      go_wp2
      go_roundw
      case rel =>
        refine ⟨k + 1, els ++ [⟨x, placeB x, aov, capv⟩], by simp, by omega, by simp [Hel.out], by rw [List.map_append, Hnm.out, Hts.out]; rfl, ?_, ?_, Hels.out, HX4.out⟩
        · intro e he
          rcases List.mem_append.1 he with he | he
          · exact Hkey.out e he
          · obtain rfl : e = ⟨x, placeB x, aov, capv⟩ := by simpa using he
            rfl
        · rw [rowOf_snoc, El.pv, List.length_append, Hne.out, List.length_singleton]
          show w4.ownsRow w.heap.size 62 2 (.slice ao' (ne + 1) cap') (ne + 1) (rowOf els ++ [.string x, .slice aov (placeB x).length capv])
          rw [Hnp.out]
          exact Hown'.out
      case measure => simp [intOf]; omega
    · obtain rfl : k = ls.length := by omega
      rw [List.take_length] at hnm
      obtain ⟨g, rfl⟩ : ∃ g, ao3 = some ⟨g, 0, none⟩ := by
        rcases hown.2 with ⟨h1, _⟩ | ⟨g, _, _, h1, _⟩
        · simp only [Value.slice.injEq] at h1; omega
        · simp only [Value.slice.injEq] at h1; exact ⟨g, h1.1⟩
      have hg : w.heap.size ≤ g := (hown.lt g rfl).1
      have hrow : Row w.heap.size g cap3 wr els := ⟨hown, fun e he => by
        obtain ⟨h1, h2⟩ := hkeys e he
        refine ⟨strs_of_row h1, fun a ha hag => ?_, h2⟩
        exact rows_apart h1 hown (by decide) g (by rw [El.pv, ha]; show some a.block = some g; rw [hag]) rfl⟩
      have HS := Lib.hid (sorted_small w.heap.size g cap3 els wr hrow (by omega))
      obtain ⟨hn1, hn2⟩ := insR_names _ els rfl hkey
      have hL1 : (insR els).reverse.map El.name = sortN ls := by
        rw [List.map_reverse, hn1, hnm, sortN]
        congr 2
        exact (List.filter_eq_self.2 Hll.out).symm
      have hL2 : (insR els).reverse.length = els.length := by rw [List.length_reverse, insR_len _ els rfl]
      have hL3 : NoTwin (insR els).reverse := by
        intro A B x y h
        have h1 := Hno.out (A.map El.name) (B.map El.name) x.name y.name (by rw [← hL1, h]; simp)
        have hx := hn2 x (by have : x ∈ (insR els).reverse := by rw [h]; simp
                             simpa using this)
        have hy := hn2 y (by have : y ∈ (insR els).reverse := by rw [h]; simp
                             simpa using this)
        rw [hx, hy]
        exact h1
      obtain ⟨L, hL⟩ : ∃ L, (insR els).reverse = L := ⟨_, rfl⟩
      rw [hL] at HS hL1 hL2 hL3
      have HL3 := Lib.hid hL3
      have HL1 := Lib.hid hL1
      obtain ⟨ne, hne⟩ : ∃ ne, els.length = ne := ⟨_, rfl⟩
      rw [hne] at hL2 hel HS ⊢
      rw [← hel] at hlen hpos ⊢
      have HL2 := Lib.hid hL2
      have Hel := Lib.hid hel
      clear hown hkeys hrow hn1 hn2 hL hL1 hL2 hL3 hnm hkey hne hel hlt hk
      go_wp2_with fail
      refine HS.out.mono ?_
      rintro e w2 ⟨⟨u, rfl⟩, hrow2, hk2⟩
      have HCo := Lib.hid (compact_none w.heap.size g cap3 L w2 hrow2 HL3.out (by rw [HL2.out]; omega))
      rw [HL2.out] at HCo
      have hk2' : Keeps (fun k => k < w.heap.size) w w2 := (HX.out.keeps.mono fun _ _ _ => trivial).trans (hk2.mono fun k _ h => by omega)
      have HX2 : Hid (Ext w w2) := Lib.hid (hk2'.ext fun _ h => h)
      clear hrow2 hk2 hk2' HS
      go_wp2_with fail
      refine HCo.out.mono ?_
      rintro e w3 ⟨rfl, hrow3, hx3⟩
      have Hown3 := Lib.hid hrow3.own
      rw [HL2.out] at Hown3
      have HX3 : Hid (Ext w w3) := Lib.hid (HX2.out.trans hx3)
      clear hrow3 hx3 HCo HX2
      go_wp2_with fail
      go_loopw [6, 32] (fun s6 s32 wr => ∃ k : Nat, s32 = .int .i64 (k : Int) ∧ k ≤ ne ∧ wr.ownsRow w.heap.size 9 1 s6 k ((L.take k).map fun e => Value.string e.name) ∧
          wr.ownsRow w.heap.size 62 2 (.slice (some ⟨g, 0, none⟩) ne cap3) ne (rowOf L) ∧ Ext w wr)
        (fun _ s32 _ => ne - (intOf s32).toNat)
      case atStart => exact ⟨0, rfl, Nat.zero_le _, World.ownsRow_nil _ _ _ _, Hown3.out, HX3.out⟩
      case round =>
        obtain ⟨k, rfl, hk, hnames, hown, hx⟩ := hrel
        obtain ⟨ao6, cap6, rfl⟩ := ownsRow_slice hnames
        have HX := Lib.hid hx; clear hx
        by_cases hlt : k < ne
        · obtain ⟨A, e, B, hl, hA, hts⟩ : ∃ A e B, L = A ++ e :: B ∧ A.length = k ∧ L.take (k + 1) = L.take k ++ [e] := by
            have hn' := HL2.out
            refine ⟨L.take k, L[k]'(by omega), L.drop (k + 1), ?_, by rw [List.length_take]; omega, List.take_succ_eq_append_getElem (by omega)⟩
            rw [← List.drop_eq_getElem_cons, List.take_append_drop]
          have c1 := hown.cellAt (k * 2) (by omega)
          have c2 := hown.cellAt (k * 2 + 1) (by omega)
          have hat := rowOf_at A B e
          rw [← hl, hA] at hat
          rw [hat.1] at c1
          rw [hat.2, El.pv] at c2
          have Hts := Lib.hid hts
          have Hnames := Lib.hid hnames
          have Hown := Lib.hid hown
          clear hat hl hA hts hnames hown
          have hrz : w.heap.size ≤ wr.heap.size := HX.out.size
          have Hnm2 := Lib.hid ((Hnames.out.alloc (.cells #[.string e.name, .slice e.ao e.key.length e.cap] 62)).alloc (.cells #[.string e.name] 9))
          have Hown2 := Lib.hid ((Hown.out.alloc (.cells #[.string e.name, .slice e.ao e.key.length e.cap] 62)).alloc (.cells #[.string e.name] 9))
          have hsz2 : w.heap.size ≤ ((wr.alloc (.cells #[.string e.name, .slice e.ao e.key.length e.cap] 62)).alloc (.cells #[.string e.name] 9)).heap.size := by simp; omega
          go_wp2_with (at_builtin; refine wpList_append_own _ rfl _ _ 22 rfl w.heap.size 9 i1 (.string ⟨#[]⟩) 1 16 Try.underlying22 hj hy0 hy1 hy2 rfl (by decide) _ _ _ rfl Hnm2.out ⟨wr.heap.size + 1, 0, none⟩ 1 1 [.string e.name] rfl rfl ?c1 ?c2 ?c3 ?c4 ?c5 ?_)
          case c1 =>
            intro j u hj
            match j, hj with
            | 0, hj => simp at hj; subst hj; simp [Addr.add]
          case c2 => intro u hu; simp at hu; subst hu; rfl
          case c3 => unfold maxLen; omega
          case c4 => omega
          case c5 => exact hsz2
          intro v' w4 hown' hgrow _
          obtain ⟨ao', cap', hv1⟩ := ownsRow_slice hown'
          subst hv1
          have hrow := Hnm2.out.lt
          have hk4 := grown_keeps hgrow
          have HX4 : Hid (Ext w w4) := Lib.hid (((((HX.out.keeps.mono (K' := fun k => k < w.heap.size) fun _ _ _ => trivial).alloc _).alloc _).grown hgrow (fun k e h => by have := (hrow k e).1; omega)).ext fun _ h => h)
          have Hown4 := Lib.hid (hk4.ownsRow2 Hown2.out (rows_apart Hown2.out Hnm2.out (by decide)))
          have Hown' := Lib.hid hown'
          clear hown' hgrow hk4 hrow hsz2 hrz
          go_wp2
          go_roundw
          case rel => exact ⟨k + 1, by simp, by omega, by rw [Hts.out, List.map_append, List.map_take]; exact Hown'.out, Hown4.out, HX4.out⟩
          case measure => simp [intOf]; omega
        · obtain rfl : k = ne := by omega
          have Hnames := Lib.hid hnames
          clear hnames hown
          go_wp2
          go_ret
          refine ⟨_, rfl, ?_, HX.out⟩
          have h1 := Hnames.out
          rw [List.take_of_length_le (by rw [HL2.out]; exact Nat.le_refl _)] at h1
          have h2 : (sortN ls).length = k := by rw [← HL1.out, List.length_map, HL2.out]
          refine strs_of_row (ls := sortN ls) ?_ (base := w.heap.size)
          rw [h2, ← HL1.out, List.map_map]
          exact h1

end Go.Proofs.Yteoelhhkdfmaiaa

/- What hardtacklaw02.list does: the names up from one, as a slice. Conditions: a string that Go can hold. -/
namespace Go.Proofs.Yteoelhhkdfmaiaa
open Go Go.RowKit Go.Shelf
attribute [local go_sem] Oper.semAt_some wide_fn wide_depth

theorem equalIn_func {P : Program} (d : Nat) (t : TypeId) (f : Fn) (ts vs : Array Value) (w : World) {a b : Array TypeId} {c : Bool} (h : P.underlying t = some (.func a b c)) : (Op.equalIn (d + 1) t (.func f ts vs) .nilFunc).run P w = .ok false w := by
  simp [Op.equalIn, run_underlying h]
theorem eql_func (f : Fn) (ts vs : Array Value) (w : World) : (binOp .eql 86 (.func f ts vs) .nilFunc).run Try.prog w = .ok (.bool false) w := by
  have h := equalIn_func (P := Try.prog) 9999 86 f ts vs w Try.underlying86
  have h2 : (binOp .eql 86 (.func f ts vs) .nilFunc) = (do pure (.bool (← Op.equalIn 10000 86 (.func f ts vs) .nilFunc))) := rfl
  rw [h2, Sem.run_bind, h]
  rfl
theorem upB_len : ∀ (n : Nat) (s : ByteArray), s.size ≤ n → (upB s).length ≤ s.size := by
  intro n
  induction n with
  | zero =>
    intro s h
    cases hn : isName s with
    | false => rw [upB_none hn]; exact Nat.zero_le _
    | true => have := isName_pos hn; omega
  | succ n ih =>
    intro s h
    cases hn : isName s with
    | false => rw [upB_none hn]; exact Nat.zero_le _
    | true =>
      have hs := parentR_size hn
      have := ih (parentR s).1 (by omega)
      rw [upB_cons hn, List.length_cons]
      omega
theorem upB_len255 (s : ByteArray) : (upB s).length ≤ 255 := by
  cases hn : isName s with
  | false => rw [upB_none hn]; exact Nat.zero_le _
  | true => have := upB_len _ s (Nat.le_refl _); have := name_le hn; omega

set_option maxRecDepth 100000 in
set_option maxHeartbeats 8000000 in
theorem list_any (s : ByteArray) (w : World) (hs : s.size ≤ maxLen) :
    Calls Try.prog 42 #[.string s] w fun e w' => ∃ v, e = .returned v ∧ Strs w' v (upB s) ∧ Ext w w' := by
  obtain ⟨i0, hi, hy0, hy1, hy2⟩ := info_parts infoString
  have hlen := upB_len255 s
  refine (callsIn_wide (n := 9)).1 ?_
  refine callsIn_of_wp_marks Try.func42 rfl trivial ?_ rfl
  simp only [Try.ntmps42, List.size_toArray, List.length_cons, List.length_nil, Nat.reduceAdd, Nat.reduceSub, Array.replicate_succ, Array.replicate_zero, List.push_toArray, List.append_toArray, List.nil_append, List.cons_append]
  gi_wp2_with fail
  obtain ⟨w0, hw0⟩ : ∃ w0, (w.alloc (.cells #[.slice none 0 0] 22)).alloc (.cells #[.slice none 0 0] 22) = w0 := ⟨_, rfl⟩
  have hA0 : Boxed w0 w.heap.size 22 (.slice none 0 0) := by rw [← hw0]; exact (Boxed.new w 22 _).alloc _
  have hB0 : Boxed w0 (w.heap.size + 1) 22 (.slice none 0 0) := by rw [← hw0]; have := Boxed.new (w.alloc (.cells #[.slice none 0 0] 22)) 22 (.slice none 0 0); simpa using this
  have hX0 : Ext w w0 := by rw [← hw0]; exact ((Ext.refl _).alloc _).alloc _
  have hz0 : w0.heap.size = w.heap.size + 2 := by rw [← hw0]; simp
  rw [hw0]
  clear hw0
  refine (callsIn_wide.2 (Up_any s w0)).mono ?_
  rintro e w1 ⟨rfl, rfl⟩
  have hN : Boxed (w0.alloc (.cells #[.string s] 9)) w0.heap.size 9 (.string s) := Boxed.new w0 9 _
  have hA := hA0.alloc (.cells #[.string s] 9)
  have hB := hB0.alloc (.cells #[.string s] 9)
  have hX := hX0.alloc (.cells #[.string s] 9)
  have hz : (w0.alloc (.cells #[.string s] 9)).heap.size = w.heap.size + 3 := by simp [hz0]
  generalize w0.alloc (.cells #[.string s] 9) = w2 at hN hA hB hX hz ⊢
  have hze : w.heap.size + 2 = w0.heap.size := hz0.symm
  obtain ⟨z0, hzz⟩ : ∃ z0, w0.heap.size = z0 := ⟨_, rfl⟩
  rw [hzz] at hN hz0 hze ⊢
  have hqf := eql_func (.func 104) #[] #[.pointer (some ⟨z0, 0, none⟩)] w2
  have Hz0 := Lib.hid hz0
  clear hA0 hB0 hX0 hze hzz hz0
  gi_wp2_with fail
  have hz0 := Hz0.out
  refine wpIn_rangeX rfl wide_room (gf := 104) (lb := #[.pointer (some ⟨z0, 0, none⟩)]) rfl trivial (enters_of Try.func104 (by kernel_rfl) rfl)
    (up1_seq _ _ s hs w2 hN.cell) (Keeps.refl _ _) (fun k h => by subst h; omega) (fun _ => rfl)
    (fun D pre A => ∃ v, Boxed A w.heap.size 22 (.slice none 0 0) ∧ Boxed A (w.heap.size + 1) 22 v ∧ A.ownsRow D 9 1 v pre.length (pre.map Value.string) ∧ Keeps (fun k => k < w.heap.size) w A)
    (fun _ _ _ _ => False)
    (fun D pre A A' h k => by obtain ⟨v, h0, h1, h2, h3⟩ := h; exact ⟨v, k.boxed h0 (by omega), k.boxed h1 (by omega), k.ownsRow h2 (fun _ h => by omega), h3.trans (k.mono fun _ _ h => by omega)⟩)
    (fun _ _ _ _ _ h _ => h)
    (fun D W _ _ h => ⟨_, h.boxed hA (by omega), h.boxed hB (by omega), World.ownsRow_nil _ _ _ _, (hX.keeps.mono fun _ _ _ => trivial).trans (h.mono fun _ _ h => by omega)⟩)
    (fun _ x a' _ => a' = { tmps := #[.string s, undef, .pointer (some ⟨w.heap.size, 0, none⟩), .pointer (some ⟨w.heap.size + 1, 0, none⟩), .func (.func 104) #[] #[.pointer (some ⟨z0, 0, none⟩)], .string x, .string s, .func (.func 104) #[] #[.pointer (some ⟨z0, 0, none⟩)], .func (.func 104) #[] #[.pointer (some ⟨z0, 0, none⟩)], .bool false, .func (.func 104) #[] #[.pointer (some ⟨z0, 0, none⟩)], .string x, undef, undef, undef, undef, undef, undef, undef, undef], defers := [] })
    (fun _ _ _ _ _ h _ => h) ?assign ?body ?done ?stop
  case assign =>
    intro l D x W K _ hK
    clear hz0
    gi_wp2
    exact hK _ _ (Keeps.refl _ _) rfl
  case body =>
    rintro l D pre x rest a' W hx hD hDW ⟨r, hr⟩ ⟨v, hA, hb, hown, hk⟩ rfl
    have hown2 := hown.alloc (.cells #[.string x] 9)
    have hle : pre.length + 1 ≤ 255 := by
      have : (upB s).length = pre.length + (rest.length + 1) := by rw [hx]; simp
      omega
    have hc := hb.cell
    have hf := hb.frozen
    have HA := Lib.hid hA; clear hA
    have Hb := Lib.hid hb; clear hb
    have Hk := Lib.hid hk; clear hk
    have Hx := Lib.hid hx; clear hx
    have Hown := Lib.hid hown; clear hown
    have hDW2 : D ≤ (W.alloc (.cells #[.string x] 9)).heap.size := by simp; omega
    gi_wp2_with (gi_at_builtin; refine wpListIn_append_own _ rfl _ _ 22 rfl D 9 i0 (.string ⟨#[]⟩) 1 16 Try.underlying22 hi hy0 hy1 hy2 rfl (by decide) _ _ _ rfl hown2 ⟨W.heap.size, 0, none⟩ 1 1 [.string x] rfl rfl ?c1 ?c2 ?c3 ?c4 ?c5 ?_)
    case c1 =>
      intro j u hj
      match j, hj with
      | 0, hj => simp at hj; subst hj; simp [Addr.add]
    case c2 => intro u hu; simp at hu; subst hu; rfl
    case c3 => unfold maxLen; omega
    case c4 => omega
    case c5 => exact hDW2
    intro v1 w3 hown' hgrow _
    obtain ⟨ao', cap', hv1⟩ := ownsRow_slice hown'
    subst hv1
    have hrow := hown2.lt
    have hk3 : ∀ K : Nat → Prop, (∀ k, K k → k < D) → Keeps K W w3 := fun K hK => ((Keeps.refl K W).alloc _).grown hgrow (fun k e h => by have := (hrow k e).1; have := hK k h; omega)
    have hb3 := (hk3 (fun k => k < D) (fun _ h => h)).boxed Hb.out (by omega)
    have hA3 := (hk3 (fun k => k < D) (fun _ h => h)).boxed HA.out (by omega)
    have hc3 := hb3.cell
    have hf3 := hb3.frozen
    have hb4 := hb3.set (.slice ao' (pre.length + 1) cap')
    have hc4 := hb4.cell
    have Hb4 := Lib.hid hb4
    have HA3 := Lib.hid hA3
    have Hown' := Lib.hid hown'
    have Hk3 := Lib.hid hk3
    have hl3 : decide ((300 : Int) < (pre.length : Int) + 1) = false := by simp; omega
    clear hb3 hb4 hA3 hown' hgrow hrow hown2 hk3 hc hf hDW2 hr
    gi_wp2
    have hset : ∀ K : Nat → Prop, ¬ K (w.heap.size + 1) → Keeps K w3 (w3.setCell ⟨w.heap.size + 1, 0, none⟩ (Value.slice ao' (pre.length + 1) cap')) := fun K hK => (Keeps.refl K w3).setCell (p := ⟨w.heap.size + 1, 0, none⟩) hK _
    have hr1 : ∀ k, (k = z0 ∨ (w2.heap.size ≤ k ∧ k < D)) → k < D ∧ k ≠ w.heap.size + 1 := fun k h => by omega
    refine ⟨((Hk3.out _ (fun k h => (hr1 k h).1)).trans (hset _ (fun h => (hr1 _ h).2 rfl))), _, HA3.out.other (by omega) _, Hb4.out, ?_, ?_⟩
    · have := (hset (fun k => k ≠ w.heap.size + 1) (fun h => h rfl)).ownsRow Hown'.out (fun k h => by omega)
      simpa using this
    · exact Hk.out.trans ((Hk3.out (fun k => k < w.heap.size) (fun k h => by omega)).trans (hset _ (by omega)))
  case done =>
    rintro D W hD hDW ⟨v, hA, hb, hown, hk⟩ hd
    obtain ⟨ao, cap, rfl⟩ := ownsRow_slice hown
    have hc := hb.cell
    have hcA := hA.cell
    have hfA := hA.frozen
    have HA := Lib.hid hA; clear hA
    have Hb := Lib.hid hb; clear hb
    have Hk := Lib.hid hk; clear hk
    have Hd := Lib.hid hd; clear hd
    have Hown := Lib.hid hown; clear hown
    obtain ⟨n, hn⟩ : ∃ n, (upB s).length = n := ⟨_, rfl⟩
    rw [hn] at hc
    have Hn := Lib.hid hn
    clear hn hlen
    gi_wp2
    have hd2 := ((Keeps.refl (fun k => k = w2.heap.size) W).setCell (p := ⟨w.heap.size, 0, none⟩) (show ¬ (w.heap.size = w2.heap.size) by omega) (.slice ao n cap)).heap Hd.out rfl
    refine ⟨by simp, .inl ⟨_, _, rfl, run_takeDeferred hd2, ?_⟩⟩
    have hA2 := HA.out.set (.slice ao n cap)
    have hp := fun K (h : ¬ K w2.heap.size) => (Keeps.refl K (W.setCell ⟨w.heap.size, 0, none⟩ (.slice ao n cap))).putObj h (.deferred none)
    have hA3 := (hp (fun k => k < w2.heap.size) (by omega)).boxed hA2 (by omega)
    have hk5 : Keeps (fun k => k ≠ w.heap.size ∧ k ≠ w2.heap.size) W ((W.setCell ⟨w.heap.size, 0, none⟩ (.slice ao n cap)).putObj w2.heap.size (.deferred none)) :=
      ((Keeps.refl _ W).setCell (p := ⟨w.heap.size, 0, none⟩) (fun h => h.1 rfl) _).putObj (fun h => h.2 rfl) _
    refine ⟨.slice ao n cap, ?_, _, rfl, ?_, ?_⟩
    · simp [results, Try.f42, go_sem, hA3.cell]
    · have h1 := hk5.ownsRow Hown.out (fun k h => by omega)
      have h2 := strs_of_row h1
      rw [Hn.out] at h2
      exact h2
    · exact (Hk.out.trans (hk5.mono fun k _ h => by omega)).ext fun _ h => h
  case stop =>
    rintro c D pre x rest W _ _ _ h
    exact h.elim

end Go.Proofs.Yteoelhhkdfmaiaa

/- What the library's compacting does with a row of walk's Sort: of neighbours of one key the first is left. Conditions: the row. -/
namespace Go.Proofs.Yteoelhhkdfmaiaa
open Go Go.RowKit Go.Shelf
attribute [local irreducible] wpStill

def cstep (p : List El × Option El) (y : El) : List El × Option El :=
  (match p.2 with | some x => if y.key = x.key then p.1 else p.1 ++ [y] | none => p.1 ++ [y], some y)
def compactP (l : List El) : List El × Option El := l.foldl cstep ([], none)
def compactE (l : List El) : List El := (compactP l).1
theorem compactP_snoc (l : List El) (y : El) : compactP (l ++ [y]) = cstep (compactP l) y := by rw [compactP, List.foldl_append]; rfl
theorem compactE_snoc (A : List El) (x y : El) : compactE (A ++ [x] ++ [y]) = if y.key = x.key then compactE (A ++ [x]) else compactE (A ++ [x]) ++ [y] := by
  have h : (compactP (A ++ [x])).2 = some x := by rw [compactP_snoc]; rfl
  rw [compactE, compactP_snoc, cstep, h]
  rfl
theorem compactE_one (x : El) : compactE [x] = [x] := rfl

theorem prefix_row {w : World} {base g cap size n i : Nat} {e : TypeId} {xs : List Value} (h : w.ownsRow base e size (.slice (some ⟨g, 0, none⟩) n cap) n xs) (hi : i ≤ n) :
    w.ownsRow base e size (.slice (some ⟨g, 0, none⟩) i cap) i (xs.take (i * size)) := by
  have hle : i * size ≤ n * size := Nat.mul_le_mul_right _ hi
  refine ⟨by rw [List.length_take, h.1]; omega, ?_⟩
  rcases h.2 with ⟨h1, _⟩ | ⟨g', cap', cur, h1, hb, hg, hn, hc, hs, ht⟩
  · cases h1
  · simp only [Value.slice.injEq, Option.some.injEq, Addr.mk.injEq, and_true, true_and] at h1
    obtain ⟨rfl, rfl⟩ := h1
    refine .inr ⟨g, cap, cur, rfl, hb, hg, by omega, hc, hs, ?_⟩
    rw [← ht, List.take_take]
    congr 1
    omega
theorem setCells_row {base g cap size n : Nat} {e : TypeId} {xs : List Value} : ∀ (vs : List Value) (o : Nat) (w : World), w.ownsRow base e size (.slice (some ⟨g, 0, none⟩) n cap) n xs → n * size ≤ o →
    (w.setCells g o vs).ownsRow base e size (.slice (some ⟨g, 0, none⟩) n cap) n xs ∧ Keeps (fun k => k ≠ g) w (w.setCells g o vs)
  | [], _, w, h, _ => ⟨h, Keeps.refl _ _⟩
  | v :: vs, o, w, h, ho => by
    have h1 := (h.stored o v).1
    rw [List.set_eq_of_length_le (by rw [h.1]; exact ho)] at h1
    obtain ⟨h2, h3⟩ := setCells_row vs (o + 1) _ h1 (by omega)
    exact ⟨h2, ((Keeps.refl _ w).setCell (p := ⟨g, o, none⟩) (fun h => h rfl) v).trans h3⟩

/-- clear of a slice of elements that are placed: the cells hold zeros. -/
theorem run_clear_placed (w : World) (b o n c : Nat) (hn : 0 < n)
    (hc : ∀ j, j < n * 2 → (w.cell? ⟨b, o + j, none⟩).isSome = true) (hf : ∀ j, j < n * 2 → w.frozen? ⟨b, o + j, none⟩ = false) :
    ∃ vs : List Value, ∀ ty : TypeId, (Builtin.clear_ #[60] ty #[.slice (some ⟨b, o, none⟩) n c]).run Try.prog w = .ok (.tuple #[]) (w.setCells b o vs) := by
  have hz : ∀ w, (zeroValue 62).run Try.prog w = .ok (.agg #[.string ⟨#[]⟩, .slice none 0 0]) w := by
    intro w
    simp [zeroValue, go_sem]
    rfl
  refine ⟨(Builtin.zeroCells #[.string ⟨#[]⟩, .slice none 0 0] n).toList, fun ty => ?_⟩
  have hlen : (Builtin.zeroCells #[Value.string ⟨#[]⟩, .slice none 0 0] n).toList.length = n * 2 := by simp [Builtin.zeroCells]
  have hone : ∀ v ∈ (Builtin.zeroCells #[Value.string ⟨#[]⟩, .slice none 0 0] n).toList, v.oneCell' = true := by
    intro v hv
    simp only [Builtin.zeroCells, Array.toList_map, List.mem_map] at hv
    obtain ⟨i, _, rfl⟩ := hv
    have : i % 2 = 0 ∨ i % 2 = 1 := by omega
    rcases this with h | h <;> simp [h] <;> rfl
  have hst := run_storeCells_cells (P := Try.prog) b o (Builtin.zeroCells #[Value.string ⟨#[]⟩, .slice none 0 0] n).toList 0 w (by rw [hlen]; simpa using hc) (by rw [hlen]; simpa using hf) hone
  simp only [Nat.add_zero] at hst
  obtain ⟨m, rfl⟩ : ∃ m, n = m + 1 := ⟨n - 1, by omega⟩
  have hcells : (Value.agg #[Value.string ⟨#[]⟩, .slice none 0 0]).cells = #[Value.string ⟨#[]⟩, .slice none 0 0] := rfl
  simp [Builtin.clear_, run_underlying Try.underlying60, hz, hcells, hst]

theorem drop_beyond (P M : List El) (a b : El) (t : Nat) (h : P.length + 1 ≤ t) : (P ++ a :: M).drop t = (P ++ b :: M).drop t := by
  have e : t - P.length = (t - P.length - 1) + 1 := by omega
  rw [List.drop_append, List.drop_append, e]
  rfl
theorem Row.put {base g cap : Nat} {w : World} {P M : List El} {z v : El} (h : Row base g cap w (P ++ z :: M)) (hv : OkEl g w v) {c : Nat} (hc : P.length = c) :
    Row base g cap ((w.setCell ⟨g, c * 2, none⟩ (.string v.name)).setCell ⟨g, c * 2 + 1, none⟩ (.slice v.ao v.key.length v.cap)) (P ++ v :: M) ∧
    Keeps (fun k => k ≠ g) w ((w.setCell ⟨g, c * 2, none⟩ (.string v.name)).setCell ⟨g, c * 2 + 1, none⟩ (.slice v.ao v.key.length v.cap)) := by
  subst hc
  have hk : Keeps (fun k => k ≠ g) w ((w.setCell ⟨g, P.length * 2, none⟩ (.string v.name)).setCell ⟨g, P.length * 2 + 1, none⟩ (.slice v.ao v.key.length v.cap)) :=
    ((Keeps.refl _ w).setCell (p := ⟨g, _, none⟩) (fun h => h rfl) _).setCell (p := ⟨g, _, none⟩) (fun h => h rfl) _
  have h1 := ((h.own.stored (P.length * 2) (.string v.name)).1.stored (P.length * 2 + 1) (.slice v.ao v.key.length v.cap)).1
  have h2 := rowOf_set P M z v
  simp only [El.pv] at h2
  rw [h2, show (P ++ z :: M).length = (P ++ v :: M).length by simp] at h1
  refine ⟨⟨h1, fun e he => ?_⟩, hk⟩
  simp only [List.mem_append, List.mem_cons] at he
  rcases he with he | rfl | he
  · exact (h.ok e (by simp [he])).keeps hk
  · exact hv.keeps hk
  · exact (h.ok e (by simp [he])).keeps hk

set_option maxRecDepth 100000 in
set_option maxHeartbeats 8000000 in
theorem compact_any (base g cap : Nat) (l : List El) (w : World) (h : Row base g cap w l) (hlen : l.length ≤ 4294967296) :
    Calls Try.prog 52 #[.slice (some ⟨g, 0, none⟩) l.length cap, .func (.func 53) #[] #[]] w
      fun e w' => e = .returned (.slice (some ⟨g, 0, none⟩) (compactE l).length cap) ∧ Row base g cap w' (compactE l) ∧ Keeps (fun k => k ≠ g) w w' := by
  have hmx : Try.prog.follows .mixedOrders = true := by kernel_rfl
  have H := Lib.hid h; clear h
  obtain ⟨n, hn⟩ : ∃ n, l.length = n := ⟨_, rfl⟩
  rw [hn] at hlen ⊢
  have Hn := Lib.hid hn; clear hn
  have hcap : n ≤ cap := by
    have := H.out.own
    rw [Hn.out] at this
    rcases this.2 with ⟨h1, _⟩ | ⟨g', cap', cur, h1, hb, hg, hn, hc, _⟩
    · cases h1
    · simp only [Value.slice.injEq] at h1; omega
  by_cases h2 : n < 2
  · have hc : compactE l = l := by
      have := Hn.out
      match l, this with
      | [], _ => rfl
      | [x], _ => rfl
      | _ :: _ :: _, h => simp at h; omega
    have Hc := Lib.hid hc; clear hc
    have h2' : decide ((n : Int) < 2) = true := by simp; omega
    rw [Hc.out, Hn.out]
    go_enter Try.func52, Try.ntmps52
    go_wp2
    go_ret
    exact ⟨rfl, H.out, Keeps.refl _ _⟩
  · have h2' : decide ((n : Int) < 2) = false := by simp; omega
    have Hstart : Hid (compactE (l.take 1) = l.take 1) := Lib.hid (by
      have := Hn.out
      match l, this with
      | [], h => simp at h; omega
      | x :: _, _ => rfl)
    go_enter Try.func52, Try.ntmps52
    go_wp2_with fail
    go_loopw [5] (fun s5 wr => ∃ i : Nat, s5 = .int .i64 (i : Int) ∧ 1 ≤ i ∧ i ≤ n ∧ compactE (l.take i) = l.take i ∧ Row base g cap wr l ∧ Ext w wr) (fun s5 _ => n - (intOf s5).toNat)
    case atStart => exact ⟨1, rfl, Nat.le_refl _, by omega, Hstart.out, H.out, Ext.refl _⟩
    case round =>
      obtain ⟨i, rfl, hi1, hin, hce, hrow, hx⟩ := hrel
      have HX := Lib.hid hx; clear hx
      have Hce := Lib.hid hce; clear hce
      by_cases hlt : i < n
      · obtain ⟨p, hp⟩ : ∃ p, i = p + 1 := ⟨i - 1, by omega⟩
        obtain ⟨A, x, y, B, hl, hA, ht1, ht2⟩ : ∃ A x y B, l = A ++ x :: y :: B ∧ A.length = p ∧ l.take i = A ++ [x] ∧ l.take (i + 1) = A ++ [x] ++ [y] := by
          have hn' := Hn.out
          have e1 : l.take i = l.take p ++ [l[p]'(by omega)] := by
            have h := List.take_succ_eq_append_getElem (l := l) (i := p) (by omega)
            rwa [← hp] at h
          have e2 : l.take (i + 1) = l.take i ++ [l[i]'(by omega)] := List.take_succ_eq_append_getElem (by omega)
          have d1 : l.drop p = l[p]'(by omega) :: l.drop i := by
            have h := List.drop_eq_getElem_cons (l := l) (i := p) (by omega)
            rwa [← hp] at h
          have d2 : l.drop i = l[i]'(by omega) :: l.drop (i + 1) := List.drop_eq_getElem_cons (by omega)
          refine ⟨l.take p, l[p]'(by omega), l[i]'(by omega), l.drop (i + 1), ?_, by rw [List.length_take]; omega, e1, by rw [e2, e1]⟩
          rw [← d2, ← d1, List.take_append_drop]
        have hcs := compactE_snoc A x y
        rw [← ht2, ← ht1, Hce.out] at hcs
        have hown := hrow.own
        rw [Hn.out] at hown
        have hokx := hrow.ok x (by rw [hl]; simp)
        have hoky := hrow.ok y (by rw [hl]; simp)
        have c1 := hown.cellAt (p * 2) (by omega)
        have c2 := hown.cellAt (p * 2 + 1) (by omega)
        have c3 := hown.cellAt ((p + 1) * 2) (by omega)
        have c4 := hown.cellAt ((p + 1) * 2 + 1) (by omega)
        have hat1 := rowOf_at A (y :: B) x
        have hat2 := rowOf_at (A ++ [x]) B y
        simp only [List.append_assoc, List.singleton_append, List.length_append, List.length_singleton] at hat2
        rw [← hl, hA] at hat1 hat2
        rw [hat1.1] at c1
        rw [hat1.2, El.pv] at c2
        rw [hat2.1] at c3
        rw [hat2.2, El.pv] at c4
        rw [← hp] at c3 c4
        have hpn : p < n := by omega
        have q1 : IntKind.i64.wrap ((i : Int) - 1) = (p : Int) := by rw [IntWalk.i64_in _ (by omega)]; omega
        have q2 : IntKind.i64.wrap ((i : Int) + 1) = ((i + 1 : Nat) : Int) := by rw [IntWalk.i64_in _ (by omega)]; rfl
        have HC := Lib.hid (eqEl_any g y x wr.drew ⟨hoky.key, hoky.off, hoky.len⟩ ⟨hokx.key, hokx.off, hokx.len⟩)
        obtain ⟨kb, hkb⟩ : ∃ kb, decide (y.key = x.key) = kb := ⟨_, rfl⟩
        rw [hkb] at HC
        have Hkb := Lib.hid hkb; clear hkb
        have Hrow := Lib.hid hrow
        have Hcs := Lib.hid hcs
        have Ht : Hid (l.take (i + 1) = l.take i ++ [y]) := Lib.hid (by rw [ht2, ht1])
        clear hown hokx hoky hat1 hat2 hl hrow hp hcs ht1 ht2
        go_wp2_with fail
        refine wp_region_tail 10 hmx (by decide +kernel) ?_
        simp only [List.take_succ_cons, List.take_zero, List.drop_succ_cons, List.drop_zero]
        iterate 10 still_step
        refine wpStill_nil ?_
        go_wp2_with fail
        refine HC.out.mono ?_
        rintro e w2 ⟨rfl, hx2⟩
        have hx3 : Ext wr w2 := ((Ext.refl wr).drew).trans hx2
        have Hrow2 := Lib.hid (Hrow.out.ext hx3)
        have HX2 := Lib.hid (HX.out.trans hx3)
        clear hx2 hx3 HC
        cases kb with
        | true =>
          have hkey := of_decide_eq_true Hkb.out
          have Hcs' : Hid (compactE (l.take (i + 1)) = l.take i) := Lib.hid (by rw [Hcs.out, if_pos hkey])
          clear hkey Hcs
          clear c1 c2 c3 c4 q1 q2 hA hpn Hrow
          have Hk2 : Hid (Keeps (fun k => k ≠ g) w w2) := Lib.hid (HX2.out.keeps.mono fun _ _ _ => trivial)
          go_wp2_with fail
          obtain ⟨m, hm⟩ : ∃ m, n - i = m := ⟨_, rfl⟩
          obtain ⟨cm, hcm⟩ : ∃ cm, cap - i = cm := ⟨_, rfl⟩
          rw [hm, hcm]
          go_loopw [5, 7] (fun s5 s7 wr => ∃ (c k : Nat) (P M : List El), s5 = .int .i64 (c : Int) ∧ s7 = .int .i64 (k : Int) ∧ 1 ≤ k ∧ k ≤ m ∧ compactE (l.take (i + k)) = P ∧ P.length = c ∧ c + 1 ≤ i + k ∧
              (P ++ M).drop (i + (k - 1)) = l.drop (i + (k - 1)) ∧ Row base g cap wr (P ++ M) ∧ (P ++ M).length = n ∧ Keeps (fun k => k ≠ g) w wr)
            (fun _ s7 _ => m - (intOf s7).toNat)
          case atStart =>
            refine ⟨i, 1, l.take i, l.drop i, rfl, rfl, Nat.le_refl _, by omega, Hcs'.out, by rw [List.length_take, Hn.out]; omega, by omega, by rw [List.take_append_drop], by rw [List.take_append_drop]; exact Hrow2.out, by rw [List.take_append_drop]; exact Hn.out, Hk2.out⟩
          case round =>
            obtain ⟨c, k, P, M, rfl, rfl, hk1, hkm, hP, hc, hck, hdrop, hrow, hlenL, hkeep⟩ := hrel
            have hPM : ∀ e ∈ P ++ M, OkEl g wr e := hrow.ok
            have hownL := hrow.own
            rw [hlenL] at hownL
            by_cases hlt2 : k < m
            · obtain ⟨kk, hkk⟩ : ∃ kk, k = kk + 1 := ⟨k - 1, by omega⟩
              have hkk1 : k - 1 = kk := by omega
              rw [hkk1] at hdrop
              have hik : i + k < n := by omega
              have hn' := Hn.out
              obtain ⟨u, hu⟩ : ∃ u, l[i + kk]'(by omega) = u := ⟨_, rfl⟩
              obtain ⟨v, hv⟩ : ∃ v, l[i + k]'(by omega) = v := ⟨_, rfl⟩
              have d1 : l.drop (i + kk) = u :: l.drop (i + k) := by
                have h := List.drop_eq_getElem_cons (l := l) (i := i + kk) (by omega)
                rw [hu] at h
                rw [h, show i + kk + 1 = i + k by omega]
              have d2 : l.drop (i + k) = v :: l.drop (i + k + 1) := by
                have h := List.drop_eq_getElem_cons (l := l) (i := i + k) (by omega)
                rw [hv] at h
                exact h
              have t1 : l.take (i + k) = l.take (i + kk) ++ [u] := by
                have h := List.take_succ_eq_append_getElem (l := l) (i := i + kk) (by omega)
                rw [hu] at h
                rw [← h, show i + kk + 1 = i + k by omega]
              have t2 : l.take (i + k + 1) = l.take (i + k) ++ [v] := by
                have h := List.take_succ_eq_append_getElem (l := l) (i := i + k) (by omega)
                rw [hv] at h
                exact h
              have hsn := compactE_snoc (l.take (i + kk)) u v
              rw [← t1, ← t2, hP] at hsn
              have hsplit : P ++ M = (P ++ M).take (i + kk) ++ u :: v :: l.drop (i + k + 1) := by
                rw [← d2, ← d1, ← hdrop, List.take_append_drop]
              have hTl : ((P ++ M).take (i + kk)).length = i + kk := by rw [List.length_take, hlenL]; omega
              have hat1 := rowOf_at ((P ++ M).take (i + kk)) (v :: l.drop (i + k + 1)) u
              have hat2 := rowOf_at ((P ++ M).take (i + kk) ++ [u]) (l.drop (i + k + 1)) v
              simp only [List.append_assoc, List.singleton_append, List.length_append, List.length_singleton] at hat2
              rw [← hsplit, hTl] at hat1 hat2
              rw [show i + kk + 1 = i + k by omega] at hat2
              have huM : u ∈ P ++ M := by rw [hsplit]; simp
              have hvM : v ∈ P ++ M := by rw [hsplit]; simp
              have c1 := hownL.cellAt ((i + kk) * 2) (by omega)
              have c2 := hownL.cellAt ((i + kk) * 2 + 1) (by omega)
              have c3 := hownL.cellAt ((i + k) * 2) (by omega)
              have c4 := hownL.cellAt ((i + k) * 2 + 1) (by omega)
              rw [hat1.1, show (i + kk) * 2 = i * 2 + kk * 2 by omega] at c1
              rw [hat1.2, El.pv, show (i + kk) * 2 + 1 = i * 2 + kk * 2 + 1 by omega] at c2
              rw [hat2.1, show (i + k) * 2 = i * 2 + k * 2 by omega] at c3
              rw [hat2.2, El.pv, show (i + k) * 2 + 1 = i * 2 + k * 2 + 1 by omega] at c4
              have hcM : ∃ z M', M = z :: M' := by
                cases M with
                | nil => simp at hlenL; omega
                | cons z M' => exact ⟨z, M', rfl⟩
              obtain ⟨z, M', rfl⟩ := hcM
              have hku : kk < m := by omega
              have q1 : IntKind.i64.wrap ((k : Int) - 1) = (kk : Int) := by rw [IntWalk.i64_in _ (by omega)]; omega
              have q2 : IntKind.i64.wrap ((k : Int) + 1) = ((k + 1 : Nat) : Int) := by rw [IntWalk.i64_in _ (by omega)]; rfl
              have q3 : IntKind.i64.wrap ((c : Int) + 1) = ((c + 1 : Nat) : Int) := by rw [IntWalk.i64_in _ (by omega)]; rfl
              have hcn : c < n := by omega
              have f1 := hownL.frozenAt (c * 2)
              have f2 := hownL.frozenAt (c * 2 + 1)
              have hatz := rowOf_at P M' z
              have e1 := hownL.cellAt (c * 2) (by omega)
              have e2 := hownL.cellAt (c * 2 + 1) (by omega)
              rw [← hc] at e1 e2
              rw [hatz.1] at e1
              rw [hatz.2, El.pv] at e2
              rw [hc] at e1 e2
              have HC := Lib.hid (eqEl_any g v u wr.drew ⟨(hPM v hvM).key, (hPM v hvM).off, (hPM v hvM).len⟩ ⟨(hPM u huM).key, (hPM u huM).off, (hPM u huM).len⟩)
              obtain ⟨kb, hkb⟩ : ∃ kb, decide (v.key = u.key) = kb := ⟨_, rfl⟩
              rw [hkb] at HC
              have Hkb := Lib.hid hkb; clear hkb
              have Hrow := Lib.hid hrow
              have Hkeep := Lib.hid hkeep
              have Hsn := Lib.hid hsn
              have Hdrop := Lib.hid hdrop
              have HlenL := Lib.hid hlenL
              have Hd : Hid (l.drop (i + kk) = u :: l.drop (i + k)) := Lib.hid d1
              have Hc2 := Lib.hid hc
              have HvM := Lib.hid (hPM v hvM)
              have Hfacts : Hid (k = kk + 1 ∧ i + k < n ∧ c + 1 ≤ i + k) := Lib.hid ⟨hkk, hik, hck⟩
              clear hu hv d1 d2 t1 t2 hsplit hTl hat1 hat2 huM hvM hownL hPM hrow hkeep hsn hdrop hlenL hP hatz hc hkk hkk1 hn' hik hck
              go_wp2_with fail
              refine wp_region_tail 10 hmx (by decide +kernel) ?_
              simp only [List.take_succ_cons, List.take_zero, List.drop_succ_cons, List.drop_zero]
              iterate 10 still_step
              refine wpStill_nil ?_
              go_wp2_with fail
              refine HC.out.mono ?_
              rintro e w3 ⟨rfl, hx2⟩
              have hx3 : Ext wr w3 := ((Ext.refl wr).drew).trans hx2
              have Hrow3 := Lib.hid (Hrow.out.ext hx3)
              have Hkeep3 : Hid (Keeps (fun k => k ≠ g) w w3) := Lib.hid (Hkeep.out.trans (hx3.keeps.mono fun _ _ _ => trivial))
              replace c3 := hx3.keeps.cell c3 trivial
              replace c4 := hx3.keeps.cell c4 trivial
              replace e1 := hx3.keeps.cell e1 trivial
              replace e2 := hx3.keeps.cell e2 trivial
              clear c1 c2 f1 f2
              have HvM3 := Lib.hid (HvM.out.ext hx3)
              clear hx2 hx3 HC Hrow Hkeep HvM
              cases kb with
              | true =>
                have hkey := of_decide_eq_true Hkb.out
                have Hs2 : Hid (compactE (l.take (i + k + 1)) = P) := Lib.hid (by rw [Hsn.out, if_pos hkey])
                clear hkey Hsn
                go_wp2
                go_roundw
                case rel =>
                  obtain ⟨g1, g2, g3⟩ := Hfacts.out
                  refine ⟨c, k + 1, P, z :: M', rfl, by simp, by omega, by omega, Hs2.out, Hc2.out, by omega, ?_, Hrow3.out, HlenL.out, Hkeep3.out⟩
                  have h1 := congrArg (List.drop 1) Hdrop.out
                  rw [List.drop_drop, List.drop_drop] at h1
                  rw [show i + (k + 1 - 1) = i + kk + 1 by omega]
                  exact h1
                case measure => simp [intOf]; omega
              | false =>
                have hkey := of_decide_eq_false Hkb.out
                have Hs2 : Hid (compactE (l.take (i + k + 1)) = P ++ [v]) := Lib.hid (by rw [Hsn.out, if_neg hkey])
                clear hkey Hsn
                have hown3 := Hrow3.out.own
                rw [HlenL.out] at hown3
                have f1 := hown3.frozenAt (c * 2)
                have f2 := hown3.frozenAt (c * 2 + 1)
                clear hown3
                have hput := Hrow3.out.put HvM3.out Hc2.out
                have Hrow4 := Lib.hid hput.1
                have Hkeep4 := Lib.hid (Hkeep3.out.trans hput.2)
                clear hput
                go_wp2
                go_roundw
                case rel =>
                  obtain ⟨g1, g2, g3⟩ := Hfacts.out
                  have hPl := Hc2.out
                  refine ⟨c + 1, k + 1, P ++ [v], M', by simp, by simp, by omega, by omega, Hs2.out, by rw [List.length_append, hPl]; rfl, by omega, ?_, by rw [List.append_assoc]; exact Hrow4.out, ?_, Hkeep4.out⟩
                  · have h1 := congrArg (List.drop 1) Hdrop.out
                    rw [List.drop_drop, List.drop_drop] at h1
                    rw [show i + (k + 1 - 1) = i + kk + 1 by omega, List.append_assoc]
                    exact (drop_beyond P M' v z _ (by omega)).trans h1
                  · have := HlenL.out
                    simp only [List.length_append, List.length_cons, List.length_nil] at this ⊢
                    omega
                case measure => simp [intOf]; omega
            · have hkm2 : k = m := by omega
              have hik : i + k = n := by omega
              have hPc : Hid (compactE l = P) := Lib.hid (by rw [← hP, hik, List.take_of_length_le (by rw [Hn.out]; exact Nat.le_refl _)])
              have hcn : c < n := by omega
              obtain ⟨vs, hcl⟩ := run_clear_placed wr g (c * 2) (n - c) (cap - c) (by omega)
                (fun j hj => by rw [hownL.cellAt (c * 2 + j) (by omega), List.getElem?_eq_getElem (by rw [rowOf_len, hlenL]; omega)]; rfl) (fun j _ => hownL.frozenAt _)
              have hpre := prefix_row hownL (show c ≤ n by omega)
              have htk : (rowOf (P ++ M)).take (c * 2) = rowOf P := by rw [rowOf_append, ← hc, ← rowOf_len]; simp
              rw [htk] at hpre
              obtain ⟨hr1, hr2⟩ := setCells_row vs (c * 2) wr hpre (Nat.le_refl _)
              have Hrow5 : Hid (Row base g cap (wr.setCells g (c * 2) vs) P) := Lib.hid ⟨by rw [hc]; exact hr1, fun e he => (hPM e (by simp [he])).keeps hr2⟩
              have Hkeep5 := Lib.hid (hkeep.trans hr2)
              have Hc2 := Lib.hid hc
              clear hr1 hr2 hpre htk hownL hPM hrow hkeep hdrop hlenL hP hc hik hck
              subst hkm2
              go_wp2
              go_ret
              rw [hPc.out, Hc2.out]
              exact ⟨rfl, Hrow5.out, Hkeep5.out⟩
        | false =>
          have hkey := of_decide_eq_false Hkb.out
          have Hcs' : Hid (compactE (l.take (i + 1)) = l.take (i + 1)) := Lib.hid (by rw [Hcs.out, if_neg hkey, Ht.out])
          clear hkey Hcs
          go_wp2
          go_roundw
          case rel => exact ⟨i + 1, by simp, by omega, by omega, Hcs'.out, Hrow2.out, HX2.out⟩
          case measure => simp [intOf]; omega
      · obtain rfl : i = n := by omega
        have hd : decide ((i : Int) < (i : Int)) = false := by simp
        have Hc : Hid (compactE l = l) := Lib.hid (by have := Hce.out; rwa [List.take_of_length_le (by rw [Hn.out]; exact Nat.le_refl _)] at this)
        have Hrow := Lib.hid hrow; clear hrow
        go_wp2
        go_ret
        rw [Hc.out, Hn.out]
        exact ⟨rfl, Hrow.out, HX.out.keeps.mono fun _ _ _ => trivial⟩

end Go.Proofs.Yteoelhhkdfmaiaa

/- What walk's Sort does with one up to 19 names. Conditions: these. -/
namespace Go.Proofs.Yteoelhhkdfmaiaa
open Go Go.RowKit Go.Shelf

def nstep (p : List ByteArray × Option ByteArray) (y : ByteArray) : List ByteArray × Option ByteArray :=
  (match p.2 with | some x => if placeB y = placeB x then p.1 else p.1 ++ [y] | none => p.1 ++ [y], some y)
/-- Of neighbours in one place the first. -/
def compactN (l : List ByteArray) : List ByteArray := (l.foldl nstep ([], none)).1

theorem compactE_names : ∀ (n : Nat) (l : List El), l.length = n → Keyed l → (compactE l).map El.name = compactN (l.map El.name) ∧ (compactP l).2.map El.name = ((l.map El.name).foldl nstep ([], none)).2 ∧ (∀ x, (compactP l).2 = some x → x.key = placeB x.name)
  | 0, l, h, _ => by rw [List.eq_nil_of_length_eq_zero h]; exact ⟨rfl, rfl, fun x h => by cases h⟩
  | n + 1, l, h, hk => by
    obtain ⟨a, y, rfl⟩ : ∃ a x, l = a ++ [x] := by
      rcases List.eq_nil_or_concat l with rfl | ⟨a, x, rfl⟩
      · simp at h
      · exact ⟨a, x, by simp⟩
    obtain ⟨h1, h2, h3⟩ := compactE_names n a (by simpa using h) fun e he => hk e (by simp [he])
    have hy := hk y (by simp)
    rw [compactE] at h1 ⊢
    rw [compactP_snoc, List.map_append, compactN, List.foldl_append]
    rw [compactN] at h1
    obtain ⟨q, hq⟩ : ∃ q, compactP a = q := ⟨_, rfl⟩
    obtain ⟨r, hr⟩ : ∃ r, (a.map El.name).foldl nstep ([], none) = r := ⟨_, rfl⟩
    rw [hq] at h1 h2 h3 ⊢
    rw [hr] at h1 h2 ⊢
    obtain ⟨q1, q2⟩ := q
    obtain ⟨r1, r2⟩ := r
    simp only at h1 h2 h3
    subst h1 h2
    refine ⟨?_, rfl, fun x hx => by simp only [cstep, Option.some.injEq] at hx; subst hx; exact hy⟩
    cases q2 with
    | none => simp [cstep, nstep]
    | some x =>
      have hx := h3 x rfl
      simp only [cstep, nstep, Option.map_some, List.map_cons, List.map_nil, List.foldl_cons, List.foldl_nil, hx, hy]
      split <;> simp
theorem compactE_len : ∀ (n : Nat) (l : List El), l.length = n → (compactE l).length ≤ l.length
  | 0, l, h => by rw [List.eq_nil_of_length_eq_zero h]; exact Nat.le_refl _
  | n + 1, l, h => by
    obtain ⟨a, y, rfl⟩ : ∃ a x, l = a ++ [x] := by
      rcases List.eq_nil_or_concat l with rfl | ⟨a, x, rfl⟩
      · simp at h
      · exact ⟨a, x, by simp⟩
    have ih := compactE_len n a (by simpa using h)
    rw [compactE] at ih ⊢
    rw [compactP_snoc, cstep, List.length_append]
    cases (compactP a).2 with
    | none => simp; omega
    | some x =>
      simp only
      split <;> simp <;> omega

set_option maxRecDepth 100000 in
set_option maxHeartbeats 8000000 in
theorem Sort_19 (sv : Value) (ls : List ByteArray) (w : World) (hsv : Strs w sv ls) (hlen : ls.length ≤ 19) (hpos : 0 < ls.length) (hll : ∀ x ∈ ls, isName x = true) :
    Calls Try.prog 11 #[sv] w fun e w' => ∃ v, e = .returned v ∧ Strs w' v (compactN (sortN ls)) ∧ Ext w w' := by
  obtain ⟨i0, hi, hz0, hz1, hz2⟩ := info_parts infoPlaced
  obtain ⟨i1, hj, hy0, hy1, hy2⟩ := info_parts infoString
  obtain ⟨ao, cap, rfl, hsv2⟩ := hsv.open
  have Hsv := Lib.hid hsv2; clear hsv2 hsv
  have Hll := Lib.hid hll; clear hll
  go_enter Try.func11, Try.ntmps11
  go_wp2_with fail
  go_loopw [3, 11] (fun s3 s11 wr => ∃ (k : Nat) (els : List El), s11 = .int .i64 (k : Int) ∧ k ≤ ls.length ∧ els.length = k ∧ els.map El.name = ls.take k ∧ Keyed els ∧
      wr.ownsRow w.heap.size 62 2 s3 els.length (rowOf els) ∧ (∀ e ∈ els, wr.ownsRow w.heap.size 9 1 e.pv e.key.length (e.key.map Value.string) ∧ e.key.length ≤ 255) ∧ Ext w wr)
    (fun _ s11 _ => ls.length - (intOf s11).toNat)
  case atStart => exact ⟨0, [], rfl, Nat.zero_le _, rfl, rfl, keyed_nil, World.ownsRow_nil _ _ _ _, none_of, Ext.refl _⟩
  case round =>
    obtain ⟨k, els, rfl, hk, hel, hnm, hkey, hown, hkeys, hx⟩ := hrel
    have HX := Lib.hid hx; clear hx
    obtain ⟨ao3, cap3, rfl⟩ := ownsRow_slice hown
    by_cases hlt : k < ls.length
    · obtain ⟨b, off, rfl, hc⟩ := Hsv.out k hlt
      replace hc := HX.out.keeps.cell hc trivial
      have hts := take_snoc ls k ⟨#[]⟩ hlt
      have hmem : (ls[k]?.getD ⟨#[]⟩) ∈ ls := by rw [List.getElem?_eq_getElem hlt]; exact List.getElem_mem hlt
      obtain ⟨x, hx⟩ : ∃ x, ls[k]?.getD ⟨#[]⟩ = x := ⟨_, rfl⟩
      rw [hx] at hc hts hmem
      clear hx
      have hname := Hll.out x hmem
      have hx255 := name_le hname
      have CK := Lib.hid fun W => Check_any x W (by unfold maxLen; omega)
      rw [chk_name hname] at CK
      have PL := Lib.hid fun W => place_any x W hx255
      have Hts := Lib.hid hts
      have Hown := Lib.hid hown
      have Hkeys := Lib.hid hkeys
      have Hnm := Lib.hid hnm
      have Hkey := Lib.hid hkey
      have Hel := Lib.hid hel
      have hpl := placeB_len x
      clear hts hmem hname hown hkeys hnm hkey hel
      go_wp2_with (first
        | ((with_reducible refine (CK.out _).mono ?_); rintro e w' ⟨rfl, hx⟩; have HX1 := Lib.hid (Ext.trans (Ext.refl _) hx); clear hx))
      refine (PL.out _).mono ?_
      rintro e w3 ⟨v, rfl, hown2, hx⟩
      obtain ⟨aov, capv, rfl⟩ := ownsRow_slice hown2
      have Hown2 := Lib.hid hown2
      have HX2 := Lib.hid (HX1.out.trans hx)
      have hbase := HX.out.size
      have hbase1 := HX1.out.size
      clear hx hown2
      have hk3 := HX2.out.keeps
      have hown3 := hk3.ownsRow2 Hown.out (fun _ _ => trivial)
      have HX3 := Lib.hid (HX.out.trans HX2.out)
      have hsz : w.heap.size ≤ w3.heap.size := HX3.out.size
      have Hown3 := Lib.hid (hown3.alloc (.cells #[.string x, .slice aov (placeB x).length capv] 62))
      have hsz3 : w.heap.size ≤ (w3.alloc (.cells #[.string x, .slice aov (placeB x).length capv] 62)).heap.size := by simp; omega
      obtain ⟨ne, hne⟩ : ∃ ne, els.length = ne := ⟨_, rfl⟩
      have hne2 : ne ≤ 19 := by have := Hel.out; omega
      rw [hne] at Hown3 ⊢
      have Hne := Lib.hid hne
      obtain ⟨np, hnp⟩ : ∃ np, (placeB x).length = np := ⟨_, rfl⟩
      rw [hnp] at Hown3 hsz3 ⊢
      have Hnp := Lib.hid hnp
      clear hown3 hk3 hne hnp
      go_wp2_with (at_builtin; refine wpList_append_own _ rfl _ _ 60 rfl w.heap.size 62 i0 (.agg #[.string ⟨#[]⟩, .slice none 0 0]) 2 40 Try.underlying60 hi hz0 hz1 hz2 rfl (by decide) _ _ _ rfl Hown3.out ⟨w3.heap.size, 0, none⟩ 1 1 [.string x, .slice aov np capv] rfl rfl ?c1 ?c2 ?c3 ?c4 ?c5 ?_)
      case c1 =>
        intro j u hj
        match j, hj with
        | 0, hj => simp at hj; subst hj; simp [Addr.add]
        | 1, hj => simp at hj; subst hj; simp [Addr.add]
      case c2 => intro u hu; simp at hu; rcases hu with rfl | rfl <;> rfl
      case c3 => unfold maxLen; omega
      case c4 => omega
      case c5 => exact hsz3
      intro v' w4 hown' hgrow _
      obtain ⟨ao', cap', hv1⟩ := ownsRow_slice hown'
      subst hv1
      have hrow := Hown3.out.lt
      have hk4 := grown_keeps hgrow
      have HX4 : Hid (Ext w w4) := Lib.hid ((((HX3.out.keeps.mono (K' := fun k => k < w.heap.size) fun _ _ _ => trivial).alloc _).grown hgrow (fun k e h => by have := (hrow k e).1; omega)).ext fun _ h => h)
      have keep : ∀ (vk : Value) (n : Nat) (zs : List Value), w3.ownsRow w.heap.size 9 1 vk n zs → w4.ownsRow w.heap.size 9 1 vk n zs := fun vk n zs h => by
        have h1 := h.alloc (.cells #[.string x, .slice aov np capv] 62)
        exact hk4.ownsRow2 h1 (rows_apart h1 Hown3.out (by decide))
      have hnew := ownsRow_mono Hown2.out (show w.heap.size ≤ w'.heap.size by omega)
      rw [Hnp.out] at hnew
      have hnew4 := keep _ _ _ hnew
      have hels : ∀ e ∈ els ++ [(⟨x, placeB x, aov, capv⟩ : El)], w4.ownsRow w.heap.size 9 1 e.pv e.key.length (e.key.map Value.string) ∧ e.key.length ≤ 255 := by
        intro e he
        rcases List.mem_append.1 he with he | he
        · obtain ⟨h1, h2⟩ := Hkeys.out e he
          exact ⟨keep _ _ _ (HX2.out.keeps.ownsRow2 h1 fun _ _ => trivial), h2⟩
        · obtain rfl : e = ⟨x, placeB x, aov, capv⟩ := by simpa using he
          refine ⟨?_, by show (placeB x).length ≤ 255; omega⟩
          show w4.ownsRow w.heap.size 9 1 (.slice aov (placeB x).length capv) (placeB x).length ((placeB x).map Value.string)
          rw [Hnp.out]
          exact hnew4
      have Hels := Lib.hid hels
      have Hown' := Lib.hid hown'
      clear hels hnew4 hnew keep hk4 hrow hown' hgrow hsz3 hsz
      go_wp2
      go_roundw
      case rel =>
        refine ⟨k + 1, els ++ [⟨x, placeB x, aov, capv⟩], by simp, by omega, by simp [Hel.out], by rw [List.map_append, Hnm.out, Hts.out]; rfl, ?_, ?_, Hels.out, HX4.out⟩
        · intro e he
          rcases List.mem_append.1 he with he | he
          · exact Hkey.out e he
          · obtain rfl : e = ⟨x, placeB x, aov, capv⟩ := by simpa using he
            rfl
        · rw [rowOf_snoc, El.pv, List.length_append, Hne.out, List.length_singleton]
          show w4.ownsRow w.heap.size 62 2 (.slice ao' (ne + 1) cap') (ne + 1) (rowOf els ++ [.string x, .slice aov (placeB x).length capv])
          rw [Hnp.out]
          exact Hown'.out
      case measure => simp [intOf]; omega
    · obtain rfl : k = ls.length := by omega
      rw [List.take_length] at hnm
      obtain ⟨g, rfl⟩ : ∃ g, ao3 = some ⟨g, 0, none⟩ := by
        rcases hown.2 with ⟨h1, _⟩ | ⟨g, _, _, h1, _⟩
        · simp only [Value.slice.injEq] at h1; omega
        · simp only [Value.slice.injEq] at h1; exact ⟨g, h1.1⟩
      have hg : w.heap.size ≤ g := (hown.lt g rfl).1
      have hrow : Row w.heap.size g cap3 wr els := ⟨hown, fun e he => by
        obtain ⟨h1, h2⟩ := hkeys e he
        refine ⟨strs_of_row h1, fun a ha hag => ?_, h2⟩
        exact rows_apart h1 hown (by decide) g (by rw [El.pv, ha]; show some a.block = some g; rw [hag]) rfl⟩
      have HS := Lib.hid (sorted_small w.heap.size g cap3 els wr hrow (by omega))
      obtain ⟨hn1, hn2⟩ := insR_names _ els rfl hkey
      have hL1 : (insR els).reverse.map El.name = sortN ls := by
        rw [List.map_reverse, hn1, hnm, sortN]
        congr 2
        exact (List.filter_eq_self.2 Hll.out).symm
      have hL2 : (insR els).reverse.length = els.length := by rw [List.length_reverse, insR_len _ els rfl]
      have hL3 : Keyed (insR els).reverse := fun e he => hn2 e (by simpa using he)
      obtain ⟨L, hL⟩ : ∃ L, (insR els).reverse = L := ⟨_, rfl⟩
      rw [hL] at HS hL1 hL2 hL3
      have HL3 := Lib.hid hL3
      have HL1 := Lib.hid hL1
      obtain ⟨ne, hne⟩ : ∃ ne, els.length = ne := ⟨_, rfl⟩
      rw [hne] at hL2 hel HS ⊢
      rw [← hel] at hlen hpos ⊢
      have HL2 := Lib.hid hL2
      have Hel := Lib.hid hel
      clear hown hkeys hrow hn1 hn2 hL hL1 hL2 hL3 hnm hkey hne hel hlt hk
      go_wp2_with fail
      refine HS.out.mono ?_
      rintro e w2 ⟨⟨u, rfl⟩, hrow2, hk2⟩
      have HCo := Lib.hid (compact_any w.heap.size g cap3 L w2 hrow2 (by rw [HL2.out]; omega))
      rw [HL2.out] at HCo
      have hk2' : Keeps (fun k => k < w.heap.size) w w2 := (HX.out.keeps.mono fun _ _ _ => trivial).trans (hk2.mono fun k _ h => by omega)
      have HX2 : Hid (Ext w w2) := Lib.hid (hk2'.ext fun _ h => h)
      have hLC1 : (compactE L).map El.name = compactN (sortN ls) := by rw [(compactE_names _ L rfl HL3.out).1, HL1.out]
      have hLC2 : (compactE L).length ≤ 19 := by have := compactE_len _ L rfl; rw [HL2.out] at this; omega
      obtain ⟨C, hC⟩ : ∃ C, compactE L = C := ⟨_, rfl⟩
      rw [hC] at HCo hLC1 hLC2
      obtain ⟨nc, hnc⟩ : ∃ nc, C.length = nc := ⟨_, rfl⟩
      rw [hnc] at HCo hLC2
      have HLC1 := Lib.hid hLC1
      have Hnc := Lib.hid hnc
      clear hrow2 hk2 HS hLC1 hC hnc
      go_wp2_with fail
      refine HCo.out.mono ?_
      rintro e w3 ⟨rfl, hrow3, hk3⟩
      have Hown3 := Lib.hid hrow3.own
      rw [Hnc.out] at Hown3
      have HX3 : Hid (Ext w w3) := Lib.hid ((hk2'.trans (hk3.mono fun k _ h => by omega)).ext fun _ h => h)
      clear hrow3 hk3 hk2' HCo HX2
      go_wp2_with fail
      go_loopw [6, 32] (fun s6 s32 wr => ∃ k : Nat, s32 = .int .i64 (k : Int) ∧ k ≤ nc ∧ wr.ownsRow w.heap.size 9 1 s6 k ((C.take k).map fun e => Value.string e.name) ∧
          wr.ownsRow w.heap.size 62 2 (.slice (some ⟨g, 0, none⟩) nc cap3) nc (rowOf C) ∧ Ext w wr)
        (fun _ s32 _ => nc - (intOf s32).toNat)
      case atStart => exact ⟨0, rfl, Nat.zero_le _, World.ownsRow_nil _ _ _ _, Hown3.out, HX3.out⟩
      case round =>
        obtain ⟨k, rfl, hk, hnames, hown, hx⟩ := hrel
        obtain ⟨ao6, cap6, rfl⟩ := ownsRow_slice hnames
        have HX := Lib.hid hx; clear hx
        by_cases hlt : k < nc
        · obtain ⟨A, e, B, hl, hA, hts⟩ : ∃ A e B, C = A ++ e :: B ∧ A.length = k ∧ C.take (k + 1) = C.take k ++ [e] := by
            have hn' := Hnc.out
            refine ⟨C.take k, C[k]'(by omega), C.drop (k + 1), ?_, by rw [List.length_take]; omega, List.take_succ_eq_append_getElem (by omega)⟩
            rw [← List.drop_eq_getElem_cons, List.take_append_drop]
          have c1 := hown.cellAt (k * 2) (by omega)
          have c2 := hown.cellAt (k * 2 + 1) (by omega)
          have hat := rowOf_at A B e
          rw [← hl, hA] at hat
          rw [hat.1] at c1
          rw [hat.2, El.pv] at c2
          have Hts := Lib.hid hts
          have Hnames := Lib.hid hnames
          have Hown := Lib.hid hown
          clear hat hl hA hts hnames hown
          have hrz : w.heap.size ≤ wr.heap.size := HX.out.size
          have Hnm2 := Lib.hid ((Hnames.out.alloc (.cells #[.string e.name, .slice e.ao e.key.length e.cap] 62)).alloc (.cells #[.string e.name] 9))
          have Hown2 := Lib.hid ((Hown.out.alloc (.cells #[.string e.name, .slice e.ao e.key.length e.cap] 62)).alloc (.cells #[.string e.name] 9))
          have hsz2 : w.heap.size ≤ ((wr.alloc (.cells #[.string e.name, .slice e.ao e.key.length e.cap] 62)).alloc (.cells #[.string e.name] 9)).heap.size := by simp; omega
          go_wp2_with (at_builtin; refine wpList_append_own _ rfl _ _ 22 rfl w.heap.size 9 i1 (.string ⟨#[]⟩) 1 16 Try.underlying22 hj hy0 hy1 hy2 rfl (by decide) _ _ _ rfl Hnm2.out ⟨wr.heap.size + 1, 0, none⟩ 1 1 [.string e.name] rfl rfl ?c1 ?c2 ?c3 ?c4 ?c5 ?_)
          case c1 =>
            intro j u hj
            match j, hj with
            | 0, hj => simp at hj; subst hj; simp [Addr.add]
          case c2 => intro u hu; simp at hu; subst hu; rfl
          case c3 => unfold maxLen; omega
          case c4 => omega
          case c5 => exact hsz2
          intro v' w4 hown' hgrow _
          obtain ⟨ao', cap', hv1⟩ := ownsRow_slice hown'
          subst hv1
          have hrow := Hnm2.out.lt
          have hk4 := grown_keeps hgrow
          have HX4 : Hid (Ext w w4) := Lib.hid (((((HX.out.keeps.mono (K' := fun k => k < w.heap.size) fun _ _ _ => trivial).alloc _).alloc _).grown hgrow (fun k e h => by have := (hrow k e).1; omega)).ext fun _ h => h)
          have Hown4 := Lib.hid (hk4.ownsRow2 Hown2.out (rows_apart Hown2.out Hnm2.out (by decide)))
          have Hown' := Lib.hid hown'
          clear hown' hgrow hk4 hrow hsz2 hrz
          go_wp2
          go_roundw
          case rel => exact ⟨k + 1, by simp, by omega, by rw [Hts.out, List.map_append, List.map_take]; exact Hown'.out, Hown4.out, HX4.out⟩
          case measure => simp [intOf]; omega
        · obtain rfl : k = nc := by omega
          have Hnames := Lib.hid hnames
          clear hnames hown
          go_wp2
          go_ret
          refine ⟨_, rfl, ?_, HX.out⟩
          have h1 := Hnames.out
          rw [List.take_of_length_le (by rw [Hnc.out]; exact Nat.le_refl _)] at h1
          have h2 : (compactN (sortN ls)).length = k := by rw [← HLC1.out, List.length_map, Hnc.out]
          refine strs_of_row (ls := compactN (sortN ls)) ?_ (base := w.heap.size)
          rw [h2, ← HLC1.out, List.map_map]
          exact h1

end Go.Proofs.Yteoelhhkdfmaiaa

/- What hardtacklaw02.lives answers: true. Conditions: none. -/
namespace Go.Proofs.Yteoelhhkdfmaiaa
open Go Go.RowKit Go.Shelf

def nAB : ByteArray := ⟨#[1, 97, 1, 98, 3, 111, 114, 103, 0]⟩
def nCB : ByteArray := ⟨#[1, 99, 1, 66, 3, 111, 114, 103, 0]⟩
def nORG : ByteArray := ⟨#[3, 111, 114, 103, 0]⟩
def nROOT : ByteArray := ⟨#[0]⟩
def nBORG : ByteArray := ⟨#[1, 98, 3, 111, 114, 103, 0]⟩
theorem v_common : commonR nAB nCB = (nBORG, 0) := by decide +kernel
theorem v_next1 : nextR nORG nAB = (nBORG, 0) := by decide +kernel
theorem v_next2 : nextR nAB nORG = (⟨#[]⟩, 3) := by decide +kernel
theorem v_deep1 : deepR nAB [nROOT, nORG, nCB] = (nORG, 0) := by decide +kernel
theorem v_deep2 : deepR nORG [nAB] = (⟨#[]⟩, 3) := by decide +kernel
theorem v_up : upB nAB = [nAB, nBORG, nORG, nROOT] := by decide +kernel
theorem v_less1 : lessB nAB nCB = true := by decide +kernel
theorem v_less2 : lessB nORG nAB = true := by decide +kernel
theorem v_less3 : lessB nAB nAB = false := by decide +kernel
theorem v_depth1 : depthB nAB nROOT = 3 := by decide +kernel
theorem v_depth2 : depthB nORG nAB = -1 := by decide +kernel
theorem v_sort : compactN (sortN [nCB, nROOT, nAB, nCB]) = [nROOT, nAB, nCB] := by decide +kernel

/-- A slice that was just laid holds its strings. -/
theorem strs_lit (w : World) (ls : List ByteArray) (n : Nat) (hn : ls.length = n) (xs : Array Value) (hx : xs.toList = ls.map Value.string) : Strs (w.alloc (.cells xs 9)) (.slice (some ⟨w.heap.size, 0, none⟩) n n) ls := by
  subst hn
  refine .inr ⟨w.heap.size, 0, ls.length, rfl, fun j hj => ?_⟩
  have h1 : (w.alloc (.cells xs 9)).heap[w.heap.size]? = some (.cells xs 9) := World.alloc_heap_new w _
  have h2 : xs[j]? = some (.string (ls[j]?.getD ⟨#[]⟩)) := by
    rw [← Array.getElem?_toList, hx, List.getElem?_map, List.getElem?_eq_getElem hj]
    rfl
  simp only [World.cell?, h1, Nat.zero_add]
  simpa using h2

set_option maxRecDepth 100000 in
set_option maxHeartbeats 8000000 in
theorem lives2_any (w : World) : Calls Try.prog 7 #[] w fun e w' => e = .returned (.bool true) ∧ Ext w w' := by
  have C1 := Lib.hid fun W => v_common ▸ Common_any nAB nCB W (by decide) (by decide)
  have C2 := Lib.hid fun W => v_next1 ▸ Next_any nORG nAB W (by decide) (by decide)
  have C3 := Lib.hid fun W => v_next2 ▸ Next_any nAB nORG W (by decide) (by decide)
  have L1 := Lib.hid fun W => v_less1 ▸ Less_any nAB nCB W (by decide) (by decide)
  have L2 := Lib.hid fun W => v_less2 ▸ Less_any nORG nAB W (by decide) (by decide)
  have L3 := Lib.hid fun W => v_less3 ▸ Less_any nAB nAB W (by decide) (by decide)
  have D1 := Lib.hid fun W => v_depth1 ▸ Depth_any nAB nROOT W (by decide) (by decide)
  have D2 := Lib.hid fun W => v_depth2 ▸ Depth_any nORG nAB W (by decide) (by decide)
  have HX := Lib.hid (Ext.refl w)
  simp only [nAB, nCB, nORG, nROOT, nBORG] at C1 C2 C3 L1 L2 L3 D1 D2
  go_enter Try.func7, Try.ntmps7
  go_wp2_with (first
    | ((with_reducible refine (C1.out _).mono ?_); rintro e w' ⟨rfl, hx⟩; have HX := Lib.hid (HX.out.trans hx); clear hx)
    | ((with_reducible refine (C2.out _).mono ?_); rintro e w' ⟨rfl, hx⟩; have HX := Lib.hid (HX.out.trans hx); clear hx)
    | ((with_reducible refine (C3.out _).mono ?_); rintro e w' ⟨rfl, hx⟩; have HX := Lib.hid (HX.out.trans hx); clear hx))
  have DE1 := Deepest_any nAB (.slice (some ⟨w'.heap.size, 0, none⟩) 3 3) [nROOT, nORG, nCB] (w'.alloc (.cells #[.string nROOT, .string nORG, .string nCB] 9)) (by decide) (strs_lit w' [nROOT, nORG, nCB] 3 rfl _ rfl) (by decide)
    (fun x hx => by simp only [List.mem_cons, List.not_mem_nil, or_false] at hx; rcases hx with rfl | rfl | rfl <;> decide)
  rw [v_deep1] at DE1
  refine DE1.mono ?_
  rintro e w1 ⟨rfl, hx⟩
  have HX1 := Lib.hid ((HX.out.alloc (.cells #[.string nROOT, .string nORG, .string nCB] 9)).trans hx)
  clear DE1 hx C1 C2 C3
  simp only [nORG]
  go_wp2_with fail
  have DE2 := Deepest_any nORG (.slice (some ⟨w1.heap.size, 0, none⟩) 1 1) [nAB] (w1.alloc (.cells #[.string nAB] 9)) (by decide) (strs_lit w1 [nAB] 1 rfl _ rfl) (by decide)
    (fun x hx => by simp only [List.mem_cons, List.not_mem_nil, or_false] at hx; rcases hx with rfl; decide)
  rw [v_deep2] at DE2
  refine DE2.mono ?_
  rintro e w2 ⟨rfl, hx⟩
  have HX2 := Lib.hid ((HX1.out.alloc (.cells #[.string nAB] 9)).trans hx)
  clear DE2 hx HX1
  go_wp2_with fail
  refine (list_any nAB _ (by decide)).mono ?_
  rintro e w3 ⟨v, rfl, hst, hx⟩
  rw [v_up] at hst
  obtain ⟨ao, cap, rfl, hcells⟩ := hst.open
  obtain ⟨b, off, rfl, c0⟩ := hcells 0 (by decide)
  obtain ⟨b3, off3, hb3, c3⟩ := hcells 3 (by decide)
  obtain ⟨rfl, rfl⟩ : b = b3 ∧ off = off3 := by simpa using hb3
  have c0' : w3.cell? ⟨b, off, none⟩ = some (.string ⟨#[1, 97, 1, 98, 3, 111, 114, 103, 0]⟩) := c0
  have c3' : w3.cell? ⟨b, off + 3, none⟩ = some (.string ⟨#[0]⟩) := c3
  have HX3 := Lib.hid (HX2.out.trans hx)
  clear hx HX2 hst hcells hb3 c0 c3
  have HX := HX3
  show _
  go_wp2_with (first
    | ((with_reducible refine (L1.out _).mono ?_); rintro e w' ⟨rfl, hx⟩; have HX := Lib.hid (HX.out.trans hx); clear hx)
    | ((with_reducible refine (L2.out _).mono ?_); rintro e w' ⟨rfl, hx⟩; have HX := Lib.hid (HX.out.trans hx); clear hx)
    | ((with_reducible refine (L3.out _).mono ?_); rintro e w' ⟨rfl, hx⟩; have HX := Lib.hid (HX.out.trans hx); clear hx)
    | ((with_reducible refine (D1.out _).mono ?_); rintro e w' ⟨rfl, hx⟩; have HX := Lib.hid (HX.out.trans hx); clear hx)
    | ((with_reducible refine (D2.out _).mono ?_); rintro e w' ⟨rfl, hx⟩; have HX := Lib.hid (HX.out.trans hx); clear hx))
  have S1 := Sort_19 (.slice (some ⟨w'.heap.size, 0, none⟩) 4 4) [nCB, nROOT, nAB, nCB] (w'.alloc (.cells #[.string nCB, .string nROOT, .string nAB, .string nCB] 9)) (strs_lit w' [nCB, nROOT, nAB, nCB] 4 rfl _ rfl) (by decide) (by decide)
    (fun x hx => by simp only [List.mem_cons, List.not_mem_nil, or_false] at hx; rcases hx with rfl | rfl | rfl | rfl <;> decide +kernel)
  rw [v_sort] at S1
  refine S1.mono ?_
  rintro e w4 ⟨v, rfl, hst, hx⟩
  have HX4 := Lib.hid ((HX.out.alloc (.cells #[.string nCB, .string nROOT, .string nAB, .string nCB] 9)).trans hx)
  have Hst := Lib.hid hst
  clear S1 hx hst L1 L2 L3 D1 D2 c0' c3' HX3
  go_wp2_with fail
  have S2 := SameTexts_any v (.slice (some ⟨w4.heap.size, 0, none⟩) 3 3) [nROOT, nAB, nCB] [nROOT, nAB, nCB] (w4.alloc (.cells #[.string nROOT, .string nAB, .string nCB] 9)) (Hst.out.ext ((Ext.refl w4).alloc _)) (strs_lit w4 [nROOT, nAB, nCB] 3 rfl _ rfl) (by decide)
  rw [decide_eq_true rfl] at S2
  refine S2.mono ?_
  rintro e w5 ⟨rfl, hx⟩
  have HX5 := Lib.hid ((HX4.out.alloc (.cells #[.string nROOT, .string nAB, .string nCB] 9)).trans hx)
  clear S2 hx HX4 Hst
  go_wp2
  go_ret
  exact ⟨rfl, HX5.out⟩

end Go.Proofs.Yteoelhhkdfmaiaa
