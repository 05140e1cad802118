/- What walk's Sort hands to the library: the rows that it sorts, what compares two of their elements, and what tells whether two are one. Conditions: the elements' keys lie off the row. -/
import Derived.Test.YtmmjhdkoccpdjaaWalkG
namespace Go.Proofs.Ytmmjhdkoccpdjaa
open Go Go.RowKit Go.Shelf

/-- An element of the sorted row: a name; its key, as a slice. -/
structure El where
  name : ByteArray
  key : List ByteArray
  ao : Option Addr
  cap : Nat
def El.pv (e : El) : Value := .slice e.ao e.key.length e.cap
def El.agg (e : El) : Value := .agg #[.string e.name, e.pv]
/-- The element's key lies in w, off the block g. -/
structure OkEl (g : Nat) (w : World) (e : El) : Prop where
  key : Strs w e.pv e.key
  off : ∀ a, e.ao = some a → a.block ≠ g
  len : e.key.length ≤ 255
theorem OkEl.keeps {g : Nat} {w w' : World} {e : El} (h : OkEl g w e) (k : Keeps (fun k => k ≠ g) w w') : OkEl g w' e := by
  refine ⟨?_, h.off, h.len⟩
  rcases h.key with h1 | ⟨b, off, cap, h1, hc⟩
  · exact .inl h1
  · refine .inr ⟨b, off, cap, h1, fun j hj => k.cell (hc j hj) ?_⟩
    have : e.ao = some ⟨b, off, none⟩ := by
      simp only [El.pv, Value.slice.injEq] at h1
      exact h1.1
    exact h.off ⟨b, off, none⟩ this
theorem OkEl.ext {g : Nat} {w w' : World} {e : El} (h : OkEl g w e) (k : Ext w w') : OkEl g w' e := ⟨h.key.ext k, h.off, h.len⟩

def rowOf : List El → List Value
  | [] => []
  | e :: l => .string e.name :: e.pv :: rowOf l
theorem rowOf_len : ∀ l, (rowOf l).length = l.length * 2
  | [] => rfl
  | e :: l => by simp only [rowOf, List.length_cons, rowOf_len l]; omega
theorem rowOf_append : ∀ a b, rowOf (a ++ b) = rowOf a ++ rowOf b
  | [], _ => rfl
  | e :: a, b => by simp only [List.cons_append, rowOf, rowOf_append a b]
/-- The cells of the element behind A. -/
theorem rowOf_at (A B : List El) (e : El) : (rowOf (A ++ e :: B))[A.length * 2]? = some (.string e.name) ∧ (rowOf (A ++ e :: B))[A.length * 2 + 1]? = some e.pv := by
  rw [rowOf_append]
  constructor
  · rw [List.getElem?_append_right (by rw [rowOf_len]; exact Nat.le_refl _), rowOf_len, Nat.sub_self]; rfl
  · rw [List.getElem?_append_right (by rw [rowOf_len]; omega), rowOf_len, show A.length * 2 + 1 - A.length * 2 = 1 by omega]; rfl
/-- Another element in its place. -/
theorem rowOf_set (A B : List El) (e f : El) : ((rowOf (A ++ e :: B)).set (A.length * 2) (.string f.name)).set (A.length * 2 + 1) f.pv = rowOf (A ++ f :: B) := by
  rw [rowOf_append, rowOf_append]
  rw [List.set_append_right (h := by rw [rowOf_len]; exact Nat.le_refl _), List.set_append_right (h := by rw [rowOf_len]; omega), rowOf_len, Nat.sub_self, show A.length * 2 + 1 - A.length * 2 = 1 by omega]
  rfl

/-- The row: the block g holds the elements of l; their keys lie off it. -/
structure Row (base g cap : Nat) (w : World) (l : List El) : Prop where
  own : w.ownsRow base 86 2 (.slice (some ⟨g, 0, none⟩) l.length cap) l.length (rowOf l)
  ok : ∀ e ∈ l, OkEl g w e
theorem Row.ext {base g cap : Nat} {w w' : World} {l : List El} (h : Row base g cap w l) (k : Ext w w') : Row base g cap w' l :=
  ⟨k.keeps.ownsRow h.own (fun _ _ => trivial), fun e he => (h.ok e he).ext k⟩

set_option maxRecDepth 100000 in
set_option maxHeartbeats 2000000 in
theorem cmpEl_any (g : Nat) (p q : El) (w : World) (hp : OkEl g w p) (hq : OkEl g w q) :
    Calls Try.prog 84 #[p.agg, q.agg] w fun e w' => e = .returned (.int .i64 (cmpL p.key q.key)) ∧ Ext w w' := by
  have HP := Lib.hid hp; clear hp
  have HQ := Lib.hid hq; clear hq
  go_enter Try.func84, Try.ntmps84
  rw [El.agg, El.agg, El.pv, El.pv]
  go_wp2_with fail
  have hx : Ext w ((w.alloc (.cells #[.string p.name, p.pv] 86)).alloc (.cells #[.string q.name, q.pv] 86)) := ((Ext.refl _).alloc _).alloc _
  refine (Compare_any p.pv q.pv p.key q.key _ (HP.out.ext hx).key (HQ.out.ext hx).key (by have := HP.out.len; omega)).mono ?_
  rintro e w' ⟨rfl, hx2⟩
  have HX : Hid (Ext w w') := Lib.hid (hx.trans hx2)
  clear hx hx2
  go_wp2
  go_ret
  exact ⟨rfl, HX.out⟩

set_option maxRecDepth 100000 in
set_option maxHeartbeats 4000000 in
theorem Equal_any (u v : Value) (xs ys : List ByteArray) (w : World) (hu : Strs w u xs) (hv : Strs w v ys) (ha : xs.length ≤ 140737488355328) :
    Calls Try.prog 87 #[u, v] w fun e w' => e = .returned (.bool (decide (xs = ys))) ∧ Ext w w' := by
  obtain ⟨ao, cap, rfl, hu2⟩ := hu.open
  obtain ⟨bo, cap2, rfl, hv2⟩ := hv.open
  have Hu := Lib.hid hu2; clear hu2 hu
  have Hv := Lib.hid hv2; clear hv2 hv
  have hmx : Try.prog.follows .mixedOrders = true := by kernel_rfl
  by_cases hl : xs.length = ys.length
  · have Hl := Lib.hid hl
    rw [hl] at ha
    have hl' : ((xs.length : Int) == (ys.length : Int)) = true := by simp [hl]
    go_enter Try.func87, Try.ntmps87
    rw [hl]
    go_wp2_with fail
    go_loopw [13] (fun i wr => ∃ k : Nat, k ≤ ys.length ∧ i = .int .i64 k ∧ xs.take k = ys.take k ∧ Ext w wr)
      (fun i _ => ys.length - (intOf i).toNat)
    case atStart => exact ⟨0, Nat.zero_le _, rfl, by simp, Ext.refl _⟩
    case round =>
      obtain ⟨k, hk, rfl, heq, hx⟩ := hrel
      have HX := Lib.hid hx; clear hx
      by_cases hlt : k < ys.length
      · obtain ⟨b, off, rfl, hc⟩ := Hu.out k (by omega)
        obtain ⟨b2, off2, rfl, hc2⟩ := Hv.out k hlt
        replace hc := HX.out.keeps.cell hc trivial
        replace hc2 := HX.out.keeps.cell hc2 trivial
        have hts := take_snoc xs k ⟨#[]⟩ (by omega)
        have hts2 := take_snoc ys k ⟨#[]⟩ hlt
        have hg : xs[k]? = ys[k]? ↔ xs[k]?.getD ⟨#[]⟩ = ys[k]?.getD ⟨#[]⟩ := by
          rw [List.getElem?_eq_getElem hlt, List.getElem?_eq_getElem (show k < xs.length by omega)]; simp
        obtain ⟨x, hx⟩ : ∃ x, xs[k]?.getD ⟨#[]⟩ = x := ⟨_, rfl⟩
        obtain ⟨y, hy⟩ : ∃ y, ys[k]?.getD ⟨#[]⟩ = y := ⟨_, rfl⟩
        rw [hx] at hc hts hg
        rw [hy] at hc2 hts2 hg
        have Hg := Lib.hid hg
        have Ht := Lib.hid hts
        have Ht2 := Lib.hid hts2
        have He := Lib.hid heq
        clear hx hy hg hts hts2 heq
        by_cases hxy : x = y
        · subst hxy
          have hxb : (x.toList == x.toList) = true := by simp
          go_wp2_with fail
          refine wp_region_still hmx (by kernel_rfl) ?_
          repeat still_step
          refine wpStill_nil ?_
          go_wp2
          go_roundw
          case rel => exact ⟨k + 1, by omega, by simp, by rw [Ht.out, Ht2.out, He.out], HX.out.drew⟩
          case measure => simp [intOf]; omega
        · have hxb : (x.toList == y.toList) = false := beq_eq_false_iff_ne.2 fun h => hxy (text_inj h)
          go_wp2_with fail
          refine wp_region_still hmx (by kernel_rfl) ?_
          repeat still_step
          refine wpStill_nil ?_
          go_wp2
          go_ret
          exact ⟨by rw [decide_eq_false (fun h0 => hxy (Hg.out.1 (by rw [h0])))]; rfl, HX.out.drew⟩
      · obtain rfl : k = ys.length := by omega
        rw [List.take_length] at heq
        have He : Hid (xs = ys) := Lib.hid (by rw [← heq, ← Hl.out, List.take_length])
        clear heq hlt hk
        go_wp2
        go_ret
        exact ⟨by rw [decide_eq_true He.out]; rfl, HX.out⟩
  · have hl' : ((xs.length : Int) == (ys.length : Int)) = false := by rw [beq_eq_false_iff_ne]; omega
    go_enter Try.func87, Try.ntmps87
    go_wp2
    go_ret
    exact ⟨by rw [decide_eq_false (fun h0 => hl (by rw [h0]))]; rfl, Ext.refl _⟩

set_option maxRecDepth 100000 in
set_option maxHeartbeats 2000000 in
theorem eqEl_any (g : Nat) (p q : El) (w : World) (hp : OkEl g w p) (hq : OkEl g w q) :
    Calls Try.prog 86 #[p.agg, q.agg] w fun e w' => e = .returned (.bool (decide (p.key = q.key))) ∧ Ext w w' := by
  have HP := Lib.hid hp; clear hp
  have HQ := Lib.hid hq; clear hq
  go_enter Try.func86, Try.ntmps86
  rw [El.agg, El.agg, El.pv, El.pv]
  go_wp2_with fail
  have hx : Ext w ((w.alloc (.cells #[.string p.name, p.pv] 86)).alloc (.cells #[.string q.name, q.pv] 86)) := ((Ext.refl _).alloc _).alloc _
  refine (Equal_any p.pv q.pv p.key q.key _ (HP.out.ext hx).key (HQ.out.ext hx).key (by have := HP.out.len; omega)).mono ?_
  rintro e w' ⟨rfl, hx2⟩
  have HX : Hid (Ext w w') := Lib.hid (hx.trans hx2)
  clear hx hx2
  obtain ⟨c, hc⟩ : ∃ c, decide (p.key = q.key) = c := ⟨_, rfl⟩
  rw [hc]
  have Hc := Lib.hid hc
  clear hc
  go_wp2
  go_ret
  exact ⟨by rw [Hc.out]; rfl, HX.out⟩

end Go.Proofs.Ytmmjhdkoccpdjaa
