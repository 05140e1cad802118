/- What rdata's Fold does. Conditions: bytes of a bound. -/
import Derived.Test.YteoelhhkdfmaiaaRdG
namespace Go.Proofs.Yteoelhhkdfmaiaa
open Go Go.RowKit Go.Shelf
attribute [local go_sem] Oper.semAt_some wide_fn wide_depth

def apF (q : Wr) : It → Wr
  | .num k x => apW false q (.num k x)
  | .raw b => apW false q (.raw b)
  | .name n => nameW q (foldS n) false
def boxW (W : World) (L B : Nat) : Prop := W.heap[L]? = some (.cells #[.pointer (some ⟨B, 0, none⟩)] 46 (0, 0))
def InvF (R B L : Nat) (G : Nat → Prop) (q : Wr) (W : World) : Prop := InvW B (fun j => G j ∨ j = L) q W ∧ boxW W L B ∧ L ≠ R

set_option maxRecDepth 100000 in
set_option maxHeartbeats 2000000 in
theorem Fold1_any (R B L : Nat) (G : Nat → Prop) (q : Wr) (n : ByteArray) (w : World) (hn : n.size ≤ 255) (h : InvF R B L G q w) :
    Calls Try.prog 68 #[.string n, .pointer (some ⟨L, 0, none⟩)] w fun e w' => (∃ v, e = .returned v) ∧ InvF R B L G (nameW q (foldS n) false) w' ∧ Keeps G w w' := by
  obtain ⟨⟨hw, hq⟩, hb, hLR⟩ := h
  have hz : (foldS n).size = n.size := by show ((n.data.toList.map foldB).toArray).size = n.data.size; simp
  have CF := Lib.hid fun W => Fold_any n W (by unfold maxLen; omega)
  have CW := Lib.hid fun W h => WFull_any B (fun j => G j ∨ j = L) q (foldS n) W h hq (by rw [hz]; unfold maxLen; omega)
  have hc : w.cell? ⟨L, 0, none⟩ = some (.pointer (some ⟨B, 0, none⟩)) := by unfold boxW at hb; simp [World.cell?, hb]
  have Hw := Lib.hid hw; clear hw
  have Hb := Lib.hid hb; clear hb
  have Hq := Lib.hid (nameW_ok (foldS n) false hq)
  clear hz hq
  go_enter Try.func68, Try.ntmps68
  go_wp2_with fail
  go_region_with (first
    | (go_at_call 70; refine (CF.out w.drew).mono ?_; rintro e w1 ⟨rfl, hx⟩; have Hx := Lib.hid (Ext.trans ((Ext.refl w).drew) hx); have hc1 := Hx.out.keeps.heap Hb.out trivial; have hc2 : w1.cell? ⟨L, 0, none⟩ = some (.pointer (some ⟨B, 0, none⟩)) := (by simp [World.cell?, hc1]); clear hc1 hx)
    | (go_at_call 69; refine (CW.out _ (Hw.out.ext Hx.out)).mono ?_; rintro e w2 ⟨⟨v, rfl⟩, hw2, hk2⟩; have HP := Lib.hid (And.intro hw2 hk2); clear hw2 hk2))
  all_goals
    have Hx2 := Lib.hid (Hx.out.keeps.heap Hb.out trivial)
    have Hk : Hid (Keeps (fun j => G j ∨ j = L) w w2) := Lib.hid ((Hx.out.keeps.mono fun _ _ _ => trivial).trans HP.out.2)
    have Hb2 := Lib.hid (Hk.out.heap Hb.out (.inr rfl))
    go_wp2
    go_end0
    exact ⟨⟨_, rfl⟩, ⟨⟨HP.out.1, Hq.out⟩, Hb2.out, hLR⟩, Hk.out.mono fun _ _ h => .inl h⟩

theorem invF_num (R B L : Nat) (G : Nat → Prop) (q q' : Wr) (w : World) (f : Nat) (args : Array Value) (hq : q'.ok) (h : InvF R B L G q w)
    (c : Calls Try.prog f args w fun e w' => (∃ v, e = .returned v) ∧ WrAt w' B (fun j => G j ∨ j = L) q' ∧ Keeps (fun j => G j ∨ j = L) w w') :
    Calls Try.prog f args w fun e w' => (∃ v, e = .returned v) ∧ InvF R B L G q' w' ∧ Keeps G w w' :=
  c.mono fun _ _ ⟨a, b, k⟩ => ⟨a, ⟨⟨b, hq⟩, k.heap h.2.1 (.inr rfl), h.2.2⟩, k.mono fun _ _ h => .inl h⟩
theorem takes_fold (R B L : Nat) : Takes R B 68 #[] #[.pointer (some ⟨L, 0, none⟩)] apF (InvF R B L) (fun _ _ => True) where
  rle := fun _ _ _ _ _ => trivial
  rnum := fun _ _ _ _ _ => trivial
  rname := fun _ _ _ _ => trivial
  eg := enters_of Try.func68 (by kernel_rfl) rfl
  turn := fun G s W W' h hR k => ⟨⟨h.1.1.turned k (fun j hj e => hj (.inl (e ▸ hR))), h.1.2⟩, k.heap h.2.1 h.2.2, h.2.2⟩
  grow := fun G s W W' h x => ⟨⟨(h.1.1.more x).mono (fun j hj => by
    rcases hj with (hj | hj) | hj
    · exact .inl (.inl hj)
    · exact .inr hj
    · exact .inl (.inr hj)), h.1.2⟩, x.keeps.heap h.2.1 trivial, h.2.2⟩
  mono := fun G G' s W h hg => ⟨⟨h.1.1.mono (fun j hj => hj.imp (hg j) id), h.1.2⟩, h.2⟩
  num := fun G s W k x h hk hx => invF_num R B L G s _ W _ _ (apW_ok h.1.2 false (.num k x)) h (WNum_any B _ s k x W h.1.1 h.1.2 (by omega) hx)
  raw := fun G s W x h hx => invF_num R B L G s _ W _ _ (apW_ok h.1.2 false (.raw x)) h (WRaw_any B _ s x W h.1.1 h.1.2 hx)
  name := fun G s W n h hn _ => Fold1_any R B L G s n W hn h

theorem foldF_ok : ∀ (l : List It) (q : Wr), q.ok → (l.foldl apF q).ok
  | [], _, h => h
  | i :: l, q, h => foldF_ok l (apF q i) (by
    cases i with
    | num k x => exact apW_ok h false _
    | raw b => exact apW_ok h false _
    | name n => exact nameW_ok _ false h)
/-- What Fold answers. -/
def smallR (t : Int) (d : ByteArray) : ByteArray := if rightB t d then (outR ((itsOf t d).foldl apF newW)).1 else d
set_option maxRecDepth 100000 in
set_option maxHeartbeats 4000000 in
theorem DFold_any (t : Int) (d : ByteArray) (w : World) (hd : d.size ≤ 4294967296) :
    Calls Try.prog 24 #[.int .u16 t, .string d] w fun e w' => e = .returned (.string (smallR t d)) ∧ Ext w w' := by
  have CR := Lib.hid (isRight_any t d w hd)
  have hok : (⟨d, 0, false⟩ : Rd).ok := ⟨Nat.zero_le _, by show d.size ≤ _; omega⟩
  have CC := Lib.hid fun R B L G hG W h hi => carry_any t R B 68 #[] #[.pointer (some ⟨L, 0, none⟩)] apF (InvF R B L) (fun _ _ => True) (takes_fold R B L) G hG ⟨d, 0, false⟩ newW W h hok hd hi trivial
  have hs : smallR t d = if rightB t d then (outR ((itsOf t d).foldl apF newW)).1 else d := rfl
  rw [show (readPcs (pieces t) ⟨d, 0, false⟩).1 = itsOf t d from rfl] at CC
  obtain ⟨q, hq⟩ : ∃ q, (itsOf t d).foldl apF newW = q := ⟨_, rfl⟩
  rw [hq] at CC hs
  have CO := Lib.hid fun B G W h => Out_any B G q W h
  obtain ⟨⟨x, y⟩, hx⟩ : ∃ z, outR q = z := ⟨_, rfl⟩
  rw [hx] at CO hs
  have Hs := Lib.hid hs
  clear hs hx hq hok hd
  obtain ⟨b, hb⟩ : ∃ b, rightB t d = b := ⟨_, rfl⟩
  rw [hb] at CR Hs
  clear hb
  go_enter Try.func24, Try.ntmps24
  go_wp2_with fail
  refine CR.out.mono ?_
  rintro e w1 ⟨rfl, hx⟩
  have Hx := Lib.hid hx; clear hx
  cases b with
  | false =>
    go_wp2
    go_ret
    exact ⟨by rw [Hs.out]; rfl, Hx.out⟩
  | true =>
    go_wp2_with fail
    refine (New_any 4096 _).mono ?_
    rintro e w2 ⟨rfl, hw2, hx2⟩
    have Hw2 := Lib.hid hw2
    have Hx2 := Lib.hid hx2
    have HB2 : Hid (w1.heap.size + 1 < w2.heap.size) := Lib.hid (by obtain ⟨mb, bv, h⟩ := hw2; exact h.lt.1)
    clear hw2 hx2
    obtain ⟨B, hB⟩ : ∃ B, w1.heap.size + 1 = B := ⟨_, rfl⟩
    have HB := Lib.hid hB
    rw [hB] at Hw2 HB2 ⊢
    clear hB
    go_wp2_with fail
    obtain ⟨L, hL⟩ : ∃ L, w2.heap.size = L := ⟨_, rfl⟩
    obtain ⟨w3, hw3⟩ : ∃ w3, w2.alloc (Obj.cells #[.pointer (some ⟨B, 0, none⟩)] 46) = w3 := ⟨_, rfl⟩
    have hb3 : boxW w3 L B := by rw [← hw3, ← hL]; exact World.alloc_heap_new w2 _
    have hw23 : Ext w2 w3 := hw3 ▸ (Ext.refl w2).alloc _
    have hw3' := Hw2.out.ext hw23
    have hL3 : L < w3.heap.size := (Array.getElem?_eq_some_iff.1 hb3).1
    rw [hw3, hL]
    have hc3 : w3.cell? ⟨L, 0, none⟩ = some (.pointer (some ⟨B, 0, none⟩)) := by unfold boxW at hb3; simp [World.cell?, hb3]
    have Hb3 := Lib.hid hb3
    have Hw23 := Lib.hid hw23
    have HL3 := Lib.hid hL3
    have HL := Lib.hid hL
    have CX : Hid (∀ w4, RdAt w4 w3.heap.size ⟨d, 0, false⟩ → Ext w3 w4 → Calls Try.prog 66 #[.int .u16 t, .pointer (some ⟨w3.heap.size, 0, none⟩), .pointer (some ⟨B, 0, none⟩), .func (.func 68) #[] #[.pointer (some ⟨L, 0, none⟩)]] w4 fun e w' =>
        (∃ v, e = .returned v) ∧ (∃ G, WrAt w' B G q) ∧ boxW w' L B ∧ Ext w w') := Lib.hid fun w4 hr4 hx4 => by
      have hR : w3.heap.size < w4.heap.size := (Array.getElem?_eq_some_iff.1 hr4).1
      have h23 := Hw23.out.size
      have hL' := HL.out
      have hL3' := HL3.out
      have hw4 := Hw2.out.more (Hw23.out.trans hx4)
      refine (CC.out w3.heap.size B L (fun k => k < w1.heap.size ∨ (w2.heap.size ≤ k ∧ k < w4.heap.size)) (.inr ⟨h23, hR⟩) w4 hr4 ⟨⟨hw4.mono fun j hj => ?_, newW_ok⟩, hx4.keeps.heap Hb3.out trivial, by omega⟩).mono ?_
      · rcases hj with hj | hj
        · exact hj
        · subst hj; exact .inr ⟨by omega, by omega⟩
      · rintro e w5 ⟨hv, _, ⟨⟨hw5, _⟩, hb5, _⟩, hk5⟩
        refine ⟨hv, ⟨_, hw5⟩, hb5, ?_⟩
        have hx14 : Ext w1 w4 := Hx2.out.trans (Hw23.out.trans hx4)
        have hk15 := (hx14.keeps.mono (K' := fun j => (j < w1.heap.size ∨ (w2.heap.size ≤ j ∧ j < w4.heap.size)) ∧ j ≠ w3.heap.size) fun _ _ _ => trivial).trans hk5
        have hs12 := Hx2.out.size
        exact Hx.out.trans (hk15.ext fun k hk => ⟨.inl hk, by omega⟩)
    clear hb3 hw23 hw3' hL3 hL hw3
    go_region_with (first
      | (go_at_call 36; refine (Open_any d _).mono ?_; rintro e w4 ⟨rfl, hr4, hx4⟩; have Hx4 := Lib.hid (Ext.trans ((Ext.refl w3).drew) hx4); have hc4 := Hx4.out.keeps.heap Hb3.out trivial; have hc5 : w4.cell? ⟨L, 0, none⟩ = some (.pointer (some ⟨B, 0, none⟩)) := (by simp [World.cell?, hc4]); have Hr4 := Lib.hid hr4; clear hr4 hc4 hx4)
      | (go_at_call 66; refine (CX.out w4 Hr4.out Hx4.out).mono ?_; rintro e w5 ⟨⟨v, rfl⟩, hw5, hb5, hx5⟩; have HP := Lib.hid (And.intro hw5 (And.intro hb5 hx5)); clear hw5 hb5 hx5))
    all_goals
      obtain ⟨G, hwG⟩ := HP.out.1
      have hb5 := HP.out.2.1
      have hc6 : w5.cell? ⟨L, 0, none⟩ = some (.pointer (some ⟨B, 0, none⟩)) := by unfold boxW at hb5; simp [World.cell?, hb5]
      have HwG := Lib.hid hwG
      clear hwG hb5 hc3 hc5
      go_wp2_with fail
      refine (CO.out _ _ _ HwG.out).mono ?_
      rintro e w6 ⟨rfl, rfl⟩
      go_wp2
      go_ret
      exact ⟨by rw [Hs.out]; rfl, HP.out.2.2⟩

end Go.Proofs.Yteoelhhkdfmaiaa
