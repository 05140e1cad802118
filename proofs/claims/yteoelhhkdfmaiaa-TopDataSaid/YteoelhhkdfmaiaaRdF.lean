/- What rdata's Check, Write, Read, Addr, Least, Texts do. Conditions: bytes of a bound. -/
import Derived.Test.YteoelhhkdfmaiaaRdM
namespace Go.Proofs.Yteoelhhkdfmaiaa
open Go Go.RowKit Go.Shelf
attribute [local go_sem] Oper.semAt_some wide_fn wide_depth

def errR (t : Int) (d : ByteArray) : Int := if rightB t d then 0 else 2
set_option maxRecDepth 100000 in
set_option maxHeartbeats 2000000 in
theorem DCheck_any (t : Int) (d : ByteArray) (w : World) (hd : d.size ≤ 4294967296) :
    Calls Try.prog 20 #[.int .u16 t, .string d] w fun e w' => e = .returned (.int .i64 (errR t d)) ∧ Ext w w' := by
  have CR := Lib.hid (isRight_any t d w hd)
  unfold errR
  cases hb : rightB t d with
  | true =>
    rw [hb] at CR
    go_enter Try.func20, Try.ntmps20
    go_wp2_with fail
    refine CR.out.mono ?_
    rintro e w1 ⟨rfl, hx⟩
    have Hx := Lib.hid hx; clear hx
    go_wp2
    go_ret
    exact ⟨rfl, Hx.out⟩
  | false =>
    rw [hb] at CR
    go_enter Try.func20, Try.ntmps20
    go_wp2_with fail
    refine CR.out.mono ?_
    rintro e w1 ⟨rfl, hx⟩
    have Hx := Lib.hid hx; clear hx
    go_wp2
    go_ret
    exact ⟨rfl, Hx.out⟩

def itsOf (t : Int) (d : ByteArray) : List It := (readPcs (pieces t) ⟨d, 0, false⟩).1
def wroteW (t : Int) (d : ByteArray) (q : Wr) : Wr := if rightB t d then (itsOf t d).foldl (apW (decide (t ≠ 33))) q else q
set_option maxRecDepth 100000 in
set_option maxHeartbeats 4000000 in
theorem DWrite_any (B : Nat) (G : Nat → Prop) (q : Wr) (t : Int) (d : ByteArray) (w : World) (hd : d.size ≤ 4294967296) (h : WrAt w B G q) (hq : q.ok) :
    Calls Try.prog 34 #[.pointer (some ⟨B, 0, none⟩), .int .u16 t, .string d] w fun e w' => e = .returned (.int .i64 (errR t d)) ∧ WrAt w' B G (wroteW t d q) ∧ Keeps G w w' := by
  have CR := Lib.hid fun w => isRight_any t d w hd
  have hGw : ∀ j, G j → j < w.heap.size := by
    obtain ⟨mb, bv, h⟩ := h
    exact fun j hj => (h.out j hj).1
  have HGw := Lib.hid hGw; clear hGw
  have H := Lib.hid h; clear h
  have hok : (⟨d, 0, false⟩ : Rd).ok := ⟨Nat.zero_le _, by show d.size ≤ _; omega⟩
  unfold errR wroteW
  cases hb : rightB t d with
  | false =>
    rw [hb] at CR
    go_enter Try.func34, Try.ntmps34
    go_wp2_with fail
    refine (CR.out _).mono ?_
    rintro e w1 ⟨rfl, hx⟩
    have Hx := Lib.hid hx; clear hx
    go_wp2
    go_ret
    exact ⟨rfl, H.out.ext Hx.out, Hx.out.keeps.mono fun _ _ _ => trivial⟩
  | true =>
    rw [hb] at CR
    rw [if_pos rfl, if_pos rfl]
    by_cases h33 : t = 33
    · subst h33
      rw [show decide ((33 : Int) ≠ 33) = false from rfl]
      have CC := Lib.hid fun R G hG W h hi => carry_any 33 R B 69 #[.pointer (some ⟨B, 0, none⟩)] #[] (apW false) (InvW B) (fun _ _ => True) (takes_full R B) G hG ⟨d, 0, false⟩ q W h hok hd hi trivial
      clear hok hb hd
      go_enter Try.func34, Try.ntmps34
      go_wp2_with fail
      refine (CR.out _).mono ?_
      rintro e w1 ⟨rfl, hx⟩
      have Hx := Lib.hid hx; clear hx
      go_wp2_with fail
      refine (Open_any d _).mono ?_
      rintro e w2 ⟨rfl, hr2, hx2⟩
      have Hr2 := Lib.hid hr2
      have hs2 : w1.heap.size < w2.heap.size := (Array.getElem?_eq_some_iff.1 hr2).1
      have hG2 : (fun j => G j ∨ (w1.heap.size ≤ j ∧ j < w2.heap.size)) w1.heap.size := .inr ⟨Nat.le_refl _, hs2⟩
      have Hi2 := Lib.hid (show InvW B _ q w2 from ⟨(H.out.ext Hx.out).more hx2, hq⟩)
      have Hk2 : Hid (Keeps G w w2) := Lib.hid ((Hx.out.keeps.mono fun _ _ _ => trivial).trans (hx2.keeps.mono fun _ _ _ => trivial))
      have Hs1 : Hid (w.heap.size ≤ w1.heap.size) := Lib.hid Hx.out.size
      clear hr2 hx2 hs2
      go_wp2_with fail
      refine (CC.out _ _ hG2 w2 Hr2.out Hi2.out).mono ?_
      rintro e w3 ⟨⟨v, rfl⟩, _, hi3, hk3⟩
      have Hi3 := Lib.hid (hi3.1.mono (G' := G) fun j hj => .inl hj)
      have Hk3 := Lib.hid (Hk2.out.trans (hk3.mono fun j _ hj => ⟨.inl hj, by have := HGw.out j hj; have := Hs1.out; omega⟩))
      clear hi3 hk3
      go_wp2
      go_ret
      exact ⟨rfl, Hi3.out, Hk3.out⟩
    · have h' : (t == 33) = false := beq_eq_false_iff_ne.2 h33
      rw [show decide (t ≠ 33) = true from decide_eq_true h33]
      have CC := Lib.hid fun R G hG W h hi => carry_any t R B 57 #[.pointer (some ⟨B, 0, none⟩)] #[] (apW true) (InvW B) (fun _ _ => True) (takes_named R B) G hG ⟨d, 0, false⟩ q W h hok hd hi trivial
      clear hok hb hd h33
      go_enter Try.func34, Try.ntmps34
      go_wp2_with fail
      refine (CR.out _).mono ?_
      rintro e w1 ⟨rfl, hx⟩
      have Hx := Lib.hid hx; clear hx
      go_wp2_with fail
      refine (Open_any d _).mono ?_
      rintro e w2 ⟨rfl, hr2, hx2⟩
      have Hr2 := Lib.hid hr2
      have hs2 : w1.heap.size < w2.heap.size := (Array.getElem?_eq_some_iff.1 hr2).1
      have hG2 : (fun j => G j ∨ (w1.heap.size ≤ j ∧ j < w2.heap.size)) w1.heap.size := .inr ⟨Nat.le_refl _, hs2⟩
      have Hi2 := Lib.hid (show InvW B _ q w2 from ⟨(H.out.ext Hx.out).more hx2, hq⟩)
      have Hk2 : Hid (Keeps G w w2) := Lib.hid ((Hx.out.keeps.mono fun _ _ _ => trivial).trans (hx2.keeps.mono fun _ _ _ => trivial))
      have Hs1 : Hid (w.heap.size ≤ w1.heap.size) := Lib.hid Hx.out.size
      clear hr2 hx2 hs2
      go_wp2_with fail
      refine (CC.out _ _ hG2 w2 Hr2.out Hi2.out).mono ?_
      rintro e w3 ⟨⟨v, rfl⟩, _, hi3, hk3⟩
      have Hi3 := Lib.hid (hi3.1.mono (G' := G) fun j hj => .inl hj)
      have Hk3 := Lib.hid (Hk2.out.trans (hk3.mono fun j _ hj => ⟨.inl hj, by have := HGw.out j hj; have := Hs1.out; omega⟩))
      clear hi3 hk3
      go_wp2
      go_ret
      exact ⟨rfl, Hi3.out, Hk3.out⟩

end Go.Proofs.Yteoelhhkdfmaiaa
