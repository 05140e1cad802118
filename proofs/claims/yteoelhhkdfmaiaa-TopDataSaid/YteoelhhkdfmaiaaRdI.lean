/- What rdata's Names does. Conditions: bytes of a bound. -/
import Derived.Test.YteoelhhkdfmaiaaRdH
import Derived.Test.YteoelhhkdfmaiaaPackX
import Derived.Test.YteoelhhkdfmaiaaSortM
namespace Go.Proofs.Yteoelhhkdfmaiaa
open Go Go.RowKit Go.Shelf
attribute [local go_sem] Oper.semAt_some wide_fn wide_depth

def apN (s : Wr × List ByteArray) : It → Wr × List ByteArray
  | .num k x => (apW false s.1 (.num k x), s.2)
  | .raw b => (apW false s.1 (.raw b), s.2)
  | .name n => (s.1, s.2 ++ [n])
structure NamesIs (B L : Nat) (G G0 : Nat → Prop) (s : Wr × List ByteArray) (W : World) (v : Value) : Prop where
  wr : WrAt W B G0 s.1
  ok : s.1.ok
  sub : ∀ j, G j → G0 j
  hL : G0 L
  row : ∀ j, v.ownBlock = some j → G0 j
  box : Boxed W L 22 v
  own : W.ownsRow 0 9 1 v s.2.length (s.2.map Value.string)
  out : ∀ j, G j → j ≠ L ∧ v.ownBlock ≠ some j
  rowL : v.ownBlock ≠ some L
def InvN (B L : Nat) (G : Nat → Prop) (s : Wr × List ByteArray) (W : World) : Prop := ∃ v G0, NamesIs B L G G0 s W v
def RoomN (s : Wr × List ByteArray) (m : Nat) : Prop := s.2.length + m ≤ 1000

set_option maxRecDepth 100000 in
set_option maxHeartbeats 2000000 in
theorem Names1_any (B L : Nat) (G : Nat → Prop) (s : Wr × List ByteArray) (n : ByteArray) (w : World) (hm : RoomN s 1) (h : InvN B L G s w) :
    Calls Try.prog 67 #[.string n, .pointer (some ⟨L, 0, none⟩)] w fun e w' => (∃ v, e = .returned v) ∧ InvN B L G (apN s (.name n)) w' ∧ Keeps G w w' := by
  obtain ⟨v, G0, h⟩ := h
  obtain ⟨q, l⟩ := s
  unfold RoomN at hm
  simp only at hm
  have hown0 := h.own
  obtain ⟨lo, c, rfl⟩ := ownsRow_slice h.own
  have hc := h.box.cell
  have hfz := h.box.frozen
  obtain ⟨v', w7, hap, hown7, hgr, hwh⟩ := append_string w (.slice lo l.length c) l.length _ hown0 n (by omega)
  obtain ⟨lo', c', hv'⟩ := ownsRow_slice hown7
  have hk7 : ∀ K : Nat → Prop, (∀ j, K j → Value.ownBlock (.slice lo l.length c) ≠ some j) → Keeps K w w7 := fun K hK => ((Keeps.refl K w).alloc _).grown hgr (fun j e hj => hK j hj e)
  have hL7 : Boxed w7 L 22 (.slice lo l.length c) := (hk7 (fun j => j = L) (fun j hj => hj ▸ h.rowL)).heap h.box rfl
  have hk8 : ∀ K : Nat → Prop, (∀ j, K j → j ≠ L ∧ Value.ownBlock (.slice lo l.length c) ≠ some j) → Keeps K w (w7.setCell ⟨L, 0, none⟩ v') := fun K hK => (hk7 K fun j hj => (hK j hj).2).setCell (p := ⟨L, 0, none⟩) (fun hj => (hK L hj).1 rfl) _
  have hLw : L < w.heap.size := h.box.lt
  have hnL : v'.ownBlock ≠ some L := by
    rcases hwh with e | e
    · rw [e]; exact h.rowL
    · intro e'; have := e L e'; omega
  have h8 : NamesIs B L G (fun j => G0 j ∨ (w.heap.size ≤ j ∧ j < (w7.setCell ⟨L, 0, none⟩ v').heap.size)) (q, l ++ [n]) (w7.setCell ⟨L, 0, none⟩ v') v' := by
    refine ⟨h.wr.grown (K := fun j => j ≠ L ∧ Value.ownBlock (.slice lo l.length c) ≠ some j) (hk8 _ fun _ h => h) (fun j hj => ⟨fun e => hj (e ▸ h.hL), fun e => hj (h.row j e)⟩), h.ok, fun j hj => .inl (h.sub j hj), .inl h.hL, fun j hj => ?_, hL7.set v', ?_, fun j hj => ⟨(h.out j hj).1, ?_⟩, hnL⟩
    · rcases hwh with e | e
      · exact .inl (h.row j (e ▸ hj))
      · refine .inr ⟨e j hj, ?_⟩
        have := (hown7.lt j hj).2
        simpa [World.setCell] using this
    · have h9 : w7.ownsRow 0 9 1 v' (l ++ [n]).length ((l ++ [n]).map Value.string) := by simpa using hown7
      exact ((Keeps.refl (fun j => j ≠ L) w7).setCell (p := ⟨L, 0, none⟩) (fun h => h rfl) v').ownsRow2 h9 (fun j hj e => hnL (e ▸ hj))
    · rcases hwh with e | e
      · rw [e]; exact (h.out j hj).2
      · intro e'
        have h1 := e j e'
        obtain ⟨mb, bv, hw⟩ := h.wr
        have := (hw.out j (h.sub j hj)).1
        omega
  have H8 := Lib.hid h8
  have HK := Lib.hid (hk8 G h.out)
  have hc7 := hL7.cell
  have hf7 := hL7.frozen
  have Hap := Lib.hid hap
  clear h8 hk8 hk7 hap hown7 hgr hwh hown0 hL7 hnL
  subst hv'
  obtain ⟨k, hk⟩ : ∃ k, l.length = k := ⟨_, rfl⟩
  rw [hk] at Hap hc hc7 H8 HK
  clear hk h hm
  go_enter Try.func67, Try.ntmps67
  go_wp2_with (at_builtin; refine wpList_append_run rfl _ _ 22 22 rfl rfl rfl Hap.out ?_)
  go_wp2
  go_end0
  exact ⟨⟨_, rfl⟩, ⟨_, _, H8.out⟩, HK.out⟩

theorem invN_step (B L : Nat) (G : Nat → Prop) (q q' : Wr) (l : List ByteArray) (w : World) (f : Nat) (args : Array Value) (hq : q'.ok) (h : InvN B L G (q, l) w)
    (c : ∀ G0, WrAt w B G0 q → Calls Try.prog f args w fun e w' => (∃ v, e = .returned v) ∧ WrAt w' B G0 q' ∧ Keeps G0 w w') :
    Calls Try.prog f args w fun e w' => (∃ v, e = .returned v) ∧ InvN B L G (q', l) w' ∧ Keeps G w w' := by
  obtain ⟨v, G0, h⟩ := h
  exact (c G0 h.wr).mono fun _ _ ⟨a, b, k⟩ => ⟨a, ⟨v, G0, b, hq, h.sub, h.hL, h.row, k.heap h.box h.hL, k.ownsRow2 h.own h.row, h.out, h.rowL⟩, k.mono fun j _ hj => h.sub j hj⟩
theorem takes_names (R B L : Nat) : Takes R B 67 #[] #[.pointer (some ⟨L, 0, none⟩)] apN (InvN B L) RoomN where
  rle := fun s m m' h hm => by unfold RoomN at *; omega
  rnum := fun s k x m h => h
  rname := fun s n m h => by unfold RoomN at *; show (s.2 ++ [n]).length + m ≤ 1000; rw [List.length_append, List.length_singleton]; omega
  eg := enters_of Try.func67 (by kernel_rfl) rfl
  turn := fun G s W W' ⟨v, G0, h⟩ hR k => ⟨v, G0, h.wr.turned k (fun j hj e => hj (e ▸ h.sub R hR)), h.ok, h.sub, h.hL, h.row, k.heap h.box (fun e => (h.out R hR).1 e.symm), k.ownsRow2 h.own (fun j hj e => (h.out R hR).2 (e ▸ hj)), h.out, h.rowL⟩
  grow := fun G s W W' ⟨v, G0, h⟩ x => ⟨v, _, h.wr.more x, h.ok, fun j hj => hj.imp (h.sub j) id, .inl h.hL, fun j hj => .inl (h.row j hj), x.keeps.heap h.box trivial, x.keeps.ownsRow2 h.own (fun _ _ => trivial), fun j hj => by
    rcases hj with hj | hj
    · exact h.out j hj
    · exact ⟨by have := h.box.lt; omega, fun e => by have := (h.own.lt j e).2; omega⟩, h.rowL⟩
  mono := fun G G' s W ⟨v, G0, h⟩ hg => ⟨v, G0, h.wr, h.ok, fun j hj => h.sub j (hg j hj), h.hL, h.row, h.box, h.own, fun j hj => h.out j (hg j hj), h.rowL⟩
  num := fun G s W k x h hk hx => by
    obtain ⟨q, l⟩ := s
    have hq : q.ok := by obtain ⟨v, G0, h⟩ := h; exact h.ok
    exact invN_step B L G q _ l W _ _ (apW_ok hq false (.num k x)) h (fun G0 hw => WNum_any B G0 q k x W hw hq (by omega) hx)
  raw := fun G s W x h hx => by
    obtain ⟨q, l⟩ := s
    have hq : q.ok := by obtain ⟨v, G0, h⟩ := h; exact h.ok
    exact invN_step B L G q _ l W _ _ (apW_ok hq false (.raw x)) h (fun G0 hw => WRaw_any B G0 q x W hw hq hx)
  name := fun G s W n h hn hm => Names1_any B L G s n W hm h

/-- The names of pieces. -/
def namesI : List It → List ByteArray
  | [] => []
  | .name n :: r => n :: namesI r
  | .num _ _ :: r => namesI r
  | .raw _ :: r => namesI r
theorem apN_names : ∀ (l : List It) (s : Wr × List ByteArray), (l.foldl apN s).2 = s.2 ++ namesI l
  | [], s => by simp [namesI]
  | .name n :: r, s => by rw [List.foldl_cons, apN_names r]; simp [apN, namesI]
  | .num k x :: r, s => by rw [List.foldl_cons, apN_names r]; simp [apN, namesI]
  | .raw b :: r, s => by rw [List.foldl_cons, apN_names r]; simp [apN, namesI]
/-- What Names answers. -/
def namesD (t : Int) (d : ByteArray) : List ByteArray := if rightB t d then namesI (itsOf t d) else []
set_option maxRecDepth 100000 in
set_option maxHeartbeats 4000000 in
theorem DNames_any (t : Int) (d : ByteArray) (w : World) (hd : d.size ≤ 4294967296) :
    Calls Try.prog 22 #[.int .u16 t, .string d] w fun e w' => ∃ v, e = .returned v ∧ Strs w' v (namesD t d) ∧ Ext w w' := by
  have CR := Lib.hid (isRight_any t d w hd)
  have hok : (⟨d, 0, false⟩ : Rd).ok := ⟨Nat.zero_le _, by show d.size ≤ _; omega⟩
  have CC := Lib.hid fun R B L G hG W h hi => carry_any t R B 67 #[] #[.pointer (some ⟨L, 0, none⟩)] apN (InvN B L) RoomN (takes_names R B L) G hG ⟨d, 0, false⟩ (newW, []) W h hok hd hi (by unfold RoomN; decide)
  have hs : namesD t d = if rightB t d then namesI (itsOf t d) else [] := rfl
  rw [show (readPcs (pieces t) ⟨d, 0, false⟩).1 = itsOf t d from rfl] at CC
  have hn := apN_names (itsOf t d) (newW, [])
  rw [List.nil_append] at hn
  obtain ⟨⟨q, l⟩, hq⟩ : ∃ q, (itsOf t d).foldl apN (newW, []) = q := ⟨_, rfl⟩
  rw [hq] at CC hn
  rw [← hn] at hs
  simp only at hs
  have Hs := Lib.hid hs
  clear hs hq hok hd hn
  obtain ⟨b, hb⟩ : ∃ b, rightB t d = b := ⟨_, rfl⟩
  rw [hb] at CR Hs
  clear hb
  go_enter Try.func22, Try.ntmps22
  go_wp2_with fail
  refine CR.out.mono ?_
  rintro e w1 ⟨rfl, hx⟩
  have Hx := Lib.hid hx; clear hx
  cases b with
  | false =>
    go_wp2
    go_ret
    exact ⟨_, rfl, by rw [Hs.out]; exact .inl ⟨rfl, rfl⟩, Hx.out⟩
  | true =>
    go_wp2_with fail
    obtain ⟨L, hL⟩ : ∃ L, w1.heap.size = L := ⟨_, rfl⟩
    obtain ⟨w2, hw2⟩ : ∃ w2, w1.alloc (Obj.cells #[.slice none 0 0] 22) = w2 := ⟨_, rfl⟩
    have hb2 : Boxed w2 L 22 (.slice none 0 0) := by rw [← hw2, ← hL]; exact Boxed.new w1 _ _
    have hx12 : Ext w1 w2 := hw2 ▸ (Ext.refl w1).alloc _
    have Hb2 := Lib.hid hb2
    have Hx2 := Lib.hid (Hx.out.trans hx12)
    have HL2 : Hid (w.heap.size ≤ L ∧ L < w2.heap.size) := Lib.hid ⟨by have := Hx.out.size; omega, hb2.lt⟩
    rw [hw2, hL]
    clear hb2 hx12 hw2 hL
    refine (Open_any d _).mono ?_
    rintro e w3 ⟨rfl, hr3, hx3⟩
    have Hr3 := Lib.hid hr3
    have Hx3 := Lib.hid hx3
    have HR3 : Hid (w2.heap.size < w3.heap.size) := Lib.hid (Array.getElem?_eq_some_iff.1 hr3).1
    clear hr3 hx3
    go_wp2_with fail
    refine (New_any 4096 _).mono ?_
    rintro e w4 ⟨rfl, hw4, hx4⟩
    have HB4 : Hid (w3.heap.size + 1 < w4.heap.size) := Lib.hid (by obtain ⟨mb, bv, h⟩ := hw4; exact h.lt.1)
    have Hi4 : Hid (InvN (w3.heap.size + 1) L (fun k => k < w3.heap.size ∧ k ≠ L) (newW, []) w4) := Lib.hid ⟨.slice none 0 0, (fun k => k < w3.heap.size), hw4, newW_ok, fun j hj => hj.1, by have := HL2.out; have := HR3.out; omega, fun j hj => by simp [Value.ownBlock] at hj, hx4.keeps.heap (Hx3.out.keeps.heap Hb2.out trivial) trivial, World.ownsRow_nil _ _ _ _, fun j hj => ⟨hj.2, by simp [Value.ownBlock]⟩, by simp [Value.ownBlock]⟩
    have Hr4 := Lib.hid (hx4.keeps.rd Hr3.out trivial)
    have Hx4 := Lib.hid (Hx2.out.trans (Hx3.out.trans hx4))
    have hG4 : (fun k => k < w3.heap.size ∧ k ≠ L) w2.heap.size := ⟨HR3.out, by have := HL2.out; omega⟩
    clear hw4 hx4
    go_wp2_with fail
    refine (CC.out w2.heap.size (w3.heap.size + 1) L _ hG4 w4 Hr4.out Hi4.out).mono ?_
    rintro e w5 ⟨⟨v, rfl⟩, _, ⟨v', G0, hi5⟩, hk5⟩
    have hc5 := hi5.box.cell
    obtain ⟨lo, c, hv'⟩ := ownsRow_slice hi5.own
    subst hv'
    have Hst := Lib.hid (strs_of_row (ls := l) (hi5.own))
    have Hx5 : Hid (Ext w w5) := Lib.hid (((Hx4.out.keeps.mono (K' := fun j => (j < w3.heap.size ∧ j ≠ L) ∧ j ≠ w2.heap.size) fun _ _ _ => trivial).trans hk5).ext fun k hk => by
      have h1 := HL2.out
      have h2 := HR3.out
      exact ⟨⟨by omega, by omega⟩, by omega⟩)
    clear hi5 hk5
    simp only at hc5
    obtain ⟨n, hn⟩ : ∃ n, l.length = n := ⟨_, rfl⟩
    rw [hn] at hc5 Hst
    clear hn
    go_wp2
    go_ret
    exact ⟨_, rfl, by rw [Hs.out]; exact Hst.out, Hx5.out⟩

end Go.Proofs.Yteoelhhkdfmaiaa
