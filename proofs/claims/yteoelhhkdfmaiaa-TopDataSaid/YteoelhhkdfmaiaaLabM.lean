/- Several texts in one (Build LabG LabH LabI LabJ LabK LabL). Conditions: each says its own. -/
import Derived.Test.YteoelhhkdfmaiaaBaseM
import Derived.Shelf.Strings.Builder1
import Derived.Lib.Hide
import Derived.Test.YteoelhhkdfmaiaaProg
import Derived.StillTactics

/- What strings.Builder's WriteByte, WriteString and String do to a builder in a block of its own, whose row lies at or behind a given block. Conditions: the text is no longer than 2^47 bytes; String is asked of a text that is not empty. -/
namespace Go.Proofs.Yteoelhhkdfmaiaa
open Go Go.RowKit Go.Shelf

theorem infoByte : (Try.prog.info? 5).map (fun i => (i.zero, i.size, i.bytes)) = some (some (.int .u8 0), 1, 1) := by kernel_rfl
theorem cellsByte : Try.prog.cellsOf 5 = 1 := by kernel_rfl
theorem sizeBuilder : (Try.prog.info? 84).map (·.size) = some 2 := by kernel_rfl
theorem liesBuilder : liesAt Try.prog Try.prog.depth 84 (2 / Try.prog.cellsOf 84) 0 84 1 = true := by kernel_rfl

/-- The builder in block b: its first cell is p, its row, from block base on, holds l. -/
def BAt (b base : Nat) (p : Value) (l : List UInt8) (w : World) : Prop :=
  ∃ v, w.heap[b]? = some (.cells #[p, v] 84 (0, 0)) ∧ w.ownsRow base 5 1 v l.length (Lib.byteCells l) ∧ base ≤ w.heap.size
def BB (b base : Nat) (l : List UInt8) (w : World) : Prop := BAt b base (.pointer none) l w ∨ BAt b base (.pointer (some ⟨b, 0, none⟩)) l w

theorem BAt.keep {b base : Nat} {p : Value} {l : List UInt8} {w w' : World} {K : Nat → Prop} (h : BAt b base p l w) (k : Keeps K w w') (hb : K b) (hr : ∀ k, base ≤ k → K k) : BAt b base p l w' := by
  obtain ⟨v, h1, h2, h3⟩ := h
  exact ⟨v, k.heap h1 hb, k.ownsRow h2 hr, Nat.le_trans h3 k.size⟩
theorem BB.keep {b base : Nat} {l : List UInt8} {w w' : World} {K : Nat → Prop} (h : BB b base l w) (k : Keeps K w w') (hb : K b) (hr : ∀ k, base ≤ k → K k) : BB b base l w' :=
  h.imp (fun h => h.keep k hb hr) (fun h => h.keep k hb hr)
/-- A builder that holds nothing yet may begin its row anywhere. -/
theorem BB.fresh {b base : Nat} {w : World} (h : w.heap[b]? = some (.cells #[.pointer none, .slice none 0 0] 84 (0, 0))) (hb : base ≤ w.heap.size) : BB b base [] w :=
  .inl ⟨_, h, World.ownsRow_nil _ _ _ _, hb⟩
theorem BB.lt {b base : Nat} {l : List UInt8} {w : World} (h : BB b base l w) : b < w.heap.size := by
  rcases h with ⟨v, h, _⟩ | ⟨v, h, _⟩ <;> exact (Array.getElem?_eq_some_iff.1 h).1

set_option maxHeartbeats 1000000 in
set_option maxRecDepth 100000 in
theorem copyCheck_used (b : Nat) (w : World) (h0 : w.cell? ⟨b, 0, none⟩ = some (.pointer (some ⟨b, 0, none⟩))) :
    Calls Try.prog 103 #[.pointer (some ⟨b, 0, none⟩)] w fun e w' => e = .returned (.tuple #[]) ∧ w' = w := by
  obtain ⟨j, hj, _⟩ := Option.map_eq_some_iff.1 sizeBuilder
  go_enter Try.func103, Try.ntmps103
  go_wp2
  rw [Lib.run_neq_ptr_same w _ Try.underlying82 hj]
  go_wp2
  go_end0
  exact ⟨rfl, rfl⟩

set_option maxHeartbeats 1000000 in
set_option maxRecDepth 100000 in
theorem copyCheck_fresh (b : Nat) (w : World) (h0 : w.cell? ⟨b, 0, none⟩ = some (.pointer none)) (hsh : w.shape? b = some (84, 2)) (hfz : w.frozen? ⟨b, 0, none⟩ = false) :
    Calls Try.prog 103 #[.pointer (some ⟨b, 0, none⟩)] w fun e w' => e = .returned (.tuple #[]) ∧ w' = w.setCell ⟨b, 0, none⟩ (.pointer (some ⟨b, 0, none⟩)) := by
  obtain ⟨j, hj, hjs⟩ := Option.map_eq_some_iff.1 sizeBuilder
  go_enter Try.func103, Try.ntmps103
  go_wp2
  rw [Lib.run_to_unsafe w ⟨b, 0, none⟩ Try.underlying82 Try.underlying138 hj (by rw [hjs]; decide) hsh (Nat.zero_lt_succ 1)]
  simp only [Result.andThen]
  rw [Oper.upon_value]
  go_wp2
  rw [run_callFunc_extern Try.func119 (by kernel_rfl) (by kernel_rfl) (by kernel_rfl) (e := Extern.AbiNoEscape.same) (by kernel_rfl)]
  rw [Lib.run_noEscape]
  simp only [Result.andThen]
  rw [Oper.upon_value]
  go_wp2
  rw [Lib.run_from_unsafe w ⟨b, 0, none⟩ Try.underlying138 Try.underlying82 hj hsh liesBuilder]
  simp only [Result.andThen]
  rw [Oper.upon_value]
  go_wp2
  go_end0
  exact ⟨rfl, rfl⟩

/-- Behind copyCheck the builder bears its own address; only its block has turned. -/
theorem copyCheck_any (b base : Nat) (l : List UInt8) (w : World) (h : BB b base l w) :
    Calls Try.prog 103 #[.pointer (some ⟨b, 0, none⟩)] w fun e w' => e = .returned (.tuple #[]) ∧ BAt b base (.pointer (some ⟨b, 0, none⟩)) l w' ∧ Keeps (fun k => k ≠ b) w w' := by
  rcases h with ⟨v, h1, h2, h3⟩ | ⟨v, h1, h2, h3⟩
  · refine (copyCheck_fresh b w (by rw [Lib.cell_of_heap h1]; rfl) (by simp [World.shape?, h1]) (Lib.frozen_of_heap h1 0)).mono ?_
    rintro e w' ⟨rfl, rfl⟩
    have hk : Keeps (fun k => k ≠ b) w (w.setCell ⟨b, 0, none⟩ (.pointer (some ⟨b, 0, none⟩))) := (Keeps.refl _ w).setCell (p := ⟨b, 0, none⟩) (fun h => h rfl) _
    refine ⟨rfl, ⟨v, ?_, ?_, Nat.le_trans h3 hk.size⟩, hk⟩
    · have hlt := (Array.getElem?_eq_some_iff.1 h1).1
      show (w.heap.modify b _)[b]? = _
      rw [Array.getElem?_eq_getElem (by rw [Array.size_modify]; exact hlt), Array.getElem_modify_self, (Array.getElem?_eq_some_iff.1 h1).2]
      rfl
    · have hne := Lib.ownBlock_ne h2 h1 (by decide)
      exact h2.kept (grownBy_setCell' w b _) (.inr hne)
  · refine (copyCheck_used b w (by rw [Lib.cell_of_heap h1]; rfl)).mono ?_
    rintro e w' ⟨rfl, rfl⟩
    exact ⟨rfl, ⟨v, h1, h2, h3⟩, Keeps.refl _ _⟩

/-- What the field's store leaves. -/
theorem BAt.put {b base : Nat} {p v v' : Value} {l : List UInt8} {w : World} (hb : w.heap[b]? = some (.cells #[p, v] 84 (0, 0))) (hown : w.ownsRow base 5 1 v' l.length (Lib.byteCells l)) (hw : base ≤ w.heap.size) :
    BAt b base p l (w.setCell ⟨b, 1, none⟩ v') := by
  refine ⟨v', ?_, ?_, Nat.le_trans hw (by simp [World.setCell])⟩
  · have hlt := (Array.getElem?_eq_some_iff.1 hb).1
    show (w.heap.modify b _)[b]? = _
    rw [Array.getElem?_eq_getElem (by rw [Array.size_modify]; exact hlt), Array.getElem_modify_self, (Array.getElem?_eq_some_iff.1 hb).2]
    rfl
  · have hne := Lib.ownBlock_ne hown hb (by decide)
    exact ((Keeps.refl (fun k => k ≠ b) w).setCell (p := ⟨b, 1, none⟩) (fun h => h rfl) v').ownsRow' hown hne

set_option maxHeartbeats 2000000 in
set_option maxRecDepth 100000 in
theorem WriteByte_any (b base : Nat) (l : List UInt8) (x : UInt8) (c : Int) (hx : (x.toNat : Int) = c) (w : World) (h : BB b base l w) (hlen : l.length + 1 ≤ 140737488355328) :
    Calls Try.prog 76 #[.pointer (some ⟨b, 0, none⟩), .int .u8 c] w fun e w' => e = .returned .nilIface ∧ BB b base (l ++ [x]) w' ∧ Keeps (fun k => k ≠ b ∧ k < base) w w' := by
  obtain ⟨i0, hi, hz0, hz1, hz2⟩ := info_parts infoByte
  have H := Lib.hid (copyCheck_any b base l w h)
  have Hx := Lib.hid hx; clear hx
  clear h
  go_enter Try.func76, Try.ntmps76
  go_wp2_with (go_at_call 103; refine H.out.mono ?_)
  rintro e w1 ⟨rfl, ⟨v, hbk, hown, hbw⟩, hk1⟩
  have hne := Lib.ownBlock_ne hown hbk (by decide)
  have c0 : w1.cell? ⟨b, 0, none⟩ = some (.pointer (some ⟨b, 0, none⟩)) := by rw [Lib.cell_of_heap hbk]; rfl
  have c1 : w1.cell? ⟨b, 1, none⟩ = some v := by rw [Lib.cell_of_heap hbk]; rfl
  have Hk1 := Lib.hid hk1; clear hk1
  have Hne := Lib.hid hne; clear hne
  have Hbk := Lib.hid hbk; clear hbk
  clear H
  go_wp2_with (at_builtin; refine wpList_append_own _ rfl _ _ 68 rfl base 5 i0 (.int .u8 0) 1 1 Try.underlying68 hi hz0 hz1 hz2 rfl (by decide) _ _ _ rfl (hown.alloc _) ⟨w1.heap.size, 0, none⟩ 1 1 [.int .u8 c] rfl rfl ?c1 ?c2 ?c3 ?c4 ?c5 ?_)
  case c1 =>
    intro j u hj
    match j, hj with
    | 0, hj => simp at hj; subst hj; simp [Addr.add]
  case c2 => intro u hu; simp at hu; subst hu; rfl
  case c3 => unfold maxLen; omega
  case c4 => omega
  case c5 => simp; omega
  intro v' w2 hown' hgrow _
  have hlt : b < w1.heap.size := (Array.getElem?_eq_some_iff.1 Hbk.out).1
  have hb2 : w2.heap[b]? = some (.cells #[.pointer (some ⟨b, 0, none⟩), v] 84 (0, 0)) := by
    rw [hgrow.block b (by simp; omega) (fun e => Hne.out e.symm), Lib.alloc_old w1 _ b hlt]
    exact Hbk.out
  have d0 : w2.cell? ⟨b, 0, none⟩ = some (.pointer (some ⟨b, 0, none⟩)) := by rw [Lib.cell_of_heap hb2]; rfl
  have d1 : w2.cell? ⟨b, 1, none⟩ = some v := by rw [Lib.cell_of_heap hb2]; rfl
  have f1 : w2.frozen? ⟨b, 1, none⟩ = false := Lib.frozen_of_heap hb2 1
  obtain ⟨g, cap, rfl⟩ := ownsRow_succ hown'
  have Hb2 := Lib.hid hb2; clear hb2
  have Hgrow := Lib.hid hgrow; clear hgrow
  go_wp2
  go_ret
  have hrow := hown.lt
  have k2 : Keeps (fun k => k ≠ b ∧ k < base) w w2 := (((Hk1.out.mono fun _ _ h => h.1).alloc _).grown Hgrow.out (fun k e h => by have := (hrow k e).1; omega))
  refine ⟨rfl, .inr (BAt.put Hb2.out ?_ (Nat.le_trans hbw ?_)), k2.setCell (p := ⟨b, 1, none⟩) (fun h => h.1 rfl) _⟩
  · rw [Lib.byteCells_append, show Lib.byteCells [x] = [.int .u8 c] from by simp [Lib.byteCells, Hx.out]]
    simpa using hown'
  · have := Hgrow.out.size; simp at this; omega

set_option maxHeartbeats 2000000 in
set_option maxRecDepth 100000 in
theorem WriteString_any (b base : Nat) (l : List UInt8) (s : ByteArray) (w : World) (h : BB b base l w) (hlen : l.length + s.size ≤ 140737488355328) :
    Calls Try.prog 100 #[.pointer (some ⟨b, 0, none⟩), .string s] w fun e w' => e = .returned (.tuple #[.int .i64 s.size, .nilIface]) ∧ BB b base (l ++ s.data.toList) w' ∧ Keeps (fun k => k ≠ b ∧ k < base) w w' := by
  obtain ⟨i0, hi, hz0, hz1, hz2⟩ := info_parts infoByte
  have H := Lib.hid (copyCheck_any b base l w h)
  clear h
  go_enter Try.func100, Try.ntmps100
  go_wp2_with (go_at_call 103; refine H.out.mono ?_)
  rintro e w1 ⟨rfl, ⟨v, hbk, hown, hbw⟩, hk1⟩
  have hne := Lib.ownBlock_ne hown hbk (by decide)
  have c0 : w1.cell? ⟨b, 0, none⟩ = some (.pointer (some ⟨b, 0, none⟩)) := by rw [Lib.cell_of_heap hbk]; rfl
  have c1 : w1.cell? ⟨b, 1, none⟩ = some v := by rw [Lib.cell_of_heap hbk]; rfl
  have Hk1 := Lib.hid hk1; clear hk1
  have Hne := Lib.hid hne; clear hne
  have Hbk := Lib.hid hbk; clear hbk
  clear H
  go_wp2_with (at_builtin; refine Lib.wpList_append_own_string _ rfl _ _ 68 9 rfl base 5 i0 Try.underlying68 Try.underlying9 hi hz0 hz1 hz2 _ _ _ rfl hown s rfl ?c3 ?c4 ?c5 ?_)
  case c3 => unfold maxLen; omega
  case c4 => omega
  case c5 => omega
  intro v' w2 hown' hgrow _
  have hlt : b < w1.heap.size := (Array.getElem?_eq_some_iff.1 Hbk.out).1
  have hb2 : w2.heap[b]? = some (.cells #[.pointer (some ⟨b, 0, none⟩), v] 84 (0, 0)) := by
    rw [hgrow.block b hlt (fun e => Hne.out e.symm)]
    exact Hbk.out
  have d0 : w2.cell? ⟨b, 0, none⟩ = some (.pointer (some ⟨b, 0, none⟩)) := by rw [Lib.cell_of_heap hb2]; rfl
  have d1 : w2.cell? ⟨b, 1, none⟩ = some v := by rw [Lib.cell_of_heap hb2]; rfl
  have f1 : w2.frozen? ⟨b, 1, none⟩ = false := Lib.frozen_of_heap hb2 1
  obtain ⟨ao, n', cap, rfl⟩ : ∃ ao n' cap, v' = .slice ao n' cap := by
    rcases hown'.2 with ⟨hv, _⟩ | ⟨g, cap, cur, hv, _⟩
    · exact ⟨_, _, _, hv⟩
    · exact ⟨_, _, _, hv⟩
  have Hb2 := Lib.hid hb2; clear hb2
  have Hgrow := Lib.hid hgrow; clear hgrow
  go_wp2
  go_ret2
  have hrow := hown.lt
  have k2 : Keeps (fun k => k ≠ b ∧ k < base) w w2 := ((Hk1.out.mono fun _ _ h => h.1).grown Hgrow.out (fun k e h => by have := (hrow k e).1; omega))
  refine ⟨rfl, .inr (BAt.put Hb2.out ?_ (Nat.le_trans hbw Hgrow.out.size)), k2.setCell (p := ⟨b, 1, none⟩) (fun h => h.1 rfl) _⟩
  rw [Lib.byteCells_append]
  have : (l ++ s.data.toList).length = l.length + s.size := by rw [List.length_append]; rfl
  rw [this]
  exact hown'

set_option maxHeartbeats 2000000 in
set_option maxRecDepth 100000 in
theorem String_any (b base : Nat) (l : List UInt8) (w : World) (h : BB b base l w) (h0 : l ≠ []) :
    Calls Try.prog 77 #[.pointer (some ⟨b, 0, none⟩)] w fun e w' => e = .returned (.string ⟨l.toArray⟩) ∧ Keeps (fun k => k < base) w w' := by
  obtain ⟨p, v, hbk, hown, hbw⟩ : ∃ p, BAt b base p l w := by
    rcases h with h | h
    · exact ⟨_, h⟩
    · exact ⟨_, h⟩
  clear h
  have hl0 : l.length ≠ 0 := by simpa using h0
  obtain ⟨g, cap, cur, rfl, hbg, hg, hnc, hcm, hcs, htake⟩ : ∃ g cap cur, v = .slice (some ⟨g, 0, none⟩) l.length cap ∧ base ≤ g ∧ w.heap[g]? = some (.cells cur 5 (0, 0)) ∧ l.length ≤ cap ∧ cap ≤ maxLen ∧ cur.size = cap * 1 ∧ cur.toList.take (l.length * 1) = Lib.byteCells l := by
    rcases hown.2 with ⟨_, hz⟩ | ⟨g, cap, cur, hv, r⟩
    · exact absurd hz hl0
    · exact ⟨g, cap, cur, hv, r⟩
  have c1 : w.drew.cell? ⟨b, 1, none⟩ = some (.slice (some ⟨g, 0, none⟩) l.length cap) := by
    have : w.drew.heap[b]? = some (.cells #[p, .slice (some ⟨g, 0, none⟩) l.length cap] 84 (0, 0)) := hbk
    rw [Lib.cell_of_heap this]; rfl
  have hSD : (Builtin.unsafeSliceData_ #[68] 127 #[.slice (some ⟨g, 0, none⟩) l.length cap]).run Try.prog w.drew = .ok (.pointer (some ⟨g, 0, none⟩)) w.drew :=
    Lib.run_unsafeSliceData_row _ _ _ _ _ _ (by omega)
  have hUS : (Builtin.unsafeString_ #[127, 3] 9 #[.pointer (some ⟨g, 0, none⟩), .int .i64 l.length]).run Try.prog w.drew = .ok (.string ⟨l.toArray⟩) (w.drew.freeze ⟨g, 0, none⟩ l.length) := by
    refine Lib.run_unsafeString_row w.drew 127 3 9 5 Try.underlying127 cellsByte g cur.size (by have hg' : w.drew.heap[g]? = some (.cells cur 5 (0, 0)) := hg; simp [World.shape?, hg']) l h0 (by omega) (by unfold maxLen at hcm; omega) ?_
    intro j x hx
    have := hown.cells (g := g) rfl j (.int .u8 x.toNat) (by simp [Lib.byteCells, hx])
    exact this
  have hmx : Try.prog.follows .mixedOrders = true := by kernel_rfl
  have Hk : Hid (Keeps (fun k => k < base) w (w.drew.freeze ⟨g, 0, none⟩ l.length)) := Lib.hid (Keeps.of_below (Lib.below_freeze (Below.drew (Below.refl base w)) (p := ⟨g, 0, none⟩) hbg _) (fun _ _ h => h))
  clear hown hbk hg htake h0 hl0 hcs
  go_enter Try.func77, Try.ntmps77
  go_wp2
  go_region
  all_goals (go_wp2; go_ret; exact ⟨rfl, Hk.out⟩)

end Go.Proofs.Yteoelhhkdfmaiaa

/- What label's Join does. Conditions: strings that Go can hold; as many labels as a slice can have. -/
namespace Go.Proofs.Yteoelhhkdfmaiaa
open Go Go.RowKit Go.Shelf

/-- The slice value sv holds the strings ss. -/
def Strs (W : World) (sv : Value) (ss : List ByteArray) : Prop :=
  (sv = .slice none 0 0 ∧ ss = []) ∨ ∃ b off cap, sv = .slice (some ⟨b, off, none⟩) ss.length cap ∧ ∀ j, j < ss.length → W.cell? ⟨b, off + j, none⟩ = some (.string (ss[j]?.getD ⟨#[]⟩))
theorem Strs.ext {A B : World} (h : Ext A B) {sv : Value} {ss : List ByteArray} : Strs A sv ss → Strs B sv ss
  | .inl e => .inl e
  | .inr ⟨b, off, cap, e, hc⟩ => .inr ⟨b, off, cap, e, fun j hj => h.keeps.cell (hc j hj) trivial⟩
theorem take_snoc {α : Type} (l : List α) (k : Nat) (d : α) (h : k < l.length) : l.take (k + 1) = l.take k ++ [l[k]?.getD d] := by
  rw [List.take_succ_eq_append_getElem h, List.getElem?_eq_getElem h]; rfl

set_option maxRecDepth 100000 in
set_option maxHeartbeats 2000000 in
theorem Join_any (n : ByteArray) (sv : Value) (ls : List ByteArray) (w : World) (hs : n.size ≤ maxLen) (hsv : Strs w sv ls) (hlen : ls.length ≤ 140737488355328) (hll : ∀ x ∈ ls, x.size ≤ maxLen) :
    Calls Try.prog 73 #[.string n, sv] w fun e w' => e = .returned (.tuple #[.string (joinR n ls).1, .int .i64 (joinR n ls).2]) ∧ Ext w w' := by
  have HC : Hid (∀ W, Calls Try.prog 38 #[.string n] W fun e w' => e = .returned (.int .i64 (chk n)) ∧ Ext W w') := Lib.hid fun W => Check_any n W hs
  obtain ⟨ao, cap, rfl⟩ : ∃ ao cap, sv = .slice ao ls.length cap := by
    rcases hsv with ⟨rfl, rfl⟩ | ⟨b, off, cap, rfl, _⟩
    · exact ⟨_, _, rfl⟩
    · exact ⟨_, _, rfl⟩
  have Hsv : Hid (∀ k, k < ls.length → ∃ b off, ao = some ⟨b, off, none⟩ ∧ w.cell? ⟨b, off + k, none⟩ = some (.string (ls[k]?.getD ⟨#[]⟩))) := Lib.hid fun k hk => by
    rcases hsv with ⟨_, rfl⟩ | ⟨b, off, cap', he, hc⟩
    · simp at hk
    · cases he; exact ⟨b, off, rfl, hc k hk⟩
  clear hsv
  have Hll := Lib.hid hll; clear hll
  unfold maxLen at hs
  go_enter Try.func73, Try.ntmps73
  go_wp2_with fail
  refine (HC.out _).mono ?_
  rintro e w1 ⟨rfl, hx1⟩
  have HX1 := Lib.hid hx1; clear hx1
  cases hn : isName n with
  | false =>
    rw [show chk n = 2 from by simp [chk, hn]]
    have Hn := Lib.hid hn; clear hn
    go_wp2
    go_ret2
    exact ⟨by simp [joinR, Hn.out], HX1.out⟩
  | true =>
    rw [show chk n = 0 from by simp [chk, hn]]
    have hn255 : n.size ≤ 255 := by simp [isName] at hn; exact hn.1
    have Hn := Lib.hid hn; clear hn
    go_wp2_with fail
    go_loop [6, 19] (fun z i => ∃ k : Nat, k ≤ ls.length ∧ i = .int .i64 k ∧ z = .int .i64 ((n.size + sizeL (ls.take k) : Nat) : Int) ∧ (ls.take k).all (fun x => isLab x.size) = true)
      (fun _ i => ls.length - (intOf i).toNat)
    case atStart => exact ⟨0, Nat.zero_le _, rfl, by simp [sizeL], by simp⟩
    case round =>
      obtain ⟨k, hk, rfl, rfl, hall⟩ := hrel
      have hsum : sizeL (ls.take k) ≤ 64 * k := by
        have h1 := sizeL_le (ls.take k) (fun x hx => by have := List.all_eq_true.1 hall x hx; simp [isLab] at this; omega)
        have h2 : (ls.take k).length ≤ k := List.length_take_le _ _
        omega
      by_cases hlt : k < ls.length
      · obtain ⟨b, off, rfl, hc⟩ := Hsv.out k hlt
        have hc1 := HX1.out.keeps.cell hc trivial
        clear hc
        have hts := take_snoc ls k ⟨#[]⟩ hlt
        have hmem : (ls[k]?.getD ⟨#[]⟩) ∈ ls := by rw [List.getElem?_eq_getElem hlt]; exact List.getElem_mem hlt
        obtain ⟨x, hx⟩ : ∃ x, ls[k]?.getD ⟨#[]⟩ = x := ⟨_, rfl⟩
        rw [hx] at hc1 hts hmem
        clear hx
        have HL : Hid (Calls Try.prog 99 #[.string x] w1 fun e w' => e = .returned (.bool (isLab x.size)) ∧ w1 = w') := Lib.hid (isLabel_any x w1 (Hll.out x hmem))
        have Hts := Lib.hid hts; clear hts
        have Hall := Lib.hid hall; clear hall
        have Hmem := Lib.hid hmem; clear hmem
        obtain ⟨sz, hsz⟩ : ∃ sz, sizeL (ls.take k) = sz := ⟨_, rfl⟩
        rw [hsz] at hsum
        have Hsz := Lib.hid hsz
        rw [Hsz.out]
        clear hsz
        cases hl : isLab x.size with
        | true =>
          have hx63 : x.size ≤ 63 := by simp [isLab] at hl; omega
          have Hl := Lib.hid hl; clear hl
          go_wp2_with (go_at_call 99; refine HL.out.mono ?_; rintro e w' ⟨rfl, rfl⟩; rw [Hl.out])
          go_round
          case rel => exact ⟨k + 1, by omega, by simp, by rw [Hts.out, sizeL_snoc, Hsz.out]; simp; omega, by rw [Hts.out, List.all_append, Hall.out]; simp [Hl.out]⟩
          case measure => simp [intOf]; omega
        | false =>
          have Hl := Lib.hid hl; clear hl
          go_wp2_with (go_at_call 99; refine HL.out.mono ?_; rintro e w' ⟨rfl, rfl⟩; rw [Hl.out])
          go_ret2
          have hno : ls.all (fun x => isLab x.size) = false := by
            rw [List.all_eq_false]
            exact ⟨x, Hmem.out, by simp [Hl.out]⟩
          exact ⟨by simp [joinR, Hn.out, hno], HX1.out⟩
      · obtain rfl : k = ls.length := by omega
        rw [List.take_length] at hall hsum ⊢
        have Hall := Lib.hid hall; clear hall
        clear hlt hk
        obtain ⟨sz, hsz⟩ : ∃ sz, sizeL ls = sz := ⟨_, rfl⟩
        rw [hsz] at hsum ⊢
        have Hsz := Lib.hid hsz; clear hsz
        by_cases hbig : 255 < n.size + sz
        · go_wp2
          go_ret2
          exact ⟨by simp [joinR, Hn.out, Hall.out, Hsz.out, hbig], HX1.out⟩
        · go_wp2_with fail
          have hfr : Hid (BB w1.heap.size w1.heap.size [] (w1.alloc (.cells #[.pointer none, .slice none 0 0] 84))) :=
            Lib.hid (BB.fresh (World.alloc_heap_new w1 _) (by simp))
          have Hbig := Lib.hid hbig; clear hbig
          go_loopw [36] (fun i wr => ∃ k : Nat, k ≤ ls.length ∧ i = .int .i64 k ∧ BB w1.heap.size w1.heap.size (encL (ls.take k)) wr ∧ Keeps (fun j => j < w1.heap.size) w1 wr)
            (fun i _ => ls.length - (intOf i).toNat)
          case atStart => exact ⟨0, Nat.zero_le _, rfl, by simpa [encL] using hfr.out, (Keeps.refl _ _).alloc _⟩
          case round =>
            obtain ⟨k, hk, rfl, hbb, hkw⟩ := hrel
            have hbl : (encL (ls.take k)).length ≤ 255 := by
              rw [encL_length]
              have h1 := Hsz.out
              have h2 : sizeL (ls.take k) ≤ sizeL ls := by
                have h3 := sizeL_append (ls.take k) (ls.drop k)
                rw [List.take_append_drop] at h3
                omega
              have h4 := Hbig.out
              omega
            by_cases hlt : k < ls.length
            · obtain ⟨b, off, rfl, hc⟩ := Hsv.out k hlt
              have hbw1 : b < w1.heap.size := by
                have h1 := World.block_lt_of_cell? w ⟨b, off + k, none⟩ hc
                have h2 := HX1.out.size
                simp only at h1
                omega
              have hc1 := hkw.cell (HX1.out.keeps.cell hc trivial) hbw1
              clear hc
              have hts := take_snoc ls k ⟨#[]⟩ hlt
              have hmem : (ls[k]?.getD ⟨#[]⟩) ∈ ls := by rw [List.getElem?_eq_getElem hlt]; exact List.getElem_mem hlt
              obtain ⟨x, hx⟩ : ∃ x, ls[k]?.getD ⟨#[]⟩ = x := ⟨_, rfl⟩
              rw [hx] at hc1 hts hmem
              clear hx
              have hx63 : x.size ≤ 63 := by have := List.all_eq_true.1 Hall.out x hmem; simp [isLab] at this; omega
              have Hts := Lib.hid hts; clear hts
              have HWB := Lib.hid (WriteByte_any w1.heap.size w1.heap.size (encL (ls.take k)) (UInt8.ofNat x.size) x.size (by simp; omega) wr hbb (by omega))
              have Hkw := Lib.hid hkw; clear hkw
              clear hmem hbb
              go_wp2_with fail
              refine HWB.out.mono ?_
              rintro e w2 ⟨rfl, hb2, hk2⟩
              have HWS := Lib.hid (WriteString_any w1.heap.size w1.heap.size _ x w2 hb2 (by simp; omega))
              have Hk2 := Lib.hid hk2; clear hk2
              clear hb2 HWB
              go_wp2_with fail
              refine HWS.out.mono ?_
              rintro e w3 ⟨rfl, hb3, hk3⟩
              have Hb3 := Lib.hid hb3; clear hb3
              have Hk3 := Lib.hid hk3; clear hk3
              clear HWS
              go_wp2
              go_roundw
              case rel => exact ⟨k + 1, by omega, by simp, by rw [Hts.out, encL_snoc]; simpa using Hb3.out, Hkw.out.trans ((Hk2.out.mono fun j _ h => by omega).trans (Hk3.out.mono fun j _ h => by omega))⟩
              case measure => simp [intOf]; omega
            · obtain rfl : k = ls.length := by omega
              rw [List.take_length] at hbb hbl
              have HWS := Lib.hid (WriteString_any w1.heap.size w1.heap.size _ n wr hbb (by omega))
              have Hkw := Lib.hid hkw; clear hkw
              clear hbb hlt hk
              go_wp2_with fail
              refine HWS.out.mono ?_
              rintro e w2 ⟨rfl, hb2, hk2⟩
              have hne : encL ls ++ n.data.toList ≠ [] := by
                intro h0
                have h1 := (List.append_eq_nil_iff.1 h0).2
                have h2 := isName_pos Hn.out
                have h3 : n.data.toList.length = n.size := rfl
                rw [h1] at h3
                simp at h3
                omega
              have HS := Lib.hid (String_any w1.heap.size w1.heap.size _ w2 hb2 hne)
              have Hk2 := Lib.hid hk2; clear hk2
              clear hb2 HWS hne
              go_wp2_with fail
              refine HS.out.mono ?_
              rintro e w3 ⟨rfl, hk3⟩
              have Hk3 := Lib.hid hk3; clear hk3
              clear HS
              go_wp2
              go_ret2
              refine ⟨by simp [joinR, Hn.out, Hall.out, Hsz.out, Hbig.out], HX1.out.trans (((Hkw.out.trans (Hk2.out.mono fun j _ h => by omega)).trans Hk3.out).ext fun _ h => h)⟩

end Go.Proofs.Yteoelhhkdfmaiaa

/- What label's printByte and Print do. Conditions: strings that Go can hold. -/
namespace Go.Proofs.Yteoelhhkdfmaiaa
open Go Go.RowKit Go.Shelf
attribute [local go_sem] Oper.semAt_some wide_fn wide_depth

set_option maxHeartbeats 400000 in
theorem isPlain_any (c : Nat) (w : World) (hc : c ≤ 255) :
    Calls Try.prog 102 #[.int .u8 c] w fun e w' => e = .returned (.bool (plainB c)) ∧ w = w' := by
  by_cases h1 : 33 ≤ c
  · go_enter Try.func102, Try.ntmps102
    go_wp2
    go_ret
    exact ⟨by simp [plainB, h1]; omega, rfl⟩
  · go_enter Try.func102, Try.ntmps102
    go_wp2
    go_ret
    exact ⟨by simp [plainB]; omega, rfl⟩

set_option maxHeartbeats 400000 in
theorem isDigit_any (c : Nat) (w : World) (hc : c ≤ 255) :
    Calls Try.prog 121 #[.int .u8 c] w fun e w' => e = .returned (.bool (digitB c)) ∧ w = w' := by
  by_cases h1 : 48 ≤ c
  · go_enter Try.func121, Try.ntmps121
    go_wp2
    go_ret
    exact ⟨by simp [digitB, h1]; omega, rfl⟩
  · go_enter Try.func121, Try.ntmps121
    go_wp2
    go_ret
    exact ⟨by simp [digitB]; omega, rfl⟩

set_option maxRecDepth 100000 in
set_option maxHeartbeats 2000000 in
theorem printByte_any (b base : Nat) (l : List UInt8) (x : UInt8) (c : Nat) (hx : x.toNat = c) (w : World) (h : BB b base l w) (hlen : l.length ≤ 140737488355000) :
    Calls Try.prog 75 #[.pointer (some ⟨b, 0, none⟩), .int .u8 c] w fun e w' => e = .returned (.tuple #[]) ∧ BB b base (l ++ escB x) w' ∧ Keeps (fun k => k ≠ b ∧ k < base) w w' := by
  have hc : c ≤ 255 := by have := x.toNat_lt; omega
  have HP := Lib.hid (isPlain_any c w hc)
  have Hx := Lib.hid hx; clear hx
  have Hh := Lib.hid h; clear h
  go_enter Try.func75, Try.ntmps75
  go_wp2_with fail
  refine HP.out.mono ?_
  rintro e w' ⟨rfl, rfl⟩
  clear HP
  cases hp : plainB c with
  | false =>
    have Hp := Lib.hid hp; clear hp
    go_wp2_with fail
    refine (WriteByte_any b base _ 92 _ (by simp) _ Hh.out (by simp; omega)).mono ?_
    rintro e w1 ⟨rfl, hb1, hk1⟩
    have Hb1 := Lib.hid hb1; clear hb1
    have Hk1 := Lib.hid hk1; clear hk1
    go_wp2_with fail
    refine (WriteByte_any b base _ (UInt8.ofNat (48 + c / 100)) _ (by simp; omega) _ Hb1.out (by simp; omega)).mono ?_
    rintro e w2 ⟨rfl, hb2, hk2⟩
    have Hb2 := Lib.hid hb2; clear hb2
    have Hk2 := Lib.hid (Hk1.out.trans hk2); clear hk2
    go_wp2_with fail
    refine (WriteByte_any b base _ (UInt8.ofNat (48 + c / 10 % 10)) _ (by simp; omega) _ Hb2.out (by simp; omega)).mono ?_
    rintro e w3 ⟨rfl, hb3, hk3⟩
    have Hb3 := Lib.hid hb3; clear hb3
    have Hk3 := Lib.hid (Hk2.out.trans hk3); clear hk3
    go_wp2_with fail
    refine (WriteByte_any b base _ (UInt8.ofNat (48 + c % 10)) _ (by simp; omega) _ Hb3.out (by simp; omega)).mono ?_
    rintro e w4 ⟨rfl, hb4, hk4⟩
    have Hb4 := Lib.hid hb4; clear hb4
    have Hk4 := Lib.hid (Hk3.out.trans hk4); clear hk4
    clear Hb1 Hb2 Hb3 Hk1 Hk2 Hk3 Hh
    go_wp2
    go_end0
    refine ⟨rfl, ?_, Hk4.out⟩
    have he : escB x = [92, UInt8.ofNat (48 + c / 100), UInt8.ofNat (48 + c / 10 % 10), UInt8.ofNat (48 + c % 10)] := by rw [escB, Hx.out, if_pos Hp.out]
    rw [he]
    simpa using Hb4.out
  | true =>
    have Hp := Lib.hid hp; clear hp
    by_cases hq : c = 46 ∨ c = 92
    · have Hq := Lib.hid hq
      have he : Hid (escB x = [92, x]) := Lib.hid (by rw [escB, Hx.out, if_neg (by rw [Hp.out]; simp), if_pos hq])
      have h46 : ((c : Int) == 46) = true ∨ (((c : Int) == 46) = false ∧ ((c : Int) == 92) = true) := by
        rcases hq with rfl | rfl
        · left; rfl
        · right; exact ⟨rfl, rfl⟩
      clear hq
      rcases h46 with h46 | ⟨h46, h92⟩
      all_goals
        go_wp2_with fail
        refine (WriteByte_any b base _ 92 _ (by simp) _ Hh.out (by simp; omega)).mono ?_
        rintro e w1 ⟨rfl, hb1, hk1⟩
        have Hb1 := Lib.hid hb1; clear hb1
        have Hk1 := Lib.hid hk1; clear hk1
        go_wp2_with fail
        refine (WriteByte_any b base _ x _ (by rw [Hx.out]) _ Hb1.out (by simp; omega)).mono ?_
        rintro e w2 ⟨rfl, hb2, hk2⟩
        have Hb2 := Lib.hid hb2; clear hb2
        have Hk2 := Lib.hid (Hk1.out.trans hk2); clear hk2
        go_wp2
        go_end0
        exact ⟨rfl, by rw [he.out]; simpa using Hb2.out, Hk2.out⟩
    · have he : Hid (escB x = [x]) := Lib.hid (by rw [escB, Hx.out, if_neg (by rw [Hp.out]; simp), if_neg hq])
      have h46 : ((c : Int) == 46) = false := by rw [beq_eq_false_iff_ne]; omega
      have h92 : ((c : Int) == 92) = false := by rw [beq_eq_false_iff_ne]; omega
      clear hq
      go_wp2_with fail
      refine (WriteByte_any b base _ x _ (by rw [Hx.out]) _ Hh.out (by simp; omega)).mono ?_
      rintro e w1 ⟨rfl, hb1, hk1⟩
      have Hb1 := Lib.hid hb1; clear hb1
      have Hk1 := Lib.hid hk1; clear hk1
      go_wp2
      go_end0
      exact ⟨rfl, by rw [he.out]; exact Hb1.out, Hk1.out⟩

set_option maxRecDepth 100000 in
set_option maxHeartbeats 4000000 in
theorem Print_any (s : ByteArray) (w : World) (hs : s.size ≤ maxLen) :
    Calls Try.prog 28 #[.string s] w fun e w' => e = .returned (.tuple #[.string (printR s).1, .int .i64 (printR s).2]) ∧ Ext w w' := by
  have HC : Hid (∀ W, Calls Try.prog 38 #[.string s] W fun e w' => e = .returned (.int .i64 (chk s)) ∧ Ext W w') := Lib.hid fun W => Check_any s W hs
  refine (callsIn_wide (n := 9)).1 ?_
  refine callsIn_of_wp_marks Try.func28 rfl trivial ?_ rfl
  simp only [Try.ntmps28, List.size_toArray, List.length_cons, List.length_nil, Nat.reduceAdd, Nat.reduceSub, Array.replicate_succ, Array.replicate_zero, List.push_toArray, List.append_toArray, List.nil_append, List.cons_append]
  gi_wp2_with fail
  refine (callsIn_wide.2 (HC.out _)).mono ?_
  rintro e w1 ⟨rfl, hx1⟩
  have HX1 := Lib.hid hx1; clear hx1
  cases hn : isName s with
  | false =>
    rw [show chk s = 2 from by simp [chk, hn]]
    have Hn := Lib.hid hn; clear hn
    gi_wp2
    exact ⟨.tuple #[.string ⟨#[]⟩, .int .i64 2], by simp [results, Try.f28, go_sem], by simp [printR, Hn.out], HX1.out⟩
  | true =>
    rw [show chk s = 0 from by simp [chk, hn]]
    have hn255 : s.size ≤ 255 := by simp [isName] at hn; exact hn.1
    have Hn := Lib.hid hn; clear hn
    cases hr : (s.toList == [0]) with
    | true =>
      gi_wp2
      exact ⟨.tuple #[.string ⟨#[46]⟩, .int .i64 0], by simp [results, Try.f28, go_sem], by rw [printR, if_neg (by rw [Hn.out]; simp), if_pos hr], HX1.out⟩
    | false =>
      gi_wp2_with (gi_at_call 74; refine (callsIn_wide.2 (Labels_any _ _)).mono ?_; rintro e w' ⟨rfl, rfl⟩)
      have hN : Boxed ((w1.alloc (.cells #[.pointer none, .slice none 0 0] 84)).alloc (.cells #[.string s] 9)) (w1.heap.size + 1) 9 (.string s) := by have := Boxed.new (w1.alloc (.cells #[.pointer none, .slice none 0 0] 84)) 9 (.string s); simpa using this
      have hF : ((w1.alloc (.cells #[.pointer none, .slice none 0 0] 84)).alloc (.cells #[.string s] 9)).heap[w1.heap.size]? = some (.cells #[.pointer none, .slice none 0 0] 84 (0, 0)) :=
        (Below.heap_alloc _ _ _ (by simp)).trans (World.alloc_heap_new w1 _)
      have hX : Ext w ((w1.alloc (.cells #[.pointer none, .slice none 0 0] 84)).alloc (.cells #[.string s] 9)) := (HX1.out.alloc _).alloc _
      have hz : ((w1.alloc (.cells #[.pointer none, .slice none 0 0] 84)).alloc (.cells #[.string s] 9)).heap.size = w1.heap.size + 2 := by simp
      have hw1 := HX1.out.size
      generalize (w1.alloc (.cells #[.pointer none, .slice none 0 0] 84)).alloc (.cells #[.string s] 9) = w2 at hN hF hX hz ⊢
      have Hr := Lib.hid hr; clear hr
      have hsz := sizeL_labelsB s
      refine wpIn_rangeX rfl wide_room (gf := 101) (lb := #[.pointer (some ⟨w1.heap.size + 1, 0, none⟩)]) rfl trivial (enters_of Try.func101 (by kernel_rfl) rfl)
        (labels1_seq _ _ s hs w2 hN.cell) (Keeps.refl _ _) (fun k h => by rw [hz]; subst h; omega) (fun _ => rfl)
        (fun D pre A => BB w1.heap.size D (textL pre) A ∧ Keeps (fun k => k < w.heap.size) w A)
        (fun _ _ _ _ => False)
        (fun D pre A A' h k => ⟨h.1.keep k (by omega) (fun _ h => .inr h), h.2.trans (k.mono fun _ _ h => by omega)⟩)
        (fun _ _ _ _ _ h _ => h)
        (fun D W h1 h2 h => ⟨BB.fresh (h.heap hF (by omega)) h2, (hX.keeps.mono fun _ _ _ => trivial).trans (h.mono fun _ _ h => by omega)⟩)
        (fun _ x a' _ => a' = { tmps := #[.string s, undef, .string ⟨#[]⟩, .int .i64 0, .pointer (some ⟨w1.heap.size, 0, none⟩), .string x, undef, .string s, .int .i64 0, .bool false, .string s, .bool false, .string s, .func (.func 101) #[] #[.pointer (some ⟨w1.heap.size + 1, 0, none⟩)], .string x, undef, undef, undef, undef, undef, undef, undef, undef, undef, undef, undef, undef], defers := [] })
        (fun _ _ _ _ _ h _ => h) ?assign ?body ?done ?stop
      case assign =>
        intro l D x W K _ hK
        gi_wp2
        exact hK _ _ (Keeps.refl _ _) rfl
      case body =>
        rintro l D pre x rest a' W hx hD hDW ⟨r, hr⟩ ⟨hb, hk⟩ rfl
        have hsum : sizeL pre + (1 + x.size) ≤ 255 := by
          have h1 : labelsB s = (pre ++ [x]) ++ rest := by rw [hx]; simp
          have h2 := sizeL_append (pre ++ [x]) rest
          rw [← h1, sizeL_snoc] at h2
          omega
        have htl := textL_length pre
        have Hb := Lib.hid hb; clear hb
        have Hk := Lib.hid hk; clear hk
        have Hx := Lib.hid hx; clear hx
        clear hsz
        gi_wp2_with fail
        gi_loopw [17] (fun i wr => ∃ k : Nat, k ≤ x.size ∧ i = .int .i64 k ∧ BB w1.heap.size D (textL pre ++ ((x.data.toList.take k).map escB).flatten) wr ∧ Keeps (fun j => j ≠ w1.heap.size ∧ j < D) W wr)
          (fun i _ => x.size - (intOf i).toNat)
        case atStart => exact ⟨0, Nat.zero_le _, rfl, by simpa using Hb.out, Keeps.refl _ _⟩
        case round =>
          obtain ⟨k, hkk, rfl, hbb, hkw⟩ := hrel
          have hcur : (textL pre ++ ((x.data.toList.take k).map escB).flatten).length ≤ 4 * 255 := by
            have h1 := flat_esc_length (x.data.toList.take k)
            have h2 : (x.data.toList.take k).length ≤ k := List.length_take_le _ _
            rw [List.length_append]; omega
          have Hkw := Lib.hid hkw; clear hkw
          by_cases hlt : k < x.size
          · have hts : Hid (x.data.toList.take (k + 1) = x.data.toList.take k ++ [x[k]]) := Lib.hid (by
              rw [List.take_succ_eq_append_getElem (by exact hlt)]; rfl)
            have HP := Lib.hid (printByte_any w1.heap.size D _ x[k] x[k].toNat rfl wr hbb (by omega))
            have hc255 : x[k].toNat ≤ 255 := by have := x[k].toNat_lt; omega
            clear hbb
            gi_wp2_with fail
            refine ((callsIn_wide.2 HP.out).inRound l).mono ?_
            rintro e w3 ⟨rfl, hb3, hk3⟩
            have Hb3 := Lib.hid hb3; clear hb3
            have Hk3 := Lib.hid hk3; clear hk3
            clear HP
            gi_wp2
            go_roundw
            case rel => exact ⟨k + 1, by omega, by simp, by rw [hts.out, List.map_append, List.flatten_append]; simpa using Hb3.out, Hkw.out.trans Hk3.out⟩
            case measure => simp [intOf]; omega
          · obtain rfl : k = x.size := by omega
            have htake : x.data.toList.take x.size = x.data.toList := List.take_of_length_le (Nat.le_refl _)
            rw [htake] at hbb hcur
            have HW := Lib.hid (WriteByte_any w1.heap.size D _ 46 46 (by simp) wr hbb (by omega))
            clear hbb htake
            gi_wp2_with fail
            refine ((callsIn_wide.2 HW.out).inRound l).mono ?_
            rintro e w3 ⟨rfl, hb3, hk3⟩
            have Hb3 := Lib.hid hb3; clear hb3
            have Hk3 := Lib.hid (Hkw.out.trans hk3); clear hk3
            clear HW
            gi_wp2
            exact ⟨Hk3.out.mono fun k _ h => by omega, by rw [textL_snoc]; exact Hb3.out, Hk.out.trans (Hk3.out.mono fun k _ h => by omega)⟩
      case done =>
        rintro D W hD hDW ⟨hb, hk⟩ hd
        have hne : textL (labelsB s) ≠ [] := textL_ne (labelsB_ne Hn.out Hr.out)
        have HS := Lib.hid (String_any w1.heap.size D _ W hb hne)
        have Hk := Lib.hid hk; clear hk
        have Hd := Lib.hid hd; clear hd
        clear hb hne hsz
        gi_wp2_with fail
        refine (callsIn_wide.2 HS.out).mono ?_
        rintro e w3 ⟨rfl, hk3⟩
        have hd3 := hk3.heap Hd.out hD
        rw [hz] at hd3
        have Hk3 := Lib.hid hk3; clear hk3
        have Hd3 := Lib.hid hd3; clear hd3
        gi_wp2
        refine ⟨by simp, .inl ⟨_, _, rfl, run_takeDeferred Hd3.out, ?_⟩⟩
        refine ⟨.tuple #[.string ⟨(textL (labelsB s)).toArray⟩, .int .i64 0], by simp [results, Try.f28, go_sem], by rw [printR, if_neg (by rw [Hn.out]; simp), if_neg (by rw [Hr.out]; simp)], ?_⟩
        exact ((Hk.out.trans (Hk3.out.mono fun k _ h => by omega)).putObj (by omega) _).ext (fun _ h => h)
      case stop =>
        rintro c D pre x rest W _ _ _ h
        exact h.elim

end Go.Proofs.Yteoelhhkdfmaiaa

/- What label's readByte does. Conditions: a text that is not empty, and that Go can hold. -/
namespace Go.Proofs.Yteoelhhkdfmaiaa
open Go Go.RowKit Go.Shelf

theorem tup2 {a a' : Int} {b b' : Int} (ha : a = a') (hb : b = b') : Ending.returned (.tuple #[.int .u8 a, .int .i64 b]) = Ending.returned (.tuple #[.int .u8 a', .int .i64 b']) := by rw [ha, hb]

set_option maxRecDepth 100000 in
set_option maxHeartbeats 4000000 in
theorem readByte_any (s : ByteArray) (w : World) (hs : s.size ≤ maxLen) (h0 : 1 ≤ s.size) :
    Calls Try.prog 117 #[.string s] w fun e w' => e = .returned (.tuple #[.int .u8 (readR s).1.toNat, .int .i64 (readR s).2]) ∧ Ext w w' := by
  unfold maxLen at hs
  have h0' : 0 < s.size := h0
  obtain ⟨c0, hc0⟩ : ∃ c : Nat, s[0].toNat = c := ⟨_, rfl⟩
  have H0 : Hid (s[0]!.toNat = c0) := Lib.hid (by rw [getElem!_pos s 0 h0']; exact hc0)
  have h255 : c0 ≤ 255 := by have := s[0].toNat_lt; omega
  by_cases h92 : c0 = 92
  · have q92 : ((c0 : Int) != 92) = false := by rw [h92]; rfl
    have H92 := Lib.hid h92; clear h92
    by_cases h2 : 2 ≤ s.size
    · have h2' : 1 < s.size := h2
      obtain ⟨c1, hc1⟩ : ∃ c : Nat, s[1].toNat = c := ⟨_, rfl⟩
      have H1 : Hid (s[1]!.toNat = c1) := Lib.hid (by rw [getElem!_pos s 1 h2']; exact hc1)
      have h255' : c1 ≤ 255 := by have := s[1].toNat_lt; omega
      cases hd1 : digitB c1 with
      | false =>
        have Hr : Hid ((readR s).1.toNat = c1 ∧ (readR s).2 = 2) := Lib.hid (by
          rw [readR, if_neg (by rw [H0.out, H92.out]; simp), if_pos ⟨h2, by rw [H1.out]; exact hd1⟩]; exact ⟨H1.out, rfl⟩)
        go_enter Try.func117, Try.ntmps117
        go_wp2_with (go_at_call 121; refine (isDigit_any _ _ (by omega)).mono ?_; rintro e w' ⟨rfl, rfl⟩)
        go_ret2
        exact ⟨tup2 (by rw [Hr.out.1] <;> rfl) (by rw [Hr.out.2] <;> rfl), Ext.refl _⟩
      | true =>
        have Hn2 : Hid (¬ (2 ≤ s.size ∧ digitB s[1]!.toNat = false)) := Lib.hid (by rw [H1.out, hd1]; simp)
        by_cases h4 : 4 ≤ s.size
        · have h3' : 2 < s.size := by omega
          have h4' : 3 < s.size := by omega
          obtain ⟨c2, hc2⟩ : ∃ c : Nat, s[2].toNat = c := ⟨_, rfl⟩
          have H2 : Hid (s[2]!.toNat = c2) := Lib.hid (by rw [getElem!_pos s 2 h3']; exact hc2)
          have h2552 : c2 ≤ 255 := by have := s[2].toNat_lt; omega
          obtain ⟨c3, hc3⟩ : ∃ c : Nat, s[3].toNat = c := ⟨_, rfl⟩
          have H3 : Hid (s[3]!.toNat = c3) := Lib.hid (by rw [getElem!_pos s 3 h4']; exact hc3)
          have h2553 : c3 ≤ 255 := by have := s[3].toNat_lt; omega
          cases hd2 : digitB c2 with
          | false =>
            have Hr : Hid ((readR s).1.toNat = 0 ∧ (readR s).2 = 0) := Lib.hid (by
              rw [readR, if_neg (by rw [H0.out, H92.out]; simp), if_neg Hn2.out, if_neg (by rw [H2.out, hd2]; simp)]; exact ⟨rfl, rfl⟩)
            go_enter Try.func117, Try.ntmps117
            go_wp2_with (go_at_call 121; refine (isDigit_any _ _ (by omega)).mono ?_; rintro e w' ⟨rfl, rfl⟩)
            go_ret2
            exact ⟨tup2 (by rw [Hr.out.1] <;> rfl) (by rw [Hr.out.2] <;> rfl), Ext.refl _⟩
          | true =>
            cases hd3 : digitB c3 with
            | false =>
              have Hr : Hid ((readR s).1.toNat = 0 ∧ (readR s).2 = 0) := Lib.hid (by
                rw [readR, if_neg (by rw [H0.out, H92.out]; simp), if_neg Hn2.out, if_neg (by rw [H3.out, hd3]; simp)]; exact ⟨rfl, rfl⟩)
              go_enter Try.func117, Try.ntmps117
              go_wp2_with (go_at_call 121; refine (isDigit_any _ _ (by omega)).mono ?_; rintro e w' ⟨rfl, rfl⟩)
              go_ret2
              exact ⟨tup2 (by rw [Hr.out.1] <;> rfl) (by rw [Hr.out.2] <;> rfl), Ext.refl _⟩
            | true =>
              have b1 : 48 ≤ c1 ∧ c1 ≤ 57 := of_decide_eq_true hd1
              have b2 : 48 ≤ c2 ∧ c2 ≤ 57 := of_decide_eq_true hd2
              have b3 : 48 ≤ c3 ∧ c3 ≤ 57 := of_decide_eq_true hd3
              have hmx : Try.prog.follows .mixedOrders = true := by kernel_rfl
              have x1 : (1 : Int) < (s.size : Int) := by omega
              have x2 : (2 : Int) < (s.size : Int) := by omega
              have x3 : (3 : Int) < (s.size : Int) := by omega
              have q1 : IntKind.u8.wrap ((c1 : Int) - 48) = (c1 : Int) - 48 := IntWalk.u8_in _ (by omega)
              have q2 : IntKind.u8.wrap ((c2 : Int) - 48) = (c2 : Int) - 48 := IntWalk.u8_in _ (by omega)
              have q3 : IntKind.u8.wrap ((c3 : Int) - 48) = (c3 : Int) - 48 := IntWalk.u8_in _ (by omega)
              have q4 : IntKind.i64.wrap ((c1 : Int) - 48) = (c1 : Int) - 48 := IntWalk.i64_in _ (by omega)
              have q5 : IntKind.i64.wrap ((c2 : Int) - 48) = (c2 : Int) - 48 := IntWalk.i64_in _ (by omega)
              have q6 : IntKind.i64.wrap ((c3 : Int) - 48) = (c3 : Int) - 48 := IntWalk.i64_in _ (by omega)
              have q7 : IntKind.i64.wrap (100 * ((c1 : Int) - 48)) = 100 * ((c1 : Int) - 48) := IntWalk.i64_in _ (by omega)
              have q8 : IntKind.i64.wrap (10 * ((c2 : Int) - 48)) = 10 * ((c2 : Int) - 48) := IntWalk.i64_in _ (by omega)
              have q9 : IntKind.i64.wrap (100 * ((c1 : Int) - 48) + 10 * ((c2 : Int) - 48)) = 100 * ((c1 : Int) - 48) + 10 * ((c2 : Int) - 48) := IntWalk.i64_in _ (by omega)
              obtain ⟨v, hv⟩ : ∃ v : Nat, decV c1 c2 c3 = v := ⟨_, rfl⟩
              have hvi : (v : Int) = 100 * ((c1 : Int) - 48) + 10 * ((c2 : Int) - 48) + ((c3 : Int) - 48) := by rw [← hv]; unfold decV; omega
              have Hv := Lib.hid hv; clear hv
              have hv999 : v ≤ 999 := by clear q1 q2 q3 q4 q5 q6 q7 q8 q9; omega
              have Hvi := Lib.hid hvi; clear hvi
              by_cases hle : v ≤ 255
              · have Hr : Hid ((readR s).1.toNat = v ∧ (readR s).2 = 4) := Lib.hid (by
                  rw [readR, if_neg (by rw [H0.out, H92.out]; simp), if_neg Hn2.out, if_pos ⟨h4, by rw [H1.out]; exact hd1, by rw [H2.out]; exact hd2, by rw [H3.out]; exact hd3, by rw [H1.out, H2.out, H3.out, Hv.out]; exact hle⟩, H1.out, H2.out, H3.out, Hv.out]
                  exact ⟨by simp; omega, rfl⟩)
                go_enter Try.func117, Try.ntmps117
                go_wp2_with (go_at_call 121; refine (isDigit_any _ _ (by omega)).mono ?_; rintro e w' ⟨rfl, rfl⟩)
                go_still hmx
                rw [show IntKind.i64.wrap (100 * ((c1 : Int) - 48) + 10 * ((c2 : Int) - 48) + ((c3 : Int) - 48)) = (v : Int) from by rw [← Hvi.out]; exact IntWalk.i64_in _ (by omega)]
                change Exit.then _ _ Exit.normal _ w.drew
                clear q1 q2 q3 q4 q5 q6 q7 q8 q9 x1 x2 x3 hc0 hc1 hc2 hc3
                go_wp2
                go_ret2
                exact ⟨tup2 (by rw [Hr.out.1] <;> rfl) (by rw [Hr.out.2] <;> rfl), (Ext.refl _).drew⟩
              · have Hr : Hid ((readR s).1.toNat = 0 ∧ (readR s).2 = 0) := Lib.hid (by
                  rw [readR, if_neg (by rw [H0.out, H92.out]; simp), if_neg Hn2.out, if_neg (by rw [H1.out, H2.out, H3.out, Hv.out]; intro h; exact hle h.2.2.2.2)]; exact ⟨rfl, rfl⟩)
                go_enter Try.func117, Try.ntmps117
                go_wp2_with (go_at_call 121; refine (isDigit_any _ _ (by omega)).mono ?_; rintro e w' ⟨rfl, rfl⟩)
                go_still hmx
                rw [show IntKind.i64.wrap (100 * ((c1 : Int) - 48) + 10 * ((c2 : Int) - 48) + ((c3 : Int) - 48)) = (v : Int) from by rw [← Hvi.out]; exact IntWalk.i64_in _ (by omega)]
                change Exit.then _ _ Exit.normal _ w.drew
                clear q1 q2 q3 q4 q5 q6 q7 q8 q9 x1 x2 x3 hc0 hc1 hc2 hc3
                go_wp2
                go_ret2
                exact ⟨tup2 (by rw [Hr.out.1] <;> rfl) (by rw [Hr.out.2] <;> rfl), (Ext.refl _).drew⟩
        · have Hr : Hid ((readR s).1.toNat = 0 ∧ (readR s).2 = 0) := Lib.hid (by
            rw [readR, if_neg (by rw [H0.out, H92.out]; simp), if_neg Hn2.out, if_neg (fun h => h4 h.1)]; exact ⟨rfl, rfl⟩)
          go_enter Try.func117, Try.ntmps117
          go_wp2_with (go_at_call 121; refine (isDigit_any _ _ (by omega)).mono ?_; rintro e w' ⟨rfl, rfl⟩)
          go_ret2
          exact ⟨tup2 (by rw [Hr.out.1] <;> rfl) (by rw [Hr.out.2] <;> rfl), Ext.refl _⟩
    · have Hr : Hid ((readR s).1.toNat = 0 ∧ (readR s).2 = 0) := Lib.hid (by
        rw [readR, if_neg (by rw [H0.out, H92.out]; simp), if_neg (fun h => h2 h.1), if_neg (fun h => h2 (by omega))]; exact ⟨rfl, rfl⟩)
      go_enter Try.func117, Try.ntmps117
      go_wp2
      go_ret2
      exact ⟨tup2 (by rw [Hr.out.1] <;> rfl) (by rw [Hr.out.2] <;> rfl), Ext.refl _⟩
  · have q92 : ((c0 : Int) != 92) = true := by rw [bne_iff_ne]; omega
    cases hp : plainB c0 with
    | true =>
      have Hr : Hid ((readR s).1.toNat = c0 ∧ (readR s).2 = 1) := Lib.hid (by
        rw [readR, if_pos (by rw [H0.out]; exact h92), if_pos (by rw [H0.out]; exact hp)]; exact ⟨H0.out, rfl⟩)
      clear h92
      go_enter Try.func117, Try.ntmps117
      go_wp2_with (go_at_call 102; refine (isPlain_any _ _ (by omega)).mono ?_; rintro e w' ⟨rfl, rfl⟩)
      go_ret2
      exact ⟨tup2 (by rw [Hr.out.1] <;> rfl) (by rw [Hr.out.2] <;> rfl), Ext.refl _⟩
    | false =>
      have Hr : Hid ((readR s).1.toNat = 0 ∧ (readR s).2 = 0) := Lib.hid (by
        rw [readR, if_pos (by rw [H0.out]; exact h92), if_neg (by rw [H0.out, hp]; simp)]; exact ⟨rfl, rfl⟩)
      clear h92
      go_enter Try.func117, Try.ntmps117
      go_wp2_with (go_at_call 102; refine (isPlain_any _ _ (by omega)).mono ?_; rintro e w' ⟨rfl, rfl⟩)
      go_ret2
      exact ⟨tup2 (by rw [Hr.out.1] <;> rfl) (by rw [Hr.out.2] <;> rfl), Ext.refl _⟩

end Go.Proofs.Yteoelhhkdfmaiaa

/- What label's cutLabel does. Conditions: a text that Go can hold, of at most 2^47 bytes. -/
namespace Go.Proofs.Yteoelhhkdfmaiaa
open Go Go.RowKit Go.Shelf

set_option maxRecDepth 100000 in
set_option maxHeartbeats 1000000 in
theorem hasPrefix_any (s : ByteArray) (w : World) (hs : s.size ≤ maxLen) :
    Calls Try.prog 124 #[.string s, .string ⟨#[46]⟩] w fun e w' => e = .returned (.bool (decide (1 ≤ s.size ∧ ((s.extract 0 1).toList == [46]) = true))) ∧ w' = w := by
  unfold maxLen at hs
  by_cases h1 : 1 ≤ s.size
  · cases h2 : ((s.extract 0 1).toList == [46]) with
    | true =>
      go_enter Try.func124, Try.ntmps124
      go_wp2
      go_ret
      exact ⟨by simp [h1], rfl⟩
    | false =>
      go_enter Try.func124, Try.ntmps124
      go_wp2
      go_ret
      exact ⟨by simp, rfl⟩
  · go_enter Try.func124, Try.ntmps124
    go_wp2
    go_ret
    exact ⟨by simp, rfl⟩

set_option maxRecDepth 100000 in
set_option maxHeartbeats 1000000 in
theorem trimPrefixL_any (s : ByteArray) (w : World) (hs : s.size ≤ maxLen) :
    Calls Try.prog 122 #[.string s, .string ⟨#[46]⟩] w fun e w' => e = .returned (.string (trimDot s)) ∧ w' = w := by
  have HP := Lib.hid (hasPrefix_any s w hs)
  unfold maxLen at hs
  by_cases h : 1 ≤ s.size ∧ ((s.extract 0 1).toList == [46]) = true
  · have Ht : Hid (trimDot s = s.extract 1 s.size) := Lib.hid (by rw [trimDot, if_pos h])
    have Hd : Hid (decide (1 ≤ s.size ∧ ((s.extract 0 1).toList == [46]) = true) = true) := Lib.hid (decide_eq_true h)
    have h1 := h.1
    clear h
    go_enter Try.func122, Try.ntmps122
    go_wp2_with (go_at_call 124; refine HP.out.mono ?_; rintro e w' ⟨rfl, rfl⟩; rw [Hd.out])
    go_ret
    exact ⟨by rw [Ht.out]; rfl, rfl⟩
  · have Ht : Hid (trimDot s = s) := Lib.hid (by rw [trimDot, if_neg h])
    have Hd : Hid (decide (1 ≤ s.size ∧ ((s.extract 0 1).toList == [46]) = true) = false) := Lib.hid (decide_eq_false h)
    clear h
    go_enter Try.func122, Try.ntmps122
    go_wp2_with (go_at_call 124; refine HP.out.mono ?_; rintro e w' ⟨rfl, rfl⟩; rw [Hd.out])
    go_ret
    exact ⟨by rw [Ht.out]; rfl, rfl⟩

set_option maxHeartbeats 1000000 in
theorem TrimPrefix_any (s : ByteArray) (w : World) (hs : s.size ≤ maxLen) :
    Calls Try.prog 118 #[.string s, .string ⟨#[46]⟩] w fun e w' => e = .returned (.string (trimDot s)) ∧ w' = w := by
  have HP := Lib.hid (trimPrefixL_any s w hs)
  go_enter Try.func118, Try.ntmps118
  go_wp2_with (go_at_call 122; refine HP.out.mono ?_; rintro e w' ⟨rfl, rfl⟩)
  go_ret
  exact ⟨rfl, rfl⟩

set_option maxRecDepth 100000 in
set_option maxHeartbeats 4000000 in
theorem cutLabel_any (s : ByteArray) (w : World) (hs : s.size ≤ 140737488355328) :
    Calls Try.prog 98 #[.string s] w fun e w' => e = .returned (.tuple #[.string (cutR s).1, .string (cutR s).2.1, .int .i64 (cutR s).2.2]) ∧ Ext w w' := by
  obtain ⟨i0, hi, hz0, hz1, hz2⟩ := info_parts infoByte
  go_enter Try.func98, Try.ntmps98
  go_wp2_with fail
  go_loopw [0, 5] (fun x v wr => ∃ (t : ByteArray) (l : List UInt8), x = .string t ∧ wr.ownsRow w.heap.size 5 1 v l.length (Lib.byteCells l) ∧
      labR s = (labR t).map (fun y => (l ++ y.1, y.2)) ∧ t.size + l.length ≤ s.size ∧ Keeps (fun j => j < w.heap.size) w wr)
    (fun x _ _ => match x with | .string t => t.size | _ => 0)
  case atStart => exact ⟨s, [], rfl, World.ownsRow_nil _ _ _ _, by cases labR s <;> simp, by simp, Keeps.refl _ _⟩
  case round =>
    obtain ⟨t, l, rfl, hown, hlab, hsz, hk⟩ := hrel
    obtain ⟨ao, cap, rfl⟩ := ownsRow_slice hown
    have Hlab := Lib.hid hlab; clear hlab
    have Hk := Lib.hid hk; clear hk
    by_cases hend : t.size = 0 ∨ t[0]!.toNat = 46
    · have Hs : Hid (labR s = some (l, t)) := Lib.hid (by rw [Hlab.out, labR_end hend]; simp)
      have HP : Hid (Calls Try.prog 118 #[.string t, .string ⟨#[46]⟩] wr.drew fun e w' => e = .returned (.string (trimDot t)) ∧ w' = wr.drew) := Lib.hid (TrimPrefix_any t _ (by unfold maxLen; omega))
      have Hown := Lib.hid hown; clear hown
      have hq : (t.toList = []) ∨ (0 < t.size ∧ t.toList.isEmpty = false ∧ ∀ h : 0 < t.size, ((t[0].toNat : Int) != 46) = false) := by
        by_cases h0 : t.size = 0
        · left; rw [ByteArray.toList_eq]; exact List.eq_nil_of_length_eq_zero h0
        · right
          refine ⟨by omega, ?_, fun h => ?_⟩
          · rw [ByteArray.toList_eq, List.isEmpty_eq_false_iff]
            intro h1
            have h2 : t.data.toList.length = t.size := rfl
            rw [h1] at h2
            simp at h2
            omega
          · have := hend.resolve_left h0
            rw [getElem!_pos t 0 h] at this
            rw [this]; rfl
      clear hend
      by_cases hl : l.length = 0
      · obtain rfl : l = [] := List.eq_nil_of_length_eq_zero hl
        have Hc : Hid (cutR s = (⟨#[]⟩, ⟨#[]⟩, 6)) := Lib.hid (by rw [cutR, Hs.out]; rfl)
        clear hl
        rcases hq with h0 | ⟨h0, h1, h2⟩
        · go_wp2
          go_ret3
          exact ⟨by rw [Hc.out]; rfl, Hk.out.ext fun _ h => h⟩
        · have h3 := h2 h0
          clear h2
          go_wp2
          go_ret3
          exact ⟨by rw [Hc.out]; rfl, Hk.out.ext fun _ h => h⟩
      · have hl' : (((l.length : Nat) : Int) == 0) = false := by rw [beq_eq_false_iff_ne]; omega
        have Hc : Hid (cutR s = (⟨l.toArray⟩, trimDot t, 0)) := Lib.hid (by
          rw [cutR, Hs.out]; simp only []; rw [if_neg (fun h => hl (by rw [h]; rfl))])
        have hback : (convert 68 9 (.slice ao l.length cap)).run Try.prog wr.drew = .ok (.string ⟨l.toArray⟩) wr.drew := by
          rcases Hown.out.2 with ⟨_, h⟩ | ⟨g, cap', cur, he, hg, hh, r⟩
          · exact absurd h hl
          · cases he
            refine run_convert_bytes_back wr.drew 68 9 5 ⟨g, 0, none⟩ cap l Try.underlying68 Try.underlying5 Try.underlying9 (fun j hj => ?_)
            have := Hown.out.cells (g := g) rfl j (.int .u8 l[j].toNat) (by simp [Lib.byteCells, hj])
            have hp : (⟨g, 0, none⟩ : Addr).add j = ⟨g, j, none⟩ := by unfold Addr.add; split <;> simp_all
            rw [hp] at this ⊢
            exact this
        have hmx : Try.prog.follows .mixedOrders = true := by kernel_rfl
        clear hl
        rcases hq with h0 | ⟨h0, h1, h2⟩
        · go_wp2_with fail
          refine wp_region_still hmx (by kernel_rfl) ?_
          repeat still_step
          still_call HP.out
          repeat still_step
          refine wpStill_nil ?_
          go_wp2
          go_ret3
          exact ⟨by rw [Hc.out]; rfl, Hk.out.drew.ext fun _ h => h⟩
        · have h3 := h2 h0
          clear h2
          go_wp2_with fail
          refine wp_region_still hmx (by kernel_rfl) ?_
          repeat still_step
          still_call HP.out
          repeat still_step
          refine wpStill_nil ?_
          go_wp2
          go_ret3
          exact ⟨by rw [Hc.out]; rfl, Hk.out.drew.ext fun _ h => h⟩
    · have h0 : 0 < t.size := by omega
      have h46 : t[0]!.toNat ≠ 46 := fun h => hend (.inr h)
      rw [getElem!_pos t 0 h0] at h46
      have h1 : t.toList.isEmpty = false := by
        rw [ByteArray.toList_eq, List.isEmpty_eq_false_iff]
        intro h1
        have h2 : t.data.toList.length = t.size := rfl
        rw [h1] at h2
        simp at h2
        omega
      have h3 : ((t[0].toNat : Int) != 46) = true := by rw [bne_iff_ne]; omega
      have HR := Lib.hid (readByte_any t wr (by unfold maxLen; omega) (by omega))
      have hle := readR_le (t := t) (by omega)
      obtain ⟨b, n, hbn⟩ : ∃ b n, readR t = (b, n) := ⟨_, _, rfl⟩
      have Hend := Lib.hid hend; clear hend
      by_cases hn : n = 0
      · subst hn
        have Hc : Hid (cutR s = (⟨#[]⟩, ⟨#[]⟩, 6)) := Lib.hid (by rw [cutR, Hlab.out, labR_bad Hend.out (by rw [hbn])]; rfl)
        rw [hbn] at HR
        clear hle h46 hbn hown
        go_wp2_with fail
        refine HR.out.mono ?_
        rintro e w2 ⟨rfl, hx2⟩
        have Hx2 := Lib.hid hx2; clear hx2
        clear HR
        go_wp2
        go_ret3
        exact ⟨by rw [Hc.out]; rfl, (Hk.out.trans (Hx2.out.keeps.mono fun _ _ _ => trivial)).ext fun _ h => h⟩
      · have hn0 : ((n : Int) == 0) = false := by rw [beq_eq_false_iff_ne]; omega
        have Hgo : Hid (labR t = (labR (t.extract n t.size)).map fun x => (b :: x.1, x.2)) := Lib.hid (by rw [labR_go Hend.out (by rw [hbn]; exact hn), hbn])
        rw [hbn] at HR hle
        simp only at hle
        clear h46 hbn
        have hn1 : 1 ≤ n := by omega
        clear hn
        have Hown := Lib.hid hown; clear hown
        go_wp2_with fail
        refine HR.out.mono ?_
        rintro e w2 ⟨rfl, hx2⟩
        have hown2 := hx2.keeps.ownsRow Hown.out (fun _ _ => trivial)
        have Hk2 := Lib.hid (Hk.out.trans (hx2.keeps.mono fun _ _ _ => trivial))
        have hwz : w.heap.size ≤ w2.heap.size := Hk2.out.size
        clear hx2 HR Hown Hk
        go_wp2_with (at_builtin; refine wpList_append_own _ rfl _ _ 68 rfl w.heap.size 5 i0 (.int .u8 0) 1 1 Try.underlying68 hi hz0 hz1 hz2 rfl (by decide) _ _ _ rfl (hown2.alloc _) ⟨w2.heap.size, 0, none⟩ 1 1 [.int .u8 b.toNat] rfl rfl ?c1 ?c2 ?c3 ?c4 ?c5 ?_)
        case c1 =>
          intro j u hj
          match j, hj with
          | 0, hj => simp at hj; subst hj; simp [Addr.add]
        case c2 => intro u hu; simp at hu; subst hu; rfl
        case c3 => unfold maxLen; omega
        case c4 => omega
        case c5 => simp; omega
        intro v' w3 hown' hgrow _
        have hrow := hown2.lt
        have Hk3 := Lib.hid ((Hk2.out.alloc (.cells #[.int .u8 b.toNat] 5)).grown hgrow (fun k e h => by have := (hrow k e).1; omega))
        have Hown' := Lib.hid hown'; clear hown'
        clear hgrow hrow hown2
        go_wp2
        go_roundw
        case rel =>
          refine ⟨t.extract n t.size, l ++ [b], rfl, ?_, ?_, ?_, Hk3.out⟩
          · rw [Lib.byteCells_append]; simpa [Lib.byteCells] using Hown'.out
          · rw [Hlab.out, Hgo.out]; cases labR (t.extract n t.size) <;> simp
          · rw [size_rest]; simp; omega
        case measure => show (t.extract n t.size).size < t.size; rw [size_rest]; omega

end Go.Proofs.Yteoelhhkdfmaiaa

/- What label's split and Parse do. Conditions: for split a text of at most 4096 bytes; for Parse one that Go can hold. -/
namespace Go.Proofs.Yteoelhhkdfmaiaa
open Go Go.RowKit Go.Shelf

theorem infoString : (Try.prog.info? 9).map (fun i => (i.zero, i.size, i.bytes)) = some (some (.string ⟨#[]⟩), 1, 16) := by kernel_rfl

def SplitPost (s : ByteArray) (w : World) (e : Ending) (w' : World) : Prop :=
  Ext w w' ∧ match splitK s with
  | none => e = .returned (.tuple #[.slice none 0 0, .int .i64 6])
  | some ls => ∃ v, e = .returned (.tuple #[v, .int .i64 0]) ∧ Strs w' v ls

theorem strs_of_row {w : World} {base : Nat} {v : Value} {ls : List ByteArray} (h : w.ownsRow base 9 1 v ls.length (ls.map Value.string)) : Strs w v ls := by
  rcases h.2 with ⟨rfl, h0⟩ | ⟨g, cap, cur, rfl, hg, hh, r⟩
  · exact .inl ⟨rfl, List.eq_nil_of_length_eq_zero h0⟩
  · refine .inr ⟨g, 0, cap, rfl, fun j hj => ?_⟩
    have := h.cells (g := g) rfl j (.string (ls[j]?.getD ⟨#[]⟩)) (by simp [hj])
    have hp : (⟨g, 0 + j, none⟩ : Addr) = ⟨g, j, none⟩ := by simp
    have hp' : (⟨g, 0, none⟩ : Addr).add j = ⟨g, j, none⟩ := by unfold Addr.add; split <;> simp_all
    rw [hp]
    rw [hp'] at this
    exact this

set_option maxRecDepth 100000 in
set_option maxHeartbeats 4000000 in
theorem split_any (s : ByteArray) (w : World) (hs : s.size ≤ 4096) :
    Calls Try.prog 72 #[.string s] w (SplitPost s w) := by
  obtain ⟨i0, hi, hz0, hz1, hz2⟩ := info_parts infoString
  go_enter Try.func72, Try.ntmps72
  go_wp2_with fail
  go_loopw [0, 4] (fun x v wr => ∃ (t : ByteArray) (l : List ByteArray), x = .string t ∧ wr.ownsRow w.heap.size 9 1 v l.length (l.map Value.string) ∧
      splitR s = (splitR t).map (fun y => l ++ y) ∧ t.size + l.length ≤ s.size ∧ Keeps (fun j => j < w.heap.size) w wr)
    (fun x _ _ => match x with | .string t => t.size | _ => 0)
  case atStart => exact ⟨s, [], rfl, World.ownsRow_nil _ _ _ _, by cases splitR s <;> simp, by simp, Keeps.refl _ _⟩
  case round =>
    obtain ⟨t, l, rfl, hown, hspl, hsz, hk⟩ := hrel
    obtain ⟨ao, cap, rfl⟩ := ownsRow_slice hown
    have Hspl := Lib.hid hspl; clear hspl
    by_cases h0 : t.size = 0
    · have Hs : Hid (splitR s = some l) := Lib.hid (by rw [Hspl.out, splitR_nil h0]; simp)
      have he : t.toList = [] := by rw [ByteArray.toList_eq]; exact List.eq_nil_of_length_eq_zero h0
      have Hown := Lib.hid hown; clear hown
      have Hk := Lib.hid hk; clear hk
      by_cases hl : l.length = 0
      · obtain rfl : l = [] := List.eq_nil_of_length_eq_zero hl
        clear hl
        go_wp2
        go_ret2
        refine ⟨Hk.out.ext fun _ h => h, ?_⟩
        have : splitK s = none := by rw [splitK, Hs.out]; rfl
        rw [this]
        rfl
      · have hl' : (((l.length : Nat) : Int) == 0) = false := by rw [beq_eq_false_iff_ne]; omega
        go_wp2
        go_ret2
        refine ⟨Hk.out.ext fun _ h => h, ?_⟩
        have : splitK s = some l := by rw [splitK, Hs.out]; simp only [Option.bind_some]; rw [if_neg (fun h => hl (by rw [h]; rfl))]
        rw [this]
        exact ⟨_, rfl, strs_of_row Hown.out⟩
    · have he : t.toList.isEmpty = false := by
        rw [ByteArray.toList_eq, List.isEmpty_eq_false_iff]
        intro h1
        have h2 : t.data.toList.length = t.size := rfl
        rw [h1] at h2
        simp at h2
        omega
      have HC := Lib.hid (cutLabel_any t wr (by omega))
      obtain ⟨x, r, y, hxy⟩ : ∃ x r y, cutR t = (x, r, y) := ⟨_, _, _, rfl⟩
      have hy6 : y = 0 ∨ y = 6 := by
        have : (cutR t).2.2 = y := by rw [hxy]
        rw [← this, cutR]
        split
        · right; rfl
        · split
          · right; rfl
          · left; rfl
      by_cases hy : y = 0
      · subst hy
        have hg := splitR_go h0 (by rw [hxy])
        rw [hxy] at hg HC
        simp only at hg
        clear hxy hy6
        have hg2 := hg.2
        have Hg := Lib.hid hg.1
        clear hg
        have Hown := Lib.hid hown; clear hown
        go_wp2_with fail
        refine HC.out.mono ?_
        rintro e w2 ⟨rfl, hx2⟩
        have hown2 := hx2.keeps.ownsRow Hown.out (fun _ _ => trivial)
        have Hk2 := Lib.hid (hk.trans (hx2.keeps.mono fun _ _ _ => trivial))
        have hwz : w.heap.size ≤ w2.heap.size := Hk2.out.size
        clear hx2 HC Hown hk
        go_wp2_with (at_builtin; refine wpList_append_own _ rfl _ _ 22 rfl w.heap.size 9 i0 (.string ⟨#[]⟩) 1 16 Try.underlying22 hi hz0 hz1 hz2 rfl (by decide) _ _ _ rfl (hown2.alloc _) ⟨w2.heap.size, 0, none⟩ 1 1 [.string x] rfl rfl ?c1 ?c2 ?c3 ?c4 ?c5 ?_)
        case c1 =>
          intro j u hj
          match j, hj with
          | 0, hj => simp at hj; subst hj; simp [Addr.add]
        case c2 => intro u hu; simp at hu; subst hu; rfl
        case c3 => unfold maxLen; omega
        case c4 => omega
        case c5 => simp; omega
        intro v' w3 hown' hgrow _
        have hrow := hown2.lt
        have Hk3 := Lib.hid ((Hk2.out.alloc (.cells #[.string x] 9)).grown hgrow (fun k e h => by have := (hrow k e).1; omega))
        have Hown' := Lib.hid hown'; clear hown'
        clear hgrow hrow hown2
        go_wp2
        go_roundw
        case rel =>
          refine ⟨r, l ++ [x], rfl, ?_, ?_, ?_, Hk3.out⟩
          · simpa using Hown'.out
          · rw [Hspl.out, Hg.out]; cases splitR r <;> simp
          · simp; omega
        case measure => show r.size < t.size; omega
      · obtain rfl : y = 6 := hy6.resolve_left hy
        have Hn : Hid (splitK s = none) := Lib.hid (by rw [splitK, Hspl.out, splitR_bad h0 (by rw [hxy]; simp)]; rfl)
        rw [hxy] at HC
        clear hxy hy6 hy hown
        go_wp2_with fail
        refine HC.out.mono ?_
        rintro e w2 ⟨rfl, hx2⟩
        have Hk2 := Lib.hid (hk.trans (hx2.keeps.mono fun _ _ _ => trivial))
        clear hx2 hk HC
        go_wp2
        go_ret2
        refine ⟨Hk2.out.ext fun _ h => h, ?_⟩
        rw [Hn.out]
        rfl

end Go.Proofs.Yteoelhhkdfmaiaa

/- What label's Parse does. Conditions: a text that Go can hold. -/
namespace Go.Proofs.Yteoelhhkdfmaiaa
open Go Go.RowKit Go.Shelf

theorem splitR_len : ∀ (n : Nat) (t : ByteArray), t.size ≤ n → ∀ l, splitR t = some l → l.length ≤ t.size ∧ ∀ x ∈ l, x.size ≤ t.size := by
  intro n
  induction n with
  | zero =>
    intro t ht l h
    rw [splitR_nil (by omega)] at h
    cases h
    simp
  | succ n ih =>
    intro t ht l h
    by_cases h0 : t.size = 0
    · rw [splitR_nil h0] at h; cases h; simp
    · by_cases hc : (cutR t).2.2 = 0
      · obtain ⟨h1, h2, h3⟩ := splitR_go h0 hc
        rw [h1] at h
        obtain ⟨l', h4, h5⟩ := Option.map_eq_some_iff.1 h
        subst h5
        obtain ⟨h6, h7⟩ := ih _ (by omega) l' h4
        refine ⟨by simp only [List.length_cons]; omega, fun x hx => ?_⟩
        rcases List.mem_cons.1 hx with rfl | hx
        · omega
        · have := h7 x hx; omega
      · rw [splitR_bad h0 hc] at h; cases h

set_option maxRecDepth 100000 in
set_option maxHeartbeats 4000000 in
theorem Parse_any (s : ByteArray) (w : World) (hs : s.size ≤ maxLen) :
    Calls Try.prog 27 #[.string s] w fun e w' => e = .returned (.tuple #[.string (parseR s).1, .int .i64 (parseR s).2]) ∧ Ext w w' := by
  unfold maxLen at hs
  by_cases hbig : 2048 < s.size
  · have Hp : Hid (parseR s = (⟨#[]⟩, 7)) := Lib.hid (by rw [parseR, if_pos hbig])
    go_enter Try.func27, Try.ntmps27
    go_wp2
    go_ret2
    exact ⟨by rw [Hp.out]; rfl, Ext.refl _⟩
  · cases hdot : (s.toList == [46]) with
    | true =>
      have Hp : Hid (parseR s = (⟨#[0]⟩, 0)) := Lib.hid (by rw [parseR, if_neg hbig, if_pos hdot])
      go_enter Try.func27, Try.ntmps27
      go_wp2
      go_ret2
      exact ⟨by rw [Hp.out]; rfl, Ext.refl _⟩
    | false =>
      have HS := Lib.hid (split_any s w (by omega))
      cases hk : splitK s with
      | none =>
        have Hp : Hid (parseR s = (⟨#[]⟩, 6)) := Lib.hid (by rw [parseR, if_neg hbig, if_neg (by rw [hdot]; simp), hk])
        have Hk := Lib.hid hk; clear hk
        go_enter Try.func27, Try.ntmps27
        go_wp2_with fail
        refine HS.out.mono ?_
        rintro e w2 ⟨hx, he⟩
        rw [Hk.out] at he
        subst he
        have Hx := Lib.hid hx; clear hx
        clear HS
        go_wp2
        go_ret2
        exact ⟨by rw [Hp.out]; rfl, Hx.out⟩
      | some ls =>
        have hls : splitR s = some ls := by
          rw [splitK] at hk
          cases h : splitR s with
          | none => rw [h] at hk; cases hk
          | some l =>
            rw [h] at hk
            simp only [Option.bind_some] at hk
            split at hk
            · cases hk
            · cases hk; rfl
        obtain ⟨hlen, hsz⟩ := splitR_len _ s (Nat.le_refl _) ls hls
        have hp : parseR s = if ls.any (fun x => decide (63 < x.size)) = true then (⟨#[]⟩, 7) else joinR ⟨#[0]⟩ ls := by
          rw [parseR, if_neg hbig, if_neg (by rw [hdot]; simp), hk]
        have Hp := Lib.hid hp; clear hp
        have Hk := Lib.hid hk; clear hk
        have Hsz := Lib.hid hsz; clear hsz hls
        go_enter Try.func27, Try.ntmps27
        go_wp2_with fail
        refine HS.out.mono ?_
        rintro e w2 ⟨hx, he⟩
        rw [Hk.out] at he
        obtain ⟨v, he, hstrs⟩ := he
        subst he
        have Hx := Lib.hid hx; clear hx
        clear HS
        have HJ : Hid (Calls Try.prog 73 #[.string ⟨#[0]⟩, v] w2 fun e w' => e = .returned (.tuple #[.string (joinR ⟨#[0]⟩ ls).1, .int .i64 (joinR ⟨#[0]⟩ ls).2]) ∧ Ext w2 w') :=
          Lib.hid (Join_any ⟨#[0]⟩ v ls w2 (by decide) hstrs (by omega) (fun x hx => by have := Hsz.out x hx; unfold maxLen; omega))
        obtain ⟨ao, cap, rfl⟩ : ∃ ao cap, v = .slice ao ls.length cap := by
          rcases hstrs with ⟨rfl, rfl⟩ | ⟨b, off, cap, rfl, _⟩
          · exact ⟨_, _, rfl⟩
          · exact ⟨_, _, rfl⟩
        have Hsv : Hid (∀ k, k < ls.length → ∃ b off, ao = some ⟨b, off, none⟩ ∧ w2.cell? ⟨b, off + k, none⟩ = some (.string (ls[k]?.getD ⟨#[]⟩))) := Lib.hid fun k hk => by
          rcases hstrs with ⟨_, rfl⟩ | ⟨b, off, cap', he, hc⟩
          · simp at hk
          · cases he; exact ⟨b, off, rfl, hc k hk⟩
        clear hstrs
        go_wp2_with fail
        go_loop [23] (fun i => ∃ k : Nat, k ≤ ls.length ∧ i = .int .i64 k ∧ (ls.take k).any (fun x => decide (63 < x.size)) = false)
          (fun i => ls.length - (intOf i).toNat)
        case atStart => exact ⟨0, Nat.zero_le _, rfl, by simp⟩
        case round =>
          obtain ⟨k, hk, rfl, hany⟩ := hrel
          by_cases hlt : k < ls.length
          · obtain ⟨b, off, rfl, hc⟩ := Hsv.out k hlt
            have hts := take_snoc ls k ⟨#[]⟩ hlt
            have hmem : (ls[k]?.getD ⟨#[]⟩) ∈ ls := by rw [List.getElem?_eq_getElem hlt]; exact List.getElem_mem hlt
            obtain ⟨x, hx⟩ : ∃ x, ls[k]?.getD ⟨#[]⟩ = x := ⟨_, rfl⟩
            rw [hx] at hc hts hmem
            clear hx
            have hxs := Hsz.out x hmem
            have Hts := Lib.hid hts; clear hts
            have Hany := Lib.hid hany; clear hany
            have Hmem := Lib.hid hmem; clear hmem
            by_cases hx63 : 63 < x.size
            · have Hp' : Hid (parseR s = (⟨#[]⟩, 7)) := Lib.hid (by
                rw [Hp.out, if_pos (List.any_eq_true.2 ⟨x, Hmem.out, decide_eq_true hx63⟩)])
              go_wp2
              go_ret2
              exact ⟨by rw [Hp'.out]; rfl, Hx.out⟩
            · go_wp2
              go_round
              case rel => exact ⟨k + 1, by omega, by simp, by rw [Hts.out, List.any_append, Hany.out]; simp; omega⟩
              case measure => simp [intOf]; omega
          · obtain rfl : k = ls.length := by omega
            rw [List.take_length] at hany
            have Hp' : Hid (parseR s = joinR ⟨#[0]⟩ ls) := Lib.hid (by rw [Hp.out, if_neg (by rw [hany]; simp)])
            clear hany hlt hk
            go_wp2_with fail
            refine HJ.out.mono ?_
            rintro e w3 ⟨rfl, hx3⟩
            have Hx3 := Lib.hid hx3; clear hx3
            clear HJ
            go_wp2
            go_ret2
            exact ⟨by rw [Hp'.out]; rfl, Hx.out.trans Hx3.out⟩

end Go.Proofs.Yteoelhhkdfmaiaa
