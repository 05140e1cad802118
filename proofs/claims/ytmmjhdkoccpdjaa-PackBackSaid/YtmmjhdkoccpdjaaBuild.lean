/- What strings.Builder's WriteByte, WriteString and String do to a builder in a block of its own, whose row lies at or behind a given block. Conditions: the text is no longer than 2^47 bytes; String is asked of a text that is not empty. -/
import Derived.Test.YtmmjhdkoccpdjaaSeq
import Derived.Shelf.Strings.Builder1
import Derived.Lib.Hide
import Derived.Test.YtmmjhdkoccpdjaaProg
namespace Go.Proofs.Ytmmjhdkoccpdjaa
open Go Go.RowKit Go.Shelf

theorem infoByte : (Try.prog.info? 5).map (fun i => (i.zero, i.size, i.bytes)) = some (some (.int .u8 0), 1, 1) := by kernel_rfl
theorem cellsByte : Try.prog.cellsOf 5 = 1 := by kernel_rfl
theorem sizeBuilder : (Try.prog.info? 117).map (·.size) = some 2 := by kernel_rfl
theorem liesBuilder : liesAt Try.prog Try.prog.depth 117 (2 / Try.prog.cellsOf 117) 0 117 1 = true := by kernel_rfl

/-- The builder in block b: its first cell is p, its row, from block base on, holds l. -/
def BAt (b base : Nat) (p : Value) (l : List UInt8) (w : World) : Prop :=
  ∃ v, w.heap[b]? = some (.cells #[p, v] 117 (0, 0)) ∧ w.ownsRow base 5 1 v l.length (Lib.byteCells l) ∧ base ≤ w.heap.size
def BB (b base : Nat) (l : List UInt8) (w : World) : Prop := BAt b base (.pointer none) l w ∨ BAt b base (.pointer (some ⟨b, 0, none⟩)) l w

theorem BAt.keep {b base : Nat} {p : Value} {l : List UInt8} {w w' : World} {K : Nat → Prop} (h : BAt b base p l w) (k : Keeps K w w') (hb : K b) (hr : ∀ k, base ≤ k → K k) : BAt b base p l w' := by
  obtain ⟨v, h1, h2, h3⟩ := h
  exact ⟨v, k.heap h1 hb, k.ownsRow h2 hr, Nat.le_trans h3 k.size⟩
theorem BB.keep {b base : Nat} {l : List UInt8} {w w' : World} {K : Nat → Prop} (h : BB b base l w) (k : Keeps K w w') (hb : K b) (hr : ∀ k, base ≤ k → K k) : BB b base l w' :=
  h.imp (fun h => h.keep k hb hr) (fun h => h.keep k hb hr)
/-- A builder that holds nothing yet may begin its row anywhere. -/
theorem BB.fresh {b base : Nat} {w : World} (h : w.heap[b]? = some (.cells #[.pointer none, .slice none 0 0] 117 (0, 0))) (hb : base ≤ w.heap.size) : BB b base [] w :=
  .inl ⟨_, h, World.ownsRow_nil _ _ _ _, hb⟩
theorem BB.lt {b base : Nat} {l : List UInt8} {w : World} (h : BB b base l w) : b < w.heap.size := by
  rcases h with ⟨v, h, _⟩ | ⟨v, h, _⟩ <;> exact (Array.getElem?_eq_some_iff.1 h).1

set_option maxHeartbeats 1000000 in
set_option maxRecDepth 100000 in
theorem copyCheck_used (b : Nat) (w : World) (h0 : w.cell? ⟨b, 0, none⟩ = some (.pointer (some ⟨b, 0, none⟩))) :
    Calls Try.prog 129 #[.pointer (some ⟨b, 0, none⟩)] w fun e w' => e = .returned (.tuple #[]) ∧ w' = w := by
  obtain ⟨j, hj, _⟩ := Option.map_eq_some_iff.1 sizeBuilder
  go_enter Try.func129, Try.ntmps129
  go_wp2
  rw [Lib.run_neq_ptr_same w _ Try.underlying115 hj]
  go_wp2
  go_end0
  exact ⟨rfl, rfl⟩

set_option maxHeartbeats 1000000 in
set_option maxRecDepth 100000 in
theorem copyCheck_fresh (b : Nat) (w : World) (h0 : w.cell? ⟨b, 0, none⟩ = some (.pointer none)) (hsh : w.shape? b = some (117, 2)) (hfz : w.frozen? ⟨b, 0, none⟩ = false) :
    Calls Try.prog 129 #[.pointer (some ⟨b, 0, none⟩)] w fun e w' => e = .returned (.tuple #[]) ∧ w' = w.setCell ⟨b, 0, none⟩ (.pointer (some ⟨b, 0, none⟩)) := by
  obtain ⟨j, hj, hjs⟩ := Option.map_eq_some_iff.1 sizeBuilder
  go_enter Try.func129, Try.ntmps129
  go_wp2
  rw [Lib.run_to_unsafe w ⟨b, 0, none⟩ Try.underlying115 Try.underlying146 hj (by rw [hjs]; decide) hsh (Nat.zero_lt_succ 1)]
  simp only [Result.andThen]
  rw [Oper.upon_value]
  go_wp2
  rw [run_callFunc_extern Try.func136 (by kernel_rfl) (by kernel_rfl) (by kernel_rfl) (e := Extern.AbiNoEscape.same) (by kernel_rfl)]
  rw [Lib.run_noEscape]
  simp only [Result.andThen]
  rw [Oper.upon_value]
  go_wp2
  rw [Lib.run_from_unsafe w ⟨b, 0, none⟩ Try.underlying146 Try.underlying115 hj hsh liesBuilder]
  simp only [Result.andThen]
  rw [Oper.upon_value]
  go_wp2
  go_end0
  exact ⟨rfl, rfl⟩

/-- Behind copyCheck the builder bears its own address; only its block has turned. -/
theorem copyCheck_any (b base : Nat) (l : List UInt8) (w : World) (h : BB b base l w) :
    Calls Try.prog 129 #[.pointer (some ⟨b, 0, none⟩)] w fun e w' => e = .returned (.tuple #[]) ∧ BAt b base (.pointer (some ⟨b, 0, none⟩)) l w' ∧ Keeps (fun k => k ≠ b) w w' := by
  rcases h with ⟨v, h1, h2, h3⟩ | ⟨v, h1, h2, h3⟩
  · refine (copyCheck_fresh b w (by rw [Lib.cell_of_heap h1]; rfl) (by simp [World.shape?, h1]) (Lib.frozen_of_heap h1 0)).mono ?_
    rintro e w' ⟨rfl, rfl⟩
    have hk : Keeps (fun k => k ≠ b) w (w.setCell ⟨b, 0, none⟩ (.pointer (some ⟨b, 0, none⟩))) := (Keeps.refl _ w).setCell (p := ⟨b, 0, none⟩) (fun h => h rfl) _
    refine ⟨rfl, ⟨v, ?_, ?_, Nat.le_trans h3 hk.size⟩, hk⟩
    · have hlt := (Array.getElem?_eq_some_iff.1 h1).1
      show (w.heap.modify b _)[b]? = _
      rw [Array.getElem?_eq_getElem (by rw [Array.size_modify]; exact hlt), Array.getElem_modify_self, (Array.getElem?_eq_some_iff.1 h1).2]
      rfl
    · have hne := Lib.ownBlock_ne h2 h1 (by decide)
      exact h2.kept (grownBy_setCell' w b _) (.inr hne)
  · refine (copyCheck_used b w (by rw [Lib.cell_of_heap h1]; rfl)).mono ?_
    rintro e w' ⟨rfl, rfl⟩
    exact ⟨rfl, ⟨v, h1, h2, h3⟩, Keeps.refl _ _⟩

/-- What the field's store leaves. -/
theorem BAt.put {b base : Nat} {p v v' : Value} {l : List UInt8} {w : World} (hb : w.heap[b]? = some (.cells #[p, v] 117 (0, 0))) (hown : w.ownsRow base 5 1 v' l.length (Lib.byteCells l)) (hw : base ≤ w.heap.size) :
    BAt b base p l (w.setCell ⟨b, 1, none⟩ v') := by
  refine ⟨v', ?_, ?_, Nat.le_trans hw (by simp [World.setCell])⟩
  · have hlt := (Array.getElem?_eq_some_iff.1 hb).1
    show (w.heap.modify b _)[b]? = _
    rw [Array.getElem?_eq_getElem (by rw [Array.size_modify]; exact hlt), Array.getElem_modify_self, (Array.getElem?_eq_some_iff.1 hb).2]
    rfl
  · have hne := Lib.ownBlock_ne hown hb (by decide)
    exact ((Keeps.refl (fun k => k ≠ b) w).setCell (p := ⟨b, 1, none⟩) (fun h => h rfl) v').ownsRow' hown hne

set_option maxHeartbeats 2000000 in
set_option maxRecDepth 100000 in
theorem WriteByte_any (b base : Nat) (l : List UInt8) (x : UInt8) (c : Int) (hx : (x.toNat : Int) = c) (w : World) (h : BB b base l w) (hlen : l.length + 1 ≤ 140737488355328) :
    Calls Try.prog 109 #[.pointer (some ⟨b, 0, none⟩), .int .u8 c] w fun e w' => e = .returned .nilIface ∧ BB b base (l ++ [x]) w' ∧ Keeps (fun k => k ≠ b ∧ k < base) w w' := by
  obtain ⟨i0, hi, hz0, hz1, hz2⟩ := info_parts infoByte
  have H := Lib.hid (copyCheck_any b base l w h)
  have Hx := Lib.hid hx; clear hx
  clear h
  go_enter Try.func109, Try.ntmps109
  go_wp2_with (go_at_call 129; refine H.out.mono ?_)
  rintro e w1 ⟨rfl, ⟨v, hbk, hown, hbw⟩, hk1⟩
  have hne := Lib.ownBlock_ne hown hbk (by decide)
  have c0 : w1.cell? ⟨b, 0, none⟩ = some (.pointer (some ⟨b, 0, none⟩)) := by rw [Lib.cell_of_heap hbk]; rfl
  have c1 : w1.cell? ⟨b, 1, none⟩ = some v := by rw [Lib.cell_of_heap hbk]; rfl
  have Hk1 := Lib.hid hk1; clear hk1
  have Hne := Lib.hid hne; clear hne
  have Hbk := Lib.hid hbk; clear hbk
  clear H
  go_wp2_with (at_builtin; refine wpList_append_own _ rfl _ _ 95 rfl base 5 i0 (.int .u8 0) 1 1 Try.underlying95 hi hz0 hz1 hz2 rfl (by decide) _ _ _ rfl (hown.alloc _) ⟨w1.heap.size, 0, none⟩ 1 1 [.int .u8 c] rfl rfl ?c1 ?c2 ?c3 ?c4 ?c5 ?_)
  case c1 =>
    intro j u hj
    match j, hj with
    | 0, hj => simp at hj; subst hj; simp [Addr.add]
  case c2 => intro u hu; simp at hu; subst hu; rfl
  case c3 => unfold maxLen; omega
  case c4 => omega
  case c5 => simp; omega
  intro v' w2 hown' hgrow _
  have hlt : b < w1.heap.size := (Array.getElem?_eq_some_iff.1 Hbk.out).1
  have hb2 : w2.heap[b]? = some (.cells #[.pointer (some ⟨b, 0, none⟩), v] 117 (0, 0)) := by
    rw [hgrow.block b (by simp; omega) (fun e => Hne.out e.symm), Lib.alloc_old w1 _ b hlt]
    exact Hbk.out
  have d0 : w2.cell? ⟨b, 0, none⟩ = some (.pointer (some ⟨b, 0, none⟩)) := by rw [Lib.cell_of_heap hb2]; rfl
  have d1 : w2.cell? ⟨b, 1, none⟩ = some v := by rw [Lib.cell_of_heap hb2]; rfl
  have f1 : w2.frozen? ⟨b, 1, none⟩ = false := Lib.frozen_of_heap hb2 1
  obtain ⟨g, cap, rfl⟩ := ownsRow_succ hown'
  have Hb2 := Lib.hid hb2; clear hb2
  have Hgrow := Lib.hid hgrow; clear hgrow
  go_wp2
  go_ret
  have hrow := hown.lt
  have k2 : Keeps (fun k => k ≠ b ∧ k < base) w w2 := (((Hk1.out.mono fun _ _ h => h.1).alloc _).grown Hgrow.out (fun k e h => by have := (hrow k e).1; omega))
  refine ⟨rfl, .inr (BAt.put Hb2.out ?_ (Nat.le_trans hbw ?_)), k2.setCell (p := ⟨b, 1, none⟩) (fun h => h.1 rfl) _⟩
  · rw [Lib.byteCells_append, show Lib.byteCells [x] = [.int .u8 c] from by simp [Lib.byteCells, Hx.out]]
    simpa using hown'
  · have := Hgrow.out.size; simp at this; omega

set_option maxHeartbeats 2000000 in
set_option maxRecDepth 100000 in
theorem WriteString_any (b base : Nat) (l : List UInt8) (s : ByteArray) (w : World) (h : BB b base l w) (hlen : l.length + s.size ≤ 140737488355328) :
    Calls Try.prog 112 #[.pointer (some ⟨b, 0, none⟩), .string s] w fun e w' => e = .returned (.tuple #[.int .i64 s.size, .nilIface]) ∧ BB b base (l ++ s.data.toList) w' ∧ Keeps (fun k => k ≠ b ∧ k < base) w w' := by
  obtain ⟨i0, hi, hz0, hz1, hz2⟩ := info_parts infoByte
  have H := Lib.hid (copyCheck_any b base l w h)
  clear h
  go_enter Try.func112, Try.ntmps112
  go_wp2_with (go_at_call 129; refine H.out.mono ?_)
  rintro e w1 ⟨rfl, ⟨v, hbk, hown, hbw⟩, hk1⟩
  have hne := Lib.ownBlock_ne hown hbk (by decide)
  have c0 : w1.cell? ⟨b, 0, none⟩ = some (.pointer (some ⟨b, 0, none⟩)) := by rw [Lib.cell_of_heap hbk]; rfl
  have c1 : w1.cell? ⟨b, 1, none⟩ = some v := by rw [Lib.cell_of_heap hbk]; rfl
  have Hk1 := Lib.hid hk1; clear hk1
  have Hne := Lib.hid hne; clear hne
  have Hbk := Lib.hid hbk; clear hbk
  clear H
  go_wp2_with (at_builtin; refine Lib.wpList_append_own_string _ rfl _ _ 95 9 rfl base 5 i0 Try.underlying95 Try.underlying9 hi hz0 hz1 hz2 _ _ _ rfl hown s rfl ?c3 ?c4 ?c5 ?_)
  case c3 => unfold maxLen; omega
  case c4 => omega
  case c5 => omega
  intro v' w2 hown' hgrow _
  have hlt : b < w1.heap.size := (Array.getElem?_eq_some_iff.1 Hbk.out).1
  have hb2 : w2.heap[b]? = some (.cells #[.pointer (some ⟨b, 0, none⟩), v] 117 (0, 0)) := by
    rw [hgrow.block b hlt (fun e => Hne.out e.symm)]
    exact Hbk.out
  have d0 : w2.cell? ⟨b, 0, none⟩ = some (.pointer (some ⟨b, 0, none⟩)) := by rw [Lib.cell_of_heap hb2]; rfl
  have d1 : w2.cell? ⟨b, 1, none⟩ = some v := by rw [Lib.cell_of_heap hb2]; rfl
  have f1 : w2.frozen? ⟨b, 1, none⟩ = false := Lib.frozen_of_heap hb2 1
  obtain ⟨ao, n', cap, rfl⟩ : ∃ ao n' cap, v' = .slice ao n' cap := by
    rcases hown'.2 with ⟨hv, _⟩ | ⟨g, cap, cur, hv, _⟩
    · exact ⟨_, _, _, hv⟩
    · exact ⟨_, _, _, hv⟩
  have Hb2 := Lib.hid hb2; clear hb2
  have Hgrow := Lib.hid hgrow; clear hgrow
  go_wp2
  go_ret2
  have hrow := hown.lt
  have k2 : Keeps (fun k => k ≠ b ∧ k < base) w w2 := ((Hk1.out.mono fun _ _ h => h.1).grown Hgrow.out (fun k e h => by have := (hrow k e).1; omega))
  refine ⟨rfl, .inr (BAt.put Hb2.out ?_ (Nat.le_trans hbw Hgrow.out.size)), k2.setCell (p := ⟨b, 1, none⟩) (fun h => h.1 rfl) _⟩
  rw [Lib.byteCells_append]
  have : (l ++ s.data.toList).length = l.length + s.size := by rw [List.length_append]; rfl
  rw [this]
  exact hown'

set_option maxHeartbeats 2000000 in
set_option maxRecDepth 100000 in
theorem String_any (b base : Nat) (l : List UInt8) (w : World) (h : BB b base l w) (h0 : l ≠ []) :
    Calls Try.prog 110 #[.pointer (some ⟨b, 0, none⟩)] w fun e w' => e = .returned (.string ⟨l.toArray⟩) ∧ Keeps (fun k => k < base) w w' := by
  obtain ⟨p, v, hbk, hown, hbw⟩ : ∃ p, BAt b base p l w := by
    rcases h with h | h
    · exact ⟨_, h⟩
    · exact ⟨_, h⟩
  clear h
  have hl0 : l.length ≠ 0 := by simpa using h0
  obtain ⟨g, cap, cur, rfl, hbg, hg, hnc, hcm, hcs, htake⟩ : ∃ g cap cur, v = .slice (some ⟨g, 0, none⟩) l.length cap ∧ base ≤ g ∧ w.heap[g]? = some (.cells cur 5 (0, 0)) ∧ l.length ≤ cap ∧ cap ≤ maxLen ∧ cur.size = cap * 1 ∧ cur.toList.take (l.length * 1) = Lib.byteCells l := by
    rcases hown.2 with ⟨_, hz⟩ | ⟨g, cap, cur, hv, r⟩
    · exact absurd hz hl0
    · exact ⟨g, cap, cur, hv, r⟩
  have c1 : w.drew.cell? ⟨b, 1, none⟩ = some (.slice (some ⟨g, 0, none⟩) l.length cap) := by
    have : w.drew.heap[b]? = some (.cells #[p, .slice (some ⟨g, 0, none⟩) l.length cap] 117 (0, 0)) := hbk
    rw [Lib.cell_of_heap this]; rfl
  have hSD : (Builtin.unsafeSliceData_ #[95] 139 #[.slice (some ⟨g, 0, none⟩) l.length cap]).run Try.prog w.drew = .ok (.pointer (some ⟨g, 0, none⟩)) w.drew :=
    Lib.run_unsafeSliceData_row _ _ _ _ _ _ (by omega)
  have hUS : (Builtin.unsafeString_ #[139, 3] 9 #[.pointer (some ⟨g, 0, none⟩), .int .i64 l.length]).run Try.prog w.drew = .ok (.string ⟨l.toArray⟩) (w.drew.freeze ⟨g, 0, none⟩ l.length) := by
    refine Lib.run_unsafeString_row w.drew 139 3 9 5 Try.underlying139 cellsByte g cur.size (by have hg' : w.drew.heap[g]? = some (.cells cur 5 (0, 0)) := hg; simp [World.shape?, hg']) l h0 (by omega) (by unfold maxLen at hcm; omega) ?_
    intro j x hx
    have := hown.cells (g := g) rfl j (.int .u8 x.toNat) (by simp [Lib.byteCells, hx])
    exact this
  have hmx : Try.prog.follows .mixedOrders = true := by kernel_rfl
  have Hk : Hid (Keeps (fun k => k < base) w (w.drew.freeze ⟨g, 0, none⟩ l.length)) := Lib.hid (Keeps.of_below (Lib.below_freeze (Below.drew (Below.refl base w)) (p := ⟨g, 0, none⟩) hbg _) (fun _ _ h => h))
  clear hown hbk hg htake h0 hl0 hcs
  go_enter Try.func110, Try.ntmps110
  go_wp2
  go_region
  all_goals (go_wp2; go_ret; exact ⟨rfl, Hk.out⟩)

end Go.Proofs.Ytmmjhdkoccpdjaa
