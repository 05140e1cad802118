/- The walk of hardtacklaw04.RdataBack: it answers true. Conditions: strings and numbers that Go can hold. -/
import Derived.Test.YteoelhhkdfmaiaaLives4
namespace Go.Proofs.Yteoelhhkdfmaiaa
open Go Go.RowKit Go.Shelf
attribute [local go_sem] Oper.semAt_some wide_fn wide_depth

theorem part_all (s : ByteArray) (a : Nat) (ha : a ≤ s.size) : partR ⟨s, a, false⟩ ((s.size : Int) - a) = ⟨s, a, false⟩ ∧ (rawR ⟨s, a, false⟩ ((s.size : Int) - a)).2 = ⟨s, s.size, false⟩ := by
  have h := rawR_fit s a (s.size - a) (by omega)
  rw [show ((s.size - a : Nat) : Int) = (s.size : Int) - a from by omega, show a + (s.size - a) = s.size from by omega] at h
  rw [partR, h]
  refine ⟨?_, rfl⟩
  show (⟨s.extract 0 s.size, a, false⟩ : Rd) = _
  rw [extract_all]
def bigW : Wr := ⟨[], 65536, false, []⟩
theorem bigW_ok : bigW.ok := by decide +kernel
theorem bigW_inv : bigW.inv := fun x hx => by cases hx
theorem big_name (n : ByteArray) (pt : Bool) : (nameW bigW n pt).ok ∧ (nameW bigW n pt).inv ∧ (nameW bigW n pt).full = false ∧ (nameW bigW n pt).limit = 65536 ∧ (nameW bigW n pt).bytes.length ≤ 255 := by
  refine ⟨nameW_ok n pt bigW_ok, ?_⟩
  cases hn : isName n with
  | false =>
    have e : nameW bigW n pt = bigW := by rw [nameW, hn]; rfl
    rw [e]
    exact ⟨bigW_inv, rfl, rfl, by decide⟩
  | true =>
    obtain ⟨ls, hr⟩ := rep_of_name hn
    have hl := hr.len
    obtain ⟨y, i1, i2, i3, i4, i5, i6⟩ := nameW_tells (q := bigW) pt hr rfl (by show ((0 + n.size : Nat) : Int) ≤ 65536; omega) (fun x hx => by cases hx) bigW_inv
    exact ⟨i6, i3, i4, by rw [i1]; show ([] ++ y).length ≤ 255; rw [List.nil_append]; omega⟩

/-- What the second half asks. -/
theorem back_read (t : Int) (raw : ByteArray) (hr : raw.size ≤ 16384) : (∃ x, gotR t ⟨raw, 0, false⟩ (raw.size : Int) = (x, 0) ∧ x.size ≤ 4294967296 ∧ errR t x = 0) ∨ gotR t ⟨raw, 0, false⟩ (raw.size : Int) = (⟨#[]⟩, 6) := by
  have hp := (part_all raw 0 (Nat.zero_le _)).1
  rw [show (raw.size : Int) - ((0 : Nat) : Int) = raw.size from by omega] at hp
  unfold gotR
  rw [hp]
  cases hb : dataB t ⟨raw, 0, false⟩ with
  | false => exact .inr rfl
  | true =>
    have hok : (⟨raw, 0, false⟩ : Rd).ok := ⟨Nat.zero_le _, by show raw.size ≤ _; omega⟩
    have h1 := (data_right hok hb).1
    refine .inl ⟨_, rfl, ?_, by unfold errR; rw [h1]; rfl⟩
    have hq : (dataW t ⟨raw, 0, false⟩).ok := foldW_ok false _ _ newW_ok
    unfold outR
    split
    · exact Nat.zero_le _
    · show (dataW t ⟨raw, 0, false⟩).bytes.toArray.size ≤ _
      rw [List.size_toArray]; exact hq.1
/-- What the first half asks. -/
theorem back_write (n : ByteArray) (t : Int) (d : ByteArray) (hd : d.size ≤ 16384) (h : rightB t d = true) :
    ∃ s, outR (wroteW t d (nameW bigW n true)) = (s, 0) ∧ (nameW bigW n true).bytes.length ≤ s.size ∧ s.size ≤ 4351 ∧ gotR t ⟨s, (nameW bigW n true).bytes.length, false⟩ ((s.size : Int) - (nameW bigW n true).bytes.length) = (d, 0) := by
  have hb := big_name n true
  generalize nameW bigW n true = q at hb ⊢
  obtain ⟨h1, h2, h3, h4, h5⟩ := hb
  obtain ⟨i1, y, i2, i3, i4, i5, i6, i7⟩ := write_read h (by omega) (decide (t ≠ 33)) h3 (by rw [h4]; omega) h1 h2
  have hw : wroteW t d q = (readPcs (pieces t) ⟨d, 0, false⟩).1.foldl (apW (decide (t ≠ 33))) q := by rw [wroteW, if_pos h]; rfl
  rw [hw]
  have hs := i7 ⟨(q.bytes ++ y).toArray⟩ (bl_mk _)
  have hz : (⟨(q.bytes ++ y).toArray⟩ : ByteArray).size = q.bytes.length + y.length := by show (q.bytes ++ y).toArray.size = _; simp
  refine ⟨⟨(q.bytes ++ y).toArray⟩, ?_, by omega, by omega, ?_⟩
  · unfold outR; rw [i4, i2]; rfl
  · unfold gotR
    rw [(part_all _ _ (by omega)).1, hs.1]
    show ((outR _).1, (0 : Int)) = _
    rw [hs.2]

end Go.Proofs.Yteoelhhkdfmaiaa
