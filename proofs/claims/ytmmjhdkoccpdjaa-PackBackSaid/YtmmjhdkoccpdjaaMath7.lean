/- The mathematics of names that are read: where the reader is then; what a part of the bytes tells. Conditions: none. -/
import Derived.Test.YtmmjhdkoccpdjaaLives3
import Derived.Test.YtmmjhdkoccpdjaaMath6
namespace Go.Proofs.Ytmmjhdkoccpdjaa
open Go

def partsL (ps : List (List UInt8)) : List UInt8 := (ps.map fun l => UInt8.ofNat l.length :: l).flatten
/-- Labels without an end. -/
def Parts (n : List UInt8) : Prop := ∃ ps : List (List UInt8), (∀ l ∈ ps, 1 ≤ l.length ∧ l.length ≤ 191) ∧ n = partsL ps
theorem parts_enc : ∀ (ps ls : List (List UInt8)), (∀ l ∈ ps, 1 ≤ l.length ∧ l.length ≤ 191) → OkL ls → enc ls ≠ partsL ps
  | [], ls, _, _ => fun h => enc_ne ls h
  | l :: r, [], hp, _ => fun h => by
    have h1 := hp l (by simp)
    simp only [enc, partsL, List.map_cons, List.flatten_cons, List.cons_append, List.cons.injEq] at h
    have h2 := congrArg UInt8.toNat h.1
    simp at h2
    omega
  | l :: r, m :: q, hp, ho => fun h => by
    have h1 := hp l (by simp)
    have h2 := ho.head
    simp only [enc, partsL, List.map_cons, List.flatten_cons, List.cons_append, List.cons.injEq] at h
    have h3 := congrArg UInt8.toNat h.1
    simp at h3
    obtain ⟨_, h6⟩ := List.append_inj h.2 (by omega : m.length = l.length)
    exact parts_enc r q (fun x hx => hp x (List.mem_cons_of_mem _ hx)) ho.tail h6
theorem Parts.none {n : List UInt8} (h : Parts n) : isName ⟨n.toArray⟩ = false := by
  rw [Bool.eq_false_iff]
  intro hn
  obtain ⟨ls, hr⟩ := rep_of_name hn
  obtain ⟨ps, h1, h2⟩ := h
  have := hr.eq
  rw [bl_mk, h2] at this
  exact parts_enc ps ls h1 hr.ok this.symm
theorem Parts.nil : Parts [] := ⟨[], by simp, rfl⟩
theorem Parts.snoc {n : List UInt8} (h : Parts n) {l : List UInt8} (h1 : 1 ≤ l.length) (h2 : l.length ≤ 191) : Parts (n ++ UInt8.ofNat l.length :: l) := by
  obtain ⟨ps, a, rfl⟩ := h
  refine ⟨ps ++ [l], fun x hx => ?_, by simp [partsL]⟩
  rcases List.mem_append.1 hx with hx | hx
  · exact a x hx
  · obtain rfl : x = l := by simpa using hx
    exact ⟨h1, h2⟩
/-- A piece that is neither a pointer nor the end is a label behind its length. -/
theorem piece_label {s : ByteArray} {a : Nat} (h0 : (pieceR s a).size ≠ 0) (h1 : ¬ 192 ≤ (pieceR s a)[0]!.toNat) : bl (pieceR s a) = UInt8.ofNat ((bl (pieceR s a)).drop 1).length :: (bl (pieceR s a)).drop 1 ∧
    ((bl (pieceR s a)).drop 1).length = (pieceR s a)[0]!.toNat ∧ (pieceR s a)[0]!.toNat ≤ 191 := by
  obtain ⟨p1, p2, p3, p4, p5⟩ := (piece_cases s a).resolve_left h0
  rw [p3] at h1 ⊢
  have hl : ((bl (pieceR s a)).drop 1).length = s[a]!.toNat := by
    rw [List.length_drop, bl_size]; omega
  refine ⟨?_, hl, by omega⟩
  have hpos : 0 < (bl (pieceR s a)).length := by rw [bl_size]; omega
  have hd := List.drop_eq_getElem_cons hpos
  rw [List.drop_zero] at hd
  conv => lhs; rw [hd]
  congr 1
  rw [hl]
  have h3 : (pieceR s a)[0]! = (bl (pieceR s a))[0] := by rw [get_bl _ 0 (by omega)]; rfl
  rw [← h3, p3, UInt8.ofNat_toNat]
theorem piece_root {s : ByteArray} {a : Nat} (h0 : (pieceR s a).size ≠ 0) (h1 : ¬ 192 ≤ (pieceR s a)[0]!.toNat) (h2 : (pieceR s a).toList ≠ [0]) : 1 ≤ (pieceR s a)[0]!.toNat := by
  obtain ⟨e1, e2, _⟩ := piece_label h0 h1
  rcases Nat.eq_zero_or_pos (pieceR s a)[0]!.toNat with h | h
  · exfalso
    rw [h] at e2
    have e3 := List.eq_nil_of_length_eq_zero e2
    rw [e3] at e1
    exact h2 (by rw [toList_bl, e1]; rfl)
  · exact h

theorem gatherF_behind (s : ByteArray) : ∀ (f : Nat) (n : List UInt8) (a fm b : Nat) (q : Bool), (q = false → b = a) →
    (q = true → (gatherF s f n a fm b q).2 = b) ∧ (q = false → a ≤ (gatherF s f n a fm b q).2 ∧ ((gatherF s f n a fm b q).2 = a → (gatherF s f n a fm b q).1 = n))
  | 0, n, a, fm, b, q, h => ⟨fun _ => rfl, fun hq => ⟨by rw [gatherF, h hq]; exact Nat.le_refl _, fun _ => rfl⟩⟩
  | f + 1, n, a, fm, b, q, h => by
    rw [gatherF]
    split
    · split
      · next hz => exact ⟨fun hq => by rw [hq]; rfl, fun hq => by subst hq; exact ⟨by simp, fun _ => rfl⟩⟩
      · next hz =>
        split
        · split
          · exact ⟨fun hq => by rw [hq]; rfl, fun hq => by subst hq; exact ⟨by simp, fun _ => rfl⟩⟩
          · obtain ⟨i1, _⟩ := gatherF_behind s f n (targetR (pieceR s a)) (targetR (pieceR s a)) (if q = true then b else a + (pieceR s a).size) true (by simp)
            have i1 := i1 rfl
            rw [i1]
            exact ⟨fun hq => by rw [hq]; rfl, fun hq => by subst hq; exact ⟨by simp, fun he => by rw [if_neg (by simp)] at he; omega⟩⟩
        · split
          · exact ⟨fun hq => by rw [hq]; rfl, fun hq => by subst hq; exact ⟨by simp, fun he => by rw [if_neg (by simp)] at he; omega⟩⟩
          · obtain ⟨i1, i2⟩ := gatherF_behind s f (n ++ bl (pieceR s a)) (a + (pieceR s a).size) fm (if q = true then b else a + (pieceR s a).size) q (by intro hq; rw [hq]; rfl)
            refine ⟨fun hq => ?_, fun hq => ?_⟩
            · rw [i1 hq, hq]; rfl
            · obtain ⟨j1, j2⟩ := i2 hq
              exact ⟨by omega, fun he => by omega⟩
    · exact ⟨fun _ => rfl, fun hq => ⟨by rw [h hq]; exact Nat.le_refl _, fun _ => rfl⟩⟩
/-- Where a reader is behind a name. -/
theorem gather_behind {s : ByteArray} {a : Nat} (h : isName ⟨(gatherR s a).1.toArray⟩ = true) (ha : a ≤ s.size) : a < (gatherR s a).2 ∧ (gatherR s a).2 ≤ s.size := by
  obtain ⟨_, h2⟩ := gatherF_behind s (257 + a) [] a a a false (fun _ => rfl)
  obtain ⟨h3, h4⟩ := h2 rfl
  refine ⟨?_, gatherF_le s _ _ _ _ _ _ ha ha⟩
  rcases Nat.lt_or_ge a (gatherR s a).2 with h5 | h5
  · exact h5
  · have h6 := h4 (show (gatherR s a).2 = a from Nat.le_antisymm h5 h3)
    rw [show (gatherR s a).1 = [] from h6] at h
    rw [Parts.nil.none] at h; cases h

theorem piece_part (s : ByteArray) (b a : Nat) (hb : b ≤ s.size) : pieceR (s.extract 0 b) a = pieceR s a ∨ pieceR (s.extract 0 b) a = ⟨#[]⟩ := by
  have hs : (s.extract 0 b).size = b := by rw [ByteArray.size_extract]; omega
  by_cases h1 : b ≤ a
  · right; rw [pieceR, if_pos (by omega)]
  · have e1 : (s.extract 0 b)[a]! = s[a]! := by
      rw [getElem!_pos _ a (by omega), getElem!_pos s a (by omega), ByteArray.getElem_extract]
      simp
    rw [pieceR, if_neg (by omega), e1, hs]
    obtain ⟨z, hz⟩ : ∃ z, (if 192 ≤ s[a]!.toNat then 2 else 1 + s[a]!.toNat) = z := ⟨_, rfl⟩
    rw [hz]
    by_cases h2 : b - a < z
    · right; rw [if_pos h2]
    · left
      rw [if_neg h2, pieceR, if_neg (by omega), hz, if_neg (by omega)]
      apply bl_inj
      rw [bl_extract, bl_extract, bl_extract, List.drop_zero, List.take_take, Nat.min_eq_left (by omega)]
/-- A part of the bytes tells the same name, or none. -/
theorem gatherF_part (s : ByteArray) (b : Nat) (hb : b ≤ s.size) : ∀ (f : Nat) (n : List UInt8) (a fm bb : Nat) (q : Bool), Parts n →
    isName ⟨(gatherF (s.extract 0 b) f n a fm bb q).1.toArray⟩ = false ∨ gatherF (s.extract 0 b) f n a fm bb q = gatherF s f n a fm bb q
  | 0, n, a, fm, bb, q, h => .inr rfl
  | f + 1, n, a, fm, bb, q, h => by
    rcases piece_part s b a hb with hp | hp
    · rw [gatherF, gatherF, hp]
      split
      · split
        · exact .inr rfl
        · next hz =>
          split
          · split
            · exact .inr rfl
            · exact gatherF_part s b hb f _ _ _ _ _ h
          · next h192 =>
            split
            · exact .inr rfl
            · next hrt =>
              obtain ⟨e1, e2, e3⟩ := piece_label hz h192
              have e4 := piece_root hz h192 hrt
              refine gatherF_part s b hb f _ _ _ _ _ ?_
              rw [e1]
              exact h.snoc (by omega) (by omega)
      · exact .inr rfl
    · left
      rw [gatherF, hp]
      split
      · exact h.none
      · exact h.none
theorem gather_part {s : ByteArray} {a : Nat} (b : Nat) (hb : b ≤ s.size) : isName ⟨(gatherR (s.extract 0 b) a).1.toArray⟩ = false ∨ gatherR (s.extract 0 b) a = gatherR s a :=
  gatherF_part s b hb _ _ _ _ _ _ Parts.nil

end Go.Proofs.Ytmmjhdkoccpdjaa
