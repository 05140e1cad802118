/- What label's Fold does. Conditions: strings that Go can hold. -/
import Derived.Test.YtmmjhdkoccpdjaaLabB
import Derived.Laws.IdiomStrings
namespace Go.Proofs.Ytmmjhdkoccpdjaa
open Go Go.RowKit Go.Shelf

/-- The bytes of s in block B, the first k of them folded. -/
def FoldRow (s : ByteArray) (B k : Nat) (W : World) : Prop :=
  ∀ j, j < s.size → W.cell? ⟨B, j, none⟩ = some (.int .u8 (if j < k then (foldB s[j]!).toNat else s[j]!.toNat : Nat)) ∧ W.frozen? ⟨B, j, none⟩ = false

theorem FoldRow.keep {s : ByteArray} {B k : Nat} {W : World} (h : FoldRow s B k W) (hk : (foldB s[k]!).toNat = s[k]!.toNat) : FoldRow s B (k + 1) W := by
  intro j hj
  obtain ⟨h1, h2⟩ := h j hj
  refine ⟨?_, h2⟩
  rw [h1]
  by_cases e : j = k
  · subst e; simp [hk]
  · have : (j < k + 1) ↔ (j < k) := by omega
    simp [this]

theorem FoldRow.store {s : ByteArray} {B k : Nat} {W : World} (h : FoldRow s B k W) {v : Int} (hk : ((foldB s[k]!).toNat : Int) = v) : FoldRow s B (k + 1) (W.setCell ⟨B, k, none⟩ (.int .u8 v)) := by
  intro j hj
  obtain ⟨h1, h2⟩ := h j hj
  refine ⟨?_, by rw [World.frozen?_setCell]; exact h2⟩
  by_cases e : j = k
  · subst e; rw [World.cell?_setCell_same' _ _ _ (by rw [h1]; rfl)]; simp [hk]
  · rw [World.cell?_setCell_other _ _ _ _ (by intro h; cases h; exact e rfl), h1]
    have : (j < k + 1) ↔ (j < k) := by omega
    simp [this]

theorem size_foldS (s : ByteArray) : (foldS s).size = s.size := by show ((s.data.toList.map foldB).toArray).size = s.data.size; simp

theorem FoldRow.all {s : ByteArray} {B k : Nat} {W : World} (h : FoldRow s B k W) (hk : s.size ≤ k) (j : Nat) (hj : j < (s.data.toList.map foldB).length) :
    W.cell? ((⟨B, 0, none⟩ : Addr).add j) = some (.int .u8 ((s.data.toList.map foldB)[j].toNat : Int)) := by
  have hj' : j < s.size := by have : j < s.data.toList.length := by simpa using hj
                              exact this
  have hp : (⟨B, 0, none⟩ : Addr).add j = ⟨B, j, none⟩ := by unfold Addr.add; split <;> simp_all
  rw [hp, (h j hj').1, if_pos (by omega)]
  simp only [List.getElem_map]
  rw [getElem!_pos s j hj']
  rfl

set_option maxRecDepth 100000 in
set_option maxHeartbeats 2000000 in
theorem Fold_any (s : ByteArray) (w : World) (hs : s.size ≤ maxLen) :
    Calls Try.prog 73 #[.string s] w fun e w' => e = .returned (.string (foldS s)) ∧ Below w.heap.size w w' := by
  unfold maxLen at hs
  obtain ⟨cap, C, hconv, hC⟩ : ∃ cap C, (convert 9 95 (.string s)).run Try.prog w = .ok (.slice (some ⟨w.heap.size, 0, none⟩) s.size cap) (w.drew.alloc (.cells C 5 (C.size, C.size + 1))) ∧
      s.size ≤ C.size ∧ ∀ j (hj : j < s.data.size), C[j]? = some (.int .u8 (s.data[j].toNat : Int)) := by
    refine ⟨_, _, run_bytes_of_string w 9 95 5 s Try.underlying9 Try.underlying95 Try.underlying5, ?_, fun j hj => bytesRow_at s _ j hj⟩
    rw [bytesRow, Array.size_append, Array.size_map]; exact Nat.le_add_right _ _
  have HC := Lib.hid hC; clear hC
  go_enter Try.func73, Try.ntmps73
  go_wp2
  go_loopw [10] (fun i wr => ∃ k : Nat, k ≤ s.size ∧ i = .int .i64 k ∧ Below w.heap.size w wr ∧ w.heap.size < wr.heap.size ∧
      FoldRow s w.heap.size k wr)
    (fun i _ => s.size - (intOf i).toNat)
  case atStart =>
    refine ⟨0, Nat.zero_le _, rfl, ((Below.refl _ _).alloc (Nat.le_refl _) _).drew, by simp, fun j hj => ?_⟩
    obtain ⟨h1, h2⟩ := HC.out
    have e1 : (w.alloc (.cells C 5 (C.size, C.size + 1))).drew.cell? ⟨w.heap.size, j, none⟩ = C[j]? := World.cell?_alloc_mark w C 5 _ j
    have e2 : (w.alloc (.cells C 5 (C.size, C.size + 1))).drew.frozen? ⟨w.heap.size, j, none⟩ = _ := World.frozen?_alloc_mark w C 5 C.size (C.size + 1) j
    rw [e1, e2, h2 j hj, getElem!_pos s j hj]
    refine ⟨rfl, ?_⟩
    rw [decide_eq_false (by omega)]; rfl
  case round =>
    obtain ⟨k, hk, rfl, hB, hz, hrow⟩ := hrel
    by_cases hlt : k < s.size
    · obtain ⟨hc, hf⟩ := hrow k hlt
      rw [if_neg (Nat.lt_irrefl k)] at hc
      have Hrow := Lib.hid hrow; clear hrow
      obtain ⟨c, hcv⟩ : ∃ c : Nat, s[k]!.toNat = c := ⟨_, rfl⟩
      rw [hcv] at hc
      have hc255 : c ≤ 255 := by have := s[k]!.toNat_lt; omega
      have Hcv := Lib.hid hcv; clear hcv
      have HB := Lib.hid hB; clear hB
      by_cases h1 : 65 ≤ c ∧ c ≤ 90
      · have hv : Hid (((foldB s[k]!).toNat : Int) = (c : Int) - 65 + 97) := Lib.hid (by
          unfold foldB; rw [Hcv.out, if_pos h1]; simp; omega)
        obtain ⟨h1, h2⟩ := h1
        go_wp2
        go_roundw
        case rel => exact ⟨k + 1, by omega, by simp, HB.out.setCell (p := ⟨w.heap.size, k, none⟩) (Nat.le_refl _) _, by simpa [World.setCell] using hz, Hrow.out.store hv.out⟩
        case measure => simp [intOf]; omega
      · have hv : Hid ((foldB s[k]!).toNat = s[k]!.toNat) := Lib.hid (by
          unfold foldB; rw [if_neg (by rw [Hcv.out]; exact h1)])
        by_cases h2 : 65 ≤ c
        all_goals
          go_wp2
          go_roundw
          case rel => exact ⟨k + 1, by omega, by simp, HB.out, hz, Hrow.out.keep hv.out⟩
          case measure => simp [intOf]; omega
    · have hback : (convert 95 9 (.slice (some ⟨w.heap.size, 0, none⟩) s.size cap)).run Try.prog wr = .ok (.string (foldS s)) wr := by
        have := run_convert_bytes_back wr 95 9 5 ⟨w.heap.size, 0, none⟩ cap (s.data.toList.map foldB) Try.underlying95 Try.underlying5 Try.underlying9 (fun j hj => hrow.all (by omega) j hj)
        rw [show (s.data.toList.map foldB).length = s.size from by rw [List.length_map]; rfl] at this
        exact this
      have Hrow := Lib.hid hrow; clear hrow
      have HB := Lib.hid hB; clear hB
      go_wp2
      go_ret
      exact ⟨rfl, HB.out⟩

end Go.Proofs.Ytmmjhdkoccpdjaa
