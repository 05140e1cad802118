/- What hardtackref01's Check, Count, Fold and Make do. Conditions: strings that Go can hold; for Make labels of at most 255 bytes. -/
import Derived.Test.YtmmjhdkoccpdjaaRefA
namespace Go.Proofs.Ytmmjhdkoccpdjaa
open Go Go.RowKit Go.Shelf
attribute [local go_sem] Oper.semAt_some wide_fn wide_depth

set_option maxHeartbeats 1000000 in
theorem RCheck_any (s : ByteArray) (w : World) (hs : s.size ≤ maxLen) :
    Calls Try.prog 41 #[.string s] w fun e w' => e = .returned (.int .i64 (chk s)) ∧ Ext w w' := by
  have C := Lib.hid (RSplit_any s w hs)
  cases hn : isName s with
  | false =>
    rw [chk_none hn]
    have Hn := Lib.hid hn; clear hn
    go_enter Try.func41, Try.ntmps41
    go_wp2_with fail
    refine C.out.mono ?_
    rintro e w1 ⟨v, rfl, hv, hx⟩
    rw [Hn.out]
    clear hv
    have HX := Lib.hid hx; clear hx
    go_wp2
    go_ret
    exact ⟨rfl, HX.out⟩
  | true =>
    rw [chk_name hn]
    have Hn := Lib.hid hn; clear hn
    go_enter Try.func41, Try.ntmps41
    go_wp2_with fail
    refine C.out.mono ?_
    rintro e w1 ⟨v, rfl, hv, hx⟩
    rw [Hn.out]
    clear hv
    have HX := Lib.hid hx; clear hx
    go_wp2
    go_ret
    exact ⟨rfl, HX.out⟩

set_option maxHeartbeats 1000000 in
theorem RCount_any (s : ByteArray) (w : World) (hs : s.size ≤ maxLen) :
    Calls Try.prog 77 #[.string s] w fun e w' => e = .returned (.int .i64 ((labelsB s).length : Nat)) ∧ Ext w w' := by
  have C := Lib.hid (RSplit_any s w hs)
  cases hn : isName s with
  | false =>
    rw [count_none hn]
    have Hn := Lib.hid hn; clear hn
    go_enter Try.func77, Try.ntmps77
    go_wp2_with fail
    refine C.out.mono ?_
    rintro e w1 ⟨v, rfl, hv, hx⟩
    rw [Hn.out]
    clear hv
    have HX := Lib.hid hx; clear hx
    go_wp2
    go_ret
    exact ⟨rfl, HX.out⟩
  | true =>
    have Hn := Lib.hid hn; clear hn
    go_enter Try.func77, Try.ntmps77
    go_wp2_with fail
    refine C.out.mono ?_
    rintro e w1 ⟨v, rfl, hv, hx⟩
    rw [Hn.out]
    obtain ⟨b, off, cap, rfl, h1, h2, h3⟩ := hv Hn.out
    have HX := Lib.hid hx; clear hx h3 hv
    go_wp2
    go_ret
    exact ⟨rfl, HX.out⟩

set_option maxRecDepth 100000 in
set_option maxHeartbeats 2000000 in
theorem RFold_any (s : ByteArray) (w : World) (hs : s.size ≤ maxLen) :
    Calls Try.prog 81 #[.string s] w fun e w' => e = .returned (.string (foldS s)) ∧ Ext w w' := by
  unfold maxLen at hs
  obtain ⟨cap, C, hconv, hC⟩ : ∃ cap C, (convert 9 95 (.string s)).run Try.prog w = .ok (.slice (some ⟨w.heap.size, 0, none⟩) s.size cap) (w.drew.alloc (.cells C 5 (C.size, C.size + 1))) ∧
      s.size ≤ C.size ∧ ∀ j (hj : j < s.data.size), C[j]? = some (.int .u8 (s.data[j].toNat : Int)) := by
    refine ⟨_, _, run_bytes_of_string w 9 95 5 s Try.underlying9 Try.underlying95 Try.underlying5, ?_, fun j hj => bytesRow_at s _ j hj⟩
    rw [bytesRow, Array.size_append, Array.size_map]; exact Nat.le_add_right _ _
  have HC := Lib.hid hC; clear hC
  go_enter Try.func81, Try.ntmps81
  go_wp2
  go_loopw [10] (fun i wr => ∃ k : Nat, k ≤ s.size ∧ i = .int .i64 k ∧ Below w.heap.size w wr ∧ w.heap.size < wr.heap.size ∧
      FoldRow s w.heap.size k wr)
    (fun i _ => s.size - (intOf i).toNat)
  case atStart =>
    refine ⟨0, Nat.zero_le _, rfl, ((Below.refl _ _).alloc (Nat.le_refl _) _).drew, by simp, fun j hj => ?_⟩
    obtain ⟨h1, h2⟩ := HC.out
    have e1 : (w.alloc (.cells C 5 (C.size, C.size + 1))).drew.cell? ⟨w.heap.size, j, none⟩ = C[j]? := World.cell?_alloc_mark w C 5 _ j
    have e2 : (w.alloc (.cells C 5 (C.size, C.size + 1))).drew.frozen? ⟨w.heap.size, j, none⟩ = _ := World.frozen?_alloc_mark w C 5 C.size (C.size + 1) j
    rw [e1, e2, h2 j hj, getElem!_pos s j hj]
    refine ⟨rfl, ?_⟩
    rw [decide_eq_false (by omega)]; rfl
  case round =>
    obtain ⟨k, hk, rfl, hB, hz, hrow⟩ := hrel
    by_cases hlt : k < s.size
    · obtain ⟨hc, hf⟩ := hrow k hlt
      rw [if_neg (Nat.lt_irrefl k)] at hc
      have Hrow := Lib.hid hrow; clear hrow
      obtain ⟨c, hcv⟩ : ∃ c : Nat, s[k]!.toNat = c := ⟨_, rfl⟩
      rw [hcv] at hc
      have hc255 : c ≤ 255 := by have := s[k]!.toNat_lt; omega
      have Hcv := Lib.hid hcv; clear hcv
      have HB := Lib.hid hB; clear hB
      by_cases h1 : 65 ≤ c ∧ c ≤ 90
      · have hv : Hid (((foldB s[k]!).toNat : Int) = (c : Int) + 32) := Lib.hid (by
          unfold foldB; rw [Hcv.out, if_pos h1]; simp; omega)
        obtain ⟨h1, h2⟩ := h1
        go_wp2
        go_roundw
        case rel => exact ⟨k + 1, by omega, by simp, HB.out.setCell (p := ⟨w.heap.size, k, none⟩) (Nat.le_refl _) _, by simpa [World.setCell] using hz, Hrow.out.store hv.out⟩
        case measure => simp [intOf]; omega
      · have hv : Hid ((foldB s[k]!).toNat = s[k]!.toNat) := Lib.hid (by
          unfold foldB; rw [if_neg (by rw [Hcv.out]; exact h1)])
        by_cases h2 : 65 ≤ c
        all_goals
          go_wp2
          go_roundw
          case rel => exact ⟨k + 1, by omega, by simp, HB.out, hz, Hrow.out.keep hv.out⟩
          case measure => simp [intOf]; omega
    · have hback : (convert 95 9 (.slice (some ⟨w.heap.size, 0, none⟩) s.size cap)).run Try.prog wr = .ok (.string (foldS s)) wr := by
        have := run_convert_bytes_back wr 95 9 5 ⟨w.heap.size, 0, none⟩ cap (s.data.toList.map foldB) Try.underlying95 Try.underlying5 Try.underlying9 (fun j hj => hrow.all (by omega) j hj)
        rw [show (s.data.toList.map foldB).length = s.size from by rw [List.length_map]; rfl] at this
        exact this
      have Hrow := Lib.hid hrow; clear hrow
      have HB := Lib.hid hB; clear hB
      go_wp2
      go_ret
      exact ⟨rfl, HB.out⟩

theorem bl_append (a b : ByteArray) : bl (a ++ b) = bl a ++ bl b := by
  unfold bl; rw [ByteArray.data_append, Array.toList_append]
theorem sizeL_le256 (ls : List ByteArray) (h : ∀ x ∈ ls, x.size ≤ 255) : sizeL ls ≤ 256 * ls.length := by
  induction ls with
  | nil => simp [sizeL]
  | cons a r ih =>
    have h1 := h a (by simp)
    have h2 := ih (fun x hx => h x (by simp [hx]))
    simp only [sizeL, List.map_cons, List.sum_cons, List.length_cons] at h2 ⊢
    omega
/-- The name of labels, as the plain answer makes it. -/
def makeB (ls : List ByteArray) : ByteArray := ⟨(encL ls ++ [0]).toArray⟩

set_option maxRecDepth 100000 in
set_option maxHeartbeats 2000000 in
theorem RMake_any (sv : Value) (ls : List ByteArray) (w : World) (hsv : Strs w sv ls) (hlen : ls.length ≤ 1000) (hll : ∀ x ∈ ls, x.size ≤ 255) :
    Calls Try.prog 82 #[sv] w fun e w' => e = .returned (.string (makeB ls)) ∧ Ext w w' := by
  obtain ⟨ao, cap, rfl, hsv2⟩ := hsv.open
  have Hsv := Lib.hid hsv2; clear hsv2 hsv
  have Hll := Lib.hid hll; clear hll
  go_enter Try.func82, Try.ntmps82
  go_wp2
  go_loopw [3, 8] (fun t i wr => ∃ k : Nat, k ≤ ls.length ∧ i = .int .i64 k ∧ (∃ acc : ByteArray, t = .string acc ∧ bl acc = encL (ls.take k)) ∧ Ext w wr)
    (fun _ i _ => ls.length - (intOf i).toNat)
  case atStart => exact ⟨0, Nat.zero_le _, rfl, ⟨_, rfl, rfl⟩, Ext.refl _⟩
  case round =>
    obtain ⟨k, hk, rfl, ⟨acc, rfl, hacc⟩, hx⟩ := hrel
    have HX := Lib.hid hx; clear hx
    have hsz : acc.size ≤ 256000 := by
      have h1 := sizeL_le256 (ls.take k) (fun x hx => Hll.out x (List.mem_of_mem_take hx))
      rw [← encL_length, ← hacc, bl_size, List.length_take] at h1
      omega
    have Hacc := Lib.hid hacc; clear hacc
    by_cases hlt : k < ls.length
    · obtain ⟨b, off, rfl, hc⟩ := Hsv.out k hlt
      replace hc := HX.out.keeps.cell hc trivial
      have hts := take_snoc ls k ⟨#[]⟩ hlt
      have hmem : (ls[k]?.getD ⟨#[]⟩) ∈ ls := by rw [List.getElem?_eq_getElem hlt]; exact List.getElem_mem hlt
      obtain ⟨x, hx⟩ : ∃ x, ls[k]?.getD ⟨#[]⟩ = x := ⟨_, rfl⟩
      rw [hx] at hc hts hmem
      clear hx
      have hxs := Hll.out x hmem
      have Hts := Lib.hid hts
      clear hts hmem
      have hback : (convert 95 9 (.slice (some ⟨wr.heap.size, 0, none⟩) 1 1)).run Try.prog (wr.alloc (.cells #[.int .u8 (x.size : Int)] 5)) = .ok (.string ⟨#[UInt8.ofNat x.size]⟩) (wr.alloc (.cells #[.int .u8 (x.size : Int)] 5)) := by
        have := run_convert_bytes_back (wr.alloc (.cells #[.int .u8 (x.size : Int)] 5)) 95 9 5 ⟨wr.heap.size, 0, none⟩ 1 [UInt8.ofNat x.size] Try.underlying95 Try.underlying5 Try.underlying9 (fun j hj => by
          obtain rfl : j = 0 := by simp at hj; omega
          have h1 := (Boxed.new wr 5 (.int .u8 (x.size : Int))).cell
          have h2 : (⟨wr.heap.size, 0, none⟩ : Addr).add 0 = ⟨wr.heap.size, 0, none⟩ := by unfold Addr.add; split <;> simp_all
          rw [h2, h1]
          have h3 : (UInt8.ofNat x.size).toNat = x.size := by simp; omega
          simp [h3])
        exact this
      have hq1 : decide (9223372036854775807 < 1 + x.size) = false := by simp; omega
      have hq2 : ¬ 9223372036854775807 < acc.size + (1 + x.size) := by omega
      go_wp2
      go_roundw
      case rel =>
        refine ⟨k + 1, by omega, by simp, ⟨_, rfl, ?_⟩, HX.out.alloc _⟩
        rw [Hts.out, encL_snoc, bl_append, bl_append, Hacc.out]; rfl
      case measure => simp [intOf]; omega
    · obtain rfl : k = ls.length := by omega
      rw [List.take_length] at Hacc
      have hq1 : ¬ 9223372036854775807 < acc.size + 1 := by omega
      go_wp2
      go_ret
      refine ⟨?_, HX.out⟩
      have : acc ++ ⟨#[0]⟩ = makeB ls := bl_inj (by rw [bl_append, Hacc.out, makeB, bl_mk]; rfl)
      rw [this]; rfl

end Go.Proofs.Ytmmjhdkoccpdjaa
