/- What hardtacklaw02.lives answers: true. Conditions: none. -/
import Derived.Test.YtmmjhdkoccpdjaaSortF
namespace Go.Proofs.Ytmmjhdkoccpdjaa
open Go Go.RowKit Go.Shelf

def nAB : ByteArray := ⟨#[1, 97, 1, 98, 3, 111, 114, 103, 0]⟩
def nCB : ByteArray := ⟨#[1, 99, 1, 66, 3, 111, 114, 103, 0]⟩
def nORG : ByteArray := ⟨#[3, 111, 114, 103, 0]⟩
def nROOT : ByteArray := ⟨#[0]⟩
def nBORG : ByteArray := ⟨#[1, 98, 3, 111, 114, 103, 0]⟩
theorem v_common : commonR nAB nCB = (nBORG, 0) := by decide +kernel
theorem v_next1 : nextR nORG nAB = (nBORG, 0) := by decide +kernel
theorem v_next2 : nextR nAB nORG = (⟨#[]⟩, 3) := by decide +kernel
theorem v_deep1 : deepR nAB [nROOT, nORG, nCB] = (nORG, 0) := by decide +kernel
theorem v_deep2 : deepR nORG [nAB] = (⟨#[]⟩, 3) := by decide +kernel
theorem v_up : upB nAB = [nAB, nBORG, nORG, nROOT] := by decide +kernel
theorem v_less1 : lessB nAB nCB = true := by decide +kernel
theorem v_less2 : lessB nORG nAB = true := by decide +kernel
theorem v_less3 : lessB nAB nAB = false := by decide +kernel
theorem v_depth1 : depthB nAB nROOT = 3 := by decide +kernel
theorem v_depth2 : depthB nORG nAB = -1 := by decide +kernel
theorem v_sort : compactN (sortN [nCB, nROOT, nAB, nCB]) = [nROOT, nAB, nCB] := by decide +kernel

/-- A slice that was just laid holds its strings. -/
theorem strs_lit (w : World) (ls : List ByteArray) (n : Nat) (hn : ls.length = n) (xs : Array Value) (hx : xs.toList = ls.map Value.string) : Strs (w.alloc (.cells xs 9)) (.slice (some ⟨w.heap.size, 0, none⟩) n n) ls := by
  subst hn
  refine .inr ⟨w.heap.size, 0, ls.length, rfl, fun j hj => ?_⟩
  have h1 : (w.alloc (.cells xs 9)).heap[w.heap.size]? = some (.cells xs 9) := World.alloc_heap_new w _
  have h2 : xs[j]? = some (.string (ls[j]?.getD ⟨#[]⟩)) := by
    rw [← Array.getElem?_toList, hx, List.getElem?_map, List.getElem?_eq_getElem hj]
    rfl
  simp only [World.cell?, h1, Nat.zero_add]
  simpa using h2

set_option maxRecDepth 100000 in
set_option maxHeartbeats 8000000 in
theorem lives2_any (w : World) : Calls Try.prog 20 #[] w fun e w' => e = .returned (.bool true) ∧ Ext w w' := by
  have C1 := Lib.hid fun W => v_common ▸ Common_any nAB nCB W (by decide) (by decide)
  have C2 := Lib.hid fun W => v_next1 ▸ Next_any nORG nAB W (by decide) (by decide)
  have C3 := Lib.hid fun W => v_next2 ▸ Next_any nAB nORG W (by decide) (by decide)
  have L1 := Lib.hid fun W => v_less1 ▸ Less_any nAB nCB W (by decide) (by decide)
  have L2 := Lib.hid fun W => v_less2 ▸ Less_any nORG nAB W (by decide) (by decide)
  have L3 := Lib.hid fun W => v_less3 ▸ Less_any nAB nAB W (by decide) (by decide)
  have D1 := Lib.hid fun W => v_depth1 ▸ Depth_any nAB nROOT W (by decide) (by decide)
  have D2 := Lib.hid fun W => v_depth2 ▸ Depth_any nORG nAB W (by decide) (by decide)
  have HX := Lib.hid (Ext.refl w)
  simp only [nAB, nCB, nORG, nROOT, nBORG] at C1 C2 C3 L1 L2 L3 D1 D2
  go_enter Try.func20, Try.ntmps20
  go_wp2_with (first
    | ((with_reducible refine (C1.out _).mono ?_); rintro e w' ⟨rfl, hx⟩; have HX := Lib.hid (HX.out.trans hx); clear hx)
    | ((with_reducible refine (C2.out _).mono ?_); rintro e w' ⟨rfl, hx⟩; have HX := Lib.hid (HX.out.trans hx); clear hx)
    | ((with_reducible refine (C3.out _).mono ?_); rintro e w' ⟨rfl, hx⟩; have HX := Lib.hid (HX.out.trans hx); clear hx))
  have DE1 := Deepest_any nAB (.slice (some ⟨w'.heap.size, 0, none⟩) 3 3) [nROOT, nORG, nCB] (w'.alloc (.cells #[.string nROOT, .string nORG, .string nCB] 9)) (by decide) (strs_lit w' [nROOT, nORG, nCB] 3 rfl _ rfl) (by decide)
    (fun x hx => by simp only [List.mem_cons, List.not_mem_nil, or_false] at hx; rcases hx with rfl | rfl | rfl <;> decide)
  rw [v_deep1] at DE1
  refine DE1.mono ?_
  rintro e w1 ⟨rfl, hx⟩
  have HX1 := Lib.hid ((HX.out.alloc (.cells #[.string nROOT, .string nORG, .string nCB] 9)).trans hx)
  clear DE1 hx C1 C2 C3
  simp only [nORG]
  go_wp2_with fail
  have DE2 := Deepest_any nORG (.slice (some ⟨w1.heap.size, 0, none⟩) 1 1) [nAB] (w1.alloc (.cells #[.string nAB] 9)) (by decide) (strs_lit w1 [nAB] 1 rfl _ rfl) (by decide)
    (fun x hx => by simp only [List.mem_cons, List.not_mem_nil, or_false] at hx; rcases hx with rfl; decide)
  rw [v_deep2] at DE2
  refine DE2.mono ?_
  rintro e w2 ⟨rfl, hx⟩
  have HX2 := Lib.hid ((HX1.out.alloc (.cells #[.string nAB] 9)).trans hx)
  clear DE2 hx HX1
  go_wp2_with fail
  refine (list_any nAB _ (by decide)).mono ?_
  rintro e w3 ⟨v, rfl, hst, hx⟩
  rw [v_up] at hst
  obtain ⟨ao, cap, rfl, hcells⟩ := hst.open
  obtain ⟨b, off, rfl, c0⟩ := hcells 0 (by decide)
  obtain ⟨b3, off3, hb3, c3⟩ := hcells 3 (by decide)
  obtain ⟨rfl, rfl⟩ : b = b3 ∧ off = off3 := by simpa using hb3
  have c0' : w3.cell? ⟨b, off, none⟩ = some (.string ⟨#[1, 97, 1, 98, 3, 111, 114, 103, 0]⟩) := c0
  have c3' : w3.cell? ⟨b, off + 3, none⟩ = some (.string ⟨#[0]⟩) := c3
  have HX3 := Lib.hid (HX2.out.trans hx)
  clear hx HX2 hst hcells hb3 c0 c3
  have HX := HX3
  show _
  go_wp2_with (first
    | ((with_reducible refine (L1.out _).mono ?_); rintro e w' ⟨rfl, hx⟩; have HX := Lib.hid (HX.out.trans hx); clear hx)
    | ((with_reducible refine (L2.out _).mono ?_); rintro e w' ⟨rfl, hx⟩; have HX := Lib.hid (HX.out.trans hx); clear hx)
    | ((with_reducible refine (L3.out _).mono ?_); rintro e w' ⟨rfl, hx⟩; have HX := Lib.hid (HX.out.trans hx); clear hx)
    | ((with_reducible refine (D1.out _).mono ?_); rintro e w' ⟨rfl, hx⟩; have HX := Lib.hid (HX.out.trans hx); clear hx)
    | ((with_reducible refine (D2.out _).mono ?_); rintro e w' ⟨rfl, hx⟩; have HX := Lib.hid (HX.out.trans hx); clear hx))
  have S1 := Sort_19 (.slice (some ⟨w'.heap.size, 0, none⟩) 4 4) [nCB, nROOT, nAB, nCB] (w'.alloc (.cells #[.string nCB, .string nROOT, .string nAB, .string nCB] 9)) (strs_lit w' [nCB, nROOT, nAB, nCB] 4 rfl _ rfl) (by decide) (by decide)
    (fun x hx => by simp only [List.mem_cons, List.not_mem_nil, or_false] at hx; rcases hx with rfl | rfl | rfl | rfl <;> decide +kernel)
  rw [v_sort] at S1
  refine S1.mono ?_
  rintro e w4 ⟨v, rfl, hst, hx⟩
  have HX4 := Lib.hid ((HX.out.alloc (.cells #[.string nCB, .string nROOT, .string nAB, .string nCB] 9)).trans hx)
  have Hst := Lib.hid hst
  clear S1 hx hst L1 L2 L3 D1 D2 c0' c3' HX3
  go_wp2_with fail
  have S2 := SameTexts_any v (.slice (some ⟨w4.heap.size, 0, none⟩) 3 3) [nROOT, nAB, nCB] [nROOT, nAB, nCB] (w4.alloc (.cells #[.string nROOT, .string nAB, .string nCB] 9)) (Hst.out.ext ((Ext.refl w4).alloc _)) (strs_lit w4 [nROOT, nAB, nCB] 3 rfl _ rfl) (by decide)
  rw [decide_eq_true rfl] at S2
  refine S2.mono ?_
  rintro e w5 ⟨rfl, hx⟩
  have HX5 := Lib.hid ((HX4.out.alloc (.cells #[.string nROOT, .string nAB, .string nCB] 9)).trans hx)
  clear S2 hx HX4 Hst
  go_wp2
  go_ret
  exact ⟨rfl, HX5.out⟩

end Go.Proofs.Ytmmjhdkoccpdjaa
