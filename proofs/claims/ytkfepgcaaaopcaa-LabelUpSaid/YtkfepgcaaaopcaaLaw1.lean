/- What the first question of layer 1's statements (lives) answers: true. Conditions: none. -/
import Derived.Test.YtkfepgcaaaopcaaLabL
import Derived.Test.YtkfepgcaaaopcaaMath
namespace Go.Proofs.Ytkfepgcaaaopcaa
open Go Go.RowKit Go.Shelf

def nA : ByteArray := ⟨#[3, 119, 119, 119, 4, 69, 120, 46, 97, 3, 111, 114, 103, 0]⟩
def nT : ByteArray := ⟨#[119, 119, 119, 46, 69, 120, 92, 46, 97, 46, 111, 114, 103, 46]⟩
def nP : ByteArray := ⟨#[4, 69, 120, 46, 97, 3, 111, 114, 103, 0]⟩
def nJ : ByteArray := ⟨#[1, 97, 1, 98, 0]⟩
def nF : ByteArray := ⟨#[97, 91]⟩
theorem ev1 : parseR ⟨#[119, 119, 119, 46, 69, 120, 92, 46, 97, 46, 111, 114, 103]⟩ = (nA, 0) := by decide +kernel
theorem ev2 : printR nA = (nT, 0) := by decide +kernel
theorem ev3 : parentR nA = (nP, 0) := by decide +kernel
theorem ev4 : parentR ⟨#[0]⟩ = (⟨#[]⟩, 3) := by decide +kernel
theorem ev5 : parseR ⟨#[97, 46, 46, 98]⟩ = (⟨#[]⟩, 6) := by decide +kernel
theorem ev6 : joinR ⟨#[1, 98, 0]⟩ [⟨#[97]⟩] = (nJ, 0) := by decide +kernel
theorem ev7 : withinB nA ⟨#[3, 79, 82, 71, 0]⟩ = true := by decide +kernel
theorem ev8 : withinB ⟨#[0]⟩ nA = false := by decide +kernel
theorem ev9 : sameB ⟨#[1, 65, 0]⟩ ⟨#[1, 97, 0]⟩ = true := by decide +kernel
theorem ev10 : (labelsB nA).length = 3 := by decide +kernel
theorem ev11 : foldS ⟨#[65, 91]⟩ = nF := by decide +kernel
theorem ev12 : chk ⟨#[]⟩ = 2 := by decide +kernel
theorem sm (s : ByteArray) (h : s.size ≤ 1000) : s.size ≤ maxLen := by unfold maxLen; omega

set_option maxRecDepth 100000 in
set_option maxHeartbeats 4000000 in
theorem lives1_any (w : World) : Calls Try.prog 10 #[] w fun e w' => e = .returned (.bool true) ∧ Ext w w' := by
  have C1 := Lib.hid fun W => (ev1 ▸ Parse_any ⟨#[119, 119, 119, 46, 69, 120, 92, 46, 97, 46, 111, 114, 103]⟩ W (by decide))
  have C2 := Lib.hid fun W => (ev2 ▸ Print_any nA W (by decide))
  have C3 := Lib.hid fun W => (ev3 ▸ Parent_any nA W (by decide))
  have C4 := Lib.hid fun W => (ev4 ▸ Parent_any ⟨#[0]⟩ W (by decide))
  have C5 := Lib.hid fun W => (ev5 ▸ Parse_any ⟨#[97, 46, 46, 98]⟩ W (by decide))
  have C7 := Lib.hid fun W => (ev7 ▸ Within_any nA ⟨#[3, 79, 82, 71, 0]⟩ W (by decide) (by decide))
  have C8 := Lib.hid fun W => (ev8 ▸ Within_any ⟨#[0]⟩ nA W (by decide) (by decide))
  have C9 := Lib.hid fun W => (ev9 ▸ Same_any ⟨#[1, 65, 0]⟩ ⟨#[1, 97, 0]⟩ W (by decide) (by decide))
  have C10 := Lib.hid fun W => (ev10 ▸ Count_any nA W (by decide))
  have C11 := Lib.hid fun W => (ev11 ▸ Fold_any ⟨#[65, 91]⟩ W (by decide))
  have C12 := Lib.hid fun W => (ev12 ▸ Check_any ⟨#[]⟩ W (by decide))
  have q1 : (nA.toList == [3, 119, 119, 119, 4, 69, 120, 46, 97, 3, 111, 114, 103, 0]) = true := by decide +kernel
  have q2 : (nT.toList == [119, 119, 119, 46, 69, 120, 92, 46, 97, 46, 111, 114, 103, 46]) = true := by decide +kernel
  have q3 : (nP.toList == [4, 69, 120, 46, 97, 3, 111, 114, 103, 0]) = true := by decide +kernel
  have q4 : (nJ.toList == [1, 97, 1, 98, 0]) = true := by decide +kernel
  have q5 : (nF.toList == [97, 91]) = true := by decide +kernel
  go_enter Try.func10, Try.ntmps10
  go_wp2_with fail
  refine (C1.out _).mono ?_
  rintro e w1 ⟨rfl, h1⟩
  have H1 := Lib.hid h1; clear h1
  go_wp2_with fail
  refine (C2.out _).mono ?_
  rintro e w2 ⟨rfl, h2⟩
  have H2 := Lib.hid (H1.out.trans h2); clear h2 H1
  go_wp2_with fail
  refine (C3.out _).mono ?_
  rintro e w3 ⟨rfl, h3⟩
  have H3 := Lib.hid (H2.out.trans h3); clear h3 H2
  go_wp2_with fail
  refine (C4.out _).mono ?_
  rintro e w4 ⟨rfl, h4⟩
  have H4 := Lib.hid (H3.out.trans h4); clear h4 H3
  go_wp2_with fail
  refine (C5.out _).mono ?_
  rintro e w5 ⟨rfl, h5⟩
  have H5 := Lib.hid (H4.out.trans h5); clear h5 H4
  go_wp2_with fail
  refine ((ev6 ▸ Join_any ⟨#[1, 98, 0]⟩ (.slice (some ⟨w5.heap.size, 0, none⟩) 1 1) [⟨#[97]⟩] (w5.alloc (.cells #[.string ⟨#[97]⟩] 9)) (by decide)
    (.inr ⟨w5.heap.size, 0, 1, rfl, fun j hj => by obtain rfl : j = 0 := (by simp at hj; omega); exact (Boxed.new w5 9 (.string ⟨#[97]⟩)).cell⟩) (by decide) (fun x hx => by simp at hx; subst hx; decide))).mono ?_
  rintro e w6 ⟨rfl, h6⟩
  have H6 := Lib.hid ((H5.out.alloc _).trans h6); clear h6 H5
  go_wp2_with fail
  refine (C7.out _).mono ?_
  rintro e w7 ⟨rfl, h7⟩
  have H7 := Lib.hid (H6.out.trans h7); clear h7 H6
  go_wp2_with fail
  refine (C8.out _).mono ?_
  rintro e w8 ⟨rfl, h8⟩
  have H8 := Lib.hid (H7.out.trans h8); clear h8 H7
  go_wp2_with fail
  refine (C9.out _).mono ?_
  rintro e w9 ⟨rfl, h9⟩
  have H9 := Lib.hid (H8.out.trans h9); clear h9 H8
  go_wp2_with fail
  refine (C10.out _).mono ?_
  rintro e w10 ⟨rfl, h10⟩
  have H10 := Lib.hid (H9.out.trans h10); clear h10 H9
  go_wp2_with fail
  refine (C11.out _).mono ?_
  rintro e w11 ⟨rfl, h11⟩
  have H11 := Lib.hid (H10.out.trans h11); clear h11 H10
  go_wp2_with fail
  refine (C12.out _).mono ?_
  rintro e w12 ⟨rfl, h12⟩
  have H12 := Lib.hid (H11.out.trans h12); clear h12 H11
  go_wp2
  go_ret
  exact ⟨rfl, H12.out⟩

end Go.Proofs.Ytkfepgcaaaopcaa
