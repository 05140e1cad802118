/- What the first question of layer 4's statements (lives) answers: true. Conditions: none. -/
import Derived.Test.YteoelhhkdfmaiaaRdI
import Derived.Test.YteoelhhkdfmaiaaWalkM
import Derived.Test.YteoelhhkdfmaiaaPackX
import Derived.Test.YteoelhhkdfmaiaaSortM
import Derived.Laws.MakeOwn
import Derived.Laws.IdiomStrings
namespace Go.Proofs.Yteoelhhkdfmaiaa
open Go Go.RowKit Go.Shelf
attribute [local go_sem] Oper.semAt_some wide_fn wide_depth
namespace L4
def mx : ByteArray := ⟨#[0, 5, 1, 65, 0]⟩
def z19 : ByteArray := ⟨(List.replicate 19 (0 : UInt8)).toArray⟩
def soa : ByteArray := ⟨#[0, 0]⟩ ++ z19 ++ ⟨#[9]⟩
def q0 : Wr := ⟨[], 100, false, []⟩
def nA : ByteArray := ⟨#[1, 65, 0]⟩
def q1 : Wr := nameW q0 nA true
def q2 : Wr := wroteW 15 mx q1
def r0 : Rd := ⟨⟨#[1, 97, 0, 192, 0, 33]⟩, 0, false⟩
def r1 : Rd := (nameR r0).2
def r2 : Rd := (rawR r1 2).2
theorem o0 : q0.ok := by decide +kernel
theorem o1 : q1.ok := by decide +kernel
theorem p0 : r0.ok := by decide +kernel
theorem p1 : r1.ok := by decide +kernel
theorem p2 : r2.ok := by decide +kernel
theorem e1 : addrR ⟨#[1, 2, 3, 4]⟩ = (16909060, 0) := by decide +kernel
theorem e2 : leastR soa = (9, 0) := by decide +kernel
theorem e3 : txtR ⟨#[1, 97, 0]⟩ = [⟨#[97]⟩, ⟨#[]⟩] := by decide +kernel
theorem e4 : errR 16 ⟨#[1, 97, 0]⟩ = 0 := by decide +kernel
theorem e5 : errR 16 ⟨#[2, 97]⟩ = 2 := by decide +kernel
theorem e6 : errR 15 mx = 0 := by decide +kernel
theorem e7 : outR q2 = (⟨#[1, 65, 0, 0, 5, 192, 0]⟩, 0) := by decide +kernel
theorem e8 : gotR 2 r1 2 = (⟨#[1, 97, 0]⟩, 0) := by decide +kernel
theorem e9 : gotR 1 r2 1 = (⟨#[]⟩, 6) := by decide +kernel
theorem e10 : smallR 15 mx = ⟨#[0, 5, 1, 97, 0]⟩ := by decide +kernel
theorem e11 : namesD 15 mx = [nA] := by decide +kernel
theorem e12 : errR 1 ⟨#[97, 98, 99]⟩ = 2 := by decide +kernel

set_option maxRecDepth 100000 in
set_option maxHeartbeats 4000000 in
theorem lives_any (w : World) : Calls Try.prog 13 #[] w fun e w' => e = .returned (.bool true) ∧ Ext w w' := by
  have C := Lib.hid fun W => DAddr_any ⟨#[1, 2, 3, 4]⟩ W (by decide)
  rw [e1] at C
  go_enter Try.func13, Try.ntmps13
  go_wp2_with fail
  refine (C.out _).mono ?_
  rintro e w1 ⟨rfl, hx⟩
  have HX := Lib.hid hx; clear hx
  obtain ⟨i0, hi, hz0, hz1, hz2⟩ := info_parts infoByte
  have hmk := run_make (P := Try.prog) w1 68 5 i0 (.int .u8 0) Try.underlying68 hi hz0 .i64 .i64 19 19 (by decide) (by decide) (by rw [hz2]; decide) (by decide)
  rw [hz1] at hmk
  have hm : (madeCells (Value.int .u8 0).cells ((19 : Int).toNat * 1)) = (List.replicate 19 (Value.int .u8 0)).toArray := by kernel_rfl
  rw [hm] at hmk
  have hfact := World.alloc_heap_new w1 (.cells (List.replicate 19 (Value.int .u8 0)).toArray 5)
  obtain ⟨w2, hw2⟩ : ∃ w2, (w1.alloc (.cells (List.replicate 19 (Value.int .u8 0)).toArray 5)) = w2 := ⟨_, rfl⟩
  have HX := Lib.hid (show Ext w w2 from hw2 ▸ (HX.out.alloc _))
  rw [hw2] at hmk hfact
  have hcv : (convert 68 9 (.slice (some ⟨w1.heap.size, 0, none⟩) 19 19)).run Try.prog w2 = .ok (.string z19) w2 :=
    run_convert_bytes_back (P := Try.prog) w2 68 9 5 ⟨w1.heap.size, 0, none⟩ 19 (List.replicate 19 0) Try.underlying68 Try.underlying5 Try.underlying9 (fun j hj => by
      have hj' : j < 19 := by rw [List.length_replicate] at hj; exact hj
      have h2 : (⟨w1.heap.size, 0, none⟩ : Addr).add j = ⟨w1.heap.size, j, none⟩ := by unfold Addr.add; split <;> simp_all
      rw [h2, List.getElem_replicate]
      show (match w2.heap[w1.heap.size]? with | some (.cells c _ _) => c[j]? | _ => none) = _
      rw [hfact]
      show (List.replicate 19 (Value.int .u8 0)).toArray[j]? = _
      rw [List.getElem?_toArray, List.getElem?_replicate, if_pos hj']
      rfl)
  clear hfact hm
  clear hw2 hi hz0 hz1 hz2
  have C := Lib.hid fun W => DLeast_any soa W (by decide)
  rw [e2] at C
  unfold soa at C
  have hz19 : z19.size = 19 := by decide
  go_wp2_with fail
  refine (C.out _).mono ?_
  rintro e w3 ⟨rfl, hx⟩
  have HX := Lib.hid (HX.out.trans hx); clear hx hmk hcv hz19
  have C := Lib.hid fun W => DTexts_any ⟨#[1, 97, 0]⟩ W (by decide)
  rw [e3, e4] at C
  go_wp2_with fail
  refine (C.out _).mono ?_
  rintro e w4 ⟨v, rfl, hs, hx⟩
  have HX := Lib.hid (HX.out.trans hx); clear hx
  have HS := Lib.hid hs; clear hs
  have C := Lib.hid fun W => DTexts_any ⟨#[2, 97]⟩ W (by decide)
  rw [e5] at C
  go_wp2_with fail
  refine (C.out _).mono ?_
  rintro e w5 ⟨v2, rfl, _, hx⟩
  have HX := Lib.hid (HX.out.trans hx)
  have HS := Lib.hid (HS.out.ext hx); clear hx
  go_wp2_with fail
  refine (New_any 100 _).mono ?_
  rintro e w6 ⟨rfl, hw, hx⟩
  obtain ⟨B, hB⟩ : ∃ B, w5.heap.size + 1 = B := ⟨_, rfl⟩
  rw [hB] at hw ⊢
  clear hB
  have Hw := Lib.hid hw; clear hw
  have HK := Lib.hid (hx.keeps.mono (K' := fun k => k < w5.heap.size) fun _ _ _ => trivial); clear hx
  go_wp2_with fail
  refine (Open_any ⟨#[1, 97, 0, 192, 0, 33]⟩ _).mono ?_
  rintro e w7 ⟨rfl, hr, hx⟩
  obtain ⟨R, hR⟩ : ∃ R, w6.heap.size = R := ⟨_, rfl⟩
  have hw7 := Hw.out.more hx
  rw [hR] at hr hw7 ⊢
  have hRw : w5.heap.size ≤ R := by rw [← hR]; exact HK.out.size
  have hR7 : R < w7.heap.size := (Array.getElem?_eq_some_iff.1 hr).1
  have Hr := Lib.hid hr; clear hr hR
  have HK := Lib.hid (HK.out.trans (hx.keeps.mono fun _ _ _ => trivial)); clear hx
  obtain ⟨G, hG⟩ : ∃ G : Nat → Prop, (fun j => j < w5.heap.size ∨ (R ≤ j ∧ j < w7.heap.size)) = G := ⟨_, rfl⟩
  rw [hG] at hw7
  have HGR : Hid (G R) := Lib.hid (by rw [← hG]; exact .inr ⟨Nat.le_refl _, hR7⟩)
  have HG : Hid (∀ j, j < w5.heap.size → G j) := Lib.hid (fun j hj => by rw [← hG]; exact .inl hj)
  have Hw := Lib.hid hw7
  clear hw7 hG hR7
  have C := Lib.hid (WNamed_any B _ q0 nA w7 Hw.out o0 (by decide))
  go_wp2_with fail
  refine C.out.mono ?_
  rintro e w8 ⟨⟨v8, rfl⟩, hw, hk⟩
  have Hw := Lib.hid hw; clear hw
  have HK := Lib.hid (HK.out.trans (hk.mono fun j _ h => HG.out j h))
  have Hr := Lib.hid (hk.rd Hr.out HGR.out); clear hk
  have C := Lib.hid (DWrite_any B _ q1 15 mx w8 (by decide) Hw.out o1)
  rw [e6] at C
  go_wp2_with fail
  refine C.out.mono ?_
  rintro e w9 ⟨rfl, hw, hk⟩
  have Hw := Lib.hid hw; clear hw
  have HK := Lib.hid (HK.out.trans (hk.mono fun j _ h => HG.out j h))
  have Hr := Lib.hid (hk.rd Hr.out HGR.out); clear hk
  have C := Lib.hid (Out_any B _ q2 w9 Hw.out)
  rw [e7] at C
  go_wp2_with fail
  refine C.out.mono ?_
  rintro e w9' ⟨rfl, rfl⟩
  have C := Lib.hid (Name_any R r0 w9 Hr.out p0)
  go_wp2_with fail
  refine C.out.mono ?_
  rintro e w10 ⟨rfl, hr, hk⟩
  have Hr := Lib.hid hr; clear hr
  have HK := Lib.hid (HK.out.trans (hk.mono fun j _ hj => by omega)); clear hk
  have C := Lib.hid (DRead_any R r1 2 2 w10 Hr.out p1 (by decide +kernel) (by decide))
  rw [e8] at C
  go_wp2_with fail
  refine C.out.mono ?_
  rintro e w11 ⟨rfl, hr, hk⟩
  have Hr := Lib.hid hr; clear hr
  have HK := Lib.hid (HK.out.trans (hk.mono fun j _ hj => by omega)); clear hk
  have C := Lib.hid (DRead_any R r2 1 1 w11 Hr.out p2 (by decide +kernel) (by decide))
  rw [e9] at C
  go_wp2_with fail
  refine C.out.mono ?_
  rintro e w12 ⟨rfl, hr, hk⟩
  have HX := Lib.hid (HX.out.trans ((HK.out.trans (hk.mono fun j _ hj => by omega)).ext fun _ h => h))
  have HS := Lib.hid (HS.out.ext ((HK.out.trans (hk.mono fun j _ hj => by omega)).ext fun _ h => h))
  clear hr hk Hw Hr HK C HG HGR
  have g1 : ((⟨#[1, 65, 0, 0, 5, 192, 0]⟩ : ByteArray).toList == [1, 65, 0, 0, 5, 192, 0]) = true := by decide +kernel
  have g2 : ((⟨#[1, 97, 0]⟩ : ByteArray).toList == [1, 97, 0]) = true := by decide +kernel
  have g3 : ((⟨#[0, 5, 1, 97, 0]⟩ : ByteArray).toList == [0, 5, 1, 97, 0]) = true := by decide +kernel
  go_wp2_with fail
  have S2 := SameTexts_any v (.slice (some ⟨w12.heap.size, 0, none⟩) 2 2) [⟨#[97]⟩, ⟨#[]⟩] [⟨#[97]⟩, ⟨#[]⟩] (w12.alloc (.cells #[.string ⟨#[97]⟩, .string ⟨#[]⟩] 9)) (HS.out.ext ((Ext.refl w12).alloc _)) (strs_lit w12 [⟨#[97]⟩, ⟨#[]⟩] 2 rfl _ rfl) (by decide)
  rw [decide_eq_true rfl] at S2
  refine S2.mono ?_
  rintro e w13 ⟨rfl, hx⟩
  have HX := Lib.hid ((HX.out.alloc (.cells #[.string ⟨#[97]⟩, .string ⟨#[]⟩] 9)).trans hx)
  clear S2 hx
  have C := Lib.hid fun W => DCheck_any 15 mx W (by decide)
  rw [e6] at C
  go_wp2_with fail
  refine (C.out _).mono ?_
  rintro e w14 ⟨rfl, hx⟩
  have HX := Lib.hid (HX.out.trans hx); clear hx
  have C := Lib.hid fun W => DFold_any 15 mx W (by decide)
  rw [e10] at C
  go_wp2_with fail
  refine (C.out _).mono ?_
  rintro e w15 ⟨rfl, hx⟩
  have HX := Lib.hid (HX.out.trans hx); clear hx
  have C := Lib.hid fun W => DNames_any 15 mx W (by decide)
  rw [e11] at C
  go_wp2_with fail
  refine (C.out _).mono ?_
  rintro e w16 ⟨v9, rfl, hs, hx⟩
  have HX := Lib.hid (HX.out.trans hx); clear hx
  have HS := Lib.hid hs; clear hs
  go_wp2_with fail
  have S2 := SameTexts_any v9 (.slice (some ⟨w16.heap.size, 0, none⟩) 1 1) [nA] [nA] (w16.alloc (.cells #[.string nA] 9)) (HS.out.ext ((Ext.refl w16).alloc _)) (strs_lit w16 [nA] 1 rfl _ rfl) (by decide)
  rw [decide_eq_true rfl] at S2
  refine S2.mono ?_
  rintro e w17 ⟨rfl, hx⟩
  have HX := Lib.hid ((HX.out.alloc (.cells #[.string nA] 9)).trans hx)
  clear S2 hx
  have C := Lib.hid fun W => DCheck_any 1 ⟨#[97, 98, 99]⟩ W (by decide)
  rw [e12] at C
  go_wp2_with fail
  refine (C.out _).mono ?_
  rintro e w18 ⟨rfl, hx⟩
  have HX := Lib.hid (HX.out.trans hx); clear hx
  go_wp2
  go_ret
  exact ⟨rfl, HX.out⟩
end L4

end Go.Proofs.Yteoelhhkdfmaiaa
