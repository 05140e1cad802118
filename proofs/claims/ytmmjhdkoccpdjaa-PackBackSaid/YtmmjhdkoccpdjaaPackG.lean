/- What pack's reader does with numbers: Num. Conditions: a reader that Open, or Part, made. -/
import Derived.Test.YtmmjhdkoccpdjaaPackF
import Derived.StillTail
import Derived.Lib.BufferWrite
namespace Go.Proofs.Ytmmjhdkoccpdjaa
open Go Go.RowKit Go.Shelf
attribute [local go_sem] Oper.semAt_some wide_fn wide_depth

def enc8 (b : UInt8) : Value := .int .u8 (b.toNat : Int)
theorem value_list (l : List UInt8) (w : World) (h : l.length = 8) :
    Calls Try.prog 96 #[.agg (l.map enc8).toArray] w fun e w' => e = .returned (.int .u64 (beN l)) ∧ Ext w w' := by
  match l, h with
  | [b0, b1, b2, b3, b4, b5, b6, b7], _ => exact value_any b0 b1 b2 b3 b4 b5 b6 b7 w
theorem beF_zeros : ∀ (n : Nat) (l : List UInt8), beF 0 (List.replicate n 0 ++ l) = beF 0 l
  | 0, _ => rfl
  | n + 1, l => by rw [List.replicate_succ, List.cons_append, beF]; exact beF_zeros n l

/-- What Num answers. -/
def numR (r : Rd) (width : Int) : Nat × Rd := if widthB width then (beN (bl (rawR r width).1), (rawR r width).2) else (0, Rd.failed)
theorem rawR_size (r : Rd) (n : Nat) (hr : r.ok) : (rawR r n).1.size = n ∨ (rawR r n).1 = ⟨#[]⟩ := by
  unfold rawR
  split
  · exact .inr rfl
  · next hc =>
    left
    obtain ⟨h1, h2⟩ := hr
    unfold Rd.left at hc
    show (r.s.extract r.at_ (r.at_ + ((n : Int)).toNat)).size = n
    rw [ByteArray.size_extract, Int.toNat_natCast]
    omega

theorem copy8 (W : World) (A k : Nat) (t : ByteArray) (hk : k ≤ 8) (hs : t.size = k ∨ t = ⟨#[]⟩)
    (h : W.heap[A]? = some (.cells #[.int .u8 0, .int .u8 0, .int .u8 0, .int .u8 0, .int .u8 0, .int .u8 0, .int .u8 0, .int .u8 0] 105 (0, 0))) :
    (Builtin.copy_ #[95, 9] 3 #[.slice (some ⟨A, 8 - k, none⟩) k k, .string t]).run Try.prog W = .ok (goInt t.size) (W.setRow A ((List.replicate (8 - t.size) 0 ++ bl t).map enc8).toArray) := by
  by_cases h0 : t.size = 0
  · obtain rfl : t = ⟨#[]⟩ := bl_inj (List.eq_nil_of_length_eq_zero h0)
    have h1 := Lib.run_copy_empty_string (P := Try.prog) W 95 9 3 5 (some ⟨A, 8 - k, none⟩) k k ⟨#[]⟩ Try.underlying95 (by kernel_rfl) rfl
    rw [h1]
    have h2 := setRow_self W A _ _ _ h
    have h3 : ((List.replicate (8 - (⟨#[]⟩ : ByteArray).size) 0 ++ bl ⟨#[]⟩).map enc8).toArray = #[.int .u8 0, .int .u8 0, .int .u8 0, .int .u8 0, .int .u8 0, .int .u8 0, .int .u8 0, .int .u8 0] := by kernel_rfl
    rw [h3, h2]
    rfl
  · have hs' : t.size = k := by
      rcases hs with hs | hs
      · exact hs
      · subst hs; exact absurd rfl h0
    have h1 := Lib.run_copy_row_string (P := Try.prog) W 95 9 3 5 A (8 - k) k k t _ _ Try.underlying95 (by kernel_rfl) h (by omega) (by simp; omega)
    rw [h1]
    have hz : (#[.int .u8 0, .int .u8 0, .int .u8 0, .int .u8 0, .int .u8 0, .int .u8 0, .int .u8 0, .int .u8 0] : Array Value).toList = List.replicate 8 (enc8 0) := by kernel_rfl
    rw [hz, List.take_replicate, List.drop_replicate, hs', show min (8 - k) 8 = 8 - k by omega, show 8 - (8 - k + k) = 0 by omega, List.replicate_zero, List.append_nil, List.map_append, List.map_replicate]
    rfl

set_option maxRecDepth 100000 in
set_option maxHeartbeats 4000000 in
theorem Num_any (B : Nat) (r : Rd) (k : Nat) (w : World) (h : RdAt w B r) (hr : r.ok) (hk : k = 1 ∨ k = 2 ∨ k = 4 ∨ k = 8) :
    Calls Try.prog 50 #[.pointer (some ⟨B, 0, none⟩), .int .i64 k] w fun e w' => e = .returned (.int .u64 ((numR r k).1 : Int)) ∧ RdAt w' B (numR r k).2 ∧ Keeps (fun j => j ≠ B) w w' := by
  have hwd : widthB (k : Int) = true := by unfold widthB; exact decide_eq_true (by omega)
  have CW := Lib.hid fun W => isWidth_any (k : Int) W
  rw [hwd] at CW
  have hB : B < w.heap.size := (Array.getElem?_eq_some_iff.1 h).1
  have CR := Lib.hid fun W (h : RdAt W B r) => Raw_any B r k W h hr (by omega)
  have hn : numR r k = (beN (bl (rawR r k).1), (rawR r k).2) := by rw [numR, if_pos hwd]
  have hsz := rawR_size r k hr
  obtain ⟨⟨t, r'⟩, hq⟩ : ∃ q, rawR r k = q := ⟨_, rfl⟩
  rw [hq] at CR hn hsz
  simp only at hn hsz
  have Hn := Lib.hid hn
  have H := Lib.hid h
  clear hn hq h hwd
  have hmx : Try.prog.follows .mixedOrders = true := by kernel_rfl
  obtain ⟨AR, hAR⟩ : ∃ AR : Array Value, ((List.replicate (8 - t.size) 0 ++ bl t).map enc8).toArray = AR := ⟨_, rfl⟩
  have HAR := Lib.hid hAR
  have hl8 : (List.replicate (8 - t.size) 0 ++ bl t).length = 8 := by
    rw [List.length_append, List.length_replicate, bl_size]
    rcases hsz with h | h
    · omega
    · subst h; rfl
  have CV := Lib.hid fun W => value_list (List.replicate (8 - t.size) 0 ++ bl t) W hl8
  rw [hAR, beN, beF_zeros] at CV
  have Hsz8 : Hid ((Try.prog.info? 105).map (·.size) = some AR.size) := Lib.hid (by rw [← hAR, List.size_toArray, List.length_map, hl8]; kernel_rfl)
  clear hAR hl8
  rcases hk with rfl | rfl | rfl | rfl
  · rw [show (((1 : Nat) : Int)) = 1 from rfl] at CR CW Hn ⊢
    go_enter Try.func50, Try.ntmps50
    go_wp2_with fail
    refine (CW.out _).mono ?_
    rintro e w1 ⟨rfl, rfl⟩
    go_wp2_with fail
    have hA := World.alloc_heap_new w (.cells #[.int .u8 0, .int .u8 0, .int .u8 0, .int .u8 0, .int .u8 0, .int .u8 0, .int .u8 0, .int .u8 0] 105)
    have hR : RdAt (w.alloc (.cells #[.int .u8 0, .int .u8 0, .int .u8 0, .int .u8 0, .int .u8 0, .int .u8 0, .int .u8 0, .int .u8 0] 105)) B r := ((Keeps.refl (fun _ => True) w).alloc _).rd H.out trivial
    have hK := (Keeps.refl (fun j => j ≠ B) w).alloc (.cells #[.int .u8 0, .int .u8 0, .int .u8 0, .int .u8 0, .int .u8 0, .int .u8 0, .int .u8 0, .int .u8 0] 105)
    generalize w.alloc (.cells #[.int .u8 0, .int .u8 0, .int .u8 0, .int .u8 0, .int .u8 0, .int .u8 0, .int .u8 0, .int .u8 0] 105) = W0 at hA hR hK ⊢
    obtain ⟨A, hAe⟩ : ∃ A, w.heap.size = A := ⟨_, rfl⟩
    rw [hAe] at hA hB ⊢
    have HA := Lib.hid hA; clear hA
    have HR := Lib.hid hR; clear hR
    have HK := Lib.hid hK; clear hK
    have HAe := Lib.hid hAe; clear hAe
    have q7 : IntKind.i64.wrap (7 : Int) = 7 := by decide
    have HC : Hid (∀ W : World, W.heap[A]? = some (.cells #[.int .u8 0, .int .u8 0, .int .u8 0, .int .u8 0, .int .u8 0, .int .u8 0, .int .u8 0, .int .u8 0] 105 (0, 0)) →
        (Builtin.copy_ #[95, 9] 3 #[.slice (some ⟨A, 7, none⟩) 1 1, .string t]).run Try.prog W = .ok (goInt t.size) (W.setRow A AR)) :=
      Lib.hid fun W h => by rw [← HAR.out]; exact copy8 W A 1 t (by omega) hsz h
    go_region_with (first | (go_at_call 46; refine (CR.out W0.drew HR.out).mono ?_; rintro e w2 ⟨rfl, hr2, hk2, hz2⟩; have hA2 := Lib.hid (hk2.heap HA.out (show A ≠ B by omega)); have hcp := HC.out w2 hA2.out; have HP := Lib.hid (And.intro hr2 (And.intro hk2 hz2)); clear hr2 hk2 hz2))
    all_goals
      have hrow := setRow_heap w2 A _ AR _ _ hA2.out
      have hr3 : RdAt (w2.setRow A AR) B r' := (setRow_other w2 A B AR (by omega)).trans HP.out.1
      have hk3 : Keeps (fun j => j ≠ B ∧ j ≠ A) w (w2.setRow A AR) := ((HK.out.mono fun _ _ h => h.1).trans ((Keeps.refl _ W0).drew.trans (HP.out.2.1.mono fun _ _ h => h.1))).setRow (fun h => h.2 rfl) _
      generalize w2.setRow A AR = W3 at hrow hr3 hk3 ⊢
      have Hrow := Lib.hid hrow; clear hrow
      have HQ := Lib.hid (And.intro hr3 hk3); clear hr3 hk3
      clear hcp HC q7
      go_wp2_with (refine wpList_load_row rfl _ _ rfl A rfl _ _ _ _ Hrow.out Try.underlying105 rfl Hsz8.out ?_)
      refine (CV.out W3).mono ?_
      rintro e w4 ⟨rfl, hx4⟩
      have HX4 := Lib.hid hx4; clear hx4
      go_wp2
      go_ret
      refine ⟨by rw [Hn.out]; rfl, by rw [Hn.out]; exact HX4.out.keeps.rd HQ.out.1 trivial, ?_⟩
      exact (HQ.out.2.trans (HX4.out.keeps.mono fun _ _ _ => trivial)).mono fun j hj h => ⟨h, by have := HAe.out; omega⟩
  · rw [show (((2 : Nat) : Int)) = 2 from rfl] at CR CW Hn ⊢
    go_enter Try.func50, Try.ntmps50
    go_wp2_with fail
    refine (CW.out _).mono ?_
    rintro e w1 ⟨rfl, rfl⟩
    go_wp2_with fail
    have hA := World.alloc_heap_new w (.cells #[.int .u8 0, .int .u8 0, .int .u8 0, .int .u8 0, .int .u8 0, .int .u8 0, .int .u8 0, .int .u8 0] 105)
    have hR : RdAt (w.alloc (.cells #[.int .u8 0, .int .u8 0, .int .u8 0, .int .u8 0, .int .u8 0, .int .u8 0, .int .u8 0, .int .u8 0] 105)) B r := ((Keeps.refl (fun _ => True) w).alloc _).rd H.out trivial
    have hK := (Keeps.refl (fun j => j ≠ B) w).alloc (.cells #[.int .u8 0, .int .u8 0, .int .u8 0, .int .u8 0, .int .u8 0, .int .u8 0, .int .u8 0, .int .u8 0] 105)
    generalize w.alloc (.cells #[.int .u8 0, .int .u8 0, .int .u8 0, .int .u8 0, .int .u8 0, .int .u8 0, .int .u8 0, .int .u8 0] 105) = W0 at hA hR hK ⊢
    obtain ⟨A, hAe⟩ : ∃ A, w.heap.size = A := ⟨_, rfl⟩
    rw [hAe] at hA hB ⊢
    have HA := Lib.hid hA; clear hA
    have HR := Lib.hid hR; clear hR
    have HK := Lib.hid hK; clear hK
    have HAe := Lib.hid hAe; clear hAe
    have q7 : IntKind.i64.wrap (6 : Int) = 6 := by decide
    have HC : Hid (∀ W : World, W.heap[A]? = some (.cells #[.int .u8 0, .int .u8 0, .int .u8 0, .int .u8 0, .int .u8 0, .int .u8 0, .int .u8 0, .int .u8 0] 105 (0, 0)) →
        (Builtin.copy_ #[95, 9] 3 #[.slice (some ⟨A, 6, none⟩) 2 2, .string t]).run Try.prog W = .ok (goInt t.size) (W.setRow A AR)) :=
      Lib.hid fun W h => by rw [← HAR.out]; exact copy8 W A 2 t (by omega) hsz h
    go_region_with (first | (go_at_call 46; refine (CR.out W0.drew HR.out).mono ?_; rintro e w2 ⟨rfl, hr2, hk2, hz2⟩; have hA2 := Lib.hid (hk2.heap HA.out (show A ≠ B by omega)); have hcp := HC.out w2 hA2.out; have HP := Lib.hid (And.intro hr2 (And.intro hk2 hz2)); clear hr2 hk2 hz2))
    all_goals
      have hrow := setRow_heap w2 A _ AR _ _ hA2.out
      have hr3 : RdAt (w2.setRow A AR) B r' := (setRow_other w2 A B AR (by omega)).trans HP.out.1
      have hk3 : Keeps (fun j => j ≠ B ∧ j ≠ A) w (w2.setRow A AR) := ((HK.out.mono fun _ _ h => h.1).trans ((Keeps.refl _ W0).drew.trans (HP.out.2.1.mono fun _ _ h => h.1))).setRow (fun h => h.2 rfl) _
      generalize w2.setRow A AR = W3 at hrow hr3 hk3 ⊢
      have Hrow := Lib.hid hrow; clear hrow
      have HQ := Lib.hid (And.intro hr3 hk3); clear hr3 hk3
      clear hcp HC q7
      go_wp2_with (refine wpList_load_row rfl _ _ rfl A rfl _ _ _ _ Hrow.out Try.underlying105 rfl Hsz8.out ?_)
      refine (CV.out W3).mono ?_
      rintro e w4 ⟨rfl, hx4⟩
      have HX4 := Lib.hid hx4; clear hx4
      go_wp2
      go_ret
      refine ⟨by rw [Hn.out]; rfl, by rw [Hn.out]; exact HX4.out.keeps.rd HQ.out.1 trivial, ?_⟩
      exact (HQ.out.2.trans (HX4.out.keeps.mono fun _ _ _ => trivial)).mono fun j hj h => ⟨h, by have := HAe.out; omega⟩
  · rw [show (((4 : Nat) : Int)) = 4 from rfl] at CR CW Hn ⊢
    go_enter Try.func50, Try.ntmps50
    go_wp2_with fail
    refine (CW.out _).mono ?_
    rintro e w1 ⟨rfl, rfl⟩
    go_wp2_with fail
    have hA := World.alloc_heap_new w (.cells #[.int .u8 0, .int .u8 0, .int .u8 0, .int .u8 0, .int .u8 0, .int .u8 0, .int .u8 0, .int .u8 0] 105)
    have hR : RdAt (w.alloc (.cells #[.int .u8 0, .int .u8 0, .int .u8 0, .int .u8 0, .int .u8 0, .int .u8 0, .int .u8 0, .int .u8 0] 105)) B r := ((Keeps.refl (fun _ => True) w).alloc _).rd H.out trivial
    have hK := (Keeps.refl (fun j => j ≠ B) w).alloc (.cells #[.int .u8 0, .int .u8 0, .int .u8 0, .int .u8 0, .int .u8 0, .int .u8 0, .int .u8 0, .int .u8 0] 105)
    generalize w.alloc (.cells #[.int .u8 0, .int .u8 0, .int .u8 0, .int .u8 0, .int .u8 0, .int .u8 0, .int .u8 0, .int .u8 0] 105) = W0 at hA hR hK ⊢
    obtain ⟨A, hAe⟩ : ∃ A, w.heap.size = A := ⟨_, rfl⟩
    rw [hAe] at hA hB ⊢
    have HA := Lib.hid hA; clear hA
    have HR := Lib.hid hR; clear hR
    have HK := Lib.hid hK; clear hK
    have HAe := Lib.hid hAe; clear hAe
    have q7 : IntKind.i64.wrap (4 : Int) = 4 := by decide
    have HC : Hid (∀ W : World, W.heap[A]? = some (.cells #[.int .u8 0, .int .u8 0, .int .u8 0, .int .u8 0, .int .u8 0, .int .u8 0, .int .u8 0, .int .u8 0] 105 (0, 0)) →
        (Builtin.copy_ #[95, 9] 3 #[.slice (some ⟨A, 4, none⟩) 4 4, .string t]).run Try.prog W = .ok (goInt t.size) (W.setRow A AR)) :=
      Lib.hid fun W h => by rw [← HAR.out]; exact copy8 W A 4 t (by omega) hsz h
    go_region_with (first | (go_at_call 46; refine (CR.out W0.drew HR.out).mono ?_; rintro e w2 ⟨rfl, hr2, hk2, hz2⟩; have hA2 := Lib.hid (hk2.heap HA.out (show A ≠ B by omega)); have hcp := HC.out w2 hA2.out; have HP := Lib.hid (And.intro hr2 (And.intro hk2 hz2)); clear hr2 hk2 hz2))
    all_goals
      have hrow := setRow_heap w2 A _ AR _ _ hA2.out
      have hr3 : RdAt (w2.setRow A AR) B r' := (setRow_other w2 A B AR (by omega)).trans HP.out.1
      have hk3 : Keeps (fun j => j ≠ B ∧ j ≠ A) w (w2.setRow A AR) := ((HK.out.mono fun _ _ h => h.1).trans ((Keeps.refl _ W0).drew.trans (HP.out.2.1.mono fun _ _ h => h.1))).setRow (fun h => h.2 rfl) _
      generalize w2.setRow A AR = W3 at hrow hr3 hk3 ⊢
      have Hrow := Lib.hid hrow; clear hrow
      have HQ := Lib.hid (And.intro hr3 hk3); clear hr3 hk3
      clear hcp HC q7
      go_wp2_with (refine wpList_load_row rfl _ _ rfl A rfl _ _ _ _ Hrow.out Try.underlying105 rfl Hsz8.out ?_)
      refine (CV.out W3).mono ?_
      rintro e w4 ⟨rfl, hx4⟩
      have HX4 := Lib.hid hx4; clear hx4
      go_wp2
      go_ret
      refine ⟨by rw [Hn.out]; rfl, by rw [Hn.out]; exact HX4.out.keeps.rd HQ.out.1 trivial, ?_⟩
      exact (HQ.out.2.trans (HX4.out.keeps.mono fun _ _ _ => trivial)).mono fun j hj h => ⟨h, by have := HAe.out; omega⟩
  · rw [show (((8 : Nat) : Int)) = 8 from rfl] at CR CW Hn ⊢
    go_enter Try.func50, Try.ntmps50
    go_wp2_with fail
    refine (CW.out _).mono ?_
    rintro e w1 ⟨rfl, rfl⟩
    go_wp2_with fail
    have hA := World.alloc_heap_new w (.cells #[.int .u8 0, .int .u8 0, .int .u8 0, .int .u8 0, .int .u8 0, .int .u8 0, .int .u8 0, .int .u8 0] 105)
    have hR : RdAt (w.alloc (.cells #[.int .u8 0, .int .u8 0, .int .u8 0, .int .u8 0, .int .u8 0, .int .u8 0, .int .u8 0, .int .u8 0] 105)) B r := ((Keeps.refl (fun _ => True) w).alloc _).rd H.out trivial
    have hK := (Keeps.refl (fun j => j ≠ B) w).alloc (.cells #[.int .u8 0, .int .u8 0, .int .u8 0, .int .u8 0, .int .u8 0, .int .u8 0, .int .u8 0, .int .u8 0] 105)
    generalize w.alloc (.cells #[.int .u8 0, .int .u8 0, .int .u8 0, .int .u8 0, .int .u8 0, .int .u8 0, .int .u8 0, .int .u8 0] 105) = W0 at hA hR hK ⊢
    obtain ⟨A, hAe⟩ : ∃ A, w.heap.size = A := ⟨_, rfl⟩
    rw [hAe] at hA hB ⊢
    have HA := Lib.hid hA; clear hA
    have HR := Lib.hid hR; clear hR
    have HK := Lib.hid hK; clear hK
    have HAe := Lib.hid hAe; clear hAe
    have q7 : IntKind.i64.wrap (0 : Int) = 0 := by decide
    have HC : Hid (∀ W : World, W.heap[A]? = some (.cells #[.int .u8 0, .int .u8 0, .int .u8 0, .int .u8 0, .int .u8 0, .int .u8 0, .int .u8 0, .int .u8 0] 105 (0, 0)) →
        (Builtin.copy_ #[95, 9] 3 #[.slice (some ⟨A, 0, none⟩) 8 8, .string t]).run Try.prog W = .ok (goInt t.size) (W.setRow A AR)) :=
      Lib.hid fun W h => by rw [← HAR.out]; exact copy8 W A 8 t (by omega) hsz h
    go_region_with (first | (go_at_call 46; refine (CR.out W0.drew HR.out).mono ?_; rintro e w2 ⟨rfl, hr2, hk2, hz2⟩; have hA2 := Lib.hid (hk2.heap HA.out (show A ≠ B by omega)); have hcp := HC.out w2 hA2.out; have HP := Lib.hid (And.intro hr2 (And.intro hk2 hz2)); clear hr2 hk2 hz2))
    all_goals
      have hrow := setRow_heap w2 A _ AR _ _ hA2.out
      have hr3 : RdAt (w2.setRow A AR) B r' := (setRow_other w2 A B AR (by omega)).trans HP.out.1
      have hk3 : Keeps (fun j => j ≠ B ∧ j ≠ A) w (w2.setRow A AR) := ((HK.out.mono fun _ _ h => h.1).trans ((Keeps.refl _ W0).drew.trans (HP.out.2.1.mono fun _ _ h => h.1))).setRow (fun h => h.2 rfl) _
      generalize w2.setRow A AR = W3 at hrow hr3 hk3 ⊢
      have Hrow := Lib.hid hrow; clear hrow
      have HQ := Lib.hid (And.intro hr3 hk3); clear hr3 hk3
      clear hcp HC q7
      go_wp2_with (refine wpList_load_row rfl _ _ rfl A rfl _ _ _ _ Hrow.out Try.underlying105 rfl Hsz8.out ?_)
      refine (CV.out W3).mono ?_
      rintro e w4 ⟨rfl, hx4⟩
      have HX4 := Lib.hid hx4; clear hx4
      go_wp2
      go_ret
      refine ⟨by rw [Hn.out]; rfl, by rw [Hn.out]; exact HX4.out.keeps.rd HQ.out.1 trivial, ?_⟩
      exact (HQ.out.2.trans (HX4.out.keeps.mono fun _ _ _ => trivial)).mono fun j hj h => ⟨h, by have := HAe.out; omega⟩

end Go.Proofs.Ytmmjhdkoccpdjaa
