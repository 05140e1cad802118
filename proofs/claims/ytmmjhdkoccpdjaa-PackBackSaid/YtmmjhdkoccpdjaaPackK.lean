/- What pack's writer does with numbers: Num. Conditions: a writer that New made. -/
import Derived.Test.YtmmjhdkoccpdjaaPackJ
namespace Go.Proofs.Ytmmjhdkoccpdjaa
open Go Go.RowKit Go.Shelf
attribute [local go_sem] Oper.semAt_some wide_fn wide_depth

/-- A number's eight bytes, and its lowest. -/
def nb8 (n : Nat) : List UInt8 := [byB n 7, byB n 6, byB n 5, byB n 4, byB n 3, byB n 2, byB n 1, byB n 0]
def nbs (n k : Nat) : List UInt8 := (nb8 n).drop (8 - k)
theorem num8_nb (n : Nat) : num8 n = ((nb8 n).map enc8).toArray := rfl
theorem nbs_length (n k : Nat) (hk : k ≤ 8) : (nbs n k).length = k := by
  unfold nbs; rw [List.length_drop]; show 8 - (8 - k) = k; omega
theorem nbs_back (W : World) (A n k : Nat) (hk : k ≤ 8) (h : W.heap[A]? = some (.cells (num8 n) 105 (0, 0))) :
    (convert 95 9 (.slice (some ⟨A, 8 - k, none⟩) k k)).run Try.prog W = .ok (.string ⟨(nbs n k).toArray⟩) W := by
  have := run_convert_bytes_back W 95 9 5 ⟨A, 8 - k, none⟩ k (nbs n k) Try.underlying95 Try.underlying5 Try.underlying9 (fun j hj => by
    have hj' : j < k := by rwa [nbs_length n k hk] at hj
    have hp : (⟨A, 8 - k, none⟩ : Addr).add j = ⟨A, 8 - k + j, none⟩ := by unfold Addr.add; split <;> simp_all
    rw [hp, cell_of_row W A _ _ _ _ h, num8_nb]
    have hl : 8 - k + j < (nb8 n).length := by show 8 - k + j < 8; omega
    simp only [List.getElem?_toArray, List.getElem?_map, List.getElem?_eq_getElem hl, Option.map_some]
    have e : (nbs n k)[j]? = some ((nb8 n)[8 - k + j]'hl) := by unfold nbs; rw [List.getElem?_drop, List.getElem?_eq_getElem hl]
    obtain ⟨_, e2⟩ := List.getElem?_eq_some_iff.1 e
    rw [e2]
    rfl)
  rwa [nbs_length n k hk] at this

set_option maxRecDepth 100000 in
set_option maxHeartbeats 4000000 in
theorem WNum_any (B : Nat) (G : Nat → Prop) (q : Wr) (k n : Nat) (w : World) (h : WrAt w B G q) (hq : q.ok) (hk : k = 1 ∨ k = 2 ∨ k = 4 ∨ k = 8) (hn : n < 18446744073709551616) :
    Calls Try.prog 90 #[.pointer (some ⟨B, 0, none⟩), .int .i64 k, .int .u64 (n : Int)] w fun e w' => (∃ v, e = .returned v) ∧ WrAt w' B G (rawW q ⟨(nbs n k).toArray⟩) ∧ Keeps G w w' := by
  have hwd : widthB (k : Int) = true := by unfold widthB; exact decide_eq_true (by omega)
  have CW := Lib.hid fun W => isWidth_any (k : Int) W
  rw [hwd] at CW
  have CN := Lib.hid fun W => numberOf_any n W hn
  have hG : ∀ j, G j → j < w.heap.size := by
    obtain ⟨mb, bv, h⟩ := h
    exact fun j hj => (h.out j hj).1
  have hsz : (⟨(nbs n k).toArray⟩ : ByteArray).size = k := by show (nbs n k).toArray.size = k; rw [List.size_toArray]; exact nbs_length n k (by omega)
  have CR := Lib.hid fun W (h : WrAt W B G q) => WRaw_any B G q ⟨(nbs n k).toArray⟩ W h hq (by omega)
  have HB := Lib.hid fun W A h => nbs_back W A n k (by omega) h
  have H := Lib.hid h
  have HG := Lib.hid hG
  clear h hwd hG hsz
  obtain ⟨t, ht⟩ : ∃ t : ByteArray, (⟨(nbs n k).toArray⟩ : ByteArray) = t := ⟨_, rfl⟩
  rw [ht] at CR HB
  rw [ht]
  clear ht
  rcases hk with rfl | rfl | rfl | rfl
  · rw [show (((1 : Nat) : Int)) = 1 from rfl] at CW ⊢
    go_enter Try.func90, Try.ntmps90
    go_wp2_with fail
    refine (CW.out _).mono ?_
    rintro e w1 ⟨rfl, rfl⟩
    go_wp2_with fail
    refine (CN.out _).mono ?_
    rintro e w1 ⟨rfl, hx1⟩
    have HX1 := Lib.hid hx1; clear hx1
    have hA := World.alloc_heap_new w1 (.cells #[.int .u8 0, .int .u8 0, .int .u8 0, .int .u8 0, .int .u8 0, .int .u8 0, .int .u8 0, .int .u8 0] 105)
    have HA := Lib.hid hA; clear hA
    have hb : (convert 95 9 (.slice (some ⟨w1.heap.size, 7, none⟩) 1 1)).run Try.prog ((w1.alloc (.cells #[.int .u8 0, .int .u8 0, .int .u8 0, .int .u8 0, .int .u8 0, .int .u8 0, .int .u8 0, .int .u8 0] 105)).setRow w1.heap.size (num8 n)) = .ok (.string t) _ :=
      HB.out _ w1.heap.size (setRow_heap _ _ _ _ _ _ HA.out)
    have HX2 : Hid (Ext w ((w1.alloc (.cells #[.int .u8 0, .int .u8 0, .int .u8 0, .int .u8 0, .int .u8 0, .int .u8 0, .int .u8 0, .int .u8 0] 105)).setRow w1.heap.size (num8 n))) :=
      Lib.hid (HX1.out.trans ((((Keeps.refl (fun j => j < w1.heap.size) w1).alloc _).setRow (by omega) _).ext fun _ h => h))
    go_wp2_with (first
      | (refine wpList_store_row rfl _ _ _ rfl w1.heap.size (num8 n) rfl rfl _ _ HA.out (by kernel_rfl) rfl (by kernel_rfl) ?_))
    refine (CR.out _ (H.out.ext HX2.out)).mono ?_
    rintro e w4 ⟨⟨v, rfl⟩, hw4, hk4⟩
    have HP := Lib.hid (And.intro hw4 ((HX2.out.keeps.mono fun _ _ _ => trivial).trans hk4)); clear hw4 hk4
    clear hb
    go_wp2
    go_end0
    exact ⟨⟨_, rfl⟩, HP.out.1, HP.out.2⟩
  · rw [show (((2 : Nat) : Int)) = 2 from rfl] at CW ⊢
    go_enter Try.func90, Try.ntmps90
    go_wp2_with fail
    refine (CW.out _).mono ?_
    rintro e w1 ⟨rfl, rfl⟩
    go_wp2_with fail
    refine (CN.out _).mono ?_
    rintro e w1 ⟨rfl, hx1⟩
    have HX1 := Lib.hid hx1; clear hx1
    have hA := World.alloc_heap_new w1 (.cells #[.int .u8 0, .int .u8 0, .int .u8 0, .int .u8 0, .int .u8 0, .int .u8 0, .int .u8 0, .int .u8 0] 105)
    have HA := Lib.hid hA; clear hA
    have hb : (convert 95 9 (.slice (some ⟨w1.heap.size, 6, none⟩) 2 2)).run Try.prog ((w1.alloc (.cells #[.int .u8 0, .int .u8 0, .int .u8 0, .int .u8 0, .int .u8 0, .int .u8 0, .int .u8 0, .int .u8 0] 105)).setRow w1.heap.size (num8 n)) = .ok (.string t) _ :=
      HB.out _ w1.heap.size (setRow_heap _ _ _ _ _ _ HA.out)
    have HX2 : Hid (Ext w ((w1.alloc (.cells #[.int .u8 0, .int .u8 0, .int .u8 0, .int .u8 0, .int .u8 0, .int .u8 0, .int .u8 0, .int .u8 0] 105)).setRow w1.heap.size (num8 n))) :=
      Lib.hid (HX1.out.trans ((((Keeps.refl (fun j => j < w1.heap.size) w1).alloc _).setRow (by omega) _).ext fun _ h => h))
    go_wp2_with (first
      | (refine wpList_store_row rfl _ _ _ rfl w1.heap.size (num8 n) rfl rfl _ _ HA.out (by kernel_rfl) rfl (by kernel_rfl) ?_))
    refine (CR.out _ (H.out.ext HX2.out)).mono ?_
    rintro e w4 ⟨⟨v, rfl⟩, hw4, hk4⟩
    have HP := Lib.hid (And.intro hw4 ((HX2.out.keeps.mono fun _ _ _ => trivial).trans hk4)); clear hw4 hk4
    clear hb
    go_wp2
    go_end0
    exact ⟨⟨_, rfl⟩, HP.out.1, HP.out.2⟩
  · rw [show (((4 : Nat) : Int)) = 4 from rfl] at CW ⊢
    go_enter Try.func90, Try.ntmps90
    go_wp2_with fail
    refine (CW.out _).mono ?_
    rintro e w1 ⟨rfl, rfl⟩
    go_wp2_with fail
    refine (CN.out _).mono ?_
    rintro e w1 ⟨rfl, hx1⟩
    have HX1 := Lib.hid hx1; clear hx1
    have hA := World.alloc_heap_new w1 (.cells #[.int .u8 0, .int .u8 0, .int .u8 0, .int .u8 0, .int .u8 0, .int .u8 0, .int .u8 0, .int .u8 0] 105)
    have HA := Lib.hid hA; clear hA
    have hb : (convert 95 9 (.slice (some ⟨w1.heap.size, 4, none⟩) 4 4)).run Try.prog ((w1.alloc (.cells #[.int .u8 0, .int .u8 0, .int .u8 0, .int .u8 0, .int .u8 0, .int .u8 0, .int .u8 0, .int .u8 0] 105)).setRow w1.heap.size (num8 n)) = .ok (.string t) _ :=
      HB.out _ w1.heap.size (setRow_heap _ _ _ _ _ _ HA.out)
    have HX2 : Hid (Ext w ((w1.alloc (.cells #[.int .u8 0, .int .u8 0, .int .u8 0, .int .u8 0, .int .u8 0, .int .u8 0, .int .u8 0, .int .u8 0] 105)).setRow w1.heap.size (num8 n))) :=
      Lib.hid (HX1.out.trans ((((Keeps.refl (fun j => j < w1.heap.size) w1).alloc _).setRow (by omega) _).ext fun _ h => h))
    go_wp2_with (first
      | (refine wpList_store_row rfl _ _ _ rfl w1.heap.size (num8 n) rfl rfl _ _ HA.out (by kernel_rfl) rfl (by kernel_rfl) ?_))
    refine (CR.out _ (H.out.ext HX2.out)).mono ?_
    rintro e w4 ⟨⟨v, rfl⟩, hw4, hk4⟩
    have HP := Lib.hid (And.intro hw4 ((HX2.out.keeps.mono fun _ _ _ => trivial).trans hk4)); clear hw4 hk4
    clear hb
    go_wp2
    go_end0
    exact ⟨⟨_, rfl⟩, HP.out.1, HP.out.2⟩
  · rw [show (((8 : Nat) : Int)) = 8 from rfl] at CW ⊢
    go_enter Try.func90, Try.ntmps90
    go_wp2_with fail
    refine (CW.out _).mono ?_
    rintro e w1 ⟨rfl, rfl⟩
    go_wp2_with fail
    refine (CN.out _).mono ?_
    rintro e w1 ⟨rfl, hx1⟩
    have HX1 := Lib.hid hx1; clear hx1
    have hA := World.alloc_heap_new w1 (.cells #[.int .u8 0, .int .u8 0, .int .u8 0, .int .u8 0, .int .u8 0, .int .u8 0, .int .u8 0, .int .u8 0] 105)
    have HA := Lib.hid hA; clear hA
    have hb : (convert 95 9 (.slice (some ⟨w1.heap.size, 0, none⟩) 8 8)).run Try.prog ((w1.alloc (.cells #[.int .u8 0, .int .u8 0, .int .u8 0, .int .u8 0, .int .u8 0, .int .u8 0, .int .u8 0, .int .u8 0] 105)).setRow w1.heap.size (num8 n)) = .ok (.string t) _ :=
      HB.out _ w1.heap.size (setRow_heap _ _ _ _ _ _ HA.out)
    have HX2 : Hid (Ext w ((w1.alloc (.cells #[.int .u8 0, .int .u8 0, .int .u8 0, .int .u8 0, .int .u8 0, .int .u8 0, .int .u8 0, .int .u8 0] 105)).setRow w1.heap.size (num8 n))) :=
      Lib.hid (HX1.out.trans ((((Keeps.refl (fun j => j < w1.heap.size) w1).alloc _).setRow (by omega) _).ext fun _ h => h))
    go_wp2_with (first
      | (refine wpList_store_row rfl _ _ _ rfl w1.heap.size (num8 n) rfl rfl _ _ HA.out (by kernel_rfl) rfl (by kernel_rfl) ?_))
    refine (CR.out _ (H.out.ext HX2.out)).mono ?_
    rintro e w4 ⟨⟨v, rfl⟩, hw4, hk4⟩
    have HP := Lib.hid (And.intro hw4 ((HX2.out.keeps.mono fun _ _ _ => trivial).trans hk4)); clear hw4 hk4
    clear hb
    go_wp2
    go_end0
    exact ⟨⟨_, rfl⟩, HP.out.1, HP.out.2⟩

end Go.Proofs.Ytmmjhdkoccpdjaa
