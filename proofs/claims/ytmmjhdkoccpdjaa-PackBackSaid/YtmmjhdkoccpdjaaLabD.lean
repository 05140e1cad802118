/- What label's Labels does: the iterator tells the labels of a name. Conditions: strings that Go can hold. -/
import Derived.Test.YtmmjhdkoccpdjaaLabC
import Derived.Test.YtmmjhdkoccpdjaaStill
import Derived.Outline
import Derived.IntWalk
namespace Go.Proofs.Ytmmjhdkoccpdjaa
open Go Go.RowKit Go.Shelf
attribute [local go_sem] Oper.semAt_some wide_fn wide_depth

set_option maxRecDepth 100000 in
set_option maxHeartbeats 4000000 in
theorem labels1_seq (n : Nat) (Bn : Nat) (s : ByteArray) (hs : s.size ≤ maxLen) (w : World) (hb : w.cell? ⟨Bn, 0, none⟩ = some (.string s)) :
    SeqX Fence.wide n Try.prog 114 #[.pointer (some ⟨Bn, 0, none⟩)] (fun x : ByteArray => #[Value.string x]) (labelsB s) (fun k => k = Bn) w := by
  intro l W J Jx hW hJ hJx h0 hY
  have hbW := hW.cell hb rfl
  have HJ := Lib.hid hJ; clear hJ
  have HJx := Lib.hid hJx; clear hJx
  have H0 := Lib.hid h0; clear h0
  have HY := Lib.hid hY; clear hY
  have HW := Lib.hid hW; clear hW
  have hC : Hid (∀ W' : World, Calls Try.prog 18 #[.string s] W' fun e w' => e = .returned (.int .i64 (chk s)) ∧ Below W'.heap.size W' w') := Lib.hid fun W' => Check_any s W' hs
  unfold maxLen at hs
  refine callsIn_of_wp_marks Try.func114 rfl trivial ?_ rfl
  simp only [Try.ntmps114, List.size_toArray, List.length_cons, List.length_nil, Nat.reduceAdd, Nat.reduceSub, Array.replicate_succ, Array.replicate_zero, List.push_toArray, List.append_toArray, List.nil_append, List.cons_append]
  have hK0 : ∀ K, Keeps K W (W.alloc (.cells #[.func (.yield l) #[] #[]] 91)) := fun K => (Keeps.refl K W).alloc _
  have hY0 : Boxed (W.alloc (.cells #[.func (.yield l) #[] #[]] 91)) W.heap.size 91 (.func (.yield l) #[] #[]) := Boxed.new W _ _
  have hz0 : (W.alloc (.cells #[.func (.yield l) #[] #[]] 91)).heap.size = W.heap.size + 1 := by simp
  have hbW1 := (hK0 (fun _ => True)).cell hbW trivial
  have HK0 := Lib.hid hK0; clear hK0
  have HY0 := Lib.hid hY0; clear hY0
  have Hz0 := Lib.hid hz0; clear hz0
  gi_wp2_with fail
  obtain ⟨w0, hw0⟩ : ∃ w0, W.alloc (.cells #[.func (.yield l) #[] #[]] 91) = w0 := ⟨_, rfl⟩
  rw [hw0] at HK0 HY0 Hz0 hbW1 ⊢
  clear hw0
  refine (callsIn_wide.2 (hC.out _)).mono ?_
  rintro e w1 ⟨rfl, hB1⟩
  have hB1 := Lib.hid hB1
  have hK1 : Keeps (fun _ => True) w0 w1 := Keeps.of_below hB1.out (fun _ h _ => h)
  have hb1 := hK1.cell hbW1 trivial
  have HY1 := Lib.hid (hK1.boxed HY0.out trivial)
  have HK1 := Lib.hid hK1; clear hK1
  cases hn : isName s with
  | false =>
    have hc2 : chk s = 2 := by simp [chk, hn]
    rw [hc2]
    clear hc2
    have Hn := Lib.hid hn; clear hn
    gi_wp2
    refine ⟨_, results_none rfl _ _ _, ⟨_, rfl⟩, w1.heap.size, ?_, Nat.le_refl _, .inl ?_⟩
    · have := Hz0.out; have := HK1.out.size; omega
    · rw [labelsB, Hn.out]
      exact H0.out _ _ (by have := Hz0.out; have := HK1.out.size; omega) (Nat.le_refl _) ((HK0.out _).trans (HK1.out.mono fun _ _ _ => trivial))
  | true =>
    have hc2 : chk s = 0 := by simp [chk, hn]
    rw [hc2]
    clear hc2
    have Hn := Lib.hid hn; clear hn
    have hb1' : (w1.alloc (.cells #[.int .i64 0] 3)).cell? ⟨Bn, 0, none⟩ = some (.string s) := ((Keeps.refl (fun _ => True) w1).alloc _).cell hb1 trivial
    gi_wp2_with (gi_at_call 74; refine (callsIn_wide.2 (ends_any _ _)).mono ?_; rintro e w' ⟨rfl, rfl⟩)
    have hSt : Boxed ((w1.alloc (.cells #[.int .i64 0] 3)).alloc (.cells #[.string s] 9)) w1.heap.size 3 (.int .i64 0) := (Boxed.new w1 3 _).alloc _
    have hN : Boxed ((w1.alloc (.cells #[.int .i64 0] 3)).alloc (.cells #[.string s] 9)) (w1.heap.size + 1) 9 (.string s) := by have := Boxed.new (w1.alloc (.cells #[.int .i64 0] 3)) 9 (.string s); simpa using this
    have hK2 : Keeps (fun _ => True) w1 ((w1.alloc (.cells #[.int .i64 0] 3)).alloc (.cells #[.string s] 9)) := ((Keeps.refl _ _).alloc _).alloc _
    have hz2 : ((w1.alloc (.cells #[.int .i64 0] 3)).alloc (.cells #[.string s] 9)).heap.size = w1.heap.size + 2 := by simp
    generalize (w1.alloc (.cells #[.int .i64 0] 3)).alloc (.cells #[.string s] 9) = w2 at hSt hN hK2 hz2 ⊢
    have hb2 := hK2.cell hb1 trivial
    have hY2 := hK2.boxed HY1.out trivial
    have hKW : Keeps (fun _ => True) W w2 := (HK0.out _).trans (HK1.out.trans hK2)
    have hzW : W.heap.size < w1.heap.size := by have := Hz0.out; have := HK1.out.size; omega
    have hbl : Bn < W.heap.size := World.block_lt_of_cell? W ⟨Bn, 0, none⟩ hbW
    clear hb1' hb1 hbW1 hb hbW
    refine wpIn_rangeX rfl wide_room (gf := 113) (lb := #[.pointer (some ⟨w1.heap.size + 1, 0, none⟩)]) rfl trivial (enters_of Try.func113 (by kernel_rfl) rfl)
      (ends1_seq _ _ s (by unfold maxLen; exact hs) w2 hN.cell) (Keeps.refl _ _) (fun k h => by rw [hz2]; subst h; omega) (fun _ => rfl)
      (fun D pre A => Boxed A w1.heap.size 3 (.int .i64 (pre.getLastD 0 : Nat)) ∧ Boxed A W.heap.size 91 (.func (.yield l) #[] #[]) ∧ A.cell? ⟨Bn, 0, none⟩ = some (.string s) ∧ J D (labelsFrom s 0 pre) A)
      (fun c D pre A => c = Code.ret ∧ Jx D (labelsFrom s 0 pre) A)
      (fun D pre A A' h k => ⟨k.boxed h.1 (by omega), k.boxed h.2.1 (by omega), k.cell h.2.2.1 (by simp only; omega), HJ.out _ _ _ _ h.2.2.2 (k.mono fun _ _ h => by omega)⟩)
      (fun _ D pre A A' h k => ⟨h.1, HJx.out _ _ _ _ h.2 (k.mono fun _ _ h => by omega)⟩)
      (fun D A h1 h2 h => ⟨h.boxed hSt (by omega), h.boxed hY2 (by omega), h.cell hb2 (by simp only; omega), H0.out D A (by omega) h2 ((hKW.mono fun _ _ _ => trivial).trans (h.mono fun _ _ h => by omega))⟩)
      (fun _ x a' _ => a' = { tmps := #[.func (.yield l) #[] #[], .pointer (some ⟨Bn, 0, none⟩), .pointer (some ⟨W.heap.size, 0, none⟩), .pointer (some ⟨w1.heap.size, 0, none⟩), .int .i64 x, .string s, .int .i64 0, .bool false, .string s, .func (.func 113) #[] #[.pointer (some ⟨w1.heap.size + 1, 0, none⟩)], .int .i64 x, undef, undef, undef, undef, undef, undef, undef, undef, undef], defers := [] })
      (fun _ _ _ _ _ h _ => h) ?assign ?body ?done ?stop
    case assign =>
      intro l D x A K _ hK
      gi_wp2
      exact hK _ _ (Keeps.refl _ _) rfl
    case body =>
      rintro l' D pre x rest a' A hx hD hDW ⟨r, hr⟩ ⟨hst, hyb, hn, hJ⟩ rfl
      have hch := endsE_chain s pre 0 x rest hx
      obtain ⟨st, hste⟩ : ∃ st : Nat, pre.getLastD 0 = st := ⟨_, rfl⟩
      have hspl := labelsFrom_split s pre 0 x rest
      rw [hste] at hst hch hspl
      obtain ⟨fn, tmps, assign, body, hy, hR⟩ := HY.out D (labelsFrom s 0 pre) (s.extract (st + 1) x) (labelsFrom s x rest) A.drew (by rw [labelsB, Hn.out, if_pos rfl, hx, hspl]) (by omega) hDW (HJ.out _ _ _ _ hJ ((Keeps.refl _ _).drew))
      have HR := Lib.hid (hR.mono (R' := fun e W' => ∃ b, e = .returned (.bool b) ∧ Keeps (fun k => k = Bn ∨ W.heap.size ≤ k ∧ k < D) A.drew W' ∧
        ((b = true ∧ J D (labelsFrom s 0 pre ++ [s.extract (st + 1) x]) W') ∨ (b = false ∧ Jx D (labelsFrom s 0 pre ++ [s.extract (st + 1) x]) W')))
        (fun e W' h => h.2.elim (fun g => ⟨true, g.1, h.1, .inl ⟨rfl, g.2⟩⟩) (fun g => ⟨false, g.1, h.1, .inr ⟨rfl, g.2⟩⟩))); clear hR
      have hcs := hst.cell
      have hfs := hst.frozen
      have hcy := hyb.cell
      have Hst := Lib.hid hst; clear hst
      have Hyb := Lib.hid hyb; clear hyb
      have Hspl := Lib.hid hspl; clear hspl
      have Hste := Lib.hid hste; clear hste
      have Hx := Lib.hid hx; clear hx
      have hmx : Try.prog.follows .mixedOrders = true := by kernel_rfl
      have q1 : IntKind.i64.wrap ((st : Int) + 1) = (st : Int) + 1 := IntWalk.i64_in _ (by omega)
      have q2 : (0 : Int) ≤ (st : Int) + 1 := by omega
      have q3 : ((st : Int) + 1).toNat = st + 1 := by omega
      have q4 : (st : Int) + 1 ≤ (x : Int) := by omega
      have q5 : (x : Int) ≤ (s.size : Int) := by omega
      gi_wp2
      refine wpIn_region_tail (Wide.round l') 6 hmx (by kernel_rfl) ?_
      simp only [List.take_succ_cons, List.take_zero, List.drop_succ_cons, List.drop_zero]
      repeat still_step
      refine wpStill_nil ?_
      gi_wp2_with fail
      refine (roundIn_wide HR.out).mono ?_
      rintro e W3 ⟨b, rfl, hk3, hor⟩
      have hkA : Keeps (fun k => k = Bn ∨ W.heap.size ≤ k ∧ k < D) A W3 := ((Keeps.refl _ A).drew).trans hk3
      have hDW3 : D ≤ W3.heap.size := Nat.le_trans hDW hkA.size
      have hst3 := hkA.boxed Hst.out (by omega)
      have hyb3 := hkA.boxed Hyb.out (by omega)
      have hn3 := hkA.cell hn (.inl rfl)
      have hcs3 := hst3.cell
      have hfs3 := hst3.frozen
      have Hst3 := Lib.hid hst3; clear hst3
      have Hyb3 := Lib.hid hyb3; clear hyb3
      have HkA := Lib.hid hkA; clear hkA hk3
      clear HR hy
      cases b with
      | true =>
        have hj := Lib.hid (hor.elim (fun h => h.2) (fun h => by cases h.1)); clear hor
        gi_wp2
        refine ⟨?_, ?_, ?_, ?_, ?_⟩
        · exact (HkA.out.mono fun k _ h => by omega).setCell (p := ⟨w1.heap.size, 0, none⟩) (by simp only; omega) _
        · simpa using Hst3.out.set (.int .i64 x)
        · exact ((Keeps.refl (fun k => k ≠ w1.heap.size) W3).setCell (p := ⟨w1.heap.size, 0, none⟩) (fun h => h rfl) _).boxed Hyb3.out (by omega)
        · exact ((Keeps.refl (fun k => k ≠ w1.heap.size) W3).setCell (p := ⟨w1.heap.size, 0, none⟩) (fun h => h rfl) _).cell hn3 (by simp only; omega)
        · rw [labelsFrom_snoc, Hste.out]
          exact HJ.out _ _ _ _ hj.out ((Keeps.refl _ W3).setCell (p := ⟨w1.heap.size, 0, none⟩) (by simp only; omega) _)
      | false =>
        have hj := Lib.hid (hor.elim (fun h => by cases h.1) (fun h => h.2)); clear hor
        gi_wp2
        refine ⟨HkA.out.mono fun k _ h => by omega, rfl, ?_⟩
        rw [labelsFrom_snoc, Hste.out]
        exact hj.out
    case done =>
      rintro D A hD hDW ⟨_, _, _, hj⟩ hd
      have Hj := Lib.hid hj; clear hj
      have Hd := Lib.hid hd; clear hd
      gi_wp2
      refine ⟨by simp, .inl ⟨_, _, rfl, run_takeDeferred Hd.out, ?_⟩⟩
      have hkp : Keeps (fun k => k < W.heap.size ∨ D ≤ k) A (A.putObj w2.heap.size (.deferred none)) := (Keeps.refl _ A).putObj (by omega) _
      refine ⟨_, results_none rfl _ _ _, ⟨_, rfl⟩, D, by omega, Nat.le_trans hDW hkp.size, .inl ?_⟩
      rw [labelsB, Hn.out, if_pos rfl]
      exact HJ.out _ _ _ _ Hj.out hkp
    case stop =>
      rintro c D pre x rest A hx hD hDW ⟨rfl, hj⟩ hd
      have Hj := Lib.hid hj; clear hj
      have Hd := Lib.hid hd; clear hd
      have Hspl := Lib.hid (labelsFrom_split s pre 0 x rest)
      have Hx := Lib.hid hx; clear hx
      gi_wp2
      refine ⟨by simp, .inl ⟨_, _, rfl, run_takeDeferred Hd.out, ?_⟩⟩
      have hkp : Keeps (fun k => k < W.heap.size ∨ D ≤ k) A (A.putObj w2.heap.size (.deferred none)) := (Keeps.refl _ A).putObj (by omega) _
      refine ⟨_, results_none rfl _ _ _, ⟨_, rfl⟩, D, by omega, Nat.le_trans hDW hkp.size, .inr ⟨labelsFrom s 0 pre, s.extract (pre.getLastD 0 + 1) x, labelsFrom s x rest, ?_, ?_⟩⟩
      · rw [labelsB, Hn.out, if_pos rfl, Hx.out, Hspl.out]
      · rw [← labelsFrom_snoc]
        exact HJx.out _ _ _ _ Hj.out hkp

set_option maxHeartbeats 400000 in
/-- Labels boxes the string; the function value captures the box. -/
theorem Labels_any (s : ByteArray) (w : World) :
    Calls Try.prog 75 #[.string s] w fun e w' => e = .returned (.func (.func 114) #[] #[.pointer (some ⟨w.heap.size, 0, none⟩)]) ∧ w' = w.alloc (.cells #[.string s] 9) := by
  go_enter Try.func75, Try.ntmps75
  go_wp2
  go_ret
  exact ⟨rfl, rfl⟩

end Go.Proofs.Ytmmjhdkoccpdjaa
