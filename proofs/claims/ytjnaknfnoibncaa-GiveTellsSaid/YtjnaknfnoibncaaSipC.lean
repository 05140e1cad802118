/- What sip's words do: the iterator over a text's words. Conditions: strings that Go can hold. -/
import Derived.Test.YtjnaknfnoibncaaSipB
namespace Go.Proofs.Ytjnaknfnoibncaa
open Go Go.RowKit Go.Shelf
attribute [local go_sem] Oper.semAt_some wide_fn wide_depth

theorem ext_list (s : ByteArray) (a b : Nat) : (s.extract a b).data.toList = (s.data.toList.drop a).take (b - a) := by
  rw [ByteArray.data_extract, Array.toList_extract, List.extract_eq_take_drop]
theorem rest_list (s : ByteArray) (a : Nat) : (s.extract a s.size).data.toList = s.data.toList.drop a := by
  rw [ext_list, List.take_of_length_le]
  rw [List.length_drop, len_list]
  exact Nat.le_refl _
theorem size_restS (t : ByteArray) (n : Nat) : (t.extract n t.size).size = t.size - n := by rw [ByteArray.size_extract]; omega
theorem rest_rest (s : ByteArray) (a b : Nat) : (s.extract a s.size).extract b (s.extract a s.size).size = s.extract (a + b) s.size := by
  have h : ((s.extract a s.size).extract b (s.extract a s.size).size).data.toList = (s.extract (a + b) s.size).data.toList := by
    rw [rest_list, rest_list, rest_list, List.drop_drop]
  cases h1 : (s.extract a s.size).extract b (s.extract a s.size).size
  cases h2 : s.extract (a + b) s.size
  rw [h1, h2] at h
  simp only [ByteArray.mk.injEq]
  exact Array.toList_inj.1 h
theorem range_snoc (n : Nat) (f : Nat → Nat) : (List.range (n + 1)).map f = (List.range n).map f ++ [f n] := by rw [List.range_succ]; simp
/-- The last word. -/
theorem lastW (r L : Nat) (hr : r < 72057594037927936) :
    Go.bits .or .u64 (r : Int) (IntKind.u64.wrap ((IntKind.u64.wrap (L : Int)) * 72057594037927936)) = ((r + L % 256 * 72057594037927936 : Nat) : Int) := by
  have h1 : IntKind.u64.wrap ((IntKind.u64.wrap (L : Int)) * 72057594037927936) = ((L % 256 * 72057594037927936 : Nat) : Int) := by
    rw [IntKind.wrap_u64, IntKind.wrap_u64]; omega
  rw [h1, u64_or_nat _ _ (by omega) (by omega), Nat.or_comm, nat_join 56 _ _ (by omega) (by omega), Nat.add_comm]

set_option maxRecDepth 100000 in
set_option maxHeartbeats 1000000 in
theorem words1_seq (n : Nat) (Bn : Nat) (s : ByteArray) (w : World) (hb : w.cell? ⟨Bn, 0, none⟩ = some (.string s)) :
    SeqX Fence.wide n Try.prog 97 #[.pointer (some ⟨Bn, 0, none⟩)] (fun a : Nat => #[Value.int .u64 a]) (wordsB s) (fun k => k = Bn) w := by
  intro l W J Jx hW hJ hJx h0 hY
  have hbW := hW.cell hb rfl
  refine callsIn_of_wp Try.func97 rfl trivial ?_ rfl
  simp only [Try.ntmps97, List.size_toArray, List.length_cons, List.length_nil, Nat.reduceAdd, Nat.reduceSub, Array.replicate_succ, Array.replicate_zero, List.push_toArray, List.append_toArray, List.nil_append, List.cons_append]
  have hJ0 := h0 W.heap.size W (Nat.le_refl _) (Nat.le_refl _) (Keeps.refl _ _)
  obtain ⟨Q, hQ⟩ : ∃ Q, s.size / 8 = Q := ⟨_, rfl⟩
  have hws : wordsB s = (List.range (Q + 1)).map (wordJ s) := by rw [wordsB, hQ]
  have hQ1 : 8 * Q ≤ s.size := by omega
  have hQ2 : s.size < 8 * Q + 8 := by omega
  have HQ := Lib.hid hQ; clear hQ
  have HWS := Lib.hid hws; clear hws
  gi_wp2
  gi_loopw [3] (fun i wr => ∃ (j : Nat), j ≤ Q ∧ i = .string (s.extract (8 * j) s.size) ∧ J W.heap.size ((List.range j).map (wordJ s)) wr ∧ W.heap.size ≤ wr.heap.size ∧ Keeps (fun k => k = Bn) W wr)
    (fun i _ => match i with | .string t => t.size | _ => 0)
  case atStart => exact ⟨0, Nat.zero_le _, by rw [Nat.mul_zero, ByteArray.extract_zero_size], hJ0, Nat.le_refl _, Keeps.refl _ _⟩
  case round =>
    obtain ⟨j, hj, rfl, hJs, hsz, hkp⟩ := hrel
    have hc := hkp.cell hbW rfl
    have HJ := Lib.hid hJ; clear hJ
    have HJx := Lib.hid hJx; clear hJx
    have H0 := Lib.hid h0; clear h0
    have HY := Lib.hid hY; clear hY
    have Hkp := Lib.hid hkp; clear hkp
    have HW := Lib.hid hW; clear hW
    obtain ⟨r, hr⟩ : ∃ r, s.extract (8 * j) s.size = r := ⟨_, rfl⟩
    have hrs : r.size = s.size - 8 * j := by rw [← hr, size_restS]
    rw [hr]
    by_cases hlt : j < Q
    · have hr8 : 8 ≤ r.size := by omega
      have hsp : wordsB s = (List.range j).map (wordJ s) ++ wordJ s j :: ((List.range (Q + 1)).drop (j + 1)).map (wordJ s) := by
        rw [HWS.out]
        have h1 : List.range (Q + 1) = (List.range (Q + 1)).take j ++ (List.range (Q + 1)).drop j := (List.take_append_drop j _).symm
        have h2 : (List.range (Q + 1)).drop j = j :: (List.range (Q + 1)).drop (j + 1) := by
          rw [List.drop_eq_getElem_cons (by simp; omega)]; simp
        rw [h2, List.take_range, show min j (Q + 1) = j by omega] at h1
        rw [← List.map_cons, ← List.map_append, ← h1]
      have hwj : wordJ s j = lowB (r.extract 0 8).data.toList := by
        unfold wordJ
        rw [if_pos (by rw [HQ.out]; exact hlt), ext_list, ← hr, rest_list]; simp
      have CN0 := number_any (r.extract 0 8) wr (by simp only [ByteArray.size_extract]; omega)
      obtain ⟨v, hv⟩ : ∃ v, lowB (r.extract 0 8).data.toList = v := ⟨_, rfl⟩
      rw [hv] at hwj CN0
      have CN := Lib.hid CN0
      clear hv CN0
      have hsn : (List.range (j + 1)).map (wordJ s) = (List.range j).map (wordJ s) ++ [v] := by rw [range_snoc, hwj]
      rw [hwj] at hsp
      obtain ⟨fn, tmps, assign, body, hy, hR⟩ := HY.out W.heap.size _ v _ wr hsp (Nat.le_refl _) hsz hJs
      have hrr : r.extract 8 r.size = s.extract (8 * (j + 1)) s.size := by rw [← hr, rest_rest, Nat.mul_add, Nat.mul_one]
      have Hrr := Lib.hid hrr
      have Hr := Lib.hid hr
      have Hrs := Lib.hid hrs
      have Hsn := Lib.hid hsn
      have Hsp := Lib.hid hsp
      clear hwj hsn hsp hr hrs hrr
      gi_wp2_with (gi_at_call 50; refine (callsIn_wide.2 CN.out).mono ?_; rintro e w' ⟨rfl, rfl⟩)
      refine hR.mono ?_
      rintro e W3 ⟨hk3, (⟨rfl, hJ3⟩ | ⟨rfl, hJx3⟩)⟩
      · gi_wp2
        go_roundw
        case rel => exact ⟨j + 1, by omega, by rw [Hrr.out], by rw [Hsn.out]; exact hJ3, Nat.le_trans hsz hk3.size, Hkp.out.trans (hk3.mono fun _ _ h => .inl h)⟩
        case measure => show (r.extract 8 r.size).size < r.size; rw [size_restS]; omega
      · gi_wp2
        refine bodyPost_ret (results_none rfl _ _ _) rfl ?_
        exact ⟨⟨_, rfl⟩, W.heap.size, Nat.le_refl _, Nat.le_trans hsz hk3.size, .inr ⟨_, v, _, Hsp.out, hJx3⟩⟩
    · obtain rfl : j = Q := by omega
      have hr8 : r.size < 8 := by omega
      have hr8' : r.size ≤ 8 := by omega
      have CN0 := number_any r wr.drew hr8'
      have hlt7 := lowB_lt7 (l := r.data.toList) (by rw [len_list]; omega)
      have hwj : wordJ s j = lowB r.data.toList + s.size % 256 * 72057594037927936 := by
        unfold wordJ
        rw [if_neg (by rw [HQ.out]; omega), ← hr, rest_list]
      have hl := lastW (lowB r.data.toList) s.size hlt7
      obtain ⟨v, hv⟩ : ∃ v, lowB r.data.toList = v := ⟨_, rfl⟩
      rw [hv] at hwj CN0 hl
      obtain ⟨x, hx⟩ : ∃ x, v + s.size % 256 * 72057594037927936 = x := ⟨_, rfl⟩
      rw [hx] at hl hwj
      have CN := Lib.hid CN0
      have hsp : wordsB s = (List.range j).map (wordJ s) ++ x :: [] := by rw [HWS.out, range_snoc, hwj]
      obtain ⟨fn, tmps, assign, body, hy, hR⟩ := HY.out W.heap.size _ x _ wr.drew hsp (Nat.le_refl _) hsz (HJ.out _ _ _ _ hJs ((Keeps.refl _ _).drew))
      have Hl := Lib.hid hl
      have Hsp := Lib.hid hsp
      clear hv hx hl hwj hsp CN0 hlt7 hr hrs
      gi_wp2_with fail
      refine wpIn_region_tail Wide.wide 8 (by kernel_rfl) (by kernel_rfl) ?_
      simp only [List.take_succ_cons, List.take_zero, List.drop_succ_cons, List.drop_zero]
      iterate 2 still_step
      still_call (CN.out.mono fun _ _ h => ⟨h.1, h.2.symm⟩)
      iterate 4 still_step
      refine wpStill_step (fun K hK => ?_)
      go_simp
      rw [Hl.out]
      refine hK _ ?_
      clear hK K
      refine wpStill_nil ?_
      gi_wp2_with fail
      refine hR.mono ?_
      rintro e W3 ⟨hk3, hor⟩
      have hk : Keeps (fun k => k = Bn ∨ W.heap.size ≤ k ∧ k < W.heap.size) wr W3 := ((Keeps.refl _ wr).drew).trans hk3
      have Hk := Lib.hid hk
      clear hk hk3 hR hy CN
      rcases hor with ⟨rfl, hJ3⟩ | ⟨rfl, hJx3⟩
      · gi_wp2
        go_end0
        exact ⟨⟨_, rfl⟩, W.heap.size, Nat.le_refl _, Nat.le_trans hsz Hk.out.size, .inl (by rw [Hsp.out]; exact hJ3)⟩
      · gi_wp2
        go_end0
        exact ⟨⟨_, rfl⟩, W.heap.size, Nat.le_refl _, Nat.le_trans hsz Hk.out.size, .inr ⟨_, x, [], Hsp.out, hJx3⟩⟩

set_option maxHeartbeats 400000 in
/-- words boxes the string; the function value captures the box. -/
theorem words_any (s : ByteArray) (w : World) :
    Calls Try.prog 85 #[.string s] w fun e w' => e = .returned (.func (.func 97) #[] #[.pointer (some ⟨w.heap.size, 0, none⟩)]) ∧ w' = w.alloc (.cells #[.string s] 9) := by
  go_enter Try.func85, Try.ntmps85
  go_wp2
  go_ret
  exact ⟨rfl, rfl⟩

theorem infoU64 : (Try.prog.info? 44).map (fun i => (i.zero, i.size, i.bytes)) = some (some (.int .u64 0), 1, 8) := by kernel_rfl
theorem ownsRow_monoU {w : World} {b b' size n : Nat} {e : TypeId} {v : Value} {xs : List Value} (h : w.ownsRow b' e size v n xs) (hb : b ≤ b') : w.ownsRow b e size v n xs := by
  refine ⟨h.1, ?_⟩
  rcases h.2 with hn | ⟨g, cap, cur, rfl, hg, rest⟩
  · exact .inl hn
  · exact .inr ⟨g, cap, cur, rfl, by omega, rest⟩

theorem wordsB_len (s : ByteArray) (h : s.size ≤ 65536) : (wordsB s).length ≤ 4294967296 := by rw [wordsB_length]; omega
end Go.Proofs.Ytjnaknfnoibncaa
