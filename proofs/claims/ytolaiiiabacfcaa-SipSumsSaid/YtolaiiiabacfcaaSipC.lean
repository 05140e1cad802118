/- What sip's words do: the iterator over a text's words. Conditions: strings that Go can hold. -/
import Derived.Test.YtolaiiiabacfcaaSipB
namespace Go.Proofs.Ytolaiiiabacfcaa
open Go Go.RowKit Go.Shelf
attribute [local go_sem] Oper.semAt_some wide_fn wide_depth

theorem ext_list (s : ByteArray) (a b : Nat) : (s.extract a b).data.toList = (s.data.toList.drop a).take (b - a) := by
  rw [ByteArray.data_extract, Array.toList_extract, List.extract_eq_take_drop]
theorem rest_list (s : ByteArray) (a : Nat) : (s.extract a s.size).data.toList = s.data.toList.drop a := by
  rw [ext_list, List.take_of_length_le]
  rw [List.length_drop, len_list]
  exact Nat.le_refl _
theorem size_restS (t : ByteArray) (n : Nat) : (t.extract n t.size).size = t.size - n := by rw [ByteArray.size_extract]; omega
theorem rest_rest (s : ByteArray) (a b : Nat) : (s.extract a s.size).extract b (s.extract a s.size).size = s.extract (a + b) s.size := by
  have h : ((s.extract a s.size).extract b (s.extract a s.size).size).data.toList = (s.extract (a + b) s.size).data.toList := by
    rw [rest_list, rest_list, rest_list, List.drop_drop]
  cases h1 : (s.extract a s.size).extract b (s.extract a s.size).size
  cases h2 : s.extract (a + b) s.size
  rw [h1, h2] at h
  simp only [ByteArray.mk.injEq]
  exact Array.toList_inj.1 h
theorem range_snoc (n : Nat) (f : Nat → Nat) : (List.range (n + 1)).map f = (List.range n).map f ++ [f n] := by rw [List.range_succ]; simp
/-- The last word. -/
theorem lastW (r L : Nat) (hr : r < 72057594037927936) :
    Go.bits .or .u64 (r : Int) (IntKind.u64.wrap ((IntKind.u64.wrap (L : Int)) * 72057594037927936)) = ((r + L % 256 * 72057594037927936 : Nat) : Int) := by
  have h1 : IntKind.u64.wrap ((IntKind.u64.wrap (L : Int)) * 72057594037927936) = ((L % 256 * 72057594037927936 : Nat) : Int) := by
    rw [IntKind.wrap_u64, IntKind.wrap_u64]; omega
  rw [h1, u64_or_nat _ _ (by omega) (by omega), Nat.or_comm, nat_join 56 _ _ (by omega) (by omega), Nat.add_comm]

set_option maxRecDepth 100000 in
set_option maxHeartbeats 1000000 in
theorem words1_seq (n : Nat) (Bn : Nat) (s : ByteArray) (w : World) (hb : w.cell? ⟨Bn, 0, none⟩ = some (.string s)) :
    SeqX Fence.wide n Try.prog 28 #[.pointer (some ⟨Bn, 0, none⟩)] (fun a : Nat => #[Value.int .u64 a]) (wordsB s) (fun k => k = Bn) w := by
  intro l W J Jx hW hJ hJx h0 hY
  have hbW := hW.cell hb rfl
  refine callsIn_of_wp Try.func28 rfl trivial ?_ rfl
  simp only [Try.ntmps28, List.size_toArray, List.length_cons, List.length_nil, Nat.reduceAdd, Nat.reduceSub, Array.replicate_succ, Array.replicate_zero, List.push_toArray, List.append_toArray, List.nil_append, List.cons_append]
  have hJ0 := h0 W.heap.size W (Nat.le_refl _) (Nat.le_refl _) (Keeps.refl _ _)
  obtain ⟨Q, hQ⟩ : ∃ Q, s.size / 8 = Q := ⟨_, rfl⟩
  have hws : wordsB s = (List.range (Q + 1)).map (wordJ s) := by rw [wordsB, hQ]
  have hQ1 : 8 * Q ≤ s.size := by omega
  have hQ2 : s.size < 8 * Q + 8 := by omega
  have HQ := Lib.hid hQ; clear hQ
  have HWS := Lib.hid hws; clear hws
  gi_wp2
  gi_loopw [3] (fun i wr => ∃ (j : Nat), j ≤ Q ∧ i = .string (s.extract (8 * j) s.size) ∧ J W.heap.size ((List.range j).map (wordJ s)) wr ∧ W.heap.size ≤ wr.heap.size ∧ Keeps (fun k => k = Bn) W wr)
    (fun i _ => match i with | .string t => t.size | _ => 0)
  case atStart => exact ⟨0, Nat.zero_le _, by rw [Nat.mul_zero, ByteArray.extract_zero_size], hJ0, Nat.le_refl _, Keeps.refl _ _⟩
  case round =>
    obtain ⟨j, hj, rfl, hJs, hsz, hkp⟩ := hrel
    have hc := hkp.cell hbW rfl
    have HJ := Lib.hid hJ; clear hJ
    have HJx := Lib.hid hJx; clear hJx
    have H0 := Lib.hid h0; clear h0
    have HY := Lib.hid hY; clear hY
    have Hkp := Lib.hid hkp; clear hkp
    have HW := Lib.hid hW; clear hW
    obtain ⟨r, hr⟩ : ∃ r, s.extract (8 * j) s.size = r := ⟨_, rfl⟩
    have hrs : r.size = s.size - 8 * j := by rw [← hr, size_restS]
    rw [hr]
    by_cases hlt : j < Q
    · have hr8 : 8 ≤ r.size := by omega
      have hsp : wordsB s = (List.range j).map (wordJ s) ++ wordJ s j :: ((List.range (Q + 1)).drop (j + 1)).map (wordJ s) := by
        rw [HWS.out]
        have h1 : List.range (Q + 1) = (List.range (Q + 1)).take j ++ (List.range (Q + 1)).drop j := (List.take_append_drop j _).symm
        have h2 : (List.range (Q + 1)).drop j = j :: (List.range (Q + 1)).drop (j + 1) := by
          rw [List.drop_eq_getElem_cons (by simp; omega)]; simp
        rw [h2, List.take_range, show min j (Q + 1) = j by omega] at h1
        rw [← List.map_cons, ← List.map_append, ← h1]
      have hwj : wordJ s j = lowB (r.extract 0 8).data.toList := by
        unfold wordJ
        rw [if_pos (by rw [HQ.out]; exact hlt), ext_list, ← hr, rest_list]; simp
      have CN0 := number_any (r.extract 0 8) wr (by simp only [ByteArray.size_extract]; omega)
      obtain ⟨v, hv⟩ : ∃ v, lowB (r.extract 0 8).data.toList = v := ⟨_, rfl⟩
      rw [hv] at hwj CN0
      have CN := Lib.hid CN0
      clear hv CN0
      have hsn : (List.range (j + 1)).map (wordJ s) = (List.range j).map (wordJ s) ++ [v] := by rw [range_snoc, hwj]
      rw [hwj] at hsp
      obtain ⟨fn, tmps, assign, body, hy, hR⟩ := HY.out W.heap.size _ v _ wr hsp (Nat.le_refl _) hsz hJs
      have hrr : r.extract 8 r.size = s.extract (8 * (j + 1)) s.size := by rw [← hr, rest_rest, Nat.mul_add, Nat.mul_one]
      have Hrr := Lib.hid hrr
      have Hr := Lib.hid hr
      have Hrs := Lib.hid hrs
      have Hsn := Lib.hid hsn
      have Hsp := Lib.hid hsp
      clear hwj hsn hsp hr hrs hrr
      gi_wp2_with (gi_at_call 18; refine (callsIn_wide.2 CN.out).mono ?_; rintro e w' ⟨rfl, rfl⟩)
      refine hR.mono ?_
      rintro e W3 ⟨hk3, (⟨rfl, hJ3⟩ | ⟨rfl, hJx3⟩)⟩
      · gi_wp2
        go_roundw
        case rel => exact ⟨j + 1, by omega, by rw [Hrr.out], by rw [Hsn.out]; exact hJ3, Nat.le_trans hsz hk3.size, Hkp.out.trans (hk3.mono fun _ _ h => .inl h)⟩
        case measure => show (r.extract 8 r.size).size < r.size; rw [size_restS]; omega
      · gi_wp2
        refine bodyPost_ret (results_none rfl _ _ _) rfl ?_
        exact ⟨⟨_, rfl⟩, W.heap.size, Nat.le_refl _, Nat.le_trans hsz hk3.size, .inr ⟨_, v, _, Hsp.out, hJx3⟩⟩
    · obtain rfl : j = Q := by omega
      have hr8 : r.size < 8 := by omega
      have hr8' : r.size ≤ 8 := by omega
      have CN0 := number_any r wr.drew hr8'
      have hlt7 := lowB_lt7 (l := r.data.toList) (by rw [len_list]; omega)
      have hwj : wordJ s j = lowB r.data.toList + s.size % 256 * 72057594037927936 := by
        unfold wordJ
        rw [if_neg (by rw [HQ.out]; omega), ← hr, rest_list]
      have hl := lastW (lowB r.data.toList) s.size hlt7
      obtain ⟨v, hv⟩ : ∃ v, lowB r.data.toList = v := ⟨_, rfl⟩
      rw [hv] at hwj CN0 hl
      obtain ⟨x, hx⟩ : ∃ x, v + s.size % 256 * 72057594037927936 = x := ⟨_, rfl⟩
      rw [hx] at hl hwj
      have CN := Lib.hid CN0
      have hsp : wordsB s = (List.range j).map (wordJ s) ++ x :: [] := by rw [HWS.out, range_snoc, hwj]
      obtain ⟨fn, tmps, assign, body, hy, hR⟩ := HY.out W.heap.size _ x _ wr.drew hsp (Nat.le_refl _) hsz (HJ.out _ _ _ _ hJs ((Keeps.refl _ _).drew))
      have Hl := Lib.hid hl
      have Hsp := Lib.hid hsp
      clear hv hx hl hwj hsp CN0 hlt7 hr hrs
      gi_wp2_with fail
      refine wpIn_region_tail Wide.wide 8 (by kernel_rfl) (by kernel_rfl) ?_
      simp only [List.take_succ_cons, List.take_zero, List.drop_succ_cons, List.drop_zero]
      iterate 2 still_step
      still_call (CN.out.mono fun _ _ h => ⟨h.1, h.2.symm⟩)
      iterate 4 still_step
      refine wpStill_step (fun K hK => ?_)
      go_simp
      rw [Hl.out]
      refine hK _ ?_
      clear hK K
      refine wpStill_nil ?_
      gi_wp2_with fail
      refine hR.mono ?_
      rintro e W3 ⟨hk3, hor⟩
      have hk : Keeps (fun k => k = Bn ∨ W.heap.size ≤ k ∧ k < W.heap.size) wr W3 := ((Keeps.refl _ wr).drew).trans hk3
      have Hk := Lib.hid hk
      clear hk hk3 hR hy CN
      rcases hor with ⟨rfl, hJ3⟩ | ⟨rfl, hJx3⟩
      · gi_wp2
        go_end0
        exact ⟨⟨_, rfl⟩, W.heap.size, Nat.le_refl _, Nat.le_trans hsz Hk.out.size, .inl (by rw [Hsp.out]; exact hJ3)⟩
      · gi_wp2
        go_end0
        exact ⟨⟨_, rfl⟩, W.heap.size, Nat.le_refl _, Nat.le_trans hsz Hk.out.size, .inr ⟨_, x, [], Hsp.out, hJx3⟩⟩

set_option maxHeartbeats 400000 in
/-- words boxes the string; the function value captures the box. -/
theorem words_any (s : ByteArray) (w : World) :
    Calls Try.prog 23 #[.string s] w fun e w' => e = .returned (.func (.func 28) #[] #[.pointer (some ⟨w.heap.size, 0, none⟩)]) ∧ w' = w.alloc (.cells #[.string s] 9) := by
  go_enter Try.func23, Try.ntmps23
  go_wp2
  go_ret
  exact ⟨rfl, rfl⟩

theorem infoU64 : (Try.prog.info? 22).map (fun i => (i.zero, i.size, i.bytes)) = some (some (.int .u64 0), 1, 8) := by kernel_rfl
theorem ownsRow_monoU {w : World} {b b' size n : Nat} {e : TypeId} {v : Value} {xs : List Value} (h : w.ownsRow b' e size v n xs) (hb : b ≤ b') : w.ownsRow b e size v n xs := by
  refine ⟨h.1, ?_⟩
  rcases h.2 with hn | ⟨g, cap, cur, rfl, hg, rest⟩
  · exact .inl hn
  · exact .inr ⟨g, cap, cur, rfl, by omega, rest⟩

set_option maxRecDepth 100000 in
set_option maxHeartbeats 4000000 in
theorem AppendSeqU_any (gf : Nat) (lb : Array Value) (R : Nat → Prop) (xs : List Nat) (w0 w : World) (eg : ∀ args w, (callFunc gf args).run Try.prog w = .ok (.enter gf args) w)
    (hseq : ∀ n, SeqX Fence.wide n Try.prog gf lb (fun x : Nat => #[Value.int .u64 x]) xs R w0) (hb0 : Keeps R w0 w) (hR : ∀ k, R k → k < w.heap.size) (hlen : xs.length ≤ 4294967296) :
    Calls Try.prog 29 #[.slice none 0 0, .func (.func gf) #[] lb] w fun e w' => ∃ v, e = .returned v ∧ w'.ownsRow w.heap.size 22 1 v xs.length (encU xs) ∧ Ext w w' := by
  obtain ⟨i0, hi, hz0, hz1, hz2⟩ := info_parts infoU64
  refine (callsIn_wide (n := 9)).1 ?_
  refine callsIn_of_wp_marks Try.func29 rfl trivial ?_ rfl
  simp only [Try.ntmps29, List.size_toArray, List.length_cons, List.length_nil, Nat.reduceAdd, Nat.reduceSub, Array.replicate_succ, Array.replicate_zero, List.push_toArray, List.append_toArray, List.nil_append, List.cons_append]
  have Hseq := Lib.hid hseq; clear hseq
  have Hb0 := Lib.hid hb0; clear hb0
  gi_wp2_with fail
  have hB : Boxed (w.alloc (.cells #[.slice none 0 0] 32)) w.heap.size 32 (.slice none 0 0) := Boxed.new w 32 _
  have hK : Ext w (w.alloc (.cells #[.slice none 0 0] 32)) := (Ext.refl _).alloc _
  have hKR : Keeps R w0 (w.alloc (.cells #[.slice none 0 0] 32)) := Hb0.out.alloc _
  have hz : (w.alloc (.cells #[.slice none 0 0] 32)).heap.size = w.heap.size + 1 := by simp
  generalize w.alloc (.cells #[.slice none 0 0] 32) = w2 at hB hK hKR hz ⊢
  refine wpIn_rangeX rfl wide_room (gf := gf) (lb := lb) rfl trivial eg
    (Hseq.out _) hKR (fun k h => by have := hR k h; omega) (fun _ => rfl)
    (fun D pre A => ∃ v, Boxed A w.heap.size 32 v ∧ A.ownsRow D 22 1 v pre.length (encU pre) ∧ Keeps (fun k => k < w.heap.size) w A)
    (fun _ _ _ _ => False)
    (fun D pre A A' h k => by obtain ⟨v, h1, h2, h3⟩ := h; exact ⟨v, k.boxed h1 (by omega), k.ownsRow h2 (fun _ h => by omega), h3.trans (k.mono fun _ _ h => by omega)⟩)
    (fun _ _ _ _ _ h _ => h)
    (fun D W _ _ h => ⟨_, h.boxed hB (by omega), World.ownsRow_nil _ _ _ _, (hK.keeps.mono fun _ _ _ => trivial).trans (h.mono fun _ _ h => by omega)⟩)
    (fun _ x a' _ => a' = { tmps := #[.slice none 0 0, .func (.func gf) #[] lb, .pointer (some ⟨w.heap.size, 0, none⟩), undef, .slice none 0 0, .int .u64 (x : Nat), .func (.func gf) #[] lb, .int .u64 (x : Nat), undef, undef, undef, undef, undef], defers := [] })
    (fun _ _ _ _ _ h _ => h) ?assign ?body ?done ?stop
  case assign =>
    intro l D x W K _ hK
    gi_wp2
    exact hK _ _ (Keeps.refl _ _) (by simp)
  case body =>
    rintro l D pre x rest a' W hx hD hDW ⟨r, hr⟩ ⟨v, hb, hown, hk⟩ rfl
    have hown2 := hown.alloc (.cells #[.int .u64 (x : Nat)] 22)
    have hle : pre.length + 1 ≤ 4294967296 := by
      have : xs.length = pre.length + (rest.length + 1) := by rw [hx]; simp
      omega
    have hc := hb.cell
    have hf := hb.frozen
    have Hb := Lib.hid hb; clear hb
    have Hk := Lib.hid hk; clear hk
    have Hx := Lib.hid hx; clear hx
    have Hown := Lib.hid hown; clear hown
    have hDW2 : D ≤ (W.alloc (.cells #[.int .u64 (x : Nat)] 22)).heap.size := by simp; omega
    gi_wp2_with (gi_at_builtin; refine wpListIn_append_own _ rfl _ _ 32 rfl D 22 i0 (.int .u64 0) 1 8 Try.underlying32 hi hz0 hz1 hz2 rfl (by decide) _ _ _ rfl hown2 ⟨W.heap.size, 0, none⟩ 1 1 [.int .u64 (x : Nat)] rfl rfl ?c1 ?c2 ?c3 ?c4 ?c5 ?_)
    case c1 =>
      intro j u hj
      match j, hj with
      | 0, hj => simp at hj; subst hj; simp [Addr.add]
    case c2 => intro u hu; simp at hu; subst hu; rfl
    case c3 => unfold maxLen; omega
    case c4 => omega
    case c5 => exact hDW2
    intro v1 w3 hown' hgrow _
    obtain ⟨ao', cap', hv1⟩ := ownsRow_slice hown'
    subst hv1
    have hrow := hown2.lt
    have hk3 : ∀ K : Nat → Prop, (∀ k, K k → k < D) → Keeps K W w3 := fun K hK => ((Keeps.refl K W).alloc _).grown hgrow (fun k e h => by have := (hrow k e).1; have := hK k h; omega)
    have hb3 := (hk3 (fun k => k < D) (fun _ h => h)).boxed Hb.out (by omega)
    have hc3 := hb3.cell
    have hf3 := hb3.frozen
    have Hb3 := Lib.hid hb3
    have Hown' := Lib.hid hown'
    have Hk3 := Lib.hid hk3
    clear hb3 hown' hgrow hrow hown2 hk3 hc hf hDW2
    gi_wp2
    have hset : ∀ K : Nat → Prop, ¬ K w.heap.size → Keeps K w3 (w3.setCell ⟨w.heap.size, 0, none⟩ (Value.slice ao' (pre.length + 1) cap')) := fun K hK => (Keeps.refl K w3).setCell (p := ⟨w.heap.size, 0, none⟩) hK _
    have hr1 : ∀ k, (R k ∨ (w2.heap.size ≤ k ∧ k < D)) → k < D ∧ k ≠ w.heap.size := fun k h => h.elim (fun h => by have := hR k h; omega) (fun h => by omega)
    refine ⟨((Hk3.out _ (fun k h => (hr1 k h).1)).trans (hset _ (fun h => (hr1 _ h).2 rfl))), _, Hb3.out.set _, ?_, ?_⟩
    · have := (hset (fun k => k ≠ w.heap.size) (fun h => h rfl)).ownsRow Hown'.out (fun k h => by omega)
      rw [List.length_append, encU, List.map_append]
      exact this
    · exact Hk.out.trans ((Hk3.out (fun k => k < w.heap.size) (fun k h => by omega)).trans (hset _ (by omega)))
  case done =>
    rintro D W hD hDW ⟨v, hb, hown, hk⟩ hd
    have hc := hb.cell
    have Hb := Lib.hid hb; clear hb
    have Hk := Lib.hid hk; clear hk
    have Hd := Lib.hid hd; clear hd
    have Hown := Lib.hid hown; clear hown
    gi_wp2
    refine ⟨by simp, .inl ⟨_, _, rfl, run_takeDeferred Hd.out, ?_⟩⟩
    have hp : Keeps (fun k => k ≠ w2.heap.size) W (W.putObj w2.heap.size (.deferred none)) := (Keeps.refl _ W).putObj (by simp) _
    exact ⟨_, results_tmp rfl _ _ _, v, rfl, ownsRow_monoU (hp.ownsRow Hown.out (fun _ h => by omega)) (by omega), (Hk.out.putObj (by omega) _).ext (fun _ h => h)⟩
  case stop =>
    rintro c D pre x rest W _ _ _ h
    exact h.elim

set_option maxRecDepth 100000 in
set_option maxHeartbeats 1000000 in
theorem CollectU_any (gf : Nat) (lb : Array Value) (R : Nat → Prop) (xs : List Nat) (w0 w : World) (eg : ∀ args w, (callFunc gf args).run Try.prog w = .ok (.enter gf args) w)
    (hseq : ∀ n, SeqX Fence.wide n Try.prog gf lb (fun x : Nat => #[Value.int .u64 x]) xs R w0) (hb0 : Keeps R w0 w) (hR : ∀ k, R k → k < w.heap.size) (hlen : xs.length ≤ 4294967296) :
    Calls Try.prog 24 #[.func (.func gf) #[] lb] w fun e w' => ∃ v, e = .returned v ∧ w'.ownsRow w.heap.size 22 1 v xs.length (encU xs) ∧ Ext w w' := by
  have CA := Lib.hid (AppendSeqU_any gf lb R xs w0 w eg hseq hb0 hR hlen)
  clear eg hseq hb0 hR
  go_enter Try.func24, Try.ntmps24
  go_wp2_with fail
  refine CA.out.mono ?_
  rintro e w2 ⟨v, rfl, hown, hx⟩
  have Hown := Lib.hid hown; clear hown
  have HX := Lib.hid hx; clear hx
  go_wp2
  go_ret
  exact ⟨_, rfl, Hown.out, HX.out⟩



theorem wordsB_len (s : ByteArray) (h : s.size ≤ 65536) : (wordsB s).length ≤ 4294967296 := by rw [wordsB_length]; omega
set_option maxRecDepth 100000 in
set_option maxHeartbeats 1000000 in
theorem Words_any (s : ByteArray) (w : World) (hs : s.size ≤ 65536) :
    Calls Try.prog 16 #[.string s] w fun e w' => ∃ v, e = .returned v ∧ w'.ownsRow w.heap.size 22 1 v (wordsB s).length (encU (wordsB s)) ∧ Ext w w' := by
  have hN : Boxed (w.alloc (.cells #[.string s] 9)) w.heap.size 9 (.string s) := Boxed.new w _ _
  have CC := Lib.hid (CollectU_any 28 #[.pointer (some ⟨w.heap.size, 0, none⟩)] (fun k => k = w.heap.size) (wordsB s) (w.alloc (.cells #[.string s] 9)) (w.alloc (.cells #[.string s] 9))
    (enters_of Try.func28 (by kernel_rfl) rfl) (fun n => words1_seq n _ s _ hN.cell) (Keeps.refl _ _) (fun k h => by subst h; simp) (wordsB_len s hs))
  have hx0 : Ext w (w.alloc (.cells #[.string s] 9)) := (Ext.refl w).alloc _
  have HX0 := Lib.hid hx0
  clear hN hx0
  go_enter Try.func16, Try.ntmps16
  go_wp2_with ((with_reducible refine (words_any _ _).mono ?_); rintro e w' ⟨rfl, rfl⟩)
  refine CC.out.mono ?_
  rintro e w2 ⟨v, rfl, hown, hx⟩
  have Hown := Lib.hid hown; clear hown
  have HX := Lib.hid hx; clear hx
  go_wp2
  go_ret
  exact ⟨_, rfl, ownsRow_monoU Hown.out (by simp), HX0.out.trans HX.out⟩
end Go.Proofs.Ytolaiiiabacfcaa
