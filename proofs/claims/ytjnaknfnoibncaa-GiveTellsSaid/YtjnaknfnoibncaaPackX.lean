/- Several texts in one (PackJ PackK PackL PackN PackO PackP Lives3 Math7 Math8 Math9 Append). Conditions: each says its own. -/
import Derived.Test.YtjnaknfnoibncaaPackM
import Derived.Lib.AppendStr
import Derived.Test.YtjnaknfnoibncaaRefM
import Derived.Test.YtjnaknfnoibncaaBaseM

/- What pack's writer does: Raw. Conditions: a writer that New made; texts of a bound. -/
namespace Go.Proofs.Ytjnaknfnoibncaa
open Go Go.RowKit Go.Shelf
attribute [local go_sem] Oper.semAt_some wide_fn wide_depth

/-- An append whose run is known, at the operation. -/
theorem wpList_append_run {P : Program} {w : World} {ops : Array Oper} {rest : List Oper} {o : Oper} {a : Act} {Q : Exit → Act → World → Prop} (hg : o.guard = none) (sl x : Operand) (t u : TypeId)
    (ho : o.op = .call { callee := .builtin .append, args := #[sl, x], argTypes := #[t, u] }) {v xv v' : Value} {w' : World} (hs : a.eval sl = v) (hx : a.eval x = xv)
    (hr : (Builtin.append_ #[t, u] o.type #[v, xv]).run P w = .ok v' w') (h : wpList P ops Q rest (a.put o.dst v') w') : wpList P ops Q (o :: rest) a w := by
  refine wpList_plain hg fun K hK => ?_
  unfold Oper.wp
  simp [execOp, ho, resolve, invoke, builtin, hs, hx, hr, Result.andThen]
  exact hK _ _ h

/-- Where what was appended lies: where it lay, or anew. -/
theorem append_bytes (w : World) (v : Value) (n : Nat) (xs : List Value) (hown : w.ownsRow 0 5 1 v n xs) (s : ByteArray) (hb : n + s.size ≤ 140737488355328) :
    ∃ v' w', (Builtin.append_ #[93, 9] 93 #[v, .string s]).run Try.prog w = .ok v' w' ∧ w'.ownsRow 0 5 1 v' (n + s.size) (xs ++ Lib.strCells s) ∧ w.grownBy w' v.ownBlock ∧
      (v'.ownBlock = v.ownBlock ∨ ∀ k, v'.ownBlock = some k → w.heap.size ≤ k) := by
  obtain ⟨i0, hi, hz0, hz1, hz2⟩ := info_parts infoByte
  obtain ⟨v', w', h1, h2, h3, _⟩ := Lib.run_append_own_string (P := Try.prog) w 0 93 9 93 5 i0 Try.underlying93 Try.underlying9 hi hz0 hz1 hz2 v n xs hown s (by unfold maxLen; omega) hb (Nat.zero_le _)
  refine ⟨v', w', h1, h2, h3, ?_⟩
  rcases hown.2 with ⟨rfl, rfl⟩ | ⟨g, cap, cur, rfl, hbg, hg, hnc, hcm, hcs, htake⟩
  · right
    obtain ⟨v2, w2, g1, g2, _, _⟩ := Lib.run_append_own_string (P := Try.prog) w w.heap.size 93 9 93 5 i0 Try.underlying93 Try.underlying9 hi hz0 hz1 hz2 (.slice none 0 0) 0 [] (World.ownsRow_nil _ _ _ _) s (by unfold maxLen; omega) hb (Nat.le_refl _)
    rw [h1] at g1
    cases g1
    exact fun k hk => (g2.lt k hk).1
  · by_cases hroom : n + s.size ≤ cap
    · left
      have hr := Lib.run_append_room_string (P := Try.prog) w 93 9 93 5 i0 Try.underlying93 Try.underlying9 hi hz1 g n cap cur hg s hroom (by simp at hcs; omega)
      rw [h1] at hr
      cases hr
      rfl
    · right
      have hxl : xs.length = n := by simpa using hown.1
      have holds : ∀ j u, xs[j]? = some u → w.cell? ((⟨g, 0, none⟩ : Addr).add j) = some u := hown.cells (g := g) rfl
      have hr := Lib.run_append_grow_string (P := Try.prog) w 93 9 93 5 i0 (.int .u8 0) Try.underlying93 Try.underlying9 hi hz0 ⟨g, 0, none⟩ n cap xs (by rw [hz1]; simpa using hxl) holds s (by omega) (by omega) (by rw [hz2]; exact growslice_fits (by omega) (by omega))
      rw [h1] at hr
      cases hr
      intro k hk
      simp only [Value.ownBlock, Option.some.injEq] at hk
      omega

theorem WrIs.ext {W W' : World} {B mb : Nat} {bv : Value} {G : Nat → Prop} {q : Wr} (h : WrIs W B mb bv G q) (k : Ext W W') : WrIs W' B mb bv G q := h.keep k.keeps trivial trivial fun _ _ => trivial
theorem WrIs.turn {W W' : World} {B mb : Nat} {bv : Value} {G : Nat → Prop} {q q' : Wr} (h : WrIs W B mb bv G q) (k : Keeps (fun j => j ≠ B) W W')
    (hb : W'.heap[B]? = some (.cells #[bv, .int .i64 q'.limit, .bool q'.full, .map (some mb)] 98 (0, 0))) (e1 : q'.bytes = q.bytes) (e2 : q'.rests = q.rests) : WrIs W' B mb bv G q' := by
  refine ⟨hb, ?_, ?_, h.mbB, h.bvB, h.bvm, fun j hj => ?_⟩
  · rw [e1]
    refine ⟨h.own.1, ?_⟩
    rcases h.own.2 with hn | ⟨g, cap, cur, rfl, hb', hgg, rest⟩
    · exact .inl hn
    · exact .inr ⟨g, cap, cur, rfl, hb', k.heap hgg (fun e => h.bvB (by rw [e]; rfl)), rest⟩
  · rw [e2]; exact h.map.keep k h.mbB
  · have := h.out j hj
    exact ⟨Nat.lt_of_lt_of_le this.1 k.size, this.2⟩
theorem WrIs.appended {w w1 : World} {B mb : Nat} {bv : Value} {G : Nat → Prop} {bs : List UInt8} {limit : Int} {full : Bool} {rests : List (List UInt8 × Nat)} (h : WrIs w B mb bv G ⟨bs, limit, full, rests⟩)
    (hg : w.grownBy w1 bv.ownBlock) (l : List UInt8) (v' : Value) (hown : w1.ownsRow 0 5 1 v' (bs ++ l).length (Lib.byteCells (bs ++ l))) (hw : v'.ownBlock = bv.ownBlock ∨ ∀ k, v'.ownBlock = some k → w.heap.size ≤ k) :
    WrIs (w1.setCell ⟨B, 0, none⟩ v') B mb v' G ⟨bs ++ l, limit, full, rests⟩ ∧ Keeps G w (w1.setCell ⟨B, 0, none⟩ v') := by
  obtain ⟨l1, l2, l3⟩ := h.lt
  have hne : ∀ j, j < w.heap.size → bv.ownBlock ≠ some j → v'.ownBlock ≠ some j := fun j hj hb e => by
    rcases hw with hw | hw
    · exact hb (hw ▸ e)
    · have := hw j e; omega
  have hB1 : w1.heap[B]? = some (.cells #[bv, .int .i64 limit, .bool full, .map (some mb)] 98 (0, 0)) := (hg.block B l1 (fun e => h.bvB e.symm)).trans h.blk
  have hk : Keeps (fun j => j ≠ B ∧ bv.ownBlock ≠ some j) w (w1.setCell ⟨B, 0, none⟩ v') := ((Keeps.refl _ w).grown hg (fun k e hk => hk.2 e)).setCell (p := ⟨B, 0, none⟩) (fun h => h.1 rfl) _
  refine ⟨⟨heap_setCell_same _ _ _ _ _ _ hB1, ?_, h.map.keep hk ⟨h.mbB, h.bvm⟩, h.mbB, hne B l1 h.bvB, hne mb l2 h.bvm, fun j hj => ?_⟩, hk.mono fun j _ hj => ⟨(h.out j hj).2.1, (h.out j hj).2.2.2⟩⟩
  · exact ownsRow_setCell_other hown (a := ⟨B, 0, none⟩) (hne B l1 h.bvB) _
  · obtain ⟨o1, o2, o3, o4⟩ := h.out j hj
    exact ⟨Nat.lt_of_lt_of_le o1 hk.size, o2, o3, hne j o1 o4⟩

/-- What Raw leaves. -/
def rawW (q : Wr) (s : ByteArray) : Wr :=
  if s.size = 0 ∨ q.full = true then q else if q.limit < ((q.bytes.length + s.size : Nat) : Int) then { q with full := true } else { q with bytes := q.bytes ++ bl s }
theorem rawW_ok {q : Wr} (h : q.ok) (s : ByteArray) : (rawW q s).ok := by
  obtain ⟨h1, h2, h3, h4⟩ := h
  unfold rawW
  split
  · exact ⟨h1, h2, h3, h4⟩
  · split
    · exact ⟨h1, h2, h3, h4⟩
    · next hc =>
      have h5 := h4.1
      refine ⟨?_, h2, h3, ?_, h4.2⟩
      · show (q.bytes ++ bl s).length ≤ _
        rw [List.length_append, bl_size]
        omega
      · show q.rests.length ≤ (q.bytes ++ bl s).length
        rw [List.length_append]; omega

set_option maxRecDepth 100000 in
set_option maxHeartbeats 2000000 in
theorem WRaw_any (B : Nat) (G : Nat → Prop) (q : Wr) (s : ByteArray) (w : World) (h : WrAt w B G q) (hq : q.ok) (hs : s.size ≤ 4611686018427387904) :
    Calls Try.prog 40 #[.pointer (some ⟨B, 0, none⟩), .string s] w fun e w' => (∃ v, e = .returned v) ∧ WrAt w' B G (rawW q s) ∧ Keeps G w w' := by
  obtain ⟨mb, bv, h⟩ := h
  obtain ⟨c0, c1, c2, c3, f0, f2⟩ := h.cells
  obtain ⟨h1, h2, h3, _⟩ := hq
  have H := Lib.hid h
  have hr : rawW q s = if s.size = 0 ∨ q.full = true then q else if q.limit < ((q.bytes.length + s.size : Nat) : Int) then { q with full := true } else { q with bytes := q.bytes ++ bl s } := rfl
  have Hr := Lib.hid hr; clear hr
  by_cases hs0 : s.size = 0
  · obtain rfl : s = ⟨#[]⟩ := bl_inj (List.eq_nil_of_length_eq_zero hs0)
    have HR : Hid (rawW q ⟨#[]⟩ = q) := Lib.hid (by rw [Hr.out, if_pos (.inl hs0)])
    clear h c0 c1 c2 c3 f0 f2 hs0
    go_enter Try.func40, Try.ntmps40
    go_wp2
    refine bodyPost_ret (results_none rfl _ _ _) rfl ?_
    exact ⟨⟨_, rfl⟩, by rw [HR.out]; exact ⟨mb, bv, H.out⟩, Keeps.refl _ _⟩
  · have hne : s.toList.isEmpty = false := by
      rw [toList_bl]
      cases hb : bl s with
      | nil => rw [← bl_size, hb] at hs0; exact absurd rfl hs0
      | cons x y => rfl
    obtain ⟨bs, limit, full, rests⟩ := q
    simp only at c0 c1 c2 c3 h1 h2 h3
    cases full with
    | true =>
      have HR : Hid (rawW ⟨bs, limit, true, rests⟩ s = ⟨bs, limit, true, rests⟩) := Lib.hid (by rw [Hr.out, if_pos (.inr rfl)])
      clear h
      go_enter Try.func40, Try.ntmps40
      go_wp2
      refine bodyPost_ret (results_none rfl _ _ _) rfl ?_
      exact ⟨⟨_, rfl⟩, by rw [HR.out]; exact ⟨mb, bv, H.out⟩, Keeps.refl _ _⟩
    | false =>
      have hmx : Try.prog.follows .mixedOrders = true := by kernel_rfl
      obtain ⟨ao, cap, rfl⟩ := ownsRow_slice h.own
      obtain ⟨n, hn⟩ : ∃ n, bs.length = n := ⟨_, rfl⟩
      have q1 : IntKind.i64.wrap ((n : Int) + s.size) = (n : Int) + s.size := IntWalk.i64_in _ (by omega)
      simp only [hn] at c0
      by_cases hlim : limit < (n : Int) + s.size
      · have HR : Hid (rawW ⟨bs, limit, false, rests⟩ s = ⟨bs, limit, true, rests⟩) := Lib.hid (by rw [Hr.out, if_neg (by simp [hs0]), if_pos (by simp only [hn]; omega)])
        clear h
        go_enter Try.func40, Try.ntmps40
        go_wp2_with fail
        go_still hmx
        change Exit.then _ _ Exit.normal _ w.drew
        clear q1 c0 c1
        go_wp2
        refine bodyPost_ret (results_none rfl _ _ _) rfl ?_
        refine ⟨⟨_, rfl⟩, ?_, ((Keeps.refl G w).drew).setCell (p := ⟨B, 2, none⟩) (fun hg => (H.out.out B hg).2.1 rfl) _⟩
        rw [HR.out]
        exact ⟨mb, .slice ao n cap, (show WrIs w.drew B mb (.slice ao n cap) G ⟨bs, limit, false, rests⟩ by have := H.out; rw [hn] at this; exact this.ext (Ext.refl _).drew).turn (((Keeps.refl _ w.drew).setCell (p := ⟨B, 2, none⟩) (by simp) _)) (heap_setCell_same _ _ _ _ _ _ (by have := H.out.blk; rw [hn] at this; exact this)) rfl rfl⟩
      · have HR : Hid (rawW ⟨bs, limit, false, rests⟩ s = ⟨bs ++ bl s, limit, false, rests⟩) := Lib.hid (by rw [Hr.out, if_neg (by simp [hs0]), if_neg (by simp only [hn]; omega)])
        have hown := h.own
        simp only [hn] at hown H
        obtain ⟨v', w1, hap, hown1, hgr, hwh⟩ := append_bytes w.drew (.slice ao n cap) n (Lib.byteCells bs) hown s (by omega)
        obtain ⟨ao', cap', rfl⟩ := ownsRow_slice hown1
        have hgr' : w.grownBy w1 (Value.ownBlock (.slice ao n cap)) := ⟨hgr.os, hgr.tape, hgr.output, hgr.size, hgr.block⟩
        have hpost := H.out.appended hgr' (bl s) (.slice ao' (n + s.size) cap') (by rw [Lib.byteCells_append, List.length_append, hn, bl_size]; exact hown1) hwh
        have HP := Lib.hid hpost
        have hB := (Array.getElem?_eq_some_iff.1 H.out.blk).1
        have f0' : w1.frozen? ⟨B, 0, none⟩ = false := by
          rw [World.frozen?_of_block (hgr'.block B hB (fun e => H.out.bvB e.symm))]; exact f0
        have c0' : w1.cell? ⟨B, 0, none⟩ = some (.slice ao n cap) := by
          rw [World.cell?_of_block (hgr'.block B hB (fun e => H.out.bvB e.symm))]; exact c0
        clear h hpost hgr hgr' hwh hown hown1
        go_enter Try.func40, Try.ntmps40
        go_wp2_with fail
        go_still hmx
        change Exit.then _ _ Exit.normal _ w.drew
        clear q1
        have Hap := Lib.hid hap; clear hap
        go_wp2_with (at_builtin; refine wpList_append_run rfl _ _ 93 9 rfl rfl rfl Hap.out ?_)
        go_end0
        rw [HR.out]
        exact ⟨⟨_, rfl⟩, ⟨mb, _, HP.out.1⟩, HP.out.2⟩

end Go.Proofs.Ytjnaknfnoibncaa

/- What pack's writer does with numbers: Num. Conditions: a writer that New made. -/
namespace Go.Proofs.Ytjnaknfnoibncaa
open Go Go.RowKit Go.Shelf
attribute [local go_sem] Oper.semAt_some wide_fn wide_depth

/-- A number's eight bytes, and its lowest. -/
def nb8 (n : Nat) : List UInt8 := [byB n 7, byB n 6, byB n 5, byB n 4, byB n 3, byB n 2, byB n 1, byB n 0]
def nbs (n k : Nat) : List UInt8 := (nb8 n).drop (8 - k)
theorem num8_nb (n : Nat) : num8 n = ((nb8 n).map enc8).toArray := rfl
theorem nbs_length (n k : Nat) (hk : k ≤ 8) : (nbs n k).length = k := by
  unfold nbs; rw [List.length_drop]; show 8 - (8 - k) = k; omega
theorem nbs_back (W : World) (A n k : Nat) (hk : k ≤ 8) (h : W.heap[A]? = some (.cells (num8 n) 100 (0, 0))) :
    (convert 93 9 (.slice (some ⟨A, 8 - k, none⟩) k k)).run Try.prog W = .ok (.string ⟨(nbs n k).toArray⟩) W := by
  have := run_convert_bytes_back W 93 9 5 ⟨A, 8 - k, none⟩ k (nbs n k) Try.underlying93 Try.underlying5 Try.underlying9 (fun j hj => by
    have hj' : j < k := by rwa [nbs_length n k hk] at hj
    have hp : (⟨A, 8 - k, none⟩ : Addr).add j = ⟨A, 8 - k + j, none⟩ := by unfold Addr.add; split <;> simp_all
    rw [hp, cell_of_row W A _ _ _ _ h, num8_nb]
    have hl : 8 - k + j < (nb8 n).length := by show 8 - k + j < 8; omega
    simp only [List.getElem?_toArray, List.getElem?_map, List.getElem?_eq_getElem hl, Option.map_some]
    have e : (nbs n k)[j]? = some ((nb8 n)[8 - k + j]'hl) := by unfold nbs; rw [List.getElem?_drop, List.getElem?_eq_getElem hl]
    obtain ⟨_, e2⟩ := List.getElem?_eq_some_iff.1 e
    rw [e2]
    rfl)
  rwa [nbs_length n k hk] at this

set_option maxRecDepth 100000 in
set_option maxHeartbeats 4000000 in
theorem WNum_any (B : Nat) (G : Nat → Prop) (q : Wr) (k n : Nat) (w : World) (h : WrAt w B G q) (hq : q.ok) (hk : k = 1 ∨ k = 2 ∨ k = 4 ∨ k = 8) (hn : n < 18446744073709551616) :
    Calls Try.prog 41 #[.pointer (some ⟨B, 0, none⟩), .int .i64 k, .int .u64 (n : Int)] w fun e w' => (∃ v, e = .returned v) ∧ WrAt w' B G (rawW q ⟨(nbs n k).toArray⟩) ∧ Keeps G w w' := by
  have hwd : widthB (k : Int) = true := by unfold widthB; exact decide_eq_true (by omega)
  have CW := Lib.hid fun W => isWidth_any (k : Int) W
  rw [hwd] at CW
  have CN := Lib.hid fun W => numberOf_any n W hn
  have hG : ∀ j, G j → j < w.heap.size := by
    obtain ⟨mb, bv, h⟩ := h
    exact fun j hj => (h.out j hj).1
  have hsz : (⟨(nbs n k).toArray⟩ : ByteArray).size = k := by show (nbs n k).toArray.size = k; rw [List.size_toArray]; exact nbs_length n k (by omega)
  have CR := Lib.hid fun W (h : WrAt W B G q) => WRaw_any B G q ⟨(nbs n k).toArray⟩ W h hq (by omega)
  have HB := Lib.hid fun W A h => nbs_back W A n k (by omega) h
  have H := Lib.hid h
  have HG := Lib.hid hG
  clear h hwd hG hsz
  obtain ⟨t, ht⟩ : ∃ t : ByteArray, (⟨(nbs n k).toArray⟩ : ByteArray) = t := ⟨_, rfl⟩
  rw [ht] at CR HB
  rw [ht]
  clear ht
  rcases hk with rfl | rfl | rfl | rfl
  · rw [show (((1 : Nat) : Int)) = 1 from rfl] at CW ⊢
    go_enter Try.func41, Try.ntmps41
    go_wp2_with fail
    refine (CW.out _).mono ?_
    rintro e w1 ⟨rfl, rfl⟩
    go_wp2_with fail
    refine (CN.out _).mono ?_
    rintro e w1 ⟨rfl, hx1⟩
    have HX1 := Lib.hid hx1; clear hx1
    have hA := World.alloc_heap_new w1 (.cells #[.int .u8 0, .int .u8 0, .int .u8 0, .int .u8 0, .int .u8 0, .int .u8 0, .int .u8 0, .int .u8 0] 100)
    have HA := Lib.hid hA; clear hA
    have hb : (convert 93 9 (.slice (some ⟨w1.heap.size, 7, none⟩) 1 1)).run Try.prog ((w1.alloc (.cells #[.int .u8 0, .int .u8 0, .int .u8 0, .int .u8 0, .int .u8 0, .int .u8 0, .int .u8 0, .int .u8 0] 100)).setRow w1.heap.size (num8 n)) = .ok (.string t) _ :=
      HB.out _ w1.heap.size (setRow_heap _ _ _ _ _ _ HA.out)
    have HX2 : Hid (Ext w ((w1.alloc (.cells #[.int .u8 0, .int .u8 0, .int .u8 0, .int .u8 0, .int .u8 0, .int .u8 0, .int .u8 0, .int .u8 0] 100)).setRow w1.heap.size (num8 n))) :=
      Lib.hid (HX1.out.trans ((((Keeps.refl (fun j => j < w1.heap.size) w1).alloc _).setRow (by omega) _).ext fun _ h => h))
    go_wp2_with (first
      | (refine wpList_store_row rfl _ _ _ rfl w1.heap.size (num8 n) rfl rfl _ _ HA.out (by kernel_rfl) rfl (by kernel_rfl) ?_))
    refine (CR.out _ (H.out.ext HX2.out)).mono ?_
    rintro e w4 ⟨⟨v, rfl⟩, hw4, hk4⟩
    have HP := Lib.hid (And.intro hw4 ((HX2.out.keeps.mono fun _ _ _ => trivial).trans hk4)); clear hw4 hk4
    clear hb
    go_wp2
    go_end0
    exact ⟨⟨_, rfl⟩, HP.out.1, HP.out.2⟩
  · rw [show (((2 : Nat) : Int)) = 2 from rfl] at CW ⊢
    go_enter Try.func41, Try.ntmps41
    go_wp2_with fail
    refine (CW.out _).mono ?_
    rintro e w1 ⟨rfl, rfl⟩
    go_wp2_with fail
    refine (CN.out _).mono ?_
    rintro e w1 ⟨rfl, hx1⟩
    have HX1 := Lib.hid hx1; clear hx1
    have hA := World.alloc_heap_new w1 (.cells #[.int .u8 0, .int .u8 0, .int .u8 0, .int .u8 0, .int .u8 0, .int .u8 0, .int .u8 0, .int .u8 0] 100)
    have HA := Lib.hid hA; clear hA
    have hb : (convert 93 9 (.slice (some ⟨w1.heap.size, 6, none⟩) 2 2)).run Try.prog ((w1.alloc (.cells #[.int .u8 0, .int .u8 0, .int .u8 0, .int .u8 0, .int .u8 0, .int .u8 0, .int .u8 0, .int .u8 0] 100)).setRow w1.heap.size (num8 n)) = .ok (.string t) _ :=
      HB.out _ w1.heap.size (setRow_heap _ _ _ _ _ _ HA.out)
    have HX2 : Hid (Ext w ((w1.alloc (.cells #[.int .u8 0, .int .u8 0, .int .u8 0, .int .u8 0, .int .u8 0, .int .u8 0, .int .u8 0, .int .u8 0] 100)).setRow w1.heap.size (num8 n))) :=
      Lib.hid (HX1.out.trans ((((Keeps.refl (fun j => j < w1.heap.size) w1).alloc _).setRow (by omega) _).ext fun _ h => h))
    go_wp2_with (first
      | (refine wpList_store_row rfl _ _ _ rfl w1.heap.size (num8 n) rfl rfl _ _ HA.out (by kernel_rfl) rfl (by kernel_rfl) ?_))
    refine (CR.out _ (H.out.ext HX2.out)).mono ?_
    rintro e w4 ⟨⟨v, rfl⟩, hw4, hk4⟩
    have HP := Lib.hid (And.intro hw4 ((HX2.out.keeps.mono fun _ _ _ => trivial).trans hk4)); clear hw4 hk4
    clear hb
    go_wp2
    go_end0
    exact ⟨⟨_, rfl⟩, HP.out.1, HP.out.2⟩
  · rw [show (((4 : Nat) : Int)) = 4 from rfl] at CW ⊢
    go_enter Try.func41, Try.ntmps41
    go_wp2_with fail
    refine (CW.out _).mono ?_
    rintro e w1 ⟨rfl, rfl⟩
    go_wp2_with fail
    refine (CN.out _).mono ?_
    rintro e w1 ⟨rfl, hx1⟩
    have HX1 := Lib.hid hx1; clear hx1
    have hA := World.alloc_heap_new w1 (.cells #[.int .u8 0, .int .u8 0, .int .u8 0, .int .u8 0, .int .u8 0, .int .u8 0, .int .u8 0, .int .u8 0] 100)
    have HA := Lib.hid hA; clear hA
    have hb : (convert 93 9 (.slice (some ⟨w1.heap.size, 4, none⟩) 4 4)).run Try.prog ((w1.alloc (.cells #[.int .u8 0, .int .u8 0, .int .u8 0, .int .u8 0, .int .u8 0, .int .u8 0, .int .u8 0, .int .u8 0] 100)).setRow w1.heap.size (num8 n)) = .ok (.string t) _ :=
      HB.out _ w1.heap.size (setRow_heap _ _ _ _ _ _ HA.out)
    have HX2 : Hid (Ext w ((w1.alloc (.cells #[.int .u8 0, .int .u8 0, .int .u8 0, .int .u8 0, .int .u8 0, .int .u8 0, .int .u8 0, .int .u8 0] 100)).setRow w1.heap.size (num8 n))) :=
      Lib.hid (HX1.out.trans ((((Keeps.refl (fun j => j < w1.heap.size) w1).alloc _).setRow (by omega) _).ext fun _ h => h))
    go_wp2_with (first
      | (refine wpList_store_row rfl _ _ _ rfl w1.heap.size (num8 n) rfl rfl _ _ HA.out (by kernel_rfl) rfl (by kernel_rfl) ?_))
    refine (CR.out _ (H.out.ext HX2.out)).mono ?_
    rintro e w4 ⟨⟨v, rfl⟩, hw4, hk4⟩
    have HP := Lib.hid (And.intro hw4 ((HX2.out.keeps.mono fun _ _ _ => trivial).trans hk4)); clear hw4 hk4
    clear hb
    go_wp2
    go_end0
    exact ⟨⟨_, rfl⟩, HP.out.1, HP.out.2⟩
  · rw [show (((8 : Nat) : Int)) = 8 from rfl] at CW ⊢
    go_enter Try.func41, Try.ntmps41
    go_wp2_with fail
    refine (CW.out _).mono ?_
    rintro e w1 ⟨rfl, rfl⟩
    go_wp2_with fail
    refine (CN.out _).mono ?_
    rintro e w1 ⟨rfl, hx1⟩
    have HX1 := Lib.hid hx1; clear hx1
    have hA := World.alloc_heap_new w1 (.cells #[.int .u8 0, .int .u8 0, .int .u8 0, .int .u8 0, .int .u8 0, .int .u8 0, .int .u8 0, .int .u8 0] 100)
    have HA := Lib.hid hA; clear hA
    have hb : (convert 93 9 (.slice (some ⟨w1.heap.size, 0, none⟩) 8 8)).run Try.prog ((w1.alloc (.cells #[.int .u8 0, .int .u8 0, .int .u8 0, .int .u8 0, .int .u8 0, .int .u8 0, .int .u8 0, .int .u8 0] 100)).setRow w1.heap.size (num8 n)) = .ok (.string t) _ :=
      HB.out _ w1.heap.size (setRow_heap _ _ _ _ _ _ HA.out)
    have HX2 : Hid (Ext w ((w1.alloc (.cells #[.int .u8 0, .int .u8 0, .int .u8 0, .int .u8 0, .int .u8 0, .int .u8 0, .int .u8 0, .int .u8 0] 100)).setRow w1.heap.size (num8 n))) :=
      Lib.hid (HX1.out.trans ((((Keeps.refl (fun j => j < w1.heap.size) w1).alloc _).setRow (by omega) _).ext fun _ h => h))
    go_wp2_with (first
      | (refine wpList_store_row rfl _ _ _ rfl w1.heap.size (num8 n) rfl rfl _ _ HA.out (by kernel_rfl) rfl (by kernel_rfl) ?_))
    refine (CR.out _ (H.out.ext HX2.out)).mono ?_
    rintro e w4 ⟨⟨v, rfl⟩, hw4, hk4⟩
    have HP := Lib.hid (And.intro hw4 ((HX2.out.keeps.mono fun _ _ _ => trivial).trans hk4)); clear hw4 hk4
    clear hb
    go_wp2
    go_end0
    exact ⟨⟨_, rfl⟩, HP.out.1, HP.out.2⟩

end Go.Proofs.Ytjnaknfnoibncaa

/- What pack's writer does with a name's rest: start. Conditions: a writer that New made. -/
namespace Go.Proofs.Ytjnaknfnoibncaa
open Go Go.RowKit Go.Shelf
attribute [local go_sem] Oper.semAt_some wide_fn wide_depth

/-- What start leaves. -/
def startW (q : Wr) (rest first : ByteArray) : Wr :=
  if (q.rests.lookup (bl rest)).isSome = false ∧ (rawW q first).full = false ∧ q.bytes.length < 16384 then { rawW q first with rests := (bl rest, q.bytes.length) :: q.rests } else rawW q first
theorem rawW_rests (q : Wr) (s : ByteArray) : (rawW q s).rests = q.rests := by
  unfold rawW; split
  · rfl
  · split <;> rfl
theorem rawW_limit (q : Wr) (s : ByteArray) : (rawW q s).limit = q.limit := by
  unfold rawW; split
  · rfl
  · split <;> rfl
theorem rawW_bytes {q : Wr} {s : ByteArray} (hs : 1 ≤ s.size) (hf : (rawW q s).full = false) : rawW q s = { q with bytes := q.bytes ++ bl s } ∧ q.full = false := by
  unfold rawW at hf ⊢
  split
  · next h =>
    rw [if_pos h] at hf
    rcases h with h | h
    · omega
    · rw [h] at hf; cases hf
  · next h =>
    rw [if_neg h] at hf
    split
    · next h2 => rw [if_pos h2] at hf; cases hf
    · next h2 =>
      refine ⟨rfl, ?_⟩
      cases hq : q.full with
      | false => rfl
      | true => exact absurd (.inr hq) h
theorem startW_ok {q : Wr} (h : q.ok) (rest first : ByteArray) (h1 : 1 ≤ first.size) : (startW q rest first).ok := by
  have hr := rawW_ok h first
  unfold startW
  split
  · next hc =>
    obtain ⟨e, _⟩ := rawW_bytes h1 hc.2.1
    obtain ⟨a1, a2, a3, a4⟩ := hr
    refine ⟨a1, a2, a3, ?_, ?_⟩
    · show q.rests.length + 1 ≤ (rawW q first).bytes.length
      rw [e]
      show q.rests.length + 1 ≤ (q.bytes ++ bl first).length
      rw [List.length_append, bl_size]
      have := h.2.2.2.1
      omega
    · intro p hp
      rcases List.mem_cons.1 hp with rfl | hp
      · exact hc.2.2
      · exact h.2.2.2.2 p hp
  · exact hr

theorem WrIs.noted {w w1 : World} {B mb : Nat} {bv : Value} {G : Nat → Prop} {q : Wr} (h : WrIs w B mb bv G q) (hg : w.grownBy w1 (some mb)) (l : List (List UInt8 × Nat)) (hm : MapIs w1 mb l) :
    WrIs w1 B mb bv G { q with rests := l } ∧ Keeps G w w1 := by
  have hk : Keeps (fun j => j ≠ mb) w w1 := (Keeps.refl _ w).grown hg (fun k e hk => hk (by cases e; rfl))
  refine ⟨⟨hk.heap h.blk (fun e => h.mbB e.symm), ?_, hm, h.mbB, h.bvB, h.bvm, fun j hj => ?_⟩, hk.mono fun j _ hj => (h.out j hj).2.2.1⟩
  · refine ⟨h.own.1, ?_⟩
    rcases h.own.2 with hn | ⟨g, cap, cur, rfl, hb', hgg, rest⟩
    · exact .inl hn
    · exact .inr ⟨g, cap, cur, rfl, hb', hk.heap hgg (fun e => h.bvm (by rw [e]; rfl)), rest⟩
  · have := h.out j hj
    exact ⟨Nat.lt_of_lt_of_le this.1 hk.size, this.2⟩

end Go.Proofs.Ytjnaknfnoibncaa

/- The mathematics of a name that is written: label by label. Conditions: none. -/
namespace Go.Proofs.Ytjnaknfnoibncaa
open Go

theorem startW_rests_len (q : Wr) (rest first : ByteArray) : (startW q rest first).limit = q.limit := by
  unfold startW; split
  · exact rawW_limit q first
  · exact rawW_limit q first

/-- What a name's labels leave, if no rest of it is pointed to. -/
def stepW (s : Wr × ByteArray) (l : ByteArray) : Wr × ByteArray := (startW s.1 s.2 (s.2.extract 0 (1 + l.size)), s.2.extract (1 + l.size) s.2.size)
def stW (n : ByteArray) (q : Wr) (pre : List ByteArray) : Wr × ByteArray := pre.foldl stepW (q, n)
theorem stW_snoc (n : ByteArray) (q : Wr) (pre : List ByteArray) (l : ByteArray) : stW n q (pre ++ [l]) = stepW (stW n q pre) l := by
  rw [stW, List.foldl_append]; rfl
/-- Whether the rest of a name is pointed to. -/
def hitW (pt : Bool) (s : Wr × ByteArray) : Bool := pt && (s.1.rests.lookup (bl s.2)).isSome
def ptrW (s : Wr × ByteArray) : Wr := rawW s.1 ⟨(nbs (49152 + (s.1.rests.lookup (bl s.2)).getD 0) 2).toArray⟩
def goW (pt : Bool) : List ByteArray → Wr × ByteArray → Wr
  | [], s => rawW s.1 ⟨#[0]⟩
  | l :: ls, s => if hitW pt s then ptrW s else goW pt ls (stepW s l)
/-- What Name and Full leave. -/
def nameW (q : Wr) (n : ByteArray) (pt : Bool) : Wr := if isName n then goW pt (labelsB n) (q, n) else q

theorem enc_drop (l : ByteArray) (r : List (List UInt8)) : (enc (bl l :: r)).drop (1 + l.size) = enc r := by
  show (UInt8.ofNat (bl l).length :: (bl l ++ enc r)).drop (1 + l.size) = _
  rw [Nat.add_comm, List.drop_succ_cons, ← bl_size, List.drop_left]
theorem st_rest : ∀ (pre post : List ByteArray) (s : Wr × ByteArray), bl s.2 = enc ((pre ++ post).map bl) → bl (pre.foldl stepW s).2 = enc (post.map bl)
  | [], _, _, h => h
  | l :: pre, post, s, h => by
    refine st_rest pre post (stepW s l) ?_
    show bl (s.2.extract (1 + l.size) s.2.size) = _
    rw [bl_extract, take_bl, h]
    exact enc_drop l _
/-- What is left of a name behind some of its labels. -/
theorem stW_rest {n : ByteArray} (hn : isName n = true) (q : Wr) (pre post : List ByteArray) (h : labelsB n = pre ++ post) : bl (stW n q pre).2 = enc (post.map bl) := by
  obtain ⟨ls, hr⟩ := rep_of_name hn
  refine st_rest pre post (q, n) ?_
  show bl n = _
  rw [hr.eq, ← hr.labels, h]
theorem lab_pos {s : ByteArray} (h : isName s = true) : ∀ x ∈ labelsB s, 1 ≤ x.size ∧ x.size ≤ 63 := by
  intro x hx
  obtain ⟨ls, hr⟩ := rep_of_name h
  have h1 := hr.labels
  have h2 : bl x ∈ ls := by rw [← h1]; exact List.mem_map_of_mem hx
  have := hr.ok _ h2
  rwa [bl_size] at this
/-- The next label is there, whole. -/
theorem stW_fits {n : ByteArray} (hn : isName n = true) (q : Wr) (pre : List ByteArray) (l : ByteArray) (post : List ByteArray) (h : labelsB n = pre ++ l :: post) :
    1 + l.size ≤ (stW n q pre).2.size ∧ (stW n q pre).2.size ≤ 255 ∧ ((stW n q pre).2.extract 0 (1 + l.size)).size = 1 + l.size := by
  have h1 := stW_rest hn q pre (l :: post) h
  have h2 := congrArg List.length h1
  rw [bl_size] at h2
  have h3 : (enc ((l :: post).map bl)).length = 1 + l.size + (enc (post.map bl)).length := by
    show (UInt8.ofNat (bl l).length :: (bl l ++ enc (post.map bl))).length = _
    rw [List.length_cons, List.length_append, bl_size]; omega
  have h4 : (stW n q pre).2.size ≤ 255 := by
    obtain ⟨ls, hr⟩ := rep_of_name hn
    have e1 := hr.labels
    rw [h, List.map_append] at e1
    have e2 := enc_drop_le (pre.map bl).length ls
    rw [← e1, List.drop_left, e1, ← hr.eq, bl_size] at e2
    have := hr.len
    omega
  refine ⟨by omega, h4, ?_⟩
  rw [ByteArray.size_extract]; omega
theorem st_ok : ∀ (pre : List ByteArray) (s : Wr × ByteArray) (post : List ByteArray), s.1.ok → bl s.2 = enc ((pre ++ post).map bl) → (∀ x ∈ pre, 1 ≤ x.size) → (pre.foldl stepW s).1.ok
  | [], _, _, h, _, _ => h
  | l :: pre, s, post, h, he, hx => by
    have h2 := congrArg List.length he
    rw [bl_size] at h2
    have h3 : (enc ((l :: (pre ++ post)).map bl)).length = 1 + l.size + (enc ((pre ++ post).map bl)).length := by
      show (UInt8.ofNat (bl l).length :: (bl l ++ enc ((pre ++ post).map bl))).length = _
      rw [List.length_cons, List.length_append, bl_size]; omega
    rw [List.cons_append, h3] at h2
    refine st_ok pre (stepW s l) post ?_ ?_ (fun x hx' => hx x (List.mem_cons_of_mem _ hx'))
    · refine startW_ok h _ _ ?_
      rw [ByteArray.size_extract]; omega
    · show bl (s.2.extract (1 + l.size) s.2.size) = _
      rw [bl_extract, take_bl, he]
      exact enc_drop l _
theorem stW_ok {n : ByteArray} (hn : isName n = true) {q : Wr} (hq : q.ok) (pre post : List ByteArray) (h : labelsB n = pre ++ post) : (stW n q pre).1.ok := by
  obtain ⟨ls, hr⟩ := rep_of_name hn
  refine st_ok pre (q, n) post hq ?_ (fun x hx => (lab_pos hn x (by rw [h]; exact List.mem_append_left _ hx)).1)
  show bl n = _
  rw [hr.eq, ← hr.labels, h]

end Go.Proofs.Ytjnaknfnoibncaa

/- What pack's writer does with names: name. Conditions: a writer that New made. -/
namespace Go.Proofs.Ytjnaknfnoibncaa
open Go Go.RowKit Go.Shelf
attribute [local go_sem] Oper.semAt_some wide_fn wide_depth

theorem WrAt.turned {W W' : World} {B : Nat} {G : Nat → Prop} {q : Wr} (h : WrAt W B G q) {K : Nat → Prop} (k : Keeps K W W') (hK : ∀ j, ¬ G j → K j) : WrAt W' B G q := by
  obtain ⟨mb, bv, h⟩ := h
  exact ⟨mb, bv, h.keep k (hK B fun hg => (h.out B hg).2.1 rfl) (hK mb fun hg => (h.out mb hg).2.2.1 rfl) fun j hj => hK j fun hg => (h.out j hg).2.2.2 hj⟩
theorem lookup_mem : ∀ (l : List (List UInt8 × Nat)) (k : List UInt8) (v : Nat), l.lookup k = some v → ∃ k', (k', v) ∈ l
  | [], _, _, h => by cases h
  | (a, b) :: r, k, v, h => by
    rw [List.lookup] at h
    split at h
    · cases h; exact ⟨a, by simp⟩
    · obtain ⟨k', hk'⟩ := lookup_mem r k v h
      exact ⟨k', List.mem_cons_of_mem _ hk'⟩
theorem i64_or_mark (a : Nat) (ha : a < 16384) : bits .or .i64 (49152 : Int) (a : Int) = 49152 + (a : Int) := by
  have h := i64_or_nat 49152 a (by omega) (by omega)
  rw [nat_join 14 49152 a (by omega) (by omega)] at h
  simpa using h
theorem Boxed.lt {W : World} {A : Nat} {t : TypeId} {v : Value} (h : Boxed W A t v) : A < W.heap.size := (Array.getElem?_eq_some_iff.1 (show W.heap[A]? = some (.cells #[v] t (0, 0)) from h)).1

end Go.Proofs.Ytjnaknfnoibncaa

/- What pack's writer does: Name, Full, Set. Conditions: a writer that New made. -/
namespace Go.Proofs.Ytjnaknfnoibncaa
open Go Go.RowKit Go.Shelf
attribute [local go_sem] Oper.semAt_some wide_fn wide_depth

theorem set_row {cl : List Value} {bs : List UInt8} {n p : Nat} (hn : bs.length = n) (htk : cl.take n = Lib.byteCells bs) (hp : p + 2 ≤ n) (a b : UInt8) :
    (cl.take p ++ [enc8 a, enc8 b] ++ cl.drop (p + 2)).take n = Lib.byteCells (bs.take p ++ [a, b] ++ bs.drop (p + 2)) := by
  have hb : Lib.byteCells bs = bs.map enc8 := rfl
  have hl : n ≤ cl.length := by
    have := congrArg List.length htk
    rw [List.length_take, hb, List.length_map] at this
    omega
  have h1 : cl.take p = (bs.take p).map enc8 := by
    have := congrArg (List.take p) htk
    rw [List.take_take, Nat.min_eq_left (by omega), hb, ← List.map_take] at this
    exact this
  have h2 : (cl.drop (p + 2)).take (n - (p + 2)) = (bs.drop (p + 2)).map enc8 := by
    have := congrArg (List.drop (p + 2)) htk
    rw [List.drop_take, hb, ← List.map_drop] at this
    exact this
  have hlen : (cl.take p ++ [enc8 a, enc8 b]).length = p + 2 := by
    rw [List.length_append, List.length_take]; simp; omega
  rw [List.take_append, hlen, List.take_of_length_le (by omega), h2, h1]
  show _ = (bs.take p ++ [a, b] ++ bs.drop (p + 2)).map enc8
  simp

/-- What Set leaves, where both bytes were written. -/
def setW (q : Wr) (p : Nat) (v : Nat) : Wr := { q with bytes := q.bytes.take p ++ [byB v 1, byB v 0] ++ q.bytes.drop (p + 2) }

end Go.Proofs.Ytjnaknfnoibncaa

/- What the first question of layer 3's statements (lives) answers: true. Conditions: none. -/
namespace Go.Proofs.Ytjnaknfnoibncaa
open Go Go.RowKit Go.Shelf

instance : DecidablePred Wr.ok := fun q => by unfold Wr.ok; infer_instance
instance : DecidablePred Rd.ok := fun q => by unfold Rd.ok; infer_instance
namespace L3
def nA : ByteArray := ⟨#[1, 97, 3, 111, 114, 103, 0]⟩
def nB : ByteArray := ⟨#[1, 98, 3, 111, 114, 103, 0]⟩
def nS : ByteArray := ⟨#[0, 7, 1, 97, 3, 111, 114, 103, 0, 1, 98, 192, 4, 0]⟩
def q0 : Wr := ⟨[], 40, false, []⟩
def q1 : Wr := rawW q0 ⟨(nbs 66051 2).toArray⟩
def q2 : Wr := nameW q1 nA true
def q3 : Wr := nameW q2 nB true
def q4 : Wr := nameW q3 ⟨#[0]⟩ true
def q5 : Wr := setW q4 0 7
def q6 : Wr := rawW q5 (nS ++ nS)
def r0 : Rd := ⟨nS, 0, false⟩
def r1 : Rd := (numR r0 2).2
def r2 : Rd := (nameR r1).2
def r3 : Rd := (nameR r2).2
def r4 : Rd := (nameR r3).2
def r5 : Rd := (rawR r4 1).2
theorem o0 : q0.ok := by decide +kernel
theorem o1 : q1.ok := by decide +kernel
theorem o2 : q2.ok := by decide +kernel
theorem o3 : q3.ok := by decide +kernel
theorem o4 : q4.ok := by decide +kernel
theorem o5 : q5.ok := by decide +kernel
theorem p0 : r0.ok := by decide +kernel
theorem p1 : r1.ok := by decide +kernel
theorem p2 : r2.ok := by decide +kernel
theorem p3 : r3.ok := by decide +kernel
theorem p4 : r4.ok := by decide +kernel
theorem p5 : r5.ok := by decide +kernel
theorem e1 : q5.bytes.length = 14 := by decide +kernel
theorem e2 : outR q5 = (nS, 0) := by decide +kernel
theorem e3 : (outR q6).2 = 7 := by decide +kernel
theorem e4 : (numR r0 2).1 = 7 := by decide +kernel
theorem e5 : (nameR r1).1 = nA := by decide +kernel
theorem e6 : (nameR r2).1 = nB := by decide +kernel
theorem e7 : (nameR r3).1 = ⟨#[0]⟩ := by decide +kernel
theorem e8 : r4.left = 0 := by decide +kernel
theorem e9 : r4.at_ = 14 := by decide +kernel
theorem e10 : r5.bad = true := by decide +kernel
theorem e11 : 0 + 2 ≤ q4.bytes.length := by decide +kernel

end L3

end Go.Proofs.Ytjnaknfnoibncaa

/- The mathematics of names that are read: where the reader is then; what a part of the bytes tells. Conditions: none. -/
namespace Go.Proofs.Ytjnaknfnoibncaa
open Go

def partsL (ps : List (List UInt8)) : List UInt8 := (ps.map fun l => UInt8.ofNat l.length :: l).flatten
/-- Labels without an end. -/
def Parts (n : List UInt8) : Prop := ∃ ps : List (List UInt8), (∀ l ∈ ps, 1 ≤ l.length ∧ l.length ≤ 191) ∧ n = partsL ps
theorem parts_enc : ∀ (ps ls : List (List UInt8)), (∀ l ∈ ps, 1 ≤ l.length ∧ l.length ≤ 191) → OkL ls → enc ls ≠ partsL ps
  | [], ls, _, _ => fun h => enc_ne ls h
  | l :: r, [], hp, _ => fun h => by
    have h1 := hp l (by simp)
    simp only [enc, partsL, List.map_cons, List.flatten_cons, List.cons_append, List.cons.injEq] at h
    have h2 := congrArg UInt8.toNat h.1
    simp at h2
    omega
  | l :: r, m :: q, hp, ho => fun h => by
    have h1 := hp l (by simp)
    have h2 := ho.head
    simp only [enc, partsL, List.map_cons, List.flatten_cons, List.cons_append, List.cons.injEq] at h
    have h3 := congrArg UInt8.toNat h.1
    simp at h3
    obtain ⟨_, h6⟩ := List.append_inj h.2 (by omega : m.length = l.length)
    exact parts_enc r q (fun x hx => hp x (List.mem_cons_of_mem _ hx)) ho.tail h6
theorem Parts.none {n : List UInt8} (h : Parts n) : isName ⟨n.toArray⟩ = false := by
  rw [Bool.eq_false_iff]
  intro hn
  obtain ⟨ls, hr⟩ := rep_of_name hn
  obtain ⟨ps, h1, h2⟩ := h
  have := hr.eq
  rw [bl_mk, h2] at this
  exact parts_enc ps ls h1 hr.ok this.symm
theorem Parts.nil : Parts [] := ⟨[], by simp, rfl⟩
theorem Parts.snoc {n : List UInt8} (h : Parts n) {l : List UInt8} (h1 : 1 ≤ l.length) (h2 : l.length ≤ 191) : Parts (n ++ UInt8.ofNat l.length :: l) := by
  obtain ⟨ps, a, rfl⟩ := h
  refine ⟨ps ++ [l], fun x hx => ?_, by simp [partsL]⟩
  rcases List.mem_append.1 hx with hx | hx
  · exact a x hx
  · obtain rfl : x = l := by simpa using hx
    exact ⟨h1, h2⟩
/-- A piece that is neither a pointer nor the end is a label behind its length. -/
theorem piece_label {s : ByteArray} {a : Nat} (h0 : (pieceR s a).size ≠ 0) (h1 : ¬ 192 ≤ (pieceR s a)[0]!.toNat) : bl (pieceR s a) = UInt8.ofNat ((bl (pieceR s a)).drop 1).length :: (bl (pieceR s a)).drop 1 ∧
    ((bl (pieceR s a)).drop 1).length = (pieceR s a)[0]!.toNat ∧ (pieceR s a)[0]!.toNat ≤ 191 := by
  obtain ⟨p1, p2, p3, p4, p5⟩ := (piece_cases s a).resolve_left h0
  rw [p3] at h1 ⊢
  have hl : ((bl (pieceR s a)).drop 1).length = s[a]!.toNat := by
    rw [List.length_drop, bl_size]; omega
  refine ⟨?_, hl, by omega⟩
  have hpos : 0 < (bl (pieceR s a)).length := by rw [bl_size]; omega
  have hd := List.drop_eq_getElem_cons hpos
  rw [List.drop_zero] at hd
  conv => lhs; rw [hd]
  congr 1
  rw [hl]
  have h3 : (pieceR s a)[0]! = (bl (pieceR s a))[0] := by rw [get_bl _ 0 (by omega)]; rfl
  rw [← h3, p3, UInt8.ofNat_toNat]
theorem piece_root {s : ByteArray} {a : Nat} (h0 : (pieceR s a).size ≠ 0) (h1 : ¬ 192 ≤ (pieceR s a)[0]!.toNat) (h2 : (pieceR s a).toList ≠ [0]) : 1 ≤ (pieceR s a)[0]!.toNat := by
  obtain ⟨e1, e2, _⟩ := piece_label h0 h1
  rcases Nat.eq_zero_or_pos (pieceR s a)[0]!.toNat with h | h
  · exfalso
    rw [h] at e2
    have e3 := List.eq_nil_of_length_eq_zero e2
    rw [e3] at e1
    exact h2 (by rw [toList_bl, e1]; rfl)
  · exact h

theorem gatherF_behind (s : ByteArray) : ∀ (f : Nat) (n : List UInt8) (a fm b : Nat) (q : Bool), (q = false → b = a) →
    (q = true → (gatherF s f n a fm b q).2 = b) ∧ (q = false → a ≤ (gatherF s f n a fm b q).2 ∧ ((gatherF s f n a fm b q).2 = a → (gatherF s f n a fm b q).1 = n))
  | 0, n, a, fm, b, q, h => ⟨fun _ => rfl, fun hq => ⟨by rw [gatherF, h hq]; exact Nat.le_refl _, fun _ => rfl⟩⟩
  | f + 1, n, a, fm, b, q, h => by
    rw [gatherF]
    split
    · split
      · next hz => exact ⟨fun hq => by rw [hq]; rfl, fun hq => by subst hq; exact ⟨by simp, fun _ => rfl⟩⟩
      · next hz =>
        split
        · split
          · exact ⟨fun hq => by rw [hq]; rfl, fun hq => by subst hq; exact ⟨by simp, fun _ => rfl⟩⟩
          · obtain ⟨i1, _⟩ := gatherF_behind s f n (targetR (pieceR s a)) (targetR (pieceR s a)) (if q = true then b else a + (pieceR s a).size) true (by simp)
            have i1 := i1 rfl
            rw [i1]
            exact ⟨fun hq => by rw [hq]; rfl, fun hq => by subst hq; exact ⟨by simp, fun he => by rw [if_neg (by simp)] at he; omega⟩⟩
        · split
          · exact ⟨fun hq => by rw [hq]; rfl, fun hq => by subst hq; exact ⟨by simp, fun he => by rw [if_neg (by simp)] at he; omega⟩⟩
          · obtain ⟨i1, i2⟩ := gatherF_behind s f (n ++ bl (pieceR s a)) (a + (pieceR s a).size) fm (if q = true then b else a + (pieceR s a).size) q (by intro hq; rw [hq]; rfl)
            refine ⟨fun hq => ?_, fun hq => ?_⟩
            · rw [i1 hq, hq]; rfl
            · obtain ⟨j1, j2⟩ := i2 hq
              exact ⟨by omega, fun he => by omega⟩
    · exact ⟨fun _ => rfl, fun hq => ⟨by rw [h hq]; exact Nat.le_refl _, fun _ => rfl⟩⟩
/-- Where a reader is behind a name. -/
theorem gather_behind {s : ByteArray} {a : Nat} (h : isName ⟨(gatherR s a).1.toArray⟩ = true) (ha : a ≤ s.size) : a < (gatherR s a).2 ∧ (gatherR s a).2 ≤ s.size := by
  obtain ⟨_, h2⟩ := gatherF_behind s (257 + a) [] a a a false (fun _ => rfl)
  obtain ⟨h3, h4⟩ := h2 rfl
  refine ⟨?_, gatherF_le s _ _ _ _ _ _ ha ha⟩
  rcases Nat.lt_or_ge a (gatherR s a).2 with h5 | h5
  · exact h5
  · have h6 := h4 (show (gatherR s a).2 = a from Nat.le_antisymm h5 h3)
    rw [show (gatherR s a).1 = [] from h6] at h
    rw [Parts.nil.none] at h; cases h

theorem piece_part (s : ByteArray) (b a : Nat) (hb : b ≤ s.size) : pieceR (s.extract 0 b) a = pieceR s a ∨ pieceR (s.extract 0 b) a = ⟨#[]⟩ := by
  have hs : (s.extract 0 b).size = b := by rw [ByteArray.size_extract]; omega
  by_cases h1 : b ≤ a
  · right; rw [pieceR, if_pos (by omega)]
  · have e1 : (s.extract 0 b)[a]! = s[a]! := by
      rw [getElem!_pos _ a (by omega), getElem!_pos s a (by omega), ByteArray.getElem_extract]
      simp
    rw [pieceR, if_neg (by omega), e1, hs]
    obtain ⟨z, hz⟩ : ∃ z, (if 192 ≤ s[a]!.toNat then 2 else 1 + s[a]!.toNat) = z := ⟨_, rfl⟩
    rw [hz]
    by_cases h2 : b - a < z
    · right; rw [if_pos h2]
    · left
      rw [if_neg h2, pieceR, if_neg (by omega), hz, if_neg (by omega)]
      apply bl_inj
      rw [bl_extract, bl_extract, bl_extract, List.drop_zero, List.take_take, Nat.min_eq_left (by omega)]
/-- A part of the bytes tells the same name, or none. -/
theorem gatherF_part (s : ByteArray) (b : Nat) (hb : b ≤ s.size) : ∀ (f : Nat) (n : List UInt8) (a fm bb : Nat) (q : Bool), Parts n →
    isName ⟨(gatherF (s.extract 0 b) f n a fm bb q).1.toArray⟩ = false ∨ gatherF (s.extract 0 b) f n a fm bb q = gatherF s f n a fm bb q
  | 0, n, a, fm, bb, q, h => .inr rfl
  | f + 1, n, a, fm, bb, q, h => by
    rcases piece_part s b a hb with hp | hp
    · rw [gatherF, gatherF, hp]
      split
      · split
        · exact .inr rfl
        · next hz =>
          split
          · split
            · exact .inr rfl
            · exact gatherF_part s b hb f _ _ _ _ _ h
          · next h192 =>
            split
            · exact .inr rfl
            · next hrt =>
              obtain ⟨e1, e2, e3⟩ := piece_label hz h192
              have e4 := piece_root hz h192 hrt
              refine gatherF_part s b hb f _ _ _ _ _ ?_
              rw [e1]
              exact h.snoc (by omega) (by omega)
      · exact .inr rfl
    · left
      rw [gatherF, hp]
      split
      · exact h.none
      · exact h.none
theorem gather_part {s : ByteArray} {a : Nat} (b : Nat) (hb : b ≤ s.size) : isName ⟨(gatherR (s.extract 0 b) a).1.toArray⟩ = false ∨ gatherR (s.extract 0 b) a = gatherR s a :=
  gatherF_part s b hb _ _ _ _ _ _ Parts.nil

end Go.Proofs.Ytjnaknfnoibncaa

/- The mathematics of names that are written, and read: what was written with pointers is read as it was. Conditions: none. -/
namespace Go.Proofs.Ytjnaknfnoibncaa
open Go

/-- From the place a on bytes tell labels: each pointer leads ahead of fm, or of where it led to last. e is behind the last byte, or the first pointer. -/
inductive Tells (bs : List UInt8) : Nat → Nat → List (List UInt8) → Nat → Prop
  | root {a fm : Nat} (h : bs.drop a = 0 :: bs.drop (a + 1)) (hl : a < bs.length) : Tells bs a fm [] (a + 1)
  | label {a fm e : Nat} {l : List UInt8} {r : List (List UInt8)} (h : bs.drop a = UInt8.ofNat l.length :: (l ++ bs.drop (a + 1 + l.length))) (h1 : 1 ≤ l.length) (h2 : l.length ≤ 63) (hl : a + 1 + l.length ≤ bs.length) (k : Tells bs (a + 1 + l.length) fm r e) : Tells bs a fm (l :: r) e
  | ptr {a fm t e : Nat} {ls : List (List UInt8)} (h : bs.drop a = UInt8.ofNat (192 + t / 256) :: UInt8.ofNat (t % 256) :: bs.drop (a + 2)) (hl : a + 2 ≤ bs.length) (ht : t < 16384) (hf : t < fm) (k : Tells bs t t ls e) : Tells bs a fm ls (a + 2)

theorem Tells.lt {bs : List UInt8} {a fm e : Nat} {ls : List (List UInt8)} (h : Tells bs a fm ls e) : a < bs.length := by
  cases h with
  | root _ hl => exact hl
  | label _ _ _ hl _ => omega
  | ptr _ hl _ _ _ => omega
theorem drop_more {bs x : List UInt8} {a : Nat} (h : a ≤ bs.length) : (bs ++ x).drop a = bs.drop a ++ x := by
  rw [List.drop_append, show a - bs.length = 0 by omega, List.drop_zero]
theorem Tells.more {bs : List UInt8} {a fm e : Nat} {ls : List (List UInt8)} (h : Tells bs a fm ls e) (x : List UInt8) : Tells (bs ++ x) a fm ls e := by
  induction h with
  | root h hl => exact .root (by rw [drop_more (by omega), drop_more (by omega), h]; rfl) (by rw [List.length_append]; omega)
  | label h h1 h2 hl k ih => exact .label (by rw [drop_more (by omega), drop_more (by omega), h]; simp) h1 h2 (by rw [List.length_append]; omega) ih
  | ptr h hl ht hf k ih => exact .ptr (by rw [drop_more (by omega), drop_more (by omega), h]; rfl) (by rw [List.length_append]; omega) ht hf ih
theorem Tells.from {bs : List UInt8} {a fm fm' e : Nat} {ls : List (List UInt8)} (h : Tells bs a fm ls e) (hf : fm ≤ fm') : Tells bs a fm' ls e := by
  induction h generalizing fm' with
  | root h hl => exact .root h hl
  | label h h1 h2 hl k ih => exact .label h h1 h2 hl (ih hf)
  | ptr h hl ht hf' k ih => exact .ptr h hl ht (by omega) k

theorem piece_of (s : ByteArray) (a : Nat) (l : List UInt8) (r : List UInt8) (h : (bl s).drop a = l ++ r) (hz : l.length = if 192 ≤ s[a]!.toNat then 2 else 1 + s[a]!.toNat) (ha : a < s.size) : bl (pieceR s a) = l := by
  have hlen := congrArg List.length h
  rw [List.length_drop, List.length_append, bl_size] at hlen
  rw [pieceR, if_neg (by omega), if_neg (by omega), bl_extract, ← hz, List.drop_take, h]
  rw [show a + l.length - a = l.length by omega, List.take_left]
theorem byte_of (s : ByteArray) (a : Nat) (c : UInt8) (r : List UInt8) (h : (bl s).drop a = c :: r) (ha : a < s.size) : s[a]! = c := by
  have hp : a < (bl s).length := ha
  rw [List.drop_eq_getElem_cons hp] at h
  rw [get_bl s a ha]
  simp only [List.cons.injEq] at h
  exact h.1
theorem first_of (p : ByteArray) (c : UInt8) (r : List UInt8) (h : bl p = c :: r) : p[0]! = c := by
  have hs : p.size = r.length + 1 := by rw [← bl_size, h]; rfl
  exact byte_of p 0 c r (by rw [List.drop_zero]; exact h) (by omega)
theorem second_of (p : ByteArray) (c d : UInt8) (r : List UInt8) (h : bl p = c :: d :: r) : p[1]! = d := by
  have hs : p.size = r.length + 2 := by rw [← bl_size, h]; rfl
  exact byte_of p 1 d r (by rw [h]; rfl) (by omega)

/-- What is told is gathered. -/
theorem gatherF_tells {s : ByteArray} {a fm e : Nat} {ls : List (List UInt8)} (h : Tells (bl s) a fm ls e) : ∀ (f : Nat) (n : List UInt8) (b : Nat) (q : Bool), n.length + (enc ls).length ≤ 255 → 255 - n.length + fm < f →
    gatherF s f n a fm b q = (n ++ enc ls, if q then b else e) := by
  induction h with
  | @root a fm h hl =>
    intro f n b q hn hf
    obtain ⟨f, rfl⟩ : ∃ f', f = f' + 1 := ⟨f - 1, by omega⟩
    have hl' : a < s.size := hl
    have hb := byte_of s a 0 _ h hl'
    have hp := piece_of s a [0] _ h (by rw [hb]; rfl) hl'
    have hsz : (pieceR s a).size = 1 := by rw [← bl_size, hp]; rfl
    have hn1 : n.length < 255 := by simp only [enc, List.length_singleton] at hn; omega
    rw [gatherF, if_pos hn1, if_neg (by omega), first_of _ 0 [] hp, if_neg (by decide), if_pos (by rw [toList_bl, hp]), hp, hsz]
    rfl
  | @label a fm e l r h h1 h2 hl k ih =>
    intro f n b q hn hf
    obtain ⟨f, rfl⟩ : ∃ f', f = f' + 1 := ⟨f - 1, by omega⟩
    have hl' : a < s.size := by rw [bl_size] at hl; omega
    have hb := byte_of s a _ _ h hl'
    have hlen : (UInt8.ofNat l.length).toNat = l.length := by simp; omega
    have hp := piece_of s a (UInt8.ofNat l.length :: l) _ (by rw [h]; rfl) (by rw [hb, hlen, if_neg (by omega), List.length_cons]; omega) hl'
    have hsz : (pieceR s a).size = 1 + l.length := by rw [← bl_size, hp, List.length_cons]; omega
    have hel : (enc (l :: r)).length = 1 + l.length + (enc r).length := by simp only [enc, List.length_cons, List.length_append]; omega
    rw [hel] at hn
    rw [gatherF, if_pos (by omega), if_neg (by omega), first_of _ _ _ hp, hlen, if_neg (by omega), if_neg (by rw [toList_bl, hp]; intro hc; simp only [List.cons.injEq] at hc; rw [hc.2] at h1; simp at h1), hp, hsz]
    rw [show a + (1 + l.length) = a + 1 + l.length by omega]
    rw [ih f _ _ _ (by rw [List.length_append, List.length_cons]; omega) (by rw [List.length_append, List.length_cons]; omega)]
    refine Prod.ext ?_ ?_
    · show n ++ UInt8.ofNat l.length :: l ++ enc r = n ++ UInt8.ofNat l.length :: (l ++ enc r)
      simp
    · show (if q = true then (if q = true then b else _) else e) = if q = true then b else e
      cases q <;> rfl
  | @ptr a fm t e ls h hl ht hf' k ih =>
    intro f n b q hn hf
    obtain ⟨f, rfl⟩ : ∃ f', f = f' + 1 := ⟨f - 1, by omega⟩
    have hl' : a < s.size := by rw [bl_size] at hl; omega
    have hb := byte_of s a _ _ h hl'
    have hlen : (UInt8.ofNat (192 + t / 256)).toNat = 192 + t / 256 := by simp; omega
    have hlen2 : (UInt8.ofNat (t % 256)).toNat = t % 256 := by simp
    have hp := piece_of s a [UInt8.ofNat (192 + t / 256), UInt8.ofNat (t % 256)] _ (by rw [h]; rfl) (by rw [hb, hlen, if_pos (by omega)]; rfl) hl'
    have hsz : (pieceR s a).size = 2 := by rw [← bl_size, hp]; rfl
    have htg : targetR (pieceR s a) = t := by
      rw [targetR, first_of _ _ _ hp, second_of _ _ _ _ hp, hlen, hlen2]; omega
    have hep := enc_pos ls
    rw [gatherF, if_pos (by omega), if_neg (by omega), first_of _ _ _ hp, hlen, if_pos (by omega), htg, if_neg (by omega), hsz]
    rw [ih f _ _ _ hn (by omega)]
    rfl
theorem gather_tells {s : ByteArray} {a e : Nat} {ls : List (List UInt8)} (h : Tells (bl s) a a ls e) (hn : (enc ls).length ≤ 255) : gatherR s a = (enc ls, e) := by
  have := gatherF_tells h (257 + a) [] a false (by simpa using hn) (by rw [List.length_nil]; omega)
  rw [gatherR, this]; rfl

/-- What a writer has noted tells what it says. -/
def Noted (bs : List UInt8) (x : List UInt8 × Nat) : Prop := ∃ ls e, OkL ls ∧ x.1 = enc ls ∧ Tells bs x.2 x.2 ls e
def Wr.inv (q : Wr) : Prop := ∀ x ∈ q.rests, Noted q.bytes x
theorem Noted.more {bs : List UInt8} {x : List UInt8 × Nat} (h : Noted bs x) (y : List UInt8) : Noted (bs ++ y) x := by
  obtain ⟨ls, e, h1, h2, h3⟩ := h
  exact ⟨ls, e, h1, h2, h3.more y⟩
/-- What is noted of a name that is being written. -/
def Pend (bs : List UInt8) (p0 : Nat) (L : List (List UInt8)) (x : List UInt8 × Nat) : Prop :=
  p0 ≤ x.2 ∧ x.2 ≤ bs.length ∧ ∃ D : List (List UInt8), D ≠ [] ∧ OkL (D ++ L) ∧ x.1 = enc (D ++ L) ∧ ∀ y e, Tells (bs ++ y) bs.length x.2 L e → Tells (bs ++ y) x.2 x.2 (D ++ L) e

theorem rawW_fit {q : Wr} {s : ByteArray} (hf : q.full = false) (h : ((q.bytes.length + s.size : Nat) : Int) ≤ q.limit) : rawW q s = { q with bytes := q.bytes ++ bl s } := by
  unfold rawW
  split
  · next hc =>
    rcases hc with hc | hc
    · have : bl s = [] := List.eq_nil_of_length_eq_zero hc
      rw [this, List.append_nil]
    · rw [hf] at hc; cases hc
  · rw [if_neg (by omega)]
theorem nbs_ptr (t : Nat) (ht : t < 16384) : nbs (49152 + t) 2 = [UInt8.ofNat (192 + t / 256), UInt8.ofNat (t % 256)] := by
  show [byB (49152 + t) 1, byB (49152 + t) 0] = _
  have e1 : (49152 + t) / 256 ^ 1 % 256 = 192 + t / 256 := by omega
  have e2 : (49152 + t) / 256 ^ 0 % 256 = t % 256 := by omega
  rw [byB, byB, e1, e2]
theorem lookup_mem2 : ∀ (l : List (List UInt8 × Nat)) (k : List UInt8) (v : Nat), l.lookup k = some v → (k, v) ∈ l
  | [], _, _, h => by cases h
  | (a, b) :: r, k, v, h => by
    rw [List.lookup] at h
    split at h
    · next he =>
      cases h
      rw [beq_iff_eq] at he
      rw [he]; simp
    · exact List.mem_cons_of_mem _ (lookup_mem2 r k v h)
theorem append_self {D L : List (List UInt8)} (h : D ++ L = L) : D = [] := by
  have := congrArg List.length h
  rw [List.length_append] at this
  exact List.eq_nil_of_length_eq_zero (by omega)

/-- What a name's labels leave: what was written is told, what is noted tells what it says. -/
theorem goW_tells (pt : Bool) (p0 : Nat) : ∀ (L : List ByteArray) (q : Wr) (rest : ByteArray), q.full = false → bl rest = enc (L.map bl) → OkL (L.map bl) → p0 ≤ q.bytes.length →
    (((q.bytes.length + (enc (L.map bl)).length : Nat) : Int) ≤ q.limit) → (∀ x ∈ q.rests, x.2 < 16384) →
    (∀ x ∈ q.rests, (x.2 < p0 ∧ Noted q.bytes x) ∨ Pend q.bytes p0 (L.map bl) x) →
    ∃ y, (goW pt L (q, rest)).bytes = q.bytes ++ y ∧ y.length ≤ (enc (L.map bl)).length ∧ (goW pt L (q, rest)).full = false ∧ (goW pt L (q, rest)).limit = q.limit ∧ (∀ fm, p0 ≤ fm → Tells (q.bytes ++ y) q.bytes.length fm (L.map bl) (q.bytes ++ y).length) ∧ (goW pt L (q, rest)).inv
  | [], q, rest, hf, hr, ho, hp, hl, hv, hi => by
    have e : goW pt [] (q, rest) = { q with bytes := q.bytes ++ [0] } := rawW_fit hf (by exact hl)
    have ht : ∀ fm, Tells (q.bytes ++ [0]) q.bytes.length fm [] (q.bytes ++ [0]).length := fun fm => by
      have := Tells.root (bs := q.bytes ++ [0]) (a := q.bytes.length) (fm := fm) (by rw [List.drop_left, List.drop_eq_nil_of_le (by simp)]) (by simp)
      simpa using this
    rw [e]
    refine ⟨[0], rfl, Nat.le_refl _, hf, rfl, fun fm _ => ht fm, fun x hx => ?_⟩
    rcases hi x hx with ⟨_, h⟩ | ⟨_, _, D, _, h2, h3, h4⟩
    · exact h.more _
    · exact ⟨D ++ [], _, h2, h3, h4 [0] _ (ht _)⟩
  | l :: L, q, rest, hf, hr, ho, hp, hl, hv, hi => by
    have hol := ho.head
    rw [bl_size] at hol
    have hel : (enc ((l :: L).map bl)).length = 1 + l.size + (enc (L.map bl)).length := by
      show (UInt8.ofNat (bl l).length :: (bl l ++ enc (L.map bl))).length = _
      rw [List.length_cons, List.length_append, bl_size]; omega
    have hep := enc_pos (L.map bl)
    cases hh : hitW pt (q, rest) with
    | true =>
      have e0 : goW pt (l :: L) (q, rest) = ptrW (q, rest) := by rw [goW, if_pos hh]
      simp only [hitW, Bool.and_eq_true] at hh
      obtain ⟨v, hlk⟩ := Option.isSome_iff_exists.1 hh.2
      have hm := lookup_mem2 _ _ _ hlk
      have hv' := hv _ hm
      simp only at hv'
      have e1 : ptrW (q, rest) = rawW q ⟨(nbs (49152 + v) 2).toArray⟩ := by rw [ptrW]; simp only [hlk]; rfl
      have e2 : rawW q ⟨(nbs (49152 + v) 2).toArray⟩ = { q with bytes := q.bytes ++ [UInt8.ofNat (192 + v / 256), UInt8.ofNat (v % 256)] } := by
        rw [nbs_ptr v hv']
        rw [rawW_fit hf (by rw [hel] at hl; show ((q.bytes.length + 2 : Nat) : Int) ≤ q.limit; omega), bl_mk]
      have hg : v < p0 ∧ ∃ e, Tells q.bytes v v ((l :: L).map bl) e := by
        rcases hi _ hm with ⟨h1, ls, e, h2, h3, h4⟩ | ⟨_, _, D, h1, h2, h3, _⟩
        · refine ⟨h1, e, ?_⟩
          simp only at h3
          rw [hr] at h3
          rw [enc_inj ho h2 h3]; exact h4
        · exfalso
          simp only at h3
          rw [hr] at h3
          exact h1 (append_self (enc_inj h2 ho h3.symm))
      obtain ⟨hg1, e, hg2⟩ := hg
      have ht : ∀ fm, p0 ≤ fm → Tells (q.bytes ++ [UInt8.ofNat (192 + v / 256), UInt8.ofNat (v % 256)]) q.bytes.length fm ((l :: L).map bl) (q.bytes ++ [UInt8.ofNat (192 + v / 256), UInt8.ofNat (v % 256)]).length := fun fm hfm => by
        have := Tells.ptr (bs := q.bytes ++ [UInt8.ofNat (192 + v / 256), UInt8.ofNat (v % 256)]) (a := q.bytes.length) (fm := fm) (t := v) (by rw [List.drop_left, List.drop_eq_nil_of_le (by simp)]) (by simp) hv' (by omega) (hg2.more _)
        simpa using this
      rw [e0, e1, e2]
      refine ⟨_, rfl, by rw [hel]; simp; omega, hf, rfl, ht, fun x hx => ?_⟩
      rcases hi x hx with ⟨_, h⟩ | ⟨h0, _, D, _, h2, h3, h4⟩
      · exact h.more _
      · exact ⟨_, _, h2, h3, h4 _ _ (ht _ h0)⟩
    | false =>
      have e0 : goW pt (l :: L) (q, rest) = goW pt L (stepW (q, rest) l) := by rw [goW, if_neg (by rw [hh]; simp)]
      have hrs : rest.size = 1 + l.size + (enc (L.map bl)).length := by rw [← bl_size, hr, hel]
      have hfirst : bl (rest.extract 0 (1 + l.size)) = UInt8.ofNat l.size :: bl l := by
        rw [bl_extract, List.drop_zero, hr]
        show (UInt8.ofNat (bl l).length :: (bl l ++ enc (L.map bl))).take (1 + l.size) = _
        rw [Nat.add_comm, List.take_succ_cons, bl_size, ← bl_size, List.take_left]
      have hfs : (rest.extract 0 (1 + l.size)).size = 1 + l.size := by rw [ByteArray.size_extract]; omega
      rw [hel] at hl
      have hraw := rawW_fit (s := rest.extract 0 (1 + l.size)) hf (by rw [hfs]; omega)
      rw [hfirst] at hraw
      have hrest : bl (rest.extract (1 + l.size) rest.size) = enc (L.map bl) := by
        rw [bl_extract, take_bl, hr]
        exact enc_drop l _
      obtain ⟨q1, hq1⟩ : ∃ q1, startW q rest (rest.extract 0 (1 + l.size)) = q1 := ⟨_, rfl⟩
      have hst : stepW (q, rest) l = (q1, rest.extract (1 + l.size) rest.size) := by rw [← hq1]; rfl
      have hb1 : q1.bytes = q.bytes ++ (UInt8.ofNat l.size :: bl l) := by
        rw [← hq1, startW]; split <;> rw [hraw]
      have hf1 : q1.full = false := by rw [← hq1, startW]; split <;> (rw [hraw]; exact hf)
      have hl1 : q1.limit = q.limit := by rw [← hq1, startW]; split <;> rw [hraw]
      have hr1 : ∀ x ∈ q1.rests, x ∈ q.rests ∨ (x = (bl rest, q.bytes.length) ∧ q.bytes.length < 16384) := by
        intro x hx
        rw [← hq1, startW] at hx
        split at hx
        · next hc =>
          rcases List.mem_cons.1 hx with hx | hx
          · exact .inr ⟨hx, hc.2.2⟩
          · exact .inl hx
        · rw [hraw] at hx; exact .inl hx
      have hlen1 : q1.bytes.length = q.bytes.length + 1 + l.size := by rw [hb1, List.length_append, List.length_cons, bl_size]; omega
      have hlab : ∀ y fm e, Tells (q1.bytes ++ y) q1.bytes.length fm (L.map bl) e → Tells (q1.bytes ++ y) q.bytes.length fm ((l :: L).map bl) e := fun y fm e h => by
        refine Tells.label (l := bl l) ?_ (by rw [bl_size]; omega) (by rw [bl_size]; omega) (by rw [bl_size, List.length_append]; omega) ?_
        · rw [bl_size, show q.bytes.length + 1 + l.size = q1.bytes.length by omega, List.drop_left, hb1]
          rw [List.append_assoc, List.drop_left]
          rfl
        · rw [bl_size, show q.bytes.length + 1 + l.size = q1.bytes.length by omega]; exact h
      obtain ⟨y, i1, i2, i3, i4, i5, i6⟩ := goW_tells pt p0 L q1 (rest.extract (1 + l.size) rest.size) hf1 hrest ho.tail (by omega) (by rw [hl1]; omega)
        (fun x hx => (hr1 x hx).elim (hv x) (fun h => by rw [h.1]; exact h.2))
        (fun x hx => by
          rcases hr1 x hx with hx | ⟨rfl, _⟩
          · rcases hi x hx with ⟨h1, h2⟩ | ⟨h0, h0', D, h1, h2, h3, h4⟩
            · exact .inl ⟨h1, by rw [hb1]; exact h2.more _⟩
            · refine .inr ⟨h0, by omega, D ++ [bl l], by simp, by simpa using h2, by simpa using h3, fun y e h => ?_⟩
              have := h4 ((UInt8.ofNat l.size :: bl l) ++ y) e
              rw [← List.append_assoc, ← hb1] at this
              simpa using this (hlab y _ e h)
          · refine .inr ⟨hp, by show q.bytes.length ≤ _; omega, [bl l], by simp, by simpa using ho, by simpa using hr, fun y e h => ?_⟩
            exact hlab y _ e h)
      rw [e0, hst]
      refine ⟨(UInt8.ofNat l.size :: bl l) ++ y, by rw [i1, hb1, List.append_assoc], by rw [hel, List.length_append, List.length_cons, bl_size]; omega, i3, by rw [i4, hl1], fun fm hfm => ?_, i6⟩
      have h1 := hlab y fm _ (i5 fm hfm)
      rw [hb1, List.append_assoc] at h1
      exact h1

/-- What Name and Full leave, where it fits. -/
theorem nameW_tells {q : Wr} {n : ByteArray} (pt : Bool) {ls : List (List UInt8)} (hr : Rep n ls) (hf : q.full = false) (hl : ((q.bytes.length + n.size : Nat) : Int) ≤ q.limit) (hv : ∀ x ∈ q.rests, x.2 < 16384) (hi : q.inv) :
    ∃ y, (nameW q n pt).bytes = q.bytes ++ y ∧ y.length ≤ n.size ∧ (nameW q n pt).full = false ∧ (nameW q n pt).limit = q.limit ∧ Tells (q.bytes ++ y) q.bytes.length q.bytes.length ls (q.bytes ++ y).length ∧ (nameW q n pt).inv := by
  have e : nameW q n pt = goW pt (labelsB n) (q, n) := by rw [nameW, if_pos hr.name]
  have hen : bl n = enc ((labelsB n).map bl) := by rw [hr.labels]; exact hr.eq
  have hsz : (enc ((labelsB n).map bl)).length = n.size := by rw [← hen, bl_size]
  rw [e]
  obtain ⟨y, i1, i2, i3, i4, i5, i6⟩ := goW_tells pt q.bytes.length (labelsB n) q n hf hen (by rw [hr.labels]; exact hr.ok) (Nat.le_refl _) (by rw [hsz]; exact hl) hv (fun x hx => .inl ⟨by
    obtain ⟨ls, e, _, _, h⟩ := hi x hx
    exact h.lt, hi x hx⟩)
  refine ⟨y, i1, by rw [← hsz]; exact i2, i3, i4, ?_, i6⟩
  have := i5 q.bytes.length (Nat.le_refl _)
  rw [hr.labels] at this
  exact this
theorem nameW_ok {q : Wr} (n : ByteArray) (pt : Bool) (hq : q.ok) : (nameW q n pt).ok := by
  unfold nameW
  split
  · next hn =>
    obtain ⟨ls, hr⟩ := rep_of_name hn
    have go : ∀ (L : List ByteArray) (q : Wr) (rest : ByteArray), q.ok → bl rest = enc (L.map bl) → OkL (L.map bl) → (goW pt L (q, rest)).ok := by
      intro L
      induction L with
      | nil => intro q rest h _ _; exact rawW_ok h _
      | cons l L ih =>
        intro q rest h he ho
        rw [goW]
        split
        · exact rawW_ok h _
        · refine ih _ _ ?_ ?_ ho.tail
          · refine startW_ok h _ _ ?_
            have hel : (enc ((l :: L).map bl)).length = 1 + l.size + (enc (L.map bl)).length := by
              show (UInt8.ofNat (bl l).length :: (bl l ++ enc (L.map bl))).length = _
              rw [List.length_cons, List.length_append, bl_size]; omega
            have hrs : rest.size = 1 + l.size + (enc (L.map bl)).length := by rw [← bl_size, he, hel]
            show 1 ≤ (rest.extract 0 (1 + l.size)).size
            rw [ByteArray.size_extract]; omega
          · show bl (rest.extract (1 + l.size) rest.size) = _
            rw [bl_extract, take_bl, he]
            exact enc_drop l _
    exact go _ _ _ hq (by rw [hr.labels]; exact hr.eq) (by rw [hr.labels]; exact hr.ok)
  · exact hq

end Go.Proofs.Ytjnaknfnoibncaa

/- Names one behind the other: told, one by one. Conditions: none. -/
namespace Go.Proofs.Ytjnaknfnoibncaa
open Go

/-- From a on bytes tell names, one behind the other, up to e. -/
def TellsN (bs : List UInt8) : Nat → List ByteArray → Nat → Prop
  | a, [], e => a = e
  | a, n :: r, e => ∃ ls m, Rep n ls ∧ Tells bs a a ls m ∧ TellsN bs m r e
theorem TellsN.more {bs : List UInt8} (x : List UInt8) : ∀ {l : List ByteArray} {a e : Nat}, TellsN bs a l e → TellsN (bs ++ x) a l e
  | [], _, _, h => h
  | _ :: _, _, _, ⟨ls, m, h1, h2, h3⟩ => ⟨ls, m, h1, h2.more x, h3.more x⟩
theorem TellsN.snoc {bs : List UInt8} : ∀ {l : List ByteArray} {a e : Nat} {n : ByteArray} {ls : List (List UInt8)} {m : Nat}, TellsN bs a l e → Rep n ls → Tells bs e e ls m → TellsN bs a (l ++ [n]) m
  | [], _, _, _, ls, m, h, hr, ht => by obtain rfl := h; exact ⟨ls, m, hr, ht, rfl⟩
  | _ :: _, _, _, _, _, _, ⟨ls', m', h1, h2, h3⟩, hr, ht => ⟨ls', m', h1, h2, h3.snoc hr ht⟩
theorem rep_len {n : ByteArray} {ls : List (List UInt8)} (h : Rep n ls) : (enc ls).length ≤ 255 := by rw [← h.eq, bl_size]; exact h.len
/-- A name that is told is read. -/
theorem nameR_tells {s n : ByteArray} {ls : List (List UInt8)} {a e : Nat} (hr : Rep n ls) (h : Tells (bl s) a a ls e) : nameR ⟨s, a, false⟩ = (n, ⟨s, e, false⟩) := by
  have hg := gather_tells h (rep_len hr)
  have hn : (⟨(enc ls).toArray⟩ : ByteArray) = n := bl_inj (by rw [bl_mk, hr.eq])
  rw [nameR]
  simp only [hg, hn, hr.name, if_true]
theorem Tells.le {bs : List UInt8} {a fm e : Nat} {ls : List (List UInt8)} (h : Tells bs a fm ls e) : e ≤ bs.length := by
  induction h with
  | root _ hl => omega
  | label _ _ _ _ _ ih => exact ih
  | ptr _ hl _ _ _ _ => exact hl

def sumS (l : List ByteArray) : Nat := (l.map ByteArray.size).sum
theorem sumS_snoc (l : List ByteArray) (x : ByteArray) : sumS (l ++ [x]) = sumS l + x.size := by simp [sumS]
theorem sumS_le (l : List ByteArray) (h : ∀ x ∈ l, x.size ≤ 255) : sumS l ≤ 255 * l.length := by
  induction l with
  | nil => simp [sumS]
  | cons a r ih =>
    have h1 := h a (by simp)
    have h2 := ih (fun x hx => h x (by simp [hx]))
    simp only [sumS, List.map_cons, List.sum_cons, List.length_cons] at h2 ⊢
    omega
/-- What a writer has behind some names. -/
structure Good (ahead : ByteArray) (kp : List ByteArray) (q : Wr) : Prop where
  ok : q.ok
  full : q.full = false
  limit : q.limit = 65536
  inv : q.inv
  len : q.bytes.length ≤ ahead.size + sumS kp
  head : q.bytes.take ahead.size = bl ahead
  hlen : ahead.size ≤ q.bytes.length
  tells : TellsN q.bytes ahead.size kp q.bytes.length
theorem Good.start (ahead : ByteArray) (h : ahead.size ≤ 4096) : Good ahead [] (rawW ⟨[], 65536, false, []⟩ ahead) := by
  have e : rawW ⟨[], 65536, false, []⟩ ahead = ⟨bl ahead, 65536, false, []⟩ := by
    rw [rawW_fit rfl (by simp; omega)]; rfl
  have ho : (⟨[], 65536, false, []⟩ : Wr).ok := by decide +kernel
  refine ⟨rawW_ok ho _, by rw [e], by rw [e], by rw [e]; intro x hx; simp at hx, by rw [e]; simp [sumS, bl_size], ?_, by rw [e]; simp [bl_size], by rw [e]; exact bl_size ahead |>.symm⟩
  rw [e]
  exact take_bl ahead
theorem Good.name {ahead : ByteArray} {kp : List ByteArray} {q : Wr} (h : Good ahead kp q) (ha : ahead.size ≤ 4096) (hk : kp.length ≤ 60) (hks : ∀ x ∈ kp, x.size ≤ 255) {n : ByteArray} {ls : List (List UInt8)} (hr : Rep n ls) (pt : Bool) : Good ahead (kp ++ [n]) (nameW q n pt) := by
  have h1 := sumS_le kp hks
  have h2 := hr.len
  have h3 := h.len
  obtain ⟨y, i1, i2, i3, i4, i5, i6⟩ := nameW_tells pt hr h.full (by rw [h.limit]; omega) (fun x hx => h.ok.2.2.2.2 x hx) h.inv
  have h4 := h.hlen
  refine ⟨nameW_ok n pt h.ok, i3, by rw [i4, h.limit], i6, ?_, ?_, ?_, ?_⟩
  · rw [i1, List.length_append, sumS_snoc]; omega
  · rw [i1, List.take_append, show ahead.size - q.bytes.length = 0 by omega, List.take_zero, List.append_nil]; exact h.head
  · rw [i1, List.length_append]; omega
  · rw [i1]
    exact (h.tells.more y).snoc hr i5

end Go.Proofs.Ytjnaknfnoibncaa

/- Where what was appended to a row of strings lies; what that leaves of a writer. Conditions: none. -/
namespace Go.Proofs.Ytjnaknfnoibncaa
open Go Go.RowKit Go.Shelf

/-- What turned none of a writer's blocks; what was laid since is none of them. -/
theorem WrAt.grown {W W' : World} {B : Nat} {G : Nat → Prop} {q : Wr} (h : WrAt W B G q) {K : Nat → Prop} (k : Keeps K W W') (hK : ∀ j, ¬ G j → K j) : WrAt W' B (fun j => G j ∨ (W.heap.size ≤ j ∧ j < W'.heap.size)) q := by
  obtain ⟨mb, bv, h⟩ := h
  obtain ⟨l1, l2, l3⟩ := h.lt
  have h' := h.keep k (hK B fun hg => (h.out B hg).2.1 rfl) (hK mb fun hg => (h.out mb hg).2.2.1 rfl) fun j hj => hK j fun hg => (h.out j hg).2.2.2 hj
  refine ⟨mb, bv, ⟨h'.blk, h'.own, h'.map, h'.mbB, h'.bvB, h'.bvm, fun j hj => ?_⟩⟩
  rcases hj with hj | ⟨h1, h2⟩
  · exact h'.out j hj
  · exact ⟨h2, by omega, by omega, fun e => by have := l3 j e; omega⟩

end Go.Proofs.Ytjnaknfnoibncaa
