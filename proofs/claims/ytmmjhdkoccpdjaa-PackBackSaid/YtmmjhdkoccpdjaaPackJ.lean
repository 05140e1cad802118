/- What pack's writer does: Raw. Conditions: a writer that New made; texts of a bound. -/
import Derived.Test.YtmmjhdkoccpdjaaPackI
import Derived.Lib.AppendStr
namespace Go.Proofs.Ytmmjhdkoccpdjaa
open Go Go.RowKit Go.Shelf
attribute [local go_sem] Oper.semAt_some wide_fn wide_depth

/-- An append whose run is known, at the operation. -/
theorem wpList_append_run {P : Program} {w : World} {ops : Array Oper} {rest : List Oper} {o : Oper} {a : Act} {Q : Exit → Act → World → Prop} (hg : o.guard = none) (sl x : Operand) (t u : TypeId)
    (ho : o.op = .call { callee := .builtin .append, args := #[sl, x], argTypes := #[t, u] }) {v xv v' : Value} {w' : World} (hs : a.eval sl = v) (hx : a.eval x = xv)
    (hr : (Builtin.append_ #[t, u] o.type #[v, xv]).run P w = .ok v' w') (h : wpList P ops Q rest (a.put o.dst v') w') : wpList P ops Q (o :: rest) a w := by
  refine wpList_plain hg fun K hK => ?_
  unfold Oper.wp
  simp [execOp, ho, resolve, invoke, builtin, hs, hx, hr, Result.andThen]
  exact hK _ _ h

/-- Where what was appended lies: where it lay, or anew. -/
theorem append_bytes (w : World) (v : Value) (n : Nat) (xs : List Value) (hown : w.ownsRow 0 5 1 v n xs) (s : ByteArray) (hb : n + s.size ≤ 140737488355328) :
    ∃ v' w', (Builtin.append_ #[95, 9] 95 #[v, .string s]).run Try.prog w = .ok v' w' ∧ w'.ownsRow 0 5 1 v' (n + s.size) (xs ++ Lib.strCells s) ∧ w.grownBy w' v.ownBlock ∧
      (v'.ownBlock = v.ownBlock ∨ ∀ k, v'.ownBlock = some k → w.heap.size ≤ k) := by
  obtain ⟨i0, hi, hz0, hz1, hz2⟩ := info_parts infoByte
  obtain ⟨v', w', h1, h2, h3, _⟩ := Lib.run_append_own_string (P := Try.prog) w 0 95 9 95 5 i0 Try.underlying95 Try.underlying9 hi hz0 hz1 hz2 v n xs hown s (by unfold maxLen; omega) hb (Nat.zero_le _)
  refine ⟨v', w', h1, h2, h3, ?_⟩
  rcases hown.2 with ⟨rfl, rfl⟩ | ⟨g, cap, cur, rfl, hbg, hg, hnc, hcm, hcs, htake⟩
  · right
    obtain ⟨v2, w2, g1, g2, _, _⟩ := Lib.run_append_own_string (P := Try.prog) w w.heap.size 95 9 95 5 i0 Try.underlying95 Try.underlying9 hi hz0 hz1 hz2 (.slice none 0 0) 0 [] (World.ownsRow_nil _ _ _ _) s (by unfold maxLen; omega) hb (Nat.le_refl _)
    rw [h1] at g1
    cases g1
    exact fun k hk => (g2.lt k hk).1
  · by_cases hroom : n + s.size ≤ cap
    · left
      have hr := Lib.run_append_room_string (P := Try.prog) w 95 9 95 5 i0 Try.underlying95 Try.underlying9 hi hz1 g n cap cur hg s hroom (by simp at hcs; omega)
      rw [h1] at hr
      cases hr
      rfl
    · right
      have hxl : xs.length = n := by simpa using hown.1
      have holds : ∀ j u, xs[j]? = some u → w.cell? ((⟨g, 0, none⟩ : Addr).add j) = some u := hown.cells (g := g) rfl
      have hr := Lib.run_append_grow_string (P := Try.prog) w 95 9 95 5 i0 (.int .u8 0) Try.underlying95 Try.underlying9 hi hz0 ⟨g, 0, none⟩ n cap xs (by rw [hz1]; simpa using hxl) holds s (by omega) (by omega) (by rw [hz2]; exact growslice_fits (by omega) (by omega))
      rw [h1] at hr
      cases hr
      intro k hk
      simp only [Value.ownBlock, Option.some.injEq] at hk
      omega

theorem WrIs.ext {W W' : World} {B mb : Nat} {bv : Value} {G : Nat → Prop} {q : Wr} (h : WrIs W B mb bv G q) (k : Ext W W') : WrIs W' B mb bv G q := h.keep k.keeps trivial trivial fun _ _ => trivial
theorem WrIs.turn {W W' : World} {B mb : Nat} {bv : Value} {G : Nat → Prop} {q q' : Wr} (h : WrIs W B mb bv G q) (k : Keeps (fun j => j ≠ B) W W')
    (hb : W'.heap[B]? = some (.cells #[bv, .int .i64 q'.limit, .bool q'.full, .map (some mb)] 97 (0, 0))) (e1 : q'.bytes = q.bytes) (e2 : q'.rests = q.rests) : WrIs W' B mb bv G q' := by
  refine ⟨hb, ?_, ?_, h.mbB, h.bvB, h.bvm, fun j hj => ?_⟩
  · rw [e1]
    refine ⟨h.own.1, ?_⟩
    rcases h.own.2 with hn | ⟨g, cap, cur, rfl, hb', hgg, rest⟩
    · exact .inl hn
    · exact .inr ⟨g, cap, cur, rfl, hb', k.heap hgg (fun e => h.bvB (by rw [e]; rfl)), rest⟩
  · rw [e2]; exact h.map.keep k h.mbB
  · have := h.out j hj
    exact ⟨Nat.lt_of_lt_of_le this.1 k.size, this.2⟩
theorem WrIs.appended {w w1 : World} {B mb : Nat} {bv : Value} {G : Nat → Prop} {bs : List UInt8} {limit : Int} {full : Bool} {rests : List (List UInt8 × Nat)} (h : WrIs w B mb bv G ⟨bs, limit, full, rests⟩)
    (hg : w.grownBy w1 bv.ownBlock) (l : List UInt8) (v' : Value) (hown : w1.ownsRow 0 5 1 v' (bs ++ l).length (Lib.byteCells (bs ++ l))) (hw : v'.ownBlock = bv.ownBlock ∨ ∀ k, v'.ownBlock = some k → w.heap.size ≤ k) :
    WrIs (w1.setCell ⟨B, 0, none⟩ v') B mb v' G ⟨bs ++ l, limit, full, rests⟩ ∧ Keeps G w (w1.setCell ⟨B, 0, none⟩ v') := by
  obtain ⟨l1, l2, l3⟩ := h.lt
  have hne : ∀ j, j < w.heap.size → bv.ownBlock ≠ some j → v'.ownBlock ≠ some j := fun j hj hb e => by
    rcases hw with hw | hw
    · exact hb (hw ▸ e)
    · have := hw j e; omega
  have hB1 : w1.heap[B]? = some (.cells #[bv, .int .i64 limit, .bool full, .map (some mb)] 97 (0, 0)) := (hg.block B l1 (fun e => h.bvB e.symm)).trans h.blk
  have hk : Keeps (fun j => j ≠ B ∧ bv.ownBlock ≠ some j) w (w1.setCell ⟨B, 0, none⟩ v') := ((Keeps.refl _ w).grown hg (fun k e hk => hk.2 e)).setCell (p := ⟨B, 0, none⟩) (fun h => h.1 rfl) _
  refine ⟨⟨heap_setCell_same _ _ _ _ _ _ hB1, ?_, h.map.keep hk ⟨h.mbB, h.bvm⟩, h.mbB, hne B l1 h.bvB, hne mb l2 h.bvm, fun j hj => ?_⟩, hk.mono fun j _ hj => ⟨(h.out j hj).2.1, (h.out j hj).2.2.2⟩⟩
  · exact ownsRow_setCell_other hown (a := ⟨B, 0, none⟩) (hne B l1 h.bvB) _
  · obtain ⟨o1, o2, o3, o4⟩ := h.out j hj
    exact ⟨Nat.lt_of_lt_of_le o1 hk.size, o2, o3, hne j o1 o4⟩

/-- What Raw leaves. -/
def rawW (q : Wr) (s : ByteArray) : Wr :=
  if s.size = 0 ∨ q.full = true then q else if q.limit < ((q.bytes.length + s.size : Nat) : Int) then { q with full := true } else { q with bytes := q.bytes ++ bl s }
theorem rawW_ok {q : Wr} (h : q.ok) (s : ByteArray) : (rawW q s).ok := by
  obtain ⟨h1, h2, h3, h4⟩ := h
  unfold rawW
  split
  · exact ⟨h1, h2, h3, h4⟩
  · split
    · exact ⟨h1, h2, h3, h4⟩
    · next hc =>
      have h5 := h4.1
      refine ⟨?_, h2, h3, ?_, h4.2⟩
      · show (q.bytes ++ bl s).length ≤ _
        rw [List.length_append, bl_size]
        omega
      · show q.rests.length ≤ (q.bytes ++ bl s).length
        rw [List.length_append]; omega

set_option maxRecDepth 100000 in
set_option maxHeartbeats 2000000 in
theorem WRaw_any (B : Nat) (G : Nat → Prop) (q : Wr) (s : ByteArray) (w : World) (h : WrAt w B G q) (hq : q.ok) (hs : s.size ≤ 4294967296) :
    Calls Try.prog 40 #[.pointer (some ⟨B, 0, none⟩), .string s] w fun e w' => (∃ v, e = .returned v) ∧ WrAt w' B G (rawW q s) ∧ Keeps G w w' := by
  obtain ⟨mb, bv, h⟩ := h
  obtain ⟨c0, c1, c2, c3, f0, f2⟩ := h.cells
  obtain ⟨h1, h2, h3, _⟩ := hq
  have H := Lib.hid h
  have hr : rawW q s = if s.size = 0 ∨ q.full = true then q else if q.limit < ((q.bytes.length + s.size : Nat) : Int) then { q with full := true } else { q with bytes := q.bytes ++ bl s } := rfl
  have Hr := Lib.hid hr; clear hr
  by_cases hs0 : s.size = 0
  · obtain rfl : s = ⟨#[]⟩ := bl_inj (List.eq_nil_of_length_eq_zero hs0)
    have HR : Hid (rawW q ⟨#[]⟩ = q) := Lib.hid (by rw [Hr.out, if_pos (.inl hs0)])
    clear h c0 c1 c2 c3 f0 f2 hs0
    go_enter Try.func40, Try.ntmps40
    go_wp2
    refine bodyPost_ret (results_none rfl _ _ _) rfl ?_
    exact ⟨⟨_, rfl⟩, by rw [HR.out]; exact ⟨mb, bv, H.out⟩, Keeps.refl _ _⟩
  · have hne : s.toList.isEmpty = false := by
      rw [toList_bl]
      cases hb : bl s with
      | nil => rw [← bl_size, hb] at hs0; exact absurd rfl hs0
      | cons x y => rfl
    obtain ⟨bs, limit, full, rests⟩ := q
    simp only at c0 c1 c2 c3 h1 h2 h3
    cases full with
    | true =>
      have HR : Hid (rawW ⟨bs, limit, true, rests⟩ s = ⟨bs, limit, true, rests⟩) := Lib.hid (by rw [Hr.out, if_pos (.inr rfl)])
      clear h
      go_enter Try.func40, Try.ntmps40
      go_wp2
      refine bodyPost_ret (results_none rfl _ _ _) rfl ?_
      exact ⟨⟨_, rfl⟩, by rw [HR.out]; exact ⟨mb, bv, H.out⟩, Keeps.refl _ _⟩
    | false =>
      have hmx : Try.prog.follows .mixedOrders = true := by kernel_rfl
      obtain ⟨ao, cap, rfl⟩ := ownsRow_slice h.own
      obtain ⟨n, hn⟩ : ∃ n, bs.length = n := ⟨_, rfl⟩
      have q1 : IntKind.i64.wrap ((n : Int) + s.size) = (n : Int) + s.size := IntWalk.i64_in _ (by omega)
      simp only [hn] at c0
      by_cases hlim : limit < (n : Int) + s.size
      · have HR : Hid (rawW ⟨bs, limit, false, rests⟩ s = ⟨bs, limit, true, rests⟩) := Lib.hid (by rw [Hr.out, if_neg (by simp [hs0]), if_pos (by simp only [hn]; omega)])
        clear h
        go_enter Try.func40, Try.ntmps40
        go_wp2_with fail
        go_still hmx
        change Exit.then _ _ Exit.normal _ w.drew
        clear q1 c0 c1
        go_wp2
        refine bodyPost_ret (results_none rfl _ _ _) rfl ?_
        refine ⟨⟨_, rfl⟩, ?_, ((Keeps.refl G w).drew).setCell (p := ⟨B, 2, none⟩) (fun hg => (H.out.out B hg).2.1 rfl) _⟩
        rw [HR.out]
        exact ⟨mb, .slice ao n cap, (show WrIs w.drew B mb (.slice ao n cap) G ⟨bs, limit, false, rests⟩ by have := H.out; rw [hn] at this; exact this.ext (Ext.refl _).drew).turn (((Keeps.refl _ w.drew).setCell (p := ⟨B, 2, none⟩) (by simp) _)) (heap_setCell_same _ _ _ _ _ _ (by have := H.out.blk; rw [hn] at this; exact this)) rfl rfl⟩
      · have HR : Hid (rawW ⟨bs, limit, false, rests⟩ s = ⟨bs ++ bl s, limit, false, rests⟩) := Lib.hid (by rw [Hr.out, if_neg (by simp [hs0]), if_neg (by simp only [hn]; omega)])
        have hown := h.own
        simp only [hn] at hown H
        obtain ⟨v', w1, hap, hown1, hgr, hwh⟩ := append_bytes w.drew (.slice ao n cap) n (Lib.byteCells bs) hown s (by omega)
        obtain ⟨ao', cap', rfl⟩ := ownsRow_slice hown1
        have hgr' : w.grownBy w1 (Value.ownBlock (.slice ao n cap)) := ⟨hgr.os, hgr.tape, hgr.output, hgr.size, hgr.block⟩
        have hpost := H.out.appended hgr' (bl s) (.slice ao' (n + s.size) cap') (by rw [Lib.byteCells_append, List.length_append, hn, bl_size]; exact hown1) hwh
        have HP := Lib.hid hpost
        have hB := (Array.getElem?_eq_some_iff.1 H.out.blk).1
        have f0' : w1.frozen? ⟨B, 0, none⟩ = false := by
          rw [World.frozen?_of_block (hgr'.block B hB (fun e => H.out.bvB e.symm))]; exact f0
        have c0' : w1.cell? ⟨B, 0, none⟩ = some (.slice ao n cap) := by
          rw [World.cell?_of_block (hgr'.block B hB (fun e => H.out.bvB e.symm))]; exact c0
        clear h hpost hgr hgr' hwh hown hown1
        go_enter Try.func40, Try.ntmps40
        go_wp2_with fail
        go_still hmx
        change Exit.then _ _ Exit.normal _ w.drew
        clear q1
        have Hap := Lib.hid hap; clear hap
        go_wp2_with (at_builtin; refine wpList_append_run rfl _ _ 95 9 rfl rfl rfl Hap.out ?_)
        go_end0
        rw [HR.out]
        exact ⟨⟨_, rfl⟩, ⟨mb, _, HP.out.1⟩, HP.out.2⟩

end Go.Proofs.Ytmmjhdkoccpdjaa
