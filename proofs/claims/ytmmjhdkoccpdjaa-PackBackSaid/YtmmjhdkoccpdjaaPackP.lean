/- What pack's writer does: Name, Full, Set. Conditions: a writer that New made. -/
import Derived.Test.YtmmjhdkoccpdjaaPackO
namespace Go.Proofs.Ytmmjhdkoccpdjaa
open Go Go.RowKit Go.Shelf
attribute [local go_sem] Oper.semAt_some wide_fn wide_depth

set_option maxHeartbeats 1000000 in
theorem WNamed_any (B : Nat) (G : Nat → Prop) (q : Wr) (n : ByteArray) (w : World) (h : WrAt w B G q) (hq : q.ok) (hn : n.size ≤ maxLen) :
    Calls Try.prog 43 #[.pointer (some ⟨B, 0, none⟩), .string n] w fun e w' => (∃ v, e = .returned v) ∧ WrAt w' B G (nameW q n true) ∧ Keeps G w w' := by
  have C := Lib.hid (WName_any B G q n true w h hq hn)
  clear h
  go_enter Try.func43, Try.ntmps43
  go_wp2_with fail
  refine C.out.mono ?_
  rintro e w1 ⟨⟨v, rfl⟩, hw, hk⟩
  have HP := Lib.hid (And.intro hw hk); clear hw hk
  go_wp2
  go_end0
  exact ⟨⟨_, rfl⟩, HP.out.1, HP.out.2⟩
set_option maxHeartbeats 1000000 in
theorem WFull_any (B : Nat) (G : Nat → Prop) (q : Wr) (n : ByteArray) (w : World) (h : WrAt w B G q) (hq : q.ok) (hn : n.size ≤ maxLen) :
    Calls Try.prog 42 #[.pointer (some ⟨B, 0, none⟩), .string n] w fun e w' => (∃ v, e = .returned v) ∧ WrAt w' B G (nameW q n false) ∧ Keeps G w w' := by
  have C := Lib.hid (WName_any B G q n false w h hq hn)
  clear h
  go_enter Try.func42, Try.ntmps42
  go_wp2_with fail
  refine C.out.mono ?_
  rintro e w1 ⟨⟨v, rfl⟩, hw, hk⟩
  have HP := Lib.hid (And.intro hw hk); clear hw hk
  go_wp2
  go_end0
  exact ⟨⟨_, rfl⟩, HP.out.1, HP.out.2⟩

theorem set_row {cl : List Value} {bs : List UInt8} {n p : Nat} (hn : bs.length = n) (htk : cl.take n = Lib.byteCells bs) (hp : p + 2 ≤ n) (a b : UInt8) :
    (cl.take p ++ [enc8 a, enc8 b] ++ cl.drop (p + 2)).take n = Lib.byteCells (bs.take p ++ [a, b] ++ bs.drop (p + 2)) := by
  have hb : Lib.byteCells bs = bs.map enc8 := rfl
  have hl : n ≤ cl.length := by
    have := congrArg List.length htk
    rw [List.length_take, hb, List.length_map] at this
    omega
  have h1 : cl.take p = (bs.take p).map enc8 := by
    have := congrArg (List.take p) htk
    rw [List.take_take, Nat.min_eq_left (by omega), hb, ← List.map_take] at this
    exact this
  have h2 : (cl.drop (p + 2)).take (n - (p + 2)) = (bs.drop (p + 2)).map enc8 := by
    have := congrArg (List.drop (p + 2)) htk
    rw [List.drop_take, hb, ← List.map_drop] at this
    exact this
  have hlen : (cl.take p ++ [enc8 a, enc8 b]).length = p + 2 := by
    rw [List.length_append, List.length_take]; simp; omega
  rw [List.take_append, hlen, List.take_of_length_le (by omega), h2, h1]
  show _ = (bs.take p ++ [a, b] ++ bs.drop (p + 2)).map enc8
  simp

/-- What Set leaves, where both bytes were written. -/
def setW (q : Wr) (p : Nat) (v : Nat) : Wr := { q with bytes := q.bytes.take p ++ [byB v 1, byB v 0] ++ q.bytes.drop (p + 2) }

set_option maxRecDepth 100000 in
set_option maxHeartbeats 2000000 in
theorem WSet_any (B : Nat) (G : Nat → Prop) (q : Wr) (p v : Nat) (w : World) (h : WrAt w B G q) (hq : q.ok) (hp : p + 2 ≤ q.bytes.length) (hv : v < 65536) :
    Calls Try.prog 91 #[.pointer (some ⟨B, 0, none⟩), .int .i64 p, .int .u16 v] w fun e w' => (∃ v, e = .returned v) ∧ WrAt w' B G (setW q p v) ∧ Keeps G w w' := by
  have CN := Lib.hid fun W => numberOf_any v W (by omega)
  obtain ⟨mb, bv, h⟩ := h
  obtain ⟨h1, h2, h3, _⟩ := hq
  have hG : ∀ j, G j → j < w.heap.size := fun j hj => (h.out j hj).1
  obtain ⟨bs, limit, full, rests⟩ := q
  simp only at hp h1 h2 h3
  obtain ⟨g, cap, cur, rfl, _, hgg, hnc, hcm, hcs, htk⟩ : ∃ g cap cur, bv = .slice (some ⟨g, 0, none⟩) bs.length cap ∧ 0 ≤ g ∧ w.heap[g]? = some (.cells cur 5 (0, 0)) ∧ bs.length ≤ cap ∧ cap ≤ maxLen ∧ cur.size = cap * 1 ∧ cur.toList.take (bs.length * 1) = Lib.byteCells bs := by
    rcases h.own.2 with ⟨_, h0⟩ | h0
    · simp only at h0; omega
    · exact h0
  obtain ⟨c0, c1, c2, c3, f0, f2⟩ := h.cells
  have hgB : g ≠ B := fun e => h.bvB (by rw [e]; rfl)
  have hgm : g ≠ mb := fun e => h.bvm (by rw [e]; rfl)
  have hBl := h.lt.1
  obtain ⟨n, hn⟩ : ∃ n, bs.length = n := ⟨_, rfl⟩
  rw [Nat.mul_one] at hcs htk
  simp only [hn] at c0 hnc hp htk
  have H := Lib.hid h
  have Hg := Lib.hid hgg
  clear h hgg c1 c2 c3 f0 f2
  have hmx : Try.prog.follows .mixedOrders = true := by kernel_rfl
  unfold maxLen at hcm
  have x0 : (0 : Int) ≤ p := by omega
  have x1 : ¬ ((n : Int) - 2 < (p : Int)) := by omega
  have x2 : decide ((n : Int) - 2 < (p : Int)) = false := by simp; omega
  have x3 : decide ((p : Int) < 0) = false := by simp
  go_enter Try.func91, Try.ntmps91
  go_wp2_with fail
  refine (CN.out _).mono ?_
  rintro e w1 ⟨rfl, hx1⟩
  have HX1 := Lib.hid hx1; clear hx1
  have hA := World.alloc_heap_new w1 (.cells #[.int .u8 0, .int .u8 0, .int .u8 0, .int .u8 0, .int .u8 0, .int .u8 0, .int .u8 0, .int .u8 0] 105)
  have HA := Lib.hid hA; clear hA
  go_wp2_with (first
    | (refine wpList_store_row rfl _ _ _ rfl w1.heap.size (num8 v) rfl rfl _ _ HA.out (by kernel_rfl) rfl (by kernel_rfl) ?_))
  have hA2 := setRow_heap _ _ _ (num8 v) _ _ HA.out
  have hX2 : Ext w ((w1.alloc (.cells #[.int .u8 0, .int .u8 0, .int .u8 0, .int .u8 0, .int .u8 0, .int .u8 0, .int .u8 0, .int .u8 0] 105)).setRow w1.heap.size (num8 v)) :=
    HX1.out.trans ((((Keeps.refl (fun j => j < w1.heap.size) w1).alloc _).setRow (by omega) _).ext fun _ h => h)
  have hgA : g ≠ w1.heap.size := fun e => by
    have h1 := (Array.getElem?_eq_some_iff.1 Hg.out).1
    have h2 := HX1.out.size
    omega
  generalize (w1.alloc (.cells #[.int .u8 0, .int .u8 0, .int .u8 0, .int .u8 0, .int .u8 0, .int .u8 0, .int .u8 0, .int .u8 0] 105)).setRow w1.heap.size (num8 v) = W2 at hA2 hX2 ⊢
  obtain ⟨A, hAe⟩ : ∃ A, w1.heap.size = A := ⟨_, rfl⟩
  rw [hAe] at hA2 hgA ⊢
  clear hAe HA
  have hg2 := hX2.keeps.heap Hg.out trivial
  have H2 := H.out.ext hX2
  have d0 := H2.cells.1
  simp only [hn] at d0
  have hcp := run_copy_row (P := Try.prog) W2.drew 95 95 3 5 g p (n - p) (cap - p) ⟨A, 6, none⟩ 2 2 cur 5 [enc8 (byB v 1), enc8 (byB v 0)] Try.underlying95 (by kernel_rfl) hg2
    (by show 2 = min 2 (n - p); omega)
    (fun j u hj => by
      have hp : (⟨A, 6, none⟩ : Addr).add j = ⟨A, 6 + j, none⟩ := by unfold Addr.add; split <;> simp_all
      rw [hp, cell_of_row W2.drew A _ _ _ _ hA2]
      match j, hj with
      | 0, hj => simp at hj; subst hj; rfl
      | 1, hj => simp at hj; subst hj; rfl)
    (by show p + 2 ≤ cur.size; omega) (by intro u hu; simp at hu; rcases hu with rfl | rfl <;> rfl)
  simp only [List.length_cons, List.length_nil, Nat.reduceAdd] at hcp
  obtain ⟨cs, hcse⟩ : ∃ cs, (cur.toList.take p ++ [enc8 (byB v 1), enc8 (byB v 0)] ++ cur.toList.drop (p + 2)).toArray = cs := ⟨_, rfl⟩
  rw [hcse] at hcp
  have HX2 := Lib.hid hX2
  have HH := Lib.hid H2
  have Hcse := Lib.hid hcse
  have Hg2 := Lib.hid hg2
  clear hX2 H2 hcse hg2 hA2 c0
  have x4 : (p : Int) ≤ n := by omega
  have x5 : p ≠ cap := by omega
  have x6 : (cap == p) = false := beq_eq_false_iff_ne.2 (by omega)
  have x7 : ¬ cap = p := by omega
  simp only [Act.put]
  go_region
  all_goals
    go_wp2
    go_end0
    refine ⟨⟨_, rfl⟩, ⟨mb, .slice (some ⟨g, 0, none⟩) n cap, ?_⟩, ((HX2.out.keeps.mono fun _ _ _ => trivial).drew).setRow (fun hg => (H.out.out g hg).2.2.2 rfl) _⟩
    have hk : Keeps (fun j => j ≠ g) W2 (W2.drew.setRow g cs) := ((Keeps.refl _ W2).drew).setRow (fun h => h rfl) _
    have hb := hk.heap HH.out.blk (fun e => hgB e.symm)
    simp only [hn] at hb
    have hlen : (setW ⟨bs, limit, full, rests⟩ p v).bytes.length = n := by
      show (bs.take p ++ [byB v 1, byB v 0] ++ bs.drop (p + 2)).length = n
      rw [List.length_append, List.length_append, List.length_take, List.length_drop]; simp; omega
    refine ⟨hb, ?_, HH.out.map.keep hk (fun e => hgm e.symm), HH.out.mbB, by simpa [Value.ownBlock] using hgB, by simpa [Value.ownBlock] using hgm, fun j hj => ?_⟩
    · rw [hlen]
      refine ⟨?_, .inr ⟨g, cap, cs, rfl, Nat.zero_le _, setRow_heap W2.drew g cur cs _ _ Hg2.out, hnc, by unfold maxLen; exact hcm, ?_, ?_⟩⟩
      · rw [Nat.mul_one, ← hlen]; simp [Lib.byteCells]
      · rw [← Hcse.out]; simp; omega
      · rw [← Hcse.out, Nat.mul_one]
        exact set_row hn htk hp _ _
    · obtain ⟨o1, o2, o3, o4⟩ := HH.out.out j hj
      exact ⟨Nat.lt_of_lt_of_le o1 hk.size, o2, o3, by simpa [Value.ownBlock] using o4⟩

end Go.Proofs.Ytmmjhdkoccpdjaa
