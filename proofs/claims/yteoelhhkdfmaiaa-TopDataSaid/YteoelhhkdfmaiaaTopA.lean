/- The mathematics of data one behind the other; rows of numbers. Conditions: bytes of a bound. -/
import Derived.Test.YteoelhhkdfmaiaaRdataBack
import Derived.Test.YteoelhhkdfmaiaaArgs
import Derived.ChangeSlices
namespace Go.Proofs.Yteoelhhkdfmaiaa
open Go Go.RowKit Go.Shelf
attribute [local go_sem] Oper.semAt_some wide_fn wide_depth

theorem infoInt : (Try.prog.info? 3).map (fun i => (i.zero, i.size, i.bytes)) = some (some (.int .i64 0), 1, 8) := by kernel_rfl
theorem append_int (w : World) (v : Value) (n : Nat) (xs : List Value) (hown : w.ownsRow 0 3 1 v n xs) (x : Int) (hb : n < 4294967296) :
    ∃ v' w', (Builtin.append_ #[48, 48] 48 #[v, .slice (some ⟨w.heap.size, 0, none⟩) 1 1]).run Try.prog (w.alloc (.cells #[.int .i64 x] 3)) = .ok v' w' ∧ w'.ownsRow 0 3 1 v' (n + 1) (xs ++ [.int .i64 x]) ∧
      (w.alloc (.cells #[.int .i64 x] 3)).grownBy w' v.ownBlock ∧ (v'.ownBlock = v.ownBlock ∨ ∀ k, v'.ownBlock = some k → w.heap.size ≤ k) := by
  obtain ⟨i0, hi, hz0, hz1, hz2⟩ := info_parts infoInt
  have hnews : ∀ (j : Nat) u, [Value.int .i64 x][j]? = some u → (w.alloc (.cells #[.int .i64 x] 3)).cell? ((⟨w.heap.size, 0, none⟩ : Addr).add j) = some u := by
    intro j u hj
    match j, hj with
    | 0, hj =>
      simp at hj; subst hj
      have h2 : (⟨w.heap.size, 0, none⟩ : Addr).add 0 = ⟨w.heap.size, 0, none⟩ := by unfold Addr.add; split <;> simp_all
      rw [h2]
      exact (Boxed.new w 3 (.int .i64 x)).cell
  have h1c : ∀ u ∈ [Value.int .i64 x], u.oneCell' = true := by intro u hu; simp at hu; subst hu; rfl
  have hown2 := hown.alloc (.cells #[.int .i64 x] 3)
  obtain ⟨v', w', h1, h2, h3, _⟩ := run_append_own (P := Try.prog) (w := w.alloc (.cells #[.int .i64 x] 3)) 0 48 48 3 i0 (.int .i64 0) 1 8 Try.underlying48 hi hz0 hz1 hz2 rfl (by decide) v n xs hown2 ⟨w.heap.size, 0, none⟩ 1 1 [.int .i64 x] rfl hnews h1c (by unfold maxLen; omega) (by omega) (Nat.zero_le _)
  refine ⟨v', w', h1, h2, h3, ?_⟩
  rcases hown.2 with ⟨rfl, rfl⟩ | ⟨g, cap, cur, rfl, hbg, hg, hnc, hcm, hcs, htake⟩
  · right
    obtain ⟨v2, w2, g1, g2, _, _⟩ := run_append_own (P := Try.prog) (w := w.alloc (.cells #[.int .i64 x] 3)) (w.alloc (.cells #[.int .i64 x] 3)).heap.size 48 48 3 i0 (.int .i64 0) 1 8 Try.underlying48 hi hz0 hz1 hz2 rfl (by decide) (.slice none 0 0) 0 [] (World.ownsRow_nil _ _ _ _) ⟨w.heap.size, 0, none⟩ 1 1 [.int .i64 x] rfl hnews h1c (by unfold maxLen; omega) (by omega) (Nat.le_refl _)
    rw [h1] at g1
    cases g1
    intro k hk
    have := (g2.lt k hk).1
    simp at this
    omega
  · have hgl : g < w.heap.size := (Array.getElem?_eq_some_iff.1 hg).1
    have hg' : (w.alloc (.cells #[.int .i64 x] 3)).heap[g]? = some (.cells cur 3 (0, 0)) := (Below.heap_alloc w _ g hgl).trans hg
    by_cases hroom : n + 1 ≤ cap
    · left
      have hr := run_append_room (P := Try.prog) (w := w.alloc (.cells #[.int .i64 x] 3)) 48 48 3 i0 Try.underlying48 hi g n cap cur hg' ⟨w.heap.size, 0, none⟩ 1 1 [.int .i64 x] (by rw [hz1]; rfl) hnews h1c hroom (by rw [hz1]; simp at hcs ⊢; omega)
      rw [h1] at hr
      cases hr
      rfl
    · right
      have hxl : xs.length = n := by simpa using hown.1
      have holds : ∀ j u, xs[j]? = some u → (w.alloc (.cells #[.int .i64 x] 3)).cell? ((⟨g, 0, none⟩ : Addr).add j) = some u := hown2.cells (g := g) rfl
      have hr := run_append_grow (P := Try.prog) (w := w.alloc (.cells #[.int .i64 x] 3)) 48 48 3 i0 (.int .i64 0) Try.underlying48 hi hz0 ⟨g, 0, none⟩ n cap xs (by rw [hz1]; simpa using hxl) holds ⟨w.heap.size, 0, none⟩ 1 1 [.int .i64 x] (by rw [hz1]; rfl) hnews (by omega) (by omega) (by
        rw [hz2]
        have := growslice_fits (by omega : cap < n + 1) (by omega : (n + 1) * 8 ≤ 140737488355328)
        exact this)
      rw [h1] at hr
      cases hr
      intro k hk
      simp only [Value.ownBlock, Option.some.injEq] at hk
      simp at hk
      omega


section
variable {H : Type} {enc : TypeId × Value → H} {P : Program} {W : World}
theorem open_intsO {r : Reach} {b0 : Nat} {t e : TypeId} {v : Value} {d : DataW H} {ps : List MemPlace} {k : IntKind} (ht : P.underlying t = some (.slice e)) (he : P.underlying e = some (.int k)) (hc : P.cellsOf e = 1)
    (hval : Value.okWide P W r b0 t v) (h : DataW.Trod enc P W 0 (fun _ => true) true t v d ps) :
    ∃ (n : Nat) (Z : Nat → Int), RowO W v n (fun j => .int k (Z j)) ∧ ∀ x ∈ ps, x.block < W.heap.size := by
  obtain ⟨a0, len, cap, rfl⟩ := Go.WideShapes.okWide_slice ht hval
  obtain ⟨fuel, hf⟩ := h
  rcases Go.ChangeShapes.open_ints ht he hc hf with ⟨hcs, hx⟩ | ⟨a, len', cap', zs, hcs, _, hl, hm, hz, hx, hcell, hws⟩
  · simp [Value.cells] at hcs
    obtain ⟨rfl, rfl, rfl⟩ := hcs
    simp only [Prod.mk.injEq] at hx
    obtain ⟨_, rfl⟩ := hx
    exact ⟨0, fun _ => 0, ⟨none, 0, rfl, Nat.le_refl _, Nat.zero_le _, fun k hk => by simp at hk⟩, by simp⟩
  · simp [Value.cells] at hcs
    obtain ⟨rfl, rfl, rfl⟩ := hcs
    simp only [Prod.mk.injEq] at hx
    obtain ⟨_, rfl⟩ := hx
    simp only [if_true] at hz
    exact ⟨len, fun j => zs.getD j 0, ⟨some a, cap, rfl, hl, hm, fun k hk => row_at hcell k (by omega)⟩, row_lt hcell⟩
end

/-- The names of right data are names. -/
theorem namesI_ok : ∀ (l : List It), (∀ i ∈ l, OkIt i) → ∀ x ∈ namesI l, isName x = true
  | [], _, x, hx => by cases hx
  | .name n :: r, h, x, hx => by
    rcases List.mem_cons.1 hx with rfl | hx
    · exact h _ (List.mem_cons_self)
    · exact namesI_ok r (fun i hi => h i (List.mem_cons_of_mem _ hi)) x hx
  | .num k y :: r, h, x, hx => namesI_ok r (fun i hi => h i (List.mem_cons_of_mem _ hi)) x hx
  | .raw b :: r, h, x, hx => namesI_ok r (fun i hi => h i (List.mem_cons_of_mem _ hi)) x hx
theorem names_right (t : Int) (d : ByteArray) (hd : d.size ≤ 1099511627776) : ∀ x ∈ namesD t d, isName x = true := by
  unfold namesD
  cases hb : rightB t d with
  | false => intro x hx; cases hx
  | true =>
    cases hn : named t with
    | true => exact namesI_ok _ (right_made hn hd hb).ok
    | false =>
      have h1 := (raw_data hn d 0 false (Nat.zero_le _)).1
      have : itsOf t d = [.raw (d.extract 0 d.size)] := by unfold itsOf; rw [h1]
      rw [if_pos rfl, this]
      intro x hx; cases hx

def bytesOf (l : List UInt8) : ByteArray := ⟨l.toArray⟩
/-- From a on bytes are data, one behind the other: where each begins, and its number. -/
def Segs (T : Nat → Int) (D : Nat → ByteArray) (bs : List UInt8) : Nat → List (Nat × Nat) → Nat → Prop
  | a, [], e => a = e
  | a, (p, i) :: r, e => p = a ∧ ∃ m, a ≤ m ∧ m ≤ bs.length ∧ dataB (T i) ⟨bytesOf (bs.take m), a, false⟩ = true ∧ (outR (dataW (T i) ⟨bytesOf (bs.take m), a, false⟩)).1 = D i ∧ Segs T D bs m r e
theorem Segs.more {T : Nat → Int} {D : Nat → ByteArray} {bs : List UInt8} (x : List UInt8) : ∀ {l : List (Nat × Nat)} {a e : Nat}, Segs T D bs a l e → Segs T D (bs ++ x) a l e
  | [], _, _, h => h
  | (p, i) :: r, a, e, ⟨h1, m, h2, h3, h4, h5, h6⟩ => by
    refine ⟨h1, m, h2, by rw [List.length_append]; omega, ?_, ?_, h6.more x⟩
    · rw [List.take_append_of_le_length h3]; exact h4
    · rw [List.take_append_of_le_length h3]; exact h5
theorem Segs.snoc {T : Nat → Int} {D : Nat → ByteArray} {bs : List UInt8} {i m : Nat} : ∀ {l : List (Nat × Nat)} {a e : Nat}, Segs T D bs a l e → e ≤ m → m ≤ bs.length → dataB (T i) ⟨bytesOf (bs.take m), e, false⟩ = true → (outR (dataW (T i) ⟨bytesOf (bs.take m), e, false⟩)).1 = D i → Segs T D bs a (l ++ [(e, i)]) m
  | [], a, e, h, h1, h2, h3, h4 => by obtain rfl : a = e := h; exact ⟨rfl, m, h1, h2, h3, h4, rfl⟩
  | (p, j) :: r, a, e, ⟨g1, m', g2, g3, g4, g5, g6⟩, h1, h2, h3, h4 => ⟨g1, m', g2, g3, g4, g5, g6.snoc h1 h2 h3 h4⟩
theorem Segs.le {T : Nat → Int} {D : Nat → ByteArray} {bs : List UInt8} : ∀ {l : List (Nat × Nat)} {a e : Nat}, Segs T D bs a l e → a ≤ e
  | [], a, e, h => by obtain rfl : a = e := h; exact Nat.le_refl _
  | (p, j) :: r, a, e, ⟨g1, m', g2, g3, g4, g5, g6⟩ => Nat.le_trans g2 g6.le
/-- The place of the next datum, or the end. -/
def nextAt : List (Nat × Nat) → Nat → Nat
  | [], e => e
  | (p, _) :: _, _ => p
theorem Segs.next {T : Nat → Int} {D : Nat → ByteArray} {bs : List UInt8} {l : List (Nat × Nat)} {a e : Nat} (h : Segs T D bs a l e) : nextAt l e = a := by
  match l, h with
  | [], h => exact Eq.symm h
  | (p, i) :: r, h => exact h.1
/-- What a datum's own part reads. -/
theorem seg_read {T : Nat → Int} {D : Nat → ByteArray} {s : ByteArray} {p i : Nat} {r : List (Nat × Nat)} {a e : Nat} (h : Segs T D (bl s) a ((p, i) :: r) e) :
    p = a ∧ a ≤ nextAt r e ∧ nextAt r e ≤ s.size ∧ gotR (T i) ⟨s, a, false⟩ ((nextAt r e : Int) - a) = (D i, 0) ∧ (rawR ⟨s, a, false⟩ ((nextAt r e : Int) - a)).2 = ⟨s, nextAt r e, false⟩ ∧ Segs T D (bl s) (nextAt r e) r e := by
  obtain ⟨g1, m, g2, g3, g4, g5, g6⟩ := h
  rw [g6.next]
  rw [bl_size] at g3
  have hf := rawR_fit s a (m - a) (by omega)
  rw [show ((m - a : Nat) : Int) = (m : Int) - a from by omega, show a + (m - a) = m from by omega] at hf
  have hx : bytesOf ((bl s).take m) = s.extract 0 m := bl_inj (by rw [bytesOf, bl_mk, bl_extract, List.drop_zero])
  rw [hx] at g4 g5
  refine ⟨g1, g2, g3, ?_, by rw [hf], g6⟩
  unfold gotR
  have hp : partR ⟨s, a, false⟩ ((m : Int) - a) = ⟨s.extract 0 m, a, false⟩ := by rw [partR, hf]; rfl
  rw [hp, g4]
  show ((outR _).1, (0 : Int)) = _
  rw [g5]

/-- What a writer has behind some data. -/
structure Kept (T : Nat → Int) (D : Nat → ByteArray) (q : Wr) (K : List (Nat × Nat)) : Prop where
  ok : q.ok
  inv : q.inv
  full : q.full = false
  limit : q.limit = 65536
  len : q.bytes.length ≤ 36864
  segs : Segs T D q.bytes 0 K q.bytes.length
theorem Kept.start (T : Nat → Int) (D : Nat → ByteArray) : Kept T D bigW [] := ⟨bigW_ok, bigW_inv, rfl, rfl, by decide, rfl⟩
theorem Kept.step {T : Nat → Int} {D : Nat → ByteArray} {q : Wr} {K : List (Nat × Nat)} (h : Kept T D q K) {i : Nat} (hl : q.bytes.length ≤ 32768) (hd : (D i).size ≤ 4096) (hr : rightB (T i) (D i) = true) :
    Kept T D (wroteW (T i) (D i) q) (K ++ [(q.bytes.length, i)]) := by
  obtain ⟨_, y, i2, i3, i4, i5, i6, i7⟩ := write_read hr (by omega) (decide (T i ≠ 33)) h.full (by rw [h.limit]; omega) h.ok h.inv
  have hw : wroteW (T i) (D i) q = (readPcs (pieces (T i)) ⟨D i, 0, false⟩).1.foldl (apW (decide (T i ≠ 33))) q := by rw [wroteW, if_pos hr]; rfl
  rw [hw]
  have hs := i7 (bytesOf (q.bytes ++ y)) (bl_mk _)
  refine ⟨foldW_ok _ _ _ h.ok, i6, i4, i5.trans h.limit, by rw [i2, List.length_append]; omega, ?_⟩
  rw [i2]
  refine (h.segs.more y).snoc (by rw [List.length_append]; omega) (Nat.le_refl _) ?_ ?_
  · rw [List.take_length]; exact hs.1
  · rw [List.take_length]; exact hs.2

set_option maxHeartbeats 1000000 in
theorem begins2_any (w : World) : Calls Try.prog 26 #[] w fun e w' => e = .returned (.bool true) ∧ Ext w w' := by
  have h2 : (labelsB ⟨#[1, 97, 3, 111, 114, 103, 0]⟩).length = 2 := by decide +kernel
  have CC := Lib.hid fun W => h2 ▸ Count_any ⟨#[1, 97, 3, 111, 114, 103, 0]⟩ W (by decide)
  clear h2
  go_enter Try.func26, Try.ntmps26
  go_wp2_with fail
  refine (CC.out _).mono ?_
  rintro e w' ⟨rfl, hx⟩
  have HX := Lib.hid hx; clear hx
  go_wp2
  go_ret
  exact ⟨rfl, HX.out⟩

end Go.Proofs.Yteoelhhkdfmaiaa
