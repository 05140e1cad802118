/- What keyed's with and Put tell. Conditions: tables that are not endless. -/
import Derived.Test.YtjnaknfnoibncaaHashB
import Derived.Deep.AppendLies
import Derived.Deep.Upon
import Derived.Laws.MakeOwn
namespace Go.Proofs.Ytjnaknfnoibncaa
open Go Go.RowKit Go.Shelf
attribute [local go_sem] Oper.semAt_some wide_fn wide_depth

theorem step_append_spare {P : Program} {w : World} {ops : Array Oper} {o : Oper} {a : Act} {K : Act → World → Prop} {Q : Exit → Act → World → Prop} {E : Prop} (hgd : o.guard = none) (s x : Operand) (t : TypeId)
    (ho : o.op = .call { callee := .builtin .append, args := #[s, x], argTypes := #[t, t] })
    (base : Nat) (e : TypeId) (i : TypeInfo) (size : Nat) (ht : P.underlying t = some (.slice e)) (hi : P.info? e = some i) (hsize : i.size = size)
    (g n cap : Nat) (xs : List Value) (hs : a.eval s = .slice (some ⟨g, 0, none⟩) n cap) (hown : w.ownsRow base e size (.slice (some ⟨g, 0, none⟩) n cap) n xs)
    (ad : Addr) (m c : Nat) (news : List Value) (hx : a.eval x = .slice (some ad) m c) (hl : news.length = m * size) (hnews : ∀ j u, news[j]? = some u → w.cell? (ad.add j) = some u) (h1 : ∀ u ∈ news, u.oneCell' = true)
    (hroom : n + m ≤ cap)
    (h : ∀ w', w'.ownsRow base e size (.slice (some ⟨g, 0, none⟩) (n + m) cap) (n + m) (xs ++ news) → w.grownBy w' (some g) → K (a.put o.dst (.slice (some ⟨g, 0, none⟩) (n + m) cap)) w') :
    if Region.wanted o (yielded ops a.tmps) = true then Oper.wp P o a w K Q else E := by
  have hw : Region.wanted o (yielded ops a.tmps) = true := by simp [Region.wanted, hgd]
  rw [if_pos hw]
  exact wp_append_own_spare w s x t ho base e i size ht hi hsize g n cap xs hs hown ad m c news hx hl hnews h1 hroom h

theorem news_alloc (w : World) (cs : Array Value) (t : TypeId) : ∀ j u, cs.toList[j]? = some u → (w.alloc (.cells cs t)).cell? ((⟨w.heap.size, 0, none⟩ : Addr).add j) = some u :=
  World.news_of_block (World.alloc_heap_new w (.cells cs t))
theorem add_block (b o j : Nat) : ((⟨b, o, none⟩ : Addr).add j).block = b := by unfold Addr.add; split <;> rfl
theorem infoS : (Try.prog.info? 91).map (fun i => (i.zero, i.size, i.bytes)) = some (some (.agg #[.string ⟨#[]⟩, .string ⟨#[]⟩, .int .u64 0]), 3, 40) := by kernel_rfl
/-- The cells of a table, one behind the other. -/
def flatS (l : List SumC) : List Value := ((l.map SumC.cells).map Array.toList).flatten
theorem flatS_len (l : List SumC) : (flatS l).length = l.length * 3 := by
  unfold flatS
  induction l with
  | nil => rfl
  | cons x l ih => rw [List.map_cons, List.map_cons, List.flatten_cons, List.length_append, ih]; simp [SumC.cells, Nat.add_mul]; omega
theorem flatS_one (l : List SumC) : ∀ u ∈ flatS l, u.oneCell' = true := by
  intro u hu
  obtain ⟨q, hq, hu⟩ := List.mem_flatten.1 hu
  obtain ⟨c, hc, rfl⟩ := List.mem_map.1 hq
  obtain ⟨x, _, rfl⟩ := List.mem_map.1 hc
  simp only [SumC.cells, List.mem_cons, List.not_mem_nil, or_false] at hu
  rcases hu with (rfl | rfl | rfl) <;> rfl
theorem flatS_snoc (l : List SumC) (x : SumC) : flatS (l ++ [x]) = flatS l ++ x.cells.toList := by simp [flatS]
theorem flatS_reads {W : World} {b off n cap : Nat} {p : Option Nat} {l : List SumC} (h : SRow W (.slice (some ⟨b, off, p⟩) n cap) 3 (l.map SumC.cells)) : ∀ (j : Nat) (u : Value), (flatS l)[j]? = some u → W.cell? ((⟨b, off, p⟩ : Addr).add j) = some u := by
  refine flat_read (sz := 3) _ (fun j u => W.cell? ((⟨b, off, p⟩ : Addr).add j) = some u) (fun c hc => by obtain ⟨x, _, rfl⟩ := List.mem_map.1 hc; rfl) fun k c hk i u hu => ?_
  obtain ⟨ao2, c2, e, _, _, hc⟩ := h
  obtain ⟨b2, off2, e2, _, h4⟩ := hc k c hk
  simp only [Value.slice.injEq] at e
  rw [← e.1] at e2
  cases e2
  rw [Addr.add_lit]
  have := h4 i u hu
  rw [show off + (k * 3 + i) = off + k * 3 + i from by omega]
  exact this
theorem one_cells (x : SumC) : ∀ u ∈ x.cells.toList, u.oneCell' = true := by
  intro u hu
  simp only [SumC.cells, List.mem_cons, List.not_mem_nil, or_false] at hu
  rcases hu with (rfl | rfl | rfl) <;> rfl

set_option maxRecDepth 100000 in
set_option maxHeartbeats 1000000 in
theorem with_any (l : List SumC) (x : SumC) (v : Value) (w : World) (hr : SRow w v 3 (l.map SumC.cells)) (hl : l.length < 4294967296) :
    Calls Try.prog 66 #[v, x.val] w fun e w' => e = .returned (.slice (some ⟨w.heap.size + 1, 0, none⟩) (l.length + 1) (l.length + 1)) ∧ SRow w' (.slice (some ⟨w.heap.size + 1, 0, none⟩) (l.length + 1) (l.length + 1)) 3 ((l ++ [x]).map SumC.cells) ∧ Ext w w' := by
  have Hr := Lib.hid hr
  obtain ⟨ao, ac, rfl, hlm⟩ := hr.open
  clear hr
  rw [List.length_map] at Hr hlm ⊢
  obtain ⟨i0, hi, hz0, hz1, hz2⟩ := info_parts infoS
  obtain ⟨xk, xs, xn⟩ := x
  unfold SumC.val SumC.cells
  simp only
  obtain ⟨w1, h1⟩ : ∃ w1, w.alloc (.cells #[.string xk, .string xs, .int .u64 (xn : Int)] 91) = w1 := ⟨_, rfl⟩
  have hzw : w1.heap.size = w.heap.size + 1 := by rw [← h1]; simp
  have X1 : Ext w w1 := by rw [← h1]; exact (Ext.refl w).alloc _
  have hc1 : ∀ j u, (#[Value.string xk, .string xs, .int .u64 (xn : Int)])[j]? = some u → w1.cell? ⟨w.heap.size, j, none⟩ = some u := fun j u hu => by rw [← h1]; rw [cell_new]; exact hu
  obtain ⟨w2, hmk, hown, hgr⟩ := run_make_own (P := Try.prog) w1 (w.heap.size + 1) 22 91 i0 _ 3 Try.underlying22 hi hz0 hz1 .i64 .i64 (l.length + 1) (by rw [hz2]; omega) (by unfold maxLen; omega) (by omega)
  rw [hzw] at hown hmk
  have hmk' : (Instr.makeSlice 22 (.int .i64 0) (.int .i64 ((l.length : Int) + 1))).run Try.prog w1 = .ok (.slice (some ⟨w.heap.size + 1, 0, none⟩) 0 (l.length + 1)) w2 := by rw [← hmk]; rfl
  clear hmk
  have Hown := Lib.hid hown; clear hown
  have Hgr := Lib.hid hgr; clear hgr
  have hg2 : w1.heap.size ≤ w2.heap.size := Hgr.out.size
  have k0 : w2.cell? ⟨w.heap.size, 0, none⟩ = some (.string xk) := by rw [Hgr.out.cell_far _ (by show w.heap.size < _; omega) (by simp)]; exact hc1 0 _ rfl
  have k1 : w2.cell? ⟨w.heap.size, 1, none⟩ = some (.string xs) := by rw [Hgr.out.cell_far _ (by show w.heap.size < _; omega) (by simp)]; exact hc1 1 _ rfl
  have k2 : w2.cell? ⟨w.heap.size, 2, none⟩ = some (.int .u64 (xn : Int)) := by rw [Hgr.out.cell_far _ (by show w.heap.size < _; omega) (by simp)]; exact hc1 2 _ rfl
  have hwr : IntKind.i64.wrap ((l.length : Int) + 1) = (l.length : Int) + 1 := IntWalk.i64_in _ (by omega)
  subst h1
  clear hc1 hzw hlm hg2 hz0 hz2
  have HX1 := Lib.hid X1; clear X1
  have Hall := Lib.hid (show w.alloc (.cells #[.string xk, .string xs, .int .u64 (xn : Int)] 91) = w.alloc (.cells #[.string xk, .string xs, .int .u64 (xn : Int)] 91) ∧ Ext w w2 from ⟨rfl, (((Keeps.refl (fun _ => True) w).alloc _).grown Hgr.out (by simp)).ext fun _ _ => trivial⟩)
  have hlt : w.heap.size + 1 < w2.heap.size := (Hown.out.lt _ rfl).2
  cases ao with
  | none =>
    obtain rfl : l = [] := List.map_eq_nil_iff.1 Hr.out.none
    have H1 := Lib.hid (one_cells ⟨xk, xs, xn⟩)
    simp only [List.length_nil, Nat.zero_add] at Hown hmk' hwr ⊢
    simp only [Int.natCast_zero, Int.zero_add] at hmk' hwr
    clear hl
    go_enter Try.func66, Try.ntmps66
    go_wp2
    go_region_held3 (fun w' => w'.cell? ⟨w.heap.size, 0, none⟩ = some (.string xk) ∧ w'.cell? ⟨w.heap.size, 1, none⟩ = some (.string xs) ∧ w'.cell? ⟨w.heap.size, 2, none⟩ = some (.int .u64 (xn : Int)))
      (first | go_keep | (go_split_ands; (refine ⟨?_, ?_, ?_⟩ <;> (rw [hgr4.cell_far _ (by simp; omega) (by simp)]; assumption))))
      ((refine step_append_spare (by rfl) (.tmp 12) (.tmp 14) _ rfl (w.heap.size + 1) 91 i0 3 Try.underlying22 hi hz1 (w.heap.size + 1) 0 1 [] (by rfl) (by first | exact Hown.out | exact Hown.out.alloc _) ⟨_, 0, none⟩ 1 1 [.string xk, .string xs, .int .u64 (xn : Int)] (by rfl) rfl (by exact news_alloc _ #[.string xk, .string xs, .int .u64 (xn : Int)] _) H1.out (by omega) ?_; intro w4 hown4 hgr4))
    all_goals
      have hK4 : Ext w w4 := by
        refine Keeps.ext (K := fun j => j < w.heap.size) ?_ fun _ h => h
        have hK2 : Keeps (fun j => j < w.heap.size) w w2 := ((Keeps.refl (fun j => j < w.heap.size) w).alloc _).grown Hgr.out (by simp)
        have hm : ∀ k, some (w.heap.size + 1) = some k → ¬ k < w.heap.size := fun k hk => by cases hk; omega
        first
        | exact (hK2.drew.alloc _).drew.grown hgr4 hm
        | exact (hK2.alloc _).drew.grown hgr4 hm
        | exact (hK2.drew.alloc _).grown hgr4 hm
        | exact (hK2.alloc _).grown hgr4 hm
        | exact ((hK2.drew.drew).alloc _).grown hgr4 hm
      have hrow : SRow w4 (.slice (some ⟨w.heap.size + 1, 0, none⟩) 1 1) 3 ([(⟨xk, xs, xn⟩ : SumC)].map SumC.cells) := by
        refine owns_row (base := w.heap.size + 1) (T := 91) SumC.cells (fun x _ => rfl) ?_
        exact hown4
      clear hown4 hgr4
      go_wp2
      go_ret
      exact ⟨rfl, hrow, hK4⟩
  | some a =>
    obtain ⟨b, off, p⟩ := a
    have Hrd := Lib.hid (flatS_reads (Hr.out.ext Hall.out.2))
    have Hlen := Lib.hid (flatS_len l)
    have Hone := Lib.hid (flatS_one l)
    have H1 := Lib.hid (one_cells ⟨xk, xs, xn⟩)
    go_enter Try.func66, Try.ntmps66
    go_wp2
    go_region_held3 (fun w' => w'.cell? ⟨w.heap.size, 0, none⟩ = some (.string xk) ∧ w'.cell? ⟨w.heap.size, 1, none⟩ = some (.string xs) ∧ w'.cell? ⟨w.heap.size, 2, none⟩ = some (.int .u64 (xn : Int)))
      (first | go_keep | (go_split_ands; (refine ⟨?_, ?_, ?_⟩ <;> (rw [hgr3.cell_far _ (by simp; omega) (by simp)]; assumption))) | (go_split_ands; (refine ⟨?_, ?_, ?_⟩ <;> (rw [hgr4.cell_far _ (by simp; omega) (by simp)]; assumption))))
      (first
        | ((refine step_append_spare (by rfl) (.tmp 10) (.tmp 11) _ rfl (w.heap.size + 1) 91 i0 3 Try.underlying22 hi hz1 (w.heap.size + 1) 0 (l.length + 1) [] (by rfl) (by first | exact Hown.out | exact Hown.out.alloc _) ⟨b, off, p⟩ l.length ac (flatS l) (by rfl) Hlen.out (by first | exact Hrd.out | exact fun j u h => ((Keeps.refl (fun _ => True) w2).alloc _).cell (Hrd.out j u h) trivial) Hone.out (by omega) ?_; intro w3 hown3 hgr3; rw [Nat.zero_add, List.nil_append] at hown3; rw [Nat.zero_add]; have hs3 : w.heap.size + 1 < w3.heap.size := (hown3.lt _ rfl).2))
        | ((refine step_append_spare (by rfl) (.tmp 12) (.tmp 14) _ rfl (w.heap.size + 1) 91 i0 3 Try.underlying22 hi hz1 (w.heap.size + 1) l.length (l.length + 1) (flatS l) (by rfl) (by first | exact hown3 | exact hown3.alloc _) ⟨_, 0, none⟩ 1 1 [.string xk, .string xs, .int .u64 (xn : Int)] (by rfl) rfl (by first | exact news_alloc _ #[.string xk, .string xs, .int .u64 (xn : Int)] _ | exact fun j u h => (hgr3.cell_far _ (by rw [add_block]; simp) (by rw [add_block]; simp; omega)).trans (news_alloc _ #[.string xk, .string xs, .int .u64 (xn : Int)] _ j u h)) H1.out (by omega) ?_; intro w4 hown4 hgr4)))
    all_goals
      have hK4 : Ext w w4 := by
        refine Keeps.ext (K := fun j => j < w.heap.size) ?_ fun _ h => h
        have hK2 : Keeps (fun j => j < w.heap.size) w w2 := ((Keeps.refl (fun j => j < w.heap.size) w).alloc _).grown Hgr.out (by simp)
        have hm : ∀ k, some (w.heap.size + 1) = some k → ¬ k < w.heap.size := fun k hk => by cases hk; omega
        first
        | exact ((hK2.drew.grown hgr3 hm).alloc _).drew.grown hgr4 hm
        | exact ((hK2.drew.grown hgr3 hm).alloc _).grown hgr4 hm
        | exact ((hK2.grown hgr3 hm).alloc _).drew.grown hgr4 hm
        | exact ((hK2.grown hgr3 hm).alloc _).grown hgr4 hm
        | exact ((hK2.alloc _).drew.grown hgr3 hm).drew.grown hgr4 hm
        | exact ((hK2.alloc _).drew.grown hgr3 hm).grown hgr4 hm
        | exact ((hK2.drew.alloc _).drew.grown hgr3 hm).grown hgr4 hm
        | exact ((hK2.drew.alloc _).grown hgr3 hm).grown hgr4 hm
      have hrow : SRow w4 (.slice (some ⟨w.heap.size + 1, 0, none⟩) (l.length + 1) (l.length + 1)) 3 ((l ++ [(⟨xk, xs, xn⟩ : SumC)]).map SumC.cells) := by
        refine owns_row (base := w.heap.size + 1) (T := 91) SumC.cells (fun x _ => rfl) ?_
        rw [List.length_append]
        have he : ((l ++ [(⟨xk, xs, xn⟩ : SumC)]).map fun x => (SumC.cells x).toList).flatten = flatS l ++ [.string xk, .string xs, .int .u64 (xn : Int)] := by simp [flatS, SumC.cells, Function.comp_def]
        rw [he]
        exact hown4
      clear hown3 hown4 hgr3 hgr4
      go_wp2
      go_ret
      exact ⟨rfl, hrow, hK4⟩

/-- A row stays where its own block is left alone. -/
theorem srow_at_keep {A B : World} {b off n cap : Nat} {p : Option Nat} {sz : Nat} {L : List (Array Value)} {K : Nat → Prop} (h : SRow A (.slice (some ⟨b, off, p⟩) n cap) sz L) (k : Keeps K A B) (hb : K b) : SRow B (.slice (some ⟨b, off, p⟩) n cap) sz L := by
  obtain ⟨ao, c, e, h1, h2, hc⟩ := h
  refine ⟨ao, c, e, h1, h2, fun i x hi => ?_⟩
  obtain ⟨b2, off2, e2, h3, h4⟩ := hc i x hi
  simp only [Value.slice.injEq] at e
  refine ⟨b2, off2, e2, h3, fun j u hu => k.cell (h4 j u hu) ?_⟩
  rw [← e.1] at e2
  cases e2
  exact hb
/-- What is put: why not. -/
def putE (l : List SumC) (k s : ByteArray) : Int := if sumE k s ≠ 0 then sumE k s else if 0 ≤ findI k s l then 4 else if 4096 ≤ l.length then 8 else 0
def PutPost (l : List SumC) (k s : ByteArray) (n : Nat) (w : World) (e : Ending) (w' : World) : Prop :=
  (putE l k s ≠ 0 ∧ e = .returned (.tuple #[.agg #[.bool false, .slice none 0 0], .int .i64 (putE l k s)]) ∧ Ext w w') ∨
  (putE l k s = 0 ∧ ∃ v', e = .returned (.tuple #[.agg #[.bool true, v'], .int .i64 0]) ∧ SRow w' v' 3 ((l ++ [(⟨k, s, n⟩ : SumC)]).map SumC.cells) ∧ Ext w w')

set_option maxRecDepth 100000 in
set_option maxHeartbeats 1000000 in
theorem HPut_any (l : List SumC) (v : Value) (o : Bool) (k s : ByteArray) (n : Nat) (w : World) (hr : SRow w v 3 (l.map SumC.cells)) :
    Calls Try.prog 33 #[.agg #[.bool o, v], .string k, .string s, .int .u64 (n : Int)] w (PutPost l k s n w) := by
  have Hr := Lib.hid hr
  obtain ⟨ao, ac, rfl, hlm⟩ := hr.open
  rw [List.length_map] at hlm
  obtain ⟨nl, hnl⟩ : ∃ nl, l.length = nl := ⟨_, rfl⟩
  rw [List.length_map, hnl] at Hr ⊢
  rw [hnl] at hlm
  clear hr
  have CS := Lib.hid fun W => Sum_any k s W
  rw [sumR_eq] at CS
  have CK := Lib.hid fun W h => Known_any l (.slice ao nl ac) o k s W h
  have CW := Lib.hid fun W h hl => with_any l ⟨k, s, n⟩ (.slice ao nl ac) W h hl
  rw [hnl] at CW
  unfold SumC.val SumC.cells at CW
  have HP : Hid (∀ e w', PutPost l k s n w e w' ↔ PutPost l k s n w e w') := Lib.hid fun _ _ => Iff.rfl
  obtain ⟨w1, h1⟩ : ∃ w1, (w.alloc (.cells #[.bool o, .slice ao nl ac] 24)).alloc (.cells #[.bool false, .slice none 0 0] 24) = w1 := ⟨_, rfl⟩
  have X1 : Ext w w1 := by rw [← h1]; exact ((Ext.refl w).alloc _).alloc _
  have hz : (w.alloc (.cells #[.bool o, .slice ao nl ac] 24)).heap.size = w.heap.size + 1 := by simp
  have hA : w1.heap[w.heap.size]? = some (.cells #[.bool o, .slice ao nl ac] 24 (0, 0)) := by
    rw [← h1]
    exact ((Keeps.refl (fun _ => True) _).alloc _).heap (World.alloc_heap_new w _) trivial
  have hB : w1.heap[w.heap.size + 1]? = some (.cells #[.bool false, .slice none 0 0] 24 (0, 0)) := by
    rw [← h1, ← hz]
    exact World.alloc_heap_new _ _
  have Hc := Lib.hid (show ∀ w2, Ext w1 w2 → w2.cell? ⟨w.heap.size, 0, none⟩ = some (.bool o) ∧ w2.cell? ⟨w.heap.size, 1, none⟩ = some (.slice ao nl ac) ∧ w2.cell? ⟨w.heap.size + 1, 0, none⟩ = some (.bool false) ∧ w2.cell? ⟨w.heap.size + 1, 1, none⟩ = some (.slice none 0 0) ∧ w2.frozen? ⟨w.heap.size + 1, 0, none⟩ = false ∧ w2.frozen? ⟨w.heap.size + 1, 1, none⟩ = false from fun w2 h => by
    have g1 := h.keeps.heap hA trivial
    have g2 := h.keeps.heap hB trivial
    exact ⟨by simp [World.cell?, g1], by simp [World.cell?, g1], by simp [World.cell?, g2], by simp [World.cell?, g2], by simp [World.frozen?, g2], by simp [World.frozen?, g2]⟩)
  have HB := Lib.hid (show ∀ w2, Ext w1 w2 → w2.heap[w.heap.size + 1]? = some (.cells #[.bool false, .slice none 0 0] 24 (0, 0)) from fun w2 h => h.keeps.heap hB trivial)
  clear hA hB hz
  have HX := Lib.hid X1; clear X1
  obtain ⟨ee, he⟩ : ∃ y, sumE k s = y := ⟨_, rfl⟩
  obtain ⟨y, hy⟩ : ∃ y, sumV k s = y := ⟨_, rfl⟩
  rw [he, hy] at CS
  obtain ⟨r, hr⟩ : ∃ r, findI k s l = r := ⟨_, rfl⟩
  rw [hr] at CK
  have HE : Hid (putE l k s = if ee ≠ 0 then ee else if 0 ≤ r then 4 else if 4096 ≤ nl then 8 else 0) := Lib.hid (by unfold putE; rw [he, hr, hnl])
  clear he hy hr
  subst h1
  go_enter Try.func33, Try.ntmps33
  go_wp2_with (first
    | ((with_reducible refine (CS.out _).mono ?_); rintro e w' ⟨rfl, hx⟩; obtain ⟨hA0, hA1, hB0, hB1, hF0, hF1⟩ := Hc.out _ hx; have HXo := Lib.hid hx; have HX2 := Lib.hid (HX.out.trans hx); clear hx)
    | ((with_reducible refine (CK.out _ (Hr.out.ext HX2.out)).mono ?_); rintro e w3 ⟨rfl, hx⟩; clear hA0 hA1 hB0 hB1 hF0 hF1; obtain ⟨hA0, hA1, hB0, hB1, hF0, hF1⟩ := Hc.out _ (HXo.out.trans hx); have HXp := Lib.hid (HXo.out.trans hx); have HX3 := Lib.hid (HX2.out.trans hx); clear hx)
    | ((with_reducible refine (CW.out _ (Hr.out.ext HX3.out) (by omega)).mono ?_); rintro e w4 ⟨rfl, hrow, hx⟩; clear hA0 hA1 hB0 hB1 hF0 hF1; obtain ⟨hA0, hA1, hB0, hB1, hF0, hF1⟩ := Hc.out _ (HXp.out.trans hx); have HXq := Lib.hid (HXp.out.trans hx); have HX4 := Lib.hid (HX3.out.trans hx); have HXr := Lib.hid hx; have Hrow := Lib.hid hrow; clear hx hrow))
  · refine bodyPost_ret (v := .tuple #[.agg #[.bool false, .slice none 0 0], .int .i64 ee]) ?_ rfl ?_
    · exact results_row2 (P := Try.prog) (fn := Try.f33) (p := 8) (q := 9) (ty := 24) rfl _ _ (w.heap.size + 1) _ #[.bool false, .slice none 0 0] _ _ _ rfl rfl (set_two (HB.out _ HXo.out) _ _) Try.underlying24 rfl (by kernel_rfl)
    · have h1 : (ee != 0) = true := by assumption
      have h2 : ee ≠ 0 := by simpa using h1
      have h3 : putE l k s = ee := by rw [HE.out, if_pos h2]
      exact .inl ⟨by rw [h3]; exact h2, by rw [h3], (HX2.out.setCellX (by simp) _).setCellX (by simp) _⟩
  · refine bodyPost_ret (v := .tuple #[.agg #[.bool false, .slice none 0 0], .int .i64 4]) ?_ rfl ?_
    · exact results_row2 (P := Try.prog) (fn := Try.f33) (p := 8) (q := 9) (ty := 24) rfl _ _ (w.heap.size + 1) _ #[.bool false, .slice none 0 0] _ _ _ rfl rfl (set_two (HB.out _ HXp.out) _ _) Try.underlying24 rfl (by kernel_rfl)
    · have h1 : (ee != 0) = false := by assumption
      have h4 : 0 ≤ r := by assumption
      have h2 : ¬ ee ≠ 0 := by simpa using h1
      have h3 : putE l k s = 4 := by rw [HE.out, if_neg h2, if_pos h4]
      exact .inl ⟨by rw [h3]; decide, by rw [h3], (HX3.out.setCellX (by simp) _).setCellX (by simp) _⟩
  · refine bodyPost_ret (v := .tuple #[.agg #[.bool false, .slice none 0 0], .int .i64 8]) ?_ rfl ?_
    · exact results_row2 (P := Try.prog) (fn := Try.f33) (p := 8) (q := 9) (ty := 24) rfl _ _ (w.heap.size + 1) _ #[.bool false, .slice none 0 0] _ _ _ rfl rfl (set_two (HB.out _ HXp.out) _ _) Try.underlying24 rfl (by kernel_rfl)
    · have h1 : (ee != 0) = false := by assumption
      have h2 : ¬ ee ≠ 0 := by simpa using h1
      have h3 : putE l k s = 8 := by rw [HE.out, if_neg h2, if_neg (by omega), if_pos (by omega)]
      exact .inl ⟨by rw [h3]; decide, by rw [h3], (HX3.out.setCellX (by simp) _).setCellX (by simp) _⟩
  · refine bodyPost_ret (v := .tuple #[.agg #[.bool true, .slice (some ⟨w3.heap.size + 1, 0, none⟩) (nl + 1) (nl + 1)], .int .i64 0]) ?_ rfl ?_
    · exact results_row2 (P := Try.prog) (fn := Try.f33) (p := 8) (q := 9) (ty := 24) rfl _ _ (w.heap.size + 1) _ #[.bool true, .slice (some ⟨w3.heap.size + 1, 0, none⟩) (nl + 1) (nl + 1)] _ _ _ rfl rfl (set_two (HB.out _ HXq.out) _ _) Try.underlying24 rfl (by kernel_rfl)
    · have h1 : (ee != 0) = false := by assumption
      have h2 : ¬ ee ≠ 0 := by simpa using h1
      have h3 : putE l k s = 0 := by rw [HE.out, if_neg h2, if_neg (by omega), if_neg (by omega)]
      refine .inr ⟨h3, _, rfl, ?_, (HX4.out.setCellX (by simp) _).setCellX (by simp) _⟩
      refine srow_at_keep (K := fun j => j ≠ w.heap.size + 1) Hrow.out (((Keeps.refl _ _).setCell (by simp) _).setCell (by simp) _) ?_
      have := HXp.out.size
      simp at this
      omega
end Go.Proofs.Ytjnaknfnoibncaa
