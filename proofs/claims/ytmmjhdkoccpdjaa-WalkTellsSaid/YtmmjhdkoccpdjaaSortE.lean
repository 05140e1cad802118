/- What the library's compacting does with a row of walk's Sort: of neighbours of one key the first is left. Conditions: the row. -/
import Derived.Test.YtmmjhdkoccpdjaaListA
import Derived.Lib.SliceRun
namespace Go.Proofs.Ytmmjhdkoccpdjaa
open Go Go.RowKit Go.Shelf
attribute [local irreducible] wpStill

def cstep (p : List El × Option El) (y : El) : List El × Option El :=
  (match p.2 with | some x => if y.key = x.key then p.1 else p.1 ++ [y] | none => p.1 ++ [y], some y)
def compactP (l : List El) : List El × Option El := l.foldl cstep ([], none)
def compactE (l : List El) : List El := (compactP l).1
theorem compactP_snoc (l : List El) (y : El) : compactP (l ++ [y]) = cstep (compactP l) y := by rw [compactP, List.foldl_append]; rfl
theorem compactE_snoc (A : List El) (x y : El) : compactE (A ++ [x] ++ [y]) = if y.key = x.key then compactE (A ++ [x]) else compactE (A ++ [x]) ++ [y] := by
  have h : (compactP (A ++ [x])).2 = some x := by rw [compactP_snoc]; rfl
  rw [compactE, compactP_snoc, cstep, h]
  rfl
theorem compactE_one (x : El) : compactE [x] = [x] := rfl

theorem prefix_row {w : World} {base g cap size n i : Nat} {e : TypeId} {xs : List Value} (h : w.ownsRow base e size (.slice (some ⟨g, 0, none⟩) n cap) n xs) (hi : i ≤ n) :
    w.ownsRow base e size (.slice (some ⟨g, 0, none⟩) i cap) i (xs.take (i * size)) := by
  have hle : i * size ≤ n * size := Nat.mul_le_mul_right _ hi
  refine ⟨by rw [List.length_take, h.1]; omega, ?_⟩
  rcases h.2 with ⟨h1, _⟩ | ⟨g', cap', cur, h1, hb, hg, hn, hc, hs, ht⟩
  · cases h1
  · simp only [Value.slice.injEq, Option.some.injEq, Addr.mk.injEq, and_true, true_and] at h1
    obtain ⟨rfl, rfl⟩ := h1
    refine .inr ⟨g, cap, cur, rfl, hb, hg, by omega, hc, hs, ?_⟩
    rw [← ht, List.take_take]
    congr 1
    omega
theorem setCells_row {base g cap size n : Nat} {e : TypeId} {xs : List Value} : ∀ (vs : List Value) (o : Nat) (w : World), w.ownsRow base e size (.slice (some ⟨g, 0, none⟩) n cap) n xs → n * size ≤ o →
    (w.setCells g o vs).ownsRow base e size (.slice (some ⟨g, 0, none⟩) n cap) n xs ∧ Keeps (fun k => k ≠ g) w (w.setCells g o vs)
  | [], _, w, h, _ => ⟨h, Keeps.refl _ _⟩
  | v :: vs, o, w, h, ho => by
    have h1 := (h.stored o v).1
    rw [List.set_eq_of_length_le (by rw [h.1]; exact ho)] at h1
    obtain ⟨h2, h3⟩ := setCells_row vs (o + 1) _ h1 (by omega)
    exact ⟨h2, ((Keeps.refl _ w).setCell (p := ⟨g, o, none⟩) (fun h => h rfl) v).trans h3⟩

/-- clear of a slice of elements that are placed: the cells hold zeros. -/
theorem run_clear_placed (w : World) (b o n c : Nat) (hn : 0 < n)
    (hc : ∀ j, j < n * 2 → (w.cell? ⟨b, o + j, none⟩).isSome = true) (hf : ∀ j, j < n * 2 → w.frozen? ⟨b, o + j, none⟩ = false) :
    ∃ vs : List Value, ∀ ty : TypeId, (Builtin.clear_ #[84] ty #[.slice (some ⟨b, o, none⟩) n c]).run Try.prog w = .ok (.tuple #[]) (w.setCells b o vs) := by
  have hz : ∀ w, (zeroValue 86).run Try.prog w = .ok (.agg #[.string ⟨#[]⟩, .slice none 0 0]) w := by
    intro w
    simp [zeroValue, go_sem]
    rfl
  refine ⟨(Builtin.zeroCells #[.string ⟨#[]⟩, .slice none 0 0] n).toList, fun ty => ?_⟩
  have hlen : (Builtin.zeroCells #[Value.string ⟨#[]⟩, .slice none 0 0] n).toList.length = n * 2 := by simp [Builtin.zeroCells]
  have hone : ∀ v ∈ (Builtin.zeroCells #[Value.string ⟨#[]⟩, .slice none 0 0] n).toList, v.oneCell' = true := by
    intro v hv
    simp only [Builtin.zeroCells, Array.toList_map, List.mem_map] at hv
    obtain ⟨i, _, rfl⟩ := hv
    have : i % 2 = 0 ∨ i % 2 = 1 := by omega
    rcases this with h | h <;> simp [h] <;> rfl
  have hst := run_storeCells_cells (P := Try.prog) b o (Builtin.zeroCells #[Value.string ⟨#[]⟩, .slice none 0 0] n).toList 0 w (by rw [hlen]; simpa using hc) (by rw [hlen]; simpa using hf) hone
  simp only [Nat.add_zero] at hst
  obtain ⟨m, rfl⟩ : ∃ m, n = m + 1 := ⟨n - 1, by omega⟩
  have hcells : (Value.agg #[Value.string ⟨#[]⟩, .slice none 0 0]).cells = #[Value.string ⟨#[]⟩, .slice none 0 0] := rfl
  simp [Builtin.clear_, run_underlying Try.underlying84, hz, hcells, hst]

theorem drop_beyond (P M : List El) (a b : El) (t : Nat) (h : P.length + 1 ≤ t) : (P ++ a :: M).drop t = (P ++ b :: M).drop t := by
  have e : t - P.length = (t - P.length - 1) + 1 := by omega
  rw [List.drop_append, List.drop_append, e]
  rfl
theorem Row.put {base g cap : Nat} {w : World} {P M : List El} {z v : El} (h : Row base g cap w (P ++ z :: M)) (hv : OkEl g w v) {c : Nat} (hc : P.length = c) :
    Row base g cap ((w.setCell ⟨g, c * 2, none⟩ (.string v.name)).setCell ⟨g, c * 2 + 1, none⟩ (.slice v.ao v.key.length v.cap)) (P ++ v :: M) ∧
    Keeps (fun k => k ≠ g) w ((w.setCell ⟨g, c * 2, none⟩ (.string v.name)).setCell ⟨g, c * 2 + 1, none⟩ (.slice v.ao v.key.length v.cap)) := by
  subst hc
  have hk : Keeps (fun k => k ≠ g) w ((w.setCell ⟨g, P.length * 2, none⟩ (.string v.name)).setCell ⟨g, P.length * 2 + 1, none⟩ (.slice v.ao v.key.length v.cap)) :=
    ((Keeps.refl _ w).setCell (p := ⟨g, _, none⟩) (fun h => h rfl) _).setCell (p := ⟨g, _, none⟩) (fun h => h rfl) _
  have h1 := ((h.own.stored (P.length * 2) (.string v.name)).1.stored (P.length * 2 + 1) (.slice v.ao v.key.length v.cap)).1
  have h2 := rowOf_set P M z v
  simp only [El.pv] at h2
  rw [h2, show (P ++ z :: M).length = (P ++ v :: M).length by simp] at h1
  refine ⟨⟨h1, fun e he => ?_⟩, hk⟩
  simp only [List.mem_append, List.mem_cons] at he
  rcases he with he | rfl | he
  · exact (h.ok e (by simp [he])).keeps hk
  · exact hv.keeps hk
  · exact (h.ok e (by simp [he])).keeps hk

set_option maxRecDepth 100000 in
set_option maxHeartbeats 8000000 in
theorem compact_any (base g cap : Nat) (l : List El) (w : World) (h : Row base g cap w l) (hlen : l.length ≤ 4294967296) :
    Calls Try.prog 85 #[.slice (some ⟨g, 0, none⟩) l.length cap, .func (.func 86) #[] #[]] w
      fun e w' => e = .returned (.slice (some ⟨g, 0, none⟩) (compactE l).length cap) ∧ Row base g cap w' (compactE l) ∧ Keeps (fun k => k ≠ g) w w' := by
  have hmx : Try.prog.follows .mixedOrders = true := by kernel_rfl
  have H := Lib.hid h; clear h
  obtain ⟨n, hn⟩ : ∃ n, l.length = n := ⟨_, rfl⟩
  rw [hn] at hlen ⊢
  have Hn := Lib.hid hn; clear hn
  have hcap : n ≤ cap := by
    have := H.out.own
    rw [Hn.out] at this
    rcases this.2 with ⟨h1, _⟩ | ⟨g', cap', cur, h1, hb, hg, hn, hc, _⟩
    · cases h1
    · simp only [Value.slice.injEq] at h1; omega
  by_cases h2 : n < 2
  · have hc : compactE l = l := by
      have := Hn.out
      match l, this with
      | [], _ => rfl
      | [x], _ => rfl
      | _ :: _ :: _, h => simp at h; omega
    have Hc := Lib.hid hc; clear hc
    have h2' : decide ((n : Int) < 2) = true := by simp; omega
    rw [Hc.out, Hn.out]
    go_enter Try.func85, Try.ntmps85
    go_wp2
    go_ret
    exact ⟨rfl, H.out, Keeps.refl _ _⟩
  · have h2' : decide ((n : Int) < 2) = false := by simp; omega
    have Hstart : Hid (compactE (l.take 1) = l.take 1) := Lib.hid (by
      have := Hn.out
      match l, this with
      | [], h => simp at h; omega
      | x :: _, _ => rfl)
    go_enter Try.func85, Try.ntmps85
    go_wp2_with fail
    go_loopw [5] (fun s5 wr => ∃ i : Nat, s5 = .int .i64 (i : Int) ∧ 1 ≤ i ∧ i ≤ n ∧ compactE (l.take i) = l.take i ∧ Row base g cap wr l ∧ Ext w wr) (fun s5 _ => n - (intOf s5).toNat)
    case atStart => exact ⟨1, rfl, Nat.le_refl _, by omega, Hstart.out, H.out, Ext.refl _⟩
    case round =>
      obtain ⟨i, rfl, hi1, hin, hce, hrow, hx⟩ := hrel
      have HX := Lib.hid hx; clear hx
      have Hce := Lib.hid hce; clear hce
      by_cases hlt : i < n
      · obtain ⟨p, hp⟩ : ∃ p, i = p + 1 := ⟨i - 1, by omega⟩
        obtain ⟨A, x, y, B, hl, hA, ht1, ht2⟩ : ∃ A x y B, l = A ++ x :: y :: B ∧ A.length = p ∧ l.take i = A ++ [x] ∧ l.take (i + 1) = A ++ [x] ++ [y] := by
          have hn' := Hn.out
          have e1 : l.take i = l.take p ++ [l[p]'(by omega)] := by
            have h := List.take_succ_eq_append_getElem (l := l) (i := p) (by omega)
            rwa [← hp] at h
          have e2 : l.take (i + 1) = l.take i ++ [l[i]'(by omega)] := List.take_succ_eq_append_getElem (by omega)
          have d1 : l.drop p = l[p]'(by omega) :: l.drop i := by
            have h := List.drop_eq_getElem_cons (l := l) (i := p) (by omega)
            rwa [← hp] at h
          have d2 : l.drop i = l[i]'(by omega) :: l.drop (i + 1) := List.drop_eq_getElem_cons (by omega)
          refine ⟨l.take p, l[p]'(by omega), l[i]'(by omega), l.drop (i + 1), ?_, by rw [List.length_take]; omega, e1, by rw [e2, e1]⟩
          rw [← d2, ← d1, List.take_append_drop]
        have hcs := compactE_snoc A x y
        rw [← ht2, ← ht1, Hce.out] at hcs
        have hown := hrow.own
        rw [Hn.out] at hown
        have hokx := hrow.ok x (by rw [hl]; simp)
        have hoky := hrow.ok y (by rw [hl]; simp)
        have c1 := hown.cellAt (p * 2) (by omega)
        have c2 := hown.cellAt (p * 2 + 1) (by omega)
        have c3 := hown.cellAt ((p + 1) * 2) (by omega)
        have c4 := hown.cellAt ((p + 1) * 2 + 1) (by omega)
        have hat1 := rowOf_at A (y :: B) x
        have hat2 := rowOf_at (A ++ [x]) B y
        simp only [List.append_assoc, List.singleton_append, List.length_append, List.length_singleton] at hat2
        rw [← hl, hA] at hat1 hat2
        rw [hat1.1] at c1
        rw [hat1.2, El.pv] at c2
        rw [hat2.1] at c3
        rw [hat2.2, El.pv] at c4
        rw [← hp] at c3 c4
        have hpn : p < n := by omega
        have q1 : IntKind.i64.wrap ((i : Int) - 1) = (p : Int) := by rw [IntWalk.i64_in _ (by omega)]; omega
        have q2 : IntKind.i64.wrap ((i : Int) + 1) = ((i + 1 : Nat) : Int) := by rw [IntWalk.i64_in _ (by omega)]; rfl
        have HC := Lib.hid (eqEl_any g y x wr.drew ⟨hoky.key, hoky.off, hoky.len⟩ ⟨hokx.key, hokx.off, hokx.len⟩)
        obtain ⟨kb, hkb⟩ : ∃ kb, decide (y.key = x.key) = kb := ⟨_, rfl⟩
        rw [hkb] at HC
        have Hkb := Lib.hid hkb; clear hkb
        have Hrow := Lib.hid hrow
        have Hcs := Lib.hid hcs
        have Ht : Hid (l.take (i + 1) = l.take i ++ [y]) := Lib.hid (by rw [ht2, ht1])
        clear hown hokx hoky hat1 hat2 hl hrow hp hcs ht1 ht2
        go_wp2_with fail
        refine wp_region_tail 10 hmx (by decide +kernel) ?_
        simp only [List.take_succ_cons, List.take_zero, List.drop_succ_cons, List.drop_zero]
        iterate 10 still_step
        refine wpStill_nil ?_
        go_wp2_with fail
        refine HC.out.mono ?_
        rintro e w2 ⟨rfl, hx2⟩
        have hx3 : Ext wr w2 := ((Ext.refl wr).drew).trans hx2
        have Hrow2 := Lib.hid (Hrow.out.ext hx3)
        have HX2 := Lib.hid (HX.out.trans hx3)
        clear hx2 hx3 HC
        cases kb with
        | true =>
          have hkey := of_decide_eq_true Hkb.out
          have Hcs' : Hid (compactE (l.take (i + 1)) = l.take i) := Lib.hid (by rw [Hcs.out, if_pos hkey])
          clear hkey Hcs
          clear c1 c2 c3 c4 q1 q2 hA hpn Hrow
          have Hk2 : Hid (Keeps (fun k => k ≠ g) w w2) := Lib.hid (HX2.out.keeps.mono fun _ _ _ => trivial)
          go_wp2_with fail
          obtain ⟨m, hm⟩ : ∃ m, n - i = m := ⟨_, rfl⟩
          obtain ⟨cm, hcm⟩ : ∃ cm, cap - i = cm := ⟨_, rfl⟩
          rw [hm, hcm]
          go_loopw [5, 7] (fun s5 s7 wr => ∃ (c k : Nat) (P M : List El), s5 = .int .i64 (c : Int) ∧ s7 = .int .i64 (k : Int) ∧ 1 ≤ k ∧ k ≤ m ∧ compactE (l.take (i + k)) = P ∧ P.length = c ∧ c + 1 ≤ i + k ∧
              (P ++ M).drop (i + (k - 1)) = l.drop (i + (k - 1)) ∧ Row base g cap wr (P ++ M) ∧ (P ++ M).length = n ∧ Keeps (fun k => k ≠ g) w wr)
            (fun _ s7 _ => m - (intOf s7).toNat)
          case atStart =>
            refine ⟨i, 1, l.take i, l.drop i, rfl, rfl, Nat.le_refl _, by omega, Hcs'.out, by rw [List.length_take, Hn.out]; omega, by omega, by rw [List.take_append_drop], by rw [List.take_append_drop]; exact Hrow2.out, by rw [List.take_append_drop]; exact Hn.out, Hk2.out⟩
          case round =>
            obtain ⟨c, k, P, M, rfl, rfl, hk1, hkm, hP, hc, hck, hdrop, hrow, hlenL, hkeep⟩ := hrel
            have hPM : ∀ e ∈ P ++ M, OkEl g wr e := hrow.ok
            have hownL := hrow.own
            rw [hlenL] at hownL
            by_cases hlt2 : k < m
            · obtain ⟨kk, hkk⟩ : ∃ kk, k = kk + 1 := ⟨k - 1, by omega⟩
              have hkk1 : k - 1 = kk := by omega
              rw [hkk1] at hdrop
              have hik : i + k < n := by omega
              have hn' := Hn.out
              obtain ⟨u, hu⟩ : ∃ u, l[i + kk]'(by omega) = u := ⟨_, rfl⟩
              obtain ⟨v, hv⟩ : ∃ v, l[i + k]'(by omega) = v := ⟨_, rfl⟩
              have d1 : l.drop (i + kk) = u :: l.drop (i + k) := by
                have h := List.drop_eq_getElem_cons (l := l) (i := i + kk) (by omega)
                rw [hu] at h
                rw [h, show i + kk + 1 = i + k by omega]
              have d2 : l.drop (i + k) = v :: l.drop (i + k + 1) := by
                have h := List.drop_eq_getElem_cons (l := l) (i := i + k) (by omega)
                rw [hv] at h
                exact h
              have t1 : l.take (i + k) = l.take (i + kk) ++ [u] := by
                have h := List.take_succ_eq_append_getElem (l := l) (i := i + kk) (by omega)
                rw [hu] at h
                rw [← h, show i + kk + 1 = i + k by omega]
              have t2 : l.take (i + k + 1) = l.take (i + k) ++ [v] := by
                have h := List.take_succ_eq_append_getElem (l := l) (i := i + k) (by omega)
                rw [hv] at h
                exact h
              have hsn := compactE_snoc (l.take (i + kk)) u v
              rw [← t1, ← t2, hP] at hsn
              have hsplit : P ++ M = (P ++ M).take (i + kk) ++ u :: v :: l.drop (i + k + 1) := by
                rw [← d2, ← d1, ← hdrop, List.take_append_drop]
              have hTl : ((P ++ M).take (i + kk)).length = i + kk := by rw [List.length_take, hlenL]; omega
              have hat1 := rowOf_at ((P ++ M).take (i + kk)) (v :: l.drop (i + k + 1)) u
              have hat2 := rowOf_at ((P ++ M).take (i + kk) ++ [u]) (l.drop (i + k + 1)) v
              simp only [List.append_assoc, List.singleton_append, List.length_append, List.length_singleton] at hat2
              rw [← hsplit, hTl] at hat1 hat2
              rw [show i + kk + 1 = i + k by omega] at hat2
              have huM : u ∈ P ++ M := by rw [hsplit]; simp
              have hvM : v ∈ P ++ M := by rw [hsplit]; simp
              have c1 := hownL.cellAt ((i + kk) * 2) (by omega)
              have c2 := hownL.cellAt ((i + kk) * 2 + 1) (by omega)
              have c3 := hownL.cellAt ((i + k) * 2) (by omega)
              have c4 := hownL.cellAt ((i + k) * 2 + 1) (by omega)
              rw [hat1.1, show (i + kk) * 2 = i * 2 + kk * 2 by omega] at c1
              rw [hat1.2, El.pv, show (i + kk) * 2 + 1 = i * 2 + kk * 2 + 1 by omega] at c2
              rw [hat2.1, show (i + k) * 2 = i * 2 + k * 2 by omega] at c3
              rw [hat2.2, El.pv, show (i + k) * 2 + 1 = i * 2 + k * 2 + 1 by omega] at c4
              have hcM : ∃ z M', M = z :: M' := by
                cases M with
                | nil => simp at hlenL; omega
                | cons z M' => exact ⟨z, M', rfl⟩
              obtain ⟨z, M', rfl⟩ := hcM
              have hku : kk < m := by omega
              have q1 : IntKind.i64.wrap ((k : Int) - 1) = (kk : Int) := by rw [IntWalk.i64_in _ (by omega)]; omega
              have q2 : IntKind.i64.wrap ((k : Int) + 1) = ((k + 1 : Nat) : Int) := by rw [IntWalk.i64_in _ (by omega)]; rfl
              have q3 : IntKind.i64.wrap ((c : Int) + 1) = ((c + 1 : Nat) : Int) := by rw [IntWalk.i64_in _ (by omega)]; rfl
              have hcn : c < n := by omega
              have f1 := hownL.frozenAt (c * 2)
              have f2 := hownL.frozenAt (c * 2 + 1)
              have hatz := rowOf_at P M' z
              have e1 := hownL.cellAt (c * 2) (by omega)
              have e2 := hownL.cellAt (c * 2 + 1) (by omega)
              rw [← hc] at e1 e2
              rw [hatz.1] at e1
              rw [hatz.2, El.pv] at e2
              rw [hc] at e1 e2
              have HC := Lib.hid (eqEl_any g v u wr.drew ⟨(hPM v hvM).key, (hPM v hvM).off, (hPM v hvM).len⟩ ⟨(hPM u huM).key, (hPM u huM).off, (hPM u huM).len⟩)
              obtain ⟨kb, hkb⟩ : ∃ kb, decide (v.key = u.key) = kb := ⟨_, rfl⟩
              rw [hkb] at HC
              have Hkb := Lib.hid hkb; clear hkb
              have Hrow := Lib.hid hrow
              have Hkeep := Lib.hid hkeep
              have Hsn := Lib.hid hsn
              have Hdrop := Lib.hid hdrop
              have HlenL := Lib.hid hlenL
              have Hd : Hid (l.drop (i + kk) = u :: l.drop (i + k)) := Lib.hid d1
              have Hc2 := Lib.hid hc
              have HvM := Lib.hid (hPM v hvM)
              have Hfacts : Hid (k = kk + 1 ∧ i + k < n ∧ c + 1 ≤ i + k) := Lib.hid ⟨hkk, hik, hck⟩
              clear hu hv d1 d2 t1 t2 hsplit hTl hat1 hat2 huM hvM hownL hPM hrow hkeep hsn hdrop hlenL hP hatz hc hkk hkk1 hn' hik hck
              go_wp2_with fail
              refine wp_region_tail 10 hmx (by decide +kernel) ?_
              simp only [List.take_succ_cons, List.take_zero, List.drop_succ_cons, List.drop_zero]
              iterate 10 still_step
              refine wpStill_nil ?_
              go_wp2_with fail
              refine HC.out.mono ?_
              rintro e w3 ⟨rfl, hx2⟩
              have hx3 : Ext wr w3 := ((Ext.refl wr).drew).trans hx2
              have Hrow3 := Lib.hid (Hrow.out.ext hx3)
              have Hkeep3 : Hid (Keeps (fun k => k ≠ g) w w3) := Lib.hid (Hkeep.out.trans (hx3.keeps.mono fun _ _ _ => trivial))
              replace c3 := hx3.keeps.cell c3 trivial
              replace c4 := hx3.keeps.cell c4 trivial
              replace e1 := hx3.keeps.cell e1 trivial
              replace e2 := hx3.keeps.cell e2 trivial
              clear c1 c2 f1 f2
              have HvM3 := Lib.hid (HvM.out.ext hx3)
              clear hx2 hx3 HC Hrow Hkeep HvM
              cases kb with
              | true =>
                have hkey := of_decide_eq_true Hkb.out
                have Hs2 : Hid (compactE (l.take (i + k + 1)) = P) := Lib.hid (by rw [Hsn.out, if_pos hkey])
                clear hkey Hsn
                go_wp2
                go_roundw
                case rel =>
                  obtain ⟨g1, g2, g3⟩ := Hfacts.out
                  refine ⟨c, k + 1, P, z :: M', rfl, by simp, by omega, by omega, Hs2.out, Hc2.out, by omega, ?_, Hrow3.out, HlenL.out, Hkeep3.out⟩
                  have h1 := congrArg (List.drop 1) Hdrop.out
                  rw [List.drop_drop, List.drop_drop] at h1
                  rw [show i + (k + 1 - 1) = i + kk + 1 by omega]
                  exact h1
                case measure => simp [intOf]; omega
              | false =>
                have hkey := of_decide_eq_false Hkb.out
                have Hs2 : Hid (compactE (l.take (i + k + 1)) = P ++ [v]) := Lib.hid (by rw [Hsn.out, if_neg hkey])
                clear hkey Hsn
                have hown3 := Hrow3.out.own
                rw [HlenL.out] at hown3
                have f1 := hown3.frozenAt (c * 2)
                have f2 := hown3.frozenAt (c * 2 + 1)
                clear hown3
                have hput := Hrow3.out.put HvM3.out Hc2.out
                have Hrow4 := Lib.hid hput.1
                have Hkeep4 := Lib.hid (Hkeep3.out.trans hput.2)
                clear hput
                go_wp2
                go_roundw
                case rel =>
                  obtain ⟨g1, g2, g3⟩ := Hfacts.out
                  have hPl := Hc2.out
                  refine ⟨c + 1, k + 1, P ++ [v], M', by simp, by simp, by omega, by omega, Hs2.out, by rw [List.length_append, hPl]; rfl, by omega, ?_, by rw [List.append_assoc]; exact Hrow4.out, ?_, Hkeep4.out⟩
                  · have h1 := congrArg (List.drop 1) Hdrop.out
                    rw [List.drop_drop, List.drop_drop] at h1
                    rw [show i + (k + 1 - 1) = i + kk + 1 by omega, List.append_assoc]
                    exact (drop_beyond P M' v z _ (by omega)).trans h1
                  · have := HlenL.out
                    simp only [List.length_append, List.length_cons, List.length_nil] at this ⊢
                    omega
                case measure => simp [intOf]; omega
            · have hkm2 : k = m := by omega
              have hik : i + k = n := by omega
              have hPc : Hid (compactE l = P) := Lib.hid (by rw [← hP, hik, List.take_of_length_le (by rw [Hn.out]; exact Nat.le_refl _)])
              have hcn : c < n := by omega
              obtain ⟨vs, hcl⟩ := run_clear_placed wr g (c * 2) (n - c) (cap - c) (by omega)
                (fun j hj => by rw [hownL.cellAt (c * 2 + j) (by omega), List.getElem?_eq_getElem (by rw [rowOf_len, hlenL]; omega)]; rfl) (fun j _ => hownL.frozenAt _)
              have hpre := prefix_row hownL (show c ≤ n by omega)
              have htk : (rowOf (P ++ M)).take (c * 2) = rowOf P := by rw [rowOf_append, ← hc, ← rowOf_len]; simp
              rw [htk] at hpre
              obtain ⟨hr1, hr2⟩ := setCells_row vs (c * 2) wr hpre (Nat.le_refl _)
              have Hrow5 : Hid (Row base g cap (wr.setCells g (c * 2) vs) P) := Lib.hid ⟨by rw [hc]; exact hr1, fun e he => (hPM e (by simp [he])).keeps hr2⟩
              have Hkeep5 := Lib.hid (hkeep.trans hr2)
              have Hc2 := Lib.hid hc
              clear hr1 hr2 hpre htk hownL hPM hrow hkeep hdrop hlenL hP hc hik hck
              subst hkm2
              go_wp2
              go_ret
              rw [hPc.out, Hc2.out]
              exact ⟨rfl, Hrow5.out, Hkeep5.out⟩
        | false =>
          have hkey := of_decide_eq_false Hkb.out
          have Hcs' : Hid (compactE (l.take (i + 1)) = l.take (i + 1)) := Lib.hid (by rw [Hcs.out, if_neg hkey, Ht.out])
          clear hkey Hcs
          go_wp2
          go_roundw
          case rel => exact ⟨i + 1, by simp, by omega, by omega, Hcs'.out, Hrow2.out, HX2.out⟩
          case measure => simp [intOf]; omega
      · obtain rfl : i = n := by omega
        have hd : decide ((i : Int) < (i : Int)) = false := by simp
        have Hc : Hid (compactE l = l) := Lib.hid (by have := Hce.out; rwa [List.take_of_length_le (by rw [Hn.out]; exact Nat.le_refl _)] at this)
        have Hrow := Lib.hid hrow; clear hrow
        go_wp2
        go_ret
        rw [Hc.out, Hn.out]
        exact ⟨rfl, Hrow.out, HX.out.keeps.mono fun _ _ _ => trivial⟩

end Go.Proofs.Ytmmjhdkoccpdjaa
