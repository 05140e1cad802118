/- What keyed's Check and Apart tell. Conditions: texts that are no longer than may be. -/
import Derived.Test.YtjnaknfnoibncaaHashC
import Derived.DeepKeys4
import Derived.Maps.OwnSet
namespace Go.Proofs.Ytjnaknfnoibncaa
open Go Go.RowKit Go.Shelf
attribute [local go_sem] Oper.semAt_some wide_fn wide_depth

theorem same_text {a b : ByteArray} : (a.toList == b.toList) = decide (a = b) := by
  rw [Bool.eq_iff_iff]
  simp only [beq_iff_eq, decide_eq_true_eq]
  constructor
  · intro h
    rw [ByteArray.toList_eq, ByteArray.toList_eq] at h
    cases a; cases b; simp only [ByteArray.mk.injEq]; exact Array.toList_inj.1 h
  · intro h; rw [h]
def SumC.pair (x : SumC) : ByteArray × ByteArray := (x.k, x.s)
theorem is_eq (k s : ByteArray) (x : SumC) : x.is k s = decide (x.pair = (k, s)) := by
  unfold SumC.is SumC.pair
  rw [same_text, same_text, Bool.eq_iff_iff]
  simp only [Bool.and_eq_true, decide_eq_true_eq, Prod.mk.injEq]

/- Lists of keys: how many there are, each once. -/
theorem any_same {x : Lit} (hx : WideAt.IsKeyLit x) (L : List Lit) : (L.any fun y => y.sameKey x) = true ↔ x ∈ L := by
  rw [List.any_eq_true]
  constructor
  · rintro ⟨y, hy, h⟩
    rw [← WideAt.sameKey_eq h]; exact hy
  · intro h
    exact ⟨x, h, WideAt.sameKey_self hx⟩
theorem addKeys_len : ∀ (xs L : List Lit), (∀ x ∈ xs, WideAt.IsKeyLit x) → (xs.foldl Go.Maps.addKey L).length ≤ L.length + xs.length ∧ ((xs.foldl Go.Maps.addKey L).length = L.length + xs.length ↔ xs.Nodup ∧ ∀ x ∈ xs, x ∉ L)
  | [], L, _ => by simp
  | x :: xs, L, hk => by
    have hx := hk x (List.mem_cons_self ..)
    rw [List.foldl_cons]
    by_cases h : x ∈ L
    · rw [show Go.Maps.addKey L x = L by unfold Go.Maps.addKey; rw [if_pos ((any_same hx L).2 h)]]
      have h1 := addKeys_len xs L fun y hy => hk y (List.mem_cons_of_mem _ hy)
      refine ⟨by rw [List.length_cons]; omega, ⟨fun e => ?_, fun e => absurd h (e.2 x (List.mem_cons_self ..))⟩⟩
      rw [List.length_cons] at e
      omega
    · rw [show Go.Maps.addKey L x = L ++ [x] by unfold Go.Maps.addKey; rw [if_neg (fun e => h ((any_same hx L).1 e))]]
      have h1 := addKeys_len xs (L ++ [x]) fun y hy => hk y (List.mem_cons_of_mem _ hy)
      rw [List.length_append, List.length_singleton] at h1
      rw [List.length_cons, show L.length + (xs.length + 1) = L.length + 1 + xs.length by omega, h1.2, List.nodup_cons]
      refine ⟨h1.1, ⟨fun e => ⟨⟨fun hm => e.2 x hm (by simp), e.1⟩, fun y hy => ?_⟩, fun e => ⟨e.1.2, fun y hy hm => ?_⟩⟩⟩
      · rcases List.mem_cons.1 hy with rfl | hy
        · exact h
        · exact fun hm => e.2 y hy (by simp [hm])
      · rcases List.mem_append.1 hm with hm | hm
        · exact e.2 y (List.mem_cons_of_mem _ hy) hm
        · rw [List.mem_singleton] at hm
          subst hm
          exact e.1.1 hy

theorem laidP : laidOutB Try.prog = true := by kernel_rfl
theorem rowPair : (106 : TypeId) < Try.prog.types.size := of_decide_eq_true (by kernel_rfl)
theorem widePair : (match Try.prog.underlying 106 with | some (.array _ _) | some (.struct _) => true | _ => false) = true := by kernel_rfl
set_option maxRecDepth 100000 in
theorem pairLaw : Go.Maps.Keyed Try.prog 106 := Go.Maps.Keyed.of_law (deep_law_laid laidP (m := 2) (by omega) rowPair (by kernel_rfl) widePair)
theorem typePair : Try.prog.keyType 106 = true := by kernel_rfl
theorem cellsPair : Try.prog.cellsOf 106 = 2 := by kernel_rfl
theorem cellsStr : Try.prog.cellsOf 9 = 1 := by kernel_rfl
def pairL (x : SumC) : Lit := .string (keyBytes [.string x.k.data.toList, .string x.s.data.toList])
theorem pair_key (x : SumC) (hk : x.k.size ≤ maxLen) (hs : x.s.size ≤ maxLen) : keyOf Try.prog 106 (.agg #[.string x.k, .string x.s]) = some (pairL x) := by
  have hf : (Value.agg #[.string x.k, .string x.s]).formed Try.prog 106 = true := by simp [Value.formed, Try.underlying106, cellsPair]
  unfold keyOf
  rw [Try.underlying106]
  simp only
  rw [typePair, hf]
  obtain ⟨m, hm⟩ : ∃ m, Try.prog.types.size = m + 1 := Nat.exists_eq_add_one_of_ne_zero (Nat.ne_of_gt (Nat.lt_of_le_of_lt (Nat.zero_le _) rowPair))
  rw [hm]
  simp [Program.keyLits, Try.underlying106, Try.underlying9, Value.cells, cellsPair, cellsStr, hk, hs, pairL]
theorem pairL_key (x : SumC) : WideAt.IsKeyLit (pairL x) := trivial
theorem pairL_inj {x y : SumC} (hx : x.k.size ≤ maxLen ∧ x.s.size ≤ maxLen) (hy : y.k.size ≤ maxLen ∧ y.s.size ≤ maxLen) (h : pairL x = pairL y) : x.pair = y.pair := by
  have h1 := pair_key x hx.1 hx.2
  have h2 := pair_key y hy.1 hy.2
  rw [← h] at h2
  have h3 := pairLaw.inj h1 h2
  simp only [Value.agg.injEq, Array.mk.injEq, List.cons.injEq, Value.string.injEq, and_true] at h3
  unfold SumC.pair
  rw [h3.1, h3.2]

theorem run_makeMap_hint (n : Int) (w : World) : (Instr.makeMap 103 (some (.int .i64 n))).run Try.prog w = .ok (.map (some w.heap.size)) (w.alloc (.map #[] 0)) := by
  simp [Instr.makeMap, run_underlying Try.underlying103, asInt, asIntOf]

def Right (l : List SumC) : Prop := l.length ≤ 4096 ∧ (∀ x ∈ l, x.k.size = 16) ∧ (l.map SumC.pair).Nodup
instance (l : List SumC) : Decidable (Right l) := by unfold Right; infer_instance
def rightB (l : List SumC) : Bool := decide (Right l)
/-- What a map of keys reads as. -/
def keysD (L : List Lit) : DataW Unit := Go.Maps.setOf (.agg []) L
theorem pairs_nodup {l : List SumC} (hf : ∀ x ∈ l, x.k.size ≤ maxLen ∧ x.s.size ≤ maxLen) : (l.map pairL).Nodup ↔ (l.map SumC.pair).Nodup := by
  induction l with
  | nil => simp
  | cons x l ih =>
    rw [List.map_cons, List.map_cons, List.nodup_cons, List.nodup_cons, ih fun y hy => hf y (List.mem_cons_of_mem _ hy)]
    have hx := hf x (List.mem_cons_self ..)
    refine and_congr_left fun _ => not_congr ⟨fun h => ?_, fun h => ?_⟩
    · obtain ⟨y, hy, e⟩ := List.mem_map.1 h
      exact List.mem_map.2 ⟨y, hy, pairL_inj (hf y (List.mem_cons_of_mem _ hy)) hx e⟩
    · obtain ⟨y, hy, e⟩ := List.mem_map.1 h
      refine List.mem_map.2 ⟨y, hy, ?_⟩
      unfold SumC.pair at e
      simp only [Prod.mk.injEq] at e
      unfold pairL
      rw [e.1, e.2]
theorem keysD_size {l : List SumC} (hf : ∀ x ∈ l, x.k.size ≤ maxLen ∧ x.s.size ≤ maxLen) : (Go.Maps.size (keysD (l.map pairL)) = l.length) ↔ (l.map SumC.pair).Nodup := by
  have hk : ∀ x ∈ l.map pairL, WideAt.IsKeyLit x := fun x hx => by
    obtain ⟨y, _, rfl⟩ := List.mem_map.1 hx
    exact pairL_key y
  unfold keysD
  rw [Go.Maps.size_setOf _ _ hk]
  have h := (addKeys_len (l.map pairL) [] hk).2
  simp only [List.length_nil, Nat.zero_add, List.length_map, List.not_mem_nil, not_false_eq_true, implies_true, and_true] at h
  rw [h, pairs_nodup hf]

set_option maxRecDepth 100000 in
set_option maxHeartbeats 1000000 in
theorem right_any (l : List SumC) (v : Value) (o : Bool) (w : World) (hr : SRow w v 3 (l.map SumC.cells)) (hf : ∀ x ∈ l, x.k.size ≤ maxLen ∧ x.s.size ≤ maxLen) :
    Calls Try.prog 48 #[.agg #[.bool o, v]] w fun e w' => e = .returned (.bool (rightB l)) ∧ Ext w w' := by
  have Hr := Lib.hid hr
  have Hf := Lib.hid hf; clear hf
  obtain ⟨ao, ac, rfl, hlm⟩ := hr.open
  rw [List.length_map] at Hr hlm ⊢
  clear hr
  obtain ⟨r, hrr⟩ : ∃ r, rightB l = r := ⟨_, rfl⟩
  rw [hrr]
  have HE := Lib.hid hrr; clear hrr
  obtain ⟨nl, hnl⟩ : ∃ nl, l.length = nl := ⟨_, rfl⟩
  have Hnl := Lib.hid hnl
  rw [hnl] at Hr hlm ⊢
  clear hnl
  unfold maxLen at hlm
  by_cases hbig : nl ≤ 4096
  · have hmm := run_makeMap_hint
    obtain ⟨w2, h2⟩ : ∃ w2, (w.alloc (.cells #[.bool o, .slice ao nl ac] 24)).alloc (.map #[] 0) = w2 := ⟨_, rfl⟩
    have hz : (w.alloc (.cells #[.bool o, .slice ao nl ac] 24)).heap.size = w.heap.size + 1 := by simp
    have hz2 : w2.heap.size = w.heap.size + 1 + 1 := by rw [← h2]; simp
    have X2 : Ext w w2 := by rw [← h2]; exact ((Ext.refl w).alloc _).alloc _
    have hA : w2.heap[w.heap.size]? = some (.cells #[.bool o, .slice ao nl ac] 24 (0, 0)) := by
      rw [← h2]
      exact ((Keeps.refl (fun _ => True) _).alloc _).heap (World.alloc_heap_new w _) trivial
    have hB : w2.ownsMap (H := Unit) Try.prog 106 unitElem (w.heap.size + 1) 0 (keysD []) := by
      rw [← h2, ← hz]
      exact World.ownsMap_made _ _ _ _
    have HA := Lib.hid (show ∀ W, Keeps (fun j => j ≠ w.heap.size + 1) w2 W → W.cell? ⟨w.heap.size, 1, none⟩ = some (.slice ao nl ac) from fun W k => by
      have g := k.heap hA (by omega)
      simp [World.cell?, g])
    have HB := Lib.hid hB
    have HX := Lib.hid X2
    have hc0 := HA.out _ (Keeps.refl _ _)
    clear hA hB X2 hz
    subst h2
    go_enter Try.func48, Try.ntmps48
    go_wp2_with fail
    go_loopw [17] (fun i wr => ∃ j : Nat, j ≤ nl ∧ i = .int .i64 j ∧ (∀ (i : Nat) (x : SumC), i < j → l[i]? = some x → x.k.size = 16) ∧ wr.ownsMap (H := Unit) Try.prog 106 unitElem (w.heap.size + 1) j (keysD ((l.take j).map pairL)) ∧ Keeps (fun j => j ≠ w.heap.size + 1) ((w.alloc (.cells #[.bool o, .slice ao nl ac] 24)).alloc (.map #[] 0)) wr)
      (fun i _ => nl - (intOf i).toNat)
    case atStart => exact ⟨0, Nat.zero_le _, rfl, fun _ _ h => absurd h (Nat.not_lt_zero _), by simpa using HB.out, Keeps.refl _ _⟩
    case round =>
      obtain ⟨j, hj, rfl, hall, hown, hk⟩ := hrel
      have HK := Lib.hid hk; clear hk
      have HAll := Lib.hid hall; clear hall
      have Hown := Lib.hid hown; clear hown
      have hc1 := HA.out _ HK.out
      have Hw2 : Hid (Keeps (fun j => j < w.heap.size) w wr) := Lib.hid ((HX.out.keeps.mono fun _ _ _ => trivial).trans (HK.out.mono fun j _ h => by omega))
      by_cases hlt : j < nl
      · obtain ⟨x, hxa⟩ : ∃ x, l[j]? = some x := ⟨l[j]'(by rw [Hnl.out]; exact hlt), List.getElem?_eq_getElem _⟩
        obtain ⟨b1, off1, cap1, e1, c0, c1, c2⟩ := srow_at (Hr.out.keep Hw2.out fun j h => h) j x hxa
        obtain rfl : ao = some ⟨b1, off1, none⟩ := by simp only [Value.slice.injEq] at e1; exact e1.1
        clear e1
        have Hxa := Lib.hid hxa; clear hxa
        have hki : (j : Int) < nl := by omega
        have hw : IntKind.i64.wrap ((j : Int) + 1) = (j : Int) + 1 := IntWalk.i64_in _ (by omega)
        go_wp2_with (at_mapUpdate; refine wpList_mapUpdate_own _ rfl _ _ _ 103 rfl 106 104 pairLaw Try.underlying103 unitElem (w.heap.size + 1) j (keysD ((l.take j).map pairL)) rfl ?own (by unfold maxLen; omega) _ _ (pairL x) rfl rfl ?key (.agg []) [] unitElem_mk ?_)
        case own => exact Hown.out.alloc _
        case key => exact pair_key x (Hf.out x (List.mem_of_getElem? Hxa.out)).1 (Hf.out x (List.mem_of_getElem? Hxa.out)).2
        · have h16 : x.k.size ≠ 16 := by
            have h := (by assumption : ((x.k.size : Int) != 16) = true)
            simp only [bne_iff_ne, ne_eq] at h
            omega
          have hf : r = false := by
            rw [← HE.out]
            unfold rightB
            rw [decide_eq_false_iff_not]
            intro h
            exact h16 (h.2.1 x (List.mem_of_getElem? Hxa.out))
          subst hf
          go_ret
          exact ⟨rfl, (Hw2.out.alloc _).ext fun j h => h⟩
        · intro w1 hown1 hgr1
          have h16 : x.k.size = 16 := by
            have h := (by assumption : ((x.k.size : Int) != 16) = false)
            simp only [bne_eq_false_iff_eq] at h
            omega
          have Ho := Lib.hid hown1
          have HK1 : Hid (Keeps (fun j => j ≠ w.heap.size + 1) ((w.alloc (.cells #[.bool o, .slice (some ⟨b1, off1, none⟩) nl ac] 24)).alloc (.map #[] 0)) w1) := Lib.hid ((HK.out.alloc _).grown hgr1 (by intro k hk; cases hk; simp))
          clear hown1 hgr1 c0 c1 c2 hc1
          go_wp2
          go_roundw
          case rel =>
            refine ⟨j + 1, by omega, by simp, fun i y hi hy => ?_, ?_, HK1.out⟩
            · by_cases hij : i = j
              · subst hij
                rw [Hxa.out] at hy
                obtain rfl := Option.some.inj hy
                exact h16
              · exact HAll.out i y (by omega) hy
            · have ht : (l.take (j + 1)).map pairL = (l.take j).map pairL ++ [pairL x] := by
                rw [List.take_add_one, Hxa.out]
                simp
              rw [ht]
              unfold keysD
              rw [Go.Maps.setOf_snoc]
              have h := Ho.out
              unfold keysD at h
              simpa using h
          case measure => simp [intOf]; omega
      · obtain rfl : j = nl := by omega
        have hlen := Hown.out.len Try.underlying103
        go_wp2
        go_ret
        refine ⟨?_, Hw2.out.ext fun j h => h⟩
        have ht : l.take j = l := List.take_of_length_le (by rw [Hnl.out]; exact Nat.le_refl _)
        have hs := keysD_size Hf.out
        rw [Hnl.out] at hs
        have hall : ∀ x ∈ l, x.k.size = 16 := fun x hx => by
          obtain ⟨i, hi⟩ := List.getElem?_of_mem hx
          exact HAll.out i x (by have := (List.getElem?_eq_some_iff.1 hi).1; rw [Hnl.out] at this; exact this) hi
        have hq : ((Go.Maps.size (keysD ((l.take j).map pairL)) : Int) == (j : Int)) = r := by
          rw [← HE.out, ht]
          unfold rightB
          rw [Bool.eq_iff_iff, beq_iff_eq, decide_eq_true_iff]
          refine ⟨fun h => ⟨by rw [Hnl.out]; exact hbig, hall, hs.1 (by omega)⟩, fun h => by have := hs.2 h.2.2; omega⟩
        rw [← hq]
        simp
  · have hf : r = false := by
      rw [← HE.out]
      unfold rightB
      rw [decide_eq_false_iff_not]
      intro h
      have := h.1
      rw [Hnl.out] at this
      omega
    subst hf
    have hnb : (4096 : Int) < nl := by omega
    go_enter Try.func48, Try.ntmps48
    go_wp2
    go_ret
    exact ⟨rfl, (Ext.refl w).alloc _⟩
end Go.Proofs.Ytjnaknfnoibncaa
