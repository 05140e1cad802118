/- Slices of structs: what lies in their cells. Conditions: each says its own. -/
import Derived.Test.YtjnaknfnoibncaaBaseM
import Derived.Laws.OwnMore
import Derived.Carry
namespace Go.Proofs.Ytjnaknfnoibncaa
open Go Go.RowKit Go.Shelf
attribute [local go_sem] Oper.semAt_some wide_fn wide_depth

/-- A slice of structs: each element's cells, sz of them. -/
def SRow (W : World) (v : Value) (sz : Nat) (L : List (Array Value)) : Prop :=
  ∃ ao cap, v = .slice ao L.length cap ∧ L.length ≤ cap ∧ cap ≤ maxLen ∧ ∀ k c, L[k]? = some c → ∃ b off, ao = some ⟨b, off, none⟩ ∧ c.size = sz ∧ ∀ i u, c[i]? = some u → W.cell? ⟨b, off + k * sz + i, none⟩ = some u
theorem SRow.keep {A B : World} {v : Value} {sz : Nat} {L : List (Array Value)} {K : Nat → Prop} (k : Keeps K A B) (hK : ∀ j, j < A.heap.size → K j) : SRow A v sz L → SRow B v sz L
  | ⟨ao, cap, e, h1, h2, hc⟩ => ⟨ao, cap, e, h1, h2, fun i c hi => by
    obtain ⟨b, off, e2, h3, h4⟩ := hc i c hi
    refine ⟨b, off, e2, h3, fun j u hu => ?_⟩
    have h5 := h4 j u hu
    exact k.cell h5 (hK _ (World.block_lt_of_cell? A _ h5))⟩
theorem SRow.ext {A B : World} {v : Value} {sz : Nat} {L : List (Array Value)} (h : SRow A v sz L) (k : Ext A B) : SRow B v sz L := h.keep k.keeps fun _ _ => trivial
theorem SRow.nil (W : World) (sz : Nat) : SRow W (.slice none 0 0) sz [] := ⟨none, 0, rfl, Nat.le_refl _, Nat.zero_le _, fun k c h => by simp at h⟩

theorem SRow.open {W : World} {v : Value} {sz : Nat} {L : List (Array Value)} (h : SRow W v sz L) : ∃ ao cap, v = .slice ao L.length cap ∧ L.length ≤ maxLen := by
  obtain ⟨ao, cap, e, h1, h2, _⟩ := h
  exact ⟨ao, cap, e, Nat.le_trans h1 h2⟩

theorem SRow.slice {W : World} {v : Value} {sz : Nat} {L : List (Array Value)} : SRow W v sz L → ∃ ao n cap, v = .slice ao n cap
  | ⟨ao, cap, e, _⟩ => ⟨ao, _, cap, e⟩

/-- A row that is owned is a slice of structs. -/
theorem flat_at {α : Type} (f : α → List Value) (sz : Nat) : ∀ (l : List α), (∀ x ∈ l, (f x).length = sz) → ∀ (k i : Nat) (x : α), l[k]? = some x → i < sz → ((l.map f).flatten)[k * sz + i]? = (f x)[i]?
  | [], _, k, i, x, h, _ => by simp at h
  | y :: l, hl, 0, i, x, h, hi => by
    have h0 := hl y (by simp)
    simp only [List.getElem?_cons_zero, Option.some.injEq] at h
    subst h
    rw [List.map_cons, List.flatten_cons, Nat.zero_mul, Nat.zero_add, List.getElem?_append_left (by omega)]
  | y :: l, hl, k + 1, i, x, h, hi => by
    have h0 := hl y (by simp)
    rw [List.getElem?_cons_succ] at h
    rw [List.map_cons, List.flatten_cons, List.getElem?_append_right (by rw [h0, Nat.add_mul]; omega), h0, show (k + 1) * sz + i - sz = k * sz + i by rw [Nat.add_mul]; omega]
    exact flat_at f sz l (fun z hz => hl z (by simp [hz])) k i x h hi
theorem owns_row {α : Type} {W : World} {base sz : Nat} {T : TypeId} {v : Value} (f : α → Array Value) {l : List α} (hf : ∀ x ∈ l, (f x).size = sz) (h : W.ownsRow base T sz v l.length ((l.map fun x => (f x).toList).flatten)) : SRow W v sz (l.map f) := by
  obtain ⟨hl, hr⟩ := id h
  rcases hr with ⟨rfl, h0⟩ | ⟨g, cap, cur, rfl, _, hg, hnc, hcm, _, _⟩
  · obtain rfl := List.eq_nil_of_length_eq_zero h0
    exact SRow.nil W sz
  · refine ⟨some ⟨g, 0, none⟩, cap, by rw [List.length_map], by rw [List.length_map]; exact hnc, hcm, fun k c hk => ?_⟩
    rw [List.getElem?_map] at hk
    obtain ⟨x, hx, rfl⟩ := Option.map_eq_some_iff.1 hk
    have hxm := List.mem_of_getElem? hx
    refine ⟨g, 0, rfl, hf x hxm, fun i u hu => ?_⟩
    have hi : i < sz := by rw [← hf x hxm]; exact (Array.getElem?_eq_some_iff.1 hu).1
    have h3 := flat_at (fun x => (f x).toList) sz l (fun y hy => by rw [Array.length_toList]; exact hf y hy) k i x hx hi
    have h4 : ((l.map fun x => (f x).toList).flatten)[k * sz + i]? = some u := by rw [h3]; simpa using hu
    have h5 := h.cells (g := g) rfl (k * sz + i) u h4
    have h6 : (⟨g, 0, none⟩ : Addr).add (k * sz + i) = ⟨g, k * sz + i, none⟩ := by unfold Addr.add; split <;> simp_all
    rw [h6] at h5
    rw [Nat.zero_add]
    exact h5
theorem owns_keep {K : Nat → Prop} {w w' : World} (h : Keeps K w w') {base size n : Nat} {e : TypeId} {v : Value} {xs : List Value} (hr : w.ownsRow base e size v n xs) (hp : ∀ k, v.ownBlock = some k → K k) : w'.ownsRow base e size v n xs := by
  refine ⟨hr.1, ?_⟩
  rcases hr.2 with hn | ⟨g, cap, cur, rfl, hb, hgg, rest⟩
  · exact .inl hn
  · exact .inr ⟨g, cap, cur, rfl, hb, h.heap hgg (hp g rfl), rest⟩
theorem flat_read {sz : Nat} : ∀ (L : List (Array Value)) (P : Nat → Value → Prop), (∀ c ∈ L, c.size = sz) → (∀ (k : Nat) (c : Array Value), L[k]? = some c → ∀ (i : Nat) (u : Value), c[i]? = some u → P (k * sz + i) u) →
    ∀ (j : Nat) (u : Value), ((L.map Array.toList).flatten)[j]? = some u → P j u
  | [], _, _, _, j, u, h => by simp at h
  | c :: L, P, hs, hc, j, u, h => by
    have hz : c.size = sz := hs c (List.mem_cons_self ..)
    rw [List.map_cons, List.flatten_cons] at h
    by_cases hj : j < sz
    · rw [List.getElem?_append_left (by simpa [hz] using hj)] at h
      have := hc 0 c rfl j u (by simpa using h)
      simpa using this
    · rw [List.getElem?_append_right (by simp [hz]; omega)] at h
      have := flat_read L (fun k u => P (k + sz) u) (fun c hc => hs c (List.mem_cons_of_mem _ hc)) (fun k c h1 i u h2 => by
        have := hc (k + 1) c (by simpa using h1) i u h2
        rw [show (k + 1) * sz + i = k * sz + i + sz from by rw [Nat.add_mul]; omega] at this
        exact this) (j - sz) u (by simpa [hz] using h)
      simpa [show j - sz + sz = j from by omega] using this
theorem SRow.none {W : World} {sz n cap : Nat} {L : List (Array Value)} (h : SRow W (.slice none n cap) sz L) : L = [] := by
  obtain ⟨ao, c, e, _, _, hc⟩ := h
  cases L with
  | nil => rfl
  | cons x L =>
    obtain ⟨b, off, e2, _⟩ := hc 0 x rfl
    simp only [Value.slice.injEq] at e
    rw [← e.1] at e2
    cases e2
theorem results_row2 {P : Program} {fn : Func} {p q : Tmp} {ty : TypeId} (h : fn.results = #[.cell p ty, .tmp q]) (tmps : Array Value) (w : World) (g : Nat) (t : TypeId) (cs : Array Value) (fr : Nat × Nat) (d : TypeDesc) (v : Value)
    (hp : tmps.getD p undef = .pointer (some ⟨g, 0, none⟩)) (hq : tmps.getD q undef = v) (hg : w.heap[g]? = some (.cells cs t fr))
    (hu : P.underlying ty = some d) (hd : (match d with | .struct _ | .array _ _ => true | _ => false) = true) (hi : (P.info? ty).map (·.size) = some cs.size) :
    (results fn tmps).run P w = .ok (.tuple #[.agg cs, v]) w := by
  have hp' : tmps[p]?.getD undef = .pointer (some ⟨g, 0, none⟩) := by simpa using hp
  have hq' : tmps[q]?.getD undef = v := by simpa using hq
  simp [results, h, hp', hq', asAddr, run_loadVar_row w g t ty cs fr d hg hu hd hi]
theorem set_two {w : World} {b : Nat} {x0 y0 : Value} {t : TypeId} {fr : Nat × Nat} (h : w.heap[b]? = some (.cells #[x0, y0] t fr)) (x y : Value) :
    ((w.setCell ⟨b, 0, none⟩ x).setCell ⟨b, 1, none⟩ y).heap[b]? = some (.cells #[x, y] t fr) := by
  have h1 : (w.setCell ⟨b, 0, none⟩ x).heap[b]? = some (.cells #[x, y0] t fr) := by
    obtain ⟨hlt, hk⟩ := Array.getElem?_eq_some_iff.1 h
    show (w.heap.modify b _)[b]? = _
    rw [Array.getElem?_eq_getElem (by rw [Array.size_modify]; exact hlt), Array.getElem_modify_self, hk]
    simp
  obtain ⟨W, hW⟩ : ∃ W, w.setCell ⟨b, 0, none⟩ x = W := ⟨_, rfl⟩
  rw [hW] at h1 ⊢
  obtain ⟨hlt, hk⟩ := Array.getElem?_eq_some_iff.1 h1
  show (W.heap.modify b _)[b]? = _
  rw [Array.getElem?_eq_getElem (by rw [Array.size_modify]; exact hlt), Array.getElem_modify_self, hk]
  simp
end Go.Proofs.Ytjnaknfnoibncaa
