/- Plain mathematics of going through names: what is above a name, what two have in common, how deep it is. Conditions: none. -/
import Derived.Test.YtmmjhdkoccpdjaaMath
namespace Go.Proofs.Ytmmjhdkoccpdjaa

theorem parentR_size {t : ByteArray} (h : isName t = true) : (parentR t).1.size < t.size := by
  have hp := isName_pos h
  rw [parentR, if_pos h]
  split
  · exact hp
  · next e r he =>
    have := endsE_chain t [] 0 e r he
    rw [size_rest]
    simp only [List.getLastD_nil] at this
    omega
theorem isName_empty : isName ⟨#[]⟩ = false := by decide +kernel
theorem parentR_bad {t : ByteArray} (h : (parentR t).2 ≠ 0) : (parentR t).1 = ⟨#[]⟩ := by
  rw [parentR] at h ⊢
  split at h
  · next hn =>
    rw [if_pos hn]
    split at h
    · rfl
    · exact absurd rfl h
  · next hn => rw [if_neg hn]
theorem parentR_ok {t : ByteArray} (h : (parentR t).2 = 0) : isName (parentR t).1 = true := by
  by_cases hn : isName t = true
  · obtain ⟨ls, hr⟩ := rep_of_name hn
    cases ls with
    | nil => rw [parent_root hr] at h; cases h
    | cons l r => exact (parent_cons hr).2.name
  · rw [parent_none (by simpa using hn)] at h; cases h

def upF : Nat → ByteArray → List ByteArray
  | 0, _ => []
  | n + 1, s => if isName s then s :: upF n (parentR s).1 else []
theorem upF_same : ∀ (n m : Nat) (s : ByteArray), s.size ≤ n → s.size ≤ m → upF n s = upF m s := by
  intro n
  induction n with
  | zero =>
    intro m s h _
    have h0 : isName s = false := by
      cases hn : isName s with
      | false => rfl
      | true => have := isName_pos hn; omega
    cases m <;> simp [upF, h0]
  | succ n ih =>
    intro m s h hm
    cases hn : isName s with
    | false => cases m <;> simp [upF, hn]
    | true =>
      have hp := isName_pos hn
      have hs := parentR_size hn
      cases m with
      | zero => omega
      | succ m => simp only [upF, hn, if_true]; rw [ih m _ (by omega) (by omega)]
/-- A name, its parent, and so on. -/
def upB (s : ByteArray) : List ByteArray := upF s.size s
theorem upB_none {s : ByteArray} (h : isName s = false) : upB s = [] := by unfold upB; cases s.size <;> simp [upF, h]
theorem upB_cons {s : ByteArray} (h : isName s = true) : upB s = s :: upB (parentR s).1 := by
  have hp := isName_pos h
  have hs := parentR_size h
  unfold upB
  obtain ⟨n, hn⟩ : ∃ n, s.size = n + 1 := ⟨s.size - 1, by omega⟩
  rw [hn]
  simp only [upF, h, if_true]
  rw [upF_same n _ _ (by omega) (Nat.le_refl _)]
theorem upB_size : ∀ (n : Nat) (s : ByteArray), s.size ≤ n → ∀ x ∈ upB s, x.size ≤ s.size ∧ isName x = true := by
  intro n
  induction n with
  | zero =>
    intro s h x hx
    cases hn : isName s with
    | false => rw [upB_none hn] at hx; cases hx
    | true => have := isName_pos hn; omega
  | succ n ih =>
    intro s h x hx
    cases hn : isName s with
    | false => rw [upB_none hn] at hx; cases hx
    | true =>
      have hs := parentR_size hn
      rw [upB_cons hn] at hx
      rcases List.mem_cons.1 hx with rfl | hx
      · exact ⟨Nat.le_refl _, hn⟩
      · obtain ⟨h1, h2⟩ := ih _ (by omega) x hx
        exact ⟨by omega, h2⟩
theorem upB_rep : ∀ (ls : List (List UInt8)) (s : ByteArray), Rep s ls → ∀ x ∈ upB s, ∃ xs, Rep x xs ∧ xs <:+ ls
  | [], s, h, x, hx => by
    rw [upB_cons h.name, parent_root h, upB_none isName_empty] at hx
    obtain rfl : x = s := by simpa using hx
    exact ⟨[], h, List.suffix_refl _⟩
  | l :: r, s, h, x, hx => by
    rw [upB_cons h.name] at hx
    rcases List.mem_cons.1 hx with rfl | hx
    · exact ⟨_, h, List.suffix_refl _⟩
    · obtain ⟨xs, h1, h2⟩ := upB_rep r _ (parent_cons h).2 x hx
      exact ⟨xs, h1, h2.trans (List.suffix_cons l r)⟩

def depthB (s z : ByteArray) : Int := if withinB s z then ((labelsB s).length : Int) - ((labelsB z).length : Int) else -1
def commonR (a b : ByteArray) : ByteArray × Int := match (upB a).find? (withinB b) with | some x => (x, 0) | none => (⟨#[]⟩, 2)
/-- One label deeper than z. -/
def nextP (z x : ByteArray) : Bool := decide (depthB x z = 1)
def nextR (z n : ByteArray) : ByteArray × Int :=
  if isName z = false ∨ isName n = false then (⟨#[]⟩, 2) else match (upB n).find? (nextP z) with | some x => (x, 0) | none => (⟨#[]⟩, 3)

theorem depth_of {s z : ByteArray} {ls zs : List (List UInt8)} (h : Rep s ls) (k : Rep z zs) (hw : fl zs <:+ fl ls) : depthB s z = (ls.length : Int) - (zs.length : Int) := by
  rw [depthB, if_pos ((within_iff h k).2 hw), h.count, k.count]

/-- k times the parent. -/
def upN : Nat → ByteArray → ByteArray
  | 0, s => s
  | k + 1, s => (parentR (upN k s)).1
theorem upN_rep {s : ByteArray} {ls : List (List UInt8)} (h : Rep s ls) : ∀ k, k ≤ ls.length → Rep (upN k s) (ls.drop k)
  | 0, _ => h
  | k + 1, hk => by
    have ih := upN_rep h k (by omega)
    rw [List.drop_eq_getElem_cons (show k < ls.length by omega)] at ih
    exact (parent_cons ih).2
theorem upN_ok {s : ByteArray} {ls : List (List UInt8)} (h : Rep s ls) (k : Nat) (hk : k < ls.length) : (parentR (upN k s)).2 = 0 := by
  have ih := upN_rep h k (by omega)
  rw [List.drop_eq_getElem_cons hk] at ih
  exact (parent_cons ih).1
theorem upN_mem {s : ByteArray} {ls : List (List UInt8)} (h : Rep s ls) (k : Nat) (hk : k ≤ ls.length) : ∀ (m : Nat), m ≤ k → upN k s ∈ upB (upN (k - m) s)
  | 0, _ => by
    have := (upN_rep h k hk).name
    rw [Nat.sub_zero, upB_cons this]
    simp
  | m + 1, hm => by
    have ih := upN_mem h k hk m (by omega)
    have hn := (upN_rep h (k - (m + 1)) (by omega)).name
    rw [upB_cons hn]
    have e : (parentR (upN (k - (m + 1)) s)).1 = upN (k - m) s := by rw [show k - m = (k - (m + 1)) + 1 from by omega]; rfl
    rw [e]
    exact List.mem_cons_of_mem _ ih
theorem upN_size (s : ByteArray) : ∀ k, (upN k s).size ≤ s.size
  | 0 => Nat.le_refl _
  | k + 1 => by
    have ih := upN_size s k
    show (parentR (upN k s)).1.size ≤ s.size
    cases hn : isName (upN k s) with
    | true => have := parentR_size hn; omega
    | false => rw [parent_none hn]; exact Nat.zero_le _
theorem fl_drop_suffix (ls : List (List UInt8)) (k : Nat) : fl (ls.drop k) <:+ fl ls := by
  unfold fl; rw [List.map_drop]; exact List.drop_suffix _ _
theorem fl_suffix {a b : List (List UInt8)} (h : a <:+ b) : fl a <:+ fl b := List.IsSuffix.map _ h
theorem depth_self_none {s : ByteArray} (h : isName s = false) : depthB s s = -1 := by rw [depthB, within_none (.inl h)]; rfl
theorem depth_up {s : ByteArray} {ls : List (List UInt8)} (h : Rep s ls) (x y : Nat) (hxy : x ≤ y) (hy : y ≤ ls.length) : depthB (upN x s) (upN y s) = (y : Int) - (x : Int) := by
  have h1 := upN_rep h x (by omega)
  have h2 := upN_rep h y hy
  have h3 : fl (ls.drop y) <:+ fl (ls.drop x) := by
    have : ls.drop y = (ls.drop x).drop (y - x) := by rw [List.drop_drop]; congr 1; omega
    rw [this]; exact fl_drop_suffix _ _
  rw [depth_of h1 h2 h3]
  simp only [List.length_drop]
  omega
theorem next_root {s : ByteArray} {ls : List (List UInt8)} (h : Rep s ls) : (nextR s s).2 = 3 := by
  rw [nextR, if_neg (by rw [h.name]; simp)]
  have : (upB s).find? (nextP s) = none := by
    rw [List.find?_eq_none]
    intro x hx
    obtain ⟨xs, h1, h2⟩ := upB_rep ls s h x hx
    simp only [nextP, decide_eq_true_eq]
    intro hd
    unfold depthB at hd
    split at hd
    · rw [h1.count, h.count] at hd
      have := h2.length_le
      omega
    · omega
  rw [this]
theorem next_up {s : ByteArray} {ls : List (List UInt8)} (h : Rep s ls) (y : Nat) (h0 : 0 < y) (hy : y ≤ ls.length) :
    (nextR (upN y s) s).2 = 0 ∧ depthB (nextR (upN y s) s).1 (upN y s) = 1 ∧ withinB s (nextR (upN y s) s).1 = true := by
  have hc := upN_rep h y hy
  rw [nextR, if_neg (by rw [hc.name, h.name]; simp)]
  have hmem : upN (y - 1) s ∈ upB s := by
    have := upN_mem h (y - 1) (by omega) (y - 1) (Nat.le_refl _)
    rw [Nat.sub_self] at this
    exact this
  have hp : nextP (upN y s) (upN (y - 1) s) = true := by
    rw [nextP, depth_up h (y - 1) y (by omega) hy]
    exact decide_eq_true (by omega)
  cases hf : (upB s).find? (nextP (upN y s)) with
  | none => rw [List.find?_eq_none] at hf; exact absurd hp (hf _ hmem)
  | some d =>
    have h1 := List.find?_some hf
    have h2 := List.mem_of_find?_eq_some hf
    obtain ⟨xs, h3, h4⟩ := upB_rep ls s h d h2
    refine ⟨rfl, by simpa [nextP] using h1, (within_iff h h3).2 (fl_suffix h4)⟩

end Go.Proofs.Ytmmjhdkoccpdjaa
