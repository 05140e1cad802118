/- Several texts in one (Math Names2 Math3). Conditions: each says its own. -/
import Derived.Test.YtjnaknfnoibncaaBaseM

/- Plain mathematics of names: a name is its labels; what lies within what; what its parent is. Conditions: none. -/
namespace Go.Proofs.Ytjnaknfnoibncaa

/-- The bytes of a string. -/
def bl (s : ByteArray) : List UInt8 := s.data.toList
theorem bl_size (s : ByteArray) : (bl s).length = s.size := rfl
theorem bl_inj {s t : ByteArray} (h : bl s = bl t) : s = t := by
  cases s; cases t; congr 1; exact Array.toList_inj.1 h
theorem toList_bl (s : ByteArray) : s.toList = bl s := ByteArray.toList_eq s
theorem bl_mk (l : List UInt8) : bl ⟨l.toArray⟩ = l := by simp [bl]
theorem bl_extract (s : ByteArray) (a b : Nat) : bl (s.extract a b) = ((bl s).take b).drop a := by
  unfold bl
  rw [ByteArray.data_extract, Array.toList_extract]
  rw [List.extract_eq_take_drop, List.drop_take]
theorem take_bl (s : ByteArray) : (bl s).take s.size = bl s := List.take_of_length_le (Nat.le_refl _)
theorem get_bl (s : ByteArray) (i : Nat) (h : i < s.size) : s[i]! = (bl s)[i]'h := by
  rw [getElem!_pos s i h]; rfl

/-- Labels as bytes. -/
def enc : List (List UInt8) → List UInt8
  | [] => [0]
  | l :: r => UInt8.ofNat l.length :: (l ++ enc r)
def OkL (ls : List (List UInt8)) : Prop := ∀ l ∈ ls, 1 ≤ l.length ∧ l.length ≤ 63
theorem OkL.tail {l : List UInt8} {r : List (List UInt8)} (h : OkL (l :: r)) : OkL r := fun x hx => h x (List.mem_cons_of_mem _ hx)
theorem OkL.head {l : List UInt8} {r : List (List UInt8)} (h : OkL (l :: r)) : 1 ≤ l.length ∧ l.length ≤ 63 := h l (by simp)
theorem enc_ne (ls : List (List UInt8)) : enc ls ≠ [] := by cases ls <;> simp [enc]
theorem enc_pos (ls : List (List UInt8)) : 1 ≤ (enc ls).length := by cases ls <;> simp [enc]

theorem enc_inj : ∀ {a b : List (List UInt8)}, OkL a → OkL b → enc a = enc b → a = b
  | [], [], _, _, _ => rfl
  | [], l :: r, _, hb, h => by
    have h1 := hb.head
    simp only [enc, List.cons.injEq] at h
    have h2 := congrArg UInt8.toNat h.1
    simp at h2
    omega
  | l :: r, [], ha, _, h => by
    have h1 := ha.head
    simp only [enc, List.cons.injEq] at h
    have h2 := congrArg UInt8.toNat h.1
    simp at h2
    omega
  | l :: r, m :: q, ha, hb, h => by
    have h1 := ha.head
    have h2 := hb.head
    simp only [enc, List.cons.injEq] at h
    have h3 := congrArg UInt8.toNat h.1
    simp at h3
    have h4 : l.length = m.length := by omega
    obtain ⟨h5, h6⟩ := List.append_inj h.2 h4
    rw [h5, enc_inj ha.tail hb.tail h6]

/-- The places behind labels, the first one beginning at a. -/
def posL (a : Nat) : List (List UInt8) → List Nat
  | [] => []
  | l :: r => (a + 1 + l.length) :: posL (a + 1 + l.length) r

theorem drop_cons {α : Type} {l r : List α} {x : α} {p : Nat} (h : l.drop p = x :: r) : p < l.length ∧ ∃ hp : p < l.length, l[p] = x ∧ l.drop (p + 1) = r := by
  have hp : p < l.length := by
    rcases Nat.lt_or_ge p l.length with h' | h'
    · exact h'
    · rw [List.drop_eq_nil_of_le h'] at h; cases h
  refine ⟨hp, hp, ?_⟩
  rw [List.drop_eq_getElem_cons hp] at h
  simp only [List.cons.injEq] at h
  exact h

/-- Where labels are written, they are found. -/
theorem endsE_enc (s : ByteArray) : ∀ (ls : List (List UInt8)) (p : Nat), OkL ls → (bl s).drop p = enc ls → endsE s p = posL p ls ∧ (labelsFrom s p (posL p ls)).map bl = ls ∧ (posL p ls).getLastD p + 1 = s.size
  | [], p, _, h => by
    obtain ⟨h1, hp, h2, h3⟩ := drop_cons (by simpa [enc] using h : (bl s).drop p = 0 :: [])
    have hs : stepE s p = none := by
      unfold stepE
      rw [if_pos (show p < s.size from h1), get_bl s p h1, h2, if_neg (by simp)]
    have h4 := congrArg List.length h3
    simp only [List.length_drop, List.length_nil] at h4
    rw [bl_size] at h4 h1
    exact ⟨endsE_none hs, rfl, by simp [posL]; omega⟩
  | l :: r, p, hok, h => by
    obtain ⟨h1, hp, h2, h3⟩ := drop_cons (by simpa [enc] using h : (bl s).drop p = UInt8.ofNat l.length :: (l ++ enc r))
    have hl := hok.head
    have hlen : (UInt8.ofNat l.length).toNat = l.length := by simp; omega
    have h4 : (bl s).drop (p + 1 + l.length) = enc r := by
      rw [← List.drop_drop, h3, List.drop_left]
    have h5 := congrArg List.length h3
    simp only [List.length_drop, List.length_append] at h5
    rw [bl_size] at h5
    have h6 := enc_pos r
    have h1' : p < s.size := h1
    have hs : stepE s p = some (p + 1 + l.length) := by
      unfold stepE
      rw [if_pos h1', get_bl s p h1, h2, hlen, if_pos (by omega)]
    obtain ⟨i1, i2, i3⟩ := endsE_enc s r (p + 1 + l.length) hok.tail h4
    refine ⟨by rw [endsE_some hs, i1]; rfl, ?_, ?_⟩
    · simp only [posL, labelsFrom, List.map_cons, i2, List.cons.injEq, and_true]
      rw [bl_extract, List.drop_take, h3]
      rw [show p + 1 + l.length - (p + 1) = l.length from by omega]
      exact List.take_left
    · simp only [posL]; rw [List.getLastD_cons]; exact i3

/-- A name is labels. -/
theorem rep_of (s : ByteArray) : ∀ (n p : Nat), s.size - p ≤ n → p ≤ s.size → (bl s).drop ((endsE s p).getLastD p) = [0] → ∃ ls, OkL ls ∧ (bl s).drop p = enc ls := by
  intro n
  induction n with
  | zero =>
    intro p h hp h0
    have : stepE s p = none := by unfold stepE; rw [if_neg (by omega)]
    rw [endsE_none this] at h0
    exact ⟨[], (fun _ h => by cases h), h0⟩
  | succ n ih =>
    intro p h hp h0
    cases hs : stepE s p with
    | none =>
      rw [endsE_none hs] at h0
      exact ⟨[], (fun _ h => by cases h), h0⟩
    | some b =>
      have hb := stepE_lt hs
      rw [endsE_some hs, List.getLastD_cons] at h0
      obtain ⟨r, hr, h1⟩ := ih b (by omega) hb.2 h0
      unfold stepE at hs
      split at hs
      · next hlt =>
        split at hs
        · next hc =>
          have hb2 : b = p + 1 + s[p]!.toNat := by cases hs; rfl
          obtain ⟨c, hc'⟩ : ∃ c, s[p]!.toNat = c := ⟨_, rfl⟩
          rw [hc'] at hc hb2
          have hlen : (((bl s).drop (p + 1)).take c).length = c := by
            rw [List.length_take, List.length_drop, bl_size]; omega
          refine ⟨((bl s).drop (p + 1)).take c :: r, ?_, ?_⟩
          · intro x hx
            rcases List.mem_cons.1 hx with rfl | hx
            · rw [hlen]; omega
            · exact hr x hx
          · have hp' : p < (bl s).length := hlt
            have e1 : (bl s).drop (p + 1) = ((bl s).drop (p + 1)).take c ++ (bl s).drop (p + 1 + c) := by
              have e2 : ((bl s).drop (p + 1)).drop c = (bl s).drop (p + 1 + c) := List.drop_drop
              rw [← e2]; exact (List.take_append_drop _ _).symm
            rw [List.drop_eq_getElem_cons hp', enc, hlen, ← h1, hb2, ← e1]
            congr 1
            have e3 := get_bl s p hlt
            rw [e3] at hc'
            rw [← hc', UInt8.ofNat_toNat]; rfl
        · cases hs
      · cases hs

/-- s is the name of the labels ls. -/
structure Rep (s : ByteArray) (ls : List (List UInt8)) : Prop where
  ok : OkL ls
  eq : bl s = enc ls
  len : s.size ≤ 255

theorem Rep.uniq {s : ByteArray} {a b : List (List UInt8)} (h : Rep s a) (k : Rep s b) : a = b := enc_inj h.ok k.ok (h.eq.symm.trans k.eq)
theorem rep_of_name {s : ByteArray} (h : isName s = true) : ∃ ls, Rep s ls := by
  simp only [isName, Bool.and_eq_true, beq_iff_eq, decide_eq_true_eq] at h
  have h2 := h.2
  rw [toList_bl, bl_extract, take_bl] at h2
  obtain ⟨ls, h3, h4⟩ := rep_of s _ 0 (Nat.le_refl _) (Nat.zero_le _) h2
  exact ⟨ls, h3, by simpa using h4, h.1⟩
theorem Rep.ends {s : ByteArray} {ls : List (List UInt8)} (h : Rep s ls) : endsE s 0 = posL 0 ls ∧ (labelsFrom s 0 (posL 0 ls)).map bl = ls ∧ (posL 0 ls).getLastD 0 + 1 = s.size :=
  endsE_enc s ls 0 h.ok (by simpa using h.eq)
theorem drop_last (ls : List (List UInt8)) : (enc ls).drop ((enc ls).length - 1) = [0] := by
  induction ls with
  | nil => rfl
  | cons l r ih =>
    have h := enc_pos r
    have h1 : (enc (l :: r)).length - 1 = (l.length + 1) + ((enc r).length - 1) := by simp only [enc, List.length_cons, List.length_append]; omega
    rw [h1, ← List.drop_drop]
    have h2 : (enc (l :: r)).drop (l.length + 1) = enc r := by simp [enc]
    rw [h2, ih]
theorem Rep.name {s : ByteArray} {ls : List (List UInt8)} (h : Rep s ls) : isName s = true := by
  obtain ⟨h1, _, h3⟩ := h.ends
  have h4 : lastE s = s.size - 1 := by unfold lastE; rw [h1]; omega
  have h5 : (bl (s.extract (lastE s) s.size)) = [0] := by
    rw [bl_extract, take_bl, h4, ← bl_size, h.eq, drop_last]
  simp only [isName, Bool.and_eq_true, beq_iff_eq, decide_eq_true_eq, toList_bl]
  exact ⟨h.len, h5⟩
theorem isName_iff {s : ByteArray} : isName s = true ↔ ∃ ls, Rep s ls := ⟨rep_of_name, fun ⟨_, h⟩ => h.name⟩
theorem Rep.labels {s : ByteArray} {ls : List (List UInt8)} (h : Rep s ls) : (labelsB s).map bl = ls := by
  obtain ⟨h1, h2, _⟩ := h.ends
  rw [labelsB, if_pos h.name, h1, h2]
theorem Rep.count {s : ByteArray} {ls : List (List UInt8)} (h : Rep s ls) : (labelsB s).length = ls.length := by
  have := congrArg List.length h.labels
  simpa using this
theorem count_none {s : ByteArray} (h : isName s = false) : (labelsB s).length = 0 := by rw [labelsB, if_neg (by rw [h]; simp)]; rfl

/-- Small letters of labels. -/
def fl (ls : List (List UInt8)) : List (List UInt8) := ls.map (List.map foldB)
theorem foldB_small (n : Nat) (h : n ≤ 63) : foldB (UInt8.ofNat n) = UInt8.ofNat n := by
  unfold foldB
  rw [if_neg (by simp; omega)]
theorem map_fold_enc : ∀ (ls : List (List UInt8)), OkL ls → (enc ls).map foldB = enc (fl ls)
  | [], _ => rfl
  | l :: r, h => by
    have hl := h.head
    simp only [enc, fl, List.map_cons, List.map_append, List.length_map]
    rw [foldB_small _ hl.2, map_fold_enc r h.tail]
    rfl
theorem bl_fold (s : ByteArray) : bl (foldS s) = (bl s).map foldB := by unfold foldS; rw [bl_mk]; rfl
theorem fl_ok {ls : List (List UInt8)} (h : OkL ls) : OkL (fl ls) := by
  intro x hx
  obtain ⟨y, hy, rfl⟩ := List.mem_map.1 hx
  simpa using h y hy
theorem Rep.fold {s : ByteArray} {ls : List (List UInt8)} (h : Rep s ls) : Rep (foldS s) (fl ls) := by
  refine ⟨fl_ok h.ok, by rw [bl_fold, h.eq, map_fold_enc ls h.ok], ?_⟩
  have : (foldS s).size = s.size := by show ((s.data.toList.map foldB).toArray).size = s.data.size; simp
  rw [this]; exact h.len

theorem restIs_enc (s z : ByteArray) (zs : List (List UInt8)) (hz : bl z = enc zs) (hzo : OkL zs) : ∀ (ls : List (List UInt8)) (p : Nat), OkL ls → (bl s).drop p = enc ls →
    ((posL p ls).any (restIs s z) = true ↔ ls ≠ [] ∧ zs <:+ ls.tail)
  | [], p, _, _ => by simp [posL]
  | l :: r, p, hok, h => by
    have h4 : (bl s).drop (p + 1 + l.length) = enc r := by
      have h3 : (bl s).drop (p + 1) = l ++ enc r := (drop_cons (by simpa [enc] using h : (bl s).drop p = UInt8.ofNat l.length :: (l ++ enc r))).2.choose_spec.2
      rw [← List.drop_drop, h3, List.drop_left]
    have ih := restIs_enc s z zs hz hzo r (p + 1 + l.length) hok.tail h4
    have hone : restIs s z (p + 1 + l.length) = true ↔ r = zs := by
      rw [restIs, beq_iff_eq, toList_bl, toList_bl, bl_extract, take_bl, h4, hz]
      exact ⟨fun h => enc_inj hok.tail hzo h, fun h => by rw [h]⟩
    simp only [posL, List.any_cons, Bool.or_eq_true, hone, ih, List.tail_cons]
    constructor
    · rintro (rfl | ⟨hne, hsuf⟩)
      · exact ⟨by simp, List.suffix_refl _⟩
      · refine ⟨by simp, ?_⟩
        cases r with
        | nil => exact absurd rfl hne
        | cons a q => exact hsuf.trans (List.suffix_cons a q)
    · rintro ⟨_, hsuf⟩
      rcases List.suffix_iff_eq_append.1 hsuf with hh
      by_cases he : r = zs
      · exact .inl he
      · right
        cases r with
        | nil => rw [List.suffix_nil] at hsuf; exact absurd hsuf.symm he
        | cons a q =>
          refine ⟨by simp, ?_⟩
          rcases List.suffix_cons_iff.1 hsuf with h1 | h1
          · exact absurd h1.symm he
          · exact h1

/-- Lying within: the last labels, letters small. -/
theorem within_iff {s z : ByteArray} {ls zs : List (List UInt8)} (h : Rep s ls) (k : Rep z zs) : withinB s z = true ↔ fl zs <:+ fl ls := by
  have hf := h.fold
  have kf := k.fold
  rw [withinB, h.name, k.name, hf.ends.1]
  simp only [Bool.true_and, Bool.or_eq_true, beq_iff_eq, toList_bl]
  rw [hf.eq, kf.eq, restIs_enc (foldS s) (foldS z) (fl zs) kf.eq kf.ok (fl ls) 0 hf.ok (by simpa using hf.eq)]
  constructor
  · rintro (h1 | ⟨_, h1⟩)
    · rw [enc_inj hf.ok kf.ok h1]; exact List.suffix_refl _
    · exact h1.trans (List.tail_suffix _)
  · intro h1
    by_cases he : fl zs = fl ls
    · left; rw [he]
    · right
      cases hl : fl ls with
      | nil => rw [hl, List.suffix_nil] at h1; exact absurd (h1.trans hl.symm) he
      | cons a q =>
        refine ⟨by simp, ?_⟩
        rw [hl] at h1
        rcases List.suffix_cons_iff.1 h1 with h2 | h2
        · exact absurd (h2.trans hl.symm) he
        · exact h2
theorem within_none {s z : ByteArray} (h : isName s = false ∨ isName z = false) : withinB s z = false := by
  rw [withinB]
  rcases h with h | h <;> simp [h]

/-- The parent. -/
theorem parent_root {s : ByteArray} (h : Rep s []) : parentR s = (⟨#[]⟩, 3) := by
  rw [parentR, if_pos h.name, h.ends.1]; rfl
theorem parent_cons {s : ByteArray} {l : List UInt8} {r : List (List UInt8)} (h : Rep s (l :: r)) : (parentR s).2 = 0 ∧ Rep (parentR s).1 r := by
  have h1 : parentR s = (s.extract (0 + 1 + l.length) s.size, 0) := by rw [parentR, if_pos h.name, h.ends.1]; rfl
  rw [h1]
  refine ⟨rfl, h.ok.tail, ?_, ?_⟩
  · rw [bl_extract, take_bl, h.eq]
    show (enc (l :: r)).drop (0 + 1 + l.length) = enc r
    simp [enc, Nat.add_comm]
  · rw [ByteArray.size_extract]; have := h.len; omega
theorem parent_none {s : ByteArray} (h : isName s = false) : parentR s = (⟨#[]⟩, 2) := by rw [parentR, if_neg (by rw [h]; simp)]
theorem chk_name {s : ByteArray} (h : isName s = true) : chk s = 0 := by simp [chk, h]
theorem chk_none {s : ByteArray} (h : isName s = false) : chk s = 2 := by simp [chk, h]
theorem fl_len (ls : List (List UInt8)) : (fl ls).length = ls.length := by simp [fl]
theorem rep_root : Rep ⟨#[0]⟩ [] := ⟨(fun _ h => by cases h), rfl, by decide⟩

end Go.Proofs.Ytjnaknfnoibncaa

/- Plain mathematics of going through names: what is above a name, what two have in common, how deep it is. Conditions: none. -/
namespace Go.Proofs.Ytjnaknfnoibncaa

theorem parentR_size {t : ByteArray} (h : isName t = true) : (parentR t).1.size < t.size := by
  have hp := isName_pos h
  rw [parentR, if_pos h]
  split
  · exact hp
  · next e r he =>
    have := endsE_chain t [] 0 e r he
    rw [size_rest]
    simp only [List.getLastD_nil] at this
    omega
theorem isName_empty : isName ⟨#[]⟩ = false := by decide +kernel
theorem parentR_bad {t : ByteArray} (h : (parentR t).2 ≠ 0) : (parentR t).1 = ⟨#[]⟩ := by
  rw [parentR] at h ⊢
  split at h
  · next hn =>
    rw [if_pos hn]
    split at h
    · rfl
    · exact absurd rfl h
  · next hn => rw [if_neg hn]
theorem parentR_ok {t : ByteArray} (h : (parentR t).2 = 0) : isName (parentR t).1 = true := by
  by_cases hn : isName t = true
  · obtain ⟨ls, hr⟩ := rep_of_name hn
    cases ls with
    | nil => rw [parent_root hr] at h; cases h
    | cons l r => exact (parent_cons hr).2.name
  · rw [parent_none (by simpa using hn)] at h; cases h

def upF : Nat → ByteArray → List ByteArray
  | 0, _ => []
  | n + 1, s => if isName s then s :: upF n (parentR s).1 else []
theorem upF_same : ∀ (n m : Nat) (s : ByteArray), s.size ≤ n → s.size ≤ m → upF n s = upF m s := by
  intro n
  induction n with
  | zero =>
    intro m s h _
    have h0 : isName s = false := by
      cases hn : isName s with
      | false => rfl
      | true => have := isName_pos hn; omega
    cases m <;> simp [upF, h0]
  | succ n ih =>
    intro m s h hm
    cases hn : isName s with
    | false => cases m <;> simp [upF, hn]
    | true =>
      have hp := isName_pos hn
      have hs := parentR_size hn
      cases m with
      | zero => omega
      | succ m => simp only [upF, hn, if_true]; rw [ih m _ (by omega) (by omega)]
/-- A name, its parent, and so on. -/
def upB (s : ByteArray) : List ByteArray := upF s.size s
theorem upB_none {s : ByteArray} (h : isName s = false) : upB s = [] := by unfold upB; cases s.size <;> simp [upF, h]
theorem upB_cons {s : ByteArray} (h : isName s = true) : upB s = s :: upB (parentR s).1 := by
  have hp := isName_pos h
  have hs := parentR_size h
  unfold upB
  obtain ⟨n, hn⟩ : ∃ n, s.size = n + 1 := ⟨s.size - 1, by omega⟩
  rw [hn]
  simp only [upF, h, if_true]
  rw [upF_same n _ _ (by omega) (Nat.le_refl _)]
theorem upB_size : ∀ (n : Nat) (s : ByteArray), s.size ≤ n → ∀ x ∈ upB s, x.size ≤ s.size ∧ isName x = true := by
  intro n
  induction n with
  | zero =>
    intro s h x hx
    cases hn : isName s with
    | false => rw [upB_none hn] at hx; cases hx
    | true => have := isName_pos hn; omega
  | succ n ih =>
    intro s h x hx
    cases hn : isName s with
    | false => rw [upB_none hn] at hx; cases hx
    | true =>
      have hs := parentR_size hn
      rw [upB_cons hn] at hx
      rcases List.mem_cons.1 hx with rfl | hx
      · exact ⟨Nat.le_refl _, hn⟩
      · obtain ⟨h1, h2⟩ := ih _ (by omega) x hx
        exact ⟨by omega, h2⟩
theorem upB_rep : ∀ (ls : List (List UInt8)) (s : ByteArray), Rep s ls → ∀ x ∈ upB s, ∃ xs, Rep x xs ∧ xs <:+ ls
  | [], s, h, x, hx => by
    rw [upB_cons h.name, parent_root h, upB_none isName_empty] at hx
    obtain rfl : x = s := by simpa using hx
    exact ⟨[], h, List.suffix_refl _⟩
  | l :: r, s, h, x, hx => by
    rw [upB_cons h.name] at hx
    rcases List.mem_cons.1 hx with rfl | hx
    · exact ⟨_, h, List.suffix_refl _⟩
    · obtain ⟨xs, h1, h2⟩ := upB_rep r _ (parent_cons h).2 x hx
      exact ⟨xs, h1, h2.trans (List.suffix_cons l r)⟩

def depthB (s z : ByteArray) : Int := if withinB s z then ((labelsB s).length : Int) - ((labelsB z).length : Int) else -1
def commonR (a b : ByteArray) : ByteArray × Int := match (upB a).find? (withinB b) with | some x => (x, 0) | none => (⟨#[]⟩, 2)
/-- One label deeper than z. -/
def nextP (z x : ByteArray) : Bool := decide (depthB x z = 1)
def nextR (z n : ByteArray) : ByteArray × Int :=
  if isName z = false ∨ isName n = false then (⟨#[]⟩, 2) else match (upB n).find? (nextP z) with | some x => (x, 0) | none => (⟨#[]⟩, 3)

theorem depth_of {s z : ByteArray} {ls zs : List (List UInt8)} (h : Rep s ls) (k : Rep z zs) (hw : fl zs <:+ fl ls) : depthB s z = (ls.length : Int) - (zs.length : Int) := by
  rw [depthB, if_pos ((within_iff h k).2 hw), h.count, k.count]

/-- k times the parent. -/
def upN : Nat → ByteArray → ByteArray
  | 0, s => s
  | k + 1, s => (parentR (upN k s)).1
theorem upN_rep {s : ByteArray} {ls : List (List UInt8)} (h : Rep s ls) : ∀ k, k ≤ ls.length → Rep (upN k s) (ls.drop k)
  | 0, _ => h
  | k + 1, hk => by
    have ih := upN_rep h k (by omega)
    rw [List.drop_eq_getElem_cons (show k < ls.length by omega)] at ih
    exact (parent_cons ih).2
theorem upN_ok {s : ByteArray} {ls : List (List UInt8)} (h : Rep s ls) (k : Nat) (hk : k < ls.length) : (parentR (upN k s)).2 = 0 := by
  have ih := upN_rep h k (by omega)
  rw [List.drop_eq_getElem_cons hk] at ih
  exact (parent_cons ih).1
theorem upN_mem {s : ByteArray} {ls : List (List UInt8)} (h : Rep s ls) (k : Nat) (hk : k ≤ ls.length) : ∀ (m : Nat), m ≤ k → upN k s ∈ upB (upN (k - m) s)
  | 0, _ => by
    have := (upN_rep h k hk).name
    rw [Nat.sub_zero, upB_cons this]
    simp
  | m + 1, hm => by
    have ih := upN_mem h k hk m (by omega)
    have hn := (upN_rep h (k - (m + 1)) (by omega)).name
    rw [upB_cons hn]
    have e : (parentR (upN (k - (m + 1)) s)).1 = upN (k - m) s := by rw [show k - m = (k - (m + 1)) + 1 from by omega]; rfl
    rw [e]
    exact List.mem_cons_of_mem _ ih
theorem upN_size (s : ByteArray) : ∀ k, (upN k s).size ≤ s.size
  | 0 => Nat.le_refl _
  | k + 1 => by
    have ih := upN_size s k
    show (parentR (upN k s)).1.size ≤ s.size
    cases hn : isName (upN k s) with
    | true => have := parentR_size hn; omega
    | false => rw [parent_none hn]; exact Nat.zero_le _
theorem fl_drop_suffix (ls : List (List UInt8)) (k : Nat) : fl (ls.drop k) <:+ fl ls := by
  unfold fl; rw [List.map_drop]; exact List.drop_suffix _ _
theorem fl_suffix {a b : List (List UInt8)} (h : a <:+ b) : fl a <:+ fl b := List.IsSuffix.map _ h
theorem depth_self_none {s : ByteArray} (h : isName s = false) : depthB s s = -1 := by rw [depthB, within_none (.inl h)]; rfl
theorem depth_up {s : ByteArray} {ls : List (List UInt8)} (h : Rep s ls) (x y : Nat) (hxy : x ≤ y) (hy : y ≤ ls.length) : depthB (upN x s) (upN y s) = (y : Int) - (x : Int) := by
  have h1 := upN_rep h x (by omega)
  have h2 := upN_rep h y hy
  have h3 : fl (ls.drop y) <:+ fl (ls.drop x) := by
    have : ls.drop y = (ls.drop x).drop (y - x) := by rw [List.drop_drop]; congr 1; omega
    rw [this]; exact fl_drop_suffix _ _
  rw [depth_of h1 h2 h3]
  simp only [List.length_drop]
  omega
theorem next_root {s : ByteArray} {ls : List (List UInt8)} (h : Rep s ls) : (nextR s s).2 = 3 := by
  rw [nextR, if_neg (by rw [h.name]; simp)]
  have : (upB s).find? (nextP s) = none := by
    rw [List.find?_eq_none]
    intro x hx
    obtain ⟨xs, h1, h2⟩ := upB_rep ls s h x hx
    simp only [nextP, decide_eq_true_eq]
    intro hd
    unfold depthB at hd
    split at hd
    · rw [h1.count, h.count] at hd
      have := h2.length_le
      omega
    · omega
  rw [this]
theorem next_up {s : ByteArray} {ls : List (List UInt8)} (h : Rep s ls) (y : Nat) (h0 : 0 < y) (hy : y ≤ ls.length) :
    (nextR (upN y s) s).2 = 0 ∧ depthB (nextR (upN y s) s).1 (upN y s) = 1 ∧ withinB s (nextR (upN y s) s).1 = true := by
  have hc := upN_rep h y hy
  rw [nextR, if_neg (by rw [hc.name, h.name]; simp)]
  have hmem : upN (y - 1) s ∈ upB s := by
    have := upN_mem h (y - 1) (by omega) (y - 1) (Nat.le_refl _)
    rw [Nat.sub_self] at this
    exact this
  have hp : nextP (upN y s) (upN (y - 1) s) = true := by
    rw [nextP, depth_up h (y - 1) y (by omega) hy]
    exact decide_eq_true (by omega)
  cases hf : (upB s).find? (nextP (upN y s)) with
  | none => rw [List.find?_eq_none] at hf; exact absurd hp (hf _ hmem)
  | some d =>
    have h1 := List.find?_some hf
    have h2 := List.mem_of_find?_eq_some hf
    obtain ⟨xs, h3, h4⟩ := upB_rep ls s h d h2
    refine ⟨rfl, by simpa [nextP] using h1, (within_iff h h3).2 (fl_suffix h4)⟩

end Go.Proofs.Ytjnaknfnoibncaa

/- The mathematics of what two names have in common. Conditions: none. -/
namespace Go.Proofs.Ytjnaknfnoibncaa
open Go

theorem fl_cons (l : List UInt8) (r : List (List UInt8)) : fl (l :: r) = l.map foldB :: fl r := rfl
/-- What two names have in common: the longest end that both have. -/
theorem common_names {b : ByteArray} {lb : List (List UInt8)} (hb : Rep b lb) : ∀ (la : List (List UInt8)) (a : ByteArray), Rep a la →
    ∃ x xs, commonR a b = (x, 0) ∧ Rep x xs ∧ xs <:+ la ∧ fl xs <:+ fl lb ∧ ∀ zs, fl zs <:+ fl la → fl zs <:+ fl lb → fl zs <:+ fl xs := by
  intro la
  induction la with
  | nil =>
    intro a ha
    have hw : withinB b a = true := (within_iff hb ha).2 (List.nil_suffix)
    refine ⟨a, [], ?_, ha, List.suffix_refl _, List.nil_suffix, fun zs h _ => h⟩
    rw [commonR, upB_cons ha.name, List.find?_cons, hw]
  | cons l r ih =>
    intro a ha
    cases hw : withinB b a with
    | true =>
      refine ⟨a, l :: r, ?_, ha, List.suffix_refl _, (within_iff hb ha).1 hw, fun zs h _ => h⟩
      rw [commonR, upB_cons ha.name, List.find?_cons, hw]
    | false =>
      obtain ⟨x, xs, h1, h2, h3, h4, h5⟩ := ih _ (parent_cons ha).2
      refine ⟨x, xs, ?_, h2, h3.trans (List.suffix_cons _ _), h4, fun zs hz1 hz2 => ?_⟩
      · rw [commonR, upB_cons ha.name, List.find?_cons, hw]
        exact h1
      · refine h5 zs ?_ hz2
        rw [fl_cons] at hz1
        rcases List.suffix_cons_iff.1 hz1 with h | h
        · have : fl (l :: r) <:+ fl lb := by rw [fl_cons, ← h]; exact hz2
          rw [(within_iff hb ha).2 this] at hw
          cases hw
        · exact h
theorem common_none {a b : ByteArray} (h : isName a = false ∨ isName b = false) : commonR a b = (⟨#[]⟩, 2) := by
  rcases h with h | h
  · rw [commonR, upB_none h]; rfl
  · have : (upB a).find? (withinB b) = none := by
      rw [List.find?_eq_none]
      intro x _
      rw [within_none (.inl h)]
      simp
    rw [commonR, this]
theorem same_of {x y : ByteArray} {xs ys : List (List UInt8)} (hx : Rep x xs) (hy : Rep y ys) (h : fl xs = fl ys) : sameB x y = true := by
  rw [sameB, hx.name, hy.name]
  simp only [Bool.true_and, beq_iff_eq, toList_bl]
  rw [hx.fold.eq, hy.fold.eq, h]
/-- The whole: x and y, what a and b have in common, either way round. -/
theorem common_both {a b : ByteArray} (ha : isName a = true) (hb : isName b = true) : ∃ x y, commonR a b = (x, 0) ∧ commonR b a = (y, 0) ∧ sameB x y = true ∧ withinB a x = true ∧ withinB b x = true ∧ x.size ≤ 255 ∧ y.size ≤ 255 ∧
    ∀ c, withinB a c = true → withinB b c = true → withinB x c = true := by
  obtain ⟨la, hla⟩ := rep_of_name ha
  obtain ⟨lb, hlb⟩ := rep_of_name hb
  obtain ⟨x, xs, h1, h2, h3, h4, h5⟩ := common_names hlb la a hla
  obtain ⟨y, ys, g1, g2, g3, g4, g5⟩ := common_names hla lb b hlb
  have e1 : fl xs <:+ fl ys := g5 xs h4 (fl_suffix h3)
  have e2 : fl ys <:+ fl xs := h5 ys g4 (fl_suffix g3)
  have e : fl xs = fl ys := e1.eq_of_length_le e2.length_le
  refine ⟨x, y, h1, g1, same_of h2 g2 e, (within_iff hla h2).2 (fl_suffix h3), (within_iff hlb h2).2 h4, h2.len, g2.len, fun c hac hbc => ?_⟩
  have hc : isName c = true := by
    cases h : isName c with
    | true => rfl
    | false => rw [within_none (.inr h)] at hac; cases hac
  obtain ⟨lc, hlc⟩ := rep_of_name hc
  exact (within_iff h2 hlc).2 (h5 lc ((within_iff hla hlc).1 hac) ((within_iff hlb hlc).1 hbc))

end Go.Proofs.Ytjnaknfnoibncaa
