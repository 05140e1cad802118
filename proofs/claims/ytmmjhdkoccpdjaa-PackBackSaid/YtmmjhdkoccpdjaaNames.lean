/- Plain mathematics of names: the places behind the labels of a string, as a list. Conditions: none. -/
import Derived.Below
import Derived.Laws.Strings
namespace Go.Proofs.Ytmmjhdkoccpdjaa

def isLab (n : Nat) : Bool := decide (1 ≤ n ∧ n ≤ 63)

/-- The place behind the label that begins at a, if there is one. -/
def stepE (s : ByteArray) (a : Nat) : Option Nat :=
  if a < s.size then
    if s[a]!.toNat ≤ s.size - (a + 1) ∧ 1 ≤ s[a]!.toNat ∧ s[a]!.toNat ≤ 63 then some (a + 1 + s[a]!.toNat) else none
  else none

theorem stepE_lt {s : ByteArray} {a b : Nat} (h : stepE s a = some b) : a < b ∧ b ≤ s.size := by
  unfold stepE at h
  split at h
  · split at h
    · cases h; omega
    · cases h
  · cases h

def endsF : Nat → ByteArray → Nat → List Nat
  | 0, _, _ => []
  | n + 1, s, a => match stepE s a with
    | none => []
    | some b => b :: endsF n s b
theorem endsF_same (s : ByteArray) : ∀ (n m a : Nat), s.size - a ≤ n → s.size - a ≤ m → endsF n s a = endsF m s a := by
  intro n
  induction n with
  | zero =>
    intro m a h _
    have h0 : stepE s a = none := by unfold stepE; rw [if_neg (by omega)]
    cases m with
    | zero => rfl
    | succ m => simp [endsF, h0]
  | succ n ih =>
    intro m a h hm
    cases hs : stepE s a with
    | none => cases m <;> simp [endsF, hs]
    | some b =>
      have hb := stepE_lt hs
      cases m with
      | zero => omega
      | succ m => simp only [endsF, hs]; rw [ih m b (by omega) (by omega)]
/-- The places behind the labels from a on. -/
def endsE (s : ByteArray) (a : Nat) : List Nat := endsF (s.size - a) s a
theorem endsE_none {s : ByteArray} {a : Nat} (h : stepE s a = none) : endsE s a = [] := by
  unfold endsE
  cases s.size - a <;> simp [endsF, h]
theorem endsE_some {s : ByteArray} {a b : Nat} (h : stepE s a = some b) : endsE s a = b :: endsE s b := by
  have hb := stepE_lt h
  unfold endsE
  obtain ⟨m, hm⟩ : ∃ m, s.size - a = m + 1 := ⟨s.size - a - 1, by omega⟩
  rw [hm]
  simp only [endsF, h]
  rw [endsF_same s m (s.size - b) b (by omega) (Nat.le_refl _)]

/-- The place behind the last label. -/
def lastE (s : ByteArray) : Nat := (endsE s 0).getLastD 0
theorem endsE_le (s : ByteArray) : ∀ (n a : Nat), s.size - a ≤ n → a ≤ s.size → ∀ x ∈ endsE s a, x ≤ s.size := by
  intro n
  induction n with
  | zero =>
    intro a h ha x hx
    have : stepE s a = none := by unfold stepE; rw [if_neg (by omega)]
    rw [endsE_none this] at hx; cases hx
  | succ n ih =>
    intro a h ha x hx
    cases hs : stepE s a with
    | none => rw [endsE_none hs] at hx; cases hx
    | some b =>
      have hb := stepE_lt hs
      rw [endsE_some hs] at hx
      rcases List.mem_cons.1 hx with rfl | hx
      · exact hb.2
      · exact ih b (by omega) hb.2 x hx
theorem lastE_le (s : ByteArray) : lastE s ≤ s.size := by
  unfold lastE
  rw [List.getLastD_eq_getLast?]
  cases h : (endsE s 0).getLast? with
  | none => simp
  | some x => exact endsE_le s _ 0 (Nat.le_refl _) (Nat.zero_le _) x (List.mem_of_getLast? h)
def isName (s : ByteArray) : Bool := decide (s.size ≤ 255) && ((s.extract (lastE s) s.size).toList == [0])
/-- What Check answers. -/
def chk (s : ByteArray) : Int := if isName s then 0 else 2

/-- The labels that end at the given places, the first one beginning at a. -/
def labelsFrom (s : ByteArray) (a : Nat) : List Nat → List ByteArray
  | [] => []
  | b :: r => s.extract (a + 1) b :: labelsFrom s b r
theorem labelsFrom_split (s : ByteArray) : ∀ (pre : List Nat) (a x : Nat) (rest : List Nat), labelsFrom s a (pre ++ x :: rest) = labelsFrom s a pre ++ s.extract (pre.getLastD a + 1) x :: labelsFrom s x rest
  | [], a, x, rest => by simp [labelsFrom]
  | b :: pre, a, x, rest => by rw [List.cons_append, List.getLastD_cons, labelsFrom, labelsFrom_split s pre b x rest]; rfl
theorem labelsFrom_snoc (s : ByteArray) (pre : List Nat) (a x : Nat) : labelsFrom s a (pre ++ [x]) = labelsFrom s a pre ++ [s.extract (pre.getLastD a + 1) x] := by
  have := labelsFrom_split s pre a x []
  simpa [labelsFrom] using this
theorem endsE_chain (s : ByteArray) : ∀ (pre : List Nat) (a x : Nat) (rest : List Nat), endsE s a = pre ++ x :: rest → pre.getLastD a < x ∧ x ≤ s.size
  | [], a, x, rest, h => by
    cases hs : stepE s a with
    | none => rw [endsE_none hs] at h; cases h
    | some b =>
      rw [endsE_some hs] at h
      simp at h
      obtain ⟨rfl, _⟩ := h
      simpa using stepE_lt hs
  | b :: pre, a, x, rest, h => by
    cases hs : stepE s a with
    | none => rw [endsE_none hs] at h; cases h
    | some c =>
      rw [endsE_some hs] at h
      simp only [List.cons_append, List.cons.injEq] at h
      obtain ⟨rfl, h⟩ := h
      rw [List.getLastD_cons]; exact endsE_chain s pre c x rest h
def labelsB (s : ByteArray) : List ByteArray := if isName s then labelsFrom s 0 (endsE s 0) else []

theorem endsE_length (s : ByteArray) : ∀ (n a : Nat), s.size - a ≤ n → (endsE s a).length ≤ n := by
  intro n
  induction n with
  | zero =>
    intro a h
    have : stepE s a = none := by unfold stepE; rw [if_neg (by omega)]
    rw [endsE_none this]; simp
  | succ n ih =>
    intro a h
    cases hs : stepE s a with
    | none => rw [endsE_none hs]; simp
    | some b =>
      have hb := stepE_lt hs
      rw [endsE_some hs]
      simpa using ih b (by omega)
theorem labelsFrom_length (s : ByteArray) : ∀ (l : List Nat) (a : Nat), (labelsFrom s a l).length = l.length
  | [], _ => rfl
  | b :: r, _ => by simp [labelsFrom, labelsFrom_length s r b]
theorem labelsB_length (s : ByteArray) : (labelsB s).length ≤ s.size := by
  unfold labelsB
  split
  · rw [labelsFrom_length]; exact endsE_length s _ 0 (by omega)
  · simp
/-- What Parent answers. -/
def parentR (s : ByteArray) : ByteArray × Int :=
  if isName s then (match endsE s 0 with | [] => (⟨#[]⟩, 3) | e :: _ => (s.extract e s.size, 0)) else (⟨#[]⟩, 2)

/-- A byte's small letter. -/
def foldB (b : UInt8) : UInt8 := if 65 ≤ b.toNat ∧ b.toNat ≤ 90 then UInt8.ofNat (b.toNat + 32) else b
def foldS (s : ByteArray) : ByteArray := ⟨(s.data.toList.map foldB).toArray⟩

/-- The bytes of labels, each behind its length. -/
def encL (ls : List ByteArray) : List UInt8 := (ls.map fun x => UInt8.ofNat x.size :: x.data.toList).flatten
def sizeL (ls : List ByteArray) : Nat := (ls.map fun x => 1 + x.size).sum
theorem encL_snoc (ls : List ByteArray) (x : ByteArray) : encL (ls ++ [x]) = encL ls ++ UInt8.ofNat x.size :: x.data.toList := by simp [encL]
theorem sizeL_snoc (ls : List ByteArray) (x : ByteArray) : sizeL (ls ++ [x]) = sizeL ls + (1 + x.size) := by simp [sizeL]
theorem sizeL_append (a b : List ByteArray) : sizeL (a ++ b) = sizeL a + sizeL b := by simp [sizeL]
theorem isName_pos {s : ByteArray} (h : isName s = true) : 1 ≤ s.size := by
  simp only [isName, Bool.and_eq_true, beq_iff_eq] at h
  have h2 := congrArg List.length h.2
  rw [ByteArray.toList_eq] at h2
  have h3 : (s.extract (lastE s) s.size).data.toList.length = (s.extract (lastE s) s.size).size := rfl
  rw [h3, ByteArray.size_extract] at h2
  simp at h2
  omega
theorem sizeL_le (ls : List ByteArray) (h : ∀ x ∈ ls, x.size ≤ 63) : sizeL ls ≤ 64 * ls.length := by
  induction ls with
  | nil => simp [sizeL]
  | cons a r ih =>
    have h1 := h a (by simp)
    have h2 := ih (fun x hx => h x (by simp [hx]))
    simp only [sizeL, List.map_cons, List.sum_cons, List.length_cons] at h2 ⊢
    omega
theorem encL_length (ls : List ByteArray) : (encL ls).length = sizeL ls := by
  induction ls with
  | nil => simp [encL, sizeL]
  | cons a r ih =>
    have : a.data.toList.length = a.size := rfl
    simp only [encL, sizeL, List.map_cons, List.flatten_cons, List.length_append, List.length_cons, List.sum_cons] at ih ⊢
    omega
/-- What Join answers. -/
def joinR (n : ByteArray) (ls : List ByteArray) : ByteArray × Int :=
  if isName n = false then (⟨#[]⟩, 2) else if ls.all (fun x => isLab x.size) = false then (⟨#[]⟩, 2)
  else if 255 < n.size + sizeL ls then (⟨#[]⟩, 7) else (⟨(encL ls ++ n.data.toList).toArray⟩, 0)

def plainB (c : Nat) : Bool := decide (33 ≤ c ∧ c ≤ 126)
def digitB (c : Nat) : Bool := decide (48 ≤ c ∧ c ≤ 57)
/-- A byte as a text has it. -/
def escB (x : UInt8) : List UInt8 :=
  if plainB x.toNat = false then [92, UInt8.ofNat (48 + x.toNat / 100), UInt8.ofNat (48 + x.toNat / 10 % 10), UInt8.ofNat (48 + x.toNat % 10)]
  else if x.toNat = 46 ∨ x.toNat = 92 then [92, x] else [x]
theorem escB_length (x : UInt8) : (escB x).length ≤ 4 := by unfold escB; split <;> (try split) <;> simp
/-- Labels as a text has them. -/
def textL (ls : List ByteArray) : List UInt8 := (ls.map fun x => (x.data.toList.map escB).flatten ++ [46]).flatten
theorem flat_esc_length : ∀ (l : List UInt8), (l.map escB).flatten.length ≤ 4 * l.length
  | [] => by simp
  | a :: r => by
    have h1 := escB_length a
    have h2 := flat_esc_length r
    simp only [List.map_cons, List.flatten_cons, List.length_append, List.length_cons]
    omega
theorem textL_length : ∀ (ls : List ByteArray), (textL ls).length ≤ 4 * sizeL ls
  | [] => by simp [textL, sizeL]
  | a :: r => by
    have h1 := flat_esc_length a.data.toList
    have h2 := textL_length r
    have h3 : a.data.toList.length = a.size := rfl
    simp only [textL, sizeL, List.map_cons, List.flatten_cons, List.length_append, List.length_cons, List.sum_cons, List.length_nil] at h2 ⊢
    omega
theorem textL_snoc (ls : List ByteArray) (x : ByteArray) : textL (ls ++ [x]) = textL ls ++ (x.data.toList.map escB).flatten ++ [46] := by simp [textL]
theorem sizeL_labelsFrom (s : ByteArray) : ∀ (n a : Nat), s.size - a ≤ n → a ≤ s.size → sizeL (labelsFrom s a (endsE s a)) ≤ s.size - a := by
  intro n
  induction n with
  | zero =>
    intro a h _
    have : stepE s a = none := by unfold stepE; rw [if_neg (by omega)]
    rw [endsE_none this]; simp [labelsFrom, sizeL]
  | succ n ih =>
    intro a h ha
    cases hs : stepE s a with
    | none => rw [endsE_none hs]; simp [labelsFrom, sizeL]
    | some b =>
      have hb := stepE_lt hs
      have h2 := ih b (by omega) hb.2
      rw [endsE_some hs, labelsFrom]
      have : sizeL (s.extract (a + 1) b :: labelsFrom s b (endsE s b)) = (1 + (s.extract (a + 1) b).size) + sizeL (labelsFrom s b (endsE s b)) := by simp [sizeL]
      rw [this, ByteArray.size_extract]
      omega
theorem sizeL_labelsB (s : ByteArray) : sizeL (labelsB s) ≤ s.size := by
  unfold labelsB
  split
  · exact sizeL_labelsFrom s _ 0 (Nat.le_refl _) (Nat.zero_le _)
  · simp [sizeL]
theorem labelsB_ne {s : ByteArray} (hn : isName s = true) (hr : (s.toList == [0]) = false) : labelsB s ≠ [] := by
  rw [labelsB, if_pos hn]
  cases he : endsE s 0 with
  | nil =>
    exfalso
    simp only [isName, Bool.and_eq_true] at hn
    have h0 : lastE s = 0 := by rw [lastE, he]; rfl
    rw [h0, ByteArray.extract_zero_size] at hn
    rw [hn.2] at hr
    cases hr
  | cons a r => simp [labelsFrom]
theorem textL_ne {ls : List ByteArray} (h : ls ≠ []) : textL ls ≠ [] := by
  cases ls with
  | nil => exact absurd rfl h
  | cons a r => simp [textL]
def printR (s : ByteArray) : ByteArray × Int :=
  if isName s = false then (⟨#[]⟩, 2) else if (s.toList == [0]) = true then (⟨#[46]⟩, 0) else (⟨(textL (labelsB s)).toArray⟩, 0)

/-- The first byte that a text tells, and how many of its own bytes do so. -/
def decV (a b c : Nat) : Nat := 100 * (a - 48) + 10 * (b - 48) + (c - 48)
def readR (s : ByteArray) : UInt8 × Nat :=
  if s[0]!.toNat ≠ 92 then (if plainB s[0]!.toNat then (s[0]!, 1) else (0, 0))
  else if 2 ≤ s.size ∧ digitB s[1]!.toNat = false then (s[1]!, 2)
  else if 4 ≤ s.size ∧ digitB s[1]!.toNat = true ∧ digitB s[2]!.toNat = true ∧ digitB s[3]!.toNat = true ∧ decV s[1]!.toNat s[2]!.toNat s[3]!.toNat ≤ 255 then
    (UInt8.ofNat (decV s[1]!.toNat s[2]!.toNat s[3]!.toNat), 4) else (0, 0)

theorem size_rest (t : ByteArray) (n : Nat) : (t.extract n t.size).size = t.size - n := by rw [ByteArray.size_extract]; omega
def trimDot (t : ByteArray) : ByteArray := if 1 ≤ t.size ∧ ((t.extract 0 1).toList == [46]) = true then t.extract 1 t.size else t
theorem readR_le {t : ByteArray} (h : 1 ≤ t.size) : (readR t).2 ≤ t.size := by
  unfold readR
  split
  · split
    · exact h
    · exact Nat.zero_le _
  · split
    · next h2 => exact h2.1
    · split
      · next h4 => exact h4.1
      · exact Nat.zero_le _
/-- A text's bytes up to its end, or to its first dot. -/
def labF : Nat → ByteArray → Option (List UInt8 × ByteArray)
  | 0, t => some ([], t)
  | n + 1, t => if t.size = 0 then some ([], t) else if t[0]!.toNat = 46 then some ([], t)
    else if (readR t).2 = 0 then none else (labF n (t.extract (readR t).2 t.size)).map fun x => ((readR t).1 :: x.1, x.2)
theorem labF_same : ∀ (n m : Nat) (t : ByteArray), t.size ≤ n → t.size ≤ m → labF n t = labF m t := by
  intro n
  induction n with
  | zero =>
    intro m t h _
    have h0 : t.size = 0 := by omega
    cases m with
    | zero => rfl
    | succ m => simp [labF, h0]
  | succ n ih =>
    intro m t h hm
    cases m with
    | zero =>
      have h0 : t.size = 0 := by omega
      simp [labF, h0]
    | succ m =>
      by_cases h0 : t.size = 0
      · simp [labF, h0]
      · by_cases h46 : t[0]!.toNat = 46
        · simp [labF, h46]
        · by_cases hn : (readR t).2 = 0
          · simp [labF, h0, h46, hn]
          · have hle := readR_le (t := t) (by omega)
            simp only [labF, h0, h46, hn, if_false]
            rw [ih m _ (by rw [size_rest]; omega) (by rw [size_rest]; omega)]
def labR (t : ByteArray) : Option (List UInt8 × ByteArray) := labF t.size t
def cutR (t : ByteArray) : ByteArray × ByteArray × Int :=
  match labR t with
  | none => (⟨#[]⟩, ⟨#[]⟩, 6)
  | some (l, r) => if l = [] then (⟨#[]⟩, ⟨#[]⟩, 6) else (⟨l.toArray⟩, trimDot r, 0)
theorem labR_end {t : ByteArray} (h : t.size = 0 ∨ t[0]!.toNat = 46) : labR t = some ([], t) := by
  unfold labR
  cases hs : t.size with
  | zero => rfl
  | succ n =>
    have h46 := h.resolve_left (by omega)
    simp [labF, h46]
theorem labR_bad {t : ByteArray} (h : ¬ (t.size = 0 ∨ t[0]!.toNat = 46)) (hn : (readR t).2 = 0) : labR t = none := by
  unfold labR
  cases hs : t.size with
  | zero => exact absurd (.inl hs) h
  | succ n =>
    simp only [labF]
    rw [if_neg (fun h0 => h (.inl h0)), if_neg (fun h0 => h (.inr h0)), if_pos hn]
theorem labR_go {t : ByteArray} (h : ¬ (t.size = 0 ∨ t[0]!.toNat = 46)) (hn : (readR t).2 ≠ 0) :
    labR t = (labR (t.extract (readR t).2 t.size)).map fun x => ((readR t).1 :: x.1, x.2) := by
  unfold labR
  cases hs : t.size with
  | zero => exact absurd (.inl hs) h
  | succ n =>
    have hle := readR_le (t := t) (by omega)
    simp only [labF]
    rw [if_neg (fun h0 => h (.inl h0)), if_neg (fun h0 => h (.inr h0)), if_neg hn]
    have h1 : (t.extract (readR t).2 (n + 1)).size = t.size - (readR t).2 := by rw [← hs, size_rest]
    rw [hs]
    rw [labF_same n _ _ (by rw [h1]; omega) (Nat.le_refl _)]

theorem labR_size : ∀ (n : Nat) (t : ByteArray), t.size ≤ n → ∀ l r, labR t = some (l, r) → r.size + l.length ≤ t.size := by
  intro n
  induction n with
  | zero =>
    intro t ht l r h
    rw [labR_end (.inl (by omega))] at h
    cases h
    simp
  | succ n ih =>
    intro t ht l r h
    by_cases he : t.size = 0 ∨ t[0]!.toNat = 46
    · rw [labR_end he] at h
      cases h
      simp
    · by_cases hn : (readR t).2 = 0
      · rw [labR_bad he hn] at h; cases h
      · rw [labR_go he hn] at h
        obtain ⟨⟨l', r'⟩, h1, h2⟩ := Option.map_eq_some_iff.1 h
        cases h2
        have hle := readR_le (t := t) (by omega)
        have h3 := ih _ (by rw [size_rest]; omega) _ _ h1
        rw [size_rest] at h3
        simp only [List.length_cons]
        omega
theorem trimDot_le (t : ByteArray) : (trimDot t).size ≤ t.size := by
  unfold trimDot
  split
  · rw [size_rest]; omega
  · exact Nat.le_refl _
theorem trimDot_lab {t : ByteArray} {l : List UInt8} {r : ByteArray} (h : labR t = some (l, r)) (hl : l ≠ []) : (trimDot r).size + l.length ≤ t.size ∧ 1 ≤ l.length := by
  have h1 := labR_size _ t (Nat.le_refl _) l r h
  have h2 := trimDot_le r
  have h3 : 1 ≤ l.length := by cases l with | nil => exact absurd rfl hl | cons _ _ => simp
  omega
/-- A text's labels. -/
def splitF : Nat → ByteArray → Option (List ByteArray)
  | 0, _ => some []
  | n + 1, t => if t.size = 0 then some [] else if (cutR t).2.2 = 0 then (splitF n (cutR t).2.1).map ((cutR t).1 :: ·) else none
theorem cutR_size {t : ByteArray} (hc : (cutR t).2.2 = 0) : (cutR t).2.1.size + (cutR t).1.size ≤ t.size ∧ 1 ≤ (cutR t).1.size := by
  cases hl : labR t with
  | none => rw [cutR, hl] at hc; simp at hc
  | some y =>
    obtain ⟨l, r⟩ := y
    by_cases hne : l = []
    · rw [cutR, hl] at hc; simp [hne] at hc
    · have hcut : cutR t = (⟨l.toArray⟩, trimDot r, 0) := by rw [cutR, hl]; simp [hne]
      have hsz : (⟨l.toArray⟩ : ByteArray).size = l.length := by show l.toArray.size = _; simp
      rw [hcut]
      show (trimDot r).size + (⟨l.toArray⟩ : ByteArray).size ≤ t.size ∧ 1 ≤ (⟨l.toArray⟩ : ByteArray).size
      rw [hsz]; exact trimDot_lab hl hne
theorem splitF_same : ∀ (n m : Nat) (t : ByteArray), t.size ≤ n → t.size ≤ m → splitF n t = splitF m t := by
  intro n
  induction n with
  | zero =>
    intro m t h _
    have h0 : t.size = 0 := by omega
    cases m with
    | zero => rfl
    | succ m => simp [splitF, h0]
  | succ n ih =>
    intro m t h hm
    cases m with
    | zero =>
      have h0 : t.size = 0 := by omega
      simp [splitF, h0]
    | succ m =>
      by_cases h0 : t.size = 0
      · simp [splitF, h0]
      · by_cases hc : (cutR t).2.2 = 0
        · have h1 := cutR_size hc
          simp only [splitF, h0, hc, if_false, if_true]
          rw [ih m _ (by omega) (by omega)]
        · simp [splitF, h0, hc]
def splitR (t : ByteArray) : Option (List ByteArray) := splitF t.size t
theorem splitR_nil {t : ByteArray} (h : t.size = 0) : splitR t = some [] := by unfold splitR; rw [h]; rfl
theorem splitR_bad {t : ByteArray} (h : t.size ≠ 0) (hc : (cutR t).2.2 ≠ 0) : splitR t = none := by
  unfold splitR
  cases hs : t.size with
  | zero => exact absurd hs h
  | succ n => simp only [splitF]; rw [if_neg h, if_neg hc]
theorem splitR_go {t : ByteArray} (h : t.size ≠ 0) (hc : (cutR t).2.2 = 0) : splitR t = (splitR (cutR t).2.1).map ((cutR t).1 :: ·) ∧ (cutR t).2.1.size + (cutR t).1.size ≤ t.size ∧ 1 ≤ (cutR t).1.size := by
  have h1 := cutR_size hc
  refine ⟨?_, h1⟩
  unfold splitR
  cases hs : t.size with
  | zero => exact absurd hs h
  | succ n =>
    simp only [splitF]
    rw [if_neg h, if_pos hc, splitF_same n _ _ (by omega) (Nat.le_refl _)]
/-- What Parse answers. -/
def splitK (t : ByteArray) : Option (List ByteArray) := (splitR t).bind fun l => if l = [] then none else some l
def parseR (t : ByteArray) : ByteArray × Int :=
  if 2048 < t.size then (⟨#[]⟩, 7) else if (t.toList == [46]) = true then (⟨#[0]⟩, 0) else
  match splitK t with
  | none => (⟨#[]⟩, 6)
  | some ls => if ls.any (fun x => decide (63 < x.size)) = true then (⟨#[]⟩, 7) else joinR ⟨#[0]⟩ ls

end Go.Proofs.Ytmmjhdkoccpdjaa
