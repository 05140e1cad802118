/- Plain mathematics of sums with a key: turns, rounds, words, bytes. Conditions: each says its own. -/
import Derived.Laws.BitsAllLaws
import Derived.Lib.Hide
namespace Go.Proofs.Ytjnaknfnoibncaa
open Go

theorem p64 : (2 : Nat) ^ 64 = 18446744073709551616 := by decide

def addM (x y : Nat) : Nat := (x + y) % 18446744073709551616
def rotM (x k : Nat) : Nat := (x * 2 ^ k % 18446744073709551616) ||| (x / 2 ^ (64 - k))

theorem addM_lt (x y : Nat) : addM x y < 18446744073709551616 := Nat.mod_lt _ (by decide)
theorem addM_inj {x x' y : Nat} (hx : x < 18446744073709551616) (hx' : x' < 18446744073709551616) (h : addM x y = addM x' y) : x = x' := by
  unfold addM at h; omega
theorem rotM_eq (x k : Nat) (hk : k ≤ 64) (hx : x < 18446744073709551616) : rotM x k = 2 ^ k * (x % 2 ^ (64 - k)) + x / 2 ^ (64 - k) ∧ x / 2 ^ (64 - k) < 2 ^ k := by
  have h64 : 18446744073709551616 = 2 ^ k * 2 ^ (64 - k) := by rw [← Nat.pow_add, show k + (64 - k) = 64 by omega, p64]
  have h2 : x / 2 ^ (64 - k) < 2 ^ k := by
    rw [Nat.div_lt_iff_lt_mul (Nat.two_pow_pos _), ← h64]; exact hx
  have h1 : x * 2 ^ k % 18446744073709551616 = 2 ^ k * (x % 2 ^ (64 - k)) := by
    rw [h64, Nat.mul_comm x, Nat.mul_mod_mul_left]
  refine ⟨?_, h2⟩
  unfold rotM
  rw [h1]
  exact nat_join k _ _ (Nat.mul_mod_right _ _) h2
theorem rotM_lt (x k : Nat) (hk : k ≤ 64) (hx : x < 18446744073709551616) : rotM x k < 18446744073709551616 := by
  obtain ⟨h1, h2⟩ := rotM_eq x k hk hx
  have h64 : 18446744073709551616 = 2 ^ k * 2 ^ (64 - k) := by rw [← Nat.pow_add, show k + (64 - k) = 64 by omega, p64]
  have h3 : x % 2 ^ (64 - k) + 1 ≤ 2 ^ (64 - k) := Nat.mod_lt _ (Nat.two_pow_pos _)
  have h4 := Nat.mul_le_mul_left (2 ^ k) h3
  rw [← h64, Nat.mul_add, Nat.mul_one] at h4
  omega
theorem rotM_inj {x y k : Nat} (hk : k ≤ 64) (hx : x < 18446744073709551616) (hy : y < 18446744073709551616) (h : rotM x k = rotM y k) : x = y := by
  obtain ⟨h1, h2⟩ := rotM_eq x k hk hx
  obtain ⟨h3, h4⟩ := rotM_eq y k hk hy
  rw [h1, h3] at h
  have hp : 0 < 2 ^ k := Nat.two_pow_pos k
  have hm := congrArg (· % 2 ^ k) h
  have hd := congrArg (· / 2 ^ k) h
  simp only [Nat.mul_add_mod, Nat.mod_eq_of_lt h2, Nat.mod_eq_of_lt h4, Nat.mul_add_div hp, Nat.div_eq_of_lt h2, Nat.div_eq_of_lt h4, Nat.add_zero] at hm hd
  rw [← Nat.div_add_mod x (2 ^ (64 - k)), ← Nat.div_add_mod y (2 ^ (64 - k)), hm, hd]
theorem xorM_lt {x y : Nat} (hx : x < 18446744073709551616) (hy : y < 18446744073709551616) : x ^^^ y < 18446744073709551616 := by
  rw [← p64] at *; exact Nat.xor_lt_two_pow hx hy
theorem xorM_inj {x x' y : Nat} (h : x ^^^ y = x' ^^^ y) : x = x' := by
  have h2 := congrArg (· ^^^ y) h
  simpa [Nat.xor_assoc] using h2

/-- Four numbers. -/
structure St where
  a : Nat
  b : Nat
  c : Nat
  d : Nat
structure St.ok (s : St) : Prop where
  a : s.a < 18446744073709551616
  b : s.b < 18446744073709551616
  c : s.c < 18446744073709551616
  d : s.d < 18446744073709551616
theorem St.ext' {s t : St} (h1 : s.a = t.a) (h2 : s.b = t.b) (h3 : s.c = t.c) (h4 : s.d = t.d) : s = t := by cases s; cases t; simp_all
/-- One number is brought into another one. -/
def mixM (x y k : Nat) : Nat := rotM y k ^^^ x
/-- A round. -/
def roundM (s : St) : St :=
  let a1 := addM s.a s.b
  let b1 := mixM a1 s.b 13
  let a2 := rotM a1 32
  let c1 := addM s.c s.d
  let d1 := mixM c1 s.d 16
  let a3 := addM a2 d1
  let d2 := mixM a3 d1 21
  let c2 := addM c1 b1
  let b2 := mixM c2 b1 17
  ⟨a3, b2, rotM c2 32, d2⟩
theorem mixM_lt {x y k : Nat} (hk : k ≤ 64) (hx : x < 18446744073709551616) (hy : y < 18446744073709551616) : mixM x y k < 18446744073709551616 := xorM_lt (rotM_lt _ _ hk hy) hx
theorem mixM_inj {x y y' k : Nat} (hk : k ≤ 64) (hy : y < 18446744073709551616) (hy' : y' < 18446744073709551616) (h : mixM x y k = mixM x y' k) : y = y' := rotM_inj hk hy hy' (xorM_inj h)
theorem roundM_ok {s : St} (h : s.ok) : (roundM s).ok := by
  have b1 := mixM_lt (k := 13) (by decide) (addM_lt s.a s.b) h.b
  have d1 := mixM_lt (k := 16) (by decide) (addM_lt s.c s.d) h.d
  exact ⟨addM_lt _ _, mixM_lt (by decide) (addM_lt _ _) b1, rotM_lt _ _ (by decide) (addM_lt _ _), mixM_lt (by decide) (addM_lt _ _) d1⟩
theorem roundM_inj {s t : St} (hs : s.ok) (ht : t.ok) (h : roundM s = roundM t) : s = t := by
  have ha : (roundM s).a = (roundM t).a := by rw [h]
  have hb : (roundM s).b = (roundM t).b := by rw [h]
  have hc : (roundM s).c = (roundM t).c := by rw [h]
  have hd : (roundM s).d = (roundM t).d := by rw [h]
  simp only [roundM] at ha hb hc hd
  have hc2 := rotM_inj (by decide) (addM_lt _ _) (addM_lt _ _) hc
  rw [hc2] at hb
  have b1 := mixM_lt (k := 13) (by decide) (addM_lt s.a s.b) hs.b
  have b1' := mixM_lt (k := 13) (by decide) (addM_lt t.a t.b) ht.b
  have d1 := mixM_lt (k := 16) (by decide) (addM_lt s.c s.d) hs.d
  have d1' := mixM_lt (k := 16) (by decide) (addM_lt t.c t.d) ht.d
  have hb1 := mixM_inj (by decide) b1 b1' hb
  rw [hb1] at hc2
  have hc1 := addM_inj (addM_lt _ _) (addM_lt _ _) hc2
  rw [ha] at hd
  have hd1 := mixM_inj (by decide) d1 d1' hd
  rw [hd1] at ha
  have ha2 := addM_inj (rotM_lt _ _ (by decide) (addM_lt _ _)) (rotM_lt _ _ (by decide) (addM_lt _ _)) ha
  have ha1 := rotM_inj (by decide) (addM_lt _ _) (addM_lt _ _) ha2
  rw [ha1] at hb1
  have hbb := mixM_inj (by decide) hs.b ht.b hb1
  rw [hc1] at hd1
  have hdd := mixM_inj (by decide) hs.d ht.d hd1
  rw [hbb] at ha1
  rw [hdd] at hc1
  exact St.ext' (addM_inj hs.a ht.a ha1) hbb (addM_inj hs.c ht.c hc1) hdd
/-- So many rounds. -/
def roundsM : Nat → St → St
  | 0, s => s
  | n + 1, s => roundM (roundsM n s)
theorem roundsM_ok {s : St} (h : s.ok) : ∀ n, (roundsM n s).ok
  | 0 => h
  | n + 1 => roundM_ok (roundsM_ok h n)
theorem roundsM_add (s : St) (m : Nat) : ∀ n, roundsM n (roundsM m s) = roundsM (m + n) s
  | 0 => rfl
  | n + 1 => by rw [← Nat.add_assoc]; simp only [roundsM]; rw [roundsM_add s m n]

/-- The number of bytes, the lowest first. -/
def lowB : List UInt8 → Nat
  | [] => 0
  | b :: r => b.toNat + 256 * lowB r
theorem lowB_lt : ∀ l : List UInt8, lowB l < 256 ^ l.length
  | [] => by simp [lowB]
  | b :: r => by
    have h1 := lowB_lt r
    have h2 := b.toNat_lt
    simp only [lowB, List.length_cons, Nat.pow_succ]
    have h3 : lowB r + 1 ≤ 256 ^ r.length := h1
    omega
theorem lowB_inj : ∀ {l m : List UInt8}, l.length = m.length → lowB l = lowB m → l = m
  | [], [], _, _ => rfl
  | [], _ :: _, h, _ => by simp at h
  | _ :: _, [], h, _ => by simp at h
  | b :: r, c :: t, hl, h => by
    simp only [lowB] at h
    have h2 := b.toNat_lt
    have h3 := c.toNat_lt
    have h4 : b.toNat = c.toNat := by omega
    have h5 : lowB r = lowB t := by omega
    rw [UInt8.toNat_inj.1 h4, lowB_inj (by simpa using hl) h5]
theorem lowB_append (l m : List UInt8) : lowB (l ++ m) = lowB l + 256 ^ l.length * lowB m := by
  induction l with
  | nil => simp [lowB]
  | cons b r ih => simp only [List.cons_append, lowB, ih, List.length_cons, Nat.pow_succ, Nat.mul_add]; rw [← Nat.add_assoc, ← Nat.mul_assoc, Nat.mul_comm 256 (256 ^ r.length)]
theorem lowB_snoc (l : List UInt8) (b : UInt8) : lowB (l ++ [b]) = lowB l + 256 ^ l.length * b.toNat := by rw [lowB_append]; simp [lowB]
theorem lowB_lt8 {l : List UInt8} (h : l.length ≤ 8) : lowB l < 18446744073709551616 :=
  Nat.lt_of_lt_of_le (lowB_lt l) (Nat.le_trans (Nat.pow_le_pow_right (by decide) h) (by decide))
theorem lowB_lt7 {l : List UInt8} (h : l.length ≤ 7) : lowB l < 72057594037927936 :=
  Nat.lt_of_lt_of_le (lowB_lt l) (Nat.le_trans (Nat.pow_le_pow_right (by decide) h) (by decide))
/-- The bytes of a number, the lowest first. -/
def bytesM (n : Nat) : Nat → List UInt8
  | 0 => []
  | k + 1 => bytesM n k ++ [UInt8.ofNat (n / 256 ^ k % 256)]
theorem bytesM_length (n : Nat) : ∀ k, (bytesM n k).length = k
  | 0 => rfl
  | k + 1 => by simp [bytesM, bytesM_length n k]
theorem lowB_bytes (n : Nat) : ∀ k, lowB (bytesM n k) = n % 256 ^ k
  | 0 => by simp [bytesM, lowB, Nat.mod_one]
  | k + 1 => by
    have hb : (UInt8.ofNat (n / 256 ^ k % 256)).toNat = n / 256 ^ k % 256 := by
      rw [UInt8.toNat_ofNat']; omega
    rw [bytesM, lowB_snoc, bytesM_length, lowB_bytes n k, hb, Nat.pow_succ, Nat.mod_mul]

/-- The words of a text. -/
def wordJ (s : ByteArray) (j : Nat) : Nat :=
  if j < s.size / 8 then lowB ((s.data.toList.drop (8 * j)).take 8)
  else lowB (s.data.toList.drop (8 * j)) + s.size % 256 * 72057594037927936
def wordsB (s : ByteArray) : List Nat := (List.range (s.size / 8 + 1)).map (wordJ s)
theorem len_list (s : ByteArray) : s.data.toList.length = s.size := rfl
theorem wordJ_lt (s : ByteArray) (j : Nat) (hj : j ≤ s.size / 8) : wordJ s j < 18446744073709551616 := by
  unfold wordJ
  split
  · exact lowB_lt8 (by simp; omega)
  · have h1 := lowB_lt7 (l := s.data.toList.drop (8 * j)) (by rw [List.length_drop, len_list]; omega)
    omega
theorem wordsB_length (s : ByteArray) : (wordsB s).length = s.size / 8 + 1 := by simp [wordsB]
/-- Words tell the length, as a byte can. -/
theorem words_len {s t : ByteArray} (h : wordsB s = wordsB t) : s.size % 256 = t.size % 256 := by
  have hl := congrArg List.length h
  rw [wordsB_length, wordsB_length] at hl
  have he : s.size / 8 = t.size / 8 := by omega
  have h1 : (wordsB s)[s.size / 8]? = (wordsB t)[s.size / 8]? := by rw [h]
  rw [wordsB, wordsB, List.getElem?_map, List.getElem?_map, List.getElem?_range (by omega), List.getElem?_range (by omega)] at h1
  simp only [Option.map_some, Option.some.injEq] at h1
  unfold wordJ at h1
  rw [if_neg (by omega), if_neg (by omega)] at h1
  have a1 := lowB_lt7 (l := s.data.toList.drop (8 * (s.size / 8))) (by rw [List.length_drop, len_list]; omega)
  have a2 := lowB_lt7 (l := t.data.toList.drop (8 * (s.size / 8))) (by rw [List.length_drop, len_list]; omega)
  omega
/-- Words of one length tell the text. -/
theorem words_inj {s t : ByteArray} (hz : s.size = t.size) (h : wordsB s = wordsB t) : s = t := by
  have hw : ∀ j, j ≤ s.size / 8 → wordJ s j = wordJ t j := by
    intro j hj
    have h1 : (wordsB s)[j]? = (wordsB t)[j]? := by rw [h]
    rw [wordsB, wordsB, List.getElem?_map, List.getElem?_map, List.getElem?_range (by omega), List.getElem?_range (by omega)] at h1
    simpa using h1
  have hl : ∀ j, (s.data.toList.drop (8 * j)).take 8 = (t.data.toList.drop (8 * j)).take 8 := by
    intro j
    by_cases hj : j < s.size / 8
    · have h1 := hw j (by omega)
      unfold wordJ at h1
      rw [if_pos hj, if_pos (by omega)] at h1
      exact lowB_inj (by simp only [List.length_take, List.length_drop, len_list]; omega) h1
    · by_cases hj2 : j = s.size / 8
      · have h1 := hw j (by omega)
        unfold wordJ at h1
        rw [if_neg hj, if_neg (by omega), hz] at h1
        rw [lowB_inj (l := s.data.toList.drop (8 * j)) (m := t.data.toList.drop (8 * j)) (by simp only [List.length_drop, len_list]; omega) (by omega)]
      · rw [List.drop_of_length_le (by rw [len_list]; omega), List.drop_of_length_le (by rw [len_list]; omega)]
  have he : s.data.toList = t.data.toList := by
    apply List.ext_getElem?
    intro i
    have h1 := congrArg (·[i % 8]?) (hl (i / 8))
    simp only [List.getElem?_take, List.getElem?_drop, Nat.mod_lt i (by decide : 0 < 8), if_true] at h1
    rwa [Nat.div_add_mod] at h1
  cases s; cases t; simp only [ByteArray.mk.injEq]; exact Array.toList_inj.1 he
end Go.Proofs.Ytjnaknfnoibncaa
