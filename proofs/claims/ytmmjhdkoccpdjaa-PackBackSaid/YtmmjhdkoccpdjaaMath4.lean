/- The mathematics of the order of names: bytes, texts, lists of texts. Conditions: none. -/
import Derived.Test.YtmmjhdkoccpdjaaWalkG
namespace Go.Proofs.Ytmmjhdkoccpdjaa
open Go

theorem bless_irrefl : ∀ x : List UInt8, Op.bytesLess x x = false
  | [] => rfl
  | a :: x => by simp [Op.bytesLess, bless_irrefl x]
theorem bless_trans : ∀ x y z : List UInt8, Op.bytesLess x y = true → Op.bytesLess y z = true → Op.bytesLess x z = true
  | _, _, [], _, h => by simp [Op.bytesLess] at h
  | _, [], _ :: _, h, _ => by simp [Op.bytesLess] at h
  | [], _ :: _, _ :: _, _, _ => rfl
  | a :: x, b :: y, c :: z, h1, h2 => by
    simp only [Op.bytesLess, Bool.or_eq_true, decide_eq_true_eq, Bool.and_eq_true, beq_iff_eq] at h1 h2 ⊢
    rcases h1 with h1 | ⟨rfl, h1⟩
    · rcases h2 with h2 | ⟨rfl, _⟩
      · exact .inl (UInt8.lt_trans h1 h2)
      · exact .inl h1
    · rcases h2 with h2 | ⟨rfl, h2⟩
      · exact .inl h2
      · exact .inr ⟨rfl, bless_trans x y z h1 h2⟩
theorem bless_total : ∀ x y : List UInt8, Op.bytesLess x y = false → Op.bytesLess y x = false → x = y
  | [], [], _, _ => rfl
  | [], _ :: _, h, _ => by simp [Op.bytesLess] at h
  | _ :: _, [], _, h => by simp [Op.bytesLess] at h
  | a :: x, b :: y, h1, h2 => by
    simp only [Op.bytesLess, Bool.or_eq_false_iff, decide_eq_false_iff_not, Bool.and_eq_false_iff, beq_eq_false_iff_ne] at h1 h2
    have hab : a = b := UInt8.le_antisymm (UInt8.not_lt.1 h2.1) (UInt8.not_lt.1 h1.1)
    subst hab
    congr 1
    exact bless_total x y (h1.2.resolve_left (by simp)) (h2.2.resolve_left (by simp))

/-- The order of lists of texts, by what stands first. -/
def lexLt : List (List UInt8) → List (List UInt8) → Prop
  | _, [] => False
  | [], _ :: _ => True
  | x :: xs, y :: ys => Op.bytesLess x y = true ∨ (x = y ∧ lexLt xs ys)
theorem lex_irrefl : ∀ x, ¬ lexLt x x
  | [] => fun h => h
  | a :: x => fun h => by
    rcases h with h | ⟨_, h⟩
    · rw [bless_irrefl] at h; cases h
    · exact lex_irrefl x h
theorem lex_nil : ∀ x, ¬ lexLt x []
  | [] => fun h => h
  | _ :: _ => fun h => h
theorem lex_trans : ∀ x y z, lexLt x y → lexLt y z → lexLt x z
  | _, _, [], _, h => (lex_nil _ h).elim
  | _, [], _ :: _, h, _ => (lex_nil _ h).elim
  | [], _ :: _, _ :: _, _, _ => trivial
  | a :: x, b :: y, c :: z, h1, h2 => by
    rcases h1 with h1 | ⟨rfl, h1⟩
    · rcases h2 with h2 | ⟨rfl, _⟩
      · exact .inl (bless_trans _ _ _ h1 h2)
      · exact .inl h1
    · rcases h2 with h2 | ⟨rfl, h2⟩
      · exact .inl h2
      · exact .inr ⟨rfl, lex_trans x y z h1 h2⟩
theorem lex_total : ∀ x y, lexLt x y ∨ lexLt y x ∨ x = y
  | [], [] => .inr (.inr rfl)
  | [], _ :: _ => .inl trivial
  | _ :: _, [] => .inr (.inl trivial)
  | a :: x, b :: y => by
    cases h1 : Op.bytesLess a b with
    | true => exact .inl (.inl h1)
    | false =>
      cases h2 : Op.bytesLess b a with
      | true => exact .inr (.inl (.inl h2))
      | false =>
        obtain rfl := bless_total a b h1 h2
        rcases lex_total x y with h | h | h
        · exact .inl (.inr ⟨rfl, h⟩)
        · exact .inr (.inl (.inr ⟨rfl, h⟩))
        · exact .inr (.inr (by rw [h]))
/-- What goes on stands behind what it goes on from. -/
theorem lex_more : ∀ (x : List (List UInt8)) (y : List UInt8) (z : List (List UInt8)), lexLt x (x ++ y :: z)
  | [], _, _ => trivial
  | _ :: x, y, z => .inr ⟨rfl, lex_more x y z⟩
/-- What stands between a list and one that begins with it begins with it, too. -/
theorem lex_between : ∀ (p b r : List (List UInt8)), lexLt p b → lexLt b (p ++ r) → p <+: b
  | [], _, _, _, _ => List.nil_prefix
  | _ :: _, [], _, h, _ => h.elim
  | a :: p, c :: b, r, h1, h2 => by
    rcases h1 with h1 | ⟨rfl, h1⟩
    · rcases h2 with h2 | ⟨rfl, _⟩
      · have := bless_trans _ _ _ h1 h2
        rw [bless_irrefl] at this
        cases this
      · rw [bless_irrefl] at h1; cases h1
    · rcases h2 with h2 | ⟨_, h2⟩
      · rw [bless_irrefl] at h2; cases h2
      · exact List.cons_prefix_cons.2 ⟨rfl, lex_between p b r h1 h2⟩

theorem cmpS_cases (x y : ByteArray) : (Op.bytesLess x.toList y.toList = true ∧ cmpS x y = -1) ∨ (x = y ∧ cmpS x y = 0) ∨ (Op.bytesLess y.toList x.toList = true ∧ x ≠ y ∧ cmpS x y = 1) := by
  cases h1 : Op.bytesLess x.toList y.toList with
  | true => exact .inl ⟨rfl, by rw [cmpS, if_pos h1]⟩
  | false =>
    by_cases h2 : x = y
    · subst h2
      exact .inr (.inl ⟨rfl, by rw [cmpS, h1]; simp⟩)
    · refine .inr (.inr ⟨?_, h2, ?_⟩)
      · cases h3 : Op.bytesLess y.toList x.toList with
        | true => rfl
        | false => exact absurd (text_inj (bless_total _ _ h1 h3)) h2
      · have h4 : (x.toList == y.toList) = false := beq_eq_false_iff_ne.2 fun h => h2 (text_inj h)
        rw [cmpS, h1, h4]; rfl
/-- The comparison of two lists of strings tells their order. -/
theorem cmpL_lt : ∀ xs ys : List ByteArray, cmpL xs ys < 0 ↔ lexLt (xs.map ByteArray.toList) (ys.map ByteArray.toList)
  | [], [] => by simp [cmpL, lexLt]
  | [], _ :: _ => by simp [cmpL, lexLt]
  | _ :: _, [] => by simp [cmpL, lexLt]
  | x :: xs, y :: ys => by
    rw [cmpL, List.map_cons, List.map_cons, lexLt]
    rcases cmpS_cases x y with ⟨h1, h2⟩ | ⟨rfl, h2⟩ | ⟨h1, h3, h2⟩
    · rw [h2]; simp [h1]
    · rw [h2, if_pos rfl, cmpL_lt xs ys]; simp [bless_irrefl]
    · have h4 : Op.bytesLess x.toList y.toList = false := by
        cases h : Op.bytesLess x.toList y.toList with
        | false => rfl
        | true => have := bless_trans _ _ _ h h1; rw [bless_irrefl] at this; cases this
      have h5 : ¬ x.toList = y.toList := fun h => h3 (text_inj h)
      rw [h2]; simp [h4, h5]

end Go.Proofs.Ytmmjhdkoccpdjaa
