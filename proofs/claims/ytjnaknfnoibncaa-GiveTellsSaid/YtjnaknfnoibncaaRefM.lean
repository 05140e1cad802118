/- Several texts in one (Math4 Math5 RefA RefB Math6). Conditions: each says its own. -/
import Derived.Test.YtjnaknfnoibncaaWalkM
import Derived.Test.YtjnaknfnoibncaaMathM
import Derived.Laws.OwnMore

/- The mathematics of the order of names: bytes, texts, lists of texts. Conditions: none. -/
namespace Go.Proofs.Ytjnaknfnoibncaa
open Go

theorem bless_irrefl : ∀ x : List UInt8, Op.bytesLess x x = false
  | [] => rfl
  | a :: x => by simp [Op.bytesLess, bless_irrefl x]
theorem bless_trans : ∀ x y z : List UInt8, Op.bytesLess x y = true → Op.bytesLess y z = true → Op.bytesLess x z = true
  | _, _, [], _, h => by simp [Op.bytesLess] at h
  | _, [], _ :: _, h, _ => by simp [Op.bytesLess] at h
  | [], _ :: _, _ :: _, _, _ => rfl
  | a :: x, b :: y, c :: z, h1, h2 => by
    simp only [Op.bytesLess, Bool.or_eq_true, decide_eq_true_eq, Bool.and_eq_true, beq_iff_eq] at h1 h2 ⊢
    rcases h1 with h1 | ⟨rfl, h1⟩
    · rcases h2 with h2 | ⟨rfl, _⟩
      · exact .inl (UInt8.lt_trans h1 h2)
      · exact .inl h1
    · rcases h2 with h2 | ⟨rfl, h2⟩
      · exact .inl h2
      · exact .inr ⟨rfl, bless_trans x y z h1 h2⟩
theorem bless_total : ∀ x y : List UInt8, Op.bytesLess x y = false → Op.bytesLess y x = false → x = y
  | [], [], _, _ => rfl
  | [], _ :: _, h, _ => by simp [Op.bytesLess] at h
  | _ :: _, [], _, h => by simp [Op.bytesLess] at h
  | a :: x, b :: y, h1, h2 => by
    simp only [Op.bytesLess, Bool.or_eq_false_iff, decide_eq_false_iff_not, Bool.and_eq_false_iff, beq_eq_false_iff_ne] at h1 h2
    have hab : a = b := UInt8.le_antisymm (UInt8.not_lt.1 h2.1) (UInt8.not_lt.1 h1.1)
    subst hab
    congr 1
    exact bless_total x y (h1.2.resolve_left (by simp)) (h2.2.resolve_left (by simp))

/-- The order of lists of texts, by what stands first. -/
def lexLt : List (List UInt8) → List (List UInt8) → Prop
  | _, [] => False
  | [], _ :: _ => True
  | x :: xs, y :: ys => Op.bytesLess x y = true ∨ (x = y ∧ lexLt xs ys)
theorem lex_irrefl : ∀ x, ¬ lexLt x x
  | [] => fun h => h
  | a :: x => fun h => by
    rcases h with h | ⟨_, h⟩
    · rw [bless_irrefl] at h; cases h
    · exact lex_irrefl x h
theorem lex_nil : ∀ x, ¬ lexLt x []
  | [] => fun h => h
  | _ :: _ => fun h => h
theorem lex_trans : ∀ x y z, lexLt x y → lexLt y z → lexLt x z
  | _, _, [], _, h => (lex_nil _ h).elim
  | _, [], _ :: _, h, _ => (lex_nil _ h).elim
  | [], _ :: _, _ :: _, _, _ => trivial
  | a :: x, b :: y, c :: z, h1, h2 => by
    rcases h1 with h1 | ⟨rfl, h1⟩
    · rcases h2 with h2 | ⟨rfl, _⟩
      · exact .inl (bless_trans _ _ _ h1 h2)
      · exact .inl h1
    · rcases h2 with h2 | ⟨rfl, h2⟩
      · exact .inl h2
      · exact .inr ⟨rfl, lex_trans x y z h1 h2⟩
theorem lex_total : ∀ x y, lexLt x y ∨ lexLt y x ∨ x = y
  | [], [] => .inr (.inr rfl)
  | [], _ :: _ => .inl trivial
  | _ :: _, [] => .inr (.inl trivial)
  | a :: x, b :: y => by
    cases h1 : Op.bytesLess a b with
    | true => exact .inl (.inl h1)
    | false =>
      cases h2 : Op.bytesLess b a with
      | true => exact .inr (.inl (.inl h2))
      | false =>
        obtain rfl := bless_total a b h1 h2
        rcases lex_total x y with h | h | h
        · exact .inl (.inr ⟨rfl, h⟩)
        · exact .inr (.inl (.inr ⟨rfl, h⟩))
        · exact .inr (.inr (by rw [h]))
/-- What goes on stands behind what it goes on from. -/
theorem lex_more : ∀ (x : List (List UInt8)) (y : List UInt8) (z : List (List UInt8)), lexLt x (x ++ y :: z)
  | [], _, _ => trivial
  | _ :: x, y, z => .inr ⟨rfl, lex_more x y z⟩
/-- What stands between a list and one that begins with it begins with it, too. -/
theorem lex_between : ∀ (p b r : List (List UInt8)), lexLt p b → lexLt b (p ++ r) → p <+: b
  | [], _, _, _, _ => List.nil_prefix
  | _ :: _, [], _, h, _ => h.elim
  | a :: p, c :: b, r, h1, h2 => by
    rcases h1 with h1 | ⟨rfl, h1⟩
    · rcases h2 with h2 | ⟨rfl, _⟩
      · have := bless_trans _ _ _ h1 h2
        rw [bless_irrefl] at this
        cases this
      · rw [bless_irrefl] at h1; cases h1
    · rcases h2 with h2 | ⟨_, h2⟩
      · rw [bless_irrefl] at h2; cases h2
      · exact List.cons_prefix_cons.2 ⟨rfl, lex_between p b r h1 h2⟩

theorem cmpS_cases (x y : ByteArray) : (Op.bytesLess x.toList y.toList = true ∧ cmpS x y = -1) ∨ (x = y ∧ cmpS x y = 0) ∨ (Op.bytesLess y.toList x.toList = true ∧ x ≠ y ∧ cmpS x y = 1) := by
  cases h1 : Op.bytesLess x.toList y.toList with
  | true => exact .inl ⟨rfl, by rw [cmpS, if_pos h1]⟩
  | false =>
    by_cases h2 : x = y
    · subst h2
      exact .inr (.inl ⟨rfl, by rw [cmpS, h1]; simp⟩)
    · refine .inr (.inr ⟨?_, h2, ?_⟩)
      · cases h3 : Op.bytesLess y.toList x.toList with
        | true => rfl
        | false => exact absurd (text_inj (bless_total _ _ h1 h3)) h2
      · have h4 : (x.toList == y.toList) = false := beq_eq_false_iff_ne.2 fun h => h2 (text_inj h)
        rw [cmpS, h1, h4]; rfl
/-- The comparison of two lists of strings tells their order. -/
theorem cmpL_lt : ∀ xs ys : List ByteArray, cmpL xs ys < 0 ↔ lexLt (xs.map ByteArray.toList) (ys.map ByteArray.toList)
  | [], [] => by simp [cmpL, lexLt]
  | [], _ :: _ => by simp [cmpL, lexLt]
  | _ :: _, [] => by simp [cmpL, lexLt]
  | x :: xs, y :: ys => by
    rw [cmpL, List.map_cons, List.map_cons, lexLt]
    rcases cmpS_cases x y with ⟨h1, h2⟩ | ⟨rfl, h2⟩ | ⟨h1, h3, h2⟩
    · rw [h2]; simp [h1]
    · rw [h2, if_pos rfl, cmpL_lt xs ys]; simp [bless_irrefl]
    · have h4 : Op.bytesLess x.toList y.toList = false := by
        cases h : Op.bytesLess x.toList y.toList with
        | false => rfl
        | true => have := bless_trans _ _ _ h h1; rw [bless_irrefl] at this; cases this
      have h5 : ¬ x.toList = y.toList := fun h => h3 (text_inj h)
      rw [h2]; simp [h4, h5]

end Go.Proofs.Ytjnaknfnoibncaa

/- The order of names. Conditions: none. -/
namespace Go.Proofs.Ytjnaknfnoibncaa
open Go

theorem place_of {a : ByteArray} {la : List (List UInt8)} (h : Rep a la) : (placeB a).map ByteArray.toList = (fl la).reverse := by
  rw [placeB, List.map_reverse]
  congr 1
  have := h.fold.labels
  rw [← this]
  exact List.map_congr_left fun x _ => toList_bl x
theorem no {p : Prop} {v : Bool} (h : v = true ↔ p) (hp : ¬ p) : v = false := by
  cases v with
  | false => rfl
  | true => exact absurd (h.1 rfl) hp
theorem less_iff {a b : ByteArray} {la lb : List (List UInt8)} (ha : Rep a la) (hb : Rep b lb) : lessB a b = true ↔ lexLt (fl la).reverse (fl lb).reverse := by
  rw [lessB, ha.name, hb.name]
  simp only [Bool.true_and, decide_eq_true_eq]
  rw [cmpL_lt, place_of ha, place_of hb]
theorem same_iff {a b : ByteArray} {la lb : List (List UInt8)} (ha : Rep a la) (hb : Rep b lb) : sameB a b = true ↔ fl la = fl lb := by
  refine ⟨fun h => ?_, fun h => same_of ha hb h⟩
  rw [sameB, ha.name, hb.name] at h
  simp only [Bool.true_and, beq_iff_eq] at h
  have h2 := text_inj h
  have h3 := ha.fold
  rw [h2] at h3
  exact h3.uniq hb.fold
/-- Of two names one stands ahead, or they are one. -/
theorem one_of {a b : ByteArray} {la lb : List (List UInt8)} (ha : Rep a la) (hb : Rep b lb) :
    (lessB a b = true ∧ lessB b a = false ∧ sameB a b = false) ∨ (lessB a b = false ∧ lessB b a = true ∧ sameB a b = false) ∨ (lessB a b = false ∧ lessB b a = false ∧ sameB a b = true) := by
  have i1 := less_iff ha hb
  have i2 := less_iff hb ha
  have i3 := same_iff ha hb
  rcases lex_total (fl la).reverse (fl lb).reverse with h | h | h
  · refine .inl ⟨i1.2 h, no i2 fun h2 => lex_irrefl _ (lex_trans _ _ _ h h2), no i3 fun h2 => ?_⟩
    rw [h2] at h
    exact lex_irrefl _ h
  · refine .inr (.inl ⟨no i1 fun h2 => lex_irrefl _ (lex_trans _ _ _ h h2), i2.2 h, no i3 fun h2 => ?_⟩)
    rw [h2] at h
    exact lex_irrefl _ h
  · have h' : fl la = fl lb := by simpa using congrArg List.reverse h
    refine .inr (.inr ⟨no i1 fun h2 => ?_, no i2 fun h2 => ?_, i3.2 h'⟩)
    · rw [h] at h2; exact lex_irrefl _ h2
    · rw [h] at h2; exact lex_irrefl _ h2
theorem less_trans {a b c : ByteArray} {la lb lc : List (List UInt8)} (ha : Rep a la) (hb : Rep b lb) (hc : Rep c lc) (h1 : lessB a b = true) (h2 : lessB b c = true) : lessB a c = true :=
  (less_iff ha hc).2 (lex_trans _ _ _ ((less_iff ha hb).1 h1) ((less_iff hb hc).1 h2))
theorem less_parent {a : ByteArray} {l : List UInt8} {r : List (List UInt8)} (ha : Rep a (l :: r)) : lessB (parentR a).1 a = true := by
  refine (less_iff (parent_cons ha).2 ha).2 ?_
  rw [fl_cons, List.reverse_cons]
  exact lex_more _ _ []
theorem less_between {a b c : ByteArray} {la lb lc : List (List UInt8)} (ha : Rep a la) (hb : Rep b lb) (hc : Rep c lc) (hw : withinB c a = true) (h1 : lessB a b = true) (h2 : lessB b c = true) : withinB b a = true := by
  refine (within_iff hb ha).2 ?_
  obtain ⟨t, ht⟩ := (within_iff hc ha).1 hw
  have h3 : (fl lc).reverse = (fl la).reverse ++ t.reverse := by rw [← ht, List.reverse_append]
  have h4 := (less_iff hb hc).1 h2
  rw [h3] at h4
  have h5 := lex_between _ _ _ ((less_iff ha hb).1 h1) h4
  exact List.reverse_prefix.1 h5

end Go.Proofs.Ytjnaknfnoibncaa

/- What hardtackref01's Split, Check and Count do. Conditions: strings that Go can hold. -/
namespace Go.Proofs.Ytjnaknfnoibncaa
open Go Go.RowKit Go.Shelf
attribute [local go_sem] Oper.semAt_some wide_fn wide_depth

/-- A slice of texts that may be sliced. -/
def StrsC (W : World) (sv : Value) (ss : List ByteArray) : Prop :=
  ∃ b off cap, sv = .slice (some ⟨b, off, none⟩) ss.length cap ∧ ss.length ≤ cap ∧ cap ≤ maxLen ∧ ∀ j, j < ss.length → W.cell? ⟨b, off + j, none⟩ = some (.string (ss[j]?.getD ⟨#[]⟩))
theorem StrsC.ext {A B : World} (h : Ext A B) {sv : Value} {ss : List ByteArray} : StrsC A sv ss → StrsC B sv ss
  | ⟨b, off, cap, e, hl, hm, hc⟩ => ⟨b, off, cap, e, hl, hm, fun j hj => h.keeps.cell (hc j hj) trivial⟩
theorem StrsC.strs {A : World} {sv : Value} {ss : List ByteArray} : StrsC A sv ss → Strs A sv ss
  | ⟨b, off, cap, e, _, _, hc⟩ => .inr ⟨b, off, cap, e, hc⟩
theorem strsC_of_row {w : World} {base : Nat} {ao : Option Addr} {n cap : Nat} {ls : List ByteArray} (hn : n = ls.length) (hne : ao ≠ none) (h : w.ownsRow base 9 1 (.slice ao n cap) n (ls.map Value.string)) : StrsC w (.slice ao n cap) ls := by
  subst hn
  rcases h.2 with ⟨h1, h0⟩ | ⟨g, cap', cur, h1, hg, hh, r⟩
  · simp only [Value.slice.injEq] at h1; exact absurd h1.1 hne
  · simp only [Value.slice.injEq, true_and] at h1
    obtain ⟨rfl, rfl⟩ := h1
    refine ⟨g, 0, _, rfl, r.1, r.2.1, fun j hj => ?_⟩
    have := h.cells (g := g) rfl j (.string (ls[j]?.getD ⟨#[]⟩)) (by simp [hj])
    have hp : (⟨g, 0 + j, none⟩ : Addr) = ⟨g, j, none⟩ := by simp
    have hp' : (⟨g, 0, none⟩ : Addr).add j = ⟨g, j, none⟩ := by unfold Addr.add; split <;> simp_all
    rw [hp]
    rw [hp'] at this
    exact this

/-- What hardtackref01.Split answers. -/
def RSplitPost (s : ByteArray) (w : World) (e : Ending) (w' : World) : Prop :=
  ∃ v, e = .returned (.tuple #[v, .bool (isName s)]) ∧ (isName s = true → StrsC w' v (labelsB s)) ∧ Ext w w'

theorem isName_long {s : ByteArray} (h : 255 < s.size) : isName s = false := by
  simp only [isName, Bool.and_eq_false_iff, decide_eq_false_iff_not]; left; omega
theorem isName_stop {s : ByteArray} {pre : List Nat} {p : Nat} (hx : endsE s 0 = pre ++ endsE s p) (hp : pre.getLastD 0 = p) (hs : stepE s p = none) :
    lastE s = p := by
  unfold lastE; rw [hx, endsE_none hs, List.append_nil]; exact hp
theorem isName_at {s : ByteArray} {p : Nat} (hl : lastE s = p) (h255 : s.size ≤ 255) (hlt : p < s.size) : isName s = true ↔ s[p]!.toNat = 0 ∧ p = s.size - 1 := by
  simp only [isName, Bool.and_eq_true, beq_iff_eq, decide_eq_true_eq, hl, toList_bl, bl_extract, take_bl]
  have hp : p < (bl s).length := hlt
  have e : s[p]! = (bl s)[p]'hp := get_bl s p hlt
  rw [List.drop_eq_getElem_cons hp, e]
  generalize (bl s)[p]'hp = x
  constructor
  · rintro ⟨_, h⟩
    simp only [List.cons.injEq] at h
    have h2 := congrArg List.length h.2
    simp only [List.length_drop, List.length_nil, bl_size] at h2
    exact ⟨by rw [h.1]; rfl, by omega⟩
  · rintro ⟨h1, h2⟩
    refine ⟨h255, ?_⟩
    rw [List.cons.injEq]
    refine ⟨UInt8.toNat_inj.1 (h1.trans rfl), List.drop_eq_nil_of_le (by rw [bl_size]; omega)⟩
theorem isName_out {s : ByteArray} {p : Nat} (hl : lastE s = p) (hge : s.size ≤ p) : isName s = false := by
  rw [Bool.eq_false_iff]
  intro h
  simp only [isName, Bool.and_eq_true, beq_iff_eq, decide_eq_true_eq, hl, toList_bl, bl_extract, take_bl] at h
  rw [List.drop_eq_nil_of_le (by rw [bl_size]; omega)] at h
  cases h.2

end Go.Proofs.Ytjnaknfnoibncaa

/- What hardtackref01's Check, Count, Fold and Make do. Conditions: strings that Go can hold; for Make labels of at most 255 bytes. -/
namespace Go.Proofs.Ytjnaknfnoibncaa
open Go Go.RowKit Go.Shelf
attribute [local go_sem] Oper.semAt_some wide_fn wide_depth

theorem bl_append (a b : ByteArray) : bl (a ++ b) = bl a ++ bl b := by
  unfold bl; rw [ByteArray.data_append, Array.toList_append]
theorem sizeL_le256 (ls : List ByteArray) (h : ∀ x ∈ ls, x.size ≤ 255) : sizeL ls ≤ 256 * ls.length := by
  induction ls with
  | nil => simp [sizeL]
  | cons a r ih =>
    have h1 := h a (by simp)
    have h2 := ih (fun x hx => h x (by simp [hx]))
    simp only [sizeL, List.map_cons, List.sum_cons, List.length_cons] at h2 ⊢
    omega
/-- The name of labels, as the plain answer makes it. -/
def makeB (ls : List ByteArray) : ByteArray := ⟨(encL ls ++ [0]).toArray⟩

end Go.Proofs.Ytjnaknfnoibncaa

/- The mathematics of the plain answers about names: made of labels, up, within, in common, next. Conditions: none. -/
namespace Go.Proofs.Ytjnaknfnoibncaa
open Go

theorem rep_eq {s t : ByteArray} {ls : List (List UInt8)} (h : Rep s ls) (k : Rep t ls) : s = t := bl_inj (h.eq.trans k.eq.symm)
theorem encL_enc : ∀ (L : List ByteArray), encL L ++ [0] = enc (L.map bl)
  | [] => rfl
  | x :: r => by
    have h := encL_enc r
    show (UInt8.ofNat x.size :: x.data.toList) ++ encL r ++ [0] = UInt8.ofNat (bl x).length :: (bl x ++ enc (r.map bl))
    rw [← h, bl_size]
    simp [bl]
theorem enc_drop_le : ∀ (k : Nat) (ls : List (List UInt8)), (enc (ls.drop k)).length ≤ (enc ls).length
  | 0, ls => Nat.le_refl _
  | k + 1, [] => Nat.le_refl _
  | k + 1, l :: r => by
    have := enc_drop_le k r
    simp only [List.drop_succ_cons, enc, List.length_cons, List.length_append]
    omega
theorem make_rep {s : ByteArray} {ls : List (List UInt8)} (h : Rep s ls) (k : Nat) : Rep (makeB ((labelsB s).drop k)) (ls.drop k) := by
  have e : bl (makeB ((labelsB s).drop k)) = enc (ls.drop k) := by
    rw [makeB, bl_mk, encL_enc, List.map_drop, h.labels]
  refine ⟨fun x hx => h.ok x (List.mem_of_mem_drop hx), e, ?_⟩
  have h1 := enc_drop_le k ls
  rw [← bl_size, e]
  have h2 := h.len
  rw [← bl_size, h.eq] at h2
  omega
theorem labels_inj {L M : List ByteArray} (h : L.map bl = M.map bl) : L = M := by
  induction L generalizing M with
  | nil => cases M with | nil => rfl | cons _ _ => cases h
  | cons a r ih =>
    cases M with
    | nil => cases h
    | cons b q =>
      simp only [List.map_cons, List.cons.injEq] at h
      rw [bl_inj h.1, ih h.2]
/-- The names up from one, as the plain answer makes them. -/
def upM (s : ByteArray) (n : Nat) : List ByteArray := (List.range n).map fun i => makeB ((labelsB s).drop i)
theorem upM_succ (s : ByteArray) (n : Nat) : upM s (n + 1) = upM s n ++ [makeB ((labelsB s).drop n)] := by
  rw [upM, List.range_succ, List.map_append]; rfl
theorem upM_up : ∀ (ls : List (List UInt8)) (s : ByteArray), Rep s ls → upM s (ls.length + 1) = upB s
  | [], s, h => by
    have h1 : makeB ((labelsB s).drop 0) = s := rep_eq (make_rep h 0) h
    rw [upB_cons h.name, parent_root h, upB_none isName_empty]
    show [makeB ((labelsB s).drop 0)] = [s]
    rw [h1]
  | l :: r, s, h => by
    have hp := (parent_cons h).2
    have h1 : makeB ((labelsB s).drop 0) = s := rep_eq (make_rep h 0) h
    have h2 : labelsB (parentR s).1 = (labelsB s).drop 1 := labels_inj (by rw [hp.labels, List.map_drop, h.labels]; rfl)
    rw [upB_cons h.name, ← upM_up r _ hp]
    rw [upM, List.range_succ_eq_map, List.map_cons, h1]
    congr 1
    rw [List.map_map, upM, h2]
    refine List.map_congr_left fun i _ => ?_
    show makeB ((labelsB s).drop (i + 1)) = makeB (((labelsB s).drop 1).drop i)
    rw [List.drop_drop, Nat.add_comm 1 i]
/-- Lying within, as the plain answer asks it. -/
theorem within_make {s z : ByteArray} (hs : isName s = true) (hz : isName z = true) :
    withinB s z = (decide ((labelsB z).length ≤ (labelsB s).length) && ((foldS (makeB ((labelsB s).drop ((labelsB s).length - (labelsB z).length)))).toList == (foldS z).toList)) := by
  obtain ⟨ls, h⟩ := rep_of_name hs
  obtain ⟨zs, k⟩ := rep_of_name hz
  rw [h.count, k.count]
  have hm := (make_rep h (ls.length - zs.length)).fold
  have hk := k.fold
  rw [Bool.eq_iff_iff, within_iff h k]
  simp only [Bool.and_eq_true, decide_eq_true_eq, beq_iff_eq, toList_bl]
  rw [hm.eq, hk.eq, List.suffix_iff_eq_drop]
  have hf : ∀ n, fl (ls.drop n) = (fl ls).drop n := fun n => by unfold fl; rw [List.map_drop]
  rw [hf, fl_len, fl_len]
  constructor
  · intro e
    refine ⟨?_, by rw [← e]⟩
    have := congrArg List.length e
    rw [fl_len, List.length_drop, fl_len] at this
    omega
  · rintro ⟨_, e⟩
    refine (enc_inj ?_ hk.ok e).symm
    rw [← hf]; exact hm.ok
theorem depth_range {s z : ByteArray} : -1 ≤ depthB s z ∧ depthB s z ≤ s.size := by
  unfold depthB
  split
  · next hw =>
    cases hs : isName s with
    | false => rw [within_none (.inl hs)] at hw; cases hw
    | true =>
      cases hz : isName z with
      | false => rw [within_none (.inr hz)] at hw; cases hw
      | true =>
        have h1 := within_make hs hz
        rw [hw, eq_comm, Bool.and_eq_true, decide_eq_true_eq] at h1
        have := labelsB_length s
        omega
  · omega
/-- The one just below, as the plain answer finds it. -/
theorem next_make {z n : ByteArray} (hz : isName z = true) (hn : isName n = true) :
    (depthB n z < 1 → nextR z n = (⟨#[]⟩, 3)) ∧ (∀ d : Nat, depthB n z = (d : Int) + 1 → d < (upB n).length ∧ nextR z n = ((upB n)[d]?.getD ⟨#[]⟩, 0)) := by
  obtain ⟨ln, h⟩ := rep_of_name hn
  obtain ⟨lz, k⟩ := rep_of_name hz
  have hup := upM_up ln n h
  have hnx : nextR z n = match (upB n).find? (nextP z) with | some x => (x, 0) | none => (⟨#[]⟩, 3) := by
    rw [nextR, if_neg (by rw [hz, hn]; simp)]; rfl
  have hlen : (upB n).length = ln.length + 1 := by rw [← hup, upM]; simp
  have hget : ∀ i, i < (upB n).length → ∃ x, (upB n)[i]? = some x ∧ Rep x (ln.drop i) := fun i hi => by
    refine ⟨makeB ((labelsB n).drop i), ?_, make_rep h i⟩
    rw [← hup, upM, List.getElem?_map, List.getElem?_range (by omega)]
    rfl
  have hdep : ∀ (i : Nat) x, (upB n)[i]? = some x → nextP z x = true → depthB n z = (i : Int) + 1 := fun i x hx hp => by
    have hi : i < (upB n).length := by
      rcases Nat.lt_or_ge i (upB n).length with h' | h'
      · exact h'
      · rw [List.getElem?_eq_none h'] at hx; cases hx
    obtain ⟨x', hx', hr⟩ := hget i hi
    rw [hx] at hx'
    obtain rfl : x = x' := by cases hx'; rfl
    have hd : depthB x z = 1 := by simpa [nextP] using hp
    have hw : withinB x z = true := by
      unfold depthB at hd
      split at hd
      · assumption
      · omega
    have hsuf := (within_iff hr k).1 hw
    have hsuf2 : fl lz <:+ fl ln := hsuf.trans (fl_drop_suffix ln i)
    rw [depth_of hr k hsuf] at hd
    rw [depth_of h k hsuf2]
    rw [List.length_drop] at hd
    omega
  constructor
  · intro hlt
    rw [hnx]
    have : (upB n).find? (nextP z) = none := by
      rw [List.find?_eq_none]
      intro x hx hp
      obtain ⟨i, hi, rfl⟩ := List.getElem_of_mem hx
      have := hdep i _ (List.getElem?_eq_getElem hi) hp
      omega
    rw [this]
  · intro d hd
    have hw : withinB n z = true := by
      unfold depthB at hd
      split at hd
      · assumption
      · omega
    have hsuf := (within_iff h k).1 hw
    have hl := hsuf.length_le
    rw [fl_len, fl_len] at hl
    rw [depth_of h k hsuf] at hd
    have hdl : d < (upB n).length := by omega
    refine ⟨hdl, ?_⟩
    obtain ⟨x, hx, hr⟩ := hget d hdl
    have hp : nextP z x = true := by
      have hs2 : fl lz <:+ fl (ln.drop d) := by
        rw [List.suffix_iff_eq_drop] at hsuf ⊢
        rw [fl_len] at hsuf ⊢
        rw [fl_len] at hsuf ⊢
        have e1 : fl (ln.drop d) = (fl ln).drop d := by unfold fl; rw [List.map_drop]
        rw [e1, List.drop_drop, List.length_drop]
        rw [show d + (ln.length - d - lz.length) = ln.length - lz.length from by omega]
        exact hsuf
      rw [nextP, depth_of hr k hs2, List.length_drop]
      exact decide_eq_true (by omega)
    cases hf : (upB n).find? (nextP z) with
    | none => rw [List.find?_eq_none] at hf; exact absurd hp (hf _ (List.mem_of_getElem? hx))
    | some y =>
      obtain ⟨_, i, hi, hy, _⟩ := List.find?_eq_some_iff_getElem.1 hf
      have h1 := hdep i y (by rw [List.getElem?_eq_getElem hi, hy]) (List.find?_some hf)
      rw [depth_of h k hsuf] at h1
      obtain rfl : i = d := by omega
      rw [hnx, hf, List.getElem?_eq_getElem hi, hy]
      rfl

end Go.Proofs.Ytjnaknfnoibncaa
