/- Several texts in one (WalkA WalkB WalkC WalkD WalkE WalkF WalkG). Conditions: each says its own. -/
import Derived.Test.YtjnaknfnoibncaaLabM
import Derived.Test.YtjnaknfnoibncaaMathM
import Derived.Laws.OwnMore
import Derived.Laws.Cover1

/- What walk's Up, Common, Depth and Next do. Conditions: strings that Go can hold. -/
namespace Go.Proofs.Ytjnaknfnoibncaa
open Go Go.RowKit Go.Shelf
attribute [local go_sem] Oper.semAt_some wide_fn wide_depth

end Go.Proofs.Ytjnaknfnoibncaa

/- What walk's Common and Next do. Conditions: strings that Go can hold. -/
namespace Go.Proofs.Ytjnaknfnoibncaa
open Go Go.RowKit Go.Shelf
attribute [local go_sem] Oper.semAt_some wide_fn wide_depth

theorem find_none {α : Type} {p : α → Bool} {l : List α} (h : l.any p = false) : l.find? p = none := by
  rw [List.find?_eq_none]
  intro x hx
  have := List.any_eq_false.1 h x hx
  simpa using this
theorem find_some {α : Type} {p : α → Bool} {pre rest : List α} {x : α} (h : pre.any p = false) (hx : p x = true) : (pre ++ x :: rest).find? p = some x := by
  rw [List.find?_append, find_none h]
  simp [hx]

end Go.Proofs.Ytjnaknfnoibncaa

/- What walk's Deepest and the plain comparison of two lists of texts do. Conditions: strings that Go can hold; slices that hold them. -/
namespace Go.Proofs.Ytjnaknfnoibncaa
open Go Go.RowKit Go.Shelf

theorem text_inj {a b : ByteArray} (h : a.toList = b.toList) : a = b := by
  rw [ByteArray.toList_eq, ByteArray.toList_eq] at h
  exact ByteArray.ext (Array.toList_inj.1 h)
theorem Strs.open {W : World} {sv : Value} {ls : List ByteArray} (h : Strs W sv ls) :
    ∃ ao cap, sv = .slice ao ls.length cap ∧ ∀ k, k < ls.length → ∃ b off, ao = some ⟨b, off, none⟩ ∧ W.cell? ⟨b, off + k, none⟩ = some (.string (ls[k]?.getD ⟨#[]⟩)) := by
  rcases h with ⟨rfl, rfl⟩ | ⟨b, off, cap, rfl, hc⟩
  · exact ⟨_, _, rfl, fun k hk => by simp at hk⟩
  · exact ⟨_, _, rfl, fun k hk => ⟨b, off, rfl, hc k hk⟩⟩

def deepStep (n : ByteArray) (p : ByteArray × Int) (x : ByteArray) : ByteArray × Int :=
  if p.2 < ((labelsB x).length : Int) ∧ withinB n x = true then (x, ((labelsB x).length : Int)) else p
def deepF (n : ByteArray) (ls : List ByteArray) : ByteArray × Int := ls.foldl (deepStep n) (⟨#[]⟩, -1)
def deepR (n : ByteArray) (ls : List ByteArray) : ByteArray × Int :=
  if isName n = false then (⟨#[]⟩, 2) else if (deepF n ls).2 < 0 then (⟨#[]⟩, 3) else ((deepF n ls).1, 0)

theorem deep_snoc (n : ByteArray) (l : List ByteArray) (x : ByteArray) : deepF n (l ++ [x]) = deepStep n (deepF n l) x := by
  rw [deepF, List.foldl_append]; rfl

end Go.Proofs.Ytjnaknfnoibncaa

/- What slices.AppendSeq and slices.Collect do with an iterator of strings. Conditions: the iterator keeps its promise (SeqX) where the call begins. -/
namespace Go.Proofs.Ytjnaknfnoibncaa
open Go Go.RowKit Go.Shelf
attribute [local go_sem] Oper.semAt_some wide_fn wide_depth

theorem ownsRow_mono {w : World} {b b' size n : Nat} {e : TypeId} {v : Value} {xs : List Value} (h : w.ownsRow b' e size v n xs) (hb : b ≤ b') : w.ownsRow b e size v n xs := by
  refine ⟨h.1, ?_⟩
  rcases h.2 with hn | ⟨g, cap, cur, rfl, hg, rest⟩
  · exact .inl hn
  · exact .inr ⟨g, cap, cur, rfl, by omega, rest⟩

end Go.Proofs.Ytjnaknfnoibncaa

/- What slices.Reverse does with a row of strings that its caller owns. Conditions: that row. -/
namespace Go.Proofs.Ytjnaknfnoibncaa
open Go Go.RowKit Go.Shelf

def swapped (ys : List ByteArray) (i j : Nat) : List ByteArray := (ys.set i (ys[j]?.getD ⟨#[]⟩)).set j (ys[i]?.getD ⟨#[]⟩)
theorem swapped_len (ys : List ByteArray) (i j : Nat) : (swapped ys i j).length = ys.length := by simp [swapped]
theorem swapped_at (ys : List ByteArray) {i j : Nat} (hi : i < ys.length) (hj : j < ys.length) (k : Nat) :
    (swapped ys i j)[k]? = if k = j then ys[i]? else if k = i then ys[j]? else ys[k]? := by
  have e1 : some (ys[i]?.getD ⟨#[]⟩) = ys[i]? := by rw [List.getElem?_eq_getElem hi]; rfl
  have e2 : some (ys[j]?.getD ⟨#[]⟩) = ys[j]? := by rw [List.getElem?_eq_getElem hj]; rfl
  unfold swapped
  by_cases h1 : k = j
  · subst h1
    rw [if_pos rfl, List.getElem?_set_self (by simpa using hj), e1]
  · rw [if_neg h1, List.getElem?_set_ne (fun h => h1 h.symm)]
    by_cases h2 : k = i
    · subst h2
      rw [if_pos rfl, List.getElem?_set_self hi, e2]
    · rw [if_neg h2, List.getElem?_set_ne (fun h => h2 h.symm)]

end Go.Proofs.Ytjnaknfnoibncaa

/- What walk's place and Less do, and the library's comparison of two lists of strings. Conditions: names' texts; slices that hold the strings. -/
namespace Go.Proofs.Ytjnaknfnoibncaa
open Go Go.RowKit Go.Shelf

def cmpS (x y : ByteArray) : Int := if Op.bytesLess x.toList y.toList = true then -1 else if (Op.bytesLess x.toList y.toList || x.toList == y.toList) = true then 0 else 1
def cmpL : List ByteArray → List ByteArray → Int
  | [], [] => 0
  | [], _ :: _ => -1
  | _ :: _, [] => 1
  | x :: xs, y :: ys => if cmpS x y = 0 then cmpL xs ys else cmpS x y

def placeB (n : ByteArray) : List ByteArray := (labelsB (foldS n)).reverse

end Go.Proofs.Ytjnaknfnoibncaa

/- What walk's Less does. Conditions: strings that Go can hold. -/
namespace Go.Proofs.Ytjnaknfnoibncaa
open Go Go.RowKit Go.Shelf

def lessB (a b : ByteArray) : Bool := isName a && isName b && decide (cmpL (placeB a) (placeB b) < 0)

theorem name_le {a : ByteArray} (h : isName a = true) : a.size ≤ 255 := by
  obtain ⟨ls, hr⟩ := rep_of_name h
  exact hr.len
theorem placeB_len (a : ByteArray) : (placeB a).length ≤ a.size := by
  rw [placeB, List.length_reverse]
  have := labelsB_length (foldS a)
  rw [size_foldS] at this
  exact this

end Go.Proofs.Ytjnaknfnoibncaa
