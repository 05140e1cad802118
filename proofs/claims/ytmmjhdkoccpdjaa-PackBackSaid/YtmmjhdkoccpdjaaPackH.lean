/- The map of what was written, as a list: looked up, and added to. Conditions: texts that Go can hold. -/
import Derived.Test.YtmmjhdkoccpdjaaPackG
import Derived.Maps.Own
import Derived.Maps.OwnSet
import Derived.Maps.Views
import Derived.StringKeys
namespace Go.Proofs.Ytmmjhdkoccpdjaa
open Go Go.RowKit Go.Shelf

theorem keyLaw : Go.Maps.Keyed Try.prog 9 := Go.Maps.string_keyed Try.underlying9
theorem zeroI (w : World) : (zeroValue 3).run Try.prog w = .ok (.int .i64 0) w := by kernel_rfl

/-- Block b is a map that has what the list says. -/
def MapIs (W : World) (b : Nat) (l : List (List UInt8 × Nat)) : Prop :=
  ∃ D : DataW Unit, W.ownsMap Try.prog 9 (plainElem Try.prog 3) b l.length D ∧ Go.Maps.IsMap D ∧
    ∀ s : List UInt8, Go.Maps.has D (.string s) = (l.lookup s).isSome ∧ ∀ v, l.lookup s = some v → D.atKey (.string s) (.lit (.int .i64 0)) = .lit (.int .i64 (v : Int))

theorem MapIs.new (w : World) : MapIs (w.alloc (.map #[] 0)) w.heap.size [] :=
  ⟨.map [], World.ownsMap_made w _ _ _, Go.Maps.isMap_empty, fun s => ⟨rfl, fun v h => by cases h⟩⟩
theorem MapIs.lt {W : World} {b : Nat} {l : List (List UInt8 × Nat)} (h : MapIs W b l) : b < W.heap.size := by
  obtain ⟨D, h, _⟩ := h
  exact h.lt
theorem MapIs.keep {W W' : World} {b : Nat} {l : List (List UInt8 × Nat)} (h : MapIs W b l) {K : Nat → Prop} (k : Keeps K W W') (hb : K b) : MapIs W' b l := by
  obtain ⟨D, ⟨es, clock, hh, r⟩, h2⟩ := h
  exact ⟨D, ⟨es, clock, k.heap hh hb, r⟩, h2⟩

theorem MapIs.look {W : World} {b : Nat} {l : List (List UInt8 × Nat)} (h : MapIs W b l) (s : ByteArray) (hs : s.size ≤ maxLen) :
    (Instr.lookup 94 (.map (some b)) (.string s) true).run Try.prog W = .ok (.tuple #[.int .i64 (((l.lookup (bl s)).getD 0 : Nat) : Int), .bool (l.lookup (bl s)).isSome]) W := by
  obtain ⟨D, hown, hm, hl⟩ := h
  obtain ⟨h1, h2⟩ := hl (bl s)
  obtain ⟨v, ps, hrun, hv⟩ := hown.look_ok keyLaw Try.underlying94 (zeroI W) (plainElem_int Try.underlying3 (by decide)) (Go.WideMaps.keyOf_string_mk Try.underlying9 hs)
  rw [hrun]
  change Go.Maps.has D (.string (bl s)) = _ at h1
  rw [show (Lit.string s.data.toList) = .string (bl s) from rfl] at hv ⊢
  rw [h1]
  obtain ⟨c, rfl, hc, _⟩ := plainElem_int_inv Try.underlying3 hv
  cases hlk : l.lookup (bl s) with
  | some x =>
    rw [h2 x hlk] at hc
    simp only [Prod.mk.injEq, DataW.lit.injEq, Lit.int.injEq, true_and] at hc
    rw [← hc.1]
    rfl
  | none =>
    rw [hlk] at h1
    rw [Go.Maps.atKey_of_not_has h1] at hc
    simp only [Prod.mk.injEq, DataW.lit.injEq, Lit.int.injEq, true_and] at hc
    rw [← hc.1]
    rfl

theorem MapIs.put {W : World} {b : Nat} {l : List (List UInt8 × Nat)} (h : MapIs W b l) (s : ByteArray) (hs : s.size ≤ maxLen) (v : Nat) (hv : v ≤ 1099511627776) (hl : l.length ≤ 1099511627776) :
    ∃ W', (Instr.mapUpdate 94 (.map (some b)) (.string s) (.int .i64 (v : Int))).run Try.prog W = .ok () W' ∧ MapIs W' b ((bl s, v) :: l) ∧ W.grownBy W' (some b) := by
  obtain ⟨D, hown, hm, hlk⟩ := h
  obtain ⟨W', h1, h2, h3⟩ := hown.update keyLaw Try.underlying94 (by unfold maxLen; omega) (Go.WideMaps.keyOf_string_mk Try.underlying9 hs) (plainElem_int (a := (v : Int)) Try.underlying3 (by simp [Lit.wf, IntKind.min, IntKind.max, IntKind.bits, IntKind.signed]; omega))
  refine ⟨W', h1, ⟨_, h2, hm.put _ _, fun t => ?_⟩, h3⟩
  have hkey : WideAt.IsKeyLit (.string s.data.toList) := keyLaw.key (Go.WideMaps.keyOf_string_mk Try.underlying9 hs)
  by_cases he : t = bl s
  · subst he
    refine ⟨?_, fun x hx => ?_⟩
    · rw [show (Lit.string (bl s)) = .string s.data.toList from rfl, Go.Maps.has_put_same hm hkey]; simp [List.lookup]
    · rw [show (Lit.string (bl s)) = .string s.data.toList from rfl, Go.Maps.atKey_put_same hm hkey]
      simp [List.lookup] at hx
      rw [hx]
  · have hne : (Lit.string t) ≠ .string s.data.toList := fun h => he (by cases h; rfl)
    have hb : (t == bl s) = false := beq_eq_false_iff_ne.2 he
    obtain ⟨g1, g2⟩ := hlk t
    refine ⟨?_, fun x hx => ?_⟩
    · rw [Go.Maps.has_put_other hne, g1, List.lookup, hb]
    · rw [Go.Maps.atKey_put_other hne]
      rw [List.lookup, hb] at hx
      exact g2 x hx

end Go.Proofs.Ytmmjhdkoccpdjaa
