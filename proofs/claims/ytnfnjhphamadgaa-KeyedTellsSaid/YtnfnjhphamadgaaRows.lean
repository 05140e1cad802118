/-
  No cell of these rows narrows 'for every input' (looked for: loops, veiled, ifaces, maps, wideKeys, modest, calm, conditions, laid).
  DERIVED. THE GIVEN ROWS OF THIS SEAT. 7 by the template 'for every input the law returns true; each argument reads behind the call as it read before'; 0 by the template 'total and deterministic' (their statements: YtnfnjhphamadgaaTotals.lean).
  GIVEN WITH THE SEED: the statements are not yours to turn. If you find one false, say at which input.
  Laid BY PROGRAM, IN A SANDBOX (cutbox-rows.mjs): the forced cells as the released guide's own fill.sh prints them over the translation b0718d1abd4a5005… (all of the seat's roots in one cut). By AI agents, Wed Nov 11 2026. No macro, syntax, notation, axiom, sorry.
-/
import Derived.Test.YtnfnjhphamadgaaChecked
import GoSem.Claim
import GoSem.ClaimJoined
import GoSem.ClaimMapViews
import Derived.JoinedTies
import Derived.KernelRfl
namespace Go.Proofs.Ytnfnjhphamadgaa
/- THE CELL 'sum', in the pinned program and in every row, IS THE sha256 OF THE DUMP (.gsa) THAT YtnfnjhphamadgaaProg.lean LOADS. Nothing in Lean hashes anything: it is a label: what it is worth is what the hold of that sum in a sandbox is worth. -/
noncomputable def Try.pinned : Pinned := { name := "ytnfnjhphamadgaa", sum := "b0718d1abd4a500505893e2d972b9e6f04bc07aa52a3587635044ee198ffb86f", checked := Try.checked }
namespace Rows
def none {H : Type} : Left H := { results := [], args := [] }

/-- 'hardtacklaw09.KeyedTells': WHATEVER THE INPUT: true; the input reads as it did. -/
def keyedTellsSpec : ChangeSpec := { name := "keyedTells", fn := fun _ => fun
  | [d1, d2, d3, d4] => { results := [.lit (.bool true)], args := [d1, d2, d3, d4] }
  | _ => none }
def keyedTellsRow : OpenClaim := { program := "ytnfnjhphamadgaa", sum := "b0718d1abd4a500505893e2d972b9e6f04bc07aa52a3587635044ee198ffb86f", func := "hardtack/hardtacklaw09.KeyedTells", spec := "keyedTells", unfollowed := true, recurses := true, plainKeys := false, apart := false }
def KeyedTellsSaid : Prop := keyedTellsRow.holds Try.pinned (OpenSpec.ofChange keyedTellsSpec)

/-- ITS FALSE NEIGHBOUR: 'it returns false'. Refute it at one input. -/
def keyedTellsWrong : ChangeSpec := { name := "keyedTells", fn := fun _ => fun
  | [d1, d2, d3, d4] => { results := [.lit (.bool false)], args := [d1, d2, d3, d4] }
  | _ => none }
def KeyedTellsWrongFalsely : Prop := keyedTellsRow.holds Try.pinned (OpenSpec.ofChange keyedTellsWrong)

/-- 'hardtacklaw09.KeyedPut': WHATEVER THE INPUT: true; the input reads as it did. -/
def keyedPutSpec : ChangeSpec := { name := "keyedPut", fn := fun _ => fun
  | [d1, d2, d3, d4, d5, d6] => { results := [.lit (.bool true)], args := [d1, d2, d3, d4, d5, d6] }
  | _ => none }
def keyedPutRow : OpenClaim := { program := "ytnfnjhphamadgaa", sum := "b0718d1abd4a500505893e2d972b9e6f04bc07aa52a3587635044ee198ffb86f", func := "hardtack/hardtacklaw09.KeyedPut", spec := "keyedPut", unfollowed := true, recurses := true, plainKeys := false, apart := false }
def KeyedPutSaid : Prop := keyedPutRow.holds Try.pinned (OpenSpec.ofChange keyedPutSpec)

/-- ITS FALSE NEIGHBOUR: 'it returns false'. Refute it at one input. -/
def keyedPutWrong : ChangeSpec := { name := "keyedPut", fn := fun _ => fun
  | [d1, d2, d3, d4, d5, d6] => { results := [.lit (.bool false)], args := [d1, d2, d3, d4, d5, d6] }
  | _ => none }
def KeyedPutWrongFalsely : Prop := keyedPutRow.holds Try.pinned (OpenSpec.ofChange keyedPutWrong)

/-- 'hardtacklaw09.KeyedApart': WHATEVER THE INPUT: true; the input reads as it did. -/
def keyedApartSpec : ChangeSpec := { name := "keyedApart", fn := fun _ => fun
  | [d1, d2, d3, d4, d5] => { results := [.lit (.bool true)], args := [d1, d2, d3, d4, d5] }
  | _ => none }
def keyedApartRow : OpenClaim := { program := "ytnfnjhphamadgaa", sum := "b0718d1abd4a500505893e2d972b9e6f04bc07aa52a3587635044ee198ffb86f", func := "hardtack/hardtacklaw09.KeyedApart", spec := "keyedApart", unfollowed := true, recurses := true, plainKeys := false, apart := false }
def KeyedApartSaid : Prop := keyedApartRow.holds Try.pinned (OpenSpec.ofChange keyedApartSpec)

/-- ITS FALSE NEIGHBOUR: 'it returns false'. Refute it at one input. -/
def keyedApartWrong : ChangeSpec := { name := "keyedApart", fn := fun _ => fun
  | [d1, d2, d3, d4, d5] => { results := [.lit (.bool false)], args := [d1, d2, d3, d4, d5] }
  | _ => none }
def KeyedApartWrongFalsely : Prop := keyedApartRow.holds Try.pinned (OpenSpec.ofChange keyedApartWrong)

/-- 'hardtacklaw10.StampTells': WHATEVER THE INPUT: true; the input reads as it did. -/
def stampTellsSpec : ChangeSpec := { name := "stampTells", fn := fun _ => fun
  | [d1, d2, d3, d4] => { results := [.lit (.bool true)], args := [d1, d2, d3, d4] }
  | _ => none }
def stampTellsRow : OpenClaim := { program := "ytnfnjhphamadgaa", sum := "b0718d1abd4a500505893e2d972b9e6f04bc07aa52a3587635044ee198ffb86f", func := "hardtack/hardtacklaw10.StampTells", spec := "stampTells", plainKeys := false, apart := false }
def StampTellsSaid : Prop := stampTellsRow.holds Try.pinned (OpenSpec.ofChange stampTellsSpec)

/-- ITS FALSE NEIGHBOUR: 'it returns false'. Refute it at one input. -/
def stampTellsWrong : ChangeSpec := { name := "stampTells", fn := fun _ => fun
  | [d1, d2, d3, d4] => { results := [.lit (.bool false)], args := [d1, d2, d3, d4] }
  | _ => none }
def StampTellsWrongFalsely : Prop := stampTellsRow.holds Try.pinned (OpenSpec.ofChange stampTellsWrong)

/-- 'hardtacklaw10.StampRound': WHATEVER THE INPUT: true; the input reads as it did. -/
def stampRoundSpec : ChangeSpec := { name := "stampRound", fn := fun _ => fun
  | [d1, d2] => { results := [.lit (.bool true)], args := [d1, d2] }
  | _ => none }
def stampRoundRow : OpenClaim := { program := "ytnfnjhphamadgaa", sum := "b0718d1abd4a500505893e2d972b9e6f04bc07aa52a3587635044ee198ffb86f", func := "hardtack/hardtacklaw10.StampRound", spec := "stampRound", plainKeys := false, apart := false }
def StampRoundSaid : Prop := stampRoundRow.holds Try.pinned (OpenSpec.ofChange stampRoundSpec)

/-- ITS FALSE NEIGHBOUR: 'it returns false'. Refute it at one input. -/
def stampRoundWrong : ChangeSpec := { name := "stampRound", fn := fun _ => fun
  | [d1, d2] => { results := [.lit (.bool false)], args := [d1, d2] }
  | _ => none }
def StampRoundWrongFalsely : Prop := stampRoundRow.holds Try.pinned (OpenSpec.ofChange stampRoundWrong)

/-- 'hardtacklaw10.StampLess': WHATEVER THE INPUT: true; the input reads as it did. -/
def stampLessSpec : ChangeSpec := { name := "stampLess", fn := fun _ => fun
  | [d1, d2, d3] => { results := [.lit (.bool true)], args := [d1, d2, d3] }
  | _ => none }
def stampLessRow : OpenClaim := { program := "ytnfnjhphamadgaa", sum := "b0718d1abd4a500505893e2d972b9e6f04bc07aa52a3587635044ee198ffb86f", func := "hardtack/hardtacklaw10.StampLess", spec := "stampLess", plainKeys := false, apart := false }
def StampLessSaid : Prop := stampLessRow.holds Try.pinned (OpenSpec.ofChange stampLessSpec)

/-- ITS FALSE NEIGHBOUR: 'it returns false'. Refute it at one input. -/
def stampLessWrong : ChangeSpec := { name := "stampLess", fn := fun _ => fun
  | [d1, d2, d3] => { results := [.lit (.bool false)], args := [d1, d2, d3] }
  | _ => none }
def StampLessWrongFalsely : Prop := stampLessRow.holds Try.pinned (OpenSpec.ofChange stampLessWrong)

/-- 'hardtacktop.TopTable': WHATEVER THE INPUT: true; the input reads as it did. -/
def topTableSpec : ChangeSpec := { name := "topTable", fn := fun _ => fun
  | [d1, d2, d3] => { results := [.lit (.bool true)], args := [d1, d2, d3] }
  | _ => none }
def topTableRow : OpenClaim := { program := "ytnfnjhphamadgaa", sum := "b0718d1abd4a500505893e2d972b9e6f04bc07aa52a3587635044ee198ffb86f", func := "hardtack/hardtacktop.TopTable", spec := "topTable", unfollowed := true, recurses := true, plainKeys := false, apart := false }
def TopTableSaid : Prop := topTableRow.holds Try.pinned (OpenSpec.ofChange topTableSpec)

/-- ITS FALSE NEIGHBOUR: 'it returns false'. Refute it at one input. -/
def topTableWrong : ChangeSpec := { name := "topTable", fn := fun _ => fun
  | [d1, d2, d3] => { results := [.lit (.bool false)], args := [d1, d2, d3] }
  | _ => none }
def TopTableWrongFalsely : Prop := topTableRow.holds Try.pinned (OpenSpec.ofChange topTableWrong)

/- THE SECOND FORM. 'bulk': how many values and letters a reading holds, each counted each time it is reached (what is shared counts as often as it is met; a slice's spare places count too). A statement '..UptoSaid' is the law's where the arguments, and the package variables that the reading takes, are together of bulk at most 1048576: NARROWER than '..Said'. Prove '..Said' where nothing that the law and all that it calls make is longer than what came in: it says more and counts as full. Else prove '..UptoSaid'. A law counts once. -/
mutual
def uptoBulk {H : Type} : DataW H → Nat
  | .lit (.string bytes) => bytes.length + 1
  | .lit _ => 1
  | .nil => 1
  | .ptr d => uptoBulk d + 1
  | .slice elems spare => uptoBulkAll elems + uptoBulkAll spare + 1
  | .agg parts => uptoBulkAll parts + 1
  | .iface _ d => uptoBulk d + 1
  | .map entries => uptoBulkEntries entries + 1
  | .held _ => 1
def uptoBulkAll {H : Type} : List (DataW H) → Nat
  | [] => 0
  | d :: r => uptoBulk d + uptoBulkAll r
def uptoBulkEntries {H : Type} : List (Lit × DataW H) → Nat
  | [] => 0
  | x :: r => uptoBulkEntry x + uptoBulkEntries r
def uptoBulkEntry {H : Type} : Lit × DataW H → Nat
  | (.string bytes, d) => bytes.length + uptoBulk d + 1
  | (_, d) => uptoBulk d + 1
 end
def uptoSmall : (H : Type) → List (DataW H) → Bool := fun _ ds => decide (uptoBulkAll ds ≤ 1048576)
def OpenSpec.upto (s : _root_.Go.ChangeSpec) : _root_.Go.OpenSpec := { _root_.Go.OpenSpec.ofChange s with cond := some uptoSmall }

/-- 'hardtacklaw09.KeyedTells', WHERE WHAT IT READS IS OF BULK AT MOST 1048576: true; the input reads as it did. -/
def keyedTellsUptoRow : OpenClaim := { program := "ytnfnjhphamadgaa", sum := "b0718d1abd4a500505893e2d972b9e6f04bc07aa52a3587635044ee198ffb86f", func := "hardtack/hardtacklaw09.KeyedTells", spec := "keyedTells", unfollowed := true, recurses := true, plainKeys := false, apart := false, narrowed := true }
def KeyedTellsUptoSaid : Prop := keyedTellsUptoRow.holds Try.pinned (OpenSpec.upto keyedTellsSpec)

/-- 'hardtacklaw09.KeyedPut', WHERE WHAT IT READS IS OF BULK AT MOST 1048576: true; the input reads as it did. -/
def keyedPutUptoRow : OpenClaim := { program := "ytnfnjhphamadgaa", sum := "b0718d1abd4a500505893e2d972b9e6f04bc07aa52a3587635044ee198ffb86f", func := "hardtack/hardtacklaw09.KeyedPut", spec := "keyedPut", unfollowed := true, recurses := true, plainKeys := false, apart := false, narrowed := true }
def KeyedPutUptoSaid : Prop := keyedPutUptoRow.holds Try.pinned (OpenSpec.upto keyedPutSpec)

/-- 'hardtacklaw09.KeyedApart', WHERE WHAT IT READS IS OF BULK AT MOST 1048576: true; the input reads as it did. -/
def keyedApartUptoRow : OpenClaim := { program := "ytnfnjhphamadgaa", sum := "b0718d1abd4a500505893e2d972b9e6f04bc07aa52a3587635044ee198ffb86f", func := "hardtack/hardtacklaw09.KeyedApart", spec := "keyedApart", unfollowed := true, recurses := true, plainKeys := false, apart := false, narrowed := true }
def KeyedApartUptoSaid : Prop := keyedApartUptoRow.holds Try.pinned (OpenSpec.upto keyedApartSpec)

/-- 'hardtacklaw10.StampTells', WHERE WHAT IT READS IS OF BULK AT MOST 1048576: true; the input reads as it did. -/
def stampTellsUptoRow : OpenClaim := { program := "ytnfnjhphamadgaa", sum := "b0718d1abd4a500505893e2d972b9e6f04bc07aa52a3587635044ee198ffb86f", func := "hardtack/hardtacklaw10.StampTells", spec := "stampTells", plainKeys := false, apart := false, narrowed := true }
def StampTellsUptoSaid : Prop := stampTellsUptoRow.holds Try.pinned (OpenSpec.upto stampTellsSpec)

/-- 'hardtacklaw10.StampRound', WHERE WHAT IT READS IS OF BULK AT MOST 1048576: true; the input reads as it did. -/
def stampRoundUptoRow : OpenClaim := { program := "ytnfnjhphamadgaa", sum := "b0718d1abd4a500505893e2d972b9e6f04bc07aa52a3587635044ee198ffb86f", func := "hardtack/hardtacklaw10.StampRound", spec := "stampRound", plainKeys := false, apart := false, narrowed := true }
def StampRoundUptoSaid : Prop := stampRoundUptoRow.holds Try.pinned (OpenSpec.upto stampRoundSpec)

/-- 'hardtacklaw10.StampLess', WHERE WHAT IT READS IS OF BULK AT MOST 1048576: true; the input reads as it did. -/
def stampLessUptoRow : OpenClaim := { program := "ytnfnjhphamadgaa", sum := "b0718d1abd4a500505893e2d972b9e6f04bc07aa52a3587635044ee198ffb86f", func := "hardtack/hardtacklaw10.StampLess", spec := "stampLess", plainKeys := false, apart := false, narrowed := true }
def StampLessUptoSaid : Prop := stampLessUptoRow.holds Try.pinned (OpenSpec.upto stampLessSpec)

/-- 'hardtacktop.TopTable', WHERE WHAT IT READS IS OF BULK AT MOST 1048576: true; the input reads as it did. -/
def topTableUptoRow : OpenClaim := { program := "ytnfnjhphamadgaa", sum := "b0718d1abd4a500505893e2d972b9e6f04bc07aa52a3587635044ee198ffb86f", func := "hardtack/hardtacktop.TopTable", spec := "topTable", unfollowed := true, recurses := true, plainKeys := false, apart := false, narrowed := true }
def TopTableUptoSaid : Prop := topTableUptoRow.holds Try.pinned (OpenSpec.upto topTableSpec)

end Rows
end Go.Proofs.Ytnfnjhphamadgaa
