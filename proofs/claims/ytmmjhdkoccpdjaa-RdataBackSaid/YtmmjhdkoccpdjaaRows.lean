/-
  No cell of these rows narrows 'for every input' (looked for: loops, veiled, ifaces, maps, wideKeys, modest, calm, conditions, laid).
  DERIVED. THE GIVEN ROWS OF THIS SEAT. 12 by the template 'for every input the law returns true; each argument reads behind the call as it read before'; 0 by the template 'total and deterministic' (their statements: YtmmjhdkoccpdjaaTotals.lean).
  GIVEN WITH THE SEED: the statements are not yours to turn. If you find one false, say at which input.
  Laid BY PROGRAM, IN A SANDBOX (cutbox-rows.mjs): the forced cells as the released guide's own fill.sh prints them over the translation 3200fc78f5a41d20… (all of the seat's roots in one cut). By AI agents, Wed Nov 11 2026. No macro, syntax, notation, axiom, sorry.
-/
import Derived.Test.YtmmjhdkoccpdjaaChecked
import GoSem.Claim
import GoSem.ClaimJoined
import GoSem.ClaimMapViews
import Derived.JoinedTies
import Derived.KernelRfl
namespace Go.Proofs.Ytmmjhdkoccpdjaa
/- THE CELL 'sum', in the pinned program and in every row, IS THE sha256 OF THE DUMP (.gsa) THAT YtmmjhdkoccpdjaaProg.lean LOADS. Nothing in Lean hashes anything: it is a label: what it is worth is what the hold of that sum in a sandbox is worth. -/
noncomputable def Try.pinned : Pinned := { name := "ytmmjhdkoccpdjaa", sum := "3200fc78f5a41d20ecbe19c1d362ce17aa724b688f2f8b4aaf6185cfc4873079", checked := Try.checked }
namespace Rows
def none {H : Type} : Left H := { results := [], args := [] }

/-- 'hardtacklaw01.LabelUp': WHATEVER THE INPUT: true; the input reads as it did. -/
def labelUpSpec : ChangeSpec := { name := "labelUp", fn := fun _ => fun
  | [d1, d2] => { results := [.lit (.bool true)], args := [d1, d2] }
  | _ => none }
def labelUpRow : OpenClaim := { program := "ytmmjhdkoccpdjaa", sum := "3200fc78f5a41d20ecbe19c1d362ce17aa724b688f2f8b4aaf6185cfc4873079", func := "hardtack/hardtacklaw01.LabelUp", spec := "labelUp", inPlace := ["internal/abi.NoEscape"], unfollowed := true, recurses := true, apart := false }
def LabelUpSaid : Prop := labelUpRow.holds Try.pinned (OpenSpec.ofChange labelUpSpec)

/-- ITS FALSE NEIGHBOUR: 'it returns false'. Refute it at one input. -/
def labelUpWrong : ChangeSpec := { name := "labelUp", fn := fun _ => fun
  | [d1, d2] => { results := [.lit (.bool false)], args := [d1, d2] }
  | _ => none }
def LabelUpWrongFalsely : Prop := labelUpRow.holds Try.pinned (OpenSpec.ofChange labelUpWrong)

/-- 'hardtacklaw02.WalkTells': WHATEVER THE INPUT: true; the input reads as it did. -/
def walkTellsSpec : ChangeSpec := { name := "walkTells", fn := fun _ => fun
  | [d1, d2] => { results := [.lit (.bool true)], args := [d1, d2] }
  | _ => none }
def walkTellsRow : OpenClaim := { program := "ytmmjhdkoccpdjaa", sum := "3200fc78f5a41d20ecbe19c1d362ce17aa724b688f2f8b4aaf6185cfc4873079", func := "hardtack/hardtacklaw02.WalkTells", spec := "walkTells", unfollowed := true, recurses := true, apart := false }
def WalkTellsSaid : Prop := walkTellsRow.holds Try.pinned (OpenSpec.ofChange walkTellsSpec)

/-- ITS FALSE NEIGHBOUR: 'it returns false'. Refute it at one input. -/
def walkTellsWrong : ChangeSpec := { name := "walkTells", fn := fun _ => fun
  | [d1, d2] => { results := [.lit (.bool false)], args := [d1, d2] }
  | _ => none }
def WalkTellsWrongFalsely : Prop := walkTellsRow.holds Try.pinned (OpenSpec.ofChange walkTellsWrong)

/-- 'hardtacklaw02.WalkSorts': WHATEVER THE INPUT: true; the input reads as it did. -/
def walkSortsSpec : ChangeSpec := { name := "walkSorts", fn := fun _ => fun
  | [d1, d2] => { results := [.lit (.bool true)], args := [d1, d2] }
  | _ => none }
def walkSortsRow : OpenClaim := { program := "ytmmjhdkoccpdjaa", sum := "3200fc78f5a41d20ecbe19c1d362ce17aa724b688f2f8b4aaf6185cfc4873079", func := "hardtack/hardtacklaw02.WalkSorts", spec := "walkSorts", unfollowed := true, recurses := true, apart := false }
def WalkSortsSaid : Prop := walkSortsRow.holds Try.pinned (OpenSpec.ofChange walkSortsSpec)

/-- ITS FALSE NEIGHBOUR: 'it returns false'. Refute it at one input. -/
def walkSortsWrong : ChangeSpec := { name := "walkSorts", fn := fun _ => fun
  | [d1, d2] => { results := [.lit (.bool false)], args := [d1, d2] }
  | _ => none }
def WalkSortsWrongFalsely : Prop := walkSortsRow.holds Try.pinned (OpenSpec.ofChange walkSortsWrong)

/-- 'hardtacklaw02.WalkOrder': WHATEVER THE INPUT: true; the input reads as it did. -/
def walkOrderSpec : ChangeSpec := { name := "walkOrder", fn := fun _ => fun
  | [d1, d2, d3] => { results := [.lit (.bool true)], args := [d1, d2, d3] }
  | _ => none }
def walkOrderRow : OpenClaim := { program := "ytmmjhdkoccpdjaa", sum := "3200fc78f5a41d20ecbe19c1d362ce17aa724b688f2f8b4aaf6185cfc4873079", func := "hardtack/hardtacklaw02.WalkOrder", spec := "walkOrder", unfollowed := true, recurses := true, apart := false }
def WalkOrderSaid : Prop := walkOrderRow.holds Try.pinned (OpenSpec.ofChange walkOrderSpec)

/-- ITS FALSE NEIGHBOUR: 'it returns false'. Refute it at one input. -/
def walkOrderWrong : ChangeSpec := { name := "walkOrder", fn := fun _ => fun
  | [d1, d2, d3] => { results := [.lit (.bool false)], args := [d1, d2, d3] }
  | _ => none }
def WalkOrderWrongFalsely : Prop := walkOrderRow.holds Try.pinned (OpenSpec.ofChange walkOrderWrong)

/-- 'hardtacklaw02.WalkCommon': WHATEVER THE INPUT: true; the input reads as it did. -/
def walkCommonSpec : ChangeSpec := { name := "walkCommon", fn := fun _ => fun
  | [d1, d2, d3, d4] => { results := [.lit (.bool true)], args := [d1, d2, d3, d4] }
  | _ => none }
def walkCommonRow : OpenClaim := { program := "ytmmjhdkoccpdjaa", sum := "3200fc78f5a41d20ecbe19c1d362ce17aa724b688f2f8b4aaf6185cfc4873079", func := "hardtack/hardtacklaw02.WalkCommon", spec := "walkCommon", unfollowed := true, recurses := true, apart := false }
def WalkCommonSaid : Prop := walkCommonRow.holds Try.pinned (OpenSpec.ofChange walkCommonSpec)

/-- ITS FALSE NEIGHBOUR: 'it returns false'. Refute it at one input. -/
def walkCommonWrong : ChangeSpec := { name := "walkCommon", fn := fun _ => fun
  | [d1, d2, d3, d4] => { results := [.lit (.bool false)], args := [d1, d2, d3, d4] }
  | _ => none }
def WalkCommonWrongFalsely : Prop := walkCommonRow.holds Try.pinned (OpenSpec.ofChange walkCommonWrong)

/-- 'hardtacklaw03.PackBack': WHATEVER THE INPUT: true; the input reads as it did. -/
def packBackSpec : ChangeSpec := { name := "packBack", fn := fun _ => fun
  | [d1, d2, d3] => { results := [.lit (.bool true)], args := [d1, d2, d3] }
  | _ => none }
def packBackRow : OpenClaim := { program := "ytmmjhdkoccpdjaa", sum := "3200fc78f5a41d20ecbe19c1d362ce17aa724b688f2f8b4aaf6185cfc4873079", func := "hardtack/hardtacklaw03.PackBack", spec := "packBack", unfollowed := true, recurses := true, apart := false }
def PackBackSaid : Prop := packBackRow.holds Try.pinned (OpenSpec.ofChange packBackSpec)

/-- ITS FALSE NEIGHBOUR: 'it returns false'. Refute it at one input. -/
def packBackWrong : ChangeSpec := { name := "packBack", fn := fun _ => fun
  | [d1, d2, d3] => { results := [.lit (.bool false)], args := [d1, d2, d3] }
  | _ => none }
def PackBackWrongFalsely : Prop := packBackRow.holds Try.pinned (OpenSpec.ofChange packBackWrong)

/-- 'hardtacklaw03.PackEnds': WHATEVER THE INPUT: true; the input reads as it did. -/
def packEndsSpec : ChangeSpec := { name := "packEnds", fn := fun _ => fun
  | [d1, d2] => { results := [.lit (.bool true)], args := [d1, d2] }
  | _ => none }
def packEndsRow : OpenClaim := { program := "ytmmjhdkoccpdjaa", sum := "3200fc78f5a41d20ecbe19c1d362ce17aa724b688f2f8b4aaf6185cfc4873079", func := "hardtack/hardtacklaw03.PackEnds", spec := "packEnds", unfollowed := true, recurses := true, apart := false }
def PackEndsSaid : Prop := packEndsRow.holds Try.pinned (OpenSpec.ofChange packEndsSpec)

/-- ITS FALSE NEIGHBOUR: 'it returns false'. Refute it at one input. -/
def packEndsWrong : ChangeSpec := { name := "packEnds", fn := fun _ => fun
  | [d1, d2] => { results := [.lit (.bool false)], args := [d1, d2] }
  | _ => none }
def PackEndsWrongFalsely : Prop := packEndsRow.holds Try.pinned (OpenSpec.ofChange packEndsWrong)

/-- 'hardtacklaw04.RdataTells': WHATEVER THE INPUT: true; the input reads as it did. -/
def rdataTellsSpec : ChangeSpec := { name := "rdataTells", fn := fun _ => fun
  | [d1, d2] => { results := [.lit (.bool true)], args := [d1, d2] }
  | _ => none }
def rdataTellsRow : OpenClaim := { program := "ytmmjhdkoccpdjaa", sum := "3200fc78f5a41d20ecbe19c1d362ce17aa724b688f2f8b4aaf6185cfc4873079", func := "hardtack/hardtacklaw04.RdataTells", spec := "rdataTells", unfollowed := true, recurses := true, apart := false }
def RdataTellsSaid : Prop := rdataTellsRow.holds Try.pinned (OpenSpec.ofChange rdataTellsSpec)

/-- ITS FALSE NEIGHBOUR: 'it returns false'. Refute it at one input. -/
def rdataTellsWrong : ChangeSpec := { name := "rdataTells", fn := fun _ => fun
  | [d1, d2] => { results := [.lit (.bool false)], args := [d1, d2] }
  | _ => none }
def RdataTellsWrongFalsely : Prop := rdataTellsRow.holds Try.pinned (OpenSpec.ofChange rdataTellsWrong)

/-- 'hardtacklaw04.RdataBack': WHATEVER THE INPUT: true; the input reads as it did. -/
def rdataBackSpec : ChangeSpec := { name := "rdataBack", fn := fun _ => fun
  | [d1, d2, d3, d4] => { results := [.lit (.bool true)], args := [d1, d2, d3, d4] }
  | _ => none }
def rdataBackRow : OpenClaim := { program := "ytmmjhdkoccpdjaa", sum := "3200fc78f5a41d20ecbe19c1d362ce17aa724b688f2f8b4aaf6185cfc4873079", func := "hardtack/hardtacklaw04.RdataBack", spec := "rdataBack", unfollowed := true, recurses := true, apart := false }
def RdataBackSaid : Prop := rdataBackRow.holds Try.pinned (OpenSpec.ofChange rdataBackSpec)

/-- ITS FALSE NEIGHBOUR: 'it returns false'. Refute it at one input. -/
def rdataBackWrong : ChangeSpec := { name := "rdataBack", fn := fun _ => fun
  | [d1, d2, d3, d4] => { results := [.lit (.bool false)], args := [d1, d2, d3, d4] }
  | _ => none }
def RdataBackWrongFalsely : Prop := rdataBackRow.holds Try.pinned (OpenSpec.ofChange rdataBackWrong)

/-- 'hardtacktop.TopNames': WHATEVER THE INPUT: true; the input reads as it did. -/
def topNamesSpec : ChangeSpec := { name := "topNames", fn := fun _ => fun
  | [d] => { results := [.lit (.bool true)], args := [d] }
  | _ => none }
def topNamesRow : OpenClaim := { program := "ytmmjhdkoccpdjaa", sum := "3200fc78f5a41d20ecbe19c1d362ce17aa724b688f2f8b4aaf6185cfc4873079", func := "hardtack/hardtacktop.TopNames", spec := "topNames", inPlace := ["internal/abi.NoEscape"], unfollowed := true, recurses := true, apart := false }
def TopNamesSaid : Prop := topNamesRow.holds Try.pinned (OpenSpec.ofChange topNamesSpec)

/-- ITS FALSE NEIGHBOUR: 'it returns false'. Refute it at one input. -/
def topNamesWrong : ChangeSpec := { name := "topNames", fn := fun _ => fun
  | [d] => { results := [.lit (.bool false)], args := [d] }
  | _ => none }
def TopNamesWrongFalsely : Prop := topNamesRow.holds Try.pinned (OpenSpec.ofChange topNamesWrong)

/-- 'hardtacktop.TopDepth': WHATEVER THE INPUT: true; the input reads as it did. -/
def topDepthSpec : ChangeSpec := { name := "topDepth", fn := fun _ => fun
  | [d1, d2, d3] => { results := [.lit (.bool true)], args := [d1, d2, d3] }
  | _ => none }
def topDepthRow : OpenClaim := { program := "ytmmjhdkoccpdjaa", sum := "3200fc78f5a41d20ecbe19c1d362ce17aa724b688f2f8b4aaf6185cfc4873079", func := "hardtack/hardtacktop.TopDepth", spec := "topDepth", unfollowed := true, recurses := true, apart := false }
def TopDepthSaid : Prop := topDepthRow.holds Try.pinned (OpenSpec.ofChange topDepthSpec)

/-- ITS FALSE NEIGHBOUR: 'it returns false'. Refute it at one input. -/
def topDepthWrong : ChangeSpec := { name := "topDepth", fn := fun _ => fun
  | [d1, d2, d3] => { results := [.lit (.bool false)], args := [d1, d2, d3] }
  | _ => none }
def TopDepthWrongFalsely : Prop := topDepthRow.holds Try.pinned (OpenSpec.ofChange topDepthWrong)

/-- 'hardtacktop.TopData': WHATEVER THE INPUT: true; the input reads as it did. -/
def topDataSpec : ChangeSpec := { name := "topData", fn := fun _ => fun
  | [d1, d2] => { results := [.lit (.bool true)], args := [d1, d2] }
  | _ => none }
def topDataRow : OpenClaim := { program := "ytmmjhdkoccpdjaa", sum := "3200fc78f5a41d20ecbe19c1d362ce17aa724b688f2f8b4aaf6185cfc4873079", func := "hardtack/hardtacktop.TopData", spec := "topData", unfollowed := true, recurses := true, apart := false }
def TopDataSaid : Prop := topDataRow.holds Try.pinned (OpenSpec.ofChange topDataSpec)

/-- ITS FALSE NEIGHBOUR: 'it returns false'. Refute it at one input. -/
def topDataWrong : ChangeSpec := { name := "topData", fn := fun _ => fun
  | [d1, d2] => { results := [.lit (.bool false)], args := [d1, d2] }
  | _ => none }
def TopDataWrongFalsely : Prop := topDataRow.holds Try.pinned (OpenSpec.ofChange topDataWrong)

/- THE SECOND FORM. 'bulk': how many values and letters a reading holds, each counted each time it is reached (what is shared counts as often as it is met; a slice's spare places count too). A statement '..UptoSaid' is the law's where the arguments, and the package variables that the reading takes, are together of bulk at most 1048576: NARROWER than '..Said'. Prove '..Said' where nothing that the law and all that it calls make is longer than what came in: it says more and counts as full. Else prove '..UptoSaid'. A law counts once. -/
mutual
def uptoBulk {H : Type} : DataW H → Nat
  | .lit (.string bytes) => bytes.length + 1
  | .lit _ => 1
  | .nil => 1
  | .ptr d => uptoBulk d + 1
  | .slice elems spare => uptoBulkAll elems + uptoBulkAll spare + 1
  | .agg parts => uptoBulkAll parts + 1
  | .iface _ d => uptoBulk d + 1
  | .map entries => uptoBulkEntries entries + 1
  | .held _ => 1
def uptoBulkAll {H : Type} : List (DataW H) → Nat
  | [] => 0
  | d :: r => uptoBulk d + uptoBulkAll r
def uptoBulkEntries {H : Type} : List (Lit × DataW H) → Nat
  | [] => 0
  | x :: r => uptoBulkEntry x + uptoBulkEntries r
def uptoBulkEntry {H : Type} : Lit × DataW H → Nat
  | (.string bytes, d) => bytes.length + uptoBulk d + 1
  | (_, d) => uptoBulk d + 1
 end
def uptoSmall : (H : Type) → List (DataW H) → Bool := fun _ ds => decide (uptoBulkAll ds ≤ 1048576)
def OpenSpec.upto (s : _root_.Go.ChangeSpec) : _root_.Go.OpenSpec := { _root_.Go.OpenSpec.ofChange s with cond := some uptoSmall }

/-- 'hardtacklaw01.LabelUp', WHERE WHAT IT READS IS OF BULK AT MOST 1048576: true; the input reads as it did. -/
def labelUpUptoRow : OpenClaim := { program := "ytmmjhdkoccpdjaa", sum := "3200fc78f5a41d20ecbe19c1d362ce17aa724b688f2f8b4aaf6185cfc4873079", func := "hardtack/hardtacklaw01.LabelUp", spec := "labelUp", inPlace := ["internal/abi.NoEscape"], unfollowed := true, recurses := true, apart := false, narrowed := true }
def LabelUpUptoSaid : Prop := labelUpUptoRow.holds Try.pinned (OpenSpec.upto labelUpSpec)

/-- 'hardtacklaw02.WalkTells', WHERE WHAT IT READS IS OF BULK AT MOST 1048576: true; the input reads as it did. -/
def walkTellsUptoRow : OpenClaim := { program := "ytmmjhdkoccpdjaa", sum := "3200fc78f5a41d20ecbe19c1d362ce17aa724b688f2f8b4aaf6185cfc4873079", func := "hardtack/hardtacklaw02.WalkTells", spec := "walkTells", unfollowed := true, recurses := true, apart := false, narrowed := true }
def WalkTellsUptoSaid : Prop := walkTellsUptoRow.holds Try.pinned (OpenSpec.upto walkTellsSpec)

/-- 'hardtacklaw02.WalkSorts', WHERE WHAT IT READS IS OF BULK AT MOST 1048576: true; the input reads as it did. -/
def walkSortsUptoRow : OpenClaim := { program := "ytmmjhdkoccpdjaa", sum := "3200fc78f5a41d20ecbe19c1d362ce17aa724b688f2f8b4aaf6185cfc4873079", func := "hardtack/hardtacklaw02.WalkSorts", spec := "walkSorts", unfollowed := true, recurses := true, apart := false, narrowed := true }
def WalkSortsUptoSaid : Prop := walkSortsUptoRow.holds Try.pinned (OpenSpec.upto walkSortsSpec)

/-- 'hardtacklaw02.WalkOrder', WHERE WHAT IT READS IS OF BULK AT MOST 1048576: true; the input reads as it did. -/
def walkOrderUptoRow : OpenClaim := { program := "ytmmjhdkoccpdjaa", sum := "3200fc78f5a41d20ecbe19c1d362ce17aa724b688f2f8b4aaf6185cfc4873079", func := "hardtack/hardtacklaw02.WalkOrder", spec := "walkOrder", unfollowed := true, recurses := true, apart := false, narrowed := true }
def WalkOrderUptoSaid : Prop := walkOrderUptoRow.holds Try.pinned (OpenSpec.upto walkOrderSpec)

/-- 'hardtacklaw02.WalkCommon', WHERE WHAT IT READS IS OF BULK AT MOST 1048576: true; the input reads as it did. -/
def walkCommonUptoRow : OpenClaim := { program := "ytmmjhdkoccpdjaa", sum := "3200fc78f5a41d20ecbe19c1d362ce17aa724b688f2f8b4aaf6185cfc4873079", func := "hardtack/hardtacklaw02.WalkCommon", spec := "walkCommon", unfollowed := true, recurses := true, apart := false, narrowed := true }
def WalkCommonUptoSaid : Prop := walkCommonUptoRow.holds Try.pinned (OpenSpec.upto walkCommonSpec)

/-- 'hardtacklaw03.PackBack', WHERE WHAT IT READS IS OF BULK AT MOST 1048576: true; the input reads as it did. -/
def packBackUptoRow : OpenClaim := { program := "ytmmjhdkoccpdjaa", sum := "3200fc78f5a41d20ecbe19c1d362ce17aa724b688f2f8b4aaf6185cfc4873079", func := "hardtack/hardtacklaw03.PackBack", spec := "packBack", unfollowed := true, recurses := true, apart := false, narrowed := true }
def PackBackUptoSaid : Prop := packBackUptoRow.holds Try.pinned (OpenSpec.upto packBackSpec)

/-- 'hardtacklaw03.PackEnds', WHERE WHAT IT READS IS OF BULK AT MOST 1048576: true; the input reads as it did. -/
def packEndsUptoRow : OpenClaim := { program := "ytmmjhdkoccpdjaa", sum := "3200fc78f5a41d20ecbe19c1d362ce17aa724b688f2f8b4aaf6185cfc4873079", func := "hardtack/hardtacklaw03.PackEnds", spec := "packEnds", unfollowed := true, recurses := true, apart := false, narrowed := true }
def PackEndsUptoSaid : Prop := packEndsUptoRow.holds Try.pinned (OpenSpec.upto packEndsSpec)

/-- 'hardtacklaw04.RdataTells', WHERE WHAT IT READS IS OF BULK AT MOST 1048576: true; the input reads as it did. -/
def rdataTellsUptoRow : OpenClaim := { program := "ytmmjhdkoccpdjaa", sum := "3200fc78f5a41d20ecbe19c1d362ce17aa724b688f2f8b4aaf6185cfc4873079", func := "hardtack/hardtacklaw04.RdataTells", spec := "rdataTells", unfollowed := true, recurses := true, apart := false, narrowed := true }
def RdataTellsUptoSaid : Prop := rdataTellsUptoRow.holds Try.pinned (OpenSpec.upto rdataTellsSpec)

/-- 'hardtacklaw04.RdataBack', WHERE WHAT IT READS IS OF BULK AT MOST 1048576: true; the input reads as it did. -/
def rdataBackUptoRow : OpenClaim := { program := "ytmmjhdkoccpdjaa", sum := "3200fc78f5a41d20ecbe19c1d362ce17aa724b688f2f8b4aaf6185cfc4873079", func := "hardtack/hardtacklaw04.RdataBack", spec := "rdataBack", unfollowed := true, recurses := true, apart := false, narrowed := true }
def RdataBackUptoSaid : Prop := rdataBackUptoRow.holds Try.pinned (OpenSpec.upto rdataBackSpec)

/-- 'hardtacktop.TopNames', WHERE WHAT IT READS IS OF BULK AT MOST 1048576: true; the input reads as it did. -/
def topNamesUptoRow : OpenClaim := { program := "ytmmjhdkoccpdjaa", sum := "3200fc78f5a41d20ecbe19c1d362ce17aa724b688f2f8b4aaf6185cfc4873079", func := "hardtack/hardtacktop.TopNames", spec := "topNames", inPlace := ["internal/abi.NoEscape"], unfollowed := true, recurses := true, apart := false, narrowed := true }
def TopNamesUptoSaid : Prop := topNamesUptoRow.holds Try.pinned (OpenSpec.upto topNamesSpec)

/-- 'hardtacktop.TopDepth', WHERE WHAT IT READS IS OF BULK AT MOST 1048576: true; the input reads as it did. -/
def topDepthUptoRow : OpenClaim := { program := "ytmmjhdkoccpdjaa", sum := "3200fc78f5a41d20ecbe19c1d362ce17aa724b688f2f8b4aaf6185cfc4873079", func := "hardtack/hardtacktop.TopDepth", spec := "topDepth", unfollowed := true, recurses := true, apart := false, narrowed := true }
def TopDepthUptoSaid : Prop := topDepthUptoRow.holds Try.pinned (OpenSpec.upto topDepthSpec)

/-- 'hardtacktop.TopData', WHERE WHAT IT READS IS OF BULK AT MOST 1048576: true; the input reads as it did. -/
def topDataUptoRow : OpenClaim := { program := "ytmmjhdkoccpdjaa", sum := "3200fc78f5a41d20ecbe19c1d362ce17aa724b688f2f8b4aaf6185cfc4873079", func := "hardtack/hardtacktop.TopData", spec := "topData", unfollowed := true, recurses := true, apart := false, narrowed := true }
def TopDataUptoSaid : Prop := topDataUptoRow.holds Try.pinned (OpenSpec.upto topDataSpec)

end Rows
end Go.Proofs.Ytmmjhdkoccpdjaa
