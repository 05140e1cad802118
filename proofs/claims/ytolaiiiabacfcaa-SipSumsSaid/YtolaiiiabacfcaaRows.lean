/-
  No cell of these rows narrows 'for every input' (looked for: loops, veiled, ifaces, maps, wideKeys, modest, calm, conditions, laid).
  DERIVED. THE GIVEN ROWS OF THIS SEAT. 4 by the template 'for every input the law returns true; each argument reads behind the call as it read before'; 0 by the template 'total and deterministic' (their statements: YtolaiiiabacfcaaTotals.lean).
  GIVEN WITH THE SEED: the statements are not yours to turn. If you find one false, say at which input.
  Laid BY PROGRAM, IN A SANDBOX (cutbox-rows.mjs): the forced cells as the released guide's own fill.sh prints them over the translation eeaddf116a5f51b3… (all of the seat's roots in one cut). By AI agents, Wed Nov 11 2026. No macro, syntax, notation, axiom, sorry.
-/
import Derived.Test.YtolaiiiabacfcaaChecked
import GoSem.Claim
import GoSem.ClaimJoined
import GoSem.ClaimMapViews
import Derived.JoinedTies
import Derived.KernelRfl
namespace Go.Proofs.Ytolaiiiabacfcaa
/- THE CELL 'sum', in the pinned program and in every row, IS THE sha256 OF THE DUMP (.gsa) THAT YtolaiiiabacfcaaProg.lean LOADS. Nothing in Lean hashes anything: it is a label: what it is worth is what the hold of that sum in a sandbox is worth. -/
noncomputable def Try.pinned : Pinned := { name := "ytolaiiiabacfcaa", sum := "eeaddf116a5f51b3f7f3cc4a4581974f70921028dd5558131269b884f2a380af", checked := Try.checked }
namespace Rows
def none {H : Type} : Left H := { results := [], args := [] }

/-- 'hardtacklaw08.SipRounds': WHATEVER THE INPUT: true; the input reads as it did. -/
def sipRoundsSpec : ChangeSpec := { name := "sipRounds", fn := fun _ => fun
  | [d1, d2, d3] => { results := [.lit (.bool true)], args := [d1, d2, d3] }
  | _ => none }
def sipRoundsRow : OpenClaim := { program := "ytolaiiiabacfcaa", sum := "eeaddf116a5f51b3f7f3cc4a4581974f70921028dd5558131269b884f2a380af", func := "hardtack/hardtacklaw08.SipRounds", spec := "sipRounds", unfollowed := true, recurses := true, apart := false }
def SipRoundsSaid : Prop := sipRoundsRow.holds Try.pinned (OpenSpec.ofChange sipRoundsSpec)

/-- ITS FALSE NEIGHBOUR: 'it returns false'. Refute it at one input. -/
def sipRoundsWrong : ChangeSpec := { name := "sipRounds", fn := fun _ => fun
  | [d1, d2, d3] => { results := [.lit (.bool false)], args := [d1, d2, d3] }
  | _ => none }
def SipRoundsWrongFalsely : Prop := sipRoundsRow.holds Try.pinned (OpenSpec.ofChange sipRoundsWrong)

/-- 'hardtacklaw08.SipSums': WHATEVER THE INPUT: true; the input reads as it did. -/
def sipSumsSpec : ChangeSpec := { name := "sipSums", fn := fun _ => fun
  | [d1, d2] => { results := [.lit (.bool true)], args := [d1, d2] }
  | _ => none }
def sipSumsRow : OpenClaim := { program := "ytolaiiiabacfcaa", sum := "eeaddf116a5f51b3f7f3cc4a4581974f70921028dd5558131269b884f2a380af", func := "hardtack/hardtacklaw08.SipSums", spec := "sipSums", unfollowed := true, recurses := true, apart := false }
def SipSumsSaid : Prop := sipSumsRow.holds Try.pinned (OpenSpec.ofChange sipSumsSpec)

/-- ITS FALSE NEIGHBOUR: 'it returns false'. Refute it at one input. -/
def sipSumsWrong : ChangeSpec := { name := "sipSums", fn := fun _ => fun
  | [d1, d2] => { results := [.lit (.bool false)], args := [d1, d2] }
  | _ => none }
def SipSumsWrongFalsely : Prop := sipSumsRow.holds Try.pinned (OpenSpec.ofChange sipSumsWrong)

/-- 'hardtacklaw08.SipNoTwo': WHATEVER THE INPUT: true; the input reads as it did. -/
def sipNoTwoSpec : ChangeSpec := { name := "sipNoTwo", fn := fun _ => fun
  | [d1, d2, d3, d4] => { results := [.lit (.bool true)], args := [d1, d2, d3, d4] }
  | _ => none }
def sipNoTwoRow : OpenClaim := { program := "ytolaiiiabacfcaa", sum := "eeaddf116a5f51b3f7f3cc4a4581974f70921028dd5558131269b884f2a380af", func := "hardtack/hardtacklaw08.SipNoTwo", spec := "sipNoTwo", unfollowed := true, recurses := true, apart := false }
def SipNoTwoSaid : Prop := sipNoTwoRow.holds Try.pinned (OpenSpec.ofChange sipNoTwoSpec)

/-- ITS FALSE NEIGHBOUR: 'it returns false'. Refute it at one input. -/
def sipNoTwoWrong : ChangeSpec := { name := "sipNoTwo", fn := fun _ => fun
  | [d1, d2, d3, d4] => { results := [.lit (.bool false)], args := [d1, d2, d3, d4] }
  | _ => none }
def SipNoTwoWrongFalsely : Prop := sipNoTwoRow.holds Try.pinned (OpenSpec.ofChange sipNoTwoWrong)

/-- 'hardtacklaw08.SipWords': WHATEVER THE INPUT: true; the input reads as it did. -/
def sipWordsSpec : ChangeSpec := { name := "sipWords", fn := fun _ => fun
  | [d1, d2, d3] => { results := [.lit (.bool true)], args := [d1, d2, d3] }
  | _ => none }
def sipWordsRow : OpenClaim := { program := "ytolaiiiabacfcaa", sum := "eeaddf116a5f51b3f7f3cc4a4581974f70921028dd5558131269b884f2a380af", func := "hardtack/hardtacklaw08.SipWords", spec := "sipWords", unfollowed := true, recurses := true, apart := false }
def SipWordsSaid : Prop := sipWordsRow.holds Try.pinned (OpenSpec.ofChange sipWordsSpec)

/-- ITS FALSE NEIGHBOUR: 'it returns false'. Refute it at one input. -/
def sipWordsWrong : ChangeSpec := { name := "sipWords", fn := fun _ => fun
  | [d1, d2, d3] => { results := [.lit (.bool false)], args := [d1, d2, d3] }
  | _ => none }
def SipWordsWrongFalsely : Prop := sipWordsRow.holds Try.pinned (OpenSpec.ofChange sipWordsWrong)

/- THE SECOND FORM. 'bulk': how many values and letters a reading holds, each counted each time it is reached (what is shared counts as often as it is met; a slice's spare places count too). A statement '..UptoSaid' is the law's where the arguments, and the package variables that the reading takes, are together of bulk at most 1048576: NARROWER than '..Said'. Prove '..Said' where nothing that the law and all that it calls make is longer than what came in: it says more and counts as full. Else prove '..UptoSaid'. A law counts once. -/
mutual
def uptoBulk {H : Type} : DataW H → Nat
  | .lit (.string bytes) => bytes.length + 1
  | .lit _ => 1
  | .nil => 1
  | .ptr d => uptoBulk d + 1
  | .slice elems spare => uptoBulkAll elems + uptoBulkAll spare + 1
  | .agg parts => uptoBulkAll parts + 1
  | .iface _ d => uptoBulk d + 1
  | .map entries => uptoBulkEntries entries + 1
  | .held _ => 1
def uptoBulkAll {H : Type} : List (DataW H) → Nat
  | [] => 0
  | d :: r => uptoBulk d + uptoBulkAll r
def uptoBulkEntries {H : Type} : List (Lit × DataW H) → Nat
  | [] => 0
  | x :: r => uptoBulkEntry x + uptoBulkEntries r
def uptoBulkEntry {H : Type} : Lit × DataW H → Nat
  | (.string bytes, d) => bytes.length + uptoBulk d + 1
  | (_, d) => uptoBulk d + 1
 end
def uptoSmall : (H : Type) → List (DataW H) → Bool := fun _ ds => decide (uptoBulkAll ds ≤ 1048576)
def OpenSpec.upto (s : _root_.Go.ChangeSpec) : _root_.Go.OpenSpec := { _root_.Go.OpenSpec.ofChange s with cond := some uptoSmall }

/-- 'hardtacklaw08.SipRounds', WHERE WHAT IT READS IS OF BULK AT MOST 1048576: true; the input reads as it did. -/
def sipRoundsUptoRow : OpenClaim := { program := "ytolaiiiabacfcaa", sum := "eeaddf116a5f51b3f7f3cc4a4581974f70921028dd5558131269b884f2a380af", func := "hardtack/hardtacklaw08.SipRounds", spec := "sipRounds", unfollowed := true, recurses := true, apart := false, narrowed := true }
def SipRoundsUptoSaid : Prop := sipRoundsUptoRow.holds Try.pinned (OpenSpec.upto sipRoundsSpec)

/-- 'hardtacklaw08.SipSums', WHERE WHAT IT READS IS OF BULK AT MOST 1048576: true; the input reads as it did. -/
def sipSumsUptoRow : OpenClaim := { program := "ytolaiiiabacfcaa", sum := "eeaddf116a5f51b3f7f3cc4a4581974f70921028dd5558131269b884f2a380af", func := "hardtack/hardtacklaw08.SipSums", spec := "sipSums", unfollowed := true, recurses := true, apart := false, narrowed := true }
def SipSumsUptoSaid : Prop := sipSumsUptoRow.holds Try.pinned (OpenSpec.upto sipSumsSpec)

/-- 'hardtacklaw08.SipNoTwo', WHERE WHAT IT READS IS OF BULK AT MOST 1048576: true; the input reads as it did. -/
def sipNoTwoUptoRow : OpenClaim := { program := "ytolaiiiabacfcaa", sum := "eeaddf116a5f51b3f7f3cc4a4581974f70921028dd5558131269b884f2a380af", func := "hardtack/hardtacklaw08.SipNoTwo", spec := "sipNoTwo", unfollowed := true, recurses := true, apart := false, narrowed := true }
def SipNoTwoUptoSaid : Prop := sipNoTwoUptoRow.holds Try.pinned (OpenSpec.upto sipNoTwoSpec)

/-- 'hardtacklaw08.SipWords', WHERE WHAT IT READS IS OF BULK AT MOST 1048576: true; the input reads as it did. -/
def sipWordsUptoRow : OpenClaim := { program := "ytolaiiiabacfcaa", sum := "eeaddf116a5f51b3f7f3cc4a4581974f70921028dd5558131269b884f2a380af", func := "hardtack/hardtacklaw08.SipWords", spec := "sipWords", unfollowed := true, recurses := true, apart := false, narrowed := true }
def SipWordsUptoSaid : Prop := sipWordsUptoRow.holds Try.pinned (OpenSpec.upto sipWordsSpec)

end Rows
end Go.Proofs.Ytolaiiiabacfcaa
