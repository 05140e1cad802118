/- What the document's Same tells of two hashes of one table. Conditions: none. -/
import Derived.Test.YtjnaknfnoibncaaKeyRefA
import Derived.BigQuiet
import Derived.Deep.QuietTactic
import Derived.Laws.StructEq
namespace Go.Proofs.Ytjnaknfnoibncaa
open Go Go.RowKit Go.Shelf
attribute [local go_sem] Oper.semAt_some wide_fn wide_depth

theorem neqS (k s : ByteArray) (n : Int) (w : World) : (binOp .neq 91 (.agg #[.string k, .string s, .int .u64 n]) (.agg #[.string k, .string s, .int .u64 n])).run Try.prog w = .ok (.bool false) w := by
  have u1 := Try.underlying9
  have a1 := Try.isAgg9
  have z1 := Try.sizeOf9
  have u2 := Try.underlying44
  have a2 := Try.isAgg44
  have z2 := Try.sizeOf44
  have hS : Try.prog.underlying 91 = some (.struct (Try.prog.fieldsOf 91)) := by kernel_rfl
  have hp : Try.prog.stoodInHeld 91 = false := by kernel_rfl
  rw [run_neq_struct, show (10000 : Nat) = 9999 + 1 from rfl, run_equalIn_agg w 9999 91 _ _ hS hp]
  simp only [Program.fieldsOf, Try.underlying91]
  go_simp

attribute [local irreducible] wpStill
end Go.Proofs.Ytjnaknfnoibncaa
