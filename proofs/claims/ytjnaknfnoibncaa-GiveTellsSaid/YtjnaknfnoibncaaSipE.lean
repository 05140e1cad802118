/- What layer 8's lives answers: true. Conditions: none. -/
import Derived.Test.YtjnaknfnoibncaaSipD
import Derived.ChangeKeysEq
namespace Go.Proofs.Ytjnaknfnoibncaa
open Go Go.RowKit Go.Shelf
attribute [local go_sem] Oper.semAt_some wide_fn wide_depth

def key16 : ByteArray := ⟨#[0, 1, 2, 3, 4, 5, 6, 7, 8, 9, 10, 11, 12, 13, 14, 15]⟩
def txt15 : ByteArray := ⟨#[0, 1, 2, 3, 4, 5, 6, 7, 8, 9, 10, 11, 12, 13, 14]⟩
theorem sum_doc : sumM key16 txt15 = 11613035633349379557 := by
  unfold sumM
  rw [ext_list, ext_list]
  decide +kernel
theorem words_a : wordsB ⟨#[97]⟩ = [72057594037928033] := by decide +kernel
theorem bytes_513 : bytesS 513 = ⟨#[1, 2, 0, 0, 0, 0, 0, 0]⟩ := by decide +kernel

theorem eq4 (a b c d a' b' c' d' : Int) (w : World) :
    (Op.equalIn 10000 119 (.agg #[.int .u64 a, .int .u64 b, .int .u64 c, .int .u64 d]) (.agg #[.int .u64 a', .int .u64 b', .int .u64 c', .int .u64 d'])).run Try.prog w = .ok (a == a' && (b == b' && (c == c' && d == d'))) w := by
  have u1 := Try.underlying44
  have a1 := Try.isAgg44
  have z1 := Try.sizeOf44
  obtain ⟨i0, hi, _, hz1, _⟩ := info_parts infoU64
  have hc : Try.prog.cellsOf 44 = 1 := by kernel_rfl
  rw [show (10000 : Nat) = 9999 + 1 from rfl, run_equalIn_array w 9999 _ _ Try.underlying119 hi, hc, show List.range 4 = [0, 1, 2, 3] from rfl]
  simp only [Op.eqItems]
  go_simp
  by_cases h1 : a = a' <;> by_cases h2 : b = b' <;> by_cases h3 : c = c' <;> by_cases h4 : d = d' <;> simp [h1, h2, h3, h4]

end Go.Proofs.Ytjnaknfnoibncaa
