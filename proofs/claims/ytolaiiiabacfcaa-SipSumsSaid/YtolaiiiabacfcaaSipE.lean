/- What layer 8's lives answers: true. Conditions: none. -/
import Derived.Test.YtolaiiiabacfcaaSipD
import Derived.ChangeKeysEq
namespace Go.Proofs.Ytolaiiiabacfcaa
open Go Go.RowKit Go.Shelf
attribute [local go_sem] Oper.semAt_some wide_fn wide_depth

def key16 : ByteArray := ⟨#[0, 1, 2, 3, 4, 5, 6, 7, 8, 9, 10, 11, 12, 13, 14, 15]⟩
def txt15 : ByteArray := ⟨#[0, 1, 2, 3, 4, 5, 6, 7, 8, 9, 10, 11, 12, 13, 14]⟩
theorem sum_doc : sumM key16 txt15 = 11613035633349379557 := by
  unfold sumM
  rw [ext_list, ext_list]
  decide +kernel
theorem words_a : wordsB ⟨#[97]⟩ = [72057594037928033] := by decide +kernel
theorem bytes_513 : bytesS 513 = ⟨#[1, 2, 0, 0, 0, 0, 0, 0]⟩ := by decide +kernel

theorem eq4 (a b c d a' b' c' d' : Int) (w : World) :
    (Op.equalIn 10000 23 (.agg #[.int .u64 a, .int .u64 b, .int .u64 c, .int .u64 d]) (.agg #[.int .u64 a', .int .u64 b', .int .u64 c', .int .u64 d'])).run Try.prog w = .ok (a == a' && (b == b' && (c == c' && d == d'))) w := by
  have u1 := Try.underlying22
  have a1 := Try.isAgg22
  have z1 := Try.sizeOf22
  obtain ⟨i0, hi, _, hz1, _⟩ := info_parts infoU64
  have hc : Try.prog.cellsOf 22 = 1 := by kernel_rfl
  rw [show (10000 : Nat) = 9999 + 1 from rfl, run_equalIn_array w 9999 _ _ Try.underlying23 hi, hc, show List.range 4 = [0, 1, 2, 3] from rfl]
  simp only [Op.eqItems]
  go_simp
  by_cases h1 : a = a' <;> by_cases h2 : b = b' <;> by_cases h3 : c = c' <;> by_cases h4 : d = d' <;> simp [h1, h2, h3, h4]

set_option maxRecDepth 100000 in
set_option maxHeartbeats 2000000 in
theorem L8.lives_any (w : World) : Calls Try.prog 9 #[] w fun e w' => e = .returned (.bool true) ∧ Ext w w' := by
  have C1 := fun W => Sum_any key16 txt15 W
  rw [sumR, if_pos (by decide), if_pos (by decide), sum_doc] at C1
  have C2 := fun W => Sum_any ⟨#[97, 98, 99]⟩ ⟨#[]⟩ W
  rw [sumR, if_neg (by decide)] at C2
  have C3 := fun W => Value_any ⟨#[1, 2, 0, 0, 0, 0, 0, 0]⟩ W
  rw [if_pos (by decide), show lowB (⟨#[1, 2, 0, 0, 0, 0, 0, 0]⟩ : ByteArray).data.toList = 513 by decide +kernel] at C3
  have C4 := fun W => Words_any ⟨#[97]⟩ W (by decide)
  rw [words_a] at C4
  have C5 := fun W => Bytes_any 513 W
  rw [bytes_513] at C5
  have C6 := fun W => Round_any ⟨1, 2, 3, 4⟩ 0 W ⟨by decide, by decide, by decide, by decide⟩ (by decide) (by decide)
  have h0 : (min (0 : Int) 64).toNat = 0 := rfl
  rw [h0] at C6
  simp only [roundsM, St.agg, St.list, encU, List.map_cons, List.map_nil] at C6
  simp only [Int.cast_ofNat_Int] at C1 C3 C5 C6
  have D1 := Lib.hid C1
  have D2 := Lib.hid C2
  have D3 := Lib.hid C3
  have D4 := Lib.hid C4
  have D5 := Lib.hid C5
  have D6 := Lib.hid C6
  have HX := Lib.hid (Ext.refl w)
  clear C1 C2 C3 C4 C5 C6 h0
  go_enter Try.func9, Try.ntmps9
  go_wp2_with fail
  refine (D1.out _).mono ?_
  rintro e w1 ⟨rfl, hx⟩
  have H1 := Lib.hid (HX.out.trans hx); clear hx HX
  go_wp2_with fail
  refine (D2.out _).mono ?_
  rintro e w2 ⟨rfl, hx⟩
  have H2 := Lib.hid (H1.out.trans hx); clear hx H1
  go_wp2_with fail
  refine (D3.out _).mono ?_
  rintro e w' ⟨rfl, rfl⟩
  go_wp2_with fail
  refine (D4.out _).mono ?_
  rintro e w3 ⟨v, rfl, hown, hx⟩
  obtain ⟨g, cap, rfl⟩ := ownsRow_succ (k := 0) hown
  have hc : w3.cell? ⟨g, 0, none⟩ = some (.int .u64 72057594037928033) := by
    have := hown.cells (g := g) rfl 0 (.int .u64 (72057594037928033 : Nat)) rfl
    simpa [Addr.add] using this
  have H3 := Lib.hid (H2.out.trans hx); clear hx H2 hown
  go_wp2_with fail
  refine (D5.out _).mono ?_
  rintro e w4 ⟨rfl, hx⟩
  have hc4 := hx.keeps.cell hc trivial
  have H4 := Lib.hid (H3.out.trans hx); clear hx H3 hc
  go_wp2_with fail
  refine (D6.out _).mono ?_
  rintro e w5 ⟨rfl, hx⟩
  have H5 := Lib.hid (H4.out.trans hx); clear hx H4 hc4
  have heq := eq4 1 2 3 4 1 2 3 4
  go_wp2_with fail
  go_ret
  exact ⟨rfl, H5.out⟩
end Go.Proofs.Ytolaiiiabacfcaa
