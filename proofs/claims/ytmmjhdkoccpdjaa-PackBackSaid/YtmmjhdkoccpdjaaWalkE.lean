/- What slices.Reverse does with a row of strings that its caller owns. Conditions: that row. -/
import Derived.Test.YtmmjhdkoccpdjaaWalkD
import Derived.Laws.OwnMore
namespace Go.Proofs.Ytmmjhdkoccpdjaa
open Go Go.RowKit Go.Shelf

def swapped (ys : List ByteArray) (i j : Nat) : List ByteArray := (ys.set i (ys[j]?.getD ⟨#[]⟩)).set j (ys[i]?.getD ⟨#[]⟩)
theorem swapped_len (ys : List ByteArray) (i j : Nat) : (swapped ys i j).length = ys.length := by simp [swapped]
theorem swapped_at (ys : List ByteArray) {i j : Nat} (hi : i < ys.length) (hj : j < ys.length) (k : Nat) :
    (swapped ys i j)[k]? = if k = j then ys[i]? else if k = i then ys[j]? else ys[k]? := by
  have e1 : some (ys[i]?.getD ⟨#[]⟩) = ys[i]? := by rw [List.getElem?_eq_getElem hi]; rfl
  have e2 : some (ys[j]?.getD ⟨#[]⟩) = ys[j]? := by rw [List.getElem?_eq_getElem hj]; rfl
  unfold swapped
  by_cases h1 : k = j
  · subst h1
    rw [if_pos rfl, List.getElem?_set_self (by simpa using hj), e1]
  · rw [if_neg h1, List.getElem?_set_ne (fun h => h1 h.symm)]
    by_cases h2 : k = i
    · subst h2
      rw [if_pos rfl, List.getElem?_set_self hi, e2]
    · rw [if_neg h2, List.getElem?_set_ne (fun h => h2 h.symm)]

set_option maxRecDepth 100000 in
set_option maxHeartbeats 4000000 in
theorem Reverse_any (base : Nat) (v : Value) (xs : List ByteArray) (w : World) (h : w.ownsRow base 9 1 v xs.length (xs.map Value.string)) (hlen : xs.length ≤ 4294967296) :
    Calls Try.prog 117 #[v] w fun e w' => (∃ u, e = .returned u) ∧ w'.ownsRow base 9 1 v xs.length (xs.reverse.map Value.string) ∧ Keeps (fun k => k < base) w w' := by
  obtain ⟨ao, cap, rfl⟩ := ownsRow_slice h
  obtain ⟨n, hn⟩ : ∃ n, xs.length = n := ⟨_, rfl⟩
  rw [hn] at h hlen ⊢
  have H := Lib.hid h; clear h
  have Hn := Lib.hid hn; clear hn
  have hmx : Try.prog.follows .mixedOrders = true := by kernel_rfl
  have q1 : IntKind.i64.wrap ((n : Int) - 1) = (n : Int) - 1 := IntWalk.i64_in _ (by omega)
  go_enter Try.func117, Try.ntmps117
  go_wp2_with fail
  go_loopw [2, 3] (fun s2 s3 wr => ∃ (i : Nat) (ys : List ByteArray), s2 = .int .i64 (i : Int) ∧ s3 = .int .i64 ((n : Int) - 1 - (i : Int)) ∧ ys.length = n ∧ wr.ownsRow base 9 1 (.slice ao n cap) n (ys.map Value.string) ∧
      Keeps (fun k => k < base) w wr ∧ i ≤ n ∧ ∀ k, k < n → ys[k]? = if k < i ∨ n ≤ k + i then xs[n - 1 - k]? else xs[k]?)
    (fun s2 _ _ => n - (intOf s2).toNat)
  case atStart => exact ⟨0, xs, rfl, by simp, Hn.out, H.out, Keeps.refl _ _, Nat.zero_le _, fun k hk => by rw [if_neg (by omega)]⟩
  case round =>
    obtain ⟨i, ys, rfl, rfl, hyl, hown, hk, hin, hys⟩ := hrel
    by_cases hlt : (i : Int) < (n : Int) - 1 - (i : Int)
    · obtain ⟨j, hj⟩ : ∃ j : Nat, (n : Int) - 1 - (i : Int) = (j : Int) := ⟨n - 1 - i, by omega⟩
      rw [hj] at hlt ⊢
      obtain ⟨g, rfl⟩ : ∃ g, ao = some ⟨g, 0, none⟩ := by
        rcases hown.2 with ⟨h1, _⟩ | ⟨g, _, _, h1, _⟩
        · cases h1; omega
        · cases h1; exact ⟨_, rfl⟩
      have hg : base ≤ g := (hown.lt g rfl).1
      obtain ⟨x, hx⟩ : ∃ x, ys[i]?.getD ⟨#[]⟩ = x := ⟨_, rfl⟩
      obtain ⟨y, hy⟩ : ∃ y, ys[j]?.getD ⟨#[]⟩ = y := ⟨_, rfl⟩
      have ci := hown.cellAt i (by omega)
      have cj := hown.cellAt j (by omega)
      have fi := hown.frozenAt i
      have fj := hown.frozenAt j
      rw [List.getElem?_map, List.getElem?_eq_getElem (by omega), Option.map_some] at ci cj
      rw [List.getElem?_eq_getElem (by omega), Option.getD_some] at hx hy
      rw [hx] at ci
      rw [hy] at cj
      have q2 : IntKind.i64.wrap ((i : Int) + 1) = ((i + 1 : Nat) : Int) := by rw [IntWalk.i64_in _ (by omega)]; rfl
      have q3 : IntKind.i64.wrap ((j : Int) - 1) = (j : Int) - 1 := IntWalk.i64_in _ (by omega)
      have hst := (hown.stored i (.string y)).1.stored j (.string x)
      have hsw : ((ys.map Value.string).set i (.string y)).set j (.string x) = (swapped ys i j).map Value.string := by
        rw [swapped, List.getElem?_eq_getElem (show i < ys.length by omega), List.getElem?_eq_getElem (show j < ys.length by omega), Option.getD_some, Option.getD_some, hx, hy]
        simp [List.map_set]
      rw [hsw] at hst
      have Hst := Lib.hid hst.1
      have Hk := Lib.hid ((hk.setCell (p := ⟨g, i, none⟩) (by simp; omega) (.string y)).setCell (p := ⟨g, j, none⟩) (by simp; omega) (.string x))
      have Hys := Lib.hid hys
      have Hyl := Lib.hid hyl
      have Hown := Lib.hid hown
      have Hj := Lib.hid hj
      clear hst hsw hk hys hyl hx hy hown
      go_wp2_with fail
      go_region_o
      go_wp2
      go_roundw
      case rel =>
        refine ⟨i + 1, swapped ys i j, by simp, ?_, by rw [swapped_len]; exact Hyl.out, Hst.out.drew, Hk.out.drew, by omega, ?_⟩
        · have := Hj.out
          rw [show (n : Int) - 1 - ((i + 1 : Nat) : Int) = (j : Int) - 1 by omega]
        · intro k hkn
          have hj' := Hj.out
          have hyl := Hyl.out
          rw [swapped_at ys (show i < ys.length by omega) (show j < ys.length by omega) k, Hys.out k hkn, Hys.out i (by omega), Hys.out j (by omega)]
          by_cases h1 : k = j
          · rw [if_pos h1, if_neg (by omega), if_pos (by omega), show n - 1 - k = i by omega]
          · rw [if_neg h1]
            by_cases h2 : k = i
            · rw [if_pos h2, if_neg (by omega), if_pos (by omega), show n - 1 - k = j by omega]
            · rw [if_neg h2]
              by_cases h3 : k < i ∨ n ≤ k + i
              · rw [if_pos h3, if_pos (by omega)]
              · rw [if_neg h3, if_neg (by omega)]
      case measure => simp [intOf]; omega
    · have hn1 : decide ((i : Int) < (n : Int) - 1 - (i : Int)) = false := decide_eq_false hlt
      have Hk := Lib.hid hk
      have Hown := Lib.hid hown
      have Hys := Lib.hid hys
      clear hk hown hys
      go_wp2
      go_end0
      refine ⟨⟨_, rfl⟩, ?_, Hk.out⟩
      have : ys = xs.reverse := by
        apply List.ext_getElem?
        intro k
        by_cases hkn : k < n
        · rw [Hys.out k hkn, List.getElem?_reverse (by rw [Hn.out]; exact hkn), Hn.out]
          split
          · rfl
          · rw [show n - 1 - k = k by omega]
        · rw [List.getElem?_eq_none (by omega), List.getElem?_eq_none (by rw [List.length_reverse, Hn.out]; omega)]
      have h2 := Hown.out
      rw [this] at h2
      simpa using h2

end Go.Proofs.Ytmmjhdkoccpdjaa
