/- What label's split and Parse do. Conditions: for split a text of at most 4096 bytes; for Parse one that Go can hold. -/
import Derived.Test.YtmmjhdkoccpdjaaLabJ
namespace Go.Proofs.Ytmmjhdkoccpdjaa
open Go Go.RowKit Go.Shelf

theorem infoString : (Try.prog.info? 9).map (fun i => (i.zero, i.size, i.bytes)) = some (some (.string ⟨#[]⟩), 1, 16) := by kernel_rfl

def SplitPost (s : ByteArray) (w : World) (e : Ending) (w' : World) : Prop :=
  Ext w w' ∧ match splitK s with
  | none => e = .returned (.tuple #[.slice none 0 0, .int .i64 6])
  | some ls => ∃ v, e = .returned (.tuple #[v, .int .i64 0]) ∧ Strs w' v ls

theorem strs_of_row {w : World} {base : Nat} {v : Value} {ls : List ByteArray} (h : w.ownsRow base 9 1 v ls.length (ls.map Value.string)) : Strs w v ls := by
  rcases h.2 with ⟨rfl, h0⟩ | ⟨g, cap, cur, rfl, hg, hh, r⟩
  · exact .inl ⟨rfl, List.eq_nil_of_length_eq_zero h0⟩
  · refine .inr ⟨g, 0, cap, rfl, fun j hj => ?_⟩
    have := h.cells (g := g) rfl j (.string (ls[j]?.getD ⟨#[]⟩)) (by simp [hj])
    have hp : (⟨g, 0 + j, none⟩ : Addr) = ⟨g, j, none⟩ := by simp
    have hp' : (⟨g, 0, none⟩ : Addr).add j = ⟨g, j, none⟩ := by unfold Addr.add; split <;> simp_all
    rw [hp]
    rw [hp'] at this
    exact this

set_option maxRecDepth 100000 in
set_option maxHeartbeats 4000000 in
theorem split_any (s : ByteArray) (w : World) (hs : s.size ≤ 4096) :
    Calls Try.prog 107 #[.string s] w (SplitPost s w) := by
  obtain ⟨i0, hi, hz0, hz1, hz2⟩ := info_parts infoString
  go_enter Try.func107, Try.ntmps107
  go_wp2_with fail
  go_loopw [0, 4] (fun x v wr => ∃ (t : ByteArray) (l : List ByteArray), x = .string t ∧ wr.ownsRow w.heap.size 9 1 v l.length (l.map Value.string) ∧
      splitR s = (splitR t).map (fun y => l ++ y) ∧ t.size + l.length ≤ s.size ∧ Keeps (fun j => j < w.heap.size) w wr)
    (fun x _ _ => match x with | .string t => t.size | _ => 0)
  case atStart => exact ⟨s, [], rfl, World.ownsRow_nil _ _ _ _, by cases splitR s <;> simp, by simp, Keeps.refl _ _⟩
  case round =>
    obtain ⟨t, l, rfl, hown, hspl, hsz, hk⟩ := hrel
    obtain ⟨ao, cap, rfl⟩ := ownsRow_slice hown
    have Hspl := Lib.hid hspl; clear hspl
    by_cases h0 : t.size = 0
    · have Hs : Hid (splitR s = some l) := Lib.hid (by rw [Hspl.out, splitR_nil h0]; simp)
      have he : t.toList = [] := by rw [ByteArray.toList_eq]; exact List.eq_nil_of_length_eq_zero h0
      have Hown := Lib.hid hown; clear hown
      have Hk := Lib.hid hk; clear hk
      by_cases hl : l.length = 0
      · obtain rfl : l = [] := List.eq_nil_of_length_eq_zero hl
        clear hl
        go_wp2
        go_ret2
        refine ⟨Hk.out.ext fun _ h => h, ?_⟩
        have : splitK s = none := by rw [splitK, Hs.out]; rfl
        rw [this]
        rfl
      · have hl' : (((l.length : Nat) : Int) == 0) = false := by rw [beq_eq_false_iff_ne]; omega
        go_wp2
        go_ret2
        refine ⟨Hk.out.ext fun _ h => h, ?_⟩
        have : splitK s = some l := by rw [splitK, Hs.out]; simp only [Option.bind_some]; rw [if_neg (fun h => hl (by rw [h]; rfl))]
        rw [this]
        exact ⟨_, rfl, strs_of_row Hown.out⟩
    · have he : t.toList.isEmpty = false := by
        rw [ByteArray.toList_eq, List.isEmpty_eq_false_iff]
        intro h1
        have h2 : t.data.toList.length = t.size := rfl
        rw [h1] at h2
        simp at h2
        omega
      have HC := Lib.hid (cutLabel_any t wr (by omega))
      obtain ⟨x, r, y, hxy⟩ : ∃ x r y, cutR t = (x, r, y) := ⟨_, _, _, rfl⟩
      have hy6 : y = 0 ∨ y = 6 := by
        have : (cutR t).2.2 = y := by rw [hxy]
        rw [← this, cutR]
        split
        · right; rfl
        · split
          · right; rfl
          · left; rfl
      by_cases hy : y = 0
      · subst hy
        have hg := splitR_go h0 (by rw [hxy])
        rw [hxy] at hg HC
        simp only at hg
        clear hxy hy6
        have hg2 := hg.2
        have Hg := Lib.hid hg.1
        clear hg
        have Hown := Lib.hid hown; clear hown
        go_wp2_with fail
        refine HC.out.mono ?_
        rintro e w2 ⟨rfl, hx2⟩
        have hown2 := hx2.keeps.ownsRow Hown.out (fun _ _ => trivial)
        have Hk2 := Lib.hid (hk.trans (hx2.keeps.mono fun _ _ _ => trivial))
        have hwz : w.heap.size ≤ w2.heap.size := Hk2.out.size
        clear hx2 HC Hown hk
        go_wp2_with (at_builtin; refine wpList_append_own _ rfl _ _ 32 rfl w.heap.size 9 i0 (.string ⟨#[]⟩) 1 16 Try.underlying32 hi hz0 hz1 hz2 rfl (by decide) _ _ _ rfl (hown2.alloc _) ⟨w2.heap.size, 0, none⟩ 1 1 [.string x] rfl rfl ?c1 ?c2 ?c3 ?c4 ?c5 ?_)
        case c1 =>
          intro j u hj
          match j, hj with
          | 0, hj => simp at hj; subst hj; simp [Addr.add]
        case c2 => intro u hu; simp at hu; subst hu; rfl
        case c3 => unfold maxLen; omega
        case c4 => omega
        case c5 => simp; omega
        intro v' w3 hown' hgrow _
        have hrow := hown2.lt
        have Hk3 := Lib.hid ((Hk2.out.alloc (.cells #[.string x] 9)).grown hgrow (fun k e h => by have := (hrow k e).1; omega))
        have Hown' := Lib.hid hown'; clear hown'
        clear hgrow hrow hown2
        go_wp2
        go_roundw
        case rel =>
          refine ⟨r, l ++ [x], rfl, ?_, ?_, ?_, Hk3.out⟩
          · simpa using Hown'.out
          · rw [Hspl.out, Hg.out]; cases splitR r <;> simp
          · simp; omega
        case measure => show r.size < t.size; omega
      · obtain rfl : y = 6 := hy6.resolve_left hy
        have Hn : Hid (splitK s = none) := Lib.hid (by rw [splitK, Hspl.out, splitR_bad h0 (by rw [hxy]; simp)]; rfl)
        rw [hxy] at HC
        clear hxy hy6 hy hown
        go_wp2_with fail
        refine HC.out.mono ?_
        rintro e w2 ⟨rfl, hx2⟩
        have Hk2 := Lib.hid (hk.trans (hx2.keeps.mono fun _ _ _ => trivial))
        clear hx2 hk HC
        go_wp2
        go_ret2
        refine ⟨Hk2.out.ext fun _ h => h, ?_⟩
        rw [Hn.out]
        rfl

end Go.Proofs.Ytmmjhdkoccpdjaa
