/- What label's Parse does. Conditions: a text that Go can hold. -/
import Derived.Test.YtmmjhdkoccpdjaaLabK
namespace Go.Proofs.Ytmmjhdkoccpdjaa
open Go Go.RowKit Go.Shelf

theorem splitR_len : ∀ (n : Nat) (t : ByteArray), t.size ≤ n → ∀ l, splitR t = some l → l.length ≤ t.size ∧ ∀ x ∈ l, x.size ≤ t.size := by
  intro n
  induction n with
  | zero =>
    intro t ht l h
    rw [splitR_nil (by omega)] at h
    cases h
    simp
  | succ n ih =>
    intro t ht l h
    by_cases h0 : t.size = 0
    · rw [splitR_nil h0] at h; cases h; simp
    · by_cases hc : (cutR t).2.2 = 0
      · obtain ⟨h1, h2, h3⟩ := splitR_go h0 hc
        rw [h1] at h
        obtain ⟨l', h4, h5⟩ := Option.map_eq_some_iff.1 h
        subst h5
        obtain ⟨h6, h7⟩ := ih _ (by omega) l' h4
        refine ⟨by simp only [List.length_cons]; omega, fun x hx => ?_⟩
        rcases List.mem_cons.1 hx with rfl | hx
        · omega
        · have := h7 x hx; omega
      · rw [splitR_bad h0 hc] at h; cases h

set_option maxRecDepth 100000 in
set_option maxHeartbeats 4000000 in
theorem Parse_any (s : ByteArray) (w : World) (hs : s.size ≤ maxLen) :
    Calls Try.prog 70 #[.string s] w fun e w' => e = .returned (.tuple #[.string (parseR s).1, .int .i64 (parseR s).2]) ∧ Ext w w' := by
  unfold maxLen at hs
  by_cases hbig : 2048 < s.size
  · have Hp : Hid (parseR s = (⟨#[]⟩, 7)) := Lib.hid (by rw [parseR, if_pos hbig])
    go_enter Try.func70, Try.ntmps70
    go_wp2
    go_ret2
    exact ⟨by rw [Hp.out]; rfl, Ext.refl _⟩
  · cases hdot : (s.toList == [46]) with
    | true =>
      have Hp : Hid (parseR s = (⟨#[0]⟩, 0)) := Lib.hid (by rw [parseR, if_neg hbig, if_pos hdot])
      go_enter Try.func70, Try.ntmps70
      go_wp2
      go_ret2
      exact ⟨by rw [Hp.out]; rfl, Ext.refl _⟩
    | false =>
      have HS := Lib.hid (split_any s w (by omega))
      cases hk : splitK s with
      | none =>
        have Hp : Hid (parseR s = (⟨#[]⟩, 6)) := Lib.hid (by rw [parseR, if_neg hbig, if_neg (by rw [hdot]; simp), hk])
        have Hk := Lib.hid hk; clear hk
        go_enter Try.func70, Try.ntmps70
        go_wp2_with fail
        refine HS.out.mono ?_
        rintro e w2 ⟨hx, he⟩
        rw [Hk.out] at he
        subst he
        have Hx := Lib.hid hx; clear hx
        clear HS
        go_wp2
        go_ret2
        exact ⟨by rw [Hp.out]; rfl, Hx.out⟩
      | some ls =>
        have hls : splitR s = some ls := by
          rw [splitK] at hk
          cases h : splitR s with
          | none => rw [h] at hk; cases hk
          | some l =>
            rw [h] at hk
            simp only [Option.bind_some] at hk
            split at hk
            · cases hk
            · cases hk; rfl
        obtain ⟨hlen, hsz⟩ := splitR_len _ s (Nat.le_refl _) ls hls
        have hp : parseR s = if ls.any (fun x => decide (63 < x.size)) = true then (⟨#[]⟩, 7) else joinR ⟨#[0]⟩ ls := by
          rw [parseR, if_neg hbig, if_neg (by rw [hdot]; simp), hk]
        have Hp := Lib.hid hp; clear hp
        have Hk := Lib.hid hk; clear hk
        have Hsz := Lib.hid hsz; clear hsz hls
        go_enter Try.func70, Try.ntmps70
        go_wp2_with fail
        refine HS.out.mono ?_
        rintro e w2 ⟨hx, he⟩
        rw [Hk.out] at he
        obtain ⟨v, he, hstrs⟩ := he
        subst he
        have Hx := Lib.hid hx; clear hx
        clear HS
        have HJ : Hid (Calls Try.prog 72 #[.string ⟨#[0]⟩, v] w2 fun e w' => e = .returned (.tuple #[.string (joinR ⟨#[0]⟩ ls).1, .int .i64 (joinR ⟨#[0]⟩ ls).2]) ∧ Ext w2 w') :=
          Lib.hid (Join_any ⟨#[0]⟩ v ls w2 (by decide) hstrs (by omega) (fun x hx => by have := Hsz.out x hx; unfold maxLen; omega))
        obtain ⟨ao, cap, rfl⟩ : ∃ ao cap, v = .slice ao ls.length cap := by
          rcases hstrs with ⟨rfl, rfl⟩ | ⟨b, off, cap, rfl, _⟩
          · exact ⟨_, _, rfl⟩
          · exact ⟨_, _, rfl⟩
        have Hsv : Hid (∀ k, k < ls.length → ∃ b off, ao = some ⟨b, off, none⟩ ∧ w2.cell? ⟨b, off + k, none⟩ = some (.string (ls[k]?.getD ⟨#[]⟩))) := Lib.hid fun k hk => by
          rcases hstrs with ⟨_, rfl⟩ | ⟨b, off, cap', he, hc⟩
          · simp at hk
          · cases he; exact ⟨b, off, rfl, hc k hk⟩
        clear hstrs
        go_wp2_with fail
        go_loop [23] (fun i => ∃ k : Nat, k ≤ ls.length ∧ i = .int .i64 k ∧ (ls.take k).any (fun x => decide (63 < x.size)) = false)
          (fun i => ls.length - (intOf i).toNat)
        case atStart => exact ⟨0, Nat.zero_le _, rfl, by simp⟩
        case round =>
          obtain ⟨k, hk, rfl, hany⟩ := hrel
          by_cases hlt : k < ls.length
          · obtain ⟨b, off, rfl, hc⟩ := Hsv.out k hlt
            have hts := take_snoc ls k ⟨#[]⟩ hlt
            have hmem : (ls[k]?.getD ⟨#[]⟩) ∈ ls := by rw [List.getElem?_eq_getElem hlt]; exact List.getElem_mem hlt
            obtain ⟨x, hx⟩ : ∃ x, ls[k]?.getD ⟨#[]⟩ = x := ⟨_, rfl⟩
            rw [hx] at hc hts hmem
            clear hx
            have hxs := Hsz.out x hmem
            have Hts := Lib.hid hts; clear hts
            have Hany := Lib.hid hany; clear hany
            have Hmem := Lib.hid hmem; clear hmem
            by_cases hx63 : 63 < x.size
            · have Hp' : Hid (parseR s = (⟨#[]⟩, 7)) := Lib.hid (by
                rw [Hp.out, if_pos (List.any_eq_true.2 ⟨x, Hmem.out, decide_eq_true hx63⟩)])
              go_wp2
              go_ret2
              exact ⟨by rw [Hp'.out]; rfl, Hx.out⟩
            · go_wp2
              go_round
              case rel => exact ⟨k + 1, by omega, by simp, by rw [Hts.out, List.any_append, Hany.out]; simp; omega⟩
              case measure => simp [intOf]; omega
          · obtain rfl : k = ls.length := by omega
            rw [List.take_length] at hany
            have Hp' : Hid (parseR s = joinR ⟨#[0]⟩ ls) := Lib.hid (by rw [Hp.out, if_neg (by rw [hany]; simp)])
            clear hany hlt hk
            go_wp2_with fail
            refine HJ.out.mono ?_
            rintro e w3 ⟨rfl, hx3⟩
            have Hx3 := Lib.hid hx3; clear hx3
            clear HJ
            go_wp2
            go_ret2
            exact ⟨by rw [Hp'.out]; rfl, Hx.out.trans Hx3.out⟩

end Go.Proofs.Ytmmjhdkoccpdjaa
