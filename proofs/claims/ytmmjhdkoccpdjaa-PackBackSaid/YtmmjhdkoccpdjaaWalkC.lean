/- What walk's Deepest and the plain comparison of two lists of texts do. Conditions: strings that Go can hold; slices that hold them. -/
import Derived.Test.YtmmjhdkoccpdjaaWalkB
namespace Go.Proofs.Ytmmjhdkoccpdjaa
open Go Go.RowKit Go.Shelf

theorem text_inj {a b : ByteArray} (h : a.toList = b.toList) : a = b := by
  rw [ByteArray.toList_eq, ByteArray.toList_eq] at h
  exact ByteArray.ext (Array.toList_inj.1 h)
theorem Strs.open {W : World} {sv : Value} {ls : List ByteArray} (h : Strs W sv ls) :
    ∃ ao cap, sv = .slice ao ls.length cap ∧ ∀ k, k < ls.length → ∃ b off, ao = some ⟨b, off, none⟩ ∧ W.cell? ⟨b, off + k, none⟩ = some (.string (ls[k]?.getD ⟨#[]⟩)) := by
  rcases h with ⟨rfl, rfl⟩ | ⟨b, off, cap, rfl, hc⟩
  · exact ⟨_, _, rfl, fun k hk => by simp at hk⟩
  · exact ⟨_, _, rfl, fun k hk => ⟨b, off, rfl, hc k hk⟩⟩

def deepStep (n : ByteArray) (p : ByteArray × Int) (x : ByteArray) : ByteArray × Int :=
  if p.2 < ((labelsB x).length : Int) ∧ withinB n x = true then (x, ((labelsB x).length : Int)) else p
def deepF (n : ByteArray) (ls : List ByteArray) : ByteArray × Int := ls.foldl (deepStep n) (⟨#[]⟩, -1)
def deepR (n : ByteArray) (ls : List ByteArray) : ByteArray × Int :=
  if isName n = false then (⟨#[]⟩, 2) else if (deepF n ls).2 < 0 then (⟨#[]⟩, 3) else ((deepF n ls).1, 0)

theorem deep_snoc (n : ByteArray) (l : List ByteArray) (x : ByteArray) : deepF n (l ++ [x]) = deepStep n (deepF n l) x := by
  rw [deepF, List.foldl_append]; rfl

set_option maxRecDepth 100000 in
set_option maxHeartbeats 4000000 in
theorem Deepest_any (n : ByteArray) (sv : Value) (ls : List ByteArray) (w : World) (hs : n.size ≤ maxLen) (hsv : Strs w sv ls) (hlen : ls.length ≤ 140737488355328) (hll : ∀ x ∈ ls, x.size ≤ maxLen) :
    Calls Try.prog 32 #[.string n, sv] w fun e w' => e = .returned (.tuple #[.string (deepR n ls).1, .int .i64 (deepR n ls).2]) ∧ Ext w w' := by
  have CA := Lib.hid fun W => Check_any n W hs
  have HX := Lib.hid (Ext.refl w)
  obtain ⟨ao, cap, rfl, hsv2⟩ := hsv.open
  have Hsv := Lib.hid hsv2; clear hsv2 hsv
  have Hll := Lib.hid hll; clear hll
  cases hn : isName n with
  | false =>
    rw [chk_none hn] at CA
    have Hn := Lib.hid hn; clear hn
    go_enter Try.func32, Try.ntmps32
    go_wp2_with (first
      | ((with_reducible refine (CA.out _).mono ?_); rintro e w' ⟨rfl, hx⟩; have HX := Lib.hid (HX.out.trans hx); clear hx))
    go_ret2
    exact ⟨by rw [deepR, if_pos Hn.out]; rfl, HX.out⟩
  | true =>
    rw [chk_name hn] at CA
    have Hn := Lib.hid hn; clear hn
    go_enter Try.func32, Try.ntmps32
    go_wp2_with (first
      | ((with_reducible refine (CA.out _).mono ?_); rintro e w' ⟨rfl, hx⟩; have HX := Lib.hid (HX.out.trans hx); clear hx))
    go_loopw [6, 7, 16] (fun d m i wr => ∃ k : Nat, k ≤ ls.length ∧ i = .int .i64 k ∧ d = .string (deepF n (ls.take k)).1 ∧ m = .int .i64 (deepF n (ls.take k)).2 ∧ Ext w wr)
      (fun _ _ i _ => ls.length - (intOf i).toNat)
    case atStart => exact ⟨0, Nat.zero_le _, rfl, rfl, rfl, HX.out⟩
    case round =>
      obtain ⟨k, hk, rfl, rfl, rfl, hx⟩ := hrel
      clear HX
      have HX := Lib.hid hx; clear hx
      by_cases hlt : k < ls.length
      · obtain ⟨b, off, rfl, hc⟩ := Hsv.out k hlt
        replace hc := HX.out.keeps.cell hc trivial
        have hts := take_snoc ls k ⟨#[]⟩ hlt
        have hmem : (ls[k]?.getD ⟨#[]⟩) ∈ ls := by rw [List.getElem?_eq_getElem hlt]; exact List.getElem_mem hlt
        obtain ⟨x, hx⟩ : ∃ x, ls[k]?.getD ⟨#[]⟩ = x := ⟨_, rfl⟩
        rw [hx] at hc hts hmem
        clear hx
        have hxs := Hll.out x hmem
        have CC := Lib.hid fun W => Count_any x W hxs
        have CW := Lib.hid fun W => Within_any n x W hs hxs
        have hst : deepF n (ls.take (k + 1)) = deepStep n (deepF n (ls.take k)) x := by rw [hts, deep_snoc]
        obtain ⟨d, m, hdm⟩ : ∃ d m, deepF n (ls.take k) = (d, m) := ⟨_, _, rfl⟩
        rw [hdm] at hst ⊢
        simp only [deepStep] at hst
        have Hst := Lib.hid hst
        obtain ⟨c, hcc⟩ : ∃ c : Int, ((labelsB x).length : Int) = c := ⟨_, rfl⟩
        rw [hcc] at CC Hst
        clear hst hts hdm hmem hxs hcc
        by_cases hmc : m < c
        · cases hw : withinB n x with
          | true =>
            rw [hw] at CW Hst
            have Hst' : Hid (deepF n (ls.take (k + 1)) = (x, c)) := Lib.hid (by rw [Hst.out, if_pos ⟨hmc, rfl⟩])
            clear Hst hw
            go_wp2_with (first
              | ((with_reducible refine (CC.out _).mono ?_); rintro e w' ⟨rfl, hx⟩; have HX := Lib.hid (HX.out.trans hx); clear hx)
              | ((with_reducible refine (CW.out _).mono ?_); rintro e w' ⟨rfl, hx⟩; have HX := Lib.hid (HX.out.trans hx); clear hx))
            go_roundw
            case rel => exact ⟨k + 1, by omega, by simp, by rw [Hst'.out], by rw [Hst'.out], HX.out⟩
            case measure => simp [intOf]; omega
          | false =>
            rw [hw] at CW Hst
            have Hst' : Hid (deepF n (ls.take (k + 1)) = (d, m)) := Lib.hid (by rw [Hst.out, if_neg (by simp)])
            clear Hst hw
            go_wp2_with (first
              | ((with_reducible refine (CC.out _).mono ?_); rintro e w' ⟨rfl, hx⟩; have HX := Lib.hid (HX.out.trans hx); clear hx)
              | ((with_reducible refine (CW.out _).mono ?_); rintro e w' ⟨rfl, hx⟩; have HX := Lib.hid (HX.out.trans hx); clear hx))
            go_roundw
            case rel => exact ⟨k + 1, by omega, by simp, by rw [Hst'.out], by rw [Hst'.out], HX.out⟩
            case measure => simp [intOf]; omega
        · have Hst' : Hid (deepF n (ls.take (k + 1)) = (d, m)) := Lib.hid (by rw [Hst.out, if_neg (by simp [hmc])])
          clear Hst
          go_wp2_with (first
            | ((with_reducible refine (CC.out _).mono ?_); rintro e w' ⟨rfl, hx⟩; have HX := Lib.hid (HX.out.trans hx); clear hx)
            | ((with_reducible refine (CW.out _).mono ?_); rintro e w' ⟨rfl, hx⟩; have HX := Lib.hid (HX.out.trans hx); clear hx))
          go_roundw
          case rel => exact ⟨k + 1, by omega, by simp, by rw [Hst'.out], by rw [Hst'.out], HX.out⟩
          case measure => simp [intOf]; omega
      · obtain rfl : k = ls.length := by omega
        rw [List.take_length]
        obtain ⟨d, m, hdm⟩ : ∃ d m, deepF n ls = (d, m) := ⟨_, _, rfl⟩
        have Hd := Lib.hid hdm
        rw [hdm]
        clear hdm hlt hk
        by_cases hm : m < 0
        · go_wp2
          go_ret2
          exact ⟨by rw [deepR, if_neg (by rw [Hn.out]; simp), Hd.out, if_pos hm]; rfl, HX.out⟩
        · go_wp2
          go_ret2
          exact ⟨by rw [deepR, if_neg (by rw [Hn.out]; simp), Hd.out, if_neg (by omega)]; rfl, HX.out⟩

set_option maxRecDepth 100000 in
set_option maxHeartbeats 4000000 in
theorem SameTexts_any (u v : Value) (xs ys : List ByteArray) (w : World) (hu : Strs w u xs) (hv : Strs w v ys) (ha : xs.length ≤ 140737488355328) :
    Calls Try.prog 29 #[u, v] w fun e w' => e = .returned (.bool (decide (xs = ys))) ∧ Ext w w' := by
  obtain ⟨ao, cap, rfl, hu2⟩ := hu.open
  obtain ⟨bo, cap2, rfl, hv2⟩ := hv.open
  have Hu := Lib.hid hu2; clear hu2 hu
  have Hv := Lib.hid hv2; clear hv2 hv
  have hmx : Try.prog.follows .mixedOrders = true := by kernel_rfl
  by_cases hl : xs.length = ys.length
  · have Hl := Lib.hid hl
    rw [hl] at ha
    have hl' : ((xs.length : Int) == (ys.length : Int)) = true := by simp [hl]
    go_enter Try.func29, Try.ntmps29
    rw [hl]
    go_wp2_with fail
    go_loopw [13] (fun i wr => ∃ k : Nat, k ≤ ys.length ∧ i = .int .i64 k ∧ xs.take k = ys.take k ∧ Ext w wr)
      (fun i _ => ys.length - (intOf i).toNat)
    case atStart => exact ⟨0, Nat.zero_le _, rfl, by simp, Ext.refl _⟩
    case round =>
      obtain ⟨k, hk, rfl, heq, hx⟩ := hrel
      have HX := Lib.hid hx; clear hx
      by_cases hlt : k < ys.length
      · obtain ⟨b, off, rfl, hc⟩ := Hu.out k (by omega)
        obtain ⟨b2, off2, rfl, hc2⟩ := Hv.out k hlt
        replace hc := HX.out.keeps.cell hc trivial
        replace hc2 := HX.out.keeps.cell hc2 trivial
        have hts := take_snoc xs k ⟨#[]⟩ (by omega)
        have hts2 := take_snoc ys k ⟨#[]⟩ hlt
        have hg : xs[k]? = ys[k]? ↔ xs[k]?.getD ⟨#[]⟩ = ys[k]?.getD ⟨#[]⟩ := by
          rw [List.getElem?_eq_getElem hlt, List.getElem?_eq_getElem (show k < xs.length by omega)]; simp
        obtain ⟨x, hx⟩ : ∃ x, xs[k]?.getD ⟨#[]⟩ = x := ⟨_, rfl⟩
        obtain ⟨y, hy⟩ : ∃ y, ys[k]?.getD ⟨#[]⟩ = y := ⟨_, rfl⟩
        rw [hx] at hc hts hg
        rw [hy] at hc2 hts2 hg
        have Hg := Lib.hid hg
        have Ht := Lib.hid hts
        have Ht2 := Lib.hid hts2
        have He := Lib.hid heq
        clear hx hy hg hts hts2 heq
        by_cases hxy : x = y
        · subst hxy
          have hxb : (x.toList == x.toList) = true := by simp
          go_wp2_with fail
          refine wp_region_still hmx (by kernel_rfl) ?_
          repeat still_step
          refine wpStill_nil ?_
          go_wp2
          go_roundw
          case rel => exact ⟨k + 1, by omega, by simp, by rw [Ht.out, Ht2.out, He.out], HX.out.drew⟩
          case measure => simp [intOf]; omega
        · have hxb : (x.toList == y.toList) = false := beq_eq_false_iff_ne.2 fun h => hxy (text_inj h)
          go_wp2_with fail
          refine wp_region_still hmx (by kernel_rfl) ?_
          repeat still_step
          refine wpStill_nil ?_
          go_wp2
          go_ret
          exact ⟨by rw [decide_eq_false (fun h0 => hxy (Hg.out.1 (by rw [h0])))]; rfl, HX.out.drew⟩
      · obtain rfl : k = ys.length := by omega
        rw [List.take_length] at heq
        have He : Hid (xs = ys) := Lib.hid (by rw [← heq, ← Hl.out, List.take_length])
        clear heq hlt hk
        go_wp2
        go_ret
        exact ⟨by rw [decide_eq_true He.out]; rfl, HX.out⟩
  · have hl' : ((xs.length : Int) == (ys.length : Int)) = false := by rw [beq_eq_false_iff_ne]; omega
    go_enter Try.func29, Try.ntmps29
    go_wp2
    go_ret
    exact ⟨by rw [decide_eq_false (fun h0 => hl (by rw [h0]))]; rfl, Ext.refl _⟩

end Go.Proofs.Ytmmjhdkoccpdjaa
