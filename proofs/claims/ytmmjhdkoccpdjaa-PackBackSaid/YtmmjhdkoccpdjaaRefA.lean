/- What hardtackref01's Split, Check and Count do. Conditions: strings that Go can hold. -/
import Derived.Test.YtmmjhdkoccpdjaaWalkC
import Derived.Laws.OwnMore
namespace Go.Proofs.Ytmmjhdkoccpdjaa
open Go Go.RowKit Go.Shelf
attribute [local go_sem] Oper.semAt_some wide_fn wide_depth

/-- A slice of texts that may be sliced. -/
def StrsC (W : World) (sv : Value) (ss : List ByteArray) : Prop :=
  ∃ b off cap, sv = .slice (some ⟨b, off, none⟩) ss.length cap ∧ ss.length ≤ cap ∧ cap ≤ maxLen ∧ ∀ j, j < ss.length → W.cell? ⟨b, off + j, none⟩ = some (.string (ss[j]?.getD ⟨#[]⟩))
theorem StrsC.ext {A B : World} (h : Ext A B) {sv : Value} {ss : List ByteArray} : StrsC A sv ss → StrsC B sv ss
  | ⟨b, off, cap, e, hl, hm, hc⟩ => ⟨b, off, cap, e, hl, hm, fun j hj => h.keeps.cell (hc j hj) trivial⟩
theorem StrsC.strs {A : World} {sv : Value} {ss : List ByteArray} : StrsC A sv ss → Strs A sv ss
  | ⟨b, off, cap, e, _, _, hc⟩ => .inr ⟨b, off, cap, e, hc⟩
theorem strsC_of_row {w : World} {base : Nat} {ao : Option Addr} {n cap : Nat} {ls : List ByteArray} (hn : n = ls.length) (hne : ao ≠ none) (h : w.ownsRow base 9 1 (.slice ao n cap) n (ls.map Value.string)) : StrsC w (.slice ao n cap) ls := by
  subst hn
  rcases h.2 with ⟨h1, h0⟩ | ⟨g, cap', cur, h1, hg, hh, r⟩
  · simp only [Value.slice.injEq] at h1; exact absurd h1.1 hne
  · simp only [Value.slice.injEq, true_and] at h1
    obtain ⟨rfl, rfl⟩ := h1
    refine ⟨g, 0, _, rfl, r.1, r.2.1, fun j hj => ?_⟩
    have := h.cells (g := g) rfl j (.string (ls[j]?.getD ⟨#[]⟩)) (by simp [hj])
    have hp : (⟨g, 0 + j, none⟩ : Addr) = ⟨g, j, none⟩ := by simp
    have hp' : (⟨g, 0, none⟩ : Addr).add j = ⟨g, j, none⟩ := by unfold Addr.add; split <;> simp_all
    rw [hp]
    rw [hp'] at this
    exact this

/-- What hardtackref01.Split answers. -/
def RSplitPost (s : ByteArray) (w : World) (e : Ending) (w' : World) : Prop :=
  ∃ v, e = .returned (.tuple #[v, .bool (isName s)]) ∧ (isName s = true → StrsC w' v (labelsB s)) ∧ Ext w w'

theorem isName_long {s : ByteArray} (h : 255 < s.size) : isName s = false := by
  simp only [isName, Bool.and_eq_false_iff, decide_eq_false_iff_not]; left; omega
theorem isName_stop {s : ByteArray} {pre : List Nat} {p : Nat} (hx : endsE s 0 = pre ++ endsE s p) (hp : pre.getLastD 0 = p) (hs : stepE s p = none) :
    lastE s = p := by
  unfold lastE; rw [hx, endsE_none hs, List.append_nil]; exact hp
theorem isName_at {s : ByteArray} {p : Nat} (hl : lastE s = p) (h255 : s.size ≤ 255) (hlt : p < s.size) : isName s = true ↔ s[p]!.toNat = 0 ∧ p = s.size - 1 := by
  simp only [isName, Bool.and_eq_true, beq_iff_eq, decide_eq_true_eq, hl, toList_bl, bl_extract, take_bl]
  have hp : p < (bl s).length := hlt
  have e : s[p]! = (bl s)[p]'hp := get_bl s p hlt
  rw [List.drop_eq_getElem_cons hp, e]
  generalize (bl s)[p]'hp = x
  constructor
  · rintro ⟨_, h⟩
    simp only [List.cons.injEq] at h
    have h2 := congrArg List.length h.2
    simp only [List.length_drop, List.length_nil, bl_size] at h2
    exact ⟨by rw [h.1]; rfl, by omega⟩
  · rintro ⟨h1, h2⟩
    refine ⟨h255, ?_⟩
    rw [List.cons.injEq]
    refine ⟨UInt8.toNat_inj.1 (h1.trans rfl), List.drop_eq_nil_of_le (by rw [bl_size]; omega)⟩
theorem isName_out {s : ByteArray} {p : Nat} (hl : lastE s = p) (hge : s.size ≤ p) : isName s = false := by
  rw [Bool.eq_false_iff]
  intro h
  simp only [isName, Bool.and_eq_true, beq_iff_eq, decide_eq_true_eq, hl, toList_bl, bl_extract, take_bl] at h
  rw [List.drop_eq_nil_of_le (by rw [bl_size]; omega)] at h
  cases h.2

set_option maxRecDepth 100000 in
set_option maxHeartbeats 4000000 in
theorem RSplit_any (s : ByteArray) (w : World) (hs : s.size ≤ maxLen) :
    Calls Try.prog 80 #[.string s] w (RSplitPost s w) := by
  obtain ⟨i0, hi, hz0, hz1, hz2⟩ := info_parts infoString
  unfold maxLen at hs
  by_cases h255 : 255 < s.size
  · have hn := isName_long h255
    go_enter Try.func80, Try.ntmps80
    go_wp2
    go_ret2
    refine ⟨_, by rw [hn]; rfl, fun h => ?_, (Ext.refl _).alloc _⟩
    rw [hn] at h; cases h
  · go_enter Try.func80, Try.ntmps80
    go_wp2
    go_loopw [4, 5] (fun v i wr => ∃ (p cap g : Nat) (pre : List Nat), p ≤ s.size ∧ i = .int .i64 p ∧ endsE s 0 = pre ++ endsE s p ∧ pre.getLastD 0 = p ∧
        v = .slice (some ⟨g, 0, none⟩) pre.length cap ∧ wr.ownsRow w.heap.size 9 1 (.slice (some ⟨g, 0, none⟩) pre.length cap) pre.length ((labelsFrom s 0 pre).map Value.string) ∧ Ext w wr ∧ pre.length ≤ p)
      (fun _ i _ => s.size - (intOf i).toNat)
    case atStart =>
      refine ⟨0, 0, w.heap.size, [], Nat.zero_le _, rfl, rfl, rfl, rfl, ?_, (Ext.refl _).alloc _, Nat.le_refl _⟩
      exact World.ownsRow_lit (size := 1) w #[] 0 (Nat.le_refl _) (Nat.zero_le _) rfl
    case round =>
      obtain ⟨p, cap, g, pre, hp, rfl, hx, hpre, rfl, hown, hxt, hpl⟩ := hrel
      have HX := Lib.hid hxt; clear hxt
      have Hx := Lib.hid hx; clear hx
      have Hpre := Lib.hid hpre; clear hpre
      by_cases hlt : p < s.size
      · obtain ⟨c, hcv⟩ : ∃ c : Nat, s[p].toNat = c := ⟨_, rfl⟩
        have Hcv : Hid (s[p]!.toNat = c) := Lib.hid (by rw [getElem!_pos s p hlt, hcv])
        have hc255 : c ≤ 255 := by have := s[p].toNat_lt; omega
        have Hst : Hid (stepE s p = if c ≤ s.size - (p + 1) ∧ 1 ≤ c ∧ c ≤ 63 then some (p + 1 + c) else none) := Lib.hid (by
          unfold stepE; rw [if_pos hlt, Hcv.out])
        by_cases h0 : c = 0
        · subst h0
          have Hl : Hid (lastE s = p) := Lib.hid (isName_stop Hx.out Hpre.out (by rw [Hst.out, if_neg (by omega)]))
          have Hn : Hid (isName s = decide ((p : Int) = (s.size : Int) - 1)) := Lib.hid (by
            have := isName_at Hl.out (by omega) hlt
            rw [Bool.eq_iff_iff, this, Hcv.out, decide_eq_true_eq]; omega)
          have Hown := Lib.hid hown; clear hown
          go_wp2
          go_ret2
          refine ⟨_, by rw [Hn.out]; rfl, fun h => ?_, HX.out⟩
          rw [labelsB, if_pos h, Hx.out, endsE_none (by rw [Hst.out, if_neg (by omega)]), List.append_nil]
          exact strsC_of_row (labelsFrom_length _ _ _).symm (by simp) Hown.out
        · by_cases h63 : 63 < c
          · have Hl : Hid (lastE s = p) := Lib.hid (isName_stop Hx.out Hpre.out (by rw [Hst.out, if_neg (by omega)]))
            have Hn : Hid (isName s = false) := Lib.hid (by
              have := isName_at Hl.out (by omega) hlt
              rw [Bool.eq_false_iff, Ne, this, Hcv.out]; omega)
            go_wp2
            go_ret2
            refine ⟨_, by rw [Hn.out]; rfl, fun h => ?_, HX.out⟩
            rw [Hn.out] at h; cases h
          · by_cases hin : p + 1 + c ≤ s.size
            · have i1 : (p : Int) + 1 + c ≤ s.size := by omega
              have i2 : (c : Int) ≤ 63 := by omega
              have i3 : (0 : Int) ≤ (p : Int) + 1 := by omega
              have i4 : (p : Int) + 1 ≤ (p : Int) + 1 + c := by omega
              have i5 : ((p : Int) + 1).toNat = p + 1 := by omega
              have i6 : ((p : Int) + 1 + c).toNat = p + 1 + c := by omega
              go_wp2_with (at_builtin; refine wpList_append_own _ rfl _ _ 32 rfl w.heap.size 9 i0 (.string ⟨#[]⟩) 1 16 Try.underlying32 hi hz0 hz1 hz2 rfl (by decide) _ _ _ rfl (hown.alloc _) ⟨wr.heap.size, 0, none⟩ 1 1 [.string (s.extract (p + 1) (p + 1 + c))] rfl rfl ?c1 ?c2 ?c3 ?c4 ?c5 ?_)
              case c1 =>
                intro j u hj
                match j, hj with
                | 0, hj => simp at hj; subst hj; simp [Addr.add]
              case c2 => intro u hu; simp at hu; subst hu; rfl
              case c3 => unfold maxLen; omega
              case c4 => omega
              case c5 => have := HX.out.size; simp; omega
              intro v' w3 hown' hgrow hnil
              have hstep : stepE s p = some (p + 1 + c) := by rw [Hst.out, if_pos (by omega)]
              have hx' : endsE s 0 = (pre ++ [p + 1 + c]) ++ endsE s (p + 1 + c) := by rw [Hx.out, endsE_some hstep]; simp
              have hlab : labelsFrom s 0 (pre ++ [p + 1 + c]) = labelsFrom s 0 pre ++ [s.extract (p + 1) (p + 1 + c)] := by rw [labelsFrom_snoc, Hpre.out]
              have Hx' := Lib.hid hx'; clear hx'
              have Hlab := Lib.hid hlab; clear hlab hstep
              have hrow := hown.lt g rfl
              clear i1 i2 i3 i4 i5 i6
              have HX3 : Hid (Ext w w3) := Lib.hid ((((HX.out.alloc (.cells #[.string (s.extract (p + 1) (p + 1 + c))] 9)).keeps.mono (K' := fun k => k < w.heap.size) fun _ _ _ => trivial).grown hgrow (fun k e h => by
                have e' : g = k := by simpa [Value.ownBlock] using e
                omega)).ext fun _ h => h)
              obtain ⟨ao', cap', rfl⟩ := ownsRow_slice hown'
              obtain ⟨g', rfl⟩ : ∃ g', ao' = some ⟨g', 0, none⟩ := by
                rcases hown'.2 with ⟨h1, h0⟩ | ⟨g', _, _, h1, _⟩
                · omega
                · simp only [Value.slice.injEq] at h1; exact ⟨g', h1.1⟩
              have Hown' := Lib.hid hown'; clear hown' hown hgrow hnil
              go_wp2
              go_roundw
              case rel =>
                refine ⟨p + 1 + c, cap', g', pre ++ [p + 1 + c], by omega, ?_, Hx'.out, by simp, ?_, ?_, HX3.out, by simp; omega⟩
                · congr 1; omega
                · simp
                · rw [Hlab.out]; simpa using Hown'.out
              case measure => simp [intOf]; omega
            · have Hl : Hid (lastE s = p) := Lib.hid (isName_stop Hx.out Hpre.out (by rw [Hst.out, if_neg (by omega)]))
              have Hn : Hid (isName s = false) := Lib.hid (by
                have := isName_at Hl.out (by omega) hlt
                rw [Bool.eq_false_iff, Ne, this, Hcv.out]; omega)
              go_wp2
              go_ret2
              refine ⟨_, by rw [Hn.out]; rfl, fun h => ?_, HX.out⟩
              rw [Hn.out] at h; cases h
      · have Hn : Hid (isName s = false) := Lib.hid (isName_out (isName_stop Hx.out Hpre.out (by unfold stepE; rw [if_neg hlt])) (by omega))
        go_wp2
        go_ret2
        refine ⟨_, by rw [Hn.out]; rfl, fun h => ?_, HX.out⟩
        rw [Hn.out] at h; cases h

end Go.Proofs.Ytmmjhdkoccpdjaa
