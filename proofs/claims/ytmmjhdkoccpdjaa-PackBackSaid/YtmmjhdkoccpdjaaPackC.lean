/- What pack's reader does with names: name gathers, Name reads. Conditions: a reader that Open, or Part, made. -/
import Derived.Test.YtmmjhdkoccpdjaaPackB
import Derived.WalkMore
namespace Go.Proofs.Ytmmjhdkoccpdjaa
open Go Go.RowKit Go.Shelf
attribute [local go_sem] Oper.semAt_some wide_fn wide_depth

/-- What name gathers. -/
def gatherF (s : ByteArray) : Nat → List UInt8 → Nat → Nat → Nat → Bool → List UInt8 × Nat
  | 0, n, _, _, b, _ => (n, b)
  | f + 1, n, a, frm, b, pt =>
    if n.length < 255 then
      if (pieceR s a).size = 0 then (n, if pt then b else a + (pieceR s a).size)
      else if 192 ≤ (pieceR s a)[0]!.toNat then
        if frm ≤ targetR (pieceR s a) then (n, if pt then b else a + (pieceR s a).size)
        else gatherF s f n (targetR (pieceR s a)) (targetR (pieceR s a)) (if pt then b else a + (pieceR s a).size) true
      else if (pieceR s a).toList = [0] then (n ++ bl (pieceR s a), if pt then b else a + (pieceR s a).size)
      else gatherF s f (n ++ bl (pieceR s a)) (a + (pieceR s a).size) frm (if pt then b else a + (pieceR s a).size) pt
    else (n, b)
def gatherR (s : ByteArray) (a : Nat) : List UInt8 × Nat := gatherF s (257 + a) [] a a a false

/-- A piece's first byte, and how long it is. -/
theorem piece_cases (s : ByteArray) (a : Nat) : (pieceR s a).size = 0 ∨
    (a < s.size ∧ a + (pieceR s a).size ≤ s.size ∧ (pieceR s a)[0]! = s[a]! ∧ (pieceR s a) = s.extract a (a + (pieceR s a).size) ∧
      ((192 ≤ s[a]!.toNat ∧ (pieceR s a).size = 2) ∨ (s[a]!.toNat < 192 ∧ (pieceR s a).size = 1 + s[a]!.toNat))) := by
  unfold pieceR
  by_cases h1 : s.size ≤ a
  · left; rw [if_pos h1]; rfl
  · rw [if_neg h1]
    by_cases h2 : s.size - a < (if 192 ≤ s[a]!.toNat then 2 else 1 + s[a]!.toNat)
    · left; rw [if_pos h2]; rfl
    · right
      rw [if_neg h2]
      obtain ⟨z, hz⟩ : ∃ z, (if 192 ≤ s[a]!.toNat then 2 else 1 + s[a]!.toNat) = z := ⟨_, rfl⟩
      have hz1 : 1 ≤ z ∧ ((192 ≤ s[a]!.toNat ∧ z = 2) ∨ (s[a]!.toNat < 192 ∧ z = 1 + s[a]!.toNat)) := by
        rw [← hz]; split <;> omega
      rw [hz] at h2 ⊢
      have hsz : (s.extract a (a + z)).size = z := by rw [ByteArray.size_extract]; omega
      rw [hsz]
      refine ⟨by omega, by omega, ?_, rfl, hz1.2⟩
      rw [getElem!_pos _ 0 (by omega), getElem!_pos s a (by omega), ByteArray.getElem_extract]
      simp

theorem bytes_back {W : World} {base : Nat} {v : Value} {l : List UInt8} {n : Nat} (hn : n = l.length) (h : W.ownsRow base 5 1 v n (Lib.byteCells l)) :
    (convert 95 9 v).run Try.prog W = .ok (.string ⟨l.toArray⟩) W := by
  subst hn
  rcases h.2 with ⟨rfl, h0⟩ | ⟨g, cap, cur, rfl, hg, hh, r⟩
  · obtain rfl : l = [] := List.eq_nil_of_length_eq_zero h0
    simp [convert, go_sem, Conv.bytesToString]
    rfl
  · exact run_convert_bytes_back W 95 9 5 ⟨g, 0, none⟩ cap l Try.underlying95 Try.underlying5 Try.underlying9 (fun j hj => by
      exact h.cells (g := g) rfl j _ (by simp [Lib.byteCells, hj]))

set_option maxRecDepth 100000 in
set_option maxHeartbeats 4000000 in
theorem name_any (B : Nat) (r : Rd) (w : World) (h : RdAt w B r) (hr : r.ok) :
    Calls Try.prog 94 #[.pointer (some ⟨B, 0, none⟩)] w fun e w' => e = .returned (.tuple #[.string ⟨(gatherR r.s r.at_).1.toArray⟩, .int .i64 ((gatherR r.s r.at_).2 : Nat)]) ∧ Ext w w' := by
  obtain ⟨i0, hi, hz0, hz1, hz2⟩ := info_parts infoByte
  obtain ⟨c0, c1, c2, f0, f1, f2⟩ := h.cells
  have H := Lib.hid h; clear h
  have Hok := Lib.hid hr
  obtain ⟨h1, h2⟩ := hr
  obtain ⟨s, p, bad⟩ := r
  simp only at c0 c1 c2 h1 h2 ⊢
  have hmx : Try.prog.follows .mixedOrders = true := by kernel_rfl
  go_enter Try.func94, Try.ntmps94
  go_wp2_with fail
  go_step3
  go_wp2_with fail
  go_still hmx
  change Exit.then _ _ Exit.normal _ w.drew
  clear c0 c1 c2 f0 f1 f2
  go_wp2_with fail
  go_step3
  go_wp2_with fail
  go_loopw [4, 5, 6, 7, 8] (fun v i fr bh pt wr => ∃ (a fm bb : Nat) (q : Bool) (n : List UInt8) (ao : Option Addr) (cap f : Nat), a ≤ s.size ∧ fm ≤ s.size ∧ bb ≤ s.size ∧ n.length ≤ 446 ∧ i = .int .i64 a ∧ fr = .int .i64 fm ∧ bh = .int .i64 bb ∧ pt = .bool q ∧
      v = .slice ao n.length cap ∧ wr.ownsRow w.heap.size 5 1 (.slice ao n.length cap) n.length (Lib.byteCells n) ∧ Ext w wr ∧ gatherR s p = gatherF s f n a fm bb q ∧ 255 - n.length + fm < f)
    (fun v _ fr _ _ _ => (match v with | .slice _ n _ => 255 - n | _ => 0) + (intOf fr).toNat)
  case atStart => exact ⟨p, p, p, false, [], none, 0, 257 + p, h1, h1, h1, by simp, rfl, rfl, rfl, rfl, rfl, World.ownsRow_nil _ _ _ _, (Ext.refl _).drew, rfl, by simp <;> omega⟩
  case round =>
    obtain ⟨a, fm, bb, q, n, ao, cap, f, ha, hfm, hbb, hn, rfl, rfl, rfl, rfl, rfl, hown, hx, hg, hf⟩ := hrel
    obtain ⟨f, rfl⟩ : ∃ f', f = f' + 1 := ⟨f - 1, by omega⟩
    obtain ⟨k, hk⟩ : ∃ k, n.length = k := ⟨_, rfl⟩
    rw [hk] at hown
    have Hback := Lib.hid (bytes_back hk.symm hown)
    have Hbackd := Lib.hid (bytes_back hk.symm hown.drew)
    have CP := Lib.hid (piece_any B ⟨s, p, bad⟩ a wr (hx.keeps.rd H.out trivial) Hok.out (by omega))
    rw [gatherF] at hg
    rw [hk] at hf hn hg ⊢
    have Hx := Lib.hid hx; clear hx
    by_cases hlt : k < 255
    · rw [if_pos hlt] at hg
      have hpc := piece_cases s a
      obtain ⟨pc, hpe⟩ : ∃ pc, pieceR s a = pc := ⟨_, rfl⟩
      simp only [hpe] at hpc hg CP
      cases q with
      | false =>
        simp only [Bool.false_eq_true, if_false] at hg
        by_cases hsz : pc.size = 0
        · obtain rfl : pc = ⟨#[]⟩ := bl_inj (List.eq_nil_of_length_eq_zero hsz)
          rw [if_pos hsz] at hg
          have Hg := Lib.hid hg; clear hg hown hpc
          have hback := Hback.out
          go_wp2_with fail
          refine CP.out.mono ?_
          rintro e w1 ⟨rfl, rfl⟩
          go_wp2
          try rw [Exit.noGoto_ret]
          go_ret2
          exact ⟨by rw [Hg.out]; rfl, Hx.out⟩
        · rw [if_neg hsz] at hg
          obtain ⟨hlt2, hle, h0, hext, hcc⟩ := hpc.resolve_left hsz
          have y0 : 0 < pc.size := by omega
          have y1 : pc.size ≤ 192 := by have := s[a]!.toNat_lt; omega
          obtain ⟨c, hcv⟩ : ∃ c : Nat, s[a]!.toNat = c := ⟨_, rfl⟩
          rw [h0, hcv] at hg
          rw [hcv] at hcc
          have hcp : pc[0].toNat = c := by rw [← hcv, ← h0, getElem!_pos pc 0 y0]
          have hc255 : c ≤ 255 := by have := s[a]!.toNat_lt; omega
          have hne : pc.toList.isEmpty = false := by
            rw [toList_bl]
            cases hb : bl pc with
            | nil => rw [← bl_size, hb] at y0; cases y0
            | cons x y => rfl
          have CQ := Lib.hid fun W => isPointer_any c W hc255
          clear h0 hext hcv hpc
          by_cases h192 : 192 ≤ c
          · rw [decide_eq_true h192] at CQ
            rw [if_pos h192] at hg
            have y2 : pc.size = 2 := by omega
            have CT := Lib.hid fun W => target_any pc W (by omega)
            obtain ⟨tg, htg⟩ : ∃ tg, targetR pc = tg := ⟨_, rfl⟩
            have htl : tg < 16384 := by rw [← htg]; exact Nat.mod_lt _ (by omega)
            rw [htg] at CT hg
            clear htg
            by_cases hft : fm ≤ tg
            · rw [if_pos hft] at hg
              have Hg := Lib.hid hg; clear hg hown
              have Hy := Lib.hid y2; clear y2
              have hback : (convert 95 9 (.slice ao k cap)).run Try.prog wr.drew = .ok (.string ⟨n.toArray⟩) wr.drew := Hbackd.out
              have x1 : (fm : Int) ≤ tg := by omega
              go_wp2_with fail
              refine CP.out.mono ?_
              rintro e w1 ⟨rfl, rfl⟩
              go_wp2_with fail
              refine (CQ.out _).mono ?_
              rintro e w2 ⟨rfl, rfl⟩
              go_wp2_with fail
              refine (CT.out _).mono ?_
              rintro e w3 ⟨rfl, rfl⟩
              go_wp2
              try rw [Exit.noGoto_ret]
              go_ret2
              exact ⟨by rw [Hg.out]; rfl, Hx.out.drew⟩
            · rw [if_neg hft] at hg
              have Hg := Lib.hid hg; clear hg
              have Hy := Lib.hid y2; clear y2
              have Hown := Lib.hid hown; clear hown
              have x1 : ¬ (fm : Int) ≤ tg := by omega
              go_wp2_with fail
              refine CP.out.mono ?_
              rintro e w1 ⟨rfl, rfl⟩
              go_wp2_with fail
              refine (CQ.out _).mono ?_
              rintro e w2 ⟨rfl, rfl⟩
              go_wp2_with fail
              refine (CT.out _).mono ?_
              rintro e w3 ⟨rfl, rfl⟩
              go_wp2
              go_roundw
              case rel =>
                refine ⟨tg, tg, a + pc.size, true, n, ao, cap, f, by omega, by omega, by have := hbb; omega, by omega, rfl, rfl, by first | rfl | simp, rfl, by rw [hk], by rw [hk]; exact Hown.out, Hx.out.drew, Hg.out, by omega⟩
              case measure => simp [intOf]; omega
          · rw [decide_eq_false h192] at CQ
            rw [if_neg h192] at hg
            have hpl : (n ++ bl pc).length = k + pc.size := by rw [List.length_append, hk, bl_size]
            have hzx : w.heap.size ≤ wr.heap.size := Hx.out.size
            by_cases hrt : pc.toList = [0]
            · rw [if_pos hrt] at hg
              have Hg := Lib.hid hg; clear hg
              have hrt' : (pc.toList == [0]) = true := by rw [hrt]; rfl
              go_wp2_with fail
              refine CP.out.mono ?_
              rintro e w1 ⟨rfl, rfl⟩
              go_wp2_with fail
              refine (CQ.out _).mono ?_
              rintro e w2 ⟨rfl, rfl⟩
              go_wp2_with (at_builtin; refine Lib.wpList_append_own_string _ rfl _ _ 95 9 rfl w.heap.size 5 i0 Try.underlying95 Try.underlying9 hi hz0 hz1 hz2 _ _ _ rfl hown pc rfl ?c3 ?c4 ?c5 ?_)
              case c3 => unfold maxLen; omega
              case c4 => omega
              case c5 => omega
              intro v' w3 hown' hgrow _
              have hrow := hown.lt
              have Hx3 : Hid (Ext w w3) := Lib.hid (((Hx.out.keeps.mono (K' := fun k => k < w.heap.size) fun _ _ _ => trivial).grown hgrow (fun k e h => by
                have e' := (hrow k e).1
                omega)).ext fun _ h => h)
              obtain ⟨ao', cap', rfl⟩ := ownsRow_slice hown'
              have hb3 : Hid ((convert 95 9 (.slice ao' (k + pc.size) cap')).run Try.prog w3 = .ok (.string ⟨(n ++ bl pc).toArray⟩) w3) :=
                Lib.hid (bytes_back hpl.symm (by rw [Lib.byteCells_append]; exact hown'))
              clear hown' hgrow hrow hown
              have hback := hb3.out
              go_wp2
              try rw [Exit.noGoto_ret]
              go_ret2
              exact ⟨by rw [Hg.out]; rfl, Hx3.out⟩
            · rw [if_neg hrt] at hg
              have Hg := Lib.hid hg; clear hg
              have hrt' : (pc.toList == [0]) = false := beq_eq_false_iff_ne.2 hrt
              go_wp2_with fail
              refine CP.out.mono ?_
              rintro e w1 ⟨rfl, rfl⟩
              go_wp2_with fail
              refine (CQ.out _).mono ?_
              rintro e w2 ⟨rfl, rfl⟩
              go_wp2_with (at_builtin; refine Lib.wpList_append_own_string _ rfl _ _ 95 9 rfl w.heap.size 5 i0 Try.underlying95 Try.underlying9 hi hz0 hz1 hz2 _ _ _ rfl hown pc rfl ?c3 ?c4 ?c5 ?_)
              case c3 => unfold maxLen; omega
              case c4 => omega
              case c5 => omega
              intro v' w3 hown' hgrow _
              have hrow := hown.lt
              have Hx3 : Hid (Ext w w3) := Lib.hid (((Hx.out.keeps.mono (K' := fun k => k < w.heap.size) fun _ _ _ => trivial).grown hgrow (fun k e h => by
                have e' := (hrow k e).1
                omega)).ext fun _ h => h)
              obtain ⟨ao', cap', rfl⟩ := ownsRow_slice hown'
              have Hown' := Lib.hid hown'; clear hown' hgrow hrow hown
              go_wp2
              go_roundw
              case rel =>
                refine ⟨a + pc.size, fm, a + pc.size, false, n ++ bl pc, ao', cap', f, by omega, by omega, by have := hbb; omega, by omega, by first | rfl | simp, rfl, by first | rfl | simp, rfl, by rw [hpl], ?_, Hx3.out, Hg.out, by omega⟩
                rw [hpl, Lib.byteCells_append]
                exact Hown'.out
              case measure => simp [intOf]; omega
      | true =>
        simp only [if_true] at hg
        by_cases hsz : pc.size = 0
        · obtain rfl : pc = ⟨#[]⟩ := bl_inj (List.eq_nil_of_length_eq_zero hsz)
          rw [if_pos hsz] at hg
          have Hg := Lib.hid hg; clear hg hown hpc
          have hback := Hback.out
          go_wp2_with fail
          refine CP.out.mono ?_
          rintro e w1 ⟨rfl, rfl⟩
          go_wp2
          try rw [Exit.noGoto_ret]
          go_ret2
          exact ⟨by rw [Hg.out]; rfl, Hx.out⟩
        · rw [if_neg hsz] at hg
          obtain ⟨hlt2, hle, h0, hext, hcc⟩ := hpc.resolve_left hsz
          have y0 : 0 < pc.size := by omega
          have y1 : pc.size ≤ 192 := by have := s[a]!.toNat_lt; omega
          obtain ⟨c, hcv⟩ : ∃ c : Nat, s[a]!.toNat = c := ⟨_, rfl⟩
          rw [h0, hcv] at hg
          rw [hcv] at hcc
          have hcp : pc[0].toNat = c := by rw [← hcv, ← h0, getElem!_pos pc 0 y0]
          have hc255 : c ≤ 255 := by have := s[a]!.toNat_lt; omega
          have hne : pc.toList.isEmpty = false := by
            rw [toList_bl]
            cases hb : bl pc with
            | nil => rw [← bl_size, hb] at y0; cases y0
            | cons x y => rfl
          have CQ := Lib.hid fun W => isPointer_any c W hc255
          clear h0 hext hcv hpc
          by_cases h192 : 192 ≤ c
          · rw [decide_eq_true h192] at CQ
            rw [if_pos h192] at hg
            have y2 : pc.size = 2 := by omega
            have CT := Lib.hid fun W => target_any pc W (by omega)
            obtain ⟨tg, htg⟩ : ∃ tg, targetR pc = tg := ⟨_, rfl⟩
            have htl : tg < 16384 := by rw [← htg]; exact Nat.mod_lt _ (by omega)
            rw [htg] at CT hg
            clear htg
            by_cases hft : fm ≤ tg
            · rw [if_pos hft] at hg
              have Hg := Lib.hid hg; clear hg hown
              have Hy := Lib.hid y2; clear y2
              have hback : (convert 95 9 (.slice ao k cap)).run Try.prog wr.drew = .ok (.string ⟨n.toArray⟩) wr.drew := Hbackd.out
              have x1 : (fm : Int) ≤ tg := by omega
              go_wp2_with fail
              refine CP.out.mono ?_
              rintro e w1 ⟨rfl, rfl⟩
              go_wp2_with fail
              refine (CQ.out _).mono ?_
              rintro e w2 ⟨rfl, rfl⟩
              go_wp2_with fail
              refine (CT.out _).mono ?_
              rintro e w3 ⟨rfl, rfl⟩
              go_wp2
              try rw [Exit.noGoto_ret]
              go_ret2
              exact ⟨by rw [Hg.out]; rfl, Hx.out.drew⟩
            · rw [if_neg hft] at hg
              have Hg := Lib.hid hg; clear hg
              have Hy := Lib.hid y2; clear y2
              have Hown := Lib.hid hown; clear hown
              have x1 : ¬ (fm : Int) ≤ tg := by omega
              go_wp2_with fail
              refine CP.out.mono ?_
              rintro e w1 ⟨rfl, rfl⟩
              go_wp2_with fail
              refine (CQ.out _).mono ?_
              rintro e w2 ⟨rfl, rfl⟩
              go_wp2_with fail
              refine (CT.out _).mono ?_
              rintro e w3 ⟨rfl, rfl⟩
              go_wp2
              go_roundw
              case rel =>
                refine ⟨tg, tg, bb, true, n, ao, cap, f, by omega, by omega, by have := hbb; omega, by omega, rfl, rfl, by first | rfl | simp, rfl, by rw [hk], by rw [hk]; exact Hown.out, Hx.out.drew, Hg.out, by omega⟩
              case measure => simp [intOf]; omega
          · rw [decide_eq_false h192] at CQ
            rw [if_neg h192] at hg
            have hpl : (n ++ bl pc).length = k + pc.size := by rw [List.length_append, hk, bl_size]
            have hzx : w.heap.size ≤ wr.heap.size := Hx.out.size
            by_cases hrt : pc.toList = [0]
            · rw [if_pos hrt] at hg
              have Hg := Lib.hid hg; clear hg
              have hrt' : (pc.toList == [0]) = true := by rw [hrt]; rfl
              go_wp2_with fail
              refine CP.out.mono ?_
              rintro e w1 ⟨rfl, rfl⟩
              go_wp2_with fail
              refine (CQ.out _).mono ?_
              rintro e w2 ⟨rfl, rfl⟩
              go_wp2_with (at_builtin; refine Lib.wpList_append_own_string _ rfl _ _ 95 9 rfl w.heap.size 5 i0 Try.underlying95 Try.underlying9 hi hz0 hz1 hz2 _ _ _ rfl hown pc rfl ?c3 ?c4 ?c5 ?_)
              case c3 => unfold maxLen; omega
              case c4 => omega
              case c5 => omega
              intro v' w3 hown' hgrow _
              have hrow := hown.lt
              have Hx3 : Hid (Ext w w3) := Lib.hid (((Hx.out.keeps.mono (K' := fun k => k < w.heap.size) fun _ _ _ => trivial).grown hgrow (fun k e h => by
                have e' := (hrow k e).1
                omega)).ext fun _ h => h)
              obtain ⟨ao', cap', rfl⟩ := ownsRow_slice hown'
              have hb3 : Hid ((convert 95 9 (.slice ao' (k + pc.size) cap')).run Try.prog w3 = .ok (.string ⟨(n ++ bl pc).toArray⟩) w3) :=
                Lib.hid (bytes_back hpl.symm (by rw [Lib.byteCells_append]; exact hown'))
              clear hown' hgrow hrow hown
              have hback := hb3.out
              go_wp2
              try rw [Exit.noGoto_ret]
              go_ret2
              exact ⟨by rw [Hg.out]; rfl, Hx3.out⟩
            · rw [if_neg hrt] at hg
              have Hg := Lib.hid hg; clear hg
              have hrt' : (pc.toList == [0]) = false := beq_eq_false_iff_ne.2 hrt
              go_wp2_with fail
              refine CP.out.mono ?_
              rintro e w1 ⟨rfl, rfl⟩
              go_wp2_with fail
              refine (CQ.out _).mono ?_
              rintro e w2 ⟨rfl, rfl⟩
              go_wp2_with (at_builtin; refine Lib.wpList_append_own_string _ rfl _ _ 95 9 rfl w.heap.size 5 i0 Try.underlying95 Try.underlying9 hi hz0 hz1 hz2 _ _ _ rfl hown pc rfl ?c3 ?c4 ?c5 ?_)
              case c3 => unfold maxLen; omega
              case c4 => omega
              case c5 => omega
              intro v' w3 hown' hgrow _
              have hrow := hown.lt
              have Hx3 : Hid (Ext w w3) := Lib.hid (((Hx.out.keeps.mono (K' := fun k => k < w.heap.size) fun _ _ _ => trivial).grown hgrow (fun k e h => by
                have e' := (hrow k e).1
                omega)).ext fun _ h => h)
              obtain ⟨ao', cap', rfl⟩ := ownsRow_slice hown'
              have Hown' := Lib.hid hown'; clear hown' hgrow hrow hown
              go_wp2
              go_roundw
              case rel =>
                refine ⟨a + pc.size, fm, bb, true, n ++ bl pc, ao', cap', f, by omega, by omega, by have := hbb; omega, by omega, by first | rfl | simp, rfl, by first | rfl | simp, rfl, by rw [hpl], ?_, Hx3.out, Hg.out, by omega⟩
                rw [hpl, Lib.byteCells_append]
                exact Hown'.out
              case measure => simp [intOf]; omega
    · rw [if_neg hlt] at hg
      have Hg := Lib.hid hg; clear hg hown
      have hback := Hback.out
      go_wp2
      try rw [Exit.noGoto_ret]
      go_ret2
      exact ⟨by rw [Hg.out]; rfl, Hx.out⟩

end Go.Proofs.Ytmmjhdkoccpdjaa
