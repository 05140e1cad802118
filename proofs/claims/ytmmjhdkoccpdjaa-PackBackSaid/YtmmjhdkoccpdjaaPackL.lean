/- What pack's writer does with a name's rest: start. Conditions: a writer that New made. -/
import Derived.Test.YtmmjhdkoccpdjaaPackK
namespace Go.Proofs.Ytmmjhdkoccpdjaa
open Go Go.RowKit Go.Shelf
attribute [local go_sem] Oper.semAt_some wide_fn wide_depth

/-- What start leaves. -/
def startW (q : Wr) (rest first : ByteArray) : Wr :=
  if (q.rests.lookup (bl rest)).isSome = false ∧ (rawW q first).full = false ∧ q.bytes.length < 16384 then { rawW q first with rests := (bl rest, q.bytes.length) :: q.rests } else rawW q first
theorem rawW_rests (q : Wr) (s : ByteArray) : (rawW q s).rests = q.rests := by
  unfold rawW; split
  · rfl
  · split <;> rfl
theorem rawW_limit (q : Wr) (s : ByteArray) : (rawW q s).limit = q.limit := by
  unfold rawW; split
  · rfl
  · split <;> rfl
theorem rawW_bytes {q : Wr} {s : ByteArray} (hs : 1 ≤ s.size) (hf : (rawW q s).full = false) : rawW q s = { q with bytes := q.bytes ++ bl s } ∧ q.full = false := by
  unfold rawW at hf ⊢
  split
  · next h =>
    rw [if_pos h] at hf
    rcases h with h | h
    · omega
    · rw [h] at hf; cases hf
  · next h =>
    rw [if_neg h] at hf
    split
    · next h2 => rw [if_pos h2] at hf; cases hf
    · next h2 =>
      refine ⟨rfl, ?_⟩
      cases hq : q.full with
      | false => rfl
      | true => exact absurd (.inr hq) h
theorem startW_ok {q : Wr} (h : q.ok) (rest first : ByteArray) (h1 : 1 ≤ first.size) : (startW q rest first).ok := by
  have hr := rawW_ok h first
  unfold startW
  split
  · next hc =>
    obtain ⟨e, _⟩ := rawW_bytes h1 hc.2.1
    obtain ⟨a1, a2, a3, a4⟩ := hr
    refine ⟨a1, a2, a3, ?_, ?_⟩
    · show q.rests.length + 1 ≤ (rawW q first).bytes.length
      rw [e]
      show q.rests.length + 1 ≤ (q.bytes ++ bl first).length
      rw [List.length_append, bl_size]
      have := h.2.2.2.1
      omega
    · intro p hp
      rcases List.mem_cons.1 hp with rfl | hp
      · exact hc.2.2
      · exact h.2.2.2.2 p hp
  · exact hr

theorem WrIs.noted {w w1 : World} {B mb : Nat} {bv : Value} {G : Nat → Prop} {q : Wr} (h : WrIs w B mb bv G q) (hg : w.grownBy w1 (some mb)) (l : List (List UInt8 × Nat)) (hm : MapIs w1 mb l) :
    WrIs w1 B mb bv G { q with rests := l } ∧ Keeps G w w1 := by
  have hk : Keeps (fun j => j ≠ mb) w w1 := (Keeps.refl _ w).grown hg (fun k e hk => hk (by cases e; rfl))
  refine ⟨⟨hk.heap h.blk (fun e => h.mbB e.symm), ?_, hm, h.mbB, h.bvB, h.bvm, fun j hj => ?_⟩, hk.mono fun j _ hj => (h.out j hj).2.2.1⟩
  · refine ⟨h.own.1, ?_⟩
    rcases h.own.2 with hn | ⟨g, cap, cur, rfl, hb', hgg, rest⟩
    · exact .inl hn
    · exact .inr ⟨g, cap, cur, rfl, hb', hk.heap hgg (fun e => h.bvm (by rw [e]; rfl)), rest⟩
  · have := h.out j hj
    exact ⟨Nat.lt_of_lt_of_le this.1 hk.size, this.2⟩

set_option maxRecDepth 100000 in
set_option maxHeartbeats 2000000 in
theorem start_any (B : Nat) (G : Nat → Prop) (q : Wr) (rest first : ByteArray) (w : World) (h : WrAt w B G q) (hq : q.ok) (h1 : 1 ≤ first.size) (h2 : first.size ≤ 1000) (h3 : rest.size ≤ 1000) :
    Calls Try.prog 120 #[.pointer (some ⟨B, 0, none⟩), .string rest, .string first] w fun e w' => (∃ v, e = .returned v) ∧ WrAt w' B G (startW q rest first) ∧ Keeps G w w' := by
  have CR := Lib.hid (WRaw_any B G q first w h hq (by omega))
  obtain ⟨mb0, bv0, h0⟩ := h
  obtain ⟨c0, _, _, _, _, _⟩ := h0.cells
  obtain ⟨ao, cap, rfl⟩ := ownsRow_slice h0.own
  have hlen := hq.1
  have hrl := hq.2.2.2.1
  have hst : startW q rest first = if (q.rests.lookup (bl rest)).isSome = false ∧ (rawW q first).full = false ∧ q.bytes.length < 16384 then { rawW q first with rests := (bl rest, q.bytes.length) :: q.rests } else rawW q first := rfl
  have hrr := rawW_rests q first
  obtain ⟨q1, hq1⟩ : ∃ q1, rawW q first = q1 := ⟨_, rfl⟩
  rw [hq1] at CR hst hrr
  obtain ⟨n, hn⟩ : ∃ n, q.bytes.length = n := ⟨_, rfl⟩
  rw [hn] at hst c0 hlen hrl
  obtain ⟨rs, hrs⟩ : ∃ rs, q.rests = rs := ⟨_, rfl⟩
  rw [hrs] at hst hrr hrl
  have Hst := Lib.hid hst; clear hst
  clear h0 hq hq1 hn hrs
  go_enter Try.func120, Try.ntmps120
  go_wp2_with fail
  refine CR.out.mono ?_
  rintro e w1 ⟨⟨v, rfl⟩, ⟨mb, bv, hw⟩, hk1⟩
  clear c0
  obtain ⟨_, _, c2, c3, _, _⟩ := hw.cells
  have hm := hw.map
  rw [hrr] at hm
  have hlk := hm.look rest (by unfold maxLen; omega)
  obtain ⟨w2, hput, hm2, hg2⟩ := hm.put rest (by unfold maxLen; omega) n (by omega) (by omega)
  obtain ⟨hw2, hk2⟩ := hw.noted hg2 _ hm2
  have HP := Lib.hid (And.intro hw2 (hk1.trans hk2))
  have HW := Lib.hid (And.intro hw hk1)
  clear hm hm2 hg2 hw2 hk2 hw hk1
  obtain ⟨o, ho⟩ : ∃ o, rs.lookup (bl rest) = o := ⟨_, rfl⟩
  rw [ho] at hlk Hst
  clear ho
  obtain ⟨bs1, lm1, full, rs1⟩ := q1
  simp only at c2 hrr
  subst hrr
  cases o with
  | some x =>
    have HS : Hid (startW q rest first = ⟨bs1, lm1, full, rs1⟩) := Lib.hid (by rw [Hst.out, if_neg (by simp)])
    simp only [Option.isSome_some, Option.getD_some] at hlk
    clear hput
    go_wp2
    go_end0
    exact ⟨⟨_, rfl⟩, by rw [HS.out]; exact ⟨mb, bv, HW.out.1⟩, HW.out.2⟩
  | none =>
    simp only [Option.isSome_none, Option.getD_none] at hlk
    cases full with
    | true =>
      have HS : Hid (startW q rest first = ⟨bs1, lm1, true, rs1⟩) := Lib.hid (by rw [Hst.out, if_neg (by simp)])
      clear hput
      go_wp2
      go_end0
      exact ⟨⟨_, rfl⟩, by rw [HS.out]; exact ⟨mb, bv, HW.out.1⟩, HW.out.2⟩
    | false =>
      by_cases hlt : n < 16384
      · have HS : Hid (startW q rest first = ⟨bs1, lm1, false, (bl rest, n) :: rs1⟩) := Lib.hid (by rw [Hst.out, if_pos ⟨rfl, rfl, hlt⟩])
        go_wp2
        go_end0
        exact ⟨⟨_, rfl⟩, by rw [HS.out]; exact ⟨mb, bv, HP.out.1⟩, HP.out.2⟩
      · have HS : Hid (startW q rest first = ⟨bs1, lm1, false, rs1⟩) := Lib.hid (by rw [Hst.out, if_neg (fun h => hlt h.2.2)])
        have hx : decide ((n : Int) < 16384) = false := by simp; omega
        clear hput
        go_wp2
        go_end0
        exact ⟨⟨_, rfl⟩, by rw [HS.out]; exact ⟨mb, bv, HW.out.1⟩, HW.out.2⟩

end Go.Proofs.Ytmmjhdkoccpdjaa
