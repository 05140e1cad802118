/- What pack's reader does: Name, Part. Conditions: a reader that Open, or Part, made. -/
import Derived.Test.YtmmjhdkoccpdjaaPackC
namespace Go.Proofs.Ytmmjhdkoccpdjaa
open Go Go.RowKit Go.Shelf
attribute [local go_sem] Oper.semAt_some wide_fn wide_depth

theorem gatherF_len (s : ByteArray) : ∀ (f : Nat) (n : List UInt8) (a fm b : Nat) (q : Bool), n.length ≤ 446 → (gatherF s f n a fm b q).1.length ≤ 446
  | 0, n, _, _, _, _, h => h
  | f + 1, n, a, fm, b, q, h => by
    rw [gatherF]
    split
    · next hlt =>
      split
      · exact h
      · next hz =>
        split
        · split
          · exact h
          · exact gatherF_len s f _ _ _ _ _ h
        · next h192 =>
          have hpc := (piece_cases s a).resolve_left hz
          have hl : (n ++ bl (pieceR s a)).length ≤ 446 := by
            rw [List.length_append, bl_size]
            have := s[a]!.toNat_lt
            omega
          split
          · exact hl
          · exact gatherF_len s f _ _ _ _ _ hl
    · exact h
theorem gather_len (s : ByteArray) (a : Nat) : (gatherR s a).1.length ≤ 446 := gatherF_len s _ _ _ _ _ _ (by simp)
theorem gatherF_le (s : ByteArray) : ∀ (f : Nat) (n : List UInt8) (a fm b : Nat) (q : Bool), b ≤ s.size → a ≤ s.size → (gatherF s f n a fm b q).2 ≤ s.size
  | 0, n, _, _, _, _, h, _ => h
  | f + 1, n, a, fm, b, q, h, ha => by
    have hb : (pieceR s a).size = 0 ∨ a + (pieceR s a).size ≤ s.size := by
      rcases piece_cases s a with h | h
      · exact .inl h
      · exact .inr h.2.1
    have hb2 : (if q then b else a + (pieceR s a).size) ≤ s.size := by split <;> omega
    rw [gatherF]
    split
    · split
      · exact hb2
      · next hz =>
        split
        · split
          · exact hb2
          · next hft =>
            by_cases htt : targetR (pieceR s a) ≤ s.size
            · exact gatherF_le s f _ _ _ _ _ hb2 htt
            · cases f with
              | zero => exact hb2
              | succ f =>
                have hp0 : pieceR s (targetR (pieceR s a)) = ⟨#[]⟩ := by rw [pieceR, if_pos (by omega)]
                rw [gatherF, hp0]
                split
                · rw [if_pos rfl]; exact hb2
                · exact hb2
        · split
          · exact hb2
          · exact gatherF_le s f _ _ _ _ _ hb2 (by omega)
    · exact h

/-- What Name answers. -/
def nameR (r : Rd) : ByteArray × Rd :=
  if isName ⟨(gatherR r.s r.at_).1.toArray⟩ then (⟨(gatherR r.s r.at_).1.toArray⟩, ⟨r.s, (gatherR r.s r.at_).2, r.bad⟩) else (⟨#[]⟩, Rd.failed)

set_option maxRecDepth 100000 in
set_option maxHeartbeats 2000000 in
theorem Name_any (B : Nat) (r : Rd) (w : World) (h : RdAt w B r) (hr : r.ok) :
    Calls Try.prog 47 #[.pointer (some ⟨B, 0, none⟩)] w fun e w' => e = .returned (.string (nameR r).1) ∧ RdAt w' B (nameR r).2 ∧ Keeps (fun k => k ≠ B) w w' := by
  have CN := Lib.hid (name_any B r w h hr)
  have hgl := gather_len r.s r.at_
  obtain ⟨g, hg⟩ : ∃ g, gatherR r.s r.at_ = g := ⟨_, rfl⟩
  have hnr : nameR r = if isName ⟨g.1.toArray⟩ then (⟨g.1.toArray⟩, ⟨r.s, g.2, r.bad⟩) else (⟨#[]⟩, Rd.failed) := by rw [nameR, hg]
  rw [hg] at CN hgl
  have hsz : (⟨g.1.toArray⟩ : ByteArray).size = g.1.length := by show g.1.toArray.size = _; simp
  obtain ⟨n, hn⟩ : ∃ n : ByteArray, (⟨g.1.toArray⟩ : ByteArray) = n := ⟨_, rfl⟩
  rw [hn] at CN hnr hsz
  have CC := Lib.hid fun W => Check_any n W (by unfold maxLen; omega)
  have Hnr := Lib.hid hnr
  have H := Lib.hid h
  obtain ⟨c, hcv⟩ : ∃ c, g.2 = c := ⟨_, rfl⟩
  rw [hcv] at CN Hnr
  clear hnr hn hg h hsz hgl hcv
  cases hc : isName n with
  | true =>
    have HR : Hid (nameR r = (n, ⟨r.s, c, r.bad⟩)) := Lib.hid (by rw [Hnr.out, hc]; rfl)
    rw [chk_name hc] at CC
    clear hc
    go_enter Try.func47, Try.ntmps47
    go_wp2_with fail
    refine CN.out.mono ?_
    rintro e w1 ⟨rfl, hx⟩
    have HX := Lib.hid hx; clear hx
    go_wp2_with fail
    refine (CC.out _).mono ?_
    rintro e w2 ⟨rfl, hx⟩
    have HX := Lib.hid (HX.out.trans hx); clear hx
    have hR2 := HX.out.keeps.rd H.out trivial
    obtain ⟨c0, c1, c2, f0, f1, f2⟩ := hR2.cells
    have HR2 := Lib.hid hR2; clear hR2
    go_wp2
    go_ret
    refine ⟨by rw [HR.out]; rfl, ?_, (HX.out.keeps.mono fun _ _ _ => trivial).setCell (p := ⟨B, 1, none⟩) (by simp) _⟩
    rw [HR.out]
    exact heap_setCell_same w2 B 1 _ _ (.int .i64 (c : Int)) HR2.out
  | false =>
    have HR : Hid (nameR r = (⟨#[]⟩, Rd.failed)) := Lib.hid (by rw [Hnr.out, hc]; rfl)
    rw [chk_none hc] at CC
    clear hc
    go_enter Try.func47, Try.ntmps47
    go_wp2_with fail
    refine CN.out.mono ?_
    rintro e w1 ⟨rfl, hx⟩
    have HX := Lib.hid hx; clear hx
    go_wp2_with fail
    refine (CC.out _).mono ?_
    rintro e w2 ⟨rfl, hx⟩
    have HX := Lib.hid (HX.out.trans hx); clear hx
    have CF := Lib.hid (fail_any B r w2 (HX.out.keeps.rd H.out trivial))
    go_wp2_with fail
    refine CF.out.mono ?_
    rintro e w3 ⟨⟨v, rfl⟩, hr1, hk1, _⟩
    have HP : Hid (_ ∧ _) := Lib.hid ⟨hr1, (HX.out.keeps.mono fun _ _ _ => trivial).trans hk1⟩
    clear hr1 hk1
    go_wp2
    go_ret
    exact ⟨by rw [HR.out]; rfl, by rw [HR.out]; exact HP.out.1, HP.out.2⟩

/-- What Part makes. -/
def partR (r : Rd) (n : Int) : Rd := if (rawR r n).2.bad then Rd.failed else ⟨(rawR r n).2.s.extract 0 (rawR r n).2.at_, r.at_, false⟩

/-- What a part lies at, and what is left. -/
def PartPost (B : Nat) (r : Rd) (n : Int) (w : World) (e : Ending) (w' : World) : Prop :=
  ∃ P, w.heap.size ≤ P ∧ e = .returned (.pointer (some ⟨P, 0, none⟩)) ∧ RdAt w' P (partR r n) ∧ RdAt w' B (rawR r n).2 ∧ Keeps (fun k => k ≠ B) w w'

theorem rawR_ok {r : Rd} (h : r.ok) (n : Int) : (rawR r n).2.ok := by
  unfold rawR
  split
  · exact ⟨Nat.le_refl _, Nat.zero_le _⟩
  · next hc =>
    obtain ⟨h1, h2⟩ := h
    unfold Rd.left at hc
    refine ⟨?_, h2⟩
    show r.at_ + n.toNat ≤ r.s.size
    omega

set_option maxRecDepth 100000 in
set_option maxHeartbeats 2000000 in
theorem Part_any (B : Nat) (r : Rd) (n : Int) (w : World) (h : RdAt w B r) (hr : r.ok) (hn : -9223372036854775808 ≤ n ∧ n ≤ 9223372036854775807) :
    Calls Try.prog 52 #[.pointer (some ⟨B, 0, none⟩), .int .i64 n] w (PartPost B r n w) := by
  have CR := Lib.hid (Raw_any B r n w h hr hn)
  obtain ⟨c0, c1, c2, f0, f1, f2⟩ := h.cells
  have hok := rawR_ok hr n
  have hB : B < w.heap.size := (Array.getElem?_eq_some_iff.1 h).1
  obtain ⟨h1, h2⟩ := hr
  have hpt : partR r n = if (rawR r n).2.bad then Rd.failed else ⟨(rawR r n).2.s.extract 0 (rawR r n).2.at_, r.at_, false⟩ := rfl
  obtain ⟨p, hp⟩ : ∃ p, r.at_ = p := ⟨_, rfl⟩
  rw [hp] at c1 h1 hpt
  obtain ⟨⟨t, s2, p2, bad2⟩, hq⟩ : ∃ q, rawR r n = q := ⟨_, rfl⟩
  have Hq := Lib.hid hq
  rw [hq] at hpt CR hok
  obtain ⟨k1, k2⟩ := hok
  simp only at k1 k2
  have Hpt := Lib.hid hpt
  have hmx : Try.prog.follows .mixedOrders = true := by kernel_rfl
  clear hq hpt h c0 c2 f0 f1 f2 hp
  go_enter Try.func52, Try.ntmps52
  go_wp2_with fail
  refine CR.out.mono ?_
  rintro e w1 ⟨rfl, hr1, hk1, hz1⟩
  obtain ⟨c0, c1', c2, f0, f1, f2⟩ := hr1.cells
  simp only at c0 c1' c2
  have HR1 := Lib.hid hr1; clear hr1
  have HK1 := Lib.hid hk1; clear hk1
  have Hz1 := Lib.hid hz1; clear hz1
  clear c1
  cases bad2 with
  | true =>
    go_wp2
    go_ret
    refine ⟨w1.heap.size, by rw [Hz1.out]; exact Nat.le_refl _, rfl, ?_, ?_, HK1.out.alloc _⟩
    · rw [Hpt.out]; exact World.alloc_heap_new w1 _
    · rw [Hq.out]; exact ((Keeps.refl (fun _ => True) w1).alloc _).rd HR1.out trivial
  | false =>
    have x1 : (p2 : Int) ≤ s2.size := by omega
    have x2 : (0 : Int) ≤ (p2 : Int) := by omega
    go_wp2_with fail
    go_region
    all_goals
      go_wp2
      go_ret
      refine ⟨w1.heap.size, by rw [Hz1.out]; exact Nat.le_refl _, rfl, ?_, ?_, (HK1.out.alloc _).drew⟩
      · rw [Hpt.out]; exact World.alloc_heap_new w1 _
      · rw [Hq.out]; exact ((Keeps.refl (fun _ => True) w1).alloc _).rd HR1.out trivial

end Go.Proofs.Ytmmjhdkoccpdjaa
