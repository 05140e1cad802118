/- What label's Join does. Conditions: strings that Go can hold; as many labels as a slice can have. -/
import Derived.Test.YtmmjhdkoccpdjaaLabF
import Derived.Test.YtmmjhdkoccpdjaaBuild
namespace Go.Proofs.Ytmmjhdkoccpdjaa
open Go Go.RowKit Go.Shelf

/-- The slice value sv holds the strings ss. -/
def Strs (W : World) (sv : Value) (ss : List ByteArray) : Prop :=
  (sv = .slice none 0 0 ∧ ss = []) ∨ ∃ b off cap, sv = .slice (some ⟨b, off, none⟩) ss.length cap ∧ ∀ j, j < ss.length → W.cell? ⟨b, off + j, none⟩ = some (.string (ss[j]?.getD ⟨#[]⟩))
theorem Strs.ext {A B : World} (h : Ext A B) {sv : Value} {ss : List ByteArray} : Strs A sv ss → Strs B sv ss
  | .inl e => .inl e
  | .inr ⟨b, off, cap, e, hc⟩ => .inr ⟨b, off, cap, e, fun j hj => h.keeps.cell (hc j hj) trivial⟩
theorem take_snoc {α : Type} (l : List α) (k : Nat) (d : α) (h : k < l.length) : l.take (k + 1) = l.take k ++ [l[k]?.getD d] := by
  rw [List.take_succ_eq_append_getElem h, List.getElem?_eq_getElem h]; rfl

set_option maxRecDepth 100000 in
set_option maxHeartbeats 2000000 in
theorem Join_any (n : ByteArray) (sv : Value) (ls : List ByteArray) (w : World) (hs : n.size ≤ maxLen) (hsv : Strs w sv ls) (hlen : ls.length ≤ 140737488355328) (hll : ∀ x ∈ ls, x.size ≤ maxLen) :
    Calls Try.prog 72 #[.string n, sv] w fun e w' => e = .returned (.tuple #[.string (joinR n ls).1, .int .i64 (joinR n ls).2]) ∧ Ext w w' := by
  have HC : Hid (∀ W, Calls Try.prog 18 #[.string n] W fun e w' => e = .returned (.int .i64 (chk n)) ∧ Ext W w') := Lib.hid fun W => Check_any n W hs
  obtain ⟨ao, cap, rfl⟩ : ∃ ao cap, sv = .slice ao ls.length cap := by
    rcases hsv with ⟨rfl, rfl⟩ | ⟨b, off, cap, rfl, _⟩
    · exact ⟨_, _, rfl⟩
    · exact ⟨_, _, rfl⟩
  have Hsv : Hid (∀ k, k < ls.length → ∃ b off, ao = some ⟨b, off, none⟩ ∧ w.cell? ⟨b, off + k, none⟩ = some (.string (ls[k]?.getD ⟨#[]⟩))) := Lib.hid fun k hk => by
    rcases hsv with ⟨_, rfl⟩ | ⟨b, off, cap', he, hc⟩
    · simp at hk
    · cases he; exact ⟨b, off, rfl, hc k hk⟩
  clear hsv
  have Hll := Lib.hid hll; clear hll
  unfold maxLen at hs
  go_enter Try.func72, Try.ntmps72
  go_wp2_with fail
  refine (HC.out _).mono ?_
  rintro e w1 ⟨rfl, hx1⟩
  have HX1 := Lib.hid hx1; clear hx1
  cases hn : isName n with
  | false =>
    rw [show chk n = 2 from by simp [chk, hn]]
    have Hn := Lib.hid hn; clear hn
    go_wp2
    go_ret2
    exact ⟨by simp [joinR, Hn.out], HX1.out⟩
  | true =>
    rw [show chk n = 0 from by simp [chk, hn]]
    have hn255 : n.size ≤ 255 := by simp [isName] at hn; exact hn.1
    have Hn := Lib.hid hn; clear hn
    go_wp2_with fail
    go_loop [6, 19] (fun z i => ∃ k : Nat, k ≤ ls.length ∧ i = .int .i64 k ∧ z = .int .i64 ((n.size + sizeL (ls.take k) : Nat) : Int) ∧ (ls.take k).all (fun x => isLab x.size) = true)
      (fun _ i => ls.length - (intOf i).toNat)
    case atStart => exact ⟨0, Nat.zero_le _, rfl, by simp [sizeL], by simp⟩
    case round =>
      obtain ⟨k, hk, rfl, rfl, hall⟩ := hrel
      have hsum : sizeL (ls.take k) ≤ 64 * k := by
        have h1 := sizeL_le (ls.take k) (fun x hx => by have := List.all_eq_true.1 hall x hx; simp [isLab] at this; omega)
        have h2 : (ls.take k).length ≤ k := List.length_take_le _ _
        omega
      by_cases hlt : k < ls.length
      · obtain ⟨b, off, rfl, hc⟩ := Hsv.out k hlt
        have hc1 := HX1.out.keeps.cell hc trivial
        clear hc
        have hts := take_snoc ls k ⟨#[]⟩ hlt
        have hmem : (ls[k]?.getD ⟨#[]⟩) ∈ ls := by rw [List.getElem?_eq_getElem hlt]; exact List.getElem_mem hlt
        obtain ⟨x, hx⟩ : ∃ x, ls[k]?.getD ⟨#[]⟩ = x := ⟨_, rfl⟩
        rw [hx] at hc1 hts hmem
        clear hx
        have HL : Hid (Calls Try.prog 111 #[.string x] w1 fun e w' => e = .returned (.bool (isLab x.size)) ∧ w1 = w') := Lib.hid (isLabel_any x w1 (Hll.out x hmem))
        have Hts := Lib.hid hts; clear hts
        have Hall := Lib.hid hall; clear hall
        have Hmem := Lib.hid hmem; clear hmem
        obtain ⟨sz, hsz⟩ : ∃ sz, sizeL (ls.take k) = sz := ⟨_, rfl⟩
        rw [hsz] at hsum
        have Hsz := Lib.hid hsz
        rw [Hsz.out]
        clear hsz
        cases hl : isLab x.size with
        | true =>
          have hx63 : x.size ≤ 63 := by simp [isLab] at hl; omega
          have Hl := Lib.hid hl; clear hl
          go_wp2_with (go_at_call 111; refine HL.out.mono ?_; rintro e w' ⟨rfl, rfl⟩; rw [Hl.out])
          go_round
          case rel => exact ⟨k + 1, by omega, by simp, by rw [Hts.out, sizeL_snoc, Hsz.out]; simp; omega, by rw [Hts.out, List.all_append, Hall.out]; simp [Hl.out]⟩
          case measure => simp [intOf]; omega
        | false =>
          have Hl := Lib.hid hl; clear hl
          go_wp2_with (go_at_call 111; refine HL.out.mono ?_; rintro e w' ⟨rfl, rfl⟩; rw [Hl.out])
          go_ret2
          have hno : ls.all (fun x => isLab x.size) = false := by
            rw [List.all_eq_false]
            exact ⟨x, Hmem.out, by simp [Hl.out]⟩
          exact ⟨by simp [joinR, Hn.out, hno], HX1.out⟩
      · obtain rfl : k = ls.length := by omega
        rw [List.take_length] at hall hsum ⊢
        have Hall := Lib.hid hall; clear hall
        clear hlt hk
        obtain ⟨sz, hsz⟩ : ∃ sz, sizeL ls = sz := ⟨_, rfl⟩
        rw [hsz] at hsum ⊢
        have Hsz := Lib.hid hsz; clear hsz
        by_cases hbig : 255 < n.size + sz
        · go_wp2
          go_ret2
          exact ⟨by simp [joinR, Hn.out, Hall.out, Hsz.out, hbig], HX1.out⟩
        · go_wp2_with fail
          have hfr : Hid (BB w1.heap.size w1.heap.size [] (w1.alloc (.cells #[.pointer none, .slice none 0 0] 117))) :=
            Lib.hid (BB.fresh (World.alloc_heap_new w1 _) (by simp))
          have Hbig := Lib.hid hbig; clear hbig
          go_loopw [36] (fun i wr => ∃ k : Nat, k ≤ ls.length ∧ i = .int .i64 k ∧ BB w1.heap.size w1.heap.size (encL (ls.take k)) wr ∧ Keeps (fun j => j < w1.heap.size) w1 wr)
            (fun i _ => ls.length - (intOf i).toNat)
          case atStart => exact ⟨0, Nat.zero_le _, rfl, by simpa [encL] using hfr.out, (Keeps.refl _ _).alloc _⟩
          case round =>
            obtain ⟨k, hk, rfl, hbb, hkw⟩ := hrel
            have hbl : (encL (ls.take k)).length ≤ 255 := by
              rw [encL_length]
              have h1 := Hsz.out
              have h2 : sizeL (ls.take k) ≤ sizeL ls := by
                have h3 := sizeL_append (ls.take k) (ls.drop k)
                rw [List.take_append_drop] at h3
                omega
              have h4 := Hbig.out
              omega
            by_cases hlt : k < ls.length
            · obtain ⟨b, off, rfl, hc⟩ := Hsv.out k hlt
              have hbw1 : b < w1.heap.size := by
                have h1 := World.block_lt_of_cell? w ⟨b, off + k, none⟩ hc
                have h2 := HX1.out.size
                simp only at h1
                omega
              have hc1 := hkw.cell (HX1.out.keeps.cell hc trivial) hbw1
              clear hc
              have hts := take_snoc ls k ⟨#[]⟩ hlt
              have hmem : (ls[k]?.getD ⟨#[]⟩) ∈ ls := by rw [List.getElem?_eq_getElem hlt]; exact List.getElem_mem hlt
              obtain ⟨x, hx⟩ : ∃ x, ls[k]?.getD ⟨#[]⟩ = x := ⟨_, rfl⟩
              rw [hx] at hc1 hts hmem
              clear hx
              have hx63 : x.size ≤ 63 := by have := List.all_eq_true.1 Hall.out x hmem; simp [isLab] at this; omega
              have Hts := Lib.hid hts; clear hts
              have HWB := Lib.hid (WriteByte_any w1.heap.size w1.heap.size (encL (ls.take k)) (UInt8.ofNat x.size) x.size (by simp; omega) wr hbb (by omega))
              have Hkw := Lib.hid hkw; clear hkw
              clear hmem hbb
              go_wp2_with fail
              refine HWB.out.mono ?_
              rintro e w2 ⟨rfl, hb2, hk2⟩
              have HWS := Lib.hid (WriteString_any w1.heap.size w1.heap.size _ x w2 hb2 (by simp; omega))
              have Hk2 := Lib.hid hk2; clear hk2
              clear hb2 HWB
              go_wp2_with fail
              refine HWS.out.mono ?_
              rintro e w3 ⟨rfl, hb3, hk3⟩
              have Hb3 := Lib.hid hb3; clear hb3
              have Hk3 := Lib.hid hk3; clear hk3
              clear HWS
              go_wp2
              go_roundw
              case rel => exact ⟨k + 1, by omega, by simp, by rw [Hts.out, encL_snoc]; simpa using Hb3.out, Hkw.out.trans ((Hk2.out.mono fun j _ h => by omega).trans (Hk3.out.mono fun j _ h => by omega))⟩
              case measure => simp [intOf]; omega
            · obtain rfl : k = ls.length := by omega
              rw [List.take_length] at hbb hbl
              have HWS := Lib.hid (WriteString_any w1.heap.size w1.heap.size _ n wr hbb (by omega))
              have Hkw := Lib.hid hkw; clear hkw
              clear hbb hlt hk
              go_wp2_with fail
              refine HWS.out.mono ?_
              rintro e w2 ⟨rfl, hb2, hk2⟩
              have hne : encL ls ++ n.data.toList ≠ [] := by
                intro h0
                have h1 := (List.append_eq_nil_iff.1 h0).2
                have h2 := isName_pos Hn.out
                have h3 : n.data.toList.length = n.size := rfl
                rw [h1] at h3
                simp at h3
                omega
              have HS := Lib.hid (String_any w1.heap.size w1.heap.size _ w2 hb2 hne)
              have Hk2 := Lib.hid hk2; clear hk2
              clear hb2 HWS hne
              go_wp2_with fail
              refine HS.out.mono ?_
              rintro e w3 ⟨rfl, hk3⟩
              have Hk3 := Lib.hid hk3; clear hk3
              clear HS
              go_wp2
              go_ret2
              refine ⟨by simp [joinR, Hn.out, Hall.out, Hsz.out, Hbig.out], HX1.out.trans (((Hkw.out.trans (Hk2.out.mono fun j _ h => by omega)).trans Hk3.out).ext fun _ h => h)⟩

end Go.Proofs.Ytmmjhdkoccpdjaa
