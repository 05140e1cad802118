/- What label's printByte and Print do. Conditions: strings that Go can hold. -/
import Derived.Test.YtmmjhdkoccpdjaaLabG
namespace Go.Proofs.Ytmmjhdkoccpdjaa
open Go Go.RowKit Go.Shelf
attribute [local go_sem] Oper.semAt_some wide_fn wide_depth

set_option maxHeartbeats 400000 in
theorem isPlain_any (c : Nat) (w : World) (hc : c ≤ 255) :
    Calls Try.prog 128 #[.int .u8 c] w fun e w' => e = .returned (.bool (plainB c)) ∧ w = w' := by
  by_cases h1 : 33 ≤ c
  · go_enter Try.func128, Try.ntmps128
    go_wp2
    go_ret
    exact ⟨by simp [plainB, h1]; omega, rfl⟩
  · go_enter Try.func128, Try.ntmps128
    go_wp2
    go_ret
    exact ⟨by simp [plainB]; omega, rfl⟩

set_option maxHeartbeats 400000 in
theorem isDigit_any (c : Nat) (w : World) (hc : c ≤ 255) :
    Calls Try.prog 138 #[.int .u8 c] w fun e w' => e = .returned (.bool (digitB c)) ∧ w = w' := by
  by_cases h1 : 48 ≤ c
  · go_enter Try.func138, Try.ntmps138
    go_wp2
    go_ret
    exact ⟨by simp [digitB, h1]; omega, rfl⟩
  · go_enter Try.func138, Try.ntmps138
    go_wp2
    go_ret
    exact ⟨by simp [digitB]; omega, rfl⟩

set_option maxRecDepth 100000 in
set_option maxHeartbeats 2000000 in
theorem printByte_any (b base : Nat) (l : List UInt8) (x : UInt8) (c : Nat) (hx : x.toNat = c) (w : World) (h : BB b base l w) (hlen : l.length ≤ 140737488355000) :
    Calls Try.prog 108 #[.pointer (some ⟨b, 0, none⟩), .int .u8 c] w fun e w' => e = .returned (.tuple #[]) ∧ BB b base (l ++ escB x) w' ∧ Keeps (fun k => k ≠ b ∧ k < base) w w' := by
  have hc : c ≤ 255 := by have := x.toNat_lt; omega
  have HP := Lib.hid (isPlain_any c w hc)
  have Hx := Lib.hid hx; clear hx
  have Hh := Lib.hid h; clear h
  go_enter Try.func108, Try.ntmps108
  go_wp2_with fail
  refine HP.out.mono ?_
  rintro e w' ⟨rfl, rfl⟩
  clear HP
  cases hp : plainB c with
  | false =>
    have Hp := Lib.hid hp; clear hp
    go_wp2_with fail
    refine (WriteByte_any b base _ 92 _ (by simp) _ Hh.out (by simp; omega)).mono ?_
    rintro e w1 ⟨rfl, hb1, hk1⟩
    have Hb1 := Lib.hid hb1; clear hb1
    have Hk1 := Lib.hid hk1; clear hk1
    go_wp2_with fail
    refine (WriteByte_any b base _ (UInt8.ofNat (48 + c / 100)) _ (by simp; omega) _ Hb1.out (by simp; omega)).mono ?_
    rintro e w2 ⟨rfl, hb2, hk2⟩
    have Hb2 := Lib.hid hb2; clear hb2
    have Hk2 := Lib.hid (Hk1.out.trans hk2); clear hk2
    go_wp2_with fail
    refine (WriteByte_any b base _ (UInt8.ofNat (48 + c / 10 % 10)) _ (by simp; omega) _ Hb2.out (by simp; omega)).mono ?_
    rintro e w3 ⟨rfl, hb3, hk3⟩
    have Hb3 := Lib.hid hb3; clear hb3
    have Hk3 := Lib.hid (Hk2.out.trans hk3); clear hk3
    go_wp2_with fail
    refine (WriteByte_any b base _ (UInt8.ofNat (48 + c % 10)) _ (by simp; omega) _ Hb3.out (by simp; omega)).mono ?_
    rintro e w4 ⟨rfl, hb4, hk4⟩
    have Hb4 := Lib.hid hb4; clear hb4
    have Hk4 := Lib.hid (Hk3.out.trans hk4); clear hk4
    clear Hb1 Hb2 Hb3 Hk1 Hk2 Hk3 Hh
    go_wp2
    go_end0
    refine ⟨rfl, ?_, Hk4.out⟩
    have he : escB x = [92, UInt8.ofNat (48 + c / 100), UInt8.ofNat (48 + c / 10 % 10), UInt8.ofNat (48 + c % 10)] := by rw [escB, Hx.out, if_pos Hp.out]
    rw [he]
    simpa using Hb4.out
  | true =>
    have Hp := Lib.hid hp; clear hp
    by_cases hq : c = 46 ∨ c = 92
    · have Hq := Lib.hid hq
      have he : Hid (escB x = [92, x]) := Lib.hid (by rw [escB, Hx.out, if_neg (by rw [Hp.out]; simp), if_pos hq])
      have h46 : ((c : Int) == 46) = true ∨ (((c : Int) == 46) = false ∧ ((c : Int) == 92) = true) := by
        rcases hq with rfl | rfl
        · left; rfl
        · right; exact ⟨rfl, rfl⟩
      clear hq
      rcases h46 with h46 | ⟨h46, h92⟩
      all_goals
        go_wp2_with fail
        refine (WriteByte_any b base _ 92 _ (by simp) _ Hh.out (by simp; omega)).mono ?_
        rintro e w1 ⟨rfl, hb1, hk1⟩
        have Hb1 := Lib.hid hb1; clear hb1
        have Hk1 := Lib.hid hk1; clear hk1
        go_wp2_with fail
        refine (WriteByte_any b base _ x _ (by rw [Hx.out]) _ Hb1.out (by simp; omega)).mono ?_
        rintro e w2 ⟨rfl, hb2, hk2⟩
        have Hb2 := Lib.hid hb2; clear hb2
        have Hk2 := Lib.hid (Hk1.out.trans hk2); clear hk2
        go_wp2
        go_end0
        exact ⟨rfl, by rw [he.out]; simpa using Hb2.out, Hk2.out⟩
    · have he : Hid (escB x = [x]) := Lib.hid (by rw [escB, Hx.out, if_neg (by rw [Hp.out]; simp), if_neg hq])
      have h46 : ((c : Int) == 46) = false := by rw [beq_eq_false_iff_ne]; omega
      have h92 : ((c : Int) == 92) = false := by rw [beq_eq_false_iff_ne]; omega
      clear hq
      go_wp2_with fail
      refine (WriteByte_any b base _ x _ (by rw [Hx.out]) _ Hh.out (by simp; omega)).mono ?_
      rintro e w1 ⟨rfl, hb1, hk1⟩
      have Hb1 := Lib.hid hb1; clear hb1
      have Hk1 := Lib.hid hk1; clear hk1
      go_wp2
      go_end0
      exact ⟨rfl, by rw [he.out]; exact Hb1.out, Hk1.out⟩

set_option maxRecDepth 100000 in
set_option maxHeartbeats 4000000 in
theorem Print_any (s : ByteArray) (w : World) (hs : s.size ≤ maxLen) :
    Calls Try.prog 71 #[.string s] w fun e w' => e = .returned (.tuple #[.string (printR s).1, .int .i64 (printR s).2]) ∧ Ext w w' := by
  have HC : Hid (∀ W, Calls Try.prog 18 #[.string s] W fun e w' => e = .returned (.int .i64 (chk s)) ∧ Ext W w') := Lib.hid fun W => Check_any s W hs
  refine (callsIn_wide (n := 9)).1 ?_
  refine callsIn_of_wp_marks Try.func71 rfl trivial ?_ rfl
  simp only [Try.ntmps71, List.size_toArray, List.length_cons, List.length_nil, Nat.reduceAdd, Nat.reduceSub, Array.replicate_succ, Array.replicate_zero, List.push_toArray, List.append_toArray, List.nil_append, List.cons_append]
  gi_wp2_with fail
  refine (callsIn_wide.2 (HC.out _)).mono ?_
  rintro e w1 ⟨rfl, hx1⟩
  have HX1 := Lib.hid hx1; clear hx1
  cases hn : isName s with
  | false =>
    rw [show chk s = 2 from by simp [chk, hn]]
    have Hn := Lib.hid hn; clear hn
    gi_wp2
    exact ⟨.tuple #[.string ⟨#[]⟩, .int .i64 2], by simp [results, Try.f71, go_sem], by simp [printR, Hn.out], HX1.out⟩
  | true =>
    rw [show chk s = 0 from by simp [chk, hn]]
    have hn255 : s.size ≤ 255 := by simp [isName] at hn; exact hn.1
    have Hn := Lib.hid hn; clear hn
    cases hr : (s.toList == [0]) with
    | true =>
      gi_wp2
      exact ⟨.tuple #[.string ⟨#[46]⟩, .int .i64 0], by simp [results, Try.f71, go_sem], by rw [printR, if_neg (by rw [Hn.out]; simp), if_pos hr], HX1.out⟩
    | false =>
      gi_wp2_with (gi_at_call 75; refine (callsIn_wide.2 (Labels_any _ _)).mono ?_; rintro e w' ⟨rfl, rfl⟩)
      have hN : Boxed ((w1.alloc (.cells #[.pointer none, .slice none 0 0] 117)).alloc (.cells #[.string s] 9)) (w1.heap.size + 1) 9 (.string s) := by have := Boxed.new (w1.alloc (.cells #[.pointer none, .slice none 0 0] 117)) 9 (.string s); simpa using this
      have hF : ((w1.alloc (.cells #[.pointer none, .slice none 0 0] 117)).alloc (.cells #[.string s] 9)).heap[w1.heap.size]? = some (.cells #[.pointer none, .slice none 0 0] 117 (0, 0)) :=
        (Below.heap_alloc _ _ _ (by simp)).trans (World.alloc_heap_new w1 _)
      have hX : Ext w ((w1.alloc (.cells #[.pointer none, .slice none 0 0] 117)).alloc (.cells #[.string s] 9)) := (HX1.out.alloc _).alloc _
      have hz : ((w1.alloc (.cells #[.pointer none, .slice none 0 0] 117)).alloc (.cells #[.string s] 9)).heap.size = w1.heap.size + 2 := by simp
      have hw1 := HX1.out.size
      generalize (w1.alloc (.cells #[.pointer none, .slice none 0 0] 117)).alloc (.cells #[.string s] 9) = w2 at hN hF hX hz ⊢
      have Hr := Lib.hid hr; clear hr
      have hsz := sizeL_labelsB s
      refine wpIn_rangeX rfl wide_room (gf := 114) (lb := #[.pointer (some ⟨w1.heap.size + 1, 0, none⟩)]) rfl trivial (enters_of Try.func114 (by kernel_rfl) rfl)
        (labels1_seq _ _ s hs w2 hN.cell) (Keeps.refl _ _) (fun k h => by rw [hz]; subst h; omega) (fun _ => rfl)
        (fun D pre A => BB w1.heap.size D (textL pre) A ∧ Keeps (fun k => k < w.heap.size) w A)
        (fun _ _ _ _ => False)
        (fun D pre A A' h k => ⟨h.1.keep k (by omega) (fun _ h => .inr h), h.2.trans (k.mono fun _ _ h => by omega)⟩)
        (fun _ _ _ _ _ h _ => h)
        (fun D W h1 h2 h => ⟨BB.fresh (h.heap hF (by omega)) h2, (hX.keeps.mono fun _ _ _ => trivial).trans (h.mono fun _ _ h => by omega)⟩)
        (fun _ x a' _ => a' = { tmps := #[.string s, undef, .string ⟨#[]⟩, .int .i64 0, .pointer (some ⟨w1.heap.size, 0, none⟩), .string x, undef, .string s, .int .i64 0, .bool false, .string s, .bool false, .string s, .func (.func 114) #[] #[.pointer (some ⟨w1.heap.size + 1, 0, none⟩)], .string x, undef, undef, undef, undef, undef, undef, undef, undef, undef, undef, undef, undef], defers := [] })
        (fun _ _ _ _ _ h _ => h) ?assign ?body ?done ?stop
      case assign =>
        intro l D x W K _ hK
        gi_wp2
        exact hK _ _ (Keeps.refl _ _) rfl
      case body =>
        rintro l D pre x rest a' W hx hD hDW ⟨r, hr⟩ ⟨hb, hk⟩ rfl
        have hsum : sizeL pre + (1 + x.size) ≤ 255 := by
          have h1 : labelsB s = (pre ++ [x]) ++ rest := by rw [hx]; simp
          have h2 := sizeL_append (pre ++ [x]) rest
          rw [← h1, sizeL_snoc] at h2
          omega
        have htl := textL_length pre
        have Hb := Lib.hid hb; clear hb
        have Hk := Lib.hid hk; clear hk
        have Hx := Lib.hid hx; clear hx
        clear hsz
        gi_wp2_with fail
        gi_loopw [17] (fun i wr => ∃ k : Nat, k ≤ x.size ∧ i = .int .i64 k ∧ BB w1.heap.size D (textL pre ++ ((x.data.toList.take k).map escB).flatten) wr ∧ Keeps (fun j => j ≠ w1.heap.size ∧ j < D) W wr)
          (fun i _ => x.size - (intOf i).toNat)
        case atStart => exact ⟨0, Nat.zero_le _, rfl, by simpa using Hb.out, Keeps.refl _ _⟩
        case round =>
          obtain ⟨k, hkk, rfl, hbb, hkw⟩ := hrel
          have hcur : (textL pre ++ ((x.data.toList.take k).map escB).flatten).length ≤ 4 * 255 := by
            have h1 := flat_esc_length (x.data.toList.take k)
            have h2 : (x.data.toList.take k).length ≤ k := List.length_take_le _ _
            rw [List.length_append]; omega
          have Hkw := Lib.hid hkw; clear hkw
          by_cases hlt : k < x.size
          · have hts : Hid (x.data.toList.take (k + 1) = x.data.toList.take k ++ [x[k]]) := Lib.hid (by
              rw [List.take_succ_eq_append_getElem (by exact hlt)]; rfl)
            have HP := Lib.hid (printByte_any w1.heap.size D _ x[k] x[k].toNat rfl wr hbb (by omega))
            have hc255 : x[k].toNat ≤ 255 := by have := x[k].toNat_lt; omega
            clear hbb
            gi_wp2_with fail
            refine ((callsIn_wide.2 HP.out).inRound l).mono ?_
            rintro e w3 ⟨rfl, hb3, hk3⟩
            have Hb3 := Lib.hid hb3; clear hb3
            have Hk3 := Lib.hid hk3; clear hk3
            clear HP
            gi_wp2
            go_roundw
            case rel => exact ⟨k + 1, by omega, by simp, by rw [hts.out, List.map_append, List.flatten_append]; simpa using Hb3.out, Hkw.out.trans Hk3.out⟩
            case measure => simp [intOf]; omega
          · obtain rfl : k = x.size := by omega
            have htake : x.data.toList.take x.size = x.data.toList := List.take_of_length_le (Nat.le_refl _)
            rw [htake] at hbb hcur
            have HW := Lib.hid (WriteByte_any w1.heap.size D _ 46 46 (by simp) wr hbb (by omega))
            clear hbb htake
            gi_wp2_with fail
            refine ((callsIn_wide.2 HW.out).inRound l).mono ?_
            rintro e w3 ⟨rfl, hb3, hk3⟩
            have Hb3 := Lib.hid hb3; clear hb3
            have Hk3 := Lib.hid (Hkw.out.trans hk3); clear hk3
            clear HW
            gi_wp2
            exact ⟨Hk3.out.mono fun k _ h => by omega, by rw [textL_snoc]; exact Hb3.out, Hk.out.trans (Hk3.out.mono fun k _ h => by omega)⟩
      case done =>
        rintro D W hD hDW ⟨hb, hk⟩ hd
        have hne : textL (labelsB s) ≠ [] := textL_ne (labelsB_ne Hn.out Hr.out)
        have HS := Lib.hid (String_any w1.heap.size D _ W hb hne)
        have Hk := Lib.hid hk; clear hk
        have Hd := Lib.hid hd; clear hd
        clear hb hne hsz
        gi_wp2_with fail
        refine (callsIn_wide.2 HS.out).mono ?_
        rintro e w3 ⟨rfl, hk3⟩
        have hd3 := hk3.heap Hd.out hD
        rw [hz] at hd3
        have Hk3 := Lib.hid hk3; clear hk3
        have Hd3 := Lib.hid hd3; clear hd3
        gi_wp2
        refine ⟨by simp, .inl ⟨_, _, rfl, run_takeDeferred Hd3.out, ?_⟩⟩
        refine ⟨.tuple #[.string ⟨(textL (labelsB s)).toArray⟩, .int .i64 0], by simp [results, Try.f71, go_sem], by rw [printR, if_neg (by rw [Hn.out]; simp), if_neg (by rw [Hr.out]; simp)], ?_⟩
        exact ((Hk.out.trans (Hk3.out.mono fun k _ h => by omega)).putObj (by omega) _).ext (fun _ h => h)
      case stop =>
        rintro c D pre x rest W _ _ _ h
        exact h.elim

end Go.Proofs.Ytmmjhdkoccpdjaa
