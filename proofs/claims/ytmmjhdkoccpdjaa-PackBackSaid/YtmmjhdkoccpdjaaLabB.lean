/- What label's Check does. Conditions: strings that Go can hold. -/
import Derived.Test.YtmmjhdkoccpdjaaLabA
namespace Go.Proofs.Ytmmjhdkoccpdjaa
open Go Go.RowKit Go.Shelf
attribute [local go_sem] Oper.semAt_some wide_fn wide_depth

set_option maxRecDepth 100000 in
set_option maxHeartbeats 2000000 in
theorem Check_any (s : ByteArray) (w : World) (hs : s.size ≤ maxLen) :
    Calls Try.prog 18 #[.string s] w fun e w' => e = .returned (.int .i64 (chk s)) ∧ Below w.heap.size w w' := by
  by_cases h1 : s.size ≤ 255
  · refine (callsIn_wide (n := 9)).1 ?_
    refine callsIn_of_wp_marks Try.func18 rfl trivial ?_ rfl
    simp only [Try.ntmps18, List.size_toArray, List.length_cons, List.length_nil, Nat.reduceAdd, Nat.reduceSub, Array.replicate_succ, Array.replicate_zero, List.push_toArray, List.append_toArray, List.nil_append, List.cons_append]
    gi_wp2_with (gi_at_call 74; refine (callsIn_wide.2 (ends_any _ _)).mono ?_; rintro e w' ⟨rfl, rfl⟩)
    have hB : Boxed ((w.alloc (.cells #[.int .i64 0] 3)).alloc (.cells #[.string s] 9)) w.heap.size 3 (.int .i64 0) := (Boxed.new w 3 _).alloc _
    have hN : Boxed ((w.alloc (.cells #[.int .i64 0] 3)).alloc (.cells #[.string s] 9)) (w.heap.size + 1) 9 (.string s) := by have := Boxed.new (w.alloc (.cells #[.int .i64 0] 3)) 9 (.string s); simpa using this
    have hK : Keeps (fun k => k < w.heap.size) w ((w.alloc (.cells #[.int .i64 0] 3)).alloc (.cells #[.string s] 9)) := ((Keeps.refl _ _).alloc _).alloc _
    have hz : ((w.alloc (.cells #[.int .i64 0] 3)).alloc (.cells #[.string s] 9)).heap.size = w.heap.size + 2 := by simp
    generalize (w.alloc (.cells #[.int .i64 0] 3)).alloc (.cells #[.string s] 9) = w2 at hB hN hK hz ⊢
    refine wpIn_rangeX rfl wide_room (gf := 113) (lb := #[.pointer (some ⟨w.heap.size + 1, 0, none⟩)]) rfl trivial (enters_of Try.func113 (by kernel_rfl) rfl)
      (ends1_seq _ _ s hs w2 hN.cell) (Keeps.refl _ _) (fun k h => by rw [hz]; subst h; omega) (fun _ => rfl)
      (fun _ pre W => Boxed W w.heap.size 3 (.int .i64 (pre.getLastD 0 : Nat)) ∧ Keeps (fun k => k < w.heap.size) w W)
      (fun _ _ _ _ => False)
      (fun D pre A A' h k => ⟨k.boxed h.1 (by omega), h.2.trans (k.mono fun _ _ h => by omega)⟩)
      (fun _ _ _ _ _ h _ => h)
      (fun D W _ _ h => ⟨h.boxed hB (by omega), hK.trans (h.mono fun _ _ h => by omega)⟩)
      (fun _ x a' _ => a' = { tmps := #[.string s, undef, .int .i64 0, .pointer (some { block := w.heap.size, off := 0 }), .int .i64 x, .string s, .int .i64 s.size, .bool (decide (255 < (s.size : Int))), .string s, .func (.func 113) #[] #[.pointer (some { block := w.heap.size + 1, off := 0 })], .int .i64 x, undef, undef, undef, undef, undef], defers := [] })
      (fun _ _ _ _ _ h _ => h) ?assign ?body ?done ?stop
    case assign =>
      intro l D x W K _ hK
      gi_wp2
      exact hK _ _ (Keeps.refl _ _) rfl
    case body =>
      rintro l D pre x rest a' W hx hD hDW ⟨r, hr⟩ ⟨hb, hk⟩ rfl
      have hc := hb.cell
      have hf := hb.frozen
      have Hb := Lib.hid hb; clear hb
      have Hk := Lib.hid hk; clear hk
      have Hx := Lib.hid hx; clear hx
      gi_wp2
      exact ⟨(Keeps.refl _ _).setCell (p := ⟨w.heap.size, 0, none⟩) (by simp; omega) _, by simpa using Hb.out.set (.int .i64 x), Hk.out.setCell (p := ⟨w.heap.size, 0, none⟩) (by simp) _⟩
    case done =>
      rintro D W hD hDW ⟨hb, hk⟩ hd
      have hle := lastE_le s
      have hee : (endsE s 0).getLastD 0 = lastE s := rfl
      rw [hee] at hb
      clear hee
      obtain ⟨e, he⟩ : ∃ e, lastE s = e := ⟨_, rfl⟩
      rw [he] at hle hb
      have hc := hb.cell
      have hf := hb.frozen
      have Hb := Lib.hid hb; clear hb
      have Hk := Lib.hid hk; clear hk
      have Hd := Lib.hid hd; clear hd
      have He := Lib.hid he; clear he
      cases h2 : ((s.extract e s.size).toList == [0]) with
      | true =>
        gi_wp2
        refine ⟨by simp, .inl ⟨_, _, rfl, run_takeDeferred Hd.out, ?_⟩⟩
        exact ⟨_, results_tmp rfl _ _ _, by simp [chk, isName, h1, He.out, h2], (Hk.out.putObj (by omega) _).below (Nat.le_refl _) (fun _ h => h)⟩
      | false =>
        gi_wp2
        refine ⟨by simp, .inl ⟨_, _, rfl, run_takeDeferred Hd.out, ?_⟩⟩
        exact ⟨_, results_tmp rfl _ _ _, by simp [chk, isName, h1, He.out, h2], (Hk.out.putObj (by omega) _).below (Nat.le_refl _) (fun _ h => h)⟩
    case stop =>
      rintro c D pre x rest W _ _ _ h
      exact h.elim
  · unfold maxLen at hs
    go_enter Try.func18, Try.ntmps18
    go_wp2
    go_ret
    exact ⟨by simp [chk, isName, h1], Below.refl _ _⟩

end Go.Proofs.Ytmmjhdkoccpdjaa
