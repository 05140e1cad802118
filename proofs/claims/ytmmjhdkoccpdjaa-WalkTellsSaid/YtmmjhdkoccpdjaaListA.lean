/- What hardtacklaw02.list does: the names up from one, as a slice. Conditions: a string that Go can hold. -/
import Derived.Test.YtmmjhdkoccpdjaaSortD
namespace Go.Proofs.Ytmmjhdkoccpdjaa
open Go Go.RowKit Go.Shelf
attribute [local go_sem] Oper.semAt_some wide_fn wide_depth

theorem equalIn_func {P : Program} (d : Nat) (t : TypeId) (f : Fn) (ts vs : Array Value) (w : World) {a b : Array TypeId} {c : Bool} (h : P.underlying t = some (.func a b c)) : (Op.equalIn (d + 1) t (.func f ts vs) .nilFunc).run P w = .ok false w := by
  simp [Op.equalIn, run_underlying h]
theorem eql_func (f : Fn) (ts vs : Array Value) (w : World) : (binOp .eql 40 (.func f ts vs) .nilFunc).run Try.prog w = .ok (.bool false) w := by
  have h := equalIn_func (P := Try.prog) 9999 40 f ts vs w Try.underlying40
  have h2 : (binOp .eql 40 (.func f ts vs) .nilFunc) = (do pure (.bool (← Op.equalIn 10000 40 (.func f ts vs) .nilFunc))) := rfl
  rw [h2, Sem.run_bind, h]
  rfl
theorem upB_len : ∀ (n : Nat) (s : ByteArray), s.size ≤ n → (upB s).length ≤ s.size := by
  intro n
  induction n with
  | zero =>
    intro s h
    cases hn : isName s with
    | false => rw [upB_none hn]; exact Nat.zero_le _
    | true => have := isName_pos hn; omega
  | succ n ih =>
    intro s h
    cases hn : isName s with
    | false => rw [upB_none hn]; exact Nat.zero_le _
    | true =>
      have hs := parentR_size hn
      have := ih (parentR s).1 (by omega)
      rw [upB_cons hn, List.length_cons]
      omega
theorem upB_len255 (s : ByteArray) : (upB s).length ≤ 255 := by
  cases hn : isName s with
  | false => rw [upB_none hn]; exact Nat.zero_le _
  | true => have := upB_len _ s (Nat.le_refl _); have := name_le hn; omega

set_option maxRecDepth 100000 in
set_option maxHeartbeats 8000000 in
theorem list_any (s : ByteArray) (w : World) (hs : s.size ≤ maxLen) :
    Calls Try.prog 30 #[.string s] w fun e w' => ∃ v, e = .returned v ∧ Strs w' v (upB s) ∧ Ext w w' := by
  obtain ⟨i0, hi, hy0, hy1, hy2⟩ := info_parts infoString
  have hlen := upB_len255 s
  refine (callsIn_wide (n := 9)).1 ?_
  refine callsIn_of_wp_marks Try.func30 rfl trivial ?_ rfl
  simp only [Try.ntmps30, List.size_toArray, List.length_cons, List.length_nil, Nat.reduceAdd, Nat.reduceSub, Array.replicate_succ, Array.replicate_zero, List.push_toArray, List.append_toArray, List.nil_append, List.cons_append]
  gi_wp2_with fail
  obtain ⟨w0, hw0⟩ : ∃ w0, (w.alloc (.cells #[.slice none 0 0] 32)).alloc (.cells #[.slice none 0 0] 32) = w0 := ⟨_, rfl⟩
  have hA0 : Boxed w0 w.heap.size 32 (.slice none 0 0) := by rw [← hw0]; exact (Boxed.new w 32 _).alloc _
  have hB0 : Boxed w0 (w.heap.size + 1) 32 (.slice none 0 0) := by rw [← hw0]; have := Boxed.new (w.alloc (.cells #[.slice none 0 0] 32)) 32 (.slice none 0 0); simpa using this
  have hX0 : Ext w w0 := by rw [← hw0]; exact ((Ext.refl _).alloc _).alloc _
  have hz0 : w0.heap.size = w.heap.size + 2 := by rw [← hw0]; simp
  rw [hw0]
  clear hw0
  refine (callsIn_wide.2 (Up_any s w0)).mono ?_
  rintro e w1 ⟨rfl, rfl⟩
  have hN : Boxed (w0.alloc (.cells #[.string s] 9)) w0.heap.size 9 (.string s) := Boxed.new w0 9 _
  have hA := hA0.alloc (.cells #[.string s] 9)
  have hB := hB0.alloc (.cells #[.string s] 9)
  have hX := hX0.alloc (.cells #[.string s] 9)
  have hz : (w0.alloc (.cells #[.string s] 9)).heap.size = w.heap.size + 3 := by simp [hz0]
  generalize w0.alloc (.cells #[.string s] 9) = w2 at hN hA hB hX hz ⊢
  have hze : w.heap.size + 2 = w0.heap.size := hz0.symm
  obtain ⟨z0, hzz⟩ : ∃ z0, w0.heap.size = z0 := ⟨_, rfl⟩
  rw [hzz] at hN hz0 hze ⊢
  have hqf := eql_func (.func 89) #[] #[.pointer (some ⟨z0, 0, none⟩)] w2
  have Hz0 := Lib.hid hz0
  clear hA0 hB0 hX0 hze hzz hz0
  gi_wp2_with fail
  have hz0 := Hz0.out
  refine wpIn_rangeX rfl wide_room (gf := 89) (lb := #[.pointer (some ⟨z0, 0, none⟩)]) rfl trivial (enters_of Try.func89 (by kernel_rfl) rfl)
    (up1_seq _ _ s hs w2 hN.cell) (Keeps.refl _ _) (fun k h => by subst h; omega) (fun _ => rfl)
    (fun D pre A => ∃ v, Boxed A w.heap.size 32 (.slice none 0 0) ∧ Boxed A (w.heap.size + 1) 32 v ∧ A.ownsRow D 9 1 v pre.length (pre.map Value.string) ∧ Keeps (fun k => k < w.heap.size) w A)
    (fun _ _ _ _ => False)
    (fun D pre A A' h k => by obtain ⟨v, h0, h1, h2, h3⟩ := h; exact ⟨v, k.boxed h0 (by omega), k.boxed h1 (by omega), k.ownsRow h2 (fun _ h => by omega), h3.trans (k.mono fun _ _ h => by omega)⟩)
    (fun _ _ _ _ _ h _ => h)
    (fun D W _ _ h => ⟨_, h.boxed hA (by omega), h.boxed hB (by omega), World.ownsRow_nil _ _ _ _, (hX.keeps.mono fun _ _ _ => trivial).trans (h.mono fun _ _ h => by omega)⟩)
    (fun _ x a' _ => a' = { tmps := #[.string s, undef, .pointer (some ⟨w.heap.size, 0, none⟩), .pointer (some ⟨w.heap.size + 1, 0, none⟩), .func (.func 89) #[] #[.pointer (some ⟨z0, 0, none⟩)], .string x, .string s, .func (.func 89) #[] #[.pointer (some ⟨z0, 0, none⟩)], .func (.func 89) #[] #[.pointer (some ⟨z0, 0, none⟩)], .bool false, .func (.func 89) #[] #[.pointer (some ⟨z0, 0, none⟩)], .string x, undef, undef, undef, undef, undef, undef, undef, undef], defers := [] })
    (fun _ _ _ _ _ h _ => h) ?assign ?body ?done ?stop
  case assign =>
    intro l D x W K _ hK
    clear hz0
    gi_wp2
    exact hK _ _ (Keeps.refl _ _) rfl
  case body =>
    rintro l D pre x rest a' W hx hD hDW ⟨r, hr⟩ ⟨v, hA, hb, hown, hk⟩ rfl
    have hown2 := hown.alloc (.cells #[.string x] 9)
    have hle : pre.length + 1 ≤ 255 := by
      have : (upB s).length = pre.length + (rest.length + 1) := by rw [hx]; simp
      omega
    have hc := hb.cell
    have hf := hb.frozen
    have HA := Lib.hid hA; clear hA
    have Hb := Lib.hid hb; clear hb
    have Hk := Lib.hid hk; clear hk
    have Hx := Lib.hid hx; clear hx
    have Hown := Lib.hid hown; clear hown
    have hDW2 : D ≤ (W.alloc (.cells #[.string x] 9)).heap.size := by simp; omega
    gi_wp2_with (gi_at_builtin; refine wpListIn_append_own _ rfl _ _ 32 rfl D 9 i0 (.string ⟨#[]⟩) 1 16 Try.underlying32 hi hy0 hy1 hy2 rfl (by decide) _ _ _ rfl hown2 ⟨W.heap.size, 0, none⟩ 1 1 [.string x] rfl rfl ?c1 ?c2 ?c3 ?c4 ?c5 ?_)
    case c1 =>
      intro j u hj
      match j, hj with
      | 0, hj => simp at hj; subst hj; simp [Addr.add]
    case c2 => intro u hu; simp at hu; subst hu; rfl
    case c3 => unfold maxLen; omega
    case c4 => omega
    case c5 => exact hDW2
    intro v1 w3 hown' hgrow _
    obtain ⟨ao', cap', hv1⟩ := ownsRow_slice hown'
    subst hv1
    have hrow := hown2.lt
    have hk3 : ∀ K : Nat → Prop, (∀ k, K k → k < D) → Keeps K W w3 := fun K hK => ((Keeps.refl K W).alloc _).grown hgrow (fun k e h => by have := (hrow k e).1; have := hK k h; omega)
    have hb3 := (hk3 (fun k => k < D) (fun _ h => h)).boxed Hb.out (by omega)
    have hA3 := (hk3 (fun k => k < D) (fun _ h => h)).boxed HA.out (by omega)
    have hc3 := hb3.cell
    have hf3 := hb3.frozen
    have hb4 := hb3.set (.slice ao' (pre.length + 1) cap')
    have hc4 := hb4.cell
    have Hb4 := Lib.hid hb4
    have HA3 := Lib.hid hA3
    have Hown' := Lib.hid hown'
    have Hk3 := Lib.hid hk3
    have hl3 : decide ((300 : Int) < (pre.length : Int) + 1) = false := by simp; omega
    clear hb3 hb4 hA3 hown' hgrow hrow hown2 hk3 hc hf hDW2 hr
    gi_wp2
    have hset : ∀ K : Nat → Prop, ¬ K (w.heap.size + 1) → Keeps K w3 (w3.setCell ⟨w.heap.size + 1, 0, none⟩ (Value.slice ao' (pre.length + 1) cap')) := fun K hK => (Keeps.refl K w3).setCell (p := ⟨w.heap.size + 1, 0, none⟩) hK _
    have hr1 : ∀ k, (k = z0 ∨ (w2.heap.size ≤ k ∧ k < D)) → k < D ∧ k ≠ w.heap.size + 1 := fun k h => by omega
    refine ⟨((Hk3.out _ (fun k h => (hr1 k h).1)).trans (hset _ (fun h => (hr1 _ h).2 rfl))), _, HA3.out.other (by omega) _, Hb4.out, ?_, ?_⟩
    · have := (hset (fun k => k ≠ w.heap.size + 1) (fun h => h rfl)).ownsRow Hown'.out (fun k h => by omega)
      simpa using this
    · exact Hk.out.trans ((Hk3.out (fun k => k < w.heap.size) (fun k h => by omega)).trans (hset _ (by omega)))
  case done =>
    rintro D W hD hDW ⟨v, hA, hb, hown, hk⟩ hd
    obtain ⟨ao, cap, rfl⟩ := ownsRow_slice hown
    have hc := hb.cell
    have hcA := hA.cell
    have hfA := hA.frozen
    have HA := Lib.hid hA; clear hA
    have Hb := Lib.hid hb; clear hb
    have Hk := Lib.hid hk; clear hk
    have Hd := Lib.hid hd; clear hd
    have Hown := Lib.hid hown; clear hown
    obtain ⟨n, hn⟩ : ∃ n, (upB s).length = n := ⟨_, rfl⟩
    rw [hn] at hc
    have Hn := Lib.hid hn
    clear hn hlen
    gi_wp2
    have hd2 := ((Keeps.refl (fun k => k = w2.heap.size) W).setCell (p := ⟨w.heap.size, 0, none⟩) (show ¬ (w.heap.size = w2.heap.size) by omega) (.slice ao n cap)).heap Hd.out rfl
    refine ⟨by simp, .inl ⟨_, _, rfl, run_takeDeferred hd2, ?_⟩⟩
    have hA2 := HA.out.set (.slice ao n cap)
    have hp := fun K (h : ¬ K w2.heap.size) => (Keeps.refl K (W.setCell ⟨w.heap.size, 0, none⟩ (.slice ao n cap))).putObj h (.deferred none)
    have hA3 := (hp (fun k => k < w2.heap.size) (by omega)).boxed hA2 (by omega)
    have hk5 : Keeps (fun k => k ≠ w.heap.size ∧ k ≠ w2.heap.size) W ((W.setCell ⟨w.heap.size, 0, none⟩ (.slice ao n cap)).putObj w2.heap.size (.deferred none)) :=
      ((Keeps.refl _ W).setCell (p := ⟨w.heap.size, 0, none⟩) (fun h => h.1 rfl) _).putObj (fun h => h.2 rfl) _
    refine ⟨.slice ao n cap, ?_, _, rfl, ?_, ?_⟩
    · simp [results, Try.f30, go_sem, hA3.cell]
    · have h1 := hk5.ownsRow Hown.out (fun k h => by omega)
      have h2 := strs_of_row h1
      rw [Hn.out] at h2
      exact h2
    · exact (Hk.out.trans (hk5.mono fun k _ h => by omega)).ext fun _ h => h
  case stop =>
    rintro c D pre x rest W _ _ _ h
    exact h.elim

end Go.Proofs.Ytmmjhdkoccpdjaa
