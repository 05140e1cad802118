/- What slices.AppendSeq and slices.Collect do with an iterator of strings. Conditions: the iterator keeps its promise (SeqX) where the call begins. -/
import Derived.Test.YtmmjhdkoccpdjaaWalkC
namespace Go.Proofs.Ytmmjhdkoccpdjaa
open Go Go.RowKit Go.Shelf
attribute [local go_sem] Oper.semAt_some wide_fn wide_depth

theorem ownsRow_mono {w : World} {b b' size n : Nat} {e : TypeId} {v : Value} {xs : List Value} (h : w.ownsRow b' e size v n xs) (hb : b ≤ b') : w.ownsRow b e size v n xs := by
  refine ⟨h.1, ?_⟩
  rcases h.2 with hn | ⟨g, cap, cur, rfl, hg, rest⟩
  · exact .inl hn
  · exact .inr ⟨g, cap, cur, rfl, by omega, rest⟩

set_option maxRecDepth 100000 in
set_option maxHeartbeats 4000000 in
theorem AppendSeq_any (gf : Nat) (lb : Array Value) (R : Nat → Prop) (xs : List ByteArray) (w0 w : World) (eg : ∀ args w, (callFunc gf args).run Try.prog w = .ok (.enter gf args) w)
    (hseq : ∀ n, SeqX Fence.wide n Try.prog gf lb (fun x : ByteArray => #[Value.string x]) xs R w0) (hb0 : Keeps R w0 w) (hR : ∀ k, R k → k < w.heap.size) (hlen : xs.length ≤ 4294967296) :
    Calls Try.prog 131 #[.slice none 0 0, .func (.func gf) #[] lb] w fun e w' => ∃ v, e = .returned v ∧ w'.ownsRow w.heap.size 9 1 v xs.length (xs.map Value.string) ∧ Ext w w' := by
  obtain ⟨i0, hi, hz0, hz1, hz2⟩ := info_parts infoString
  refine (callsIn_wide (n := 9)).1 ?_
  refine callsIn_of_wp_marks Try.func131 rfl trivial ?_ rfl
  simp only [Try.ntmps131, List.size_toArray, List.length_cons, List.length_nil, Nat.reduceAdd, Nat.reduceSub, Array.replicate_succ, Array.replicate_zero, List.push_toArray, List.append_toArray, List.nil_append, List.cons_append]
  have Hseq := Lib.hid hseq; clear hseq
  have Hb0 := Lib.hid hb0; clear hb0
  gi_wp2_with fail
  have hB : Boxed (w.alloc (.cells #[.slice none 0 0] 32)) w.heap.size 32 (.slice none 0 0) := Boxed.new w 32 _
  have hK : Ext w (w.alloc (.cells #[.slice none 0 0] 32)) := (Ext.refl _).alloc _
  have hKR : Keeps R w0 (w.alloc (.cells #[.slice none 0 0] 32)) := Hb0.out.alloc _
  have hz : (w.alloc (.cells #[.slice none 0 0] 32)).heap.size = w.heap.size + 1 := by simp
  generalize w.alloc (.cells #[.slice none 0 0] 32) = w2 at hB hK hKR hz ⊢
  refine wpIn_rangeX rfl wide_room (gf := gf) (lb := lb) rfl trivial eg
    (Hseq.out _) hKR (fun k h => by have := hR k h; omega) (fun _ => rfl)
    (fun D pre A => ∃ v, Boxed A w.heap.size 32 v ∧ A.ownsRow D 9 1 v pre.length (pre.map Value.string) ∧ Keeps (fun k => k < w.heap.size) w A)
    (fun _ _ _ _ => False)
    (fun D pre A A' h k => by obtain ⟨v, h1, h2, h3⟩ := h; exact ⟨v, k.boxed h1 (by omega), k.ownsRow h2 (fun _ h => by omega), h3.trans (k.mono fun _ _ h => by omega)⟩)
    (fun _ _ _ _ _ h _ => h)
    (fun D W _ _ h => ⟨_, h.boxed hB (by omega), World.ownsRow_nil _ _ _ _, (hK.keeps.mono fun _ _ _ => trivial).trans (h.mono fun _ _ h => by omega)⟩)
    (fun _ x a' _ => a' = { tmps := #[.slice none 0 0, .func (.func gf) #[] lb, .pointer (some ⟨w.heap.size, 0, none⟩), undef, .slice none 0 0, .string x, .func (.func gf) #[] lb, .string x, undef, undef, undef, undef, undef], defers := [] })
    (fun _ _ _ _ _ h _ => h) ?assign ?body ?done ?stop
  case assign =>
    intro l D x W K _ hK
    gi_wp2
    exact hK _ _ (Keeps.refl _ _) (by simp)
  case body =>
    rintro l D pre x rest a' W hx hD hDW ⟨r, hr⟩ ⟨v, hb, hown, hk⟩ rfl
    have hown2 := hown.alloc (.cells #[.string x] 9)
    have hle : pre.length + 1 ≤ 4294967296 := by
      have : xs.length = pre.length + (rest.length + 1) := by rw [hx]; simp
      omega
    have hc := hb.cell
    have hf := hb.frozen
    have Hb := Lib.hid hb; clear hb
    have Hk := Lib.hid hk; clear hk
    have Hx := Lib.hid hx; clear hx
    have Hown := Lib.hid hown; clear hown
    have hDW2 : D ≤ (W.alloc (.cells #[.string x] 9)).heap.size := by simp; omega
    gi_wp2_with (gi_at_builtin; refine wpListIn_append_own _ rfl _ _ 32 rfl D 9 i0 (.string ⟨#[]⟩) 1 16 Try.underlying32 hi hz0 hz1 hz2 rfl (by decide) _ _ _ rfl hown2 ⟨W.heap.size, 0, none⟩ 1 1 [.string x] rfl rfl ?c1 ?c2 ?c3 ?c4 ?c5 ?_)
    case c1 =>
      intro j u hj
      match j, hj with
      | 0, hj => simp at hj; subst hj; simp [Addr.add]
    case c2 => intro u hu; simp at hu; subst hu; rfl
    case c3 => unfold maxLen; omega
    case c4 => omega
    case c5 => exact hDW2
    intro v1 w3 hown' hgrow _
    obtain ⟨ao', cap', hv1⟩ := ownsRow_slice hown'
    subst hv1
    have hrow := hown2.lt
    have hk3 : ∀ K : Nat → Prop, (∀ k, K k → k < D) → Keeps K W w3 := fun K hK => ((Keeps.refl K W).alloc _).grown hgrow (fun k e h => by have := (hrow k e).1; have := hK k h; omega)
    have hb3 := (hk3 (fun k => k < D) (fun _ h => h)).boxed Hb.out (by omega)
    have hc3 := hb3.cell
    have hf3 := hb3.frozen
    have Hb3 := Lib.hid hb3
    have Hown' := Lib.hid hown'
    have Hk3 := Lib.hid hk3
    clear hb3 hown' hgrow hrow hown2 hk3 hc hf hDW2
    gi_wp2
    have hset : ∀ K : Nat → Prop, ¬ K w.heap.size → Keeps K w3 (w3.setCell ⟨w.heap.size, 0, none⟩ (Value.slice ao' (pre.length + 1) cap')) := fun K hK => (Keeps.refl K w3).setCell (p := ⟨w.heap.size, 0, none⟩) hK _
    have hr1 : ∀ k, (R k ∨ (w2.heap.size ≤ k ∧ k < D)) → k < D ∧ k ≠ w.heap.size := fun k h => h.elim (fun h => by have := hR k h; omega) (fun h => by omega)
    refine ⟨((Hk3.out _ (fun k h => (hr1 k h).1)).trans (hset _ (fun h => (hr1 _ h).2 rfl))), _, Hb3.out.set _, ?_, ?_⟩
    · have := (hset (fun k => k ≠ w.heap.size) (fun h => h rfl)).ownsRow Hown'.out (fun k h => by omega)
      simpa using this
    · exact Hk.out.trans ((Hk3.out (fun k => k < w.heap.size) (fun k h => by omega)).trans (hset _ (by omega)))
  case done =>
    rintro D W hD hDW ⟨v, hb, hown, hk⟩ hd
    have hc := hb.cell
    have Hb := Lib.hid hb; clear hb
    have Hk := Lib.hid hk; clear hk
    have Hd := Lib.hid hd; clear hd
    have Hown := Lib.hid hown; clear hown
    gi_wp2
    refine ⟨by simp, .inl ⟨_, _, rfl, run_takeDeferred Hd.out, ?_⟩⟩
    have hp : Keeps (fun k => k ≠ w2.heap.size) W (W.putObj w2.heap.size (.deferred none)) := (Keeps.refl _ W).putObj (by simp) _
    exact ⟨_, results_tmp rfl _ _ _, v, rfl, ownsRow_mono (hp.ownsRow Hown.out (fun _ h => by omega)) (by omega), (Hk.out.putObj (by omega) _).ext (fun _ h => h)⟩
  case stop =>
    rintro c D pre x rest W _ _ _ h
    exact h.elim

set_option maxRecDepth 100000 in
set_option maxHeartbeats 1000000 in
theorem Collect_any (gf : Nat) (lb : Array Value) (R : Nat → Prop) (xs : List ByteArray) (w0 w : World) (eg : ∀ args w, (callFunc gf args).run Try.prog w = .ok (.enter gf args) w)
    (hseq : ∀ n, SeqX Fence.wide n Try.prog gf lb (fun x : ByteArray => #[Value.string x]) xs R w0) (hb0 : Keeps R w0 w) (hR : ∀ k, R k → k < w.heap.size) (hlen : xs.length ≤ 4294967296) :
    Calls Try.prog 116 #[.func (.func gf) #[] lb] w fun e w' => ∃ v, e = .returned v ∧ w'.ownsRow w.heap.size 9 1 v xs.length (xs.map Value.string) ∧ Ext w w' := by
  have CA := Lib.hid (AppendSeq_any gf lb R xs w0 w eg hseq hb0 hR hlen)
  clear eg hseq hb0 hR
  go_enter Try.func116, Try.ntmps116
  go_wp2_with fail
  refine CA.out.mono ?_
  rintro e w2 ⟨v, rfl, hown, hx⟩
  have Hown := Lib.hid hown; clear hown
  have HX := Lib.hid hx; clear hx
  go_wp2
  go_ret
  exact ⟨_, rfl, Hown.out, HX.out⟩

end Go.Proofs.Ytmmjhdkoccpdjaa
