/- hardtacklaw02.WalkCommon answers true for every three strings and number, and leaves what lay as it lay. Conditions: none beyond the form's own. -/
import Derived.Test.YtkfepgcaaaopcaaLives2
import Derived.Test.YtkfepgcaaaopcaaMath3
namespace Go.Proofs.Ytkfepgcaaaopcaa
open Go Go.RowKit Go.Shelf
attribute [local go_sem] Oper.semAt_some wide_fn wide_depth

/-- The law of a range over a function that names nothing. -/
theorem wpIn_rangeX0 {F : Fence} {n : Nat} {P : Program} {α : Type} {g : Operand} {ps : Array Tmp} {body : Code} {Q : Exit → Act → World → Prop} {a : Act} {w : World}
    (hro : F.round = none) (h1 : F.depth.isSome = true → 1 ≤ n) {gf : Nat} {lb : Array Value} (hg : a.eval g = .func (.func gf) #[] lb) (hFg : F.fn gf) (eg : ∀ args w, (callFunc gf args).run P w = .ok (.enter gf args) w)
    {encs : α → Array Value} {xs : List α} {R : Nat → Prop} {w0 : World} (hseq : SeqX F (n - 1) P gf lb encs xs R w0)
    (hb0 : Keeps R w0 w) (hR : ∀ k, R k → k < w.heap.size) (hps : ∀ x, (encs x).size = ps.size)
    (I : Nat → List α → World → Prop) (Ix : Code → Nat → List α → World → Prop)
    (hI : ∀ D s A A', I D s A → Keeps (fun k => k < w.heap.size ∨ D ≤ k) A A' → I D s A')
    (hIx : ∀ c D s A A', Ix c D s A → Keeps (fun k => k < w.heap.size ∨ D ≤ k) A A' → Ix c D s A')
    (h0 : ∀ D W, w.heap.size ≤ D → D ≤ W.heap.size → Keeps (fun k => k < w.heap.size) w W → I D [] W)
    (hbody : ∀ (l D : Nat) (pre : List α) (x : α) (rest : List α) (W : World), xs = pre ++ x :: rest → w.heap.size ≤ D → D ≤ W.heap.size → (∃ r, W.heap[l]? = some (.loop r)) → I D pre W →
      body.wpIn (F.inRound l) (n - 1 - 1) P (postX (fun k => R k ∨ (w.heap.size ≤ k ∧ k < D)) (I D) (fun c => Ix c D) (pre ++ [x]) W) { tmps := (ps.zip (encs x)).foldl (fun t (p, v) => t.setIfInBounds p v) a.tmps, defers := [] } W)
    (hdone : ∀ (D : Nat) (W : World), w.heap.size < D → D ≤ W.heap.size → I D xs W → W.heap[w.heap.size]? = some (.deferred (some [])) → Q .normal { a with defers := { target := .collected w.heap.size, args := #[] } :: a.defers } W)
    (hstop : ∀ (c : Code) (D : Nat) (pre : List α) (x : α) (rest : List α) (W : World), xs = pre ++ x :: rest → w.heap.size < D → D ≤ W.heap.size → Ix c D (pre ++ [x]) W → W.heap[w.heap.size]? = some (.deferred (some [])) → c.wpIn F n P Q { a with defers := { target := .collected w.heap.size, args := #[] } :: a.defers } W) :
    (Code.rangeFunc g ps Code.skip body).wpIn F n P Q a w := by
  refine wpIn_rangeX hro h1 hg hFg eg hseq hb0 hR hps I Ix hI hIx h0
    (fun _ x a' _ => a' = { tmps := (ps.zip (encs x)).foldl (fun t (p, v) => t.setIfInBounds p v) a.tmps, defers := [] }) (fun _ _ _ _ _ h _ => h) ?_ ?_ hdone hstop
  · intro l D x W K _ hK
    exact wpIn_skip (hK _ _ (Keeps.refl _ _) rfl)
  · rintro l D pre x rest a' W h1 h2 h3 h4 h5 rfl
    exact hbody l D pre x rest W h1 h2 h3 h4 h5

theorem neq_func (f : Fn) (ts vs : Array Value) (w : World) : (binOp .neq 40 (.func f ts vs) .nilFunc).run Try.prog w = .ok (.bool true) w := by
  have h := equalIn_func (P := Try.prog) 9999 40 f ts vs w Try.underlying40
  have h2 : (binOp .neq 40 (.func f ts vs) .nilFunc) = (do pure (.bool (!(← Op.equalIn 10000 40 (.func f ts vs) .nilFunc)))) := rfl
  rw [h2, Sem.run_bind, h]
  rfl
/-- What lies of the call's own while it goes on: the number's box, and its answer's. -/
def Own2 (w : World) (stop : Int) (A : World) : Prop := Boxed A w.heap.size 3 (.int .i64 stop) ∧ Boxed A (w.heap.size + 1) 4 (.bool false) ∧ Keeps (fun k => k < w.heap.size) w A
theorem Own2.keeps {w : World} {stop : Int} {A B : World} {K : Nat → Prop} (h : Own2 w stop A) (k : Keeps K A B) (h0 : ∀ j, j < w.heap.size + 2 → K j) : Own2 w stop B :=
  ⟨k.boxed h.1 (h0 _ (by omega)), k.boxed h.2.1 (h0 _ (by omega)), h.2.2.trans (k.mono fun _ _ h => h0 _ (by omega))⟩
theorem Own2.adv {w : World} {stop : Int} {A B : World} (h : Own2 w stop A) (k : Ext A B) : Own2 w stop B :=
  ⟨k.keeps.boxed h.1 trivial, k.keeps.boxed h.2.1 trivial, h.2.2.trans (k.keeps.mono fun _ _ _ => trivial)⟩

set_option maxRecDepth 100000 in
set_option maxHeartbeats 8000000 in
theorem walkCommon_walk (a b c : ByteArray) (stop : Int) (w : World) (ha : a.size ≤ maxLen) (hb : b.size ≤ maxLen) (hc : c.size ≤ maxLen) (_hs : (Lit.int .i64 stop).wf = true) :
    Calls Try.prog 7 #[.string a, .string b, .string c, .int .i64 stop] w fun e w' => e = .returned (.bool true) ∧ Ext w w' := by
  have LV := Lib.hid lives2_any
  have CAB := Lib.hid fun W => Common_any a b W ha hb
  have CBA := Lib.hid fun W => Common_any b a W hb ha
  refine (callsIn_wide (n := 9)).1 ?_
  refine callsIn_of_wp_marks Try.func7 rfl trivial ?_ rfl
  simp only [Try.ntmps7, List.size_toArray, List.length_cons, List.length_nil, Nat.reduceAdd, Nat.reduceSub, Array.replicate_succ, Array.replicate_zero, List.push_toArray, List.append_toArray, List.nil_append, List.cons_append]
  gi_wp2_with fail
  have hO : Own2 w stop ((w.alloc (.cells #[.int .i64 stop] 3)).alloc (.cells #[.bool false] 4)) := by
    refine ⟨(Boxed.new w 3 _).alloc _, ?_, ((Keeps.refl _ w).alloc _).alloc _⟩
    have := Boxed.new (w.alloc (.cells #[.int .i64 stop] 3)) 4 (.bool false)
    simpa using this
  generalize (w.alloc (.cells #[.int .i64 stop] 3)).alloc (.cells #[.bool false] 4) = w0 at hO ⊢
  have HO := Lib.hid hO; clear hO
  by_cases hn : isName a = false ∨ isName b = false
  · rw [common_none hn] at CAB
    rw [common_none hn.symm] at CBA
    clear hn
    gi_wp2_with (first
      | ((with_reducible refine (callsIn_wide.2 (LV.out _)).mono ?_); rintro e w' ⟨rfl, hx⟩; have HO := Lib.hid (HO.out.adv hx); clear hx)
      | ((with_reducible refine (callsIn_wide.2 (CAB.out _)).mono ?_); rintro e w' ⟨rfl, hx⟩; have HO := Lib.hid (HO.out.adv hx); have hcR := HO.out.2.1.cell; have hfR := HO.out.2.1.frozen; clear hx)
      | ((with_reducible refine (callsIn_wide.2 (CBA.out _)).mono ?_); rintro e w' ⟨rfl, hx⟩; have HO := Lib.hid (HO.out.adv hx); have hcR := HO.out.2.1.cell; have hfR := HO.out.2.1.frozen; clear hx))
    have hR2 := HO.out.2.1.set (.bool true)
    refine ⟨.bool true, ?_, rfl, ?_⟩
    · simp [results, Try.f7, go_sem, hR2.cell]
    · exact (HO.out.2.2.setCell (p := ⟨w.heap.size + 1, 0, none⟩) (by simp) _).ext fun _ h => h
  · have hna : isName a = true := by cases h : isName a with | true => rfl | false => exact absurd (.inl h) hn
    have hnb : isName b = true := by cases h : isName b with | true => rfl | false => exact absurd (.inr h) hn
    obtain ⟨x, y, h1, h2, h3, h4, h5, h6, h7, h8⟩ := common_both hna hnb
    rw [h1] at CAB
    rw [h2] at CBA
    have SM := Lib.hid fun W => h3 ▸ Same_any x y W (by unfold maxLen; omega) (by unfold maxLen; omega)
    have WA := Lib.hid fun W => h4 ▸ Within_any a x W ha (by unfold maxLen; omega)
    have WB := Lib.hid fun W => h5 ▸ Within_any b x W hb (by unfold maxLen; omega)
    have WAC := Lib.hid fun W => Within_any a c W ha hc
    have WBC := Lib.hid fun W => Within_any b c W hb hc
    have WXC := Lib.hid fun W => Within_any x c W (by unfold maxLen; omega) hc
    have H8 := Lib.hid (h8 c)
    obtain ⟨va, hva⟩ : ∃ v, withinB a c = v := ⟨_, rfl⟩
    obtain ⟨vb, hvb⟩ : ∃ v, withinB b c = v := ⟨_, rfl⟩
    obtain ⟨vx, hvx⟩ : ∃ v, withinB x c = v := ⟨_, rfl⟩
    rw [hva] at WAC H8
    rw [hvb] at WBC H8
    rw [hvx] at WXC H8
    clear hn hna hnb h1 h2 h3 h4 h5 h8 hva hvb hvx hc hb
    gi_upto_region 7 with (first
      | ((with_reducible refine (callsIn_wide.2 (LV.out _)).mono ?_); rintro e w' ⟨rfl, hx⟩; have HO := Lib.hid (HO.out.adv hx); clear hx)
      | ((with_reducible refine (callsIn_wide.2 (CAB.out _)).mono ?_); rintro e w' ⟨rfl, hx⟩; have HO := Lib.hid (HO.out.adv hx); clear hx)
      | ((with_reducible refine (callsIn_wide.2 (CBA.out _)).mono ?_); rintro e w' ⟨rfl, hx⟩; have HO := Lib.hid (HO.out.adv hx); clear hx))
    gi_cut [73] from 38 (fun s73 wx => s73 = .bool false ∧ Own2 w stop wx)
    case first =>
      cases va with
      | false =>
        clear H8 WBC WXC
        gi_wp2_with (first
          | ((with_reducible refine (callsIn_wide.2 (SM.out _)).mono ?_); rintro e w' ⟨rfl, hx⟩; have HO := Lib.hid (HO.out.adv hx); clear hx)
          | ((with_reducible refine (callsIn_wide.2 (WA.out _)).mono ?_); rintro e w' ⟨rfl, hx⟩; have HO := Lib.hid (HO.out.adv hx); clear hx)
          | ((with_reducible refine (callsIn_wide.2 (WB.out _)).mono ?_); rintro e w' ⟨rfl, hx⟩; have HO := Lib.hid (HO.out.adv hx); clear hx)
          | ((with_reducible refine (callsIn_wide.2 (WAC.out _)).mono ?_); rintro e w' ⟨rfl, hx⟩; have HO := Lib.hid (HO.out.adv hx); clear hx))
        gi_meet
        case rel => exact ⟨rfl, HO.out⟩
      | true =>
        cases vb with
        | false =>
          clear H8 WXC
          gi_wp2_with (first
            | ((with_reducible refine (callsIn_wide.2 (SM.out _)).mono ?_); rintro e w' ⟨rfl, hx⟩; have HO := Lib.hid (HO.out.adv hx); clear hx)
            | ((with_reducible refine (callsIn_wide.2 (WA.out _)).mono ?_); rintro e w' ⟨rfl, hx⟩; have HO := Lib.hid (HO.out.adv hx); clear hx)
            | ((with_reducible refine (callsIn_wide.2 (WB.out _)).mono ?_); rintro e w' ⟨rfl, hx⟩; have HO := Lib.hid (HO.out.adv hx); clear hx)
            | ((with_reducible refine (callsIn_wide.2 (WAC.out _)).mono ?_); rintro e w' ⟨rfl, hx⟩; have HO := Lib.hid (HO.out.adv hx); clear hx)
            | ((with_reducible refine (callsIn_wide.2 (WBC.out _)).mono ?_); rintro e w' ⟨rfl, hx⟩; have HO := Lib.hid (HO.out.adv hx); clear hx))
          gi_meet
          case rel => exact ⟨rfl, HO.out⟩
        | true =>
          obtain rfl : vx = true := H8.out rfl rfl
          clear H8
          gi_wp2_with (first
            | ((with_reducible refine (callsIn_wide.2 (SM.out _)).mono ?_); rintro e w' ⟨rfl, hx⟩; have HO := Lib.hid (HO.out.adv hx); clear hx)
            | ((with_reducible refine (callsIn_wide.2 (WA.out _)).mono ?_); rintro e w' ⟨rfl, hx⟩; have HO := Lib.hid (HO.out.adv hx); clear hx)
            | ((with_reducible refine (callsIn_wide.2 (WB.out _)).mono ?_); rintro e w' ⟨rfl, hx⟩; have HO := Lib.hid (HO.out.adv hx); clear hx)
            | ((with_reducible refine (callsIn_wide.2 (WAC.out _)).mono ?_); rintro e w' ⟨rfl, hx⟩; have HO := Lib.hid (HO.out.adv hx); clear hx)
            | ((with_reducible refine (callsIn_wide.2 (WBC.out _)).mono ?_); rintro e w' ⟨rfl, hx⟩; have HO := Lib.hid (HO.out.adv hx); clear hx)
            | ((with_reducible refine (callsIn_wide.2 (WXC.out _)).mono ?_); rintro e w' ⟨rfl, hx⟩; have HO := Lib.hid (HO.out.adv hx); clear hx))
          gi_meet
          case rel => exact ⟨rfl, HO.out⟩
    case rest =>
      obtain ⟨rfl, hO⟩ := hcut
      clear HO LV CAB CBA SM WA WB WAC WBC WXC H8
      have HO := Lib.hid hO; clear hO
      gi_wp2_with fail
      refine (callsIn_wide.2 (Up_any a wc)).mono ?_
      rintro e w1 ⟨rfl, rfl⟩
      have hN : Boxed (wc.alloc (.cells #[.string a] 9)) wc.heap.size 9 (.string a) := Boxed.new wc 9 _
      have hO2 : Own2 w stop (wc.alloc (.cells #[.string a] 9)) := HO.out.adv ((Ext.refl wc).alloc _)
      have hlt := HO.out.2.1.lt
      have hz : (wc.alloc (.cells #[.string a] 9)).heap.size = wc.heap.size + 1 := by simp
      obtain ⟨z0, hzz⟩ : ∃ z0, wc.heap.size = z0 := ⟨_, rfl⟩
      rw [hzz] at hN hz hlt ⊢
      generalize wc.alloc (.cells #[.string a] 9) = w2 at hN hO2 hz ⊢
      have hqf : (binOp .neq 40 (.func (.func 54) #[] #[.pointer (some ⟨z0, 0, none⟩)]) .nilFunc).run Try.prog w2 = .ok (.bool true) w2 := neq_func _ _ _ _
      have Hz := Lib.hid hz
      clear HO hzz hz
      gi_wp2_with fail
      have hz := Hz.out
      obtain ⟨zn, hzn⟩ : ∃ zn, w2.heap.size = zn := ⟨_, rfl⟩
      have hB3 : Boxed (w2.alloc (.cells #[.int .i64 0] 3)) w2.heap.size 3 (.int .i64 0) := Boxed.new w2 3 _
      have hN3 := hN.alloc (.cells #[.int .i64 0] 3)
      have hO3 : Own2 w stop (w2.alloc (.cells #[.int .i64 0] 3)) := hO2.adv ((Ext.refl w2).alloc _)
      have hz3 : (w2.alloc (.cells #[.int .i64 0] 3)).heap.size = w2.heap.size + 1 := by simp
      rw [hzn] at hB3 hz3 hz ⊢
      have hlen := upB_len255 a
      generalize w2.alloc (.cells #[.int .i64 0] 3) = w3 at hB3 hN3 hO3 hz3 ⊢
      clear hN hO2 hqf hzn
      have hza : z0 + 1 ≤ zn := by omega
      have hzb : zn ≤ z0 + 1 := by omega
      have hzc : zn + 1 ≤ w3.heap.size := by omega
      have hzd : w3.heap.size ≤ zn + 1 := by omega
      clear hz hz3
      refine wpIn_rangeX0 rfl wide_room (gf := 54) (lb := #[.pointer (some ⟨z0, 0, none⟩)]) rfl trivial (enters_of Try.func54 (by kernel_rfl) rfl)
        (up1_seq _ _ a ha w3 hN3.cell) (Keeps.refl _ _) (fun k h => by subst h; omega) (fun _ => rfl)
        (fun _ pre A => Own2 w stop A ∧ Boxed A zn 3 (.int .i64 (pre.length : Nat)))
        (fun c _ _ A => c = Code.ret ∧ Boxed A (w.heap.size + 1) 4 (.bool true) ∧ Keeps (fun k => k < w.heap.size) w A)
        (fun D pre A A' h k => ⟨h.1.keeps k (fun j hj => by omega), k.boxed h.2 (by omega)⟩)
        (fun c D pre A A' h k => ⟨h.1, k.boxed h.2.1 (by omega), h.2.2.trans (k.mono fun _ _ h => by omega)⟩)
        (fun D W _ _ h => ⟨hO3.keeps h (fun j hj => by omega), h.boxed hB3 (by omega)⟩)
        ?body ?done ?stop
      case body =>
        rintro l D pre x rest A hx hD hDW ⟨r, hr⟩ ⟨hO, hB⟩
        have hle : (pre.length : Int) + 1 ≤ 256 := by
          have : (upB a).length = pre.length + (rest.length + 1) := by rw [hx]; simp
          omega
        have c1 := hB.cell
        have c2 := hO.1.cell
        have c3 := hO.2.1.cell
        have f1 := hB.frozen
        have f3 := hO.2.1.frozen
        have HB := Lib.hid hB
        have HO := Lib.hid hO
        clear hB hO hx hr hlen
        by_cases he : (pre.length : Int) = stop
        · have heb : ((pre.length : Int) == stop) = true := by simp [he]
          gi_wp2
          have hr2 := HO.out.2.1.set (.bool true)
          exact ⟨(Keeps.refl _ A).setCell (p := ⟨w.heap.size + 1, 0, none⟩) (show ¬ (w.heap.size + 1 = z0 ∨ (w3.heap.size ≤ w.heap.size + 1 ∧ w.heap.size + 1 < D)) by omega) _, rfl, hr2, HO.out.2.2.setCell (p := ⟨w.heap.size + 1, 0, none⟩) (by simp) _⟩
        · have heb : ((pre.length : Int) == stop) = false := beq_eq_false_iff_ne.2 he
          gi_wp2
          have hb2 := HB.out.set (.int .i64 ((pre.length : Int) + 1))
          have hk2 : ∀ K : Nat → Prop, ¬ K zn → Keeps K A (A.setCell ⟨zn, 0, none⟩ (.int .i64 ((pre.length : Int) + 1))) := fun K hK => (Keeps.refl K A).setCell (p := ⟨zn, 0, none⟩) hK _
          refine ⟨hk2 _ (show ¬ (zn = z0 ∨ (w3.heap.size ≤ zn ∧ zn < D)) by omega), HO.out.keeps (hk2 (fun j => j ≠ zn) (fun h => h rfl)) (fun j hj => by omega), ?_⟩
          simpa using hb2
      case done =>
        rintro D A hD hDW ⟨hO, _⟩ hd
        have c3 := hO.2.1.cell
        have f3 := hO.2.1.frozen
        have HO := Lib.hid hO
        have Hd := Lib.hid hd
        clear hO hd hlen
        gi_wp2
        have hr2 := HO.out.2.1.set (.bool true)
        have hd2 := ((Keeps.refl (fun k => k = w3.heap.size) A).setCell (p := ⟨w.heap.size + 1, 0, none⟩) (show ¬ (w.heap.size + 1 = w3.heap.size) by omega) (.bool true)).heap Hd.out rfl
        refine ⟨by simp, .inl ⟨_, _, rfl, run_takeDeferred hd2, ?_⟩⟩
        have hp := fun K (h : ¬ K w3.heap.size) => (Keeps.refl K (A.setCell ⟨w.heap.size + 1, 0, none⟩ (.bool true))).putObj h (.deferred none)
        have hr3 := (hp (fun k => k < w3.heap.size) (by omega)).boxed hr2 (by omega)
        refine ⟨.bool true, ?_, rfl, ?_⟩
        · simp [results, Try.f7, go_sem, hr3.cell]
        · exact ((HO.out.2.2.setCell (p := ⟨w.heap.size + 1, 0, none⟩) (by simp) _).trans (hp _ (by omega))).ext fun _ h => h
      case stop =>
        rintro c' D pre x' rest A hx hD hDW ⟨rfl, hR, hk⟩ hd
        have HR := Lib.hid hR
        have Hk := Lib.hid hk
        have Hd := Lib.hid hd
        clear hR hk hd hlen hx
        gi_wp2
        refine ⟨by simp, .inl ⟨_, _, rfl, run_takeDeferred Hd.out, ?_⟩⟩
        have hp := fun K (h : ¬ K w3.heap.size) => (Keeps.refl K A).putObj h (.deferred none)
        have hr3 := (hp (fun k => k < w3.heap.size) (by omega)).boxed HR.out (by omega)
        refine ⟨.bool true, ?_, rfl, ?_⟩
        · simp [results, Try.f7, go_sem, hr3.cell]
        · exact (Hk.out.trans (hp _ (by omega))).ext fun _ h => h

end Go.Proofs.Ytkfepgcaaaopcaa
