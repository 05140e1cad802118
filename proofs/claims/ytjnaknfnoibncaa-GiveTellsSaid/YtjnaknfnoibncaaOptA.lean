/- Options, as Go has them; what edns' isOf, areCookies and Cookies tell. Conditions: each says its own. -/
import Derived.Test.YtjnaknfnoibncaaRows2
import Derived.Handy
import Derived.IntWalk
import Derived.Deep.QuietTactic
import Derived.BigQuiet
import Derived.Deep.RegionHeld3
namespace Go.Proofs.Ytjnaknfnoibncaa
open Go Go.RowKit Go.Shelf
attribute [local go_sem] Oper.semAt_some wide_fn wide_depth

/-- An option. -/
structure OptC where
  c : Nat
  d : ByteArray
def OptC.cells (x : OptC) : Array Value := #[.int .u16 (x.c : Int), .string x.d]
def OptC.val (x : OptC) : Value := .agg x.cells
structure OptC.fit (x : OptC) : Prop where
  c : x.c < 65536
  d : x.d.size ≤ maxLen
theorem srow_o {W : World} {v : Value} {L : List OptC} (h : SRow W v 2 (L.map OptC.cells)) (k : Nat) (x : OptC) (hx : L[k]? = some x) :
    ∃ b off cap, v = .slice (some ⟨b, off, none⟩) L.length cap ∧ W.cell? ⟨b, off + k * 2, none⟩ = some (.int .u16 (x.c : Int)) ∧ W.cell? ⟨b, off + k * 2 + 1, none⟩ = some (.string x.d) := by
  obtain ⟨ao, cap, e, _, _, hc⟩ := h
  obtain ⟨b, off, e2, _, h4⟩ := hc k x.cells (by rw [List.getElem?_map, hx]; rfl)
  rw [List.length_map] at e
  exact ⟨b, off, cap, by rw [e, e2], h4 0 _ rfl, h4 1 _ rfl⟩

/-- The place of the first option of a code. -/
def findO (c : Nat) : List OptC → Option Nat
  | [] => none
  | x :: l => if x.c = c then some 0 else (findO c l).map (· + 1)
def findOI (c : Nat) (l : List OptC) : Int := match findO c l with | some i => (i : Int) | none => -1
theorem findO_hit (c : Nat) : ∀ (l : List OptC) (i : Nat) (x : OptC), l[i]? = some x → x.c = c → (∀ (j : Nat) (y : OptC), j < i → l[j]? = some y → y.c ≠ c) → findO c l = some i
  | [], i, x, h, _, _ => by simp at h
  | y :: l, 0, x, h, hx, _ => by
    simp only [List.getElem?_cons_zero, Option.some.injEq] at h
    subst h
    simp [findO, hx]
  | y :: l, i + 1, x, h, hx, hall => by
    have h0 := hall 0 y (by omega) rfl
    rw [List.getElem?_cons_succ] at h
    have h1 := findO_hit c l i x h hx fun j z hj hz => hall (j + 1) z (by omega) (by rw [List.getElem?_cons_succ]; exact hz)
    simp [findO, h0, h1]
theorem findO_none (c : Nat) : ∀ (l : List OptC), (∀ (j : Nat) (y : OptC), l[j]? = some y → y.c ≠ c) → findO c l = none
  | [], _ => rfl
  | y :: l, hall => by
    have h0 := hall 0 y rfl
    have h1 := findO_none c l fun j z hz => hall (j + 1) z (by rw [List.getElem?_cons_succ]; exact hz)
    simp [findO, h0, h1]
theorem findO_some {c : Nat} : ∀ {l : List OptC} {i : Nat}, findO c l = some i → ∃ x, l[i]? = some x ∧ x.c = c ∧ ∀ (j : Nat) (y : OptC), j < i → l[j]? = some y → y.c ≠ c
  | [], i, h => by simp [findO] at h
  | y :: l, i, h => by
    unfold findO at h
    split at h
    · rename_i h0; cases h; exact ⟨y, rfl, h0, fun j z hj => absurd hj (Nat.not_lt_zero _)⟩
    · rename_i h0
      obtain ⟨j, hj, rfl⟩ := Option.map_eq_some_iff.1 h
      obtain ⟨x, hx, hs, hall⟩ := findO_some hj
      refine ⟨x, by rw [List.getElem?_cons_succ]; exact hx, hs, fun k z hk hz => ?_⟩
      cases k with
      | zero => simp only [List.getElem?_cons_zero, Option.some.injEq] at hz; subst hz; exact h0
      | succ k => exact hall k z (by omega) (by rw [List.getElem?_cons_succ] at hz; exact hz)
theorem findO_no {c : Nat} {l : List OptC} (h : findO c l = none) : ∀ x ∈ l, x.c ≠ c := by
  induction l with
  | nil => intro x hx; cases hx
  | cons y l ih =>
    unfold findO at h
    split at h
    · cases h
    · rename_i h0
      rw [Option.map_eq_none_iff] at h
      intro x hx
      rcases List.mem_cons.1 hx with rfl | hx
      · exact h0
      · exact ih h x hx

theorem cellO_new (w : World) (cs : Array Value) (t : TypeId) (j : Nat) : (w.alloc (.cells cs t)).cell? ⟨w.heap.size, j, none⟩ = cs[j]? := by
  have h := World.alloc_heap_new w (.cells cs t)
  unfold World.cell?
  rw [show (w.alloc (.cells cs t)).heap[(⟨w.heap.size, j, none⟩ : Addr).block]? = _ from h]
  rfl

set_option maxHeartbeats 400000 in
theorem isOf_any (c : Nat) (w : World) : Calls Try.prog 46 #[.int .u16 (c : Int)] w fun e w' => e = .returned (.func (.func 74) #[] #[.pointer (some ⟨w.heap.size, 0, none⟩)]) ∧ w' = w.alloc (.cells #[.int .u16 (c : Int)] 26) := by
  go_enter Try.func46, Try.ntmps46
  go_wp2
  go_ret
  exact ⟨rfl, rfl⟩

set_option maxHeartbeats 1000000 in
theorem isOf1_any (x : OptC) (p c : Nat) (w : World) (hp : w.cell? ⟨p, 0, none⟩ = some (.int .u16 (c : Int))) :
    Calls Try.prog 74 #[x.val, .pointer (some ⟨p, 0, none⟩)] w fun e w' => e = .returned (.bool (decide (x.c = c))) ∧ Ext w w' := by
  obtain ⟨xc, xd⟩ := x
  unfold OptC.val OptC.cells
  simp only
  have hp' : (w.alloc (.cells #[.int .u16 (xc : Int), .string xd] 72)).cell? ⟨p, 0, none⟩ = some (.int .u16 (c : Int)) := ((Keeps.refl (fun _ => True) w).alloc _).cell hp trivial
  have hb : ((xc : Int) == (c : Int)) = decide (xc = c) := by rw [Bool.eq_iff_iff, beq_iff_eq, decide_eq_true_iff, Int.natCast_inj]
  obtain ⟨b, hb2⟩ : ∃ b, decide (xc = c) = b := ⟨_, rfl⟩
  rw [hb2] at hb ⊢
  clear hb2
  go_enter Try.func74, Try.ntmps74
  go_wp2
  go_ret
  exact ⟨by rw [← hb]; simp, (Ext.refl w).alloc _⟩

set_option maxRecDepth 100000 in
set_option maxHeartbeats 1000000 in
theorem IndexO_any (l : List OptC) (v : Value) (p c : Nat) (w : World) (hr : SRow w v 2 (l.map OptC.cells)) (hp : w.cell? ⟨p, 0, none⟩ = some (.int .u16 (c : Int))) :
    Calls Try.prog 47 #[v, .func (.func 74) #[] #[.pointer (some ⟨p, 0, none⟩)]] w fun e w' => e = .returned (.int .i64 (findOI c l)) ∧ Ext w w' := by
  have Hr := Lib.hid hr
  obtain ⟨ao, ac, hae, hal⟩ := hr.open
  rw [List.length_map] at hae hal
  clear hr
  obtain ⟨na, hna⟩ : ∃ n, l.length = n := ⟨_, rfl⟩
  rw [hna] at hae hal
  subst hae
  unfold maxLen at hal
  have hal2 : na ≤ 9223372036854775807 := by omega
  clear hal
  have Hna := Lib.hid hna; clear hna
  have Hp := Lib.hid hp; clear hp
  have eg := enters_of (P := Try.prog) Try.func74 (by kernel_rfl) rfl
  have CF := Lib.hid fun x W h1 => isOf1_any x p c W h1
  obtain ⟨r, hr⟩ : ∃ r, findOI c l = r := ⟨_, rfl⟩
  rw [hr]
  have HE := Lib.hid hr; clear hr
  go_enter Try.func47, Try.ntmps47
  go_wp2_with fail
  go_loopw [8] (fun i wr => ∃ j : Nat, j ≤ na ∧ i = .int .i64 j ∧ (∀ (i : Nat) (x : OptC), i < j → l[i]? = some x → x.c ≠ c) ∧ Ext w wr)
    (fun i _ => na - (intOf i).toNat)
  case atStart => exact ⟨0, Nat.zero_le _, rfl, fun _ _ h => absurd h (Nat.not_lt_zero _), Ext.refl _⟩
  case round =>
    obtain ⟨j, hj, rfl, hall, hx⟩ := hrel
    have HX := Lib.hid hx; clear hx
    have HAll := Lib.hid hall; clear hall
    by_cases hlt : j < na
    · obtain ⟨x, hxa⟩ : ∃ x, l[j]? = some x := ⟨l[j]'(by rw [Hna.out]; exact hlt), List.getElem?_eq_getElem _⟩
      obtain ⟨b1, off1, cap1, e1, c0, c1⟩ := srow_o (Hr.out.ext HX.out) j x hxa
      obtain rfl : ao = some ⟨b1, off1, none⟩ := by simp only [Value.slice.injEq] at e1; exact e1.1
      clear e1
      have Hxa := Lib.hid hxa; clear hxa
      have hki : (j : Int) < na := by omega
      have Hw : Hid (IntKind.i64.wrap ((j : Int) + 1) = (j : Int) + 1) := Lib.hid (IntWalk.i64_in _ (by omega))
      have CX := Lib.hid (CF.out x wr (HX.out.keeps.cell Hp.out trivial))
      unfold OptC.val OptC.cells at CX
      have hw := Hw.out
      by_cases hb : x.c = c
      · rw [decide_eq_true hb] at CX
        have Hb := Lib.hid hb; clear hb
        go_wp2_with ((with_reducible refine (CX.out).mono ?_); rintro e w' ⟨rfl, hx⟩; have HX2 := Lib.hid (HX.out.trans hx); clear hx)
        go_ret
        exact ⟨by rw [← HE.out]; unfold findOI; rw [findO_hit c l j x Hxa.out Hb.out fun i y hi hy => HAll.out i y hi hy]; rfl, HX2.out⟩
      · rw [decide_eq_false hb] at CX
        have Hb := Lib.hid hb; clear hb
        go_wp2_with ((with_reducible refine (CX.out).mono ?_); rintro e w' ⟨rfl, hx⟩; have HX2 := Lib.hid (HX.out.trans hx); clear hx)
        go_roundw
        case rel =>
          refine ⟨j + 1, by omega, by simp, fun i y hi hy => ?_, HX2.out⟩
          by_cases hij : i = j
          · subst hij
            rw [Hxa.out] at hy
            obtain rfl := Option.some.inj hy
            exact Hb.out
          · exact HAll.out i y (by omega) hy
        case measure => simp [intOf]; omega
    · obtain rfl : j = na := by omega
      go_wp2
      go_ret
      exact ⟨by rw [← HE.out]; unfold findOI; rw [findO_none c l fun i x hx => HAll.out i x (by have := (List.getElem?_eq_some_iff.1 hx).1; rw [Hna.out] at this; exact this) hx]; rfl, HX.out⟩

def areC (c s : ByteArray) : Bool := decide (c.size = 8 ∧ (s.size = 0 ∨ (8 ≤ s.size ∧ s.size ≤ 32)))
set_option maxHeartbeats 1000000 in
theorem areCookies_any (c s : ByteArray) (w : World) : Calls Try.prog 44 #[.string c, .string s] w fun e w' => e = .returned (.bool (areC c s)) ∧ w = w' := by
  have he : s.toList = [] ↔ s.size = 0 := by
    rw [ByteArray.toList_eq]
    exact ⟨fun h => by have := congrArg List.length h; simpa using this, fun h => List.eq_nil_of_length_eq_zero h⟩
  have hem : s.toList.isEmpty = decide (s.size = 0) := by rw [Bool.eq_iff_iff, List.isEmpty_iff, decide_eq_true_iff]; exact he
  by_cases h8 : c.size = 8
  · have h1 : ((c.size : Int) != 8) = false := by rw [h8]; rfl
    go_enter Try.func44, Try.ntmps44
    have Hem := Lib.hid hem; have He := Lib.hid he; clear hem he
    go_wp2
    all_goals go_ret
    all_goals refine ⟨congrArg (fun b => Ending.returned (Value.bool b)) (?_ : _ = areC c s), rfl⟩
    · have hs : s.size = 0 := He.out.1 (by assumption)
      unfold areC
      rw [decide_eq_true ⟨h8, .inl hs⟩]
    all_goals
      have hs : ¬ s.size = 0 := fun h => absurd (He.out.2 h) (by assumption)
      have hem := Hem.out
      rw [decide_eq_false hs] at hem
      unfold areC
      rw [Bool.eq_iff_iff, decide_eq_true_iff]
      have hne : ¬ s.toList = [] := by assumption
      have hse : ∀ a : Bool, (s.toList.isEmpty || a) = a := fun a => by rw [hem]; rfl
      have h8i : c.size = 8 := h8
      try rw [hse]
      try rw [hem]
      simp only [h8i, true_and, hs, false_or, decide_eq_true_iff, Bool.false_eq_true, false_iff]
      omega
  · have h1 : ((c.size : Int) != 8) = true := by simp only [bne_iff_ne, ne_eq]; omega
    go_enter Try.func44, Try.ntmps44
    go_wp2
    go_ret
    exact ⟨by unfold areC; rw [decide_eq_false (fun h => h8 h.1)]; rfl, rfl⟩

/-- The cookies of options. -/
def cookC (l : List OptC) : ByteArray × ByteArray × Int :=
  match findO 10 l with
  | none => (⟨#[]⟩, ⟨#[]⟩, 3)
  | some i => match l[i]? with
    | none => (⟨#[]⟩, ⟨#[]⟩, 3)
    | some x => if areC (x.d.extract 0 (min 8 x.d.size)) (x.d.extract (min 8 x.d.size) x.d.size) then (x.d.extract 0 (min 8 x.d.size), x.d.extract (min 8 x.d.size) x.d.size, 0) else (⟨#[]⟩, ⟨#[]⟩, 2)

/-- What an OPT record says, by value. -/
structure EdC where
  there : Bool
  size : Nat
  high : Nat
  ver : Nat
  flags : Nat
def EdC.cells (e : EdC) (v : Value) : Array Value := #[.bool e.there, .int .u16 (e.size : Int), .int .u8 (e.high : Int), .int .u8 (e.ver : Int), .int .u16 (e.flags : Int), v]

theorem results_tmp3 {P : Program} {fn : Func} {p q r : Tmp} (h : fn.results = #[.tmp p, .tmp q, .tmp r]) (tmps : Array Value) (w : World) (a b c : Value)
    (hp : tmps.getD p undef = a) (hq : tmps.getD q undef = b) (hr : tmps.getD r undef = c) : (results fn tmps).run P w = .ok (.tuple #[a, b, c]) w := by
  have hp' : tmps[p]?.getD undef = a := by simpa using hp
  have hq' : tmps[q]?.getD undef = b := by simpa using hq
  have hr' : tmps[r]?.getD undef = c := by simpa using hr
  simp [results, h, hp', hq', hr']
attribute [local irreducible] wpStill
set_option maxRecDepth 100000 in
set_option maxHeartbeats 2000000 in
theorem Cookies_any (e : EdC) (l : List OptC) (v : Value) (w : World) (hr : SRow w v 2 (l.map OptC.cells)) (hl : ∀ x ∈ l, x.d.size ≤ maxLen) :
    Calls Try.prog 19 #[.agg (e.cells v)] w fun en w' => en = .returned (.tuple #[.string (cookC l).1, .string (cookC l).2.1, .int .i64 (cookC l).2.2]) ∧ Ext w w' := by
  have Hr := Lib.hid hr
  obtain ⟨ao, ac, rfl, hal⟩ := hr.open
  rw [List.length_map] at Hr hal ⊢
  clear hr
  obtain ⟨et, es, eh, ev, ef⟩ := e
  unfold EdC.cells
  simp only
  have X0 := (Ext.refl w).alloc (.cells #[.bool et, .int .u16 (es : Int), .int .u8 (eh : Int), .int .u8 (ev : Int), .int .u16 (ef : Int), .slice ao l.length ac] 29)
  have HX0 := Lib.hid X0
  have hc5 := cellO_new w #[.bool et, .int .u16 (es : Int), .int .u8 (eh : Int), .int .u8 (ev : Int), .int .u16 (ef : Int), .slice ao l.length ac] 29 5
  have HC := Lib.hid (show ∀ W, Ext (w.alloc (.cells #[.bool et, .int .u16 (es : Int), .int .u8 (eh : Int), .int .u8 (ev : Int), .int .u16 (ef : Int), .slice ao l.length ac] 29)) W → W.cell? ⟨w.heap.size, 5, none⟩ = some (.slice ao l.length ac) from fun W h => h.keeps.cell hc5 trivial)
  clear X0 hc5
  have C1 := Lib.hid fun W => isOf_any 10 W
  have C2 := Lib.hid fun p W h1 h2 => IndexO_any l (.slice ao l.length ac) p 10 W h1 h2
  have C3 := Lib.hid fun a b W => areCookies_any a b W
  have hk : (findOI 10 l < 0 ∧ cookC l = (⟨#[]⟩, ⟨#[]⟩, 3)) ∨ ∃ (i : Nat) (x : OptC), findOI 10 l = (i : Int) ∧ l[i]? = some x ∧
      cookC l = if areC (x.d.extract 0 (min 8 x.d.size)) (x.d.extract (min 8 x.d.size) x.d.size) then (x.d.extract 0 (min 8 x.d.size), x.d.extract (min 8 x.d.size) x.d.size, 0) else (⟨#[]⟩, ⟨#[]⟩, 2) := by
    unfold findOI cookC
    cases hf : findO 10 l with
    | none => exact .inl ⟨by simp, rfl⟩
    | some i =>
      obtain ⟨x, hx, _⟩ := findO_some hf
      exact .inr ⟨i, x, rfl, hx, by simp [hx]⟩
  obtain ⟨kk, hkk⟩ : ∃ q, cookC l = q := ⟨_, rfl⟩
  rw [hkk] at hk ⊢
  clear hkk
  obtain ⟨r, hrr⟩ : ∃ r, findOI 10 l = r := ⟨_, rfl⟩
  rw [hrr] at C2 hk
  clear hrr
  rw [show (((10 : Nat)) : Int) = 10 from rfl] at C1
  obtain ⟨nl, hnl⟩ : ∃ n, l.length = n := ⟨_, rfl⟩
  have Hnl := Lib.hid hnl
  rw [hnl] at C2 HC HX0 Hr hal ⊢
  clear hnl
  have hx1 := Lib.hid (Ext.refl (w.alloc (.cells #[.bool et, .int .u16 (es : Int), .int .u8 (eh : Int), .int .u8 (ev : Int), .int .u16 (ef : Int), .slice ao nl ac] 29)))
  have hx1d := Lib.hid ((Ext.refl (w.alloc (.cells #[.bool et, .int .u16 (es : Int), .int .u8 (eh : Int), .int .u8 (ev : Int), .int .u16 (ef : Int), .slice ao nl ac] 29))).drew)
  have HD : Hid ((((w.alloc (.cells #[.bool et, .int .u16 (es : Int), .int .u8 (eh : Int), .int .u8 (ev : Int), .int .u16 (ef : Int), .slice ao nl ac] 29))).alloc (.cells #[.int .u16 10] 26)).drew.cell? ⟨w.heap.size + 1, 0, none⟩ = some (.int .u16 ((10 : Nat) : Int))) := Lib.hid (by
    have h := cellO_new (w.alloc (.cells #[.bool et, .int .u16 (es : Int), .int .u8 (eh : Int), .int .u8 (ev : Int), .int .u16 (ef : Int), .slice ao nl ac] 29)) #[.int .u16 10] 26 0
    rw [World.size_alloc] at h
    exact h)
  have hx2 := Lib.hid (((Ext.refl (w.alloc (.cells #[.bool et, .int .u16 (es : Int), .int .u8 (eh : Int), .int .u8 (ev : Int), .int .u16 (ef : Int), .slice ao nl ac] 29))).alloc (.cells #[.int .u16 10] 26)).drew)
  rcases hk with ⟨hneg, rfl⟩ | ⟨i, x, rfl, hx, rfl⟩
  · go_enter Try.func19, Try.ntmps19
    go_wp2_with fail
    go_region_held3 (fun w' => w'.cell? ⟨w.heap.size, 5, none⟩ = some (.slice ao nl ac))
      (first | exact HC.out _ hx1.out | exact HC.out _ hx1d.out | go_keep)
      (first
        | ((with_reducible refine (C1.out _).mono ?_); rintro e W1 ⟨rfl, rfl⟩; replace hx1 := hx2)
        | ((with_reducible refine (C2.out (w.heap.size + 1) _ (Hr.out.ext (HX0.out.trans hx2.out)) HD.out).mono ?_); rintro e W2 ⟨rfl, hx⟩; replace hx1 := Lib.hid (hx1.out.trans hx); clear hx))
    have hc5 := HC.out _ hx1.out
    go_wp2_with fail
    refine bodyPost_ret (v := .tuple #[.string ⟨#[]⟩, .string ⟨#[]⟩, .int .i64 3]) ?_ rfl ⟨rfl, HX0.out.trans hx1.out⟩
    exact results_tmp3 (p := 2) (q := 3) (r := 4) rfl _ _ _ _ _ rfl rfl rfl
  · have hil : (i : Int) < nl := by have := (List.getElem?_eq_some_iff.1 hx).1; rw [Hnl.out] at this; omega
    have hxs := hl x (List.mem_of_getElem? hx)
    have hmx : Try.prog.follows .mixedOrders = true := by kernel_rfl
    obtain ⟨xc, xd⟩ := x
    have Hxx := Lib.hid hx; clear hx
    simp only at hxs ⊢
    have Hhil := Lib.hid hil; clear hil
    by_cases h8 : 8 ≤ xd.size
    · rw [show min 8 xd.size = 8 by omega]
      have h8i : (8 : Int) ≤ xd.size := by omega
      obtain ⟨q, hq⟩ : ∃ q, areC (xd.extract 0 8) (xd.extract 8 xd.size) = q := ⟨_, rfl⟩
      have C4 := Lib.hid fun W => areCookies_any (xd.extract 0 8) (xd.extract 8 xd.size) W
      rw [hq] at C4 ⊢
      clear hq h8
      cases q
      all_goals
        obtain ⟨b1, off1, cap1, e1, _, _⟩ := srow_o Hr.out i _ Hxx.out
        obtain rfl : ao = some ⟨b1, off1, none⟩ := by simp only [Value.slice.injEq] at e1; exact e1.1
        clear e1
        go_enter Try.func19, Try.ntmps19
        go_wp2_with fail
        go_region_held3 (fun w' => w'.cell? ⟨w.heap.size, 5, none⟩ = some (.slice (some ⟨b1, off1, none⟩) nl ac))
          (first | exact HC.out _ hx1.out | exact HC.out _ hx1d.out | go_keep)
          (first
            | ((with_reducible refine (C1.out _).mono ?_); rintro e W1 ⟨rfl, rfl⟩; replace hx1 := hx2)
            | ((with_reducible refine (C2.out (w.heap.size + 1) _ (Hr.out.ext (HX0.out.trans hx2.out)) HD.out).mono ?_); rintro e W2 ⟨rfl, hx⟩; replace hx1 := Lib.hid (hx1.out.trans hx); clear hx))
        have hc5 := HC.out _ hx1.out
        obtain ⟨b2, off2, cap2, e2, c0, c1⟩ := srow_o (Hr.out.ext (HX0.out.trans hx1.out)) i _ Hxx.out
        simp only [Value.slice.injEq, Option.some.injEq, Addr.mk.injEq] at e2
        obtain ⟨⟨rfl, rfl, _⟩, _⟩ := e2
        have hil := Hhil.out
        go_wp2_with fail
        refine wp_region_still hmx (by decide +kernel) ?_
        iterate 8 still_step
        refine wpStill_nil ?_
        go_wp2_with ((with_reducible refine (C4.out _).mono ?_); rintro e W3 ⟨rfl, rfl⟩)
        first
        | (refine bodyPost_ret (v := .tuple #[.string ⟨#[]⟩, .string ⟨#[]⟩, .int .i64 2]) ?_ rfl ⟨rfl, HX0.out.trans hx1.out.drew⟩; exact results_tmp3 (p := 2) (q := 3) (r := 4) rfl _ _ _ _ _ rfl rfl rfl)
        | (refine bodyPost_ret (v := .tuple #[.string (xd.extract 0 8), .string (xd.extract 8 xd.size), .int .i64 0]) ?_ rfl ⟨rfl, HX0.out.trans hx1.out.drew⟩; exact results_tmp3 (p := 2) (q := 3) (r := 4) rfl _ _ _ _ _ rfl rfl rfl)
    · rw [show min 8 xd.size = xd.size by omega]
      have hq : areC (xd.extract 0 xd.size) (xd.extract xd.size xd.size) = false := by
        unfold areC
        rw [decide_eq_false]
        rintro ⟨h, _⟩
        rw [ByteArray.size_extract] at h
        omega
      have hq2 : areC xd ByteArray.empty = false := by
        unfold areC
        rw [decide_eq_false]
        rintro ⟨h, _⟩
        omega
      have C4 := Lib.hid fun W => areCookies_any xd ByteArray.empty W
      rw [hq2] at C4
      rw [hq]
      have h8i : (xd.size : Int) < 8 := by omega
      clear hq hq2 h8
      obtain ⟨b1, off1, cap1, e1, _, _⟩ := srow_o Hr.out i _ Hxx.out
      obtain rfl : ao = some ⟨b1, off1, none⟩ := by simp only [Value.slice.injEq] at e1; exact e1.1
      clear e1
      go_enter Try.func19, Try.ntmps19
      go_wp2_with fail
      go_region_held3 (fun w' => w'.cell? ⟨w.heap.size, 5, none⟩ = some (.slice (some ⟨b1, off1, none⟩) nl ac))
        (first | exact HC.out _ hx1.out | exact HC.out _ hx1d.out | go_keep)
        (first
          | ((with_reducible refine (C1.out _).mono ?_); rintro e W1 ⟨rfl, rfl⟩; replace hx1 := hx2)
          | ((with_reducible refine (C2.out (w.heap.size + 1) _ (Hr.out.ext (HX0.out.trans hx2.out)) HD.out).mono ?_); rintro e W2 ⟨rfl, hx⟩; replace hx1 := Lib.hid (hx1.out.trans hx); clear hx))
      have hc5 := HC.out _ hx1.out
      obtain ⟨b2, off2, cap2, e2, c0, c1⟩ := srow_o (Hr.out.ext (HX0.out.trans hx1.out)) i _ Hxx.out
      simp only [Value.slice.injEq, Option.some.injEq, Addr.mk.injEq] at e2
      obtain ⟨⟨rfl, rfl, _⟩, _⟩ := e2
      have hil := Hhil.out
      go_wp2_with fail
      refine wp_region_still hmx (by decide +kernel) ?_
      iterate 8 still_step
      refine wpStill_nil ?_
      go_wp2_with ((with_reducible refine (C4.out _).mono ?_); rintro e W3 ⟨rfl, rfl⟩)
      refine bodyPost_ret (v := .tuple #[.string ⟨#[]⟩, .string ⟨#[]⟩, .int .i64 2]) ?_ rfl ⟨rfl, HX0.out.trans hx1.out.drew⟩
      exact results_tmp3 (p := 2) (q := 3) (r := 4) rfl _ _ _ _ _ rfl rfl rfl
end Go.Proofs.Ytjnaknfnoibncaa
