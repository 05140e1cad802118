/- A range over a function, by ownership of blocks: what an iterator promises to its caller (SeqX), and the law of the statement over it (wpIn_rangeX: outside a round, wpIn_rangeXN: within one). Conditions: none; it speaks of any program. -/
import Derived.RangeFuncNested
import Derived.RangeFuncBound
import Derived.RangeFuncCalls
import Derived.RangeFuncLeaves
import Derived.RangeFuncBox
import Derived.Shelf.Abstract
import Derived.Shelf.RegionOpen
import Derived.WalkKit
import Derived.OwnWalkIn
import Derived.TacticsInMore
import Derived.LoopNIn
import Derived.LoopIn
namespace Go.Proofs.Ytmmjhdkoccpdjaa
open Go Go.RowKit Go.Shelf

theorem wide_fn (f : FuncId) : Fence.wide.fn f = True := rfl
theorem wide_depth : Fence.wide.depth = none := rfl
theorem wide_room {n : Nat} : Fence.wide.depth.isSome = true → 1 ≤ n := fun h => by simp [wide_depth] at h

/-- At the wide fence a round's contract holds within whatever round, at whatever depth. -/
theorem roundIn_wide {l' n m l : Nat} {P : Program} {f : FuncId} {tmps : Array Value} {assign body : Code} {w : World} {R : Ending → World → Prop} (h : RoundIn Fence.wide n P l f tmps assign body w R) :
    RoundIn (Fence.wide.inRound l') m P l f tmps assign body w R := ⟨trivial, fun c cs _ => h.2 c cs (room_wide _)⟩

/-- The blocks of which K holds lie as they lay; nothing else of the outside has turned; no block is gone. -/
structure Keeps (K : Nat → Prop) (w w' : World) : Prop where
  os : w'.os = w.os
  tape : w'.tape = w.tape
  output : w'.output = w.output
  size : w.heap.size ≤ w'.heap.size
  block : ∀ k, k < w.heap.size → K k → w'.heap[k]? = w.heap[k]?

namespace Keeps
variable {K K' : Nat → Prop} {a b c w w' : World}
theorem refl (K : Nat → Prop) (w : World) : Keeps K w w := ⟨rfl, rfl, rfl, Nat.le_refl _, fun _ _ _ => rfl⟩
theorem trans (h : Keeps K a b) (k : Keeps K b c) : Keeps K a c :=
  ⟨k.os.trans h.os, k.tape.trans h.tape, k.output.trans h.output, Nat.le_trans h.size k.size, fun i hi hk => (k.block i (Nat.lt_of_lt_of_le hi h.size) hk).trans (h.block i hi hk)⟩
theorem mono (h : Keeps K a b) (s : ∀ k, k < a.heap.size → K' k → K k) : Keeps K' a b := ⟨h.os, h.tape, h.output, h.size, fun i hi hk => h.block i hi (s i hi hk)⟩
theorem alloc (h : Keeps K a w) (o : Obj) : Keeps K a (w.alloc o) :=
  h.trans ⟨rfl, rfl, rfl, by simp, fun k hk _ => Below.heap_alloc w o k hk⟩
theorem drew (h : Keeps K a w) : Keeps K a w.drew := h.trans ⟨rfl, rfl, rfl, Nat.le_refl _, fun _ _ _ => rfl⟩
theorem setCell (h : Keeps K a w) {p : Addr} (hp : ¬ K p.block) (v : Value) : Keeps K a (w.setCell p v) :=
  h.trans ⟨rfl, rfl, rfl, by simp [World.setCell], fun k _ hk => Below.heap_setCell w p v k (fun e => hp (e ▸ hk))⟩
theorem putObj (h : Keeps K a w) {l : Nat} (hl : ¬ K l) (o : Obj) : Keeps K a (w.putObj l o) :=
  h.trans ⟨rfl, rfl, rfl, by simp, fun k _ hk => World.putObj_heap_other (fun e => hl (e ▸ hk))⟩
theorem grown (h : Keeps K a w) {row : Option Nat} (hg : w.grownBy w' row) (hr : ∀ k, row = some k → ¬ K k) : Keeps K a w' :=
  h.trans ⟨hg.os, hg.tape, hg.output, hg.size, fun k hk hK => hg.block k hk (fun e => hr k e.symm hK)⟩
theorem of_below {B : Nat} (h : Below B w w') (s : ∀ k, k < w.heap.size → K k → k < B) : Keeps K w w' := ⟨h.os, h.tape, h.output, h.size, fun k hk hK => h.block k (s k hk hK)⟩
theorem below {B : Nat} (h : Keeps K w w') (hB : B ≤ w.heap.size) (s : ∀ k, k < B → K k) : Below B w w' := ⟨h.os, h.tape, h.output, h.size, fun k hk => h.block k (by omega) (s k hk)⟩
theorem cell (h : Keeps K w w') {p : Addr} {v : Value} (hc : w.cell? p = some v) (hp : K p.block) : w'.cell? p = some v :=
  (World.cell?_of_block (h.block p.block (World.block_lt_of_cell? w p hc) hp)).trans hc
theorem cellb (h : Keeps K w w') {p : Addr} (hl : p.block < w.heap.size) (hp : K p.block) : w'.cell? p = w.cell? p := World.cell?_of_block (h.block p.block hl hp)
theorem frozenb (h : Keeps K w w') {p : Addr} (hl : p.block < w.heap.size) (hp : K p.block) : w'.frozen? p = w.frozen? p := World.frozen?_of_block (h.block p.block hl hp)
theorem heap (h : Keeps K w w') {k : Nat} {o : Obj} (ho : w.heap[k]? = some o) (hp : K k) : w'.heap[k]? = some o :=
  (h.block k (Array.getElem?_eq_some_iff.1 ho).1 hp).trans ho
theorem boxed (h : Keeps K w w') {B : Nat} {t : TypeId} {v : Value} (hb : Boxed w B t v) (hp : K B) : Boxed w' B t v := h.heap (o := .cells #[v] t (0, 0)) hb hp
theorem ownsRow (h : Keeps K w w') {base size n : Nat} {e : TypeId} {v : Value} {xs : List Value} (hr : w.ownsRow base e size v n xs) (hp : ∀ k, base ≤ k → K k) : w'.ownsRow base e size v n xs := by
  refine ⟨hr.1, ?_⟩
  rcases hr.2 with hn | ⟨g, cap, cur, rfl, hb, hgg, rest⟩
  · exact .inl hn
  · exact .inr ⟨g, cap, cur, rfl, hb, h.heap hgg (hp g hb), rest⟩
theorem ownsRow' (h : Keeps K w w') {base size n b : Nat} {e : TypeId} {v : Value} {xs : List Value} (hr : w.ownsRow base e size v n xs) (hne : v.ownBlock ≠ some b) (hp : ∀ k, k ≠ b → K k := by exact fun _ h => h) : w'.ownsRow base e size v n xs := by
  refine ⟨hr.1, ?_⟩
  rcases hr.2 with hn | ⟨g, cap, cur, rfl, hb, hgg, rest⟩
  · exact .inl hn
  · exact .inr ⟨g, cap, cur, rfl, hb, h.heap hgg (hp g (fun e => hne (by rw [e]; rfl))), rest⟩
end Keeps

theorem ownsRow_slice {w : World} {base size n : Nat} {e : TypeId} {v : Value} {xs : List Value} (h : w.ownsRow base e size v n xs) : ∃ ao cap, v = .slice ao n cap := by
  rcases h.2 with ⟨rfl, rfl⟩ | ⟨g, cap, cur, rfl, _⟩
  · exact ⟨_, _, rfl⟩
  · exact ⟨_, _, rfl⟩
theorem boxed_set2 {W : World} {A B : Nat} {tA tB : TypeId} {a b : Value} (hA : Boxed W A tA a) (hB : Boxed W B tB b) (hne : A ≠ B) (u v : Value) :
    Boxed ((W.setCell ⟨A, 0, none⟩ u).setCell ⟨B, 0, none⟩ v) A tA u ∧ Boxed ((W.setCell ⟨A, 0, none⟩ u).setCell ⟨B, 0, none⟩ v) B tB v :=
  ⟨(hA.set u).other hne v, (hB.other (Ne.symm hne) u).set v⟩
theorem Keeps.set2 {K : Nat → Prop} {w W : World} (h : Keeps K w W) {A B : Nat} (hA : ¬ K A) (hB : ¬ K B) (u v : Value) : Keeps K w ((W.setCell ⟨A, 0, none⟩ u).setCell ⟨B, 0, none⟩ v) :=
  (h.setCell (p := ⟨A, 0, none⟩) hA u).setCell (p := ⟨B, 0, none⟩) hB v

/-- What lay lies as it lay. -/
def Ext (w w' : World) : Prop := Below w.heap.size w w'
theorem Ext.refl (w : World) : Ext w w := Below.refl _ w
theorem Ext.trans {a b c : World} (h : Ext a b) (k : Ext b c) : Ext a c := Below.trans h (Below.mono k h.size)
theorem Ext.size {a b : World} (h : Ext a b) : a.heap.size ≤ b.heap.size := Below.size h
theorem Ext.alloc {a b : World} (h : Ext a b) (o : Obj) : Ext a (b.alloc o) := Below.alloc h h.size o
theorem Ext.drew {a b : World} (h : Ext a b) : Ext a b.drew := Below.drew h
theorem Ext.keeps {a b : World} (h : Ext a b) : Keeps (fun _ => True) a b := Keeps.of_below h (fun _ h _ => h)
theorem Keeps.ext {a b : World} {K : Nat → Prop} (h : Keeps K a b) (s : ∀ k, k < a.heap.size → K k) : Ext a b := h.below (Nat.le_refl _) s

/-- What an iterator value promises: called with the yield of whatever loop it tells xs, one by one; what it reads meanwhile are the blocks of R; what it writes are blocks that it has laid itself, from W.heap.size on, below D. -/
def SeqX {α : Type} (F : Fence) (n : Nat) (P : Program) (g : Nat) (lb : Array Value) (encs : α → Array Value) (xs : List α) (R : Nat → Prop) (w : World) : Prop :=
  ∀ (l : Nat) (W : World) (J Jx : Nat → List α → World → Prop), Keeps R w W →
    (∀ D s A A', J D s A → Keeps (fun k => k < W.heap.size ∨ D ≤ k) A A' → J D s A') →
    (∀ D s A A', Jx D s A → Keeps (fun k => k < W.heap.size ∨ D ≤ k) A A' → Jx D s A') →
    (∀ D W', W.heap.size ≤ D → D ≤ W'.heap.size → Keeps (fun k => k < W.heap.size) W W' → J D [] W') →
    (∀ D pre x rest W1, xs = pre ++ x :: rest → W.heap.size ≤ D → D ≤ W1.heap.size → J D pre W1 →
      YieldAt F (n - 1) P l (encs x) W1 fun e W' => Keeps (fun k => R k ∨ (W.heap.size ≤ k ∧ k < D)) W1 W' ∧
        ((e = .returned (.bool true) ∧ J D (pre ++ [x]) W') ∨ (e = .returned (.bool false) ∧ Jx D (pre ++ [x]) W'))) →
    CallsIn F n P g (#[.func (.yield l) #[] #[]] ++ lb) W fun e W' => (∃ v, e = .returned v) ∧ ∃ D, W.heap.size ≤ D ∧ D ≤ W'.heap.size ∧
      (J D xs W' ∨ ∃ pre x rest, xs = pre ++ x :: rest ∧ Jx D (pre ++ [x]) W')

theorem SeqX.later {α : Type} {F : Fence} {n : Nat} {P : Program} {g : Nat} {lb : Array Value} {encs : α → Array Value} {xs : List α} {R : Nat → Prop} {w w' : World}
    (h : SeqX F n P g lb encs xs R w) (k : Keeps R w w') : SeqX F n P g lb encs xs R w' := fun l W J Jx hW => h l W J Jx (k.trans hW)

/-- How the body of a round may be left. -/
def postX {α : Type} (K : Nat → Prop) (I : List α → World → Prop) (Ix : Code → List α → World → Prop) (xs : List α) (W : World) : Exit → Act → World → Prop
  | .normal, _, W' => Keeps K W W' ∧ I xs W'
  | .ret, _, W' => Keeps K W W' ∧ Ix .ret xs W'
  | .exit id, _, W' => Keeps K W W' ∧ Ix (.exit id) xs W'
  | .goto t, _, W' => Keeps K W W' ∧ Ix (.goto t) xs W'
  | .panic _, _, _ => False
  | .outgrown, _, _ => False

variable {F : Fence} {n : Nat} {P : Program}

theorem wpIn_rangeX {α : Type} {g : Operand} {ps : Array Tmp} {assign body : Code} {Q : Exit → Act → World → Prop} {a : Act} {w : World}
    (hro : F.round = none) (h1 : F.depth.isSome = true → 1 ≤ n) {gf : Nat} {lb : Array Value} (hg : a.eval g = .func (.func gf) #[] lb) (hFg : F.fn gf) (eg : ∀ args w, (callFunc gf args).run P w = .ok (.enter gf args) w)
    {encs : α → Array Value} {xs : List α} {R : Nat → Prop} {w0 : World} (hseq : SeqX F (n - 1) P gf lb encs xs R w0)
    (hb0 : Keeps R w0 w) (hR : ∀ k, R k → k < w.heap.size) (hps : ∀ x, (encs x).size = ps.size)
    (I : Nat → List α → World → Prop) (Ix : Code → Nat → List α → World → Prop)
    (hI : ∀ D s A A', I D s A → Keeps (fun k => k < w.heap.size ∨ D ≤ k) A A' → I D s A')
    (hIx : ∀ c D s A A', Ix c D s A → Keeps (fun k => k < w.heap.size ∨ D ≤ k) A A' → Ix c D s A')
    (h0 : ∀ D W, w.heap.size ≤ D → D ≤ W.heap.size → Keeps (fun k => k < w.heap.size) w W → I D [] W)
    (Ax : Nat → α → Act → World → Prop) (hAx : ∀ D x a' A A', Ax D x a' A → Keeps (fun k => k < w.heap.size ∨ D ≤ k) A A' → Ax D x a' A')
    (hassign : ∀ (l D : Nat) (x : α) (W : World) (K : Act → World → Prop), D ≤ W.heap.size → (∀ a' W', Keeps (fun _ => True) W W' → Ax D x a' W' → K a' W') →
      assign.wpIn (F.inRound l) (n - 1 - 1) P (Exit.then K (fun _ _ _ => False)) { tmps := (ps.zip (encs x)).foldl (fun t (p, v) => t.setIfInBounds p v) a.tmps, defers := [] } W)
    (hbody : ∀ (l D : Nat) (pre : List α) (x : α) (rest : List α) (a' : Act) (W : World), xs = pre ++ x :: rest → w.heap.size ≤ D → D ≤ W.heap.size → (∃ r, W.heap[l]? = some (.loop r)) → I D pre W → Ax D x a' W →
      body.wpIn (F.inRound l) (n - 1 - 1) P (postX (fun k => R k ∨ (w.heap.size ≤ k ∧ k < D)) (I D) (fun c => Ix c D) (pre ++ [x]) W) a' W)
    (hdone : ∀ (D : Nat) (W : World), w.heap.size < D → D ≤ W.heap.size → I D xs W → W.heap[w.heap.size]? = some (.deferred (some [])) → Q .normal { a with defers := { target := .collected w.heap.size, args := #[] } :: a.defers } W)
    (hstop : ∀ (c : Code) (D : Nat) (pre : List α) (x : α) (rest : List α) (W : World), xs = pre ++ x :: rest → w.heap.size < D → D ≤ W.heap.size → Ix c D (pre ++ [x]) W → W.heap[w.heap.size]? = some (.deferred (some [])) → c.wpIn F n P Q { a with defers := { target := .collected w.heap.size, args := #[] } :: a.defers } W) :
    (Code.rangeFunc g ps assign body).wpIn F n P Q a w := by
  refine wpIn_rangeFunc ?_
  intro fn hfn
  rw [hro]
  obtain ⟨rec, hrec⟩ : ∃ rec : LoopState → Option Code → Loop, rec = fun st pe => { state := st, pending := pe, fn, tmps := a.tmps, params := ps, assign, body, defers := w.heap.size } := ⟨_, rfl⟩
  obtain ⟨W1, hW1⟩ : ∃ W1, (w.alloc (.deferred (some []))).alloc (.loop (rec .ready none)) = W1 := ⟨_, rfl⟩
  have hs1 : W1.heap.size = w.heap.size + 2 := by rw [← hW1]; simp
  have hL1 : W1.heap[w.heap.size + 1]? = some (.loop (rec .ready none)) := by
    rw [← hW1]; have := World.alloc_heap_new (w.alloc (.deferred (some []))) (.loop (rec .ready none)); rwa [World.size_alloc] at this
  have hK1 : W1.heap[w.heap.size]? = some (.deferred (some [])) := by
    rw [← hW1]; exact (Below.heap_alloc _ _ _ (by simp)).trans (World.alloc_heap_new w _)
  have hk1 : ∀ K, Keeps K w W1 := fun K => by rw [← hW1]; exact ((Keeps.refl K w).alloc _).alloc _
  refine ⟨w.heap.size + 1, [{ target := .collected w.heap.size, args := #[] }], W1, { target := .fn (.func gf) lb, args := #[.func (.yield (w.heap.size + 1)) #[] #[]] }, W1, gf,
    #[.func (.yield (w.heap.size + 1)) #[] #[]] ++ lb, W1, ?_, ?_, ?_, ?_, h1, ?_⟩
  · rw [← hW1, hrec]; exact run_enterLoop_outer _ _ _ _ _
  · simp only [resolve, hg]
    simp [go_sem]
  · intro f' hf'; simp [Target.leads] at hf'; subst hf'; exact hFg
  · simp [invoke, go_sem, eg]
  · refine (hseq (w.heap.size + 1) W1
      (fun D pre W => w.heap.size + 2 ≤ D ∧ D ≤ W.heap.size ∧ I D pre W ∧ W.heap[w.heap.size + 1]? = some (.loop (rec .ready none)) ∧ W.heap[w.heap.size]? = some (.deferred (some [])))
      (fun D pre W => w.heap.size + 2 ≤ D ∧ D ≤ W.heap.size ∧ ∃ c, Ix c D pre W ∧ W.heap[w.heap.size + 1]? = some (.loop (rec .done (some c))) ∧ W.heap[w.heap.size]? = some (.deferred (some [])))
      (hb0.trans (hk1 R)) ?_ ?_ ?_ ?_).mono ?_
    · rintro D s A A' ⟨hD, hD', hi, hl, hk⟩ hA
      exact ⟨hD, Nat.le_trans hD' hA.size, hI D s A A' hi (hA.mono fun k _ h => by omega), hA.heap hl (.inl (by omega)), hA.heap hk (.inl (by omega))⟩
    · rintro D s A A' ⟨hD, hD', c, hi, hl, hk⟩ hA
      exact ⟨hD, Nat.le_trans hD' hA.size, c, hIx c D s A A' hi (hA.mono fun k _ h => by omega), hA.heap hl (.inl (by omega)), hA.heap hk (.inl (by omega))⟩
    · intro D W' hD hD' hk
      exact ⟨by omega, hD', h0 D W' (by omega) hD' ((hk1 _).trans (hk.mono fun k _ h => by omega)), hk.heap hL1 (by omega), hk.heap hK1 (by omega)⟩
    · rintro D pre x rest W hx hD hDW ⟨hD2, _, hi, hl, hk⟩
      have hlt : w.heap.size + 1 < W.heap.size := (Array.getElem?_eq_some_iff.1 hl).1
      have hy := run_yield (P := P) (args := encs x) hl (by rw [hrec]; exact hps x)
      rw [hrec] at hy
      refine ⟨fn, _, assign, body, hy, roundIn_of_wpIn hfn (hassign _ D x W _ hDW ?_)⟩
      clear hy
      intro a' Wa hka hax
      replace hl := hka.heap hl trivial
      replace hk := hka.heap hk trivial
      have hlta : w.heap.size + 1 < Wa.heap.size := (Array.getElem?_eq_some_iff.1 hl).1
      replace hi := hI D _ _ _ hi (hka.mono fun _ _ _ => trivial)
      refine ⟨_, run_beginRound hl (by rw [hrec]), ?_⟩
      obtain ⟨Wb, hWb⟩ : ∃ Wb, Wa.putObj (w.heap.size + 1) (.loop { rec .ready none with state := .busy }) = Wb := ⟨_, rfl⟩
      have hkb : Keeps (fun k => k ≠ w.heap.size + 1) Wa Wb := by rw [← hWb]; exact (Keeps.refl _ _).putObj (fun h => h rfl) _
      have hl2 : Wb.heap[w.heap.size + 1]? = some (.loop { rec .ready none with state := .busy }) := by rw [← hWb]; exact World.putObj_heap_same hlta
      have hk2 : Wb.heap[w.heap.size]? = some (.deferred (some [])) := hkb.heap hk (by omega)
      have hib : I D pre Wb := hI D _ _ _ hi (hkb.mono fun k _ h => by omega)
      have haxb : Ax D x a' Wb := hAx D _ _ _ _ hax (hkb.mono fun k _ h => by omega)
      show body.wpIn (F.inRound (w.heap.size + 1)) _ P _ a' (Wa.putObj (w.heap.size + 1) (.loop { rec .ready none with state := .busy }))
      rw [hWb]
      refine wpIn_mono (hbody _ D pre x rest a' _ hx (by omega) (by have := hka.size; have := hkb.size; omega) ⟨_, hl2⟩ hib haxb) ?_
      have hne : ∀ k, (R k ∨ (W1.heap.size ≤ k ∧ k < D)) → k ≠ w.heap.size + 1 := fun k h => h.elim (fun h => by have := hR k h; omega) (fun h => by omega)
      have kall : Keeps (fun k => R k ∨ (W1.heap.size ≤ k ∧ k < D)) W Wb := (hka.mono fun _ _ _ => trivial).trans (hkb.mono fun k _ h => hne k h)
      have fin : ∀ (jump : Option Code) (W3 : World), Keeps (fun k => R k ∨ (w.heap.size ≤ k ∧ k < D)) Wb W3 →
          ∃ W4, (Instr.endRound (w.heap.size + 1) jump).run P W3 = .ok (.bool jump.isNone) W4 ∧ Keeps (fun k => k ≠ w.heap.size + 1) W3 W4 ∧
          W4.heap[w.heap.size + 1]? = some (.loop (rec (if jump.isNone then .ready else .done) jump)) ∧
          W4.heap[w.heap.size]? = some (.deferred (some [])) ∧ D ≤ W4.heap.size ∧ Keeps (fun k => R k ∨ (W1.heap.size ≤ k ∧ k < D)) W W4 := fun jump W3 hk3 => by
        have hl3 := hk3.heap hl2 (.inr (by omega))
        have := run_endRound (P := P) jump hl3
        rw [hrec] at this ⊢
        rw [hrec] at hl3
        have hk4 : Keeps (fun k => k ≠ w.heap.size + 1) W3 _ := (Keeps.refl _ W3).putObj (fun h => h rfl) (.loop { state := (if jump.isNone then .ready else .done), pending := jump, fn, tmps := a.tmps, params := ps, assign, body, defers := w.heap.size })
        refine ⟨_, this, hk4, World.putObj_heap_same (Array.getElem?_eq_some_iff.1 hl3).1, hk4.heap (hk3.heap hk2 (.inr (by omega))) (by omega), ?_, ?_⟩
        · exact Nat.le_trans (by have := hka.size; have := hkb.size; have := hk3.size; omega) hk4.size
        · exact (kall.trans (hk3.mono fun k _ h => h.imp id (fun h => by omega))).trans (hk4.mono fun k _ h => hne k h)
      rintro e a3 W3 hp
      cases e with
      | normal =>
        obtain ⟨hk3, hi3⟩ := hp
        obtain ⟨W4, hr, hk4, hl4, hd4, hs4, hall⟩ := fin none W3 hk3
        exact ⟨_, _, hr, hall, .inl ⟨rfl, hD2, hs4, hI D _ _ _ hi3 (hk4.mono fun k _ h => by omega), hl4, hd4⟩⟩
      | ret =>
        obtain ⟨hk3, hi3⟩ := hp
        obtain ⟨W4, hr, hk4, hl4, hd4, hs4, hall⟩ := fin (some .ret) W3 hk3
        exact ⟨_, _, hr, hall, .inr ⟨rfl, hD2, hs4, .ret, hIx _ D _ _ _ hi3 (hk4.mono fun k _ h => by omega), hl4, hd4⟩⟩
      | exit id =>
        obtain ⟨hk3, hi3⟩ := hp
        obtain ⟨W4, hr, hk4, hl4, hd4, hs4, hall⟩ := fin (some (.exit id)) W3 hk3
        exact ⟨_, _, hr, hall, .inr ⟨rfl, hD2, hs4, .exit id, hIx _ D _ _ _ hi3 (hk4.mono fun k _ h => by omega), hl4, hd4⟩⟩
      | goto t =>
        obtain ⟨hk3, hi3⟩ := hp
        obtain ⟨W4, hr, hk4, hl4, hd4, hs4, hall⟩ := fin (some (.goto t)) W3 hk3
        exact ⟨_, _, hr, hall, .inr ⟨rfl, hD2, hs4, .goto t, hIx _ D _ _ _ hi3 (hk4.mono fun k _ h => by omega), hl4, hd4⟩⟩
      | panic ch => exact hp.elim
      | outgrown => exact hp.elim
    · rintro e W2 ⟨⟨v, rfl⟩, D, _, _, (⟨hD, hD', hi, hl, hk⟩ | ⟨pre, x, rest, hx, hD, hD', c, hi, hl, hk⟩)⟩
      · have hke : Keeps (fun k => k ≠ w.heap.size + 1) W2 _ := (Keeps.refl _ W2).putObj (fun h => h rfl) (.loop { rec .ready none with state := .exhausted })
        have := run_endLoop (P := P) hl (by rw [hrec]; simp)
        rw [hrec] at this hke
        exact ⟨none, _, this, hdone D _ (by omega) (Nat.le_trans hD' hke.size) (hI D _ _ _ hi (hke.mono fun k _ h => by omega)) (hke.heap hk (by omega))⟩
      · have hke : Keeps (fun k => k ≠ w.heap.size + 1) W2 _ := (Keeps.refl _ W2).putObj (fun h => h rfl) (.loop { rec .done (some c) with state := .exhausted })
        have := run_endLoop (P := P) hl (by rw [hrec]; simp)
        rw [hrec] at this hke
        exact ⟨some c, _, this, hstop c D pre x rest _ hx (by omega) (Nat.le_trans hD' hke.size) (hIx c D _ _ _ hi (hke.mono fun k _ h => by omega)) (hke.heap hk (by omega))⟩

end Go.Proofs.Ytmmjhdkoccpdjaa
