/- Several texts in one (Seq Names Still LabA LabB LabC LabD LabE LabF). Conditions: each says its own. -/
import Derived.RangeFuncNested
import Derived.RangeFuncBound
import Derived.RangeFuncCalls
import Derived.RangeFuncLeaves
import Derived.RangeFuncBox
import Derived.Shelf.Abstract
import Derived.Shelf.RegionOpen
import Derived.WalkKit
import Derived.OwnWalkIn
import Derived.TacticsInMore
import Derived.LoopNIn
import Derived.LoopIn
import Derived.Below
import Derived.Laws.Strings
import Derived.StillTail
import Derived.StillTactics
import Derived.Lib.Hide
import Derived.Outline
import Derived.Test.YtjnaknfnoibncaaProg
import Derived.Laws.IdiomStrings
import Derived.IntWalk
import Derived.Sort.CutIn

/- A range over a function, by ownership of blocks: what an iterator promises to its caller (SeqX), and the law of the statement over it (wpIn_rangeX: outside a round, wpIn_rangeXN: within one). Conditions: none; it speaks of any program. -/
namespace Go.Proofs.Ytjnaknfnoibncaa
open Go Go.RowKit Go.Shelf

theorem wide_fn (f : FuncId) : Fence.wide.fn f = True := rfl
theorem wide_depth : Fence.wide.depth = none := rfl
theorem wide_room {n : Nat} : Fence.wide.depth.isSome = true → 1 ≤ n := fun h => by simp [wide_depth] at h

/-- At the wide fence a round's contract holds within whatever round, at whatever depth. -/
theorem roundIn_wide {l' n m l : Nat} {P : Program} {f : FuncId} {tmps : Array Value} {assign body : Code} {w : World} {R : Ending → World → Prop} (h : RoundIn Fence.wide n P l f tmps assign body w R) :
    RoundIn (Fence.wide.inRound l') m P l f tmps assign body w R := ⟨trivial, fun c cs _ => h.2 c cs (room_wide _)⟩

/-- The blocks of which K holds lie as they lay; nothing else of the outside has turned; no block is gone. -/
structure Keeps (K : Nat → Prop) (w w' : World) : Prop where
  os : w'.os = w.os
  tape : w'.tape = w.tape
  output : w'.output = w.output
  size : w.heap.size ≤ w'.heap.size
  block : ∀ k, k < w.heap.size → K k → w'.heap[k]? = w.heap[k]?

namespace Keeps
variable {K K' : Nat → Prop} {a b c w w' : World}
theorem refl (K : Nat → Prop) (w : World) : Keeps K w w := ⟨rfl, rfl, rfl, Nat.le_refl _, fun _ _ _ => rfl⟩
theorem trans (h : Keeps K a b) (k : Keeps K b c) : Keeps K a c :=
  ⟨k.os.trans h.os, k.tape.trans h.tape, k.output.trans h.output, Nat.le_trans h.size k.size, fun i hi hk => (k.block i (Nat.lt_of_lt_of_le hi h.size) hk).trans (h.block i hi hk)⟩
theorem mono (h : Keeps K a b) (s : ∀ k, k < a.heap.size → K' k → K k) : Keeps K' a b := ⟨h.os, h.tape, h.output, h.size, fun i hi hk => h.block i hi (s i hi hk)⟩
theorem alloc (h : Keeps K a w) (o : Obj) : Keeps K a (w.alloc o) :=
  h.trans ⟨rfl, rfl, rfl, by simp, fun k hk _ => Below.heap_alloc w o k hk⟩
theorem drew (h : Keeps K a w) : Keeps K a w.drew := h.trans ⟨rfl, rfl, rfl, Nat.le_refl _, fun _ _ _ => rfl⟩
theorem setCell (h : Keeps K a w) {p : Addr} (hp : ¬ K p.block) (v : Value) : Keeps K a (w.setCell p v) :=
  h.trans ⟨rfl, rfl, rfl, by simp [World.setCell], fun k _ hk => Below.heap_setCell w p v k (fun e => hp (e ▸ hk))⟩
theorem putObj (h : Keeps K a w) {l : Nat} (hl : ¬ K l) (o : Obj) : Keeps K a (w.putObj l o) :=
  h.trans ⟨rfl, rfl, rfl, by simp, fun k _ hk => World.putObj_heap_other (fun e => hl (e ▸ hk))⟩
theorem grown (h : Keeps K a w) {row : Option Nat} (hg : w.grownBy w' row) (hr : ∀ k, row = some k → ¬ K k) : Keeps K a w' :=
  h.trans ⟨hg.os, hg.tape, hg.output, hg.size, fun k hk hK => hg.block k hk (fun e => hr k e.symm hK)⟩
theorem of_below {B : Nat} (h : Below B w w') (s : ∀ k, k < w.heap.size → K k → k < B) : Keeps K w w' := ⟨h.os, h.tape, h.output, h.size, fun k hk hK => h.block k (s k hk hK)⟩
theorem below {B : Nat} (h : Keeps K w w') (hB : B ≤ w.heap.size) (s : ∀ k, k < B → K k) : Below B w w' := ⟨h.os, h.tape, h.output, h.size, fun k hk => h.block k (by omega) (s k hk)⟩
theorem cell (h : Keeps K w w') {p : Addr} {v : Value} (hc : w.cell? p = some v) (hp : K p.block) : w'.cell? p = some v :=
  (World.cell?_of_block (h.block p.block (World.block_lt_of_cell? w p hc) hp)).trans hc
theorem cellb (h : Keeps K w w') {p : Addr} (hl : p.block < w.heap.size) (hp : K p.block) : w'.cell? p = w.cell? p := World.cell?_of_block (h.block p.block hl hp)
theorem frozenb (h : Keeps K w w') {p : Addr} (hl : p.block < w.heap.size) (hp : K p.block) : w'.frozen? p = w.frozen? p := World.frozen?_of_block (h.block p.block hl hp)
theorem heap (h : Keeps K w w') {k : Nat} {o : Obj} (ho : w.heap[k]? = some o) (hp : K k) : w'.heap[k]? = some o :=
  (h.block k (Array.getElem?_eq_some_iff.1 ho).1 hp).trans ho
theorem boxed (h : Keeps K w w') {B : Nat} {t : TypeId} {v : Value} (hb : Boxed w B t v) (hp : K B) : Boxed w' B t v := h.heap (o := .cells #[v] t (0, 0)) hb hp
theorem ownsRow (h : Keeps K w w') {base size n : Nat} {e : TypeId} {v : Value} {xs : List Value} (hr : w.ownsRow base e size v n xs) (hp : ∀ k, base ≤ k → K k) : w'.ownsRow base e size v n xs := by
  refine ⟨hr.1, ?_⟩
  rcases hr.2 with hn | ⟨g, cap, cur, rfl, hb, hgg, rest⟩
  · exact .inl hn
  · exact .inr ⟨g, cap, cur, rfl, hb, h.heap hgg (hp g hb), rest⟩
theorem ownsRow' (h : Keeps K w w') {base size n b : Nat} {e : TypeId} {v : Value} {xs : List Value} (hr : w.ownsRow base e size v n xs) (hne : v.ownBlock ≠ some b) (hp : ∀ k, k ≠ b → K k := by exact fun _ h => h) : w'.ownsRow base e size v n xs := by
  refine ⟨hr.1, ?_⟩
  rcases hr.2 with hn | ⟨g, cap, cur, rfl, hb, hgg, rest⟩
  · exact .inl hn
  · exact .inr ⟨g, cap, cur, rfl, hb, h.heap hgg (hp g (fun e => hne (by rw [e]; rfl))), rest⟩
end Keeps

theorem ownsRow_slice {w : World} {base size n : Nat} {e : TypeId} {v : Value} {xs : List Value} (h : w.ownsRow base e size v n xs) : ∃ ao cap, v = .slice ao n cap := by
  rcases h.2 with ⟨rfl, rfl⟩ | ⟨g, cap, cur, rfl, _⟩
  · exact ⟨_, _, rfl⟩
  · exact ⟨_, _, rfl⟩
theorem boxed_set2 {W : World} {A B : Nat} {tA tB : TypeId} {a b : Value} (hA : Boxed W A tA a) (hB : Boxed W B tB b) (hne : A ≠ B) (u v : Value) :
    Boxed ((W.setCell ⟨A, 0, none⟩ u).setCell ⟨B, 0, none⟩ v) A tA u ∧ Boxed ((W.setCell ⟨A, 0, none⟩ u).setCell ⟨B, 0, none⟩ v) B tB v :=
  ⟨(hA.set u).other hne v, (hB.other (Ne.symm hne) u).set v⟩
theorem Keeps.set2 {K : Nat → Prop} {w W : World} (h : Keeps K w W) {A B : Nat} (hA : ¬ K A) (hB : ¬ K B) (u v : Value) : Keeps K w ((W.setCell ⟨A, 0, none⟩ u).setCell ⟨B, 0, none⟩ v) :=
  (h.setCell (p := ⟨A, 0, none⟩) hA u).setCell (p := ⟨B, 0, none⟩) hB v

/-- What lay lies as it lay. -/
def Ext (w w' : World) : Prop := Below w.heap.size w w'
theorem Ext.refl (w : World) : Ext w w := Below.refl _ w
theorem Ext.trans {a b c : World} (h : Ext a b) (k : Ext b c) : Ext a c := Below.trans h (Below.mono k h.size)
theorem Ext.size {a b : World} (h : Ext a b) : a.heap.size ≤ b.heap.size := Below.size h
theorem Ext.alloc {a b : World} (h : Ext a b) (o : Obj) : Ext a (b.alloc o) := Below.alloc h h.size o
theorem Ext.drew {a b : World} (h : Ext a b) : Ext a b.drew := Below.drew h
theorem Ext.keeps {a b : World} (h : Ext a b) : Keeps (fun _ => True) a b := Keeps.of_below h (fun _ h _ => h)
theorem Keeps.ext {a b : World} {K : Nat → Prop} (h : Keeps K a b) (s : ∀ k, k < a.heap.size → K k) : Ext a b := h.below (Nat.le_refl _) s

/-- What an iterator value promises: called with the yield of whatever loop it tells xs, one by one; what it reads meanwhile are the blocks of R; what it writes are blocks that it has laid itself, from W.heap.size on, below D. -/
def SeqX {α : Type} (F : Fence) (n : Nat) (P : Program) (g : Nat) (lb : Array Value) (encs : α → Array Value) (xs : List α) (R : Nat → Prop) (w : World) : Prop :=
  ∀ (l : Nat) (W : World) (J Jx : Nat → List α → World → Prop), Keeps R w W →
    (∀ D s A A', J D s A → Keeps (fun k => k < W.heap.size ∨ D ≤ k) A A' → J D s A') →
    (∀ D s A A', Jx D s A → Keeps (fun k => k < W.heap.size ∨ D ≤ k) A A' → Jx D s A') →
    (∀ D W', W.heap.size ≤ D → D ≤ W'.heap.size → Keeps (fun k => k < W.heap.size) W W' → J D [] W') →
    (∀ D pre x rest W1, xs = pre ++ x :: rest → W.heap.size ≤ D → D ≤ W1.heap.size → J D pre W1 →
      YieldAt F (n - 1) P l (encs x) W1 fun e W' => Keeps (fun k => R k ∨ (W.heap.size ≤ k ∧ k < D)) W1 W' ∧
        ((e = .returned (.bool true) ∧ J D (pre ++ [x]) W') ∨ (e = .returned (.bool false) ∧ Jx D (pre ++ [x]) W'))) →
    CallsIn F n P g (#[.func (.yield l) #[] #[]] ++ lb) W fun e W' => (∃ v, e = .returned v) ∧ ∃ D, W.heap.size ≤ D ∧ D ≤ W'.heap.size ∧
      (J D xs W' ∨ ∃ pre x rest, xs = pre ++ x :: rest ∧ Jx D (pre ++ [x]) W')

theorem SeqX.later {α : Type} {F : Fence} {n : Nat} {P : Program} {g : Nat} {lb : Array Value} {encs : α → Array Value} {xs : List α} {R : Nat → Prop} {w w' : World}
    (h : SeqX F n P g lb encs xs R w) (k : Keeps R w w') : SeqX F n P g lb encs xs R w' := fun l W J Jx hW => h l W J Jx (k.trans hW)

/-- How the body of a round may be left. -/
def postX {α : Type} (K : Nat → Prop) (I : List α → World → Prop) (Ix : Code → List α → World → Prop) (xs : List α) (W : World) : Exit → Act → World → Prop
  | .normal, _, W' => Keeps K W W' ∧ I xs W'
  | .ret, _, W' => Keeps K W W' ∧ Ix .ret xs W'
  | .exit id, _, W' => Keeps K W W' ∧ Ix (.exit id) xs W'
  | .goto t, _, W' => Keeps K W W' ∧ Ix (.goto t) xs W'
  | .panic _, _, _ => False
  | .outgrown, _, _ => False

variable {F : Fence} {n : Nat} {P : Program}

theorem wpIn_rangeX {α : Type} {g : Operand} {ps : Array Tmp} {assign body : Code} {Q : Exit → Act → World → Prop} {a : Act} {w : World}
    (hro : F.round = none) (h1 : F.depth.isSome = true → 1 ≤ n) {gf : Nat} {lb : Array Value} (hg : a.eval g = .func (.func gf) #[] lb) (hFg : F.fn gf) (eg : ∀ args w, (callFunc gf args).run P w = .ok (.enter gf args) w)
    {encs : α → Array Value} {xs : List α} {R : Nat → Prop} {w0 : World} (hseq : SeqX F (n - 1) P gf lb encs xs R w0)
    (hb0 : Keeps R w0 w) (hR : ∀ k, R k → k < w.heap.size) (hps : ∀ x, (encs x).size = ps.size)
    (I : Nat → List α → World → Prop) (Ix : Code → Nat → List α → World → Prop)
    (hI : ∀ D s A A', I D s A → Keeps (fun k => k < w.heap.size ∨ D ≤ k) A A' → I D s A')
    (hIx : ∀ c D s A A', Ix c D s A → Keeps (fun k => k < w.heap.size ∨ D ≤ k) A A' → Ix c D s A')
    (h0 : ∀ D W, w.heap.size ≤ D → D ≤ W.heap.size → Keeps (fun k => k < w.heap.size) w W → I D [] W)
    (Ax : Nat → α → Act → World → Prop) (hAx : ∀ D x a' A A', Ax D x a' A → Keeps (fun k => k < w.heap.size ∨ D ≤ k) A A' → Ax D x a' A')
    (hassign : ∀ (l D : Nat) (x : α) (W : World) (K : Act → World → Prop), D ≤ W.heap.size → (∀ a' W', Keeps (fun _ => True) W W' → Ax D x a' W' → K a' W') →
      assign.wpIn (F.inRound l) (n - 1 - 1) P (Exit.then K (fun _ _ _ => False)) { tmps := (ps.zip (encs x)).foldl (fun t (p, v) => t.setIfInBounds p v) a.tmps, defers := [] } W)
    (hbody : ∀ (l D : Nat) (pre : List α) (x : α) (rest : List α) (a' : Act) (W : World), xs = pre ++ x :: rest → w.heap.size ≤ D → D ≤ W.heap.size → (∃ r, W.heap[l]? = some (.loop r)) → I D pre W → Ax D x a' W →
      body.wpIn (F.inRound l) (n - 1 - 1) P (postX (fun k => R k ∨ (w.heap.size ≤ k ∧ k < D)) (I D) (fun c => Ix c D) (pre ++ [x]) W) a' W)
    (hdone : ∀ (D : Nat) (W : World), w.heap.size < D → D ≤ W.heap.size → I D xs W → W.heap[w.heap.size]? = some (.deferred (some [])) → Q .normal { a with defers := { target := .collected w.heap.size, args := #[] } :: a.defers } W)
    (hstop : ∀ (c : Code) (D : Nat) (pre : List α) (x : α) (rest : List α) (W : World), xs = pre ++ x :: rest → w.heap.size < D → D ≤ W.heap.size → Ix c D (pre ++ [x]) W → W.heap[w.heap.size]? = some (.deferred (some [])) → c.wpIn F n P Q { a with defers := { target := .collected w.heap.size, args := #[] } :: a.defers } W) :
    (Code.rangeFunc g ps assign body).wpIn F n P Q a w := by
  refine wpIn_rangeFunc ?_
  intro fn hfn
  rw [hro]
  obtain ⟨rec, hrec⟩ : ∃ rec : LoopState → Option Code → Loop, rec = fun st pe => { state := st, pending := pe, fn, tmps := a.tmps, params := ps, assign, body, defers := w.heap.size } := ⟨_, rfl⟩
  obtain ⟨W1, hW1⟩ : ∃ W1, (w.alloc (.deferred (some []))).alloc (.loop (rec .ready none)) = W1 := ⟨_, rfl⟩
  have hs1 : W1.heap.size = w.heap.size + 2 := by rw [← hW1]; simp
  have hL1 : W1.heap[w.heap.size + 1]? = some (.loop (rec .ready none)) := by
    rw [← hW1]; have := World.alloc_heap_new (w.alloc (.deferred (some []))) (.loop (rec .ready none)); rwa [World.size_alloc] at this
  have hK1 : W1.heap[w.heap.size]? = some (.deferred (some [])) := by
    rw [← hW1]; exact (Below.heap_alloc _ _ _ (by simp)).trans (World.alloc_heap_new w _)
  have hk1 : ∀ K, Keeps K w W1 := fun K => by rw [← hW1]; exact ((Keeps.refl K w).alloc _).alloc _
  refine ⟨w.heap.size + 1, [{ target := .collected w.heap.size, args := #[] }], W1, { target := .fn (.func gf) lb, args := #[.func (.yield (w.heap.size + 1)) #[] #[]] }, W1, gf,
    #[.func (.yield (w.heap.size + 1)) #[] #[]] ++ lb, W1, ?_, ?_, ?_, ?_, h1, ?_⟩
  · rw [← hW1, hrec]; exact run_enterLoop_outer _ _ _ _ _
  · simp only [resolve, hg]
    simp [go_sem]
  · intro f' hf'; simp [Target.leads] at hf'; subst hf'; exact hFg
  · simp [invoke, go_sem, eg]
  · refine (hseq (w.heap.size + 1) W1
      (fun D pre W => w.heap.size + 2 ≤ D ∧ D ≤ W.heap.size ∧ I D pre W ∧ W.heap[w.heap.size + 1]? = some (.loop (rec .ready none)) ∧ W.heap[w.heap.size]? = some (.deferred (some [])))
      (fun D pre W => w.heap.size + 2 ≤ D ∧ D ≤ W.heap.size ∧ ∃ c, Ix c D pre W ∧ W.heap[w.heap.size + 1]? = some (.loop (rec .done (some c))) ∧ W.heap[w.heap.size]? = some (.deferred (some [])))
      (hb0.trans (hk1 R)) ?_ ?_ ?_ ?_).mono ?_
    · rintro D s A A' ⟨hD, hD', hi, hl, hk⟩ hA
      exact ⟨hD, Nat.le_trans hD' hA.size, hI D s A A' hi (hA.mono fun k _ h => by omega), hA.heap hl (.inl (by omega)), hA.heap hk (.inl (by omega))⟩
    · rintro D s A A' ⟨hD, hD', c, hi, hl, hk⟩ hA
      exact ⟨hD, Nat.le_trans hD' hA.size, c, hIx c D s A A' hi (hA.mono fun k _ h => by omega), hA.heap hl (.inl (by omega)), hA.heap hk (.inl (by omega))⟩
    · intro D W' hD hD' hk
      exact ⟨by omega, hD', h0 D W' (by omega) hD' ((hk1 _).trans (hk.mono fun k _ h => by omega)), hk.heap hL1 (by omega), hk.heap hK1 (by omega)⟩
    · rintro D pre x rest W hx hD hDW ⟨hD2, _, hi, hl, hk⟩
      have hlt : w.heap.size + 1 < W.heap.size := (Array.getElem?_eq_some_iff.1 hl).1
      have hy := run_yield (P := P) (args := encs x) hl (by rw [hrec]; exact hps x)
      rw [hrec] at hy
      refine ⟨fn, _, assign, body, hy, roundIn_of_wpIn hfn (hassign _ D x W _ hDW ?_)⟩
      clear hy
      intro a' Wa hka hax
      replace hl := hka.heap hl trivial
      replace hk := hka.heap hk trivial
      have hlta : w.heap.size + 1 < Wa.heap.size := (Array.getElem?_eq_some_iff.1 hl).1
      replace hi := hI D _ _ _ hi (hka.mono fun _ _ _ => trivial)
      refine ⟨_, run_beginRound hl (by rw [hrec]), ?_⟩
      obtain ⟨Wb, hWb⟩ : ∃ Wb, Wa.putObj (w.heap.size + 1) (.loop { rec .ready none with state := .busy }) = Wb := ⟨_, rfl⟩
      have hkb : Keeps (fun k => k ≠ w.heap.size + 1) Wa Wb := by rw [← hWb]; exact (Keeps.refl _ _).putObj (fun h => h rfl) _
      have hl2 : Wb.heap[w.heap.size + 1]? = some (.loop { rec .ready none with state := .busy }) := by rw [← hWb]; exact World.putObj_heap_same hlta
      have hk2 : Wb.heap[w.heap.size]? = some (.deferred (some [])) := hkb.heap hk (by omega)
      have hib : I D pre Wb := hI D _ _ _ hi (hkb.mono fun k _ h => by omega)
      have haxb : Ax D x a' Wb := hAx D _ _ _ _ hax (hkb.mono fun k _ h => by omega)
      show body.wpIn (F.inRound (w.heap.size + 1)) _ P _ a' (Wa.putObj (w.heap.size + 1) (.loop { rec .ready none with state := .busy }))
      rw [hWb]
      refine wpIn_mono (hbody _ D pre x rest a' _ hx (by omega) (by have := hka.size; have := hkb.size; omega) ⟨_, hl2⟩ hib haxb) ?_
      have hne : ∀ k, (R k ∨ (W1.heap.size ≤ k ∧ k < D)) → k ≠ w.heap.size + 1 := fun k h => h.elim (fun h => by have := hR k h; omega) (fun h => by omega)
      have kall : Keeps (fun k => R k ∨ (W1.heap.size ≤ k ∧ k < D)) W Wb := (hka.mono fun _ _ _ => trivial).trans (hkb.mono fun k _ h => hne k h)
      have fin : ∀ (jump : Option Code) (W3 : World), Keeps (fun k => R k ∨ (w.heap.size ≤ k ∧ k < D)) Wb W3 →
          ∃ W4, (Instr.endRound (w.heap.size + 1) jump).run P W3 = .ok (.bool jump.isNone) W4 ∧ Keeps (fun k => k ≠ w.heap.size + 1) W3 W4 ∧
          W4.heap[w.heap.size + 1]? = some (.loop (rec (if jump.isNone then .ready else .done) jump)) ∧
          W4.heap[w.heap.size]? = some (.deferred (some [])) ∧ D ≤ W4.heap.size ∧ Keeps (fun k => R k ∨ (W1.heap.size ≤ k ∧ k < D)) W W4 := fun jump W3 hk3 => by
        have hl3 := hk3.heap hl2 (.inr (by omega))
        have := run_endRound (P := P) jump hl3
        rw [hrec] at this ⊢
        rw [hrec] at hl3
        have hk4 : Keeps (fun k => k ≠ w.heap.size + 1) W3 _ := (Keeps.refl _ W3).putObj (fun h => h rfl) (.loop { state := (if jump.isNone then .ready else .done), pending := jump, fn, tmps := a.tmps, params := ps, assign, body, defers := w.heap.size })
        refine ⟨_, this, hk4, World.putObj_heap_same (Array.getElem?_eq_some_iff.1 hl3).1, hk4.heap (hk3.heap hk2 (.inr (by omega))) (by omega), ?_, ?_⟩
        · exact Nat.le_trans (by have := hka.size; have := hkb.size; have := hk3.size; omega) hk4.size
        · exact (kall.trans (hk3.mono fun k _ h => h.imp id (fun h => by omega))).trans (hk4.mono fun k _ h => hne k h)
      rintro e a3 W3 hp
      cases e with
      | normal =>
        obtain ⟨hk3, hi3⟩ := hp
        obtain ⟨W4, hr, hk4, hl4, hd4, hs4, hall⟩ := fin none W3 hk3
        exact ⟨_, _, hr, hall, .inl ⟨rfl, hD2, hs4, hI D _ _ _ hi3 (hk4.mono fun k _ h => by omega), hl4, hd4⟩⟩
      | ret =>
        obtain ⟨hk3, hi3⟩ := hp
        obtain ⟨W4, hr, hk4, hl4, hd4, hs4, hall⟩ := fin (some .ret) W3 hk3
        exact ⟨_, _, hr, hall, .inr ⟨rfl, hD2, hs4, .ret, hIx _ D _ _ _ hi3 (hk4.mono fun k _ h => by omega), hl4, hd4⟩⟩
      | exit id =>
        obtain ⟨hk3, hi3⟩ := hp
        obtain ⟨W4, hr, hk4, hl4, hd4, hs4, hall⟩ := fin (some (.exit id)) W3 hk3
        exact ⟨_, _, hr, hall, .inr ⟨rfl, hD2, hs4, .exit id, hIx _ D _ _ _ hi3 (hk4.mono fun k _ h => by omega), hl4, hd4⟩⟩
      | goto t =>
        obtain ⟨hk3, hi3⟩ := hp
        obtain ⟨W4, hr, hk4, hl4, hd4, hs4, hall⟩ := fin (some (.goto t)) W3 hk3
        exact ⟨_, _, hr, hall, .inr ⟨rfl, hD2, hs4, .goto t, hIx _ D _ _ _ hi3 (hk4.mono fun k _ h => by omega), hl4, hd4⟩⟩
      | panic ch => exact hp.elim
      | outgrown => exact hp.elim
    · rintro e W2 ⟨⟨v, rfl⟩, D, _, _, (⟨hD, hD', hi, hl, hk⟩ | ⟨pre, x, rest, hx, hD, hD', c, hi, hl, hk⟩)⟩
      · have hke : Keeps (fun k => k ≠ w.heap.size + 1) W2 _ := (Keeps.refl _ W2).putObj (fun h => h rfl) (.loop { rec .ready none with state := .exhausted })
        have := run_endLoop (P := P) hl (by rw [hrec]; simp)
        rw [hrec] at this hke
        exact ⟨none, _, this, hdone D _ (by omega) (Nat.le_trans hD' hke.size) (hI D _ _ _ hi (hke.mono fun k _ h => by omega)) (hke.heap hk (by omega))⟩
      · have hke : Keeps (fun k => k ≠ w.heap.size + 1) W2 _ := (Keeps.refl _ W2).putObj (fun h => h rfl) (.loop { rec .done (some c) with state := .exhausted })
        have := run_endLoop (P := P) hl (by rw [hrec]; simp)
        rw [hrec] at this hke
        exact ⟨some c, _, this, hstop c D pre x rest _ hx (by omega) (Nat.le_trans hD' hke.size) (hIx c D _ _ _ hi (hke.mono fun k _ h => by omega)) (hke.heap hk (by omega))⟩

end Go.Proofs.Ytjnaknfnoibncaa

/- Plain mathematics of names: the places behind the labels of a string, as a list. Conditions: none. -/
namespace Go.Proofs.Ytjnaknfnoibncaa

def isLab (n : Nat) : Bool := decide (1 ≤ n ∧ n ≤ 63)

/-- The place behind the label that begins at a, if there is one. -/
def stepE (s : ByteArray) (a : Nat) : Option Nat :=
  if a < s.size then
    if s[a]!.toNat ≤ s.size - (a + 1) ∧ 1 ≤ s[a]!.toNat ∧ s[a]!.toNat ≤ 63 then some (a + 1 + s[a]!.toNat) else none
  else none

theorem stepE_lt {s : ByteArray} {a b : Nat} (h : stepE s a = some b) : a < b ∧ b ≤ s.size := by
  unfold stepE at h
  split at h
  · split at h
    · cases h; omega
    · cases h
  · cases h

def endsF : Nat → ByteArray → Nat → List Nat
  | 0, _, _ => []
  | n + 1, s, a => match stepE s a with
    | none => []
    | some b => b :: endsF n s b
theorem endsF_same (s : ByteArray) : ∀ (n m a : Nat), s.size - a ≤ n → s.size - a ≤ m → endsF n s a = endsF m s a := by
  intro n
  induction n with
  | zero =>
    intro m a h _
    have h0 : stepE s a = none := by unfold stepE; rw [if_neg (by omega)]
    cases m with
    | zero => rfl
    | succ m => simp [endsF, h0]
  | succ n ih =>
    intro m a h hm
    cases hs : stepE s a with
    | none => cases m <;> simp [endsF, hs]
    | some b =>
      have hb := stepE_lt hs
      cases m with
      | zero => omega
      | succ m => simp only [endsF, hs]; rw [ih m b (by omega) (by omega)]
/-- The places behind the labels from a on. -/
def endsE (s : ByteArray) (a : Nat) : List Nat := endsF (s.size - a) s a
theorem endsE_none {s : ByteArray} {a : Nat} (h : stepE s a = none) : endsE s a = [] := by
  unfold endsE
  cases s.size - a <;> simp [endsF, h]
theorem endsE_some {s : ByteArray} {a b : Nat} (h : stepE s a = some b) : endsE s a = b :: endsE s b := by
  have hb := stepE_lt h
  unfold endsE
  obtain ⟨m, hm⟩ : ∃ m, s.size - a = m + 1 := ⟨s.size - a - 1, by omega⟩
  rw [hm]
  simp only [endsF, h]
  rw [endsF_same s m (s.size - b) b (by omega) (Nat.le_refl _)]

/-- The place behind the last label. -/
def lastE (s : ByteArray) : Nat := (endsE s 0).getLastD 0
theorem endsE_le (s : ByteArray) : ∀ (n a : Nat), s.size - a ≤ n → a ≤ s.size → ∀ x ∈ endsE s a, x ≤ s.size := by
  intro n
  induction n with
  | zero =>
    intro a h ha x hx
    have : stepE s a = none := by unfold stepE; rw [if_neg (by omega)]
    rw [endsE_none this] at hx; cases hx
  | succ n ih =>
    intro a h ha x hx
    cases hs : stepE s a with
    | none => rw [endsE_none hs] at hx; cases hx
    | some b =>
      have hb := stepE_lt hs
      rw [endsE_some hs] at hx
      rcases List.mem_cons.1 hx with rfl | hx
      · exact hb.2
      · exact ih b (by omega) hb.2 x hx
theorem lastE_le (s : ByteArray) : lastE s ≤ s.size := by
  unfold lastE
  rw [List.getLastD_eq_getLast?]
  cases h : (endsE s 0).getLast? with
  | none => simp
  | some x => exact endsE_le s _ 0 (Nat.le_refl _) (Nat.zero_le _) x (List.mem_of_getLast? h)
def isName (s : ByteArray) : Bool := decide (s.size ≤ 255) && ((s.extract (lastE s) s.size).toList == [0])
/-- What Check answers. -/
def chk (s : ByteArray) : Int := if isName s then 0 else 2

/-- The labels that end at the given places, the first one beginning at a. -/
def labelsFrom (s : ByteArray) (a : Nat) : List Nat → List ByteArray
  | [] => []
  | b :: r => s.extract (a + 1) b :: labelsFrom s b r
theorem labelsFrom_split (s : ByteArray) : ∀ (pre : List Nat) (a x : Nat) (rest : List Nat), labelsFrom s a (pre ++ x :: rest) = labelsFrom s a pre ++ s.extract (pre.getLastD a + 1) x :: labelsFrom s x rest
  | [], a, x, rest => by simp [labelsFrom]
  | b :: pre, a, x, rest => by rw [List.cons_append, List.getLastD_cons, labelsFrom, labelsFrom_split s pre b x rest]; rfl
theorem labelsFrom_snoc (s : ByteArray) (pre : List Nat) (a x : Nat) : labelsFrom s a (pre ++ [x]) = labelsFrom s a pre ++ [s.extract (pre.getLastD a + 1) x] := by
  have := labelsFrom_split s pre a x []
  simpa [labelsFrom] using this
theorem endsE_chain (s : ByteArray) : ∀ (pre : List Nat) (a x : Nat) (rest : List Nat), endsE s a = pre ++ x :: rest → pre.getLastD a < x ∧ x ≤ s.size
  | [], a, x, rest, h => by
    cases hs : stepE s a with
    | none => rw [endsE_none hs] at h; cases h
    | some b =>
      rw [endsE_some hs] at h
      simp at h
      obtain ⟨rfl, _⟩ := h
      simpa using stepE_lt hs
  | b :: pre, a, x, rest, h => by
    cases hs : stepE s a with
    | none => rw [endsE_none hs] at h; cases h
    | some c =>
      rw [endsE_some hs] at h
      simp only [List.cons_append, List.cons.injEq] at h
      obtain ⟨rfl, h⟩ := h
      rw [List.getLastD_cons]; exact endsE_chain s pre c x rest h
def labelsB (s : ByteArray) : List ByteArray := if isName s then labelsFrom s 0 (endsE s 0) else []

theorem endsE_length (s : ByteArray) : ∀ (n a : Nat), s.size - a ≤ n → (endsE s a).length ≤ n := by
  intro n
  induction n with
  | zero =>
    intro a h
    have : stepE s a = none := by unfold stepE; rw [if_neg (by omega)]
    rw [endsE_none this]; simp
  | succ n ih =>
    intro a h
    cases hs : stepE s a with
    | none => rw [endsE_none hs]; simp
    | some b =>
      have hb := stepE_lt hs
      rw [endsE_some hs]
      simpa using ih b (by omega)
theorem labelsFrom_length (s : ByteArray) : ∀ (l : List Nat) (a : Nat), (labelsFrom s a l).length = l.length
  | [], _ => rfl
  | b :: r, _ => by simp [labelsFrom, labelsFrom_length s r b]
theorem labelsB_length (s : ByteArray) : (labelsB s).length ≤ s.size := by
  unfold labelsB
  split
  · rw [labelsFrom_length]; exact endsE_length s _ 0 (by omega)
  · simp
/-- What Parent answers. -/
def parentR (s : ByteArray) : ByteArray × Int :=
  if isName s then (match endsE s 0 with | [] => (⟨#[]⟩, 3) | e :: _ => (s.extract e s.size, 0)) else (⟨#[]⟩, 2)

/-- A byte's small letter. -/
def foldB (b : UInt8) : UInt8 := if 65 ≤ b.toNat ∧ b.toNat ≤ 90 then UInt8.ofNat (b.toNat + 32) else b
def foldS (s : ByteArray) : ByteArray := ⟨(s.data.toList.map foldB).toArray⟩

/-- The bytes of labels, each behind its length. -/
def encL (ls : List ByteArray) : List UInt8 := (ls.map fun x => UInt8.ofNat x.size :: x.data.toList).flatten
def sizeL (ls : List ByteArray) : Nat := (ls.map fun x => 1 + x.size).sum
theorem encL_snoc (ls : List ByteArray) (x : ByteArray) : encL (ls ++ [x]) = encL ls ++ UInt8.ofNat x.size :: x.data.toList := by simp [encL]
theorem sizeL_snoc (ls : List ByteArray) (x : ByteArray) : sizeL (ls ++ [x]) = sizeL ls + (1 + x.size) := by simp [sizeL]
theorem sizeL_append (a b : List ByteArray) : sizeL (a ++ b) = sizeL a + sizeL b := by simp [sizeL]
theorem isName_pos {s : ByteArray} (h : isName s = true) : 1 ≤ s.size := by
  simp only [isName, Bool.and_eq_true, beq_iff_eq] at h
  have h2 := congrArg List.length h.2
  rw [ByteArray.toList_eq] at h2
  have h3 : (s.extract (lastE s) s.size).data.toList.length = (s.extract (lastE s) s.size).size := rfl
  rw [h3, ByteArray.size_extract] at h2
  simp at h2
  omega
theorem sizeL_le (ls : List ByteArray) (h : ∀ x ∈ ls, x.size ≤ 63) : sizeL ls ≤ 64 * ls.length := by
  induction ls with
  | nil => simp [sizeL]
  | cons a r ih =>
    have h1 := h a (by simp)
    have h2 := ih (fun x hx => h x (by simp [hx]))
    simp only [sizeL, List.map_cons, List.sum_cons, List.length_cons] at h2 ⊢
    omega
theorem encL_length (ls : List ByteArray) : (encL ls).length = sizeL ls := by
  induction ls with
  | nil => simp [encL, sizeL]
  | cons a r ih =>
    have : a.data.toList.length = a.size := rfl
    simp only [encL, sizeL, List.map_cons, List.flatten_cons, List.length_append, List.length_cons, List.sum_cons] at ih ⊢
    omega
/-- What Join answers. -/
def joinR (n : ByteArray) (ls : List ByteArray) : ByteArray × Int :=
  if isName n = false then (⟨#[]⟩, 2) else if ls.all (fun x => isLab x.size) = false then (⟨#[]⟩, 2)
  else if 255 < n.size + sizeL ls then (⟨#[]⟩, 7) else (⟨(encL ls ++ n.data.toList).toArray⟩, 0)

def plainB (c : Nat) : Bool := decide (33 ≤ c ∧ c ≤ 126)
def digitB (c : Nat) : Bool := decide (48 ≤ c ∧ c ≤ 57)
/-- A byte as a text has it. -/
def escB (x : UInt8) : List UInt8 :=
  if plainB x.toNat = false then [92, UInt8.ofNat (48 + x.toNat / 100), UInt8.ofNat (48 + x.toNat / 10 % 10), UInt8.ofNat (48 + x.toNat % 10)]
  else if x.toNat = 46 ∨ x.toNat = 92 then [92, x] else [x]
theorem escB_length (x : UInt8) : (escB x).length ≤ 4 := by unfold escB; split <;> (try split) <;> simp
/-- Labels as a text has them. -/
def textL (ls : List ByteArray) : List UInt8 := (ls.map fun x => (x.data.toList.map escB).flatten ++ [46]).flatten
theorem flat_esc_length : ∀ (l : List UInt8), (l.map escB).flatten.length ≤ 4 * l.length
  | [] => by simp
  | a :: r => by
    have h1 := escB_length a
    have h2 := flat_esc_length r
    simp only [List.map_cons, List.flatten_cons, List.length_append, List.length_cons]
    omega
theorem textL_length : ∀ (ls : List ByteArray), (textL ls).length ≤ 4 * sizeL ls
  | [] => by simp [textL, sizeL]
  | a :: r => by
    have h1 := flat_esc_length a.data.toList
    have h2 := textL_length r
    have h3 : a.data.toList.length = a.size := rfl
    simp only [textL, sizeL, List.map_cons, List.flatten_cons, List.length_append, List.length_cons, List.sum_cons, List.length_nil] at h2 ⊢
    omega
theorem textL_snoc (ls : List ByteArray) (x : ByteArray) : textL (ls ++ [x]) = textL ls ++ (x.data.toList.map escB).flatten ++ [46] := by simp [textL]
theorem sizeL_labelsFrom (s : ByteArray) : ∀ (n a : Nat), s.size - a ≤ n → a ≤ s.size → sizeL (labelsFrom s a (endsE s a)) ≤ s.size - a := by
  intro n
  induction n with
  | zero =>
    intro a h _
    have : stepE s a = none := by unfold stepE; rw [if_neg (by omega)]
    rw [endsE_none this]; simp [labelsFrom, sizeL]
  | succ n ih =>
    intro a h ha
    cases hs : stepE s a with
    | none => rw [endsE_none hs]; simp [labelsFrom, sizeL]
    | some b =>
      have hb := stepE_lt hs
      have h2 := ih b (by omega) hb.2
      rw [endsE_some hs, labelsFrom]
      have : sizeL (s.extract (a + 1) b :: labelsFrom s b (endsE s b)) = (1 + (s.extract (a + 1) b).size) + sizeL (labelsFrom s b (endsE s b)) := by simp [sizeL]
      rw [this, ByteArray.size_extract]
      omega
theorem sizeL_labelsB (s : ByteArray) : sizeL (labelsB s) ≤ s.size := by
  unfold labelsB
  split
  · exact sizeL_labelsFrom s _ 0 (Nat.le_refl _) (Nat.zero_le _)
  · simp [sizeL]
theorem labelsB_ne {s : ByteArray} (hn : isName s = true) (hr : (s.toList == [0]) = false) : labelsB s ≠ [] := by
  rw [labelsB, if_pos hn]
  cases he : endsE s 0 with
  | nil =>
    exfalso
    simp only [isName, Bool.and_eq_true] at hn
    have h0 : lastE s = 0 := by rw [lastE, he]; rfl
    rw [h0, ByteArray.extract_zero_size] at hn
    rw [hn.2] at hr
    cases hr
  | cons a r => simp [labelsFrom]
theorem textL_ne {ls : List ByteArray} (h : ls ≠ []) : textL ls ≠ [] := by
  cases ls with
  | nil => exact absurd rfl h
  | cons a r => simp [textL]
def printR (s : ByteArray) : ByteArray × Int :=
  if isName s = false then (⟨#[]⟩, 2) else if (s.toList == [0]) = true then (⟨#[46]⟩, 0) else (⟨(textL (labelsB s)).toArray⟩, 0)

/-- The first byte that a text tells, and how many of its own bytes do so. -/
def decV (a b c : Nat) : Nat := 100 * (a - 48) + 10 * (b - 48) + (c - 48)
def readR (s : ByteArray) : UInt8 × Nat :=
  if s[0]!.toNat ≠ 92 then (if plainB s[0]!.toNat then (s[0]!, 1) else (0, 0))
  else if 2 ≤ s.size ∧ digitB s[1]!.toNat = false then (s[1]!, 2)
  else if 4 ≤ s.size ∧ digitB s[1]!.toNat = true ∧ digitB s[2]!.toNat = true ∧ digitB s[3]!.toNat = true ∧ decV s[1]!.toNat s[2]!.toNat s[3]!.toNat ≤ 255 then
    (UInt8.ofNat (decV s[1]!.toNat s[2]!.toNat s[3]!.toNat), 4) else (0, 0)

theorem size_rest (t : ByteArray) (n : Nat) : (t.extract n t.size).size = t.size - n := by rw [ByteArray.size_extract]; omega
def trimDot (t : ByteArray) : ByteArray := if 1 ≤ t.size ∧ ((t.extract 0 1).toList == [46]) = true then t.extract 1 t.size else t
theorem readR_le {t : ByteArray} (h : 1 ≤ t.size) : (readR t).2 ≤ t.size := by
  unfold readR
  split
  · split
    · exact h
    · exact Nat.zero_le _
  · split
    · next h2 => exact h2.1
    · split
      · next h4 => exact h4.1
      · exact Nat.zero_le _
/-- A text's bytes up to its end, or to its first dot. -/
def labF : Nat → ByteArray → Option (List UInt8 × ByteArray)
  | 0, t => some ([], t)
  | n + 1, t => if t.size = 0 then some ([], t) else if t[0]!.toNat = 46 then some ([], t)
    else if (readR t).2 = 0 then none else (labF n (t.extract (readR t).2 t.size)).map fun x => ((readR t).1 :: x.1, x.2)
theorem labF_same : ∀ (n m : Nat) (t : ByteArray), t.size ≤ n → t.size ≤ m → labF n t = labF m t := by
  intro n
  induction n with
  | zero =>
    intro m t h _
    have h0 : t.size = 0 := by omega
    cases m with
    | zero => rfl
    | succ m => simp [labF, h0]
  | succ n ih =>
    intro m t h hm
    cases m with
    | zero =>
      have h0 : t.size = 0 := by omega
      simp [labF, h0]
    | succ m =>
      by_cases h0 : t.size = 0
      · simp [labF, h0]
      · by_cases h46 : t[0]!.toNat = 46
        · simp [labF, h46]
        · by_cases hn : (readR t).2 = 0
          · simp [labF, h0, h46, hn]
          · have hle := readR_le (t := t) (by omega)
            simp only [labF, h0, h46, hn, if_false]
            rw [ih m _ (by rw [size_rest]; omega) (by rw [size_rest]; omega)]
def labR (t : ByteArray) : Option (List UInt8 × ByteArray) := labF t.size t
def cutR (t : ByteArray) : ByteArray × ByteArray × Int :=
  match labR t with
  | none => (⟨#[]⟩, ⟨#[]⟩, 6)
  | some (l, r) => if l = [] then (⟨#[]⟩, ⟨#[]⟩, 6) else (⟨l.toArray⟩, trimDot r, 0)
theorem labR_end {t : ByteArray} (h : t.size = 0 ∨ t[0]!.toNat = 46) : labR t = some ([], t) := by
  unfold labR
  cases hs : t.size with
  | zero => rfl
  | succ n =>
    have h46 := h.resolve_left (by omega)
    simp [labF, h46]
theorem labR_bad {t : ByteArray} (h : ¬ (t.size = 0 ∨ t[0]!.toNat = 46)) (hn : (readR t).2 = 0) : labR t = none := by
  unfold labR
  cases hs : t.size with
  | zero => exact absurd (.inl hs) h
  | succ n =>
    simp only [labF]
    rw [if_neg (fun h0 => h (.inl h0)), if_neg (fun h0 => h (.inr h0)), if_pos hn]
theorem labR_go {t : ByteArray} (h : ¬ (t.size = 0 ∨ t[0]!.toNat = 46)) (hn : (readR t).2 ≠ 0) :
    labR t = (labR (t.extract (readR t).2 t.size)).map fun x => ((readR t).1 :: x.1, x.2) := by
  unfold labR
  cases hs : t.size with
  | zero => exact absurd (.inl hs) h
  | succ n =>
    have hle := readR_le (t := t) (by omega)
    simp only [labF]
    rw [if_neg (fun h0 => h (.inl h0)), if_neg (fun h0 => h (.inr h0)), if_neg hn]
    have h1 : (t.extract (readR t).2 (n + 1)).size = t.size - (readR t).2 := by rw [← hs, size_rest]
    rw [hs]
    rw [labF_same n _ _ (by rw [h1]; omega) (Nat.le_refl _)]

theorem labR_size : ∀ (n : Nat) (t : ByteArray), t.size ≤ n → ∀ l r, labR t = some (l, r) → r.size + l.length ≤ t.size := by
  intro n
  induction n with
  | zero =>
    intro t ht l r h
    rw [labR_end (.inl (by omega))] at h
    cases h
    simp
  | succ n ih =>
    intro t ht l r h
    by_cases he : t.size = 0 ∨ t[0]!.toNat = 46
    · rw [labR_end he] at h
      cases h
      simp
    · by_cases hn : (readR t).2 = 0
      · rw [labR_bad he hn] at h; cases h
      · rw [labR_go he hn] at h
        obtain ⟨⟨l', r'⟩, h1, h2⟩ := Option.map_eq_some_iff.1 h
        cases h2
        have hle := readR_le (t := t) (by omega)
        have h3 := ih _ (by rw [size_rest]; omega) _ _ h1
        rw [size_rest] at h3
        simp only [List.length_cons]
        omega
theorem trimDot_le (t : ByteArray) : (trimDot t).size ≤ t.size := by
  unfold trimDot
  split
  · rw [size_rest]; omega
  · exact Nat.le_refl _
theorem trimDot_lab {t : ByteArray} {l : List UInt8} {r : ByteArray} (h : labR t = some (l, r)) (hl : l ≠ []) : (trimDot r).size + l.length ≤ t.size ∧ 1 ≤ l.length := by
  have h1 := labR_size _ t (Nat.le_refl _) l r h
  have h2 := trimDot_le r
  have h3 : 1 ≤ l.length := by cases l with | nil => exact absurd rfl hl | cons _ _ => simp
  omega
/-- A text's labels. -/
def splitF : Nat → ByteArray → Option (List ByteArray)
  | 0, _ => some []
  | n + 1, t => if t.size = 0 then some [] else if (cutR t).2.2 = 0 then (splitF n (cutR t).2.1).map ((cutR t).1 :: ·) else none
theorem cutR_size {t : ByteArray} (hc : (cutR t).2.2 = 0) : (cutR t).2.1.size + (cutR t).1.size ≤ t.size ∧ 1 ≤ (cutR t).1.size := by
  cases hl : labR t with
  | none => rw [cutR, hl] at hc; simp at hc
  | some y =>
    obtain ⟨l, r⟩ := y
    by_cases hne : l = []
    · rw [cutR, hl] at hc; simp [hne] at hc
    · have hcut : cutR t = (⟨l.toArray⟩, trimDot r, 0) := by rw [cutR, hl]; simp [hne]
      have hsz : (⟨l.toArray⟩ : ByteArray).size = l.length := by show l.toArray.size = _; simp
      rw [hcut]
      show (trimDot r).size + (⟨l.toArray⟩ : ByteArray).size ≤ t.size ∧ 1 ≤ (⟨l.toArray⟩ : ByteArray).size
      rw [hsz]; exact trimDot_lab hl hne
theorem splitF_same : ∀ (n m : Nat) (t : ByteArray), t.size ≤ n → t.size ≤ m → splitF n t = splitF m t := by
  intro n
  induction n with
  | zero =>
    intro m t h _
    have h0 : t.size = 0 := by omega
    cases m with
    | zero => rfl
    | succ m => simp [splitF, h0]
  | succ n ih =>
    intro m t h hm
    cases m with
    | zero =>
      have h0 : t.size = 0 := by omega
      simp [splitF, h0]
    | succ m =>
      by_cases h0 : t.size = 0
      · simp [splitF, h0]
      · by_cases hc : (cutR t).2.2 = 0
        · have h1 := cutR_size hc
          simp only [splitF, h0, hc, if_false, if_true]
          rw [ih m _ (by omega) (by omega)]
        · simp [splitF, h0, hc]
def splitR (t : ByteArray) : Option (List ByteArray) := splitF t.size t
theorem splitR_nil {t : ByteArray} (h : t.size = 0) : splitR t = some [] := by unfold splitR; rw [h]; rfl
theorem splitR_bad {t : ByteArray} (h : t.size ≠ 0) (hc : (cutR t).2.2 ≠ 0) : splitR t = none := by
  unfold splitR
  cases hs : t.size with
  | zero => exact absurd hs h
  | succ n => simp only [splitF]; rw [if_neg h, if_neg hc]
theorem splitR_go {t : ByteArray} (h : t.size ≠ 0) (hc : (cutR t).2.2 = 0) : splitR t = (splitR (cutR t).2.1).map ((cutR t).1 :: ·) ∧ (cutR t).2.1.size + (cutR t).1.size ≤ t.size ∧ 1 ≤ (cutR t).1.size := by
  have h1 := cutR_size hc
  refine ⟨?_, h1⟩
  unfold splitR
  cases hs : t.size with
  | zero => exact absurd hs h
  | succ n =>
    simp only [splitF]
    rw [if_neg h, if_pos hc, splitF_same n _ _ (by omega) (Nat.le_refl _)]
/-- What Parse answers. -/
def splitK (t : ByteArray) : Option (List ByteArray) := (splitR t).bind fun l => if l = [] then none else some l
def parseR (t : ByteArray) : ByteArray × Int :=
  if 2048 < t.size then (⟨#[]⟩, 7) else if (t.toList == [46]) = true then (⟨#[0]⟩, 0) else
  match splitK t with
  | none => (⟨#[]⟩, 6)
  | some ls => if ls.any (fun x => decide (63 < x.size)) = true then (⟨#[]⟩, 7) else joinR ⟨#[0]⟩ ls

end Go.Proofs.Ytjnaknfnoibncaa

/- A region whose order is drawn, and in which all operations but the last ones, which stand in one forced order, only read: one walk in the order of the text, at the wide fence, within a round or not. Conditions: none; it speaks of any program. -/
namespace Go.Proofs.Ytjnaknfnoibncaa
open Go Go.RowKit Go.Shelf

/-- A fence that lets every function in, however deep: the wide one, and its rounds. -/
structure Wide (F : Fence) : Prop where
  fn : ∀ f, F.fn f
  depth : F.depth = none
  calls : ∀ {m : Nat} {P : Program} {f : FuncId} {args : Array Value} {w : World} {R : Ending → World → Prop}, Calls P f args w R → CallsIn F m P f args w R

theorem Wide.wide : Wide Fence.wide := ⟨fun _ => trivial, rfl, fun h => callsIn_wide.2 h⟩
theorem Wide.round (l : Nat) : Wide (Fence.wide.inRound l) := ⟨fun _ => trivial, rfl, fun h => (callsIn_wide.2 h).inRound l⟩

def noDefer (l : List Oper) : Bool := l.all fun o => match o.op with | .defer _ => false | _ => true
theorem noDefer_spec {l : List Oper} (h : noDefer l = true) {o : Oper} (ho : o ∈ l) : ∀ c, o.op ≠ .defer c := by
  intro c hc
  have := List.all_eq_true.1 h o ho
  rw [hc] at this
  cases this

section
variable {F : Fence} {n : Nat} {P : Program} {ops : Array Oper} {md : Region.Mode} {w : World}

theorem wp_region_still {id : Nat} {Q : Exit → Act → World → Prop} {a : Act} {l : List Oper} (hm : P.follows .mixedOrders = true) (hB : Region.lexB .any l.toArray = true)
    (h : wpStill P l.toArray w.drew (fun a' => Q .normal a' w.drew) l a) : (Code.region id l.toArray true).wp P Q a w := wp_region_still_lit hm hB h

theorem wpIn_of_still (hW : Wide F) {o : Oper} {a : Act} {K : Act → Prop} {K' : Act → World → Prop} {Q' : Exit → Act → World → Prop} (hd : ∀ c, o.op ≠ .defer c) (h : ∀ a, K a → K' a w) (hh : o.still P a w K) : o.wpIn F n P a w K' Q' := by
  refine ⟨fun f _ => hW.fn f, ?_⟩
  rw [Oper.semAt_eq _ _ _ hd]
  unfold Oper.still at hh
  generalize (execOp a.eval o).run P w = r at *
  cases r with
  | ok x w' =>
    cases x <;> simp only [Oper.stillUpon] at hh <;> simp only [Oper.uponIn]
    case enter f args =>
      obtain ⟨rfl, v, hc, hn⟩ := hh
      refine ⟨(fun hdep => by simp [hW.depth] at hdep), ?_⟩
      exact hW.calls (hc.mono fun e w'' ⟨he, hw⟩ => by subst he; subst hw; exact h _ hn)
    all_goals (obtain ⟨rfl, h2⟩ := hh; exact h _ h2)
  | halt x w' => simp only [Oper.stillUpon] at hh

theorem wpOpIn_of_stOp (hW : Wide F) {i : Nat} {a : Act} {K : Act → Prop} {K' : Act → World → Prop} {Q' : Exit → Act → World → Prop} (hd : ∀ o, ops[i]? = some o → ∀ c, o.op ≠ .defer c) (h : ∀ a, K a → K' a w) (hh : stOp P ops w i K a) :
    wpOpIn F n P ops Q' i K' a w := by
  unfold stOp at hh
  unfold wpOpIn
  split
  · rename_i ho; simp only [ho] at hh; exact h _ hh
  · rename_i o ho
    simp only [ho] at hh
    split
    · rename_i hw; simp only [hw, if_true] at hh; exact wpIn_of_still hW (hd o ho) h hh
    · rename_i hw; simp only [hw] at hh; exact ⟨fun f _ => hW.fn f, h _ hh⟩

theorem wpAnyIn_of_head (hW : Wide F) {m g : Nat} {L : Array Bool → Act → Prop} {Q' : Exit → Act → World → Prop} (hd : ∀ i o, i < m → ops[i]? = some o → ∀ c, o.op ≠ .defer c)
    (hL : ∀ listed a, L listed a → wpAnyIn F n P md ops Q' g listed a w) :
    ∀ (f : Nat) (listed : Array Bool) (a : Act), wpAnyL P md ops w m L f listed a → wpAnyIn F n P md ops Q' (f + g) listed a w
  | 0, listed, a, h => by rw [Nat.zero_add]; exact hL _ _ h
  | f + 1, listed, a, h => by
    rw [show f + 1 + g = (f + g) + 1 by omega]
    exact ⟨fun h0 => absurd h0 h.1, fun i hi => wpOpIn_of_stOp hW (fun o ho => hd i o (h.2 i hi).1 ho) (fun a' h' => wpAnyIn_of_head hW hd hL f _ a' h') (h.2 i hi).2⟩

theorem wpAnyIn_of_seq {Q' : Exit → Act → World → Prop} : ∀ (l : List Oper) (k : Nat) (listed : Array Bool) (a : Act) (w : World), (∀ j, l[j]? = ops[k + j]?) →
    Region.seqB md ops l.length k listed = true → wpListIn F n P ops Q' l a w → wpAnyIn F n P md ops Q' l.length listed a w
  | [], _, _, _, _, _, hB, h => ⟨by simpa [Region.seqB] using hB, h⟩
  | o :: l, k, listed, a, w, hl, hB, h => by
    have h0 : ops[k]? = some o := by simpa using (hl 0).symm
    simp only [List.length_cons, Region.seqB, Bool.and_eq_true, decide_eq_true_eq] at hB
    refine ⟨fun h1 => (by rw [hB.1] at h1; cases h1), fun i hi => ?_⟩
    rw [hB.1] at hi
    have hik : i = k := by simpa using hi
    subst hik
    have hw : wpOpIn F n P ops Q' i (wpListIn F n P ops Q' l) a w := by unfold wpOpIn; simp only [h0]; exact h
    exact wpOpIn_mono (fun a' w' h' => wpAnyIn_of_seq l (i + 1) _ a' w' (fun j => by have := hl (j + 1); simpa [Nat.add_assoc, Nat.add_comm 1 j] using this) hB.2 h') hw

theorem wpIn_region_tail (hW : Wide F) {id : Nat} {Q : Exit → Act → World → Prop} {a : Act} {w : World} {l : List Oper} (m : Nat) (hm : P.follows .mixedOrders = true) (hB : (Region.lexTailB .any l.toArray m && noDefer (l.take m)) = true)
    (h : wpStill P l.toArray w.drew (fun a' => wpListIn F n P l.toArray Q (l.drop m) a' w.drew) (l.take m) a) : (Code.region id l.toArray true).wpIn F n P Q a w := by
  rw [Bool.and_eq_true] at hB
  obtain ⟨hB, hnd⟩ := hB
  simp only [Region.lexTailB, Bool.and_eq_true, decide_eq_true_eq] at hB
  obtain ⟨⟨⟨⟨hsel, hn⟩, hs⟩, hc⟩, hlex⟩ := hB
  have hn' : m < l.length := by simpa using hn
  have htl : (l.take m).length = m := by simp; omega
  have hdl : (l.drop m).length = l.toArray.size - m := by simp
  have inv0 : HeadInv .any l.toArray m (Array.replicate l.toArray.size false) :=
    ⟨by simp, fun j oj _ hl => (by rw [getD_replicate_false] at hl; cases hl), fun t _ ht => getD_in (by simpa using ht) (getD_replicate_false _ _)⟩
  have H := wpAnyL_lex (md := .any) (g := l.toArray.size - m) hsel hs hc hn (l.take m) 0 _ a (fun j hj => by
    have hj' : j < m := by rw [htl] at hj; exact hj
    simp [hj']) (by simpa using htl) inv0 (by rw [htl]; exact hlex) h
  refine wpIn_region_any hm ?_
  have := wpAnyIn_of_head (F := F) (n := n) hW (Q' := Q) (g := l.toArray.size - m) (fun i o hi ho => noDefer_spec hnd (by
    have ho' : l[i]? = some o := by simpa using ho
    exact List.mem_of_getElem? (i := i) (by rw [List.getElem?_take, if_pos hi]; exact ho'))) (fun listed a' hL => by
    have := wpAnyIn_of_seq (F := F) (n := n) (md := .any) (Q' := Q) (l.drop m) m listed a' w.drew (fun j => by simp [List.getElem?_drop]) (by rw [hdl]; exact hL.1) hL.2
    rwa [hdl] at this) _ _ _ H
  rw [htl, show m + (l.toArray.size - m) = l.toArray.size by omega] at this
  exact this
end
end Go.Proofs.Ytjnaknfnoibncaa

/- What label's isLabel and ends do. Conditions: strings that Go can hold. -/
namespace Go.Proofs.Ytjnaknfnoibncaa
open Go Go.RowKit Go.Shelf
attribute [local go_sem] Oper.semAt_some wide_fn wide_depth

set_option maxHeartbeats 400000 in
theorem isLabel_any (s : ByteArray) (w : World) (hs : s.size ≤ maxLen) :
    Calls Try.prog 102 #[.string s] w fun e w' => e = .returned (.bool (isLab s.size)) ∧ w = w' := by
  unfold maxLen at hs
  by_cases h1 : 1 ≤ s.size
  · go_enter Try.func102, Try.ntmps102
    go_wp2
    go_ret
    exact ⟨by simp [isLab, h1]; omega, rfl⟩
  · go_enter Try.func102, Try.ntmps102
    go_wp2
    go_ret
    exact ⟨by simp [isLab]; omega, rfl⟩

set_option maxRecDepth 100000 in
set_option maxHeartbeats 1000000 in
theorem ends1_seq (n : Nat) (Bn : Nat) (s : ByteArray) (hs : s.size ≤ maxLen) (w : World) (hb : w.cell? ⟨Bn, 0, none⟩ = some (.string s)) :
    SeqX Fence.wide n Try.prog 101 #[.pointer (some ⟨Bn, 0, none⟩)] (fun a : Nat => #[Value.int .i64 a]) (endsE s 0) (fun k => k = Bn) w := by
  intro l W J Jx hW hJ hJx h0 hY
  have hbW := hW.cell hb rfl
  unfold maxLen at hs
  refine callsIn_of_wp Try.func101 rfl trivial ?_ rfl
  simp only [Try.ntmps101, List.size_toArray, List.length_cons, List.length_nil, Nat.reduceAdd, Nat.reduceSub, Array.replicate_succ, Array.replicate_zero, List.push_toArray, List.append_toArray, List.nil_append, List.cons_append]
  have hJ0 := h0 W.heap.size W (Nat.le_refl _) (Nat.le_refl _) (Keeps.refl _ _)
  gi_wp2
  gi_loopw [3] (fun i wr => ∃ (k : Nat) (pre : List Nat), k ≤ s.size ∧ i = .int .i64 k ∧ endsE s 0 = pre ++ endsE s k ∧ J W.heap.size pre wr ∧ W.heap.size ≤ wr.heap.size ∧ Keeps (fun k => k = Bn) W wr)
    (fun i _ => s.size - (intOf i).toNat)
  case atStart => exact ⟨0, [], Nat.zero_le _, rfl, rfl, hJ0, Nat.le_refl _, Keeps.refl _ _⟩
  case round =>
    obtain ⟨k, pre, hk, rfl, hx, hJs, hsz, hkp⟩ := hrel
    have hc := hkp.cell hbW rfl
    have HJ := Lib.hid hJ; clear hJ
    have HJx := Lib.hid hJx; clear hJx
    have H0 := Lib.hid h0; clear h0
    have HY := Lib.hid hY; clear hY
    have Hx := Lib.hid hx; clear hx
    have Hkp := Lib.hid hkp; clear hkp
    have HW := Lib.hid hW; clear hW
    by_cases hlt : k < s.size
    · obtain ⟨c, hcv⟩ : ∃ c : Nat, s[k].toNat = c := ⟨_, rfl⟩
      have hc255 : c ≤ 255 := by have := s[k].toNat_lt; omega
      have Hge : Hid (s[k]! = s[k]) := Lib.hid (getElem!_pos s k hlt)
      have HL : Hid (Calls Try.prog 102 #[.string ((s.extract (k + 1) s.size).extract 0 c)] wr fun e w' => e = .returned (.bool (isLab ((s.extract (k + 1) s.size).extract 0 c).size)) ∧ wr = w') :=
        Lib.hid (isLabel_any _ _ (by unfold maxLen; simp only [ByteArray.size_extract]; omega))
      by_cases h1 : c ≤ s.size - (k + 1)
      · have Hl : Hid (((s.extract (k + 1) s.size).extract 0 c).size = c) := Lib.hid (by simp only [ByteArray.size_extract]; omega)
        by_cases h2 : isLab c = true
        · have Hs : Hid (stepE s k = some (k + (1 + c))) := Lib.hid (by
            have h2' := of_decide_eq_true h2
            unfold stepE; rw [if_pos hlt, Hge.out, hcv, if_pos ⟨h1, h2'.1, h2'.2⟩]; congr 1; omega)
          have hlt2 := (stepE_lt Hs.out).2
          obtain ⟨fn, tmps, assign, body, hy, hR⟩ := HY.out W.heap.size pre (k + (1 + c)) (endsE s (k + (1 + c))) wr (by rw [Hx.out, endsE_some Hs.out]) (Nat.le_refl _) hsz hJs
          simp only [Int.natCast_add, Int.cast_ofNat_Int] at hy
          gi_wp2_with (gi_at_call 102; refine (callsIn_wide.2 HL.out).mono ?_; rintro e w' ⟨rfl, rfl⟩; rw [Hl.out, h2])
          refine hR.mono ?_
          rintro e W3 ⟨hk3, (⟨rfl, hJ3⟩ | ⟨rfl, hJx3⟩)⟩
          · gi_wp2
            go_roundw
            case rel => exact ⟨k + (1 + c), pre ++ [k + (1 + c)], hlt2, by simp, by rw [Hx.out, endsE_some Hs.out]; simp, hJ3, Nat.le_trans hsz hk3.size, Hkp.out.trans (hk3.mono fun _ _ h => .inl h)⟩
            case measure => simp [intOf]; omega
          · gi_wp2
            refine bodyPost_ret (results_none rfl _ _ _) rfl ?_
            exact ⟨⟨_, rfl⟩, W.heap.size, Nat.le_refl _, Nat.le_trans hsz hk3.size, .inr ⟨pre, k + (1 + c), _, by rw [Hx.out, endsE_some Hs.out], hJx3⟩⟩
        · have h2 : isLab c = false := by simpa using h2
          have Hs : Hid (stepE s k = none) := Lib.hid (by
            have h2' := of_decide_eq_false h2
            unfold stepE; rw [if_pos hlt, Hge.out, hcv, if_neg (by omega)])
          gi_wp2_with (gi_at_call 102; refine (callsIn_wide.2 HL.out).mono ?_; rintro e w' ⟨rfl, rfl⟩; rw [Hl.out, h2])
          refine bodyPost_ret (results_none rfl _ _ _) rfl ?_
          exact ⟨⟨_, rfl⟩, W.heap.size, Nat.le_refl _, hsz, .inl (by rw [Hx.out, endsE_none Hs.out]; simpa using hJs)⟩
      · have Hs : Hid (stepE s k = none) := Lib.hid (by
          unfold stepE; rw [if_pos hlt, Hge.out, hcv, if_neg (by omega)])
        gi_wp2
        refine bodyPost_ret (results_none rfl _ _ _) rfl ?_
        exact ⟨⟨_, rfl⟩, W.heap.size, Nat.le_refl _, hsz, .inl (by rw [Hx.out, endsE_none Hs.out]; simpa using hJs)⟩
    · have Hs : Hid (stepE s k = none) := Lib.hid (by unfold stepE; rw [if_neg hlt])
      gi_wp2
      go_end0
      exact ⟨⟨_, rfl⟩, W.heap.size, Nat.le_refl _, hsz, .inl (by rw [Hx.out, endsE_none Hs.out]; simpa using hJs)⟩

set_option maxHeartbeats 400000 in
/-- ends boxes the string; the function value captures the box. -/
theorem ends_any (s : ByteArray) (w : World) :
    Calls Try.prog 96 #[.string s] w fun e w' => e = .returned (.func (.func 101) #[] #[.pointer (some ⟨w.heap.size, 0, none⟩)]) ∧ w' = w.alloc (.cells #[.string s] 9) := by
  go_enter Try.func96, Try.ntmps96
  go_wp2
  go_ret
  exact ⟨rfl, rfl⟩

end Go.Proofs.Ytjnaknfnoibncaa

/- What label's Check does. Conditions: strings that Go can hold. -/
namespace Go.Proofs.Ytjnaknfnoibncaa
open Go Go.RowKit Go.Shelf
attribute [local go_sem] Oper.semAt_some wide_fn wide_depth

set_option maxRecDepth 100000 in
set_option maxHeartbeats 2000000 in
theorem Check_any (s : ByteArray) (w : World) (hs : s.size ≤ maxLen) :
    Calls Try.prog 95 #[.string s] w fun e w' => e = .returned (.int .i64 (chk s)) ∧ Below w.heap.size w w' := by
  by_cases h1 : s.size ≤ 255
  · refine (callsIn_wide (n := 9)).1 ?_
    refine callsIn_of_wp_marks Try.func95 rfl trivial ?_ rfl
    simp only [Try.ntmps95, List.size_toArray, List.length_cons, List.length_nil, Nat.reduceAdd, Nat.reduceSub, Array.replicate_succ, Array.replicate_zero, List.push_toArray, List.append_toArray, List.nil_append, List.cons_append]
    gi_wp2_with (gi_at_call 96; refine (callsIn_wide.2 (ends_any _ _)).mono ?_; rintro e w' ⟨rfl, rfl⟩)
    have hB : Boxed ((w.alloc (.cells #[.int .i64 0] 3)).alloc (.cells #[.string s] 9)) w.heap.size 3 (.int .i64 0) := (Boxed.new w 3 _).alloc _
    have hN : Boxed ((w.alloc (.cells #[.int .i64 0] 3)).alloc (.cells #[.string s] 9)) (w.heap.size + 1) 9 (.string s) := by have := Boxed.new (w.alloc (.cells #[.int .i64 0] 3)) 9 (.string s); simpa using this
    have hK : Keeps (fun k => k < w.heap.size) w ((w.alloc (.cells #[.int .i64 0] 3)).alloc (.cells #[.string s] 9)) := ((Keeps.refl _ _).alloc _).alloc _
    have hz : ((w.alloc (.cells #[.int .i64 0] 3)).alloc (.cells #[.string s] 9)).heap.size = w.heap.size + 2 := by simp
    generalize (w.alloc (.cells #[.int .i64 0] 3)).alloc (.cells #[.string s] 9) = w2 at hB hN hK hz ⊢
    refine wpIn_rangeX rfl wide_room (gf := 101) (lb := #[.pointer (some ⟨w.heap.size + 1, 0, none⟩)]) rfl trivial (enters_of Try.func101 (by kernel_rfl) rfl)
      (ends1_seq _ _ s hs w2 hN.cell) (Keeps.refl _ _) (fun k h => by rw [hz]; subst h; omega) (fun _ => rfl)
      (fun _ pre W => Boxed W w.heap.size 3 (.int .i64 (pre.getLastD 0 : Nat)) ∧ Keeps (fun k => k < w.heap.size) w W)
      (fun _ _ _ _ => False)
      (fun D pre A A' h k => ⟨k.boxed h.1 (by omega), h.2.trans (k.mono fun _ _ h => by omega)⟩)
      (fun _ _ _ _ _ h _ => h)
      (fun D W _ _ h => ⟨h.boxed hB (by omega), hK.trans (h.mono fun _ _ h => by omega)⟩)
      (fun _ x a' _ => a' = { tmps := #[.string s, undef, .int .i64 0, .pointer (some { block := w.heap.size, off := 0 }), .int .i64 x, .string s, .int .i64 s.size, .bool (decide (255 < (s.size : Int))), .string s, .func (.func 101) #[] #[.pointer (some { block := w.heap.size + 1, off := 0 })], .int .i64 x, undef, undef, undef, undef, undef], defers := [] })
      (fun _ _ _ _ _ h _ => h) ?assign ?body ?done ?stop
    case assign =>
      intro l D x W K _ hK
      gi_wp2
      exact hK _ _ (Keeps.refl _ _) rfl
    case body =>
      rintro l D pre x rest a' W hx hD hDW ⟨r, hr⟩ ⟨hb, hk⟩ rfl
      have hc := hb.cell
      have hf := hb.frozen
      have Hb := Lib.hid hb; clear hb
      have Hk := Lib.hid hk; clear hk
      have Hx := Lib.hid hx; clear hx
      gi_wp2
      exact ⟨(Keeps.refl _ _).setCell (p := ⟨w.heap.size, 0, none⟩) (by simp; omega) _, by simpa using Hb.out.set (.int .i64 x), Hk.out.setCell (p := ⟨w.heap.size, 0, none⟩) (by simp) _⟩
    case done =>
      rintro D W hD hDW ⟨hb, hk⟩ hd
      have hle := lastE_le s
      have hee : (endsE s 0).getLastD 0 = lastE s := rfl
      rw [hee] at hb
      clear hee
      obtain ⟨e, he⟩ : ∃ e, lastE s = e := ⟨_, rfl⟩
      rw [he] at hle hb
      have hc := hb.cell
      have hf := hb.frozen
      have Hb := Lib.hid hb; clear hb
      have Hk := Lib.hid hk; clear hk
      have Hd := Lib.hid hd; clear hd
      have He := Lib.hid he; clear he
      cases h2 : ((s.extract e s.size).toList == [0]) with
      | true =>
        gi_wp2
        refine ⟨by simp, .inl ⟨_, _, rfl, run_takeDeferred Hd.out, ?_⟩⟩
        exact ⟨_, results_tmp rfl _ _ _, by simp [chk, isName, h1, He.out, h2], (Hk.out.putObj (by omega) _).below (Nat.le_refl _) (fun _ h => h)⟩
      | false =>
        gi_wp2
        refine ⟨by simp, .inl ⟨_, _, rfl, run_takeDeferred Hd.out, ?_⟩⟩
        exact ⟨_, results_tmp rfl _ _ _, by simp [chk, isName, h1, He.out, h2], (Hk.out.putObj (by omega) _).below (Nat.le_refl _) (fun _ h => h)⟩
    case stop =>
      rintro c D pre x rest W _ _ _ h
      exact h.elim
  · unfold maxLen at hs
    go_enter Try.func95, Try.ntmps95
    go_wp2
    go_ret
    exact ⟨by simp [chk, isName, h1], Below.refl _ _⟩

end Go.Proofs.Ytjnaknfnoibncaa

/- What label's Fold does. Conditions: strings that Go can hold. -/
namespace Go.Proofs.Ytjnaknfnoibncaa
open Go Go.RowKit Go.Shelf

/-- The bytes of s in block B, the first k of them folded. -/
def FoldRow (s : ByteArray) (B k : Nat) (W : World) : Prop :=
  ∀ j, j < s.size → W.cell? ⟨B, j, none⟩ = some (.int .u8 (if j < k then (foldB s[j]!).toNat else s[j]!.toNat : Nat)) ∧ W.frozen? ⟨B, j, none⟩ = false

theorem FoldRow.keep {s : ByteArray} {B k : Nat} {W : World} (h : FoldRow s B k W) (hk : (foldB s[k]!).toNat = s[k]!.toNat) : FoldRow s B (k + 1) W := by
  intro j hj
  obtain ⟨h1, h2⟩ := h j hj
  refine ⟨?_, h2⟩
  rw [h1]
  by_cases e : j = k
  · subst e; simp [hk]
  · have : (j < k + 1) ↔ (j < k) := by omega
    simp [this]

theorem FoldRow.store {s : ByteArray} {B k : Nat} {W : World} (h : FoldRow s B k W) {v : Int} (hk : ((foldB s[k]!).toNat : Int) = v) : FoldRow s B (k + 1) (W.setCell ⟨B, k, none⟩ (.int .u8 v)) := by
  intro j hj
  obtain ⟨h1, h2⟩ := h j hj
  refine ⟨?_, by rw [World.frozen?_setCell]; exact h2⟩
  by_cases e : j = k
  · subst e; rw [World.cell?_setCell_same' _ _ _ (by rw [h1]; rfl)]; simp [hk]
  · rw [World.cell?_setCell_other _ _ _ _ (by intro h; cases h; exact e rfl), h1]
    have : (j < k + 1) ↔ (j < k) := by omega
    simp [this]

theorem size_foldS (s : ByteArray) : (foldS s).size = s.size := by show ((s.data.toList.map foldB).toArray).size = s.data.size; simp

theorem FoldRow.all {s : ByteArray} {B k : Nat} {W : World} (h : FoldRow s B k W) (hk : s.size ≤ k) (j : Nat) (hj : j < (s.data.toList.map foldB).length) :
    W.cell? ((⟨B, 0, none⟩ : Addr).add j) = some (.int .u8 ((s.data.toList.map foldB)[j].toNat : Int)) := by
  have hj' : j < s.size := by have : j < s.data.toList.length := by simpa using hj
                              exact this
  have hp : (⟨B, 0, none⟩ : Addr).add j = ⟨B, j, none⟩ := by unfold Addr.add; split <;> simp_all
  rw [hp, (h j hj').1, if_pos (by omega)]
  simp only [List.getElem_map]
  rw [getElem!_pos s j hj']
  rfl

end Go.Proofs.Ytjnaknfnoibncaa

/- What label's Labels does: the iterator tells the labels of a name. Conditions: strings that Go can hold. -/
namespace Go.Proofs.Ytjnaknfnoibncaa
open Go Go.RowKit Go.Shelf
attribute [local go_sem] Oper.semAt_some wide_fn wide_depth

set_option maxRecDepth 100000 in
set_option maxHeartbeats 4000000 in
theorem labels1_seq (n : Nat) (Bn : Nat) (s : ByteArray) (hs : s.size ≤ maxLen) (w : World) (hb : w.cell? ⟨Bn, 0, none⟩ = some (.string s)) :
    SeqX Fence.wide n Try.prog 94 #[.pointer (some ⟨Bn, 0, none⟩)] (fun x : ByteArray => #[Value.string x]) (labelsB s) (fun k => k = Bn) w := by
  intro l W J Jx hW hJ hJx h0 hY
  have hbW := hW.cell hb rfl
  have HJ := Lib.hid hJ; clear hJ
  have HJx := Lib.hid hJx; clear hJx
  have H0 := Lib.hid h0; clear h0
  have HY := Lib.hid hY; clear hY
  have HW := Lib.hid hW; clear hW
  have hC : Hid (∀ W' : World, Calls Try.prog 95 #[.string s] W' fun e w' => e = .returned (.int .i64 (chk s)) ∧ Below W'.heap.size W' w') := Lib.hid fun W' => Check_any s W' hs
  unfold maxLen at hs
  refine callsIn_of_wp_marks Try.func94 rfl trivial ?_ rfl
  simp only [Try.ntmps94, List.size_toArray, List.length_cons, List.length_nil, Nat.reduceAdd, Nat.reduceSub, Array.replicate_succ, Array.replicate_zero, List.push_toArray, List.append_toArray, List.nil_append, List.cons_append]
  have hK0 : ∀ K, Keeps K W (W.alloc (.cells #[.func (.yield l) #[] #[]] 133)) := fun K => (Keeps.refl K W).alloc _
  have hY0 : Boxed (W.alloc (.cells #[.func (.yield l) #[] #[]] 133)) W.heap.size 133 (.func (.yield l) #[] #[]) := Boxed.new W _ _
  have hz0 : (W.alloc (.cells #[.func (.yield l) #[] #[]] 133)).heap.size = W.heap.size + 1 := by simp
  have hbW1 := (hK0 (fun _ => True)).cell hbW trivial
  have HK0 := Lib.hid hK0; clear hK0
  have HY0 := Lib.hid hY0; clear hY0
  have Hz0 := Lib.hid hz0; clear hz0
  gi_wp2_with fail
  obtain ⟨w0, hw0⟩ : ∃ w0, W.alloc (.cells #[.func (.yield l) #[] #[]] 133) = w0 := ⟨_, rfl⟩
  rw [hw0] at HK0 HY0 Hz0 hbW1 ⊢
  clear hw0
  refine (callsIn_wide.2 (hC.out _)).mono ?_
  rintro e w1 ⟨rfl, hB1⟩
  have hB1 := Lib.hid hB1
  have hK1 : Keeps (fun _ => True) w0 w1 := Keeps.of_below hB1.out (fun _ h _ => h)
  have hb1 := hK1.cell hbW1 trivial
  have HY1 := Lib.hid (hK1.boxed HY0.out trivial)
  have HK1 := Lib.hid hK1; clear hK1
  cases hn : isName s with
  | false =>
    have hc2 : chk s = 2 := by simp [chk, hn]
    rw [hc2]
    clear hc2
    have Hn := Lib.hid hn; clear hn
    gi_wp2
    refine ⟨_, results_none rfl _ _ _, ⟨_, rfl⟩, w1.heap.size, ?_, Nat.le_refl _, .inl ?_⟩
    · have := Hz0.out; have := HK1.out.size; omega
    · rw [labelsB, Hn.out]
      exact H0.out _ _ (by have := Hz0.out; have := HK1.out.size; omega) (Nat.le_refl _) ((HK0.out _).trans (HK1.out.mono fun _ _ _ => trivial))
  | true =>
    have hc2 : chk s = 0 := by simp [chk, hn]
    rw [hc2]
    clear hc2
    have Hn := Lib.hid hn; clear hn
    have hb1' : (w1.alloc (.cells #[.int .i64 0] 3)).cell? ⟨Bn, 0, none⟩ = some (.string s) := ((Keeps.refl (fun _ => True) w1).alloc _).cell hb1 trivial
    gi_wp2_with (gi_at_call 96; refine (callsIn_wide.2 (ends_any _ _)).mono ?_; rintro e w' ⟨rfl, rfl⟩)
    have hSt : Boxed ((w1.alloc (.cells #[.int .i64 0] 3)).alloc (.cells #[.string s] 9)) w1.heap.size 3 (.int .i64 0) := (Boxed.new w1 3 _).alloc _
    have hN : Boxed ((w1.alloc (.cells #[.int .i64 0] 3)).alloc (.cells #[.string s] 9)) (w1.heap.size + 1) 9 (.string s) := by have := Boxed.new (w1.alloc (.cells #[.int .i64 0] 3)) 9 (.string s); simpa using this
    have hK2 : Keeps (fun _ => True) w1 ((w1.alloc (.cells #[.int .i64 0] 3)).alloc (.cells #[.string s] 9)) := ((Keeps.refl _ _).alloc _).alloc _
    have hz2 : ((w1.alloc (.cells #[.int .i64 0] 3)).alloc (.cells #[.string s] 9)).heap.size = w1.heap.size + 2 := by simp
    generalize (w1.alloc (.cells #[.int .i64 0] 3)).alloc (.cells #[.string s] 9) = w2 at hSt hN hK2 hz2 ⊢
    have hb2 := hK2.cell hb1 trivial
    have hY2 := hK2.boxed HY1.out trivial
    have hKW : Keeps (fun _ => True) W w2 := (HK0.out _).trans (HK1.out.trans hK2)
    have hzW : W.heap.size < w1.heap.size := by have := Hz0.out; have := HK1.out.size; omega
    have hbl : Bn < W.heap.size := World.block_lt_of_cell? W ⟨Bn, 0, none⟩ hbW
    clear hb1' hb1 hbW1 hb hbW
    refine wpIn_rangeX rfl wide_room (gf := 101) (lb := #[.pointer (some ⟨w1.heap.size + 1, 0, none⟩)]) rfl trivial (enters_of Try.func101 (by kernel_rfl) rfl)
      (ends1_seq _ _ s (by unfold maxLen; exact hs) w2 hN.cell) (Keeps.refl _ _) (fun k h => by rw [hz2]; subst h; omega) (fun _ => rfl)
      (fun D pre A => Boxed A w1.heap.size 3 (.int .i64 (pre.getLastD 0 : Nat)) ∧ Boxed A W.heap.size 133 (.func (.yield l) #[] #[]) ∧ A.cell? ⟨Bn, 0, none⟩ = some (.string s) ∧ J D (labelsFrom s 0 pre) A)
      (fun c D pre A => c = Code.ret ∧ Jx D (labelsFrom s 0 pre) A)
      (fun D pre A A' h k => ⟨k.boxed h.1 (by omega), k.boxed h.2.1 (by omega), k.cell h.2.2.1 (by simp only; omega), HJ.out _ _ _ _ h.2.2.2 (k.mono fun _ _ h => by omega)⟩)
      (fun _ D pre A A' h k => ⟨h.1, HJx.out _ _ _ _ h.2 (k.mono fun _ _ h => by omega)⟩)
      (fun D A h1 h2 h => ⟨h.boxed hSt (by omega), h.boxed hY2 (by omega), h.cell hb2 (by simp only; omega), H0.out D A (by omega) h2 ((hKW.mono fun _ _ _ => trivial).trans (h.mono fun _ _ h => by omega))⟩)
      (fun _ x a' _ => a' = { tmps := #[.func (.yield l) #[] #[], .pointer (some ⟨Bn, 0, none⟩), .pointer (some ⟨W.heap.size, 0, none⟩), .pointer (some ⟨w1.heap.size, 0, none⟩), .int .i64 x, .string s, .int .i64 0, .bool false, .string s, .func (.func 101) #[] #[.pointer (some ⟨w1.heap.size + 1, 0, none⟩)], .int .i64 x, undef, undef, undef, undef, undef, undef, undef, undef, undef], defers := [] })
      (fun _ _ _ _ _ h _ => h) ?assign ?body ?done ?stop
    case assign =>
      intro l D x A K _ hK
      gi_wp2
      exact hK _ _ (Keeps.refl _ _) rfl
    case body =>
      rintro l' D pre x rest a' A hx hD hDW ⟨r, hr⟩ ⟨hst, hyb, hn, hJ⟩ rfl
      have hch := endsE_chain s pre 0 x rest hx
      obtain ⟨st, hste⟩ : ∃ st : Nat, pre.getLastD 0 = st := ⟨_, rfl⟩
      have hspl := labelsFrom_split s pre 0 x rest
      rw [hste] at hst hch hspl
      obtain ⟨fn, tmps, assign, body, hy, hR⟩ := HY.out D (labelsFrom s 0 pre) (s.extract (st + 1) x) (labelsFrom s x rest) A.drew (by rw [labelsB, Hn.out, if_pos rfl, hx, hspl]) (by omega) hDW (HJ.out _ _ _ _ hJ ((Keeps.refl _ _).drew))
      have HR := Lib.hid (hR.mono (R' := fun e W' => ∃ b, e = .returned (.bool b) ∧ Keeps (fun k => k = Bn ∨ W.heap.size ≤ k ∧ k < D) A.drew W' ∧
        ((b = true ∧ J D (labelsFrom s 0 pre ++ [s.extract (st + 1) x]) W') ∨ (b = false ∧ Jx D (labelsFrom s 0 pre ++ [s.extract (st + 1) x]) W')))
        (fun e W' h => h.2.elim (fun g => ⟨true, g.1, h.1, .inl ⟨rfl, g.2⟩⟩) (fun g => ⟨false, g.1, h.1, .inr ⟨rfl, g.2⟩⟩))); clear hR
      have hcs := hst.cell
      have hfs := hst.frozen
      have hcy := hyb.cell
      have Hst := Lib.hid hst; clear hst
      have Hyb := Lib.hid hyb; clear hyb
      have Hspl := Lib.hid hspl; clear hspl
      have Hste := Lib.hid hste; clear hste
      have Hx := Lib.hid hx; clear hx
      have hmx : Try.prog.follows .mixedOrders = true := by kernel_rfl
      have q1 : IntKind.i64.wrap ((st : Int) + 1) = (st : Int) + 1 := IntWalk.i64_in _ (by omega)
      have q2 : (0 : Int) ≤ (st : Int) + 1 := by omega
      have q3 : ((st : Int) + 1).toNat = st + 1 := by omega
      have q4 : (st : Int) + 1 ≤ (x : Int) := by omega
      have q5 : (x : Int) ≤ (s.size : Int) := by omega
      gi_wp2
      refine wpIn_region_tail (Wide.round l') 6 hmx (by kernel_rfl) ?_
      simp only [List.take_succ_cons, List.take_zero, List.drop_succ_cons, List.drop_zero]
      repeat still_step
      refine wpStill_nil ?_
      gi_wp2_with fail
      refine (roundIn_wide HR.out).mono ?_
      rintro e W3 ⟨b, rfl, hk3, hor⟩
      have hkA : Keeps (fun k => k = Bn ∨ W.heap.size ≤ k ∧ k < D) A W3 := ((Keeps.refl _ A).drew).trans hk3
      have hDW3 : D ≤ W3.heap.size := Nat.le_trans hDW hkA.size
      have hst3 := hkA.boxed Hst.out (by omega)
      have hyb3 := hkA.boxed Hyb.out (by omega)
      have hn3 := hkA.cell hn (.inl rfl)
      have hcs3 := hst3.cell
      have hfs3 := hst3.frozen
      have Hst3 := Lib.hid hst3; clear hst3
      have Hyb3 := Lib.hid hyb3; clear hyb3
      have HkA := Lib.hid hkA; clear hkA hk3
      clear HR hy
      cases b with
      | true =>
        have hj := Lib.hid (hor.elim (fun h => h.2) (fun h => by cases h.1)); clear hor
        gi_wp2
        refine ⟨?_, ?_, ?_, ?_, ?_⟩
        · exact (HkA.out.mono fun k _ h => by omega).setCell (p := ⟨w1.heap.size, 0, none⟩) (by simp only; omega) _
        · simpa using Hst3.out.set (.int .i64 x)
        · exact ((Keeps.refl (fun k => k ≠ w1.heap.size) W3).setCell (p := ⟨w1.heap.size, 0, none⟩) (fun h => h rfl) _).boxed Hyb3.out (by omega)
        · exact ((Keeps.refl (fun k => k ≠ w1.heap.size) W3).setCell (p := ⟨w1.heap.size, 0, none⟩) (fun h => h rfl) _).cell hn3 (by simp only; omega)
        · rw [labelsFrom_snoc, Hste.out]
          exact HJ.out _ _ _ _ hj.out ((Keeps.refl _ W3).setCell (p := ⟨w1.heap.size, 0, none⟩) (by simp only; omega) _)
      | false =>
        have hj := Lib.hid (hor.elim (fun h => by cases h.1) (fun h => h.2)); clear hor
        gi_wp2
        refine ⟨HkA.out.mono fun k _ h => by omega, rfl, ?_⟩
        rw [labelsFrom_snoc, Hste.out]
        exact hj.out
    case done =>
      rintro D A hD hDW ⟨_, _, _, hj⟩ hd
      have Hj := Lib.hid hj; clear hj
      have Hd := Lib.hid hd; clear hd
      gi_wp2
      refine ⟨by simp, .inl ⟨_, _, rfl, run_takeDeferred Hd.out, ?_⟩⟩
      have hkp : Keeps (fun k => k < W.heap.size ∨ D ≤ k) A (A.putObj w2.heap.size (.deferred none)) := (Keeps.refl _ A).putObj (by omega) _
      refine ⟨_, results_none rfl _ _ _, ⟨_, rfl⟩, D, by omega, Nat.le_trans hDW hkp.size, .inl ?_⟩
      rw [labelsB, Hn.out, if_pos rfl]
      exact HJ.out _ _ _ _ Hj.out hkp
    case stop =>
      rintro c D pre x rest A hx hD hDW ⟨rfl, hj⟩ hd
      have Hj := Lib.hid hj; clear hj
      have Hd := Lib.hid hd; clear hd
      have Hspl := Lib.hid (labelsFrom_split s pre 0 x rest)
      have Hx := Lib.hid hx; clear hx
      gi_wp2
      refine ⟨by simp, .inl ⟨_, _, rfl, run_takeDeferred Hd.out, ?_⟩⟩
      have hkp : Keeps (fun k => k < W.heap.size ∨ D ≤ k) A (A.putObj w2.heap.size (.deferred none)) := (Keeps.refl _ A).putObj (by omega) _
      refine ⟨_, results_none rfl _ _ _, ⟨_, rfl⟩, D, by omega, Nat.le_trans hDW hkp.size, .inr ⟨labelsFrom s 0 pre, s.extract (pre.getLastD 0 + 1) x, labelsFrom s x rest, ?_, ?_⟩⟩
      · rw [labelsB, Hn.out, if_pos rfl, Hx.out, Hspl.out]
      · rw [← labelsFrom_snoc]
        exact HJx.out _ _ _ _ Hj.out hkp

set_option maxHeartbeats 400000 in
/-- Labels boxes the string; the function value captures the box. -/
theorem Labels_any (s : ByteArray) (w : World) :
    Calls Try.prog 83 #[.string s] w fun e w' => e = .returned (.func (.func 94) #[] #[.pointer (some ⟨w.heap.size, 0, none⟩)]) ∧ w' = w.alloc (.cells #[.string s] 9) := by
  go_enter Try.func83, Try.ntmps83
  go_wp2
  go_ret
  exact ⟨rfl, rfl⟩

end Go.Proofs.Ytjnaknfnoibncaa

/- What label's Count and Parent do. Conditions: strings that Go can hold. -/
namespace Go.Proofs.Ytjnaknfnoibncaa
open Go Go.RowKit Go.Shelf
attribute [local go_sem] Oper.semAt_some wide_fn wide_depth

set_option maxRecDepth 100000 in
set_option maxHeartbeats 2000000 in
theorem Count_any (s : ByteArray) (w : World) (hs : s.size ≤ maxLen) :
    Calls Try.prog 64 #[.string s] w fun e w' => e = .returned (.int .i64 (labelsB s).length) ∧ Ext w w' := by
  have hlen := labelsB_length s
  refine (callsIn_wide (n := 9)).1 ?_
  refine callsIn_of_wp_marks Try.func64 rfl trivial ?_ rfl
  simp only [Try.ntmps64, List.size_toArray, List.length_cons, List.length_nil, Nat.reduceAdd, Nat.reduceSub, Array.replicate_succ, Array.replicate_zero, List.push_toArray, List.append_toArray, List.nil_append, List.cons_append]
  gi_wp2_with (gi_at_call 83; refine (callsIn_wide.2 (Labels_any _ _)).mono ?_; rintro e w' ⟨rfl, rfl⟩)
  have hB : Boxed ((w.alloc (.cells #[.int .i64 0] 3)).alloc (.cells #[.string s] 9)) w.heap.size 3 (.int .i64 0) := (Boxed.new w 3 _).alloc _
  have hN : Boxed ((w.alloc (.cells #[.int .i64 0] 3)).alloc (.cells #[.string s] 9)) (w.heap.size + 1) 9 (.string s) := by have := Boxed.new (w.alloc (.cells #[.int .i64 0] 3)) 9 (.string s); simpa using this
  have hK : Ext w ((w.alloc (.cells #[.int .i64 0] 3)).alloc (.cells #[.string s] 9)) := ((Ext.refl _).alloc _).alloc _
  have hz : ((w.alloc (.cells #[.int .i64 0] 3)).alloc (.cells #[.string s] 9)).heap.size = w.heap.size + 2 := by simp
  generalize (w.alloc (.cells #[.int .i64 0] 3)).alloc (.cells #[.string s] 9) = w2 at hB hN hK hz ⊢
  refine wpIn_rangeX rfl wide_room (gf := 94) (lb := #[.pointer (some ⟨w.heap.size + 1, 0, none⟩)]) rfl trivial (enters_of Try.func94 (by kernel_rfl) rfl)
    (labels1_seq _ _ s hs w2 hN.cell) (Keeps.refl _ _) (fun k h => by rw [hz]; subst h; omega) (fun _ => rfl)
    (fun _ pre W => Boxed W w.heap.size 3 (.int .i64 (pre.length : Nat)) ∧ Keeps (fun k => k < w.heap.size) w W)
    (fun _ _ _ _ => False)
    (fun D pre A A' h k => ⟨k.boxed h.1 (by omega), h.2.trans (k.mono fun _ _ h => by omega)⟩)
    (fun _ _ _ _ _ h _ => h)
    (fun D W _ _ h => ⟨h.boxed hB (by omega), (hK.keeps.mono fun _ _ _ => trivial).trans (h.mono fun _ _ h => by omega)⟩)
    (fun _ x a' _ => a' = { tmps := #[.string s, undef, .int .i64 0, .pointer (some { block := w.heap.size, off := 0 }), .string s, .func (.func 94) #[] #[.pointer (some { block := w.heap.size + 1, off := 0 })], .string x, undef, undef, undef], defers := [] })
    (fun _ _ _ _ _ h _ => h) ?assign ?body ?done ?stop
  case assign =>
    intro l D x W K _ hK
    gi_wp2
    exact hK _ _ (Keeps.refl _ _) (by simp)
  case body =>
    rintro l D pre x rest a' W hx hD hDW ⟨r, hr⟩ ⟨hb, hk⟩ rfl
    have hle : (pre.length : Int) ≤ 9223372036854775806 := by
      have : (labelsB s).length = pre.length + (rest.length + 1) := by rw [hx]; simp
      unfold maxLen at hs; omega
    have hc := hb.cell
    have hf := hb.frozen
    have Hb := Lib.hid hb; clear hb
    have Hk := Lib.hid hk; clear hk
    have Hx := Lib.hid hx; clear hx
    clear hlen
    gi_wp2
    exact ⟨(Keeps.refl _ _).setCell (p := ⟨w.heap.size, 0, none⟩) (by simp; omega) _, by simpa using Hb.out.set (.int .i64 (pre.length + 1)), Hk.out.setCell (p := ⟨w.heap.size, 0, none⟩) (by simp) _⟩
  case done =>
    rintro D W hD hDW ⟨hb, hk⟩ hd
    have hc := hb.cell
    have Hb := Lib.hid hb; clear hb
    have Hk := Lib.hid hk; clear hk
    have Hd := Lib.hid hd; clear hd
    clear hlen
    gi_wp2
    refine ⟨by simp, .inl ⟨_, _, rfl, run_takeDeferred Hd.out, ?_⟩⟩
    exact ⟨_, results_tmp rfl _ _ _, rfl, (Hk.out.putObj (by omega) _).ext (fun _ h => h)⟩
  case stop =>
    rintro c D pre x rest W _ _ _ h
    exact h.elim

end Go.Proofs.Ytjnaknfnoibncaa

/- What label's Same and Within do. Conditions: strings that Go can hold. -/
namespace Go.Proofs.Ytjnaknfnoibncaa
open Go Go.RowKit Go.Shelf
attribute [local go_sem] Oper.semAt_some wide_fn wide_depth

def sameB (a b : ByteArray) : Bool := isName a && isName b && ((foldS a).toList == (foldS b).toList)

/-- The rest of s from e on is z. -/
def restIs (s z : ByteArray) (e : Nat) : Bool := (s.extract e s.size).toList == z.toList
def withinB (s z : ByteArray) : Bool := isName s && isName z && (((foldS s).toList == (foldS z).toList) || (endsE (foldS s) 0).any (restIs (foldS s) (foldS z)))

end Go.Proofs.Ytjnaknfnoibncaa
