/- What the library's stable sort does with a row of at most 19 elements, and its compacting with a row in which no two neighbours are one. Conditions: these. -/
import Derived.Test.YtmmjhdkoccpdjaaSortB
namespace Go.Proofs.Ytmmjhdkoccpdjaa
open Go Go.RowKit Go.Shelf
attribute [local irreducible] wpStill

set_option maxRecDepth 100000 in
set_option maxHeartbeats 4000000 in
theorem stable_small (base g cap : Nat) (l : List El) (w : World) (h : Row base g cap w l) (hlen : l.length ≤ 19) :
    Calls Try.prog 118 #[.slice (some ⟨g, 0, none⟩) l.length cap, .int .i64 (l.length : Int), .func (.func 84) #[] #[]] w
      fun e w' => (∃ u, e = .returned u) ∧ Row base g cap w' (insR l).reverse ∧ Keeps (fun k => k ≠ g) w w' := by
  have HI := Lib.hid (insertion_any base g cap [] l [] w (by simpa using h) (by simp; omega))
  simp only [List.nil_append, List.append_nil, List.length_nil, Nat.zero_add] at HI
  obtain ⟨n, hn⟩ : ∃ n, l.length = n := ⟨_, rfl⟩
  rw [hn] at hlen HI ⊢
  have h1 : decide ((20 : Int) ≤ (n : Int)) = false := by simp; omega
  have h2 : decide ((20 : Int) < (n : Int)) = false := by simp; omega
  clear h hn
  go_enter Try.func118, Try.ntmps118
  go_wp2_with fail
  go_loopw [7, 8] (fun s7 s8 wr => s7 = .int .i64 0 ∧ s8 = .int .i64 20 ∧ wr = w) (fun _ _ _ => 0)
  case atStart => exact ⟨rfl, rfl, rfl⟩
  case round =>
    obtain ⟨rfl, rfl, rfl⟩ := hrel
    go_wp2_with fail
    refine HI.out.mono ?_
    rintro e w2 ⟨⟨u, rfl⟩, hrow, hk⟩
    have Hrow := Lib.hid hrow
    have Hk := Lib.hid hk
    clear hrow hk HI
    go_wp2_with fail
    go_loopw [6] (fun s6 wr' => s6 = .int .i64 20 ∧ wr' = w2) (fun _ _ => 0)
    case atStart => exact ⟨rfl, rfl⟩
    case round =>
      obtain ⟨rfl, rfl⟩ := hrel
      go_wp2
      go_end0
      exact ⟨⟨_, rfl⟩, Hrow.out, Hk.out⟩

set_option maxRecDepth 100000 in
set_option maxHeartbeats 4000000 in
theorem sorted_small (base g cap : Nat) (l : List El) (w : World) (h : Row base g cap w l) (hlen : l.length ≤ 19) :
    Calls Try.prog 83 #[.slice (some ⟨g, 0, none⟩) l.length cap, .func (.func 84) #[] #[]] w
      fun e w' => (∃ u, e = .returned u) ∧ Row base g cap w' (insR l).reverse ∧ Keeps (fun k => k ≠ g) w w' := by
  have HI := Lib.hid (stable_small base g cap l w h hlen)
  clear h
  go_enter Try.func83, Try.ntmps83
  go_wp2_with fail
  refine HI.out.mono ?_
  rintro e w2 ⟨⟨u, rfl⟩, hrow, hk⟩
  have Hrow := Lib.hid hrow
  have Hk := Lib.hid hk
  clear hrow hk HI
  go_wp2
  go_end0
  exact ⟨⟨_, rfl⟩, Hrow.out, Hk.out⟩

/-- No two neighbours have one key. -/
def NoTwin (l : List El) : Prop := ∀ (A B : List El) (x y : El), l = A ++ x :: y :: B → y.key ≠ x.key

set_option maxRecDepth 100000 in
set_option maxHeartbeats 8000000 in
theorem compact_none (base g cap : Nat) (l : List El) (w : World) (h : Row base g cap w l) (hno : NoTwin l) (hlen : l.length ≤ 4294967296) :
    Calls Try.prog 85 #[.slice (some ⟨g, 0, none⟩) l.length cap, .func (.func 86) #[] #[]] w
      fun e w' => e = .returned (.slice (some ⟨g, 0, none⟩) l.length cap) ∧ Row base g cap w' l ∧ Ext w w' := by
  have hmx : Try.prog.follows .mixedOrders = true := by kernel_rfl
  have H := Lib.hid h; clear h
  have Hno := Lib.hid hno; clear hno
  obtain ⟨n, hn⟩ : ∃ n, l.length = n := ⟨_, rfl⟩
  rw [hn] at hlen ⊢
  have Hn := Lib.hid hn; clear hn
  by_cases h2 : n < 2
  · have h2' : decide ((n : Int) < 2) = true := by simp; omega
    go_enter Try.func85, Try.ntmps85
    go_wp2
    go_ret
    exact ⟨rfl, H.out, Ext.refl _⟩
  · have h2' : decide ((n : Int) < 2) = false := by simp; omega
    go_enter Try.func85, Try.ntmps85
    go_wp2_with fail
    go_loopw [5] (fun s5 wr => ∃ i : Nat, s5 = .int .i64 (i : Int) ∧ 1 ≤ i ∧ i ≤ n ∧ Row base g cap wr l ∧ Ext w wr) (fun s5 _ => n - (intOf s5).toNat)
    case atStart => exact ⟨1, rfl, Nat.le_refl _, by omega, H.out, Ext.refl _⟩
    case round =>
      obtain ⟨i, rfl, hi1, hin, hrow, hx⟩ := hrel
      have HX := Lib.hid hx; clear hx
      by_cases hlt : i < n
      · obtain ⟨p, hp⟩ : ∃ p, i = p + 1 := ⟨i - 1, by omega⟩
        obtain ⟨A, x, y, B, hl⟩ : ∃ A x y B, l = A ++ x :: y :: B ∧ A.length = p := by
          have hn' := Hn.out
          refine ⟨l.take p, l[p]'(by omega), l[p + 1]'(by omega), l.drop (p + 2), ?_, by rw [List.length_take]; omega⟩
          rw [← List.drop_eq_getElem_cons, ← List.drop_eq_getElem_cons, List.take_append_drop]
        have hkey := Hno.out A B x y hl.1
        have hown := hrow.own
        rw [Hn.out] at hown
        have hokx := hrow.ok x (by rw [hl.1]; simp)
        have hoky := hrow.ok y (by rw [hl.1]; simp)
        have c1 := hown.cellAt (p * 2) (by omega)
        have c2 := hown.cellAt (p * 2 + 1) (by omega)
        have c3 := hown.cellAt ((p + 1) * 2) (by omega)
        have c4 := hown.cellAt ((p + 1) * 2 + 1) (by omega)
        have hat1 := rowOf_at A (y :: B) x
        have hat2 := rowOf_at (A ++ [x]) B y
        simp only [List.append_assoc, List.singleton_append, List.length_append, List.length_singleton] at hat2
        rw [← hl.1, hl.2] at hat1 hat2
        rw [hat1.1] at c1
        rw [hat1.2, El.pv] at c2
        rw [hat2.1] at c3
        rw [hat2.2, El.pv] at c4
        rw [← hp] at c3 c4
        have hpn : p < n := by omega
        have q1 : IntKind.i64.wrap ((i : Int) - 1) = (p : Int) := by rw [IntWalk.i64_in _ (by omega)]; omega
        have q2 : IntKind.i64.wrap ((i : Int) + 1) = ((i + 1 : Nat) : Int) := by rw [IntWalk.i64_in _ (by omega)]; rfl
        have HC := Lib.hid (eqEl_any g y x wr.drew ⟨hoky.key, hoky.off, hoky.len⟩ ⟨hokx.key, hokx.off, hokx.len⟩)
        rw [decide_eq_false hkey] at HC
        have Hrow := Lib.hid hrow
        clear hkey hown hokx hoky hat1 hat2 hl hrow hp
        go_wp2_with fail
        refine wp_region_tail 10 hmx (by decide +kernel) ?_
        simp only [List.take_succ_cons, List.take_zero, List.drop_succ_cons, List.drop_zero]
        iterate 10 still_step
        refine wpStill_nil ?_
        go_wp2_with fail
        refine HC.out.mono ?_
        rintro e w2 ⟨rfl, hx2⟩
        have hx3 : Ext wr w2 := ((Ext.refl wr).drew).trans hx2
        have Hrow2 := Lib.hid (Hrow.out.ext hx3)
        have HX2 := Lib.hid (HX.out.trans hx3)
        clear hx2 hx3 HC
        go_wp2
        go_roundw
        case rel => exact ⟨i + 1, by simp, by omega, by omega, Hrow2.out, HX2.out⟩
        case measure => simp [intOf]; omega
      · have hd : decide ((i : Int) < (n : Int)) = false := by simp; omega
        have Hrow := Lib.hid hrow; clear hrow
        go_wp2
        go_ret
        exact ⟨rfl, Hrow.out, HX.out⟩

end Go.Proofs.Ytmmjhdkoccpdjaa
