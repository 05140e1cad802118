/- A state by value, as an argument: opened and shut. Conditions: none. -/
import Derived.Test.YtjnaknfnoibncaaSipE
import Derived.WalkKit
import Derived.OpenShut
import Derived.ChangeOld
import Derived.WideKeyArr2
import Derived.Lib.SmallJoins
namespace Go.Proofs.Ytjnaknfnoibncaa
open Go Go.RowKit Go.Shelf
open Go.ChangeShapes Go.WideShapes

def St.lit (s : St) : Value := .agg #[.int .u64 (s.a : Int), .int .u64 (s.b : Int), .int .u64 (s.c : Int), .int .u64 (s.d : Int)]
theorem St.agg_lit (s : St) : s.agg = s.lit := rfl
theorem encU_at {l : List Nat} {k x : Nat} (h : l[k]? = some x) : (encU l)[k]? = some (.int .u64 (x : Int)) := by simp [encU, h]
theorem wf_u8 {n : Int} (h : (Lit.int .u8 n).wf = true) : ∃ m : Nat, n = m ∧ m < 256 := by
  simp [Lit.wf, IntKind.min, IntKind.max, IntKind.bits, IntKind.signed] at h
  exact ⟨n.toNat, by omega, by omega⟩
theorem wf_i64 {n : Int} (h : (Lit.int .i64 n).wf = true) : -9223372036854775808 ≤ n ∧ n ≤ 9223372036854775807 := by
  simp [Lit.wf, IntKind.min, IntKind.max, IntKind.bits, IntKind.signed] at h
  omega
/-- A state's datum. -/
def fourD {H : Type} (s : St) : DataW H := .agg [.lit (.int .u64 (s.a : Int)), .lit (.int .u64 (s.b : Int)), .lit (.int .u64 (s.c : Int)), .lit (.int .u64 (s.d : Int))]
theorem wf_u64 {n : Int} (h : (Lit.int .u64 n).wf = true) : 0 ≤ n ∧ n < 18446744073709551616 := by
  simp [Lit.wf, IntKind.min, IntKind.max, IntKind.bits, IntKind.signed] at h
  omega
theorem wf_u64_mk {n : Nat} (h : n < 18446744073709551616) : (Lit.int .u64 (n : Int)).wf = true := by
  simp [Lit.wf, IntKind.min, IntKind.max, IntKind.bits, IntKind.signed]
  omega
section
variable {H : Type} {enc : TypeId × Value → H} {P : Program} {w : World} {base : Nat} {spare : Nat → Bool} {held : Bool}
theorem open_four {r : Reach} {b0 : Nat} {t e : TypeId} {v : Value} {d : DataW H} {p : List MemPlace} (hu : P.underlying t = some (.array 4 e)) (he : P.underlying e = some (.int .u64)) (hC : P.cellsOf e = 1) (hCt : P.cellsOf t = 4)
    (hv : Value.okWide P w r b0 t v) (h : DataW.Trod enc P w base spare held t v d p) : ∃ s : St, v = s.lit ∧ d = fourD s ∧ p = [] ∧ s.ok := by
  simp only [Value.okWide, hu] at hv
  obtain ⟨cs, rfl, hsz, _⟩ := hv
  rw [hCt] at hsz
  obtain ⟨c0, c1, c2, c3, rfl⟩ := Joins.array4 hsz
  obtain ⟨fuel, hf⟩ := h
  cases fuel with
  | zero => simp [DataW.trod] at hf
  | succ m =>
    rw [DataW.trod_step] at hf
    unfold DataW.trodStep at hf
    simp only [hu, Value.cells] at hf
    rw [if_pos (by rw [hCt]; rfl)] at hf
    simp only [Option.map_eq_some_iff] at hf
    obtain ⟨ys, hy, e1⟩ := hf
    rw [show List.range 4 = [0, 1, 2, 3] from rfl, hC] at hy
    simp only [List.mapM_cons, List.mapM_nil, bind, Option.bind_eq_some_iff, pure, Option.some.injEq] at hy
    obtain ⟨y0, h0, r0, ⟨y1, h1, r1, ⟨y2, h2, r2, ⟨y3, h3, r3, hr3, hr2⟩, hr1⟩, hr0⟩, hys⟩ := hy
    obtain ⟨n0, g0, k0, w0⟩ := DataW.trod_int he h0
    obtain ⟨n1, g1, k1, w1⟩ := DataW.trod_int he h1
    obtain ⟨n2, g2, k2, w2⟩ := DataW.trod_int he h2
    obtain ⟨n3, g3, k3, w3⟩ := DataW.trod_int he h3
    simp at g0 g1 g2 g3
    subst g0 g1 g2 g3 k0 k1 k2 k3
    have b0 := wf_u64 w0
    have b1 := wf_u64 w1
    have b2 := wf_u64 w2
    have b3 := wf_u64 w3
    obtain ⟨x0, rfl⟩ := Int.eq_ofNat_of_zero_le b0.1
    obtain ⟨x1, rfl⟩ := Int.eq_ofNat_of_zero_le b1.1
    obtain ⟨x2, rfl⟩ := Int.eq_ofNat_of_zero_le b2.1
    obtain ⟨x3, rfl⟩ := Int.eq_ofNat_of_zero_le b3.1
    subst hr3 hr2 hr1 hr0 hys
    simp only [Prod.mk.injEq] at e1
    refine ⟨⟨x0, x1, x2, x3⟩, rfl, by rw [← e1.1]; rfl, by rw [← e1.2]; rfl, ⟨by show x0 < _; omega, by show x1 < _; omega, by show x2 < _; omega, by show x3 < _; omega⟩⟩
theorem shut_four {t e : TypeId} {s : St} (hu : P.underlying t = some (.array 4 e)) (he : P.underlying e = some (.int .u64)) (hC : P.cellsOf e = 1) (hCt : P.cellsOf t = 4) (hs : s.ok) :
    DataW.Trod enc P w base spare held t s.lit (fourD s) [] := by
  refine ⟨2, ?_⟩
  have h : ∀ n : Nat, n < 18446744073709551616 → DataW.trod enc P w base spare held 1 e [.int .u64 (n : Int)] = some (.lit (.int .u64 (n : Int)), []) := fun n hn => by
    have := wf_u64_mk hn
    simp [DataW.trod, he, this]
  rw [DataW.trod_step]
  unfold DataW.trodStep
  simp only [hu, Value.cells, St.lit]
  rw [if_pos (by rw [hCt]; rfl), show List.range 4 = [0, 1, 2, 3] from rfl, hC]
  simp [List.mapM_cons, h _ hs.a, h _ hs.b, h _ hs.c, h _ hs.d, fourD]
end
end Go.Proofs.Ytjnaknfnoibncaa
