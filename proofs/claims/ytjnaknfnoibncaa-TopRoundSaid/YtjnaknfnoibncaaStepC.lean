/- A call at a step of a region that draws its order, for go_region_law. Conditions: none. -/
import Derived.Test.YtjnaknfnoibncaaBaseM
import Derived.Deep.RegionLaw
namespace Go.Proofs.Ytjnaknfnoibncaa
open Go Go.RowKit Go.Shelf

theorem step_call {P : Program} {w : World} {ops : Array Oper} {o : Oper} {a : Act} {K : Act → World → Prop} {Q : Exit → Act → World → Prop} {E : Prop} (hgd : o.guard = none) (gf : Nat) (ops2 : Array Operand) (tys : Array TypeId)
    (ho : o.op = .call { callee := .value (.func gf), args := ops2, argTypes := tys }) (vals : Array Value) (hv : ops2.map a.eval = vals) (eg : ∀ args w, (callFunc gf args).run P w = .ok (.enter gf args) w)
    (h : Calls P gf vals w fun e w' => ∃ v, e = .returned v ∧ K (a.put o.dst v) w') :
    if Region.wanted o (yielded ops a.tmps) = true then Oper.wp P o a w K Q else E := by
  have hw : Region.wanted o (yielded ops a.tmps) = true := by simp [Region.wanted, hgd]
  rw [if_pos hw]
  unfold Oper.wp execOp
  simp only [ho]
  have hr : (resolve a.eval { callee := Callee.value (Operand.func gf), args := ops2, argTypes := tys } o.type).run P w = .ok ⟨.fn (.func gf) #[], vals⟩ w := by
    simp [resolve, hv, Act.eval, Deferred.ofValue]
  simp only [Sem.run_bind, hr, Result.andThen_ok, invoke, Array.append_empty, eg]
  unfold Oper.upon
  exact h.mono fun e w' ⟨v, e1, hk⟩ => by subst e1; exact hk
end Go.Proofs.Ytjnaknfnoibncaa
