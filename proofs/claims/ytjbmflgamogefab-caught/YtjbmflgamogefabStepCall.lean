/- A call of a Go function that changes nothing, as one step of a region that draws its order. -/
import Derived.Test.YtjbmflgamogefabSl
namespace Go.Proofs.Ytjbmflgamogefab
open Go.RowKit

theorem step_call_same {P : Program} (w : World) {ops : Array Oper} {o : Oper} {a : Act} {K : Act → World → Prop} {Q : Exit → Act → World → Prop} {E : Prop} (hgd : o.guard = none) (f : FuncId) {fn : Func} (hfn : P.funcs[f]? = some fn) (hnm : ¬ fn.name = "runtime.NumGoroutine") (hbd : ¬ fn.body = none) (s : Operand) (t : TypeId)
    (ho : o.op = .call { callee := .value (.func f), args := #[s], argTypes := #[t] }) (v u : Value) (hs : a.eval s = v) (hc : Calls P f #[v] w fun e w' => e = .returned u ∧ w' = w) (h : K (a.put o.dst u) w) :
    if Region.wanted o (yielded ops a.tmps) = true then Oper.wp P o a w K Q else E := by
  have hw : Region.wanted o (yielded ops a.tmps) = true := by simp [Region.wanted, hgd]
  rw [if_pos hw]
  unfold Oper.wp execOp
  have hf : a.eval (.func f) = .func (.func f) #[] #[] := rfl
  simp only [ho, resolve, invoke, hf, hs, Deferred.ofValue, callFunc, Sem.run_bind, Sem.run_pure, Result.andThen_ok, List.map_toArray, List.map_cons, List.map_nil, List.append_toArray, Array.append_empty]
  simp [go_sem, hfn]
  rw [if_neg hnm, if_neg hbd]
  refine hc.mono ?_
  rintro e w' ⟨rfl, rfl⟩
  exact h

end Go.Proofs.Ytjbmflgamogefab
