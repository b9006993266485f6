/- A whole struct stored into, loaded from, the block that was made last. -/
import Derived.Test.YtijcoafpbgnomaaSl
import Derived.Deep.WholeRow
import Derived.Deep.MidRow
namespace Go.Proofs.Ytijcoafpbgnomaa
open Go.RowKit

theorem wpList_store_new {P : Program} {ops : Array Oper} {rest : List Oper} {op : Oper} {a : Act} {w w0 : World} {Q : Exit → Act → World → Prop} (hgd : op.guard = none) (ty : TypeId) (x y : Operand) (ho : op.op = .store ty x y) (c c' : Array Value) (hw : w = w0.alloc (.cells c ty))
    (hx : a.eval x = .pointer (some ⟨w0.heap.size, 0, none⟩)) (hy : a.eval y = .agg c') (hi : (P.info? ty).map (·.size) = some c'.size) (hc : c.size = c'.size) (h1 : c'.all (·.oneCell') = true)
    (h : wpList P ops Q rest (a.put op.dst undef) (w0.alloc (.cells c' ty))) : wpList P ops Q (op :: rest) a w := by
  subst hw
  refine wpList_plain hgd fun _ hK => ?_
  unfold Oper.wp execOp
  simp only [ho, hx, hy, Sem.run_bind, run_storeAt_new w0 ty c c' hi hc h1, Result.andThen_ok, Sem.run_pure]
  exact hK _ _ h

end Go.Proofs.Ytijcoafpbgnomaa
