/- A call of a Go function that changes nothing, as one step of a region that draws its order. -/
import Derived.Test.YtjbmflgamogefabGreatSl
import Derived.Deep.WholeRow
import Derived.Deep.MidRow
namespace Go.Proofs.YtjbmflgamogefabGreat
open Go.RowKit

theorem step_call_same {P : Program} (w : World) {ops : Array Oper} {o : Oper} {a : Act} {K : Act → World → Prop} {Q : Exit → Act → World → Prop} {E : Prop} (hgd : o.guard = none) (f : FuncId) {fn : Func} (hfn : P.funcs[f]? = some fn) (hnm : ¬ fn.name = "runtime.NumGoroutine") (hbd : ¬ fn.body = none) (s : Operand) (t : TypeId)
    (ho : o.op = .call { callee := .value (.func f), args := #[s], argTypes := #[t] }) (v u : Value) (hs : a.eval s = v) (hc : Calls P f #[v] w fun e w' => e = .returned u ∧ w' = w) (h : K (a.put o.dst u) w) :
    if Region.wanted o (yielded ops a.tmps) = true then Oper.wp P o a w K Q else E := by
  have hw : Region.wanted o (yielded ops a.tmps) = true := by simp [Region.wanted, hgd]
  rw [if_pos hw]
  unfold Oper.wp execOp
  have hf : a.eval (.func f) = .func (.func f) #[] #[] := rfl
  simp only [ho, resolve, invoke, hf, hs, Deferred.ofValue, callFunc, Sem.run_bind, Sem.run_pure, Result.andThen_ok, List.map_toArray, List.map_cons, List.map_nil, List.append_toArray, Array.append_empty]
  simp [go_sem, hfn]
  rw [if_neg hnm, if_neg hbd]
  refine hc.mono ?_
  rintro e w' ⟨rfl, rfl⟩
  exact h

theorem wpList_store_new {P : Program} {ops : Array Oper} {rest : List Oper} {op : Oper} {a : Act} {w w0 : World} {Q : Exit → Act → World → Prop} (hgd : op.guard = none) (ty : TypeId) (x y : Operand) (ho : op.op = .store ty x y) (c c' : Array Value) (hw : w = w0.alloc (.cells c ty))
    (hx : a.eval x = .pointer (some ⟨w0.heap.size, 0, none⟩)) (hy : a.eval y = .agg c') (hi : (P.info? ty).map (·.size) = some c'.size) (hc : c.size = c'.size) (h1 : c'.all (·.oneCell') = true)
    (h : wpList P ops Q rest (a.put op.dst undef) (w0.alloc (.cells c' ty))) : wpList P ops Q (op :: rest) a w := by
  subst hw
  refine wpList_plain hgd fun _ hK => ?_
  unfold Oper.wp execOp
  simp only [ho, hx, hy, Sem.run_bind, run_storeAt_new w0 ty c c' hi hc h1, Result.andThen_ok, Sem.run_pure]
  exact hK _ _ h

def Zm : Array Value := #[.slice none 0 0, .int .i64 0, .int .i64 0, .int .i64 0, .int .i64 0, .int .i64 0, .int .i64 0, .int .i64 0, .int .i64 0, .int .i64 0, .slice none 0 0, .slice none 0 0, .int .i64 0, .slice none 0 0, .slice none 0 0, .int .i64 0, .slice none 0 0, .slice none 0 0, .int .i64 0, .slice none 0 0, .slice none 0 0, .slice none 0 0, .slice none 0 0, .slice none 0 0, .slice none 0 0]
theorem info_m : (Tryz.prog.info? 74).map (fun i => (i.zero, i.size)) = some (some (.agg Zm), 25) := by kernel_rfl
theorem size_m : (Tryz.prog.info? 74).map (·.size) = some 25 := by kernel_rfl
theorem zero_m (w : World) : (zeroValue 74).run Tryz.prog w = .ok (.agg Zm) w := (zero_of_info info_m).1 w
theorem wpList_val {P : Program} {ops : Array Oper} {rest : List Oper} {op : Oper} {a : Act} {w : World} {Q : Exit → Act → World → Prop} (hgd : op.guard = none) (v : Value) (w' : World) (hr : (execOp a.eval op).run P w = .ok (.value v) w') (h : wpList P ops Q rest (a.put op.dst v) w') : wpList P ops Q (op :: rest) a w :=
  wpList_plain hgd fun _ hK => by unfold Oper.wp; rw [hr]; exact hK _ _ h
theorem build_m (w : World) : (Instr.build 74 #[]).run Tryz.prog w = .ok (.agg Zm) w := by
  simp [Instr.build, go_sem]
  rfl
theorem alloc_m (w : World) : (Instr.alloc 74 true (.tuple #[])).run Tryz.prog w = .ok (.pointer (some ⟨w.heap.size, 0, none⟩)) (w.alloc (.cells Zm 74)) := by
  simp [Instr.alloc, go_sem]
  rfl
theorem wpList_build_m {ops : Array Oper} {rest : List Oper} {op : Oper} {a : Act} {w : World} {Q : Exit → Act → World → Prop} (hgd : op.guard = none) (ho : op.op = .build 74 #[]) (h : wpList Tryz.prog ops Q rest (a.put op.dst (.agg Zm)) w) : wpList Tryz.prog ops Q (op :: rest) a w :=
  wpList_val hgd _ _ (by simp only [execOp, ho, List.map_toArray, List.map_nil, Sem.run_bind, build_m, Result.andThen_ok, Sem.run_pure]) h
theorem wpList_alloc_m {ops : Array Oper} {rest : List Oper} {op : Oper} {a : Act} {w : World} {Q : Exit → Act → World → Prop} (hgd : op.guard = none) (ho : op.op = .alloc 74) (h : wpList Tryz.prog ops Q rest (a.put op.dst (.pointer (some ⟨w.heap.size, 0, none⟩))) (w.alloc (.cells Zm 74))) : wpList Tryz.prog ops Q (op :: rest) a w :=
  wpList_val hgd _ _ (by simp only [execOp, ho, Sem.run_bind, alloc_m, Result.andThen_ok, Sem.run_pure]) h
theorem under_m : ∃ d, Tryz.prog.underlying 74 = some d ∧ d.isRow = true := by
  have h : (Tryz.prog.underlying 74).map (·.isRow) = some true := by kernel_rfl
  obtain ⟨d, h1, h2⟩ := Option.map_eq_some_iff.1 h
  exact ⟨d, h1, h2⟩
theorem range_of {w : World} {b : Nat} {cs : Array Value} {t : TypeId} {fr : Nat × Nat} (h : w.heap[b]? = some (.cells cs t fr)) : w.rangeAt b 0 cs.toList := fun j v hv => by
  rw [Nat.zero_add, cell_of_row _ _ _ _ _ _ h]; simpa using hv
theorem wpList_load_m {ops : Array Oper} {rest : List Oper} {op : Oper} {a : Act} {w : World} {Q : Exit → Act → World → Prop} (hgd : op.guard = none) (x : Operand) (ho : op.op = .load 74 x) (b : Nat) (hx : a.eval x = .pointer (some ⟨b, 0, none⟩)) (cs : Array Value) {fr : Nat × Nat} (hb : w.heap[b]? = some (.cells cs 74 fr)) (hs : cs.size = 25) (h : wpList Tryz.prog ops Q rest (a.put op.dst (.agg cs)) w) : wpList Tryz.prog ops Q (op :: rest) a w := by
  obtain ⟨d, h1, h2⟩ := under_m
  refine wpList_load_mid hgd 74 x ho b 0 hx cs.toList d (range_of hb) h1 h2 (by rw [size_m, Array.length_toList, hs]) ?_
  rw [Array.toArray_toList]; exact h
theorem all_one {cs : Array Value} (h : ∀ (i : Nat) (v : Value), cs[i]? = some v → v.oneCell' = true) : cs.all (·.oneCell') = true := by
  rw [Array.all_eq_true_iff_forall_mem]
  intro v hv
  obtain ⟨i, hi, e⟩ := Array.mem_iff_getElem.1 hv
  exact h i v (by rw [← e]; simp [hi])
theorem set_last (w : World) (c : Array Value) (t : TypeId) (o : Nat) (v : Value) : (w.alloc (.cells c t)).setCell ⟨w.heap.size, o, none⟩ v = w.alloc (.cells (c.setIfInBounds o v) t) := by
  simp only [World.setCell, World.alloc]
  congr 1
  apply Array.ext_getElem?
  intro i
  rw [Array.getElem?_modify]
  by_cases h : w.heap.size = i
  · subst h; simp
  · have h' : ¬ i = w.heap.size := fun e => h e.symm
    simp [h, h', Array.getElem?_push]

end Go.Proofs.YtjbmflgamogefabGreat
