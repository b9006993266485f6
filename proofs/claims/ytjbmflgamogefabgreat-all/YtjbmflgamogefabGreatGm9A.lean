/- The code's machine: obstacle, ring, logDeadlock. -/
import Derived.Test.YtjbmflgamogefabGreatGm8
import Derived.Test.YtjbmflgamogefabGreatWzA
import Derived.Test.YtjbmflgamogefabGreatMachA
import Derived.Deep.CutRange
namespace Go.Proofs.YtjbmflgamogefabGreat
open Go.RowKit

set_option maxHeartbeats 1000000 in
theorem g_obstacle (K : GK) (Y : GY) (m : Mac) (k : Nat) (w : World) (h : GAt K w Y m) :
    Calls Tryz.prog 104 #[.pointer (some ⟨K.b, 0, none⟩), .int .i64 k] w fun e w' => e = .returned (.int .i64 (obst K.n m k)) ∧ w' = w := by
  have f0 := h.cellB.1
  have c7 := h.cellB.2.2.2.2.2
  have hk0 : decide ((k : Int) < 0) = false := by simp
  unfold obst
  by_cases hk : k < K.n
  · rw [if_pos hk]
    obtain ⟨_, _, _, _, c4, _, _, c8⟩ := h.cellT hk
    have c5 := h.cellT6 hk
    have hk1 : decide ((K.n : Int) ≤ (k : Int)) = false := by simp; omega
    by_cases hs : (m.th k).sta = 66
    · rw [if_pos hs]
      rw [hs] at c4
      have hb0 : decide (((m.th k).bat : Int) < 0) = false := by simp
      by_cases hb : (m.th k).bat < 4
      · rw [if_pos hb]
        have c9 := h.cellB.2.2.1 _ hb
        have hb1 : decide (4 ≤ ((m.th k).bat : Int)) = false := by simp; omega
        clear h hs
        generalize (m.th k).bat = l at *
        go_enter Tryz.func104, Tryz.ntmps104
        go_wp2
        go_ret
        exact ⟨rfl, rfl⟩
      · rw [if_neg hb]
        have hb1 : decide (4 ≤ ((m.th k).bat : Int)) = true := by simp; omega
        clear h hs
        generalize (m.th k).bat = l at *
        go_enter Tryz.func104, Tryz.ntmps104
        go_wp2
        go_ret
        exact ⟨rfl, rfl⟩
    · rw [if_neg hs]
      have hs1 : ((m.th k).sta != 66) = true := by simp [hs]
      clear h hs c5
      generalize (m.th k).sta = st at *
      go_enter Tryz.func104, Tryz.ntmps104
      go_wp2
      go_ret
      exact ⟨rfl, rfl⟩
  · rw [if_neg hk]
    have hk1 : decide ((K.n : Int) ≤ (k : Int)) = true := by simp; omega
    clear h
    go_enter Tryz.func104, Tryz.ntmps104
    go_wp2
    go_ret
    exact ⟨rfl, rfl⟩

def arr4 (s : Nat → Bool) : Array Value := #[.bool (s 0), .bool (s 1), .bool (s 2), .bool (s 3)]
theorem arr4_size (s : Nat → Bool) : (arr4 s).size = 4 := rfl
theorem arr4_one (s : Nat → Bool) : (arr4 s).all (·.oneCell') = true := by rw [← Array.all_toList]; rfl
theorem arr4_set (s : Nat → Bool) {p : Nat} (h : p < 4) : (arr4 s).setIfInBounds p (.bool true) = arr4 (upd s p true) := by
  match p, h with
  | 0, _ => rfl
  | 1, _ => rfl
  | 2, _ => rfl
  | 3, _ => rfl
theorem arr4_at (s : Nat → Bool) {p : Nat} (h : p < 4) : (arr4 s)[p]? = some (.bool (s p)) := by
  match p, h with
  | 0, _ => rfl
  | 1, _ => rfl
  | 2, _ => rfl
  | 3, _ => rfl
theorem size_b4 : (Tryz.prog.info? 136).map (·.size) = some 4 := by kernel_rfl
theorem under_b4 : ∃ d, Tryz.prog.underlying 136 = some d ∧ d.isRow = true := by
  have h : (Tryz.prog.underlying 136).map (·.isRow) = some true := by kernel_rfl
  obtain ⟨d, h1, h2⟩ := Option.map_eq_some_iff.1 h
  exact ⟨d, h1, h2⟩
theorem results_cell2 {fn : Func} {p u : Tmp} {ty : TypeId} (h : fn.results = #[.cell p ty, .tmp u]) (tmps : Array Value) (P : Program) (w : World) :
    (results fn tmps).run P w = ((asAddr (tmps.getD p undef)).run P w).andThen fun a w₁ => ((loadVar ty a).run P w₁).andThen fun v w₂ => .ok (.tuple #[v, tmps.getD u undef]) w₂ := by
  simp only [results, h]
  simp [Sem.run_bind, Result.andThen]
theorem ret_cell2 {fn : Func} {p u : Tmp} {ty : TypeId} (h : fn.results = #[.cell p ty, .tmp u]) {tmps : Array Value} {P : Program} {w : World} {a : Addr} (ht : tmps.getD p undef = .pointer (some a)) {v : Value} (hl : (loadVar ty a).run P w = .ok v w) {y : Value} (hy : tmps.getD u undef = y) : (results fn tmps).run P w = .ok (.tuple #[v, y]) w := by
  subst hy
  rw [results_cell2 h, ht]
  simp only [asAddr, Sem.run_pure, Result.andThen_ok, hl]
/-- The memory of ring: the answer's block, whom one met. -/
structure RAt (w wr : World) (s : Nat → Bool) : Prop where
  res : wr.heap[w.heap.size]? = some (.cells (arr4 (fun _ => false)) 136 (0, 0))
  met : wr.heap[w.heap.size + 1]? = some (.cells (arr4 s) 136 (0, 0))
  bel : Below w.heap.size w wr
theorem RAt.cells {w wr : World} {s : Nat → Bool} (h : RAt w wr s) : (∀ j, j < 4 → wr.cell? ⟨w.heap.size + 1, j, none⟩ = some (.bool (s j))) ∧ (∀ j, wr.frozen? ⟨w.heap.size + 1, j, none⟩ = false) ∧ w.heap.size + 1 < wr.heap.size :=
  ⟨fun j hj => by rw [cell_of_row _ _ _ _ _ _ h.met]; exact arr4_at s hj, frozen_row h.met, (Array.getElem?_eq_some_iff.1 h.met).1⟩
theorem RAt.set {w wr : World} {s : Nat → Bool} (h : RAt w wr s) {p : Nat} (hp : p < 4) : RAt w (wr.setCell ⟨w.heap.size + 1, p, none⟩ (.bool true)) (upd s p true) :=
  ⟨by rw [Below.heap_setCell _ _ _ _ (by simp)]; exact h.res, by rw [heap_setCell_same wr _ p _ _ _ h.met, arr4_set s hp], h.bel.setCell (by simp) _⟩
/-- The end of ring. -/
theorem RAt.fin {w wr : World} {s : Nat → Bool} (h : RAt w wr s) : wr.rangeAt (w.heap.size + 1) 0 (arr4 s).toList ∧ wr.there w.heap.size 0 (arr4 s).size ∧ (loadVar 136 ⟨w.heap.size, 0, none⟩).run Tryz.prog (wr.setCells w.heap.size 0 (arr4 s).toList) = .ok (.agg (arr4 s)) (wr.setCells w.heap.size 0 (arr4 s).toList) ∧ Below w.heap.size w (wr.setCells w.heap.size 0 (arr4 s).toList) := by
  have ht : wr.there w.heap.size 0 (arr4 s).size := fun j hj => by
    rw [Nat.zero_add]
    exact ⟨by rw [cell_of_row _ _ _ _ _ _ h.res, arr4_at _ (by simpa [arr4_size] using hj)]; rfl, frozen_row h.res _⟩
  refine ⟨range_of h.met, ht, ?_, ?_⟩
  · obtain ⟨d, h1, h2⟩ := under_b4
    have := run_loadVar_mid (P := Tryz.prog) (wr.setCells w.heap.size 0 (arr4 s).toList) w.heap.size 0 136 (arr4 s).toList d (World.rangeAt_setCells_same wr w.heap.size 0 (arr4 s).toList (by rw [Array.length_toList]; exact ht)) h1 h2 (by rw [size_b4]; rfl)
    rw [Array.toArray_toList] at this
    exact this
  · show Below w.heap.size w ((((wr.setCell _ _).setCell _ _).setCell _ _).setCell _ _)
    exact (((h.bel.setCell (Nat.le_refl _) _).setCell (Nat.le_refl _) _).setCell (Nat.le_refl _) _).setCell (Nat.le_refl _) _

set_option maxRecDepth 100000 in
set_option maxHeartbeats 2000000 in
theorem g_ring (K : GK) (Y : GY) (m : Mac) (k : Nat) (w : World) (h : GAt K w Y m) (hk : k < 4) (ho : ∀ j, obst K.n m j < 4) :
    Calls Tryz.prog 80 #[.pointer (some ⟨K.b, 0, none⟩), .int .i64 k] w fun e w' => e = .returned (.tuple #[.agg (arr4 (ringM K.n m k 4 k (fun _ => false)).1), .bool (ringM K.n m k 4 k (fun _ => false)).2]) ∧ Below w.heap.size w w' := by
  obtain ⟨R, hR0⟩ : ∃ R, ringM K.n m k 4 k (fun _ => false) = R := ⟨_, rfl⟩
  rw [hR0]
  have HO : Hid (∀ wr j, Below w.heap.size w wr → Calls Tryz.prog 104 #[.pointer (some ⟨K.b, 0, none⟩), .int .i64 (j : Nat)] wr fun e w' => e = .returned (.int .i64 (obst K.n m j)) ∧ w' = wr) := fun wr j hb => g_obstacle K Y m j wr (h.below hb)
  have HLT := hide ho
  have HST : Hid (RAt w ((w.alloc (.cells #[.bool false, .bool false, .bool false, .bool false] 136)).alloc (.cells #[.bool false, .bool false, .bool false, .bool false] 136)) (fun _ => false)) := ⟨by rw [((Below.refl (w.alloc (.cells #[.bool false, .bool false, .bool false, .bool false] 136)).heap.size _).alloc (Nat.le_refl _) _).block w.heap.size (by simp)]; exact heap_alloc_new w _, by rw [show w.heap.size + 1 = (w.alloc (.cells #[.bool false, .bool false, .bool false, .bool false] 136)).heap.size by simp]; exact heap_alloc_new _ _, ((Below.refl _ _).alloc (Nat.le_refl _) _).alloc (by simp) _⟩
  obtain ⟨d, hd⟩ := under_b4
  have HD := hide hd
  clear hd h ho
  go_enter Tryz.func80, Tryz.ntmps80
  go_wp2_with (refine wpList_store_new rfl 136 (.tmp 6) (.tmp 9) rfl #[.bool false, .bool false, .bool false, .bool false] #[.bool false, .bool false, .bool false, .bool false] rfl (by rfl) rfl size_b4 rfl (by rfl) ?_)
  generalize (w.alloc (.cells #[.bool false, .bool false, .bool false, .bool false] 136)).alloc (.cells #[.bool false, .bool false, .bool false, .bool false] 136) = wA at *
  go_loopw [7, 8] (fun a i wr => ∃ (j : Nat) (p : Int) (s : Nat → Bool), j ≤ 4 ∧ p < 4 ∧ a = .int .i64 p ∧ i = .int .i64 j ∧ RAt w wr s ∧ ringM K.n m k (4 - j) p s = R) (fun _ i _ => 4 - (intOf i).toNat)
  case atStart => exact ⟨0, k, fun _ => false, Nat.zero_le _, by omega, rfl, rfl, HST.out, hR0⟩
  case round =>
    rename_i wr
    obtain ⟨j, p, s, hj, hp, rfl, rfl, hR, hE⟩ := hrel
    have HF := hide hR.fin
    have HRR := hide hR
    obtain ⟨r0, r1, r2⟩ := hR.cells
    clear hR HST
    by_cases hlt : j < 4
    · have hlt1 : (j : Int) < 4 := by omega
      obtain ⟨i, hi⟩ : ∃ i, 4 - j = i + 1 := ⟨3 - j, by omega⟩
      rw [hi, ringM] at hE
      by_cases h0 : p < 0
      · rw [if_pos h0] at hE
        subst hE
        clear HO HLT r0 r1
        go_wp2_with (first
          | (refine wpList_load_mid rfl 136 (.tmp 6) rfl (w.heap.size + 1) 0 rfl (arr4 s).toList d HF.out.1 HD.out.1 HD.out.2 size_b4 ?_)
          | (refine wpList_store_mid rfl 136 (.tmp 4) _ rfl w.heap.size 0 _ rfl rfl HF.out.2.1 size_b4 (arr4_one s) ?_))
        refine bodyPost_ret (ret_cell2 Tryz.results80 rfl HF.out.2.2.1 rfl) rfl ?_
        exact ⟨rfl, HF.out.2.2.2⟩
      · rw [if_neg h0, if_neg (by omega)] at hE
        obtain ⟨pn, rfl⟩ : ∃ pn : Nat, p = pn := ⟨p.toNat, by omega⟩
        rw [Int.toNat_natCast] at hE
        have hpn : pn < 4 := by omega
        have q0 := r0 pn hpn
        have q1 := r1 pn
        have p0 : decide ((pn : Int) < 0) = false := by simp
        have p1 : decide (4 ≤ (pn : Int)) = false := by simp; omega
        have HS := hide (HRR.out.set hpn)
        have HC := hide (HO.out _ pn HS.out.bel)
        have HL := HLT.out pn
        clear r0 r1 HF HRR HO HLT
        generalize obst K.n m pn = ob at *
        go_wp2_with fail
        refine HC.out.mono ?_
        rintro e w' ⟨rfl, h'⟩
        replace h' := h'.symm
        subst h'
        have HF := hide HS.out.fin
        generalize upd s pn true = s2 at *
        by_cases hob : ob = (k : Int)
        · rw [if_pos hob] at hE
          subst hob
          subst hE
          have hkk : ((k : Int) == (k : Int)) = true := by simp
          clear HC
          go_wp2_with (first
            | (refine wpList_load_mid rfl 136 (.tmp 6) rfl (w.heap.size + 1) 0 rfl (arr4 s2).toList d HF.out.1 HD.out.1 HD.out.2 size_b4 ?_)
            | (refine wpList_store_mid rfl 136 (.tmp 4) _ rfl w.heap.size 0 _ rfl rfl HF.out.2.1 size_b4 (arr4_one s2) ?_))
          refine bodyPost_ret (ret_cell2 Tryz.results80 rfl HF.out.2.2.1 rfl) rfl ?_
          exact ⟨rfl, HF.out.2.2.2⟩
        · rw [if_neg hob] at hE
          have hob1 : (ob == (k : Int)) = false := by simp [hob]
          clear HF HC
          go_wp2_with fail
          go_roundw
          case rel => exact ⟨j + 1, ob, s2, by omega, HL, rfl, by go_num, HS.out, by rw [show 4 - (j + 1) = i by omega]; exact hE⟩
          case measure => simp [intOf]; omega
    · obtain rfl : j = 4 := by omega
      rw [show 4 - 4 = 0 from rfl, ringM] at hE
      subst hE
      clear HO HLT r0 r1 hlt hj
      rw [show ((4 : Nat) : Int) = 4 from rfl]
      go_wp2_with (first
        | (refine wpList_load_mid rfl 136 (.tmp 6) rfl (w.heap.size + 1) 0 rfl (arr4 s).toList d HF.out.1 HD.out.1 HD.out.2 size_b4 ?_)
        | (refine wpList_store_mid rfl 136 (.tmp 4) _ rfl w.heap.size 0 _ rfl rfl HF.out.2.1 size_b4 (arr4_one s) ?_))
      refine bodyPost_ret (ret_cell2 Tryz.results80 rfl HF.out.2.2.1 rfl) rfl ?_
      exact ⟨rfl, HF.out.2.2.2⟩

theorem index_b (s : Nat → Bool) (j : Nat) (w : World) (h : j < 4) : (Instr.index 136 (.agg (arr4 s)) (.int .i64 j)).run Tryz.prog w = .ok (.bool (s j)) w := by
  match j, h with
  | 0, _ => unfold Instr.index; simp [go_sem, arr4]
  | 1, _ => unfold Instr.index; simp [go_sem, arr4]
  | 2, _ => unfold Instr.index; simp [go_sem, arr4]
  | 3, _ => unfold Instr.index; simp [go_sem, arr4]
theorem wpList_index_b {ops : Array Oper} {rest : List Oper} {op : Oper} {a : Act} {w : World} {Q : Exit → Act → World → Prop} (hgd : op.guard = none) (x ix : Operand) (ho : op.op = .index 136 x ix) (s : Nat → Bool) (j : Nat) (hx : a.eval x = .agg (arr4 s)) (hi : a.eval ix = .int .i64 (j : Nat)) (hj : j < 4) (h : wpList Tryz.prog ops Q rest (a.put op.dst (.bool (s j))) w) : wpList Tryz.prog ops Q (op :: rest) a w :=
  wpList_val hgd _ _ (by simp only [execOp, ho, hx, hi, Sem.run_bind, index_b s j w hj, Result.andThen_ok, Sem.run_pure]) h
theorem log_nil (m : Mac) : { m with log := m.log ++ [] } = m := by simp
theorem nm_nameOf : ¬ Tryz.f28.name = "runtime.NumGoroutine" := by
  have h : (Tryz.f28.name == "runtime.NumGoroutine") = false := by kernel_rfl
  intro e; rw [e] at h; simp at h
theorem bd_nameOf : ¬ Tryz.f28.body = none := by
  have h : Tryz.f28.body.isNone = false := by kernel_rfl
  intro e; rw [e] at h; simp at h
theorem step_nameOf (w : World) {ops : Array Oper} {o : Oper} {a : Act} {K : Act → World → Prop} {Q : Exit → Act → World → Prop} {E : Prop} (hgd : o.guard = none) (s : Operand)
    (ho : o.op = .call { callee := .value (.func 28), args := #[s], argTypes := #[3] }) (v u : Value) (hs : a.eval s = v) (hc : Calls Tryz.prog 28 #[v] w fun e w' => e = .returned u ∧ w' = w) (h : K (a.put o.dst u) w) :
    if Region.wanted o (yielded ops a.tmps) = true then Oper.wp Tryz.prog o a w K Q else E :=
  step_call_same (P := Tryz.prog) (fn := Tryz.f28) w hgd 28 Tryz.func28 nm_nameOf bd_nameOf s 3 ho v u hs hc h

set_option maxRecDepth 100000 in
set_option maxHeartbeats 2000000 in
theorem g_logNo (K : GK) (Y : GY) (m : Mac) (k q : Nat) (w : World) (h : GAt K w Y m) (hk : k < 4) (ho : ∀ j, obst K.n m j < 4) (hr : (ringM K.n m k 4 k (fun _ => false)).2 = false) :
    Calls Tryz.prog 64 #[.pointer (some ⟨K.b, 0, none⟩), .int .i64 k, .int .i64 q] w fun e w' => e = .returned (.tuple #[]) ∧ Went K Y w w' m := by
  have HR := hide (g_ring K Y m k w h hk ho)
  have HG := hide h
  rw [hr] at HR
  generalize (ringM K.n m k 4 k (fun _ => false)).1 = s at *
  clear h ho hr
  go_enter Tryz.func64, Tryz.ntmps64
  go_wp2_with fail
  refine HR.out.mono ?_
  rintro e w1 ⟨rfl, hb⟩
  have HB : Hid (Below w.heap.size w (w1.alloc (.cells (arr4 s) 136))) := hb.alloc hb.size _
  clear hb HR
  go_wp2_with (refine wpList_store_new rfl 136 (.tmp 6) (.tmp 14) rfl #[.bool false, .bool false, .bool false, .bool false] (arr4 s) rfl rfl rfl size_b4 rfl (arr4_one s) ?_)
  refine bodyPost_ret (results_none (by rfl) _ _ _) rfl ?_
  exact ⟨rfl, Y, HG.out.below HB.out, GFr.of_below HB.out⟩

set_option maxRecDepth 100000 in
set_option maxHeartbeats 4000000 in
theorem g_logYes (K : GK) (Y : GY) (m : Mac) (k q : Nat) (w : World) (h : GAt K w Y m) (hk : k < 4) (hq : q < 1000) (hlog : m.log.length ≤ 100000) (ho : ∀ j, obst K.n m j < 4) (s : Nat → Bool) (hr : ringM K.n m k 4 k (fun _ => false) = (s, true)) (L : List Int) (hL : m.log ++ [48 + (q : Int) / 10 % 10] ++ [48 + (q : Int) % 10] ++ [58] = L) :
    Calls Tryz.prog 64 #[.pointer (some ⟨K.b, 0, none⟩), .int .i64 k, .int .i64 q] w fun e w' => e = .returned (.tuple #[]) ∧ Went K Y w w' { m with log := L ++ namesM s 4 ++ [32] } := by
  have HR := hide (g_ring K Y m k w h hk ho)
  have HG := hide h
  rw [hr] at HR
  clear h ho hr
  have HL1 : Hid (m.log.length ≤ 1000000) := by unfold Hid; omega
  have HL2 : Hid ((m.log ++ [48 + (q : Int) / 10 % 10]).length ≤ 1000000) := by unfold Hid; rw [List.length_append, List.length_singleton]; omega
  have HL3 : Hid ((m.log ++ [48 + (q : Int) / 10 % 10] ++ [48 + (q : Int) % 10]).length ≤ 1000000) := by unfold Hid; rw [List.length_append, List.length_append, List.length_singleton, List.length_singleton]; omega
  have HL4 : Hid (∀ j, j ≤ 4 → (L ++ namesM s j).length ≤ 1000000) := fun j hj => by
    have h1 := names_len s j
    rw [← hL]
    simp only [List.length_append, List.length_singleton]
    omega
  obtain ⟨i0, hi0, hz0, hz1, hz2⟩ := info_parts info_u8
  obtain ⟨d, hd⟩ := under_b4
  have HD := hide hd
  clear hd
  have g1 : ((q : Int)).tdiv 10 = (q : Int) / 10 := Int.tdiv_eq_ediv_of_nonneg (by omega)
  have g2 : ((q : Int) / 10).tmod 10 = (q : Int) / 10 % 10 := Int.tmod_eq_emod_of_nonneg (by omega)
  have g3 : ((q : Int)).tmod 10 = (q : Int) % 10 := Int.tmod_eq_emod_of_nonneg (by omega)
  go_enter Tryz.func64, Tryz.ntmps64
  go_wp2_with fail
  refine HR.out.mono ?_
  rintro e wq ⟨rfl, hb⟩
  have HB : Hid (Below w.heap.size w (wq.alloc (.cells (arr4 s) 136))) := hb.alloc hb.size _
  have hbl : Below w.heap.size w wq := hb
  have HA := hide (HG.out.below HB.out)
  have HOWN : Hid (GOwn K Y (wq.alloc (.cells (arr4 s) 136)) wq.heap.size) := (HG.out.below hb).own_new _
  have HROW := hide (heap_alloc_new wq (.cells (arr4 s) 136))
  obtain ⟨s1, c1, f1, p1, s2⟩ := app_byte HA.out (i := 11) (by decide) (putL_log m (m.log ++ [48 + (q : Int) / 10 % 10]))
  rw [show gpos 11 = 24 from rfl] at c1 f1
  have P1 := hide (app_b HA.out (i := 11) (p := 24) rfl (by decide) rfl (putL_log m (m.log ++ [48 + (q : Int) / 10 % 10])))
  clear hb hbl HR HG s1 s2
  go_upto_region 1 with (refine wpList_store_new rfl 136 (.tmp 6) (.tmp 14) rfl #[.bool false, .bool false, .bool false, .bool false] (arr4 s) rfl rfl rfl size_b4 rfl (arr4_one s) ?_)
  generalize wq.alloc (.cells (arr4 s) 136) = wB at *
  go_upto_region 5 with (first
    | (at_builtin; first
      | (refine wpList_append_sb _ rfl _ _ 72 rfl i0 under_u8 hi0 hz0 hz1 hz2 (Y.val 11) m.log (Y.blk 11) rfl (P1.out.at_ _ ((Below.refl _ _).alloc (Nat.le_refl _) _)) ⟨_, 0, none⟩ 1 (48 + (q : Int) / 10 % 10) rfl (one_atG rfl) HL1.out ?_; intro v1 w1 g1 ha hgr hfr; obtain ⟨ao1, n1, cp1, rfl⟩ := ha.slice'; obtain ⟨Y1, a1, b1, e1, y10, y11⟩ := P1.out.fin _ w1 _ g1 ((Below.refl _ _).alloc (Nat.le_refl _) _) ha hgr hfr; have P2 := hide (app_b a1 (i := 11) (p := 24) e1 (by decide) rfl (putL_log _ (m.log ++ [48 + (q : Int) / 10 % 10] ++ [48 + (q : Int) % 10]))); have B1 := hide b1; have z1 := a1.cellB.2.2.2.2.2; clear ha hgr hfr a1 b1 e1)
      | (refine wpList_append_sb _ rfl _ _ 72 rfl i0 under_u8 hi0 hz0 hz1 hz2 _ (m.log ++ [48 + (q : Int) / 10 % 10]) (Y1.blk 11) rfl (P2.out.at_ _ ((Below.refl _ _).alloc (Nat.le_refl _) _)) ⟨_, 0, none⟩ 1 (48 + (q : Int) % 10) rfl (one_atG (by simp [World.setCell])) HL2.out ?_; intro v2 w2 g2 ha hgr hfr; obtain ⟨ao2, n2, cp2, rfl⟩ := ha.slice'; obtain ⟨Y2, a2, b2, e2, y20, y21⟩ := P2.out.fin _ w2 _ g2 ((Below.refl _ _).alloc (Nat.le_refl _) _) ha hgr hfr; have P3 := hide (app_b a2 (i := 11) (p := 24) e2 (by decide) rfl (putL_log _ (m.log ++ [48 + (q : Int) / 10 % 10] ++ [48 + (q : Int) % 10] ++ [58]))); have B2 := hide (B1.out.trans b2); have z2 := a2.cellB.2.2.2.2.2; clear ha hgr hfr a2 b2 e2)
      | (refine wpList_append_sb _ rfl _ _ 72 rfl i0 under_u8 hi0 hz0 hz1 hz2 _ (m.log ++ [48 + (q : Int) / 10 % 10] ++ [48 + (q : Int) % 10]) (Y2.blk 11) rfl (P3.out.at_ _ ((Below.refl _ _).alloc (Nat.le_refl _) _)) ⟨_, 0, none⟩ 1 58 rfl (one_atG (by simp [World.setCell])) HL3.out ?_; intro v3 w3 g3 ha hgr hfr; obtain ⟨ao3, n3, cp3, rfl⟩ := ha.slice'; obtain ⟨Y3, a3, b3, e3, y30, y31⟩ := P3.out.fin _ w3 _ g3 ((Below.refl _ _).alloc (Nat.le_refl _) _) ha hgr hfr; have A3 := hide a3; have B3 := hide (B2.out.trans b3); have RW := hide (range_of ((HOWN.out.step B3.out).2.trans HROW.out)); clear ha hgr hfr a3 b3 e3)))
  rw [hL] at A3
  generalize w3.setCell ⟨K.b, 24, none⟩ (.slice ao3 n3 cp3) = w5 at *
  clear y10 y11 z1 y20 y21 z2 y30 y31 P1 P2 P3 B1 B2 HROW HOWN HA HL1 HL2 HL3 c1 f1 p1 hL
  go_wp2_with (refine wpList_load_mid rfl 136 (.tmp 6) rfl wq.heap.size 0 rfl (arr4 s).toList d RW.out HD.out.1 HD.out.2 size_b4 ?_)
  go_loopw [55] (fun a wr => ∃ (j : Nat) (Yj : GY), j ≤ 4 ∧ a = .int .i64 j ∧ GAt K wr Yj { m with log := L ++ namesM s j } ∧ GFr K Y3 Yj w5 wr) (fun a _ => 4 - (intOf a).toNat)
  case atStart => exact ⟨0, Y3, Nat.zero_le _, rfl, by rw [namesM, List.append_nil]; exact A3.out, GFr.of_below (Below.refl _ _)⟩
  case round =>
    rename_i wr
    obtain ⟨j, Yj, hj, rfl, hA, hF⟩ := hrel
    have AJ := hide hA
    have FJ := hide hF
    clear hA hF RW A3
    by_cases hlt : j < 4
    · have hlt1 : (j : Int) < 4 := by omega
      obtain ⟨s1, c1, f1, p1, s2⟩ := app_byte AJ.out (i := 11) (by decide) (putL_log { m with log := L ++ namesM s j } (L ++ namesM s j ++ [48 + (j : Int)]))
      rw [show gpos 11 = 24 from rfl] at c1 f1
      have P1 := hide (app_b AJ.out (i := 11) (p := 24) rfl (by decide) rfl (putL_log { m with log := L ++ namesM s j } (L ++ namesM s j ++ [48 + (j : Int)])))
      have HL5 := hide (HL4.out j hj)
      clear s1 s2
      cases hs : s j with
      | false =>
        have HN : Hid (namesM s (j + 1) = namesM s j) := by simp [Hid, namesM, hs]
        clear P1 HL5 c1 f1 p1 HL4
        go_wp2_with (refine wpList_index_b rfl (.tmp 54) (.tmp 55) rfl s j rfl rfl hlt ?_)
        go_roundw
        case rel => exact ⟨j + 1, Yj, by omega, by go_num, by rw [HN.out]; exact AJ.out, FJ.out⟩
        case measure => simp [intOf]; omega
      | true =>
        have HN : Hid (L ++ namesM s (j + 1) = L ++ namesM s j ++ [48 + (j : Int)]) := by simp [Hid, namesM, hs]
        clear HL4
        go_wp2_with (refine wpList_index_b rfl (.tmp 54) (.tmp 55) rfl s j rfl rfl hlt ?_)
        go_region_law
          (first
            | (refine step_nameOf _ rfl (.tmp 65) rfl (.int .i64 j) (.int .u8 (48 + (j : Int))) rfl (g_nameOf j _ hlt) ?_)
            | (refine step_append_sb _ rfl (.tmp 64) (.tmp 67) 72 rfl i0 under_u8 hi0 hz0 hz1 hz2 (Yj.val 11) (L ++ namesM s j) (Yj.blk 11) rfl (P1.out.at_ _ (by first | exact keep_ad | exact keep_drew)) ⟨wr.heap.size, 0, none⟩ 1 (48 + (j : Int)) rfl (by exact one_atG rfl) HL5.out ?_; intro v1 w4 g1 ha hgr hfr; obtain ⟨ao1, n1, cp1, rfl⟩ := ha.slice'; obtain ⟨Y2, a2, b2, e2, y10, y11⟩ := P1.out.fin _ w4 _ g1 keep_ad ha hgr hfr; have A2 := hide a2; have B2 := hide (FJ.out.trans b2); clear ha hgr hfr a2 b2 e2))
        all_goals
          go_wp2_with fail
          go_roundw
          case rel => exact ⟨j + 1, Y2, by omega, by go_num, by rw [HN.out]; exact A2.out, B2.out⟩
          case measure => simp [intOf]; omega
    · obtain rfl : j = 4 := by omega
      rw [show ((4 : Nat) : Int) = 4 from rfl]
      obtain ⟨s1, c1, f1, p1, s2⟩ := app_byte AJ.out (i := 11) (by decide) (putL_log { m with log := L ++ namesM s 4 } (L ++ namesM s 4 ++ [32]))
      rw [show gpos 11 = 24 from rfl] at c1 f1
      have P1 := hide (app_b AJ.out (i := 11) (p := 24) rfl (by decide) rfl (putL_log { m with log := L ++ namesM s 4 } (L ++ namesM s 4 ++ [32])))
      have HL5 := hide (HL4.out 4 (Nat.le_refl _))
      clear s1 s2 hlt hj HL4
      go_wp2_with (at_builtin; refine wpList_append_sb _ rfl _ _ 72 rfl i0 under_u8 hi0 hz0 hz1 hz2 (Yj.val 11) (L ++ namesM s 4) (Yj.blk 11) rfl (P1.out.at_ _ ((Below.refl _ _).alloc (Nat.le_refl _) _)) ⟨_, 0, none⟩ 1 32 rfl (one_atG rfl) HL5.out ?_; intro v1 w4 g1 ha hgr hfr; obtain ⟨ao1, n1, cp1, rfl⟩ := ha.slice'; obtain ⟨Y2, a2, b2, e2, y10, y11⟩ := P1.out.fin _ w4 _ g1 ((Below.refl _ _).alloc (Nat.le_refl _) _) ha hgr hfr; have A2 := hide a2; have B2 := hide (FJ.out.trans b2); clear ha hgr hfr a2 b2 e2)
      go_end0
      rw [List.append_assoc] at A2
      exact ⟨rfl, Y2, A2.out, (GFr.of_below HB.out).trans (B3.out.trans B2.out)⟩

set_option maxRecDepth 100000 in
theorem g_logDeadlock (K : GK) (Y : GY) (m : Mac) (k q : Nat) (w : World) (h : GAt K w Y m) (hk : k < 4) (hq : q < 1000) (hlog : m.log.length ≤ 100000) (ho : ∀ j, obst K.n m j < 4) :
    Calls Tryz.prog 64 #[.pointer (some ⟨K.b, 0, none⟩), .int .i64 k, .int .i64 q] w fun e w' => e = .returned (.tuple #[]) ∧ Went K Y w w' { m with log := m.log ++ entM K.n m k q } := by
  cases hr : (ringM K.n m k 4 k (fun _ => false)).2 with
  | false =>
    unfold entM
    rw [hr, if_neg (by simp), log_nil]
    exact g_logNo K Y m k q w h hk ho hr
  | true =>
    have e : m.log ++ entM K.n m k q = m.log ++ [48 + (q : Int) / 10 % 10] ++ [48 + (q : Int) % 10] ++ [58] ++ namesM (ringM K.n m k 4 k (fun _ => false)).1 4 ++ [32] := by
      unfold entM
      rw [hr, if_pos rfl]
      simp
    rw [e]
    exact g_logYes K Y m k q w h hk hq hlog ho _ (by rw [← hr]) _ rfl

end Go.Proofs.YtjbmflgamogefabGreat
