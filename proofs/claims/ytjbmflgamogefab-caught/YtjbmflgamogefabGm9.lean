/- The code's machine: obstacle, ring, logDeadlock. -/
import Derived.Test.YtjbmflgamogefabGm8
import Derived.Test.YtjbmflgamogefabWz
import Derived.Test.YtjbmflgamogefabStepCall
namespace Go.Proofs.Ytjbmflgamogefab
open Go.RowKit

set_option maxHeartbeats 1000000 in
theorem g_obstacle (K : GK) (Y : GY) (m : Mac) (k : Nat) (w : World) (h : GAt K w Y m) :
    Calls Try.prog 73 #[.pointer (some ⟨K.b, 0, none⟩), .int .i64 k] w fun e w' => e = .returned (.int .i64 (obst K.n m k)) ∧ w' = w := by
  have f0 := h.cellB.1
  have c7 := h.cellB.2.2.2.2.2
  have hk0 : decide ((k : Int) < 0) = false := by simp
  unfold obst
  by_cases hk : k < K.n
  · rw [if_pos hk]
    obtain ⟨_, _, _, _, c4, _, _, c8⟩ := h.cellT hk
    have c5 := h.cellT6 hk
    have hk1 : decide ((K.n : Int) ≤ (k : Int)) = false := by simp; omega
    by_cases hs : (m.th k).sta = 66
    · rw [if_pos hs]
      rw [hs] at c4
      have hb0 : decide (((m.th k).bat : Int) < 0) = false := by simp
      by_cases hb : (m.th k).bat < 4
      · rw [if_pos hb]
        have c9 := h.cellB.2.2.1 _ hb
        have hb1 : decide (4 ≤ ((m.th k).bat : Int)) = false := by simp; omega
        clear h hs
        generalize (m.th k).bat = l at *
        go_enter Try.func73, Try.ntmps73
        go_wp2
        go_ret
        exact ⟨rfl, rfl⟩
      · rw [if_neg hb]
        have hb1 : decide (4 ≤ ((m.th k).bat : Int)) = true := by simp; omega
        clear h hs
        generalize (m.th k).bat = l at *
        go_enter Try.func73, Try.ntmps73
        go_wp2
        go_ret
        exact ⟨rfl, rfl⟩
    · rw [if_neg hs]
      have hs1 : ((m.th k).sta != 66) = true := by simp [hs]
      clear h hs c5
      generalize (m.th k).sta = st at *
      go_enter Try.func73, Try.ntmps73
      go_wp2
      go_ret
      exact ⟨rfl, rfl⟩
  · rw [if_neg hk]
    have hk1 : decide ((K.n : Int) ≤ (k : Int)) = true := by simp; omega
    clear h
    go_enter Try.func73, Try.ntmps73
    go_wp2
    go_ret
    exact ⟨rfl, rfl⟩

def arr4 (s : Nat → Bool) : Array Value := #[.bool (s 0), .bool (s 1), .bool (s 2), .bool (s 3)]
theorem arr4_size (s : Nat → Bool) : (arr4 s).size = 4 := rfl
theorem arr4_one (s : Nat → Bool) : (arr4 s).all (·.oneCell') = true := by rw [← Array.all_toList]; rfl
theorem arr4_set (s : Nat → Bool) {p : Nat} (h : p < 4) : (arr4 s).setIfInBounds p (.bool true) = arr4 (upd s p true) := by
  match p, h with
  | 0, _ => rfl
  | 1, _ => rfl
  | 2, _ => rfl
  | 3, _ => rfl
theorem arr4_at (s : Nat → Bool) {p : Nat} (h : p < 4) : (arr4 s)[p]? = some (.bool (s p)) := by
  match p, h with
  | 0, _ => rfl
  | 1, _ => rfl
  | 2, _ => rfl
  | 3, _ => rfl
theorem size_b4 : (Try.prog.info? 105).map (·.size) = some 4 := by kernel_rfl
theorem under_b4 : ∃ d, Try.prog.underlying 105 = some d ∧ d.isRow = true := by
  have h : (Try.prog.underlying 105).map (·.isRow) = some true := by kernel_rfl
  obtain ⟨d, h1, h2⟩ := Option.map_eq_some_iff.1 h
  exact ⟨d, h1, h2⟩
theorem results_cell2 {fn : Func} {p u : Tmp} {ty : TypeId} (h : fn.results = #[.cell p ty, .tmp u]) (tmps : Array Value) (P : Program) (w : World) :
    (results fn tmps).run P w = ((asAddr (tmps.getD p undef)).run P w).andThen fun a w₁ => ((loadVar ty a).run P w₁).andThen fun v w₂ => .ok (.tuple #[v, tmps.getD u undef]) w₂ := by
  simp only [results, h]
  simp [Sem.run_bind, Result.andThen]
theorem ret_cell2 {fn : Func} {p u : Tmp} {ty : TypeId} (h : fn.results = #[.cell p ty, .tmp u]) {tmps : Array Value} {P : Program} {w : World} {a : Addr} (ht : tmps.getD p undef = .pointer (some a)) {v : Value} (hl : (loadVar ty a).run P w = .ok v w) {y : Value} (hy : tmps.getD u undef = y) : (results fn tmps).run P w = .ok (.tuple #[v, y]) w := by
  subst hy
  rw [results_cell2 h, ht]
  simp only [asAddr, Sem.run_pure, Result.andThen_ok, hl]
/-- The memory of ring: the answer's block, whom one met. -/
structure RAt (w wr : World) (s : Nat → Bool) : Prop where
  res : wr.heap[w.heap.size]? = some (.cells (arr4 (fun _ => false)) 105 (0, 0))
  met : wr.heap[w.heap.size + 1]? = some (.cells (arr4 s) 105 (0, 0))
  bel : Below w.heap.size w wr
theorem RAt.cells {w wr : World} {s : Nat → Bool} (h : RAt w wr s) : (∀ j, j < 4 → wr.cell? ⟨w.heap.size + 1, j, none⟩ = some (.bool (s j))) ∧ (∀ j, wr.frozen? ⟨w.heap.size + 1, j, none⟩ = false) ∧ w.heap.size + 1 < wr.heap.size :=
  ⟨fun j hj => by rw [cell_of_row _ _ _ _ _ _ h.met]; exact arr4_at s hj, frozen_row h.met, (Array.getElem?_eq_some_iff.1 h.met).1⟩
theorem RAt.set {w wr : World} {s : Nat → Bool} (h : RAt w wr s) {p : Nat} (hp : p < 4) : RAt w (wr.setCell ⟨w.heap.size + 1, p, none⟩ (.bool true)) (upd s p true) :=
  ⟨by rw [Below.heap_setCell _ _ _ _ (by simp)]; exact h.res, by rw [heap_setCell_same wr _ p _ _ _ h.met, arr4_set s hp], h.bel.setCell (by simp) _⟩
/-- The end of ring. -/
theorem RAt.fin {w wr : World} {s : Nat → Bool} (h : RAt w wr s) : wr.rangeAt (w.heap.size + 1) 0 (arr4 s).toList ∧ wr.there w.heap.size 0 (arr4 s).size ∧ (loadVar 105 ⟨w.heap.size, 0, none⟩).run Try.prog (wr.setCells w.heap.size 0 (arr4 s).toList) = .ok (.agg (arr4 s)) (wr.setCells w.heap.size 0 (arr4 s).toList) ∧ Below w.heap.size w (wr.setCells w.heap.size 0 (arr4 s).toList) := by
  have ht : wr.there w.heap.size 0 (arr4 s).size := fun j hj => by
    rw [Nat.zero_add]
    exact ⟨by rw [cell_of_row _ _ _ _ _ _ h.res, arr4_at _ (by simpa [arr4_size] using hj)]; rfl, frozen_row h.res _⟩
  refine ⟨range_of h.met, ht, ?_, ?_⟩
  · obtain ⟨d, h1, h2⟩ := under_b4
    have := run_loadVar_mid (P := Try.prog) (wr.setCells w.heap.size 0 (arr4 s).toList) w.heap.size 0 105 (arr4 s).toList d (World.rangeAt_setCells_same wr w.heap.size 0 (arr4 s).toList (by rw [Array.length_toList]; exact ht)) h1 h2 (by rw [size_b4]; rfl)
    rw [Array.toArray_toList] at this
    exact this
  · show Below w.heap.size w ((((wr.setCell _ _).setCell _ _).setCell _ _).setCell _ _)
    exact (((h.bel.setCell (Nat.le_refl _) _).setCell (Nat.le_refl _) _).setCell (Nat.le_refl _) _).setCell (Nat.le_refl _) _

set_option maxRecDepth 100000 in
set_option maxHeartbeats 2000000 in
theorem g_ring (K : GK) (Y : GY) (m : Mac) (k : Nat) (w : World) (h : GAt K w Y m) (hk : k < 4) (ho : ∀ j, obst K.n m j < 4) :
    Calls Try.prog 59 #[.pointer (some ⟨K.b, 0, none⟩), .int .i64 k] w fun e w' => e = .returned (.tuple #[.agg (arr4 (ringM K.n m k 4 k (fun _ => false)).1), .bool (ringM K.n m k 4 k (fun _ => false)).2]) ∧ Below w.heap.size w w' := by
  obtain ⟨R, hR0⟩ : ∃ R, ringM K.n m k 4 k (fun _ => false) = R := ⟨_, rfl⟩
  rw [hR0]
  have HO : Hid (∀ wr j, Below w.heap.size w wr → Calls Try.prog 73 #[.pointer (some ⟨K.b, 0, none⟩), .int .i64 (j : Nat)] wr fun e w' => e = .returned (.int .i64 (obst K.n m j)) ∧ w' = wr) := fun wr j hb => g_obstacle K Y m j wr (h.below hb)
  have HLT := hide ho
  have HST : Hid (RAt w ((w.alloc (.cells #[.bool false, .bool false, .bool false, .bool false] 105)).alloc (.cells #[.bool false, .bool false, .bool false, .bool false] 105)) (fun _ => false)) := ⟨by rw [((Below.refl (w.alloc (.cells #[.bool false, .bool false, .bool false, .bool false] 105)).heap.size _).alloc (Nat.le_refl _) _).block w.heap.size (by simp)]; exact heap_alloc_new w _, by rw [show w.heap.size + 1 = (w.alloc (.cells #[.bool false, .bool false, .bool false, .bool false] 105)).heap.size by simp]; exact heap_alloc_new _ _, ((Below.refl _ _).alloc (Nat.le_refl _) _).alloc (by simp) _⟩
  obtain ⟨d, hd⟩ := under_b4
  have HD := hide hd
  clear hd h ho
  go_enter Try.func59, Try.ntmps59
  go_wp2_with (refine wpList_store_new rfl 105 (.tmp 6) (.tmp 9) rfl #[.bool false, .bool false, .bool false, .bool false] #[.bool false, .bool false, .bool false, .bool false] rfl (by rfl) rfl size_b4 rfl (by rfl) ?_)
  generalize (w.alloc (.cells #[.bool false, .bool false, .bool false, .bool false] 105)).alloc (.cells #[.bool false, .bool false, .bool false, .bool false] 105) = wA at *
  go_loopw [7, 8] (fun a i wr => ∃ (j : Nat) (p : Int) (s : Nat → Bool), j ≤ 4 ∧ p < 4 ∧ a = .int .i64 p ∧ i = .int .i64 j ∧ RAt w wr s ∧ ringM K.n m k (4 - j) p s = R) (fun _ i _ => 4 - (intOf i).toNat)
  case atStart => exact ⟨0, k, fun _ => false, Nat.zero_le _, by omega, rfl, rfl, HST.out, hR0⟩
  case round =>
    rename_i wr
    obtain ⟨j, p, s, hj, hp, rfl, rfl, hR, hE⟩ := hrel
    have HF := hide hR.fin
    have HRR := hide hR
    obtain ⟨r0, r1, r2⟩ := hR.cells
    clear hR HST
    by_cases hlt : j < 4
    · have hlt1 : (j : Int) < 4 := by omega
      obtain ⟨i, hi⟩ : ∃ i, 4 - j = i + 1 := ⟨3 - j, by omega⟩
      rw [hi, ringM] at hE
      by_cases h0 : p < 0
      · rw [if_pos h0] at hE
        subst hE
        clear HO HLT r0 r1
        go_wp2_with (first
          | (refine wpList_load_mid rfl 105 (.tmp 6) rfl (w.heap.size + 1) 0 rfl (arr4 s).toList d HF.out.1 HD.out.1 HD.out.2 size_b4 ?_)
          | (refine wpList_store_mid rfl 105 (.tmp 4) _ rfl w.heap.size 0 _ rfl rfl HF.out.2.1 size_b4 (arr4_one s) ?_))
        refine bodyPost_ret (ret_cell2 Try.results59 rfl HF.out.2.2.1 rfl) rfl ?_
        exact ⟨rfl, HF.out.2.2.2⟩
      · rw [if_neg h0, if_neg (by omega)] at hE
        obtain ⟨pn, rfl⟩ : ∃ pn : Nat, p = pn := ⟨p.toNat, by omega⟩
        rw [Int.toNat_natCast] at hE
        have hpn : pn < 4 := by omega
        have q0 := r0 pn hpn
        have q1 := r1 pn
        have p0 : decide ((pn : Int) < 0) = false := by simp
        have p1 : decide (4 ≤ (pn : Int)) = false := by simp; omega
        have HS := hide (HRR.out.set hpn)
        have HC := hide (HO.out _ pn HS.out.bel)
        have HL := HLT.out pn
        clear r0 r1 HF HRR HO HLT
        generalize obst K.n m pn = ob at *
        go_wp2_with fail
        refine HC.out.mono ?_
        rintro e w' ⟨rfl, h'⟩
        replace h' := h'.symm
        subst h'
        have HF := hide HS.out.fin
        generalize upd s pn true = s2 at *
        by_cases hob : ob = (k : Int)
        · rw [if_pos hob] at hE
          subst hob
          subst hE
          have hkk : ((k : Int) == (k : Int)) = true := by simp
          clear HC
          go_wp2_with (first
            | (refine wpList_load_mid rfl 105 (.tmp 6) rfl (w.heap.size + 1) 0 rfl (arr4 s2).toList d HF.out.1 HD.out.1 HD.out.2 size_b4 ?_)
            | (refine wpList_store_mid rfl 105 (.tmp 4) _ rfl w.heap.size 0 _ rfl rfl HF.out.2.1 size_b4 (arr4_one s2) ?_))
          refine bodyPost_ret (ret_cell2 Try.results59 rfl HF.out.2.2.1 rfl) rfl ?_
          exact ⟨rfl, HF.out.2.2.2⟩
        · rw [if_neg hob] at hE
          have hob1 : (ob == (k : Int)) = false := by simp [hob]
          clear HF HC
          go_wp2_with fail
          go_roundw
          case rel => exact ⟨j + 1, ob, s2, by omega, HL, rfl, by go_num, HS.out, by rw [show 4 - (j + 1) = i by omega]; exact hE⟩
          case measure => simp [intOf]; omega
    · obtain rfl : j = 4 := by omega
      rw [show 4 - 4 = 0 from rfl, ringM] at hE
      subst hE
      clear HO HLT r0 r1 hlt hj
      rw [show ((4 : Nat) : Int) = 4 from rfl]
      go_wp2_with (first
        | (refine wpList_load_mid rfl 105 (.tmp 6) rfl (w.heap.size + 1) 0 rfl (arr4 s).toList d HF.out.1 HD.out.1 HD.out.2 size_b4 ?_)
        | (refine wpList_store_mid rfl 105 (.tmp 4) _ rfl w.heap.size 0 _ rfl rfl HF.out.2.1 size_b4 (arr4_one s) ?_))
      refine bodyPost_ret (ret_cell2 Try.results59 rfl HF.out.2.2.1 rfl) rfl ?_
      exact ⟨rfl, HF.out.2.2.2⟩

end Go.Proofs.Ytjbmflgamogefab
