/- The reference's machine: ready, push, pop. -/
import Derived.Test.YtjbmflgamogefabGreatMm
namespace Go.Proofs.YtjbmflgamogefabGreat
open Go.RowKit

theorem MachAt.fields {w : World} {n : Nat} {Y : Lay} {m : Mac} {log : ByteArray} (h : MachAt w n Y m log) :
    w.cell? ⟨Y.b, 0, none⟩ = some Y.cv ∧ w.cell? ⟨Y.b, 1, none⟩ = some (.slice (some ⟨Y.gt, 0, none⟩) n Y.tcap) ∧ w.cell? ⟨Y.b, 2, none⟩ = some (Y.val 2) ∧ w.cell? ⟨Y.b, 3, none⟩ = some (Y.val 0) ∧ w.cell? ⟨Y.b, 4, none⟩ = some (Y.val 1) ∧ w.cell? ⟨Y.b, 5, none⟩ = some (.slice (some ⟨Y.gb, 0, none⟩) 4 4) ∧ w.cell? ⟨Y.b, 6, none⟩ = some (.slice (some ⟨Y.gw, 0, none⟩) 4 4) ∧ w.cell? ⟨Y.b, 7, none⟩ = some (.string (strOf m.out)) ∧ w.cell? ⟨Y.b, 8, none⟩ = some (.string (strOf m.trc)) ∧ w.cell? ⟨Y.b, 9, none⟩ = some (.string log) ∧ Y.b < w.heap.size :=
  ⟨by rw [cell_of_row _ _ 0 _ _ _ h.self]; rfl, by rw [cell_of_row _ _ 1 _ _ _ h.self]; rfl, by rw [cell_of_row _ _ 2 _ _ _ h.self]; rfl, by rw [cell_of_row _ _ 3 _ _ _ h.self]; rfl, by rw [cell_of_row _ _ 4 _ _ _ h.self]; rfl, by rw [cell_of_row _ _ 5 _ _ _ h.self]; rfl, by rw [cell_of_row _ _ 6 _ _ _ h.self]; rfl, by rw [cell_of_row _ _ 7 _ _ _ h.self]; rfl, by rw [cell_of_row _ _ 8 _ _ _ h.self]; rfl, by rw [cell_of_row _ _ 9 _ _ _ h.self]; rfl, (Array.getElem?_eq_some_iff.1 h.self).1⟩

theorem MachAt.cellT {w : World} {n k : Nat} {Y : Lay} {m : Mac} {log : ByteArray} (h : MachAt w n Y m log) (hk : k < n) :
    w.cell? ⟨Y.gt, k * 4, none⟩ = some (.int .i64 ((m.th k).pc : Nat)) ∧ w.cell? ⟨Y.gt, k * 4 + 1, none⟩ = some (Y.val (3 + k)) ∧ w.cell? ⟨Y.gt, k * 4 + 2, none⟩ = some (.int .u8 (m.th k).sta) ∧ w.cell? ⟨Y.gt, k * 4 + 3, none⟩ = some (.int .i64 (m.th k).wake) ∧ ∀ j, w.frozen? ⟨Y.gt, j, none⟩ = false := by
  obtain ⟨c1, t1, t2⟩ := h.thr
  obtain ⟨a, b, c, d⟩ := t2 k hk
  exact ⟨by rw [cell_of_row _ _ _ _ _ _ t1]; exact a, by rw [cell_of_row _ _ _ _ _ _ t1]; exact b, by rw [cell_of_row _ _ _ _ _ _ t1]; exact c, by rw [cell_of_row _ _ _ _ _ _ t1]; exact d, frozen_row t1⟩
theorem one_at {w : World} {x : Value} {t : TypeId} {b : Nat} (hb : b = w.heap.size) : ∀ j u, [x][j]? = some u → (w.alloc (.cells #[x] t)).cell? ((⟨b, 0, none⟩ : Addr).add j) = some u := by
  subst hb; exact World.news_of_block (cs := #[x]) (heap_alloc_new w _)
/-- The queue, behind an append. -/
theorem fin_queue {w w0 w1 : World} {n k : Nat} {Y : Lay} {m : Mac} {log : ByteArray} {o : Obj} {v : Value} {g : Option Nat} (h : MachAt w0 n Y m log) (hf : Fr Y Y w w0) (hs : SlAt w1 v (castL m.q ++ [(k : Int)]) g) (hg : (w0.alloc o).grownBy w1 (Y.blk 2)) (hn : g = Y.blk 2 ∨ ∃ b, g = some b ∧ (w0.alloc o).heap.size ≤ b) :
    (∃ Y', MachAt (w1.setCell ⟨Y.b, 2, none⟩ v) n Y' { m with q := m.q ++ [k] } log ∧ Fr Y Y' w (w1.setCell ⟨Y.b, 2, none⟩ v)) ∧ w1.cell? ⟨Y.b, 2, none⟩ = some (Y.val 2) ∧ w1.frozen? ⟨Y.b, 2, none⟩ = false := by
  have hb : Below w0.heap.size w0 (w0.alloc o) := (Below.refl _ _).alloc (Nat.le_refl _) _
  have h1 := h.below hb
  have e : castL m.q ++ [(k : Int)] = castL (m.q ++ [k]) := by simp [castL]
  rw [e] at hs
  obtain ⟨p, q⟩ := h1.putQ hg hs hn
  obtain ⟨g1, _⟩ := h1.grown (i := 2) (by decide) hg
  have s1 := g1.trans h1.self
  exact ⟨⟨_, p, (hf.trans (Fr.of_below hb)).trans q⟩, by rw [cell_of_row _ _ 2 _ _ _ s1]; rfl, frozen_row s1 2⟩

set_option maxHeartbeats 1000000 in
theorem r_ready (Y : Lay) (m : Mac) (n k : Nat) (log : ByteArray) (w : World) (h : MachAt w n Y m log) (hk : k < n) (hl : m.q.length ≤ 1000) :
    Calls Tryz.prog 43 #[.pointer (some ⟨Y.b, 0, none⟩), .int .i64 k] w fun e w' => e = .returned (.tuple #[]) ∧ ∃ Y', MachAt w' n Y' (readyM m k) log ∧ Fr Y Y' w w' := by
  have hS := h.setSta (k := k) (s := 82) hk
  have HS := hide hS
  have HSL := hide (hS.sl 2 (by decide))
  have f1 := h.fields.2.1
  have g2 := hS.fields.2.2.1
  obtain ⟨_, _, z0, _, z1⟩ := h.cellT hk
  have z1 := z1 (k * 4 + 2)
  have FIN := hide (fun (w1 : World) o v g => fin_queue (k := k) (w1 := w1) (o := o) (v := v) (g := g) hS fr_sta)
  have hk0 : (0 : Int) ≤ (k : Int) := by omega
  have hk1 : (k : Int) < (n : Int) := by omega
  have HL : Hid ((castL m.q).length ≤ 1000000) := by simp only [castL, List.length_map, Hid]; omega
  obtain ⟨i0, hi, hz0, hz1, hz2⟩ := info_parts Tryz.info3
  clear h hS
  go_enter Tryz.func43, Tryz.ntmps43
  go_wp2_with (at_builtin; go_loud (refine wpList_append_sl _ rfl _ _ 29 rfl i0 Tryz.underlying29 hi hz0 hz1 hz2 _ (castL m.q) (Y.blk 2) rfl (HSL.out.kept (fun b hb => ((Below.refl _ _).alloc (Nat.le_refl _) _).block b (HSL.out.lt b hb))) ⟨w.heap.size, 0, none⟩ 1 (k : Int) rfl (one_at (by simp [World.setCell])) HL.out ?_); intro v' w1 g' ha hgr hfr; obtain ⟨ao, cp, rfl⟩ := ha.slice; obtain ⟨R, y0, y1⟩ := FIN.out w1 _ _ g' ha hgr hfr; clear ha hgr hfr)
  go_end0
  rw [List.length_append, List.length_singleton] at R
  exact ⟨rfl, R⟩

theorem upd_ite {α : Type} (f : Nat → α) (i : Nat) (x : α) (j : Nat) : upd f i x j = if j = i then x else f j := by
  by_cases e : j = i
  · subst e; rw [upd_same, if_pos rfl]
  · rw [upd_other _ _ e, if_neg e]

theorem MachAt.putStk {w w1 : World} {n k : Nat} {Y : Lay} {m : Mac} {log : ByteArray} {v : Value} {g : Option Nat} {s' : List Int} (h : MachAt w n Y m log) (hk : k < n) (hn : n ≤ 4) (hg : w.grownBy w1 (Y.blk (3 + k))) (hs : SlAt w1 v s' g) (hf : g = Y.blk (3 + k) ∨ ∃ b, g = some b ∧ w.heap.size ≤ b) :
    MachAt (w1.setCell ⟨Y.gt, k * 4 + 1, none⟩ v) n (putL Y (3 + k) v g) { m with th := upd m.th k { m.th k with stk := s' } } log ∧ Fr Y (putL Y (3 + k) v g) w (w1.setCell ⟨Y.gt, k * 4 + 1, none⟩ v) := by
  have hi15 : 3 + k < 15 := by omega
  obtain ⟨g1, g2, g3, g4, g5⟩ := h.grown hi15 hg
  have s1 := g1.trans h.self
  obtain ⟨c1, t1, t2⟩ := h.thr
  obtain ⟨c2, b1, b2⟩ := h.brow
  obtain ⟨c3, w1', w2⟩ := h.wrow
  have t1' := g2.trans t1
  have ne : ∀ {j cs t fr}, w1.heap[j]? = some (.cells cs t fr) → ¬ t = 89 → ¬ j = Y.gt := fun hj hne e => by
    subst e; rw [t1'] at hj; simp only [Option.some.injEq, Obj.cells.injEq] at hj; exact hne hj.2.1.symm
  refine ⟨⟨?_, ⟨_, heap_setCell_same w1 Y.gt (k * 4 + 1) _ _ _ t1', fun j hj => ?_⟩, ⟨c2, by simp only [putL]; rw [Below.heap_setCell _ _ _ _ (ne (g3.trans b1) (by decide)), g3]; exact b1, fun l hl => ?_⟩, ⟨c3, by simp only [putL]; rw [Below.heap_setCell _ _ _ _ (ne (g4.trans w1') (by decide)), g4]; exact w1', fun l hl => ?_⟩, h.gbw, fun i hi => ?_, dis_put h hi15 hf⟩, ?_⟩
  · simp only [putL, upd_other _ _ (show ¬ 0 = 3 + k by omega), upd_other _ _ (show ¬ 1 = 3 + k by omega), upd_other _ _ (show ¬ 2 = 3 + k by omega)]
    rw [Below.heap_setCell _ _ _ _ (ne s1 (by decide))]; exact s1
  · obtain ⟨a0, a1, a2, a3⟩ := t2 j hj
    have hin : k * 4 + 1 < c1.size := (Array.getElem?_eq_some_iff.1 (t2 k hk).2.1).1
    rw [Array.getElem?_setIfInBounds, Array.getElem?_setIfInBounds, Array.getElem?_setIfInBounds, Array.getElem?_setIfInBounds]
    by_cases e : j = k
    · subst e
      rw [if_neg (by omega), if_pos rfl, if_pos hin, if_neg (by omega), if_neg (by omega)]
      simp only [putL, upd_same]
      exact ⟨a0, by trivial, a2, a3⟩
    · rw [if_neg (by omega), if_neg (by omega), if_neg (by omega), if_neg (by omega)]
      simp only [putL, upd_other _ _ e, upd_other _ _ (show ¬ 3 + j = 3 + k by omega)]
      exact ⟨a0, a1, a2, a3⟩
  · simp only [putL, upd_other _ _ (show ¬ 7 + l = 3 + k by omega)]; exact b2 l hl
  · simp only [putL, upd_other _ _ (show ¬ 11 + l = 3 + k by omega)]; exact w2 l hl
  · by_cases e : i = 3 + k
    · subst e; simp only [putL, upd_same]
      have hc : cont { m with th := upd m.th k { m.th k with stk := s' } } (3 + k) = s' := by
        unfold cont; rw [if_neg (by omega), if_neg (by omega), if_neg (by omega), if_pos (by omega), show 3 + k - 3 = k by omega]; simp only [upd_same]
      rw [hc]; exact hs.set_other t1' (by decide)
    · simp only [putL, upd_other _ _ e]
      have hc : cont { m with th := upd m.th k { m.th k with stk := s' } } i = cont m i := by
        unfold cont
        by_cases e0 : i < 3
        · split
          · rfl
          split
          · rfl
          split
          · rfl
          omega
        · simp only [upd_other _ _ (show ¬ i - 3 = k by omega)]
      rw [hc]; exact (g5 i hi e).set_other t1' (by decide)
  · refine ⟨hg.os, hg.tape, hg.output, ?_, fun j hj hy => ?_, fresh_put hi15 hf, ⟨rfl, rfl, rfl, rfl, rfl, rfl⟩⟩
    · have := hg.size; simp [World.setCell]; omega
    · rw [Below.heap_setCell _ _ _ _ (fun e => hy (.inr (.inl e))), hg.block j hj (fun e => hy (.inr (.inr (.inr (.inr ⟨3 + k, hi15, e.symm⟩)))))]

theorem MachAt.putBlk {w w1 : World} {n k : Nat} {Y : Lay} {m : Mac} {log : ByteArray} {v : Value} {g : Option Nat} {s' : List Nat} (h : MachAt w n Y m log) (hk : k < 4) (hn : n ≤ 4) (hg : w.grownBy w1 (Y.blk (7 + k))) (hs : SlAt w1 v (castL s') g) (hf : g = Y.blk (7 + k) ∨ ∃ b, g = some b ∧ w.heap.size ≤ b) :
    MachAt (w1.setCell ⟨Y.gb, k, none⟩ v) n (putL Y (7 + k) v g) { m with blk := upd m.blk k s' } log ∧ Fr Y (putL Y (7 + k) v g) w (w1.setCell ⟨Y.gb, k, none⟩ v) := by
  have hi15 : 7 + k < 15 := by omega
  obtain ⟨g1, g2, g3, g4, g5⟩ := h.grown hi15 hg
  have s1 := g1.trans h.self
  obtain ⟨c1, t1, t2⟩ := h.thr
  obtain ⟨c2, b1, b2⟩ := h.brow
  obtain ⟨c3, w1', w2⟩ := h.wrow
  have b1' := g3.trans b1
  have ne : ∀ {j cs t fr}, w1.heap[j]? = some (.cells cs t fr) → ¬ t = 29 → ¬ j = Y.gb := fun hj hne e => by
    subst e; rw [b1'] at hj; simp only [Option.some.injEq, Obj.cells.injEq] at hj; exact hne hj.2.1.symm
  have hc : ∀ i, i < 15 → cont { m with blk := upd m.blk k s' } i = if i = 7 + k then castL s' else cont m i := fun i hi => by
    unfold cont
    by_cases e0 : i < 7
    · rw [if_neg (show ¬ i = 7 + k by omega)]
      simp only [e0, if_true]
    · rw [if_neg (by omega), if_neg (by omega), if_neg (by omega), if_neg (by omega), if_neg (show ¬ i = 0 by omega), if_neg (show ¬ i = 1 by omega), if_neg (show ¬ i = 2 by omega), if_neg (show ¬ i < 7 by omega)]
      simp only [upd_ite]
      by_cases e1 : i < 11
      · simp only [e1, if_true, show (i - 7 = k) = (i = 7 + k) from propext (by omega)]
        split <;> rfl
      · simp only [e1, if_false, if_neg (show ¬ i = 7 + k by omega)]
  refine ⟨⟨?_, ⟨c1, by simp only [putL]; rw [Below.heap_setCell _ _ _ _ (ne (g2.trans t1) (by decide)), g2]; exact t1, fun j hj => ?_⟩, ⟨_, heap_setCell_same w1 Y.gb k _ _ _ b1', fun l hl => ?_⟩, ⟨c3, by simp only [putL]; rw [Below.heap_setCell _ _ _ _ (fun e => h.gbw e.symm), g4]; exact w1', fun l hl => ?_⟩, h.gbw, fun i hi => ?_, dis_put h hi15 hf⟩, ?_⟩
  · simp only [putL, upd_other _ _ (show ¬ 0 = 7 + k by omega), upd_other _ _ (show ¬ 1 = 7 + k by omega), upd_other _ _ (show ¬ 2 = 7 + k by omega)]
    rw [Below.heap_setCell _ _ _ _ (ne s1 (by decide))]; exact s1
  · simp only [putL, upd_other _ _ (show ¬ 3 + j = 7 + k by omega)]; exact t2 j hj
  · have hin : k < c2.size := (Array.getElem?_eq_some_iff.1 (b2 k hk)).1
    rw [Array.getElem?_setIfInBounds]
    by_cases e : l = k
    · subst e; rw [if_pos rfl, if_pos hin]; simp only [putL, upd_same]
    · rw [if_neg (by omega)]; simp only [putL, upd_other _ _ (show ¬ 7 + l = 7 + k by omega)]; exact b2 l hl
  · simp only [putL, upd_other _ _ (show ¬ 11 + l = 7 + k by omega)]; exact w2 l hl
  · rw [hc i hi]
    by_cases e : i = 7 + k
    · subst e; simp only [putL, upd_same, if_true]; exact hs.set_other b1' (by decide)
    · simp only [putL, upd_other _ _ e, e, if_false]; exact (g5 i hi e).set_other b1' (by decide)
  · refine ⟨hg.os, hg.tape, hg.output, ?_, fun j hj hy => ?_, fresh_put hi15 hf, ⟨rfl, rfl, rfl, rfl, rfl, rfl⟩⟩
    · have := hg.size; simp [World.setCell]; omega
    · rw [Below.heap_setCell _ _ _ _ (fun e => hy (.inr (.inr (.inl e)))), hg.block j hj (fun e => hy (.inr (.inr (.inr (.inr ⟨7 + k, hi15, e.symm⟩)))))]

theorem MachAt.putWai {w w1 : World} {n k : Nat} {Y : Lay} {m : Mac} {log : ByteArray} {v : Value} {g : Option Nat} {s' : List Nat} (h : MachAt w n Y m log) (hk : k < 4) (hn : n ≤ 4) (hg : w.grownBy w1 (Y.blk (11 + k))) (hs : SlAt w1 v (castL s') g) (hf : g = Y.blk (11 + k) ∨ ∃ b, g = some b ∧ w.heap.size ≤ b) :
    MachAt (w1.setCell ⟨Y.gw, k, none⟩ v) n (putL Y (11 + k) v g) { m with wai := upd m.wai k s' } log ∧ Fr Y (putL Y (11 + k) v g) w (w1.setCell ⟨Y.gw, k, none⟩ v) := by
  have hi15 : 11 + k < 15 := by omega
  obtain ⟨g1, g2, g3, g4, g5⟩ := h.grown hi15 hg
  have s1 := g1.trans h.self
  obtain ⟨c1, t1, t2⟩ := h.thr
  obtain ⟨c2, b1, b2⟩ := h.brow
  obtain ⟨c3, w1', w2⟩ := h.wrow
  have w1'' := g4.trans w1'
  have ne : ∀ {j cs t fr}, w1.heap[j]? = some (.cells cs t fr) → ¬ t = 29 → ¬ j = Y.gw := fun hj hne e => by
    subst e; rw [w1''] at hj; simp only [Option.some.injEq, Obj.cells.injEq] at hj; exact hne hj.2.1.symm
  have hc : ∀ i, i < 15 → cont { m with wai := upd m.wai k s' } i = if i = 11 + k then castL s' else cont m i := fun i hi => by
    unfold cont
    by_cases e0 : i < 11
    · rw [if_neg (show ¬ i = 11 + k by omega)]
      simp only [e0, if_true]
    · rw [if_neg (by omega), if_neg (by omega), if_neg (by omega), if_neg (by omega), if_neg (by omega), if_neg (show ¬ i = 0 by omega), if_neg (show ¬ i = 1 by omega), if_neg (show ¬ i = 2 by omega), if_neg (show ¬ i < 7 by omega), if_neg (show ¬ i < 11 by omega)]
      simp only [upd_ite]
      simp only [show (i - 11 = k) = (i = 11 + k) from propext (by omega)]
      split <;> rfl
  refine ⟨⟨?_, ⟨c1, by simp only [putL]; rw [Below.heap_setCell _ _ _ _ (ne (g2.trans t1) (by decide)), g2]; exact t1, fun j hj => ?_⟩, ⟨c2, by simp only [putL]; rw [Below.heap_setCell _ _ _ _ (fun e => h.gbw e), g3]; exact b1, fun l hl => ?_⟩, ⟨_, heap_setCell_same w1 Y.gw k _ _ _ w1'', fun l hl => ?_⟩, h.gbw, fun i hi => ?_, dis_put h hi15 hf⟩, ?_⟩
  · simp only [putL, upd_other _ _ (show ¬ 0 = 11 + k by omega), upd_other _ _ (show ¬ 1 = 11 + k by omega), upd_other _ _ (show ¬ 2 = 11 + k by omega)]
    rw [Below.heap_setCell _ _ _ _ (ne s1 (by decide))]; exact s1
  · simp only [putL, upd_other _ _ (show ¬ 3 + j = 11 + k by omega)]; exact t2 j hj
  · simp only [putL, upd_other _ _ (show ¬ 7 + l = 11 + k by omega)]; exact b2 l hl
  · have hin : k < c3.size := (Array.getElem?_eq_some_iff.1 (w2 k hk)).1
    rw [Array.getElem?_setIfInBounds]
    by_cases e : l = k
    · subst e; rw [if_pos rfl, if_pos hin]; simp only [putL, upd_same]
    · rw [if_neg (by omega)]; simp only [putL, upd_other _ _ (show ¬ 11 + l = 11 + k by omega)]; exact w2 l hl
  · rw [hc i hi]
    by_cases e : i = 11 + k
    · subst e; simp only [putL, upd_same, if_true]; exact hs.set_other w1'' (by decide)
    · simp only [putL, upd_other _ _ e, e, if_false]; exact (g5 i hi e).set_other w1'' (by decide)
  · refine ⟨hg.os, hg.tape, hg.output, ?_, fun j hj hy => ?_, fresh_put hi15 hf, ⟨rfl, rfl, rfl, rfl, rfl, rfl⟩⟩
    · have := hg.size; simp [World.setCell]; omega
    · rw [Below.heap_setCell _ _ _ _ (fun e => hy (.inr (.inr (.inr (.inl e))))), hg.block j hj (fun e => hy (.inr (.inr (.inr (.inr ⟨11 + k, hi15, e.symm⟩)))))]

def pushM (m : Mac) (k : Nat) (x : Int) : Mac := { m with th := upd m.th k { m.th k with stk := (m.th k).stk ++ [x] } }
theorem cont_stk (m : Mac) {k : Nat} (h : k < 4) : cont m (3 + k) = (m.th k).stk := by
  unfold cont; rw [if_neg (by omega), if_neg (by omega), if_neg (by omega), if_pos (by omega), show 3 + k - 3 = k by omega]
theorem fin_stk {w w0 w1 : World} {n k : Nat} {Y : Lay} {m : Mac} {log : ByteArray} {v : Value} {g : Option Nat} {s' : List Int} (h : MachAt w n Y m log) (hk : k < n) (hn : n ≤ 4) (hb : Below w.heap.size w w0) (hs : SlAt w1 v s' g) (hg : w0.grownBy w1 (Y.blk (3 + k))) (hf : g = Y.blk (3 + k) ∨ ∃ b, g = some b ∧ w0.heap.size ≤ b) :
    (∃ Y', MachAt (w1.setCell ⟨Y.gt, k * 4 + 1, none⟩ v) n Y' { m with th := upd m.th k { m.th k with stk := s' } } log ∧ Fr Y Y' w (w1.setCell ⟨Y.gt, k * 4 + 1, none⟩ v)) ∧ w1.cell? ⟨Y.gt, k * 4 + 1, none⟩ = some (Y.val (3 + k)) ∧ w1.frozen? ⟨Y.gt, k * 4 + 1, none⟩ = false ∧ w1.cell? ⟨Y.b, 1, none⟩ = some (.slice (some ⟨Y.gt, 0, none⟩) n Y.tcap) := by
  have h1 := h.below hb
  obtain ⟨p, q⟩ := h1.putStk hk hn hg hs hf
  obtain ⟨g1, g2, _⟩ := h1.grown (i := 3 + k) (by omega) hg
  have s1 := g1.trans h1.self
  obtain ⟨c1, t1, t2⟩ := h1.thr
  have t3 := g2.trans t1
  exact ⟨⟨_, p, (Fr.of_below hb).trans q⟩, by rw [cell_of_row _ _ _ _ _ _ t3]; exact (t2 k hk).2.1, frozen_row t3 _, by rw [cell_of_row _ _ 1 _ _ _ s1]; rfl⟩

set_option maxHeartbeats 1000000 in
theorem r_push (Y : Lay) (m : Mac) (n k : Nat) (x : Int) (log : ByteArray) (w : World) (h : MachAt w n Y m log) (hk : k < n) (hn : n ≤ 4) (hl : (m.th k).stk.length ≤ 1000) :
    Calls Tryz.prog 82 #[.pointer (some ⟨Y.b, 0, none⟩), .int .i64 k, .int .i64 x] w fun e w' => e = .returned (.tuple #[]) ∧ ∃ Y', MachAt w' n Y' (pushM m k x) log ∧ Fr Y Y' w w' := by
  have hsl := h.sl (3 + k) (by omega)
  rw [cont_stk m (by omega)] at hsl
  have HSL : Hid (∀ W, Below w.heap.size w W → SlAt W (Y.val (3 + k)) (m.th k).stk (Y.blk (3 + k))) := fun W hW => hsl.kept (fun b hb => hW.block b (hsl.lt b hb))
  have f1 := h.fields.2.1
  have fb := h.fields.2.2.2.2.2.2.2.2.2.2
  obtain ⟨_, z0, _, _, _⟩ := h.cellT hk
  have FIN := hide (fun (w0 w1 : World) v g => fin_stk (w0 := w0) (w1 := w1) (v := v) (g := g) (s' := (m.th k).stk ++ [x]) h hk hn)
  have hgt : Y.gt < w.heap.size := by obtain ⟨c1, t1, _⟩ := h.thr; exact (Array.getElem?_eq_some_iff.1 t1).1
  have hk0 : (0 : Int) ≤ (k : Int) := by omega
  have hk1 : (k : Int) < (n : Int) := by omega
  have HL : Hid ((m.th k).stk.length ≤ 1000000) := by unfold Hid; omega
  obtain ⟨i0, hi, hz0, hz1, hz2⟩ := info_parts Tryz.info3
  clear h hsl
  go_enter Tryz.func82, Tryz.ntmps82
  go_wp2
  go_region_law
    (first
      | (refine step_append_sl _ rfl (.tmp 18) (.tmp 20) 29 rfl i0 Tryz.underlying29 hi hz0 hz1 hz2 _ (m.th k).stk (Y.blk (3 + k)) rfl (HSL.out _ (by first | exact keep_ad | exact keep_drew)) ⟨w.heap.size, 0, none⟩ 1 x rfl (by exact one_at rfl) HL.out ?_; intro v' w1 g' ha hgr hfr; obtain ⟨ao, cp, rfl⟩ := ha.slice; obtain ⟨R, y0, y1, y2⟩ := FIN.out _ w1 _ g' keep_ad ha hgr hfr; clear ha hgr hfr))
  all_goals
    go_end0
    rw [List.length_append, List.length_singleton] at R
    exact ⟨rfl, R⟩

theorem SlAt.last {w : World} {v : Value} {s : List Int} {x : Int} {g : Option Nat} (h : SlAt w v (s ++ [x]) g) :
    ∃ b off cap, v = .slice (some ⟨b, off, none⟩) (s.length + 1) cap ∧ s.length + 1 ≤ cap ∧ g = some b ∧ w.cell? ⟨b, off + s.length, none⟩ = some (.int .i64 x) := by
  rcases h with ⟨_, h, _⟩ | ⟨b, off, cap, cur, h1, h2, h3, h4, h5, h6⟩
  · simp at h
  · rw [List.length_append, List.length_singleton] at h1 h4
    exact ⟨b, off, cap, h1, h4, h2, by rw [cell_of_row _ _ _ _ _ _ h3]; exact h6 s.length x (by simp)⟩

set_option maxHeartbeats 1000000 in
theorem r_pop (Y : Lay) (m : Mac) (n k : Nat) (s : List Int) (x : Int) (log : ByteArray) (w : World) (h : MachAt w n Y m log) (hk : k < n) (hn : n ≤ 4) (hx : (m.th k).stk = s ++ [x]) (hl : s.length ≤ 1000) :
    Calls Tryz.prog 83 #[.pointer (some ⟨Y.b, 0, none⟩), .int .i64 k] w fun e w' => e = .returned (.int .i64 x) ∧ ∃ Y', MachAt w' n Y' { m with th := upd m.th k { m.th k with stk := s } } log ∧ Fr Y Y' w w' := by
  have hsl := h.sl (3 + k) (by omega)
  rw [cont_stk m (by omega), hx] at hsl
  obtain ⟨B, O, cap, hv, hcap, hB, hcell⟩ := hsl.last
  have f1 := h.fields.2.1
  obtain ⟨_, z0, _, _, z1⟩ := h.cellT hk
  have z1 := z1 (k * 4 + 1)
  have FIN : Hid (∀ w0, Below w.heap.size w w0 → ∃ Y', MachAt (w0.setCell ⟨Y.gt, k * 4 + 1, none⟩ (.slice (some ⟨B, O, none⟩) s.length cap)) n Y' { m with th := upd m.th k { m.th k with stk := s } } log ∧ Fr Y Y' w (w0.setCell ⟨Y.gt, k * 4 + 1, none⟩ (.slice (some ⟨B, O, none⟩) s.length cap))) := fun w0 hw => by
    have h2 : SlAt w0 (Y.val (3 + k)) (s ++ [x]) (Y.blk (3 + k)) := hsl.kept (fun b hb => hw.block b (hsl.lt b hb))
    rw [hv] at h2
    exact (fin_stk h hk hn hw h2.init (World.grownBy.refl _ _) (.inl rfl)).1
  rw [hv] at z0
  have hk0 : (0 : Int) ≤ (k : Int) := by omega
  have hk1 : (k : Int) < (n : Int) := by omega
  clear h hsl hx hv
  generalize s.length = L at *
  go_enter Tryz.func83, Tryz.ntmps83
  go_wp2
  go_region
  go_wp2
  go_ret
  obtain ⟨Y', p, q⟩ := FIN.out w (Below.refl _ _)
  exact ⟨rfl, Y', p.below keep_drew, q.trans (Fr.of_below keep_drew)⟩

theorem SlAt.setAt {w : World} {b off len cap : Nat} {xs : List Int} {g : Option Nat} (h : SlAt w (.slice (some ⟨b, off, none⟩) len cap) xs g) {j : Nat} (hj : j < xs.length) (y : Int) :
    SlAt (w.setCell ⟨b, off + j, none⟩ (.int .i64 y)) (.slice (some ⟨b, off, none⟩) len cap) (xs.set j y) g := by
  rcases h with ⟨h, _⟩ | ⟨b', off', cap', cur, h1, h2, h3, h4, h5, h6⟩
  · cases h
  · cases h1
    refine .inr ⟨b, off, cap, _, by rw [List.length_set], h2, heap_setCell_same w b (off + j) _ _ _ h3, by rw [List.length_set]; exact h4, by simpa using h5, fun i x hi => ?_⟩
    rw [Array.getElem?_setIfInBounds]
    rw [List.getElem?_set] at hi
    by_cases e : j = i
    · subst e; rw [if_pos rfl, if_pos hj] at hi; cases hi
      rw [if_pos rfl, if_pos (by omega)]
    · rw [if_neg e] at hi; rw [if_neg (by omega)]; exact h6 i x hi
theorem SlAt.block {w : World} {b off len cap : Nat} {xs : List Int} {g : Option Nat} (h : SlAt w (.slice (some ⟨b, off, none⟩) len cap) xs g) : g = some b ∧ ∃ cur, w.heap[b]? = some (.cells cur 3 (0, 0)) := by
  rcases h with ⟨h, _⟩ | ⟨b', off', cap', cur, h1, h2, h3, _⟩
  · cases h
  · cases h1; exact ⟨h2, cur, h3⟩
/-- An element of the slice i is another one. -/
theorem MachAt.setEl {w : World} {n i j b off len cap : Nat} {y : Int} {Y : Lay} {m m' : Mac} {log : ByteArray} (h : MachAt w n Y m log) (hi : i < 15) (hv : Y.val i = .slice (some ⟨b, off, none⟩) len cap) (hj : j < (cont m i).length)
    (hc : cont m' i = (cont m i).set j y) (hd : ∀ a, a < 15 → ¬ a = i → cont m' a = cont m a) (ht : ∀ k, (m'.th k).pc = (m.th k).pc ∧ (m'.th k).sta = (m.th k).sta ∧ (m'.th k).wake = (m.th k).wake) (ho : m'.out = m.out ∧ m'.trc = m.trc) :
    MachAt (w.setCell ⟨b, off + j, none⟩ (.int .i64 y)) n Y m' log ∧ Fr Y Y w (w.setCell ⟨b, off + j, none⟩ (.int .i64 y)) := by
  have hs := h.sl i hi
  rw [hv] at hs
  obtain ⟨hg, cur, hcur⟩ := hs.block
  have ne : ∀ {j cs t fr}, w.heap[j]? = some (.cells cs t fr) → ¬ t = 3 → ¬ j = b := fun hj hne e => by
    subst e; rw [hcur] at hj; simp only [Option.some.injEq, Obj.cells.injEq] at hj; exact hne hj.2.1.symm
  obtain ⟨c1, t1, t2⟩ := h.thr
  obtain ⟨c2, b1, b2⟩ := h.brow
  obtain ⟨c3, w1, w2⟩ := h.wrow
  refine ⟨⟨by rw [Below.heap_setCell _ _ _ _ (ne h.self (by decide)), ho.1, ho.2]; exact h.self, ⟨c1, by rw [Below.heap_setCell _ _ _ _ (ne t1 (by decide))]; exact t1, fun k hk => ?_⟩, ⟨c2, by rw [Below.heap_setCell _ _ _ _ (ne b1 (by decide))]; exact b1, b2⟩, ⟨c3, by rw [Below.heap_setCell _ _ _ _ (ne w1 (by decide))]; exact w1, w2⟩, h.gbw, fun a ha => ?_, h.dis⟩, ?_⟩
  · obtain ⟨p, q, r⟩ := ht k; rw [p, q, r]; exact t2 k hk
  · by_cases e : a = i
    · subst e; rw [hc, hv]; exact hs.setAt hj y
    · rw [hd a ha e]
      exact (h.sl a ha).kept (fun x hx => Below.heap_setCell _ _ _ _ (fun e' => e (h.dis a i x ha hi hx (by rw [hg, e']))))
  · exact ⟨rfl, rfl, rfl, by simp [World.setCell], fun a _ hn => Below.heap_setCell _ _ _ _ (fun e => hn (.inr (.inr (.inr (.inr ⟨i, hi, by rw [hg, e]⟩))))), fun _ hj => .inl hj, ⟨rfl, rfl, rfl, rfl, rfl, rfl⟩⟩
theorem map_upd (n : Nat) (f : Nat → Int) (l : Nat) (x : Int) : (List.range n).map (upd f l x) = ((List.range n).map f).set l x := by
  apply List.ext_getElem?
  intro i
  rw [List.getElem?_set]
  by_cases hi : i < n
  · rw [List.getElem?_map, List.getElem?_range hi]
    by_cases e : l = i
    · subst e; simp [hi, upd_same]
    · rw [if_neg e, List.getElem?_map, List.getElem?_range hi]; simp [upd_other _ _ (fun h => e h.symm)]
  · have e1 : ((List.range n).map (upd f l x))[i]? = none := List.getElem?_eq_none (by simp; omega)
    have e2 : ((List.range n).map f)[i]? = none := List.getElem?_eq_none (by simp; omega)
    rw [e1, e2]
    simp only [List.length_map, List.length_range]
    by_cases e : l = i
    · subst e; rw [if_pos rfl, if_neg hi]
    · rw [if_neg e]
theorem cont_own (m : Mac) : cont m 1 = (List.range 4).map m.own := rfl
theorem cont_cells (m : Mac) : cont m 0 = (List.range 8).map m.cells := rfl
theorem MachAt.setOwn {w : World} {n l b off len cap : Nat} {y : Int} {Y : Lay} {m : Mac} {log : ByteArray} (h : MachAt w n Y m log) (hv : Y.val 1 = .slice (some ⟨b, off, none⟩) len cap) (hl : l < 4) :
    MachAt (w.setCell ⟨b, off + l, none⟩ (.int .i64 y)) n Y { m with own := upd m.own l y } log ∧ Fr Y Y w (w.setCell ⟨b, off + l, none⟩ (.int .i64 y)) :=
  h.setEl (i := 1) (by decide) hv (by simpa [cont_own] using hl) (by rw [cont_own, cont_own]; exact map_upd _ _ _ _) (fun a _ ha => by simp only [cont, ha, if_false]) (fun _ => ⟨rfl, rfl, rfl⟩) ⟨rfl, rfl⟩
theorem MachAt.setCells {w : World} {n l b off len cap : Nat} {y : Int} {Y : Lay} {m : Mac} {log : ByteArray} (h : MachAt w n Y m log) (hv : Y.val 0 = .slice (some ⟨b, off, none⟩) len cap) (hl : l < 8) :
    MachAt (w.setCell ⟨b, off + l, none⟩ (.int .i64 y)) n Y { m with cells := upd m.cells l y } log ∧ Fr Y Y w (w.setCell ⟨b, off + l, none⟩ (.int .i64 y)) :=
  h.setEl (i := 0) (by decide) hv (by simpa [cont_cells] using hl) (by rw [cont_cells, cont_cells]; exact map_upd _ _ _ _) (fun a _ ha => by simp only [cont, ha, if_false]) (fun _ => ⟨rfl, rfl, rfl⟩) ⟨rfl, rfl⟩
/-- The slice i, if it holds something. -/
theorem MachAt.val_some {w : World} {n i : Nat} {Y : Lay} {m : Mac} {log : ByteArray} (h : MachAt w n Y m log) (hi : i < 15) (hc : ¬ cont m i = []) :
    ∃ b off cap, Y.val i = .slice (some ⟨b, off, none⟩) (cont m i).length cap ∧ (cont m i).length ≤ cap ∧ Y.blk i = some b ∧ (∀ j x, (cont m i)[j]? = some x → w.cell? ⟨b, off + j, none⟩ = some (.int .i64 x)) ∧ ∀ j, w.frozen? ⟨b, j, none⟩ = false := by
  rcases h.sl i hi with ⟨_, h2, _⟩ | ⟨b, off, cap, cur, h1, h2, h3, h4, h5, h6⟩
  · exact absurd h2 hc
  · exact ⟨b, off, cap, h1, h4, h2, fun j x hj => by rw [cell_of_row _ _ _ _ _ _ h3]; exact h6 j x hj, frozen_row h3⟩
theorem MachAt.owners {w : World} {n : Nat} {Y : Lay} {m : Mac} {log : ByteArray} (h : MachAt w n Y m log) : ∃ b off cap, Y.val 1 = .slice (some ⟨b, off, none⟩) 4 cap ∧ (∀ l, l < 4 → w.cell? ⟨b, off + l, none⟩ = some (.int .i64 (m.own l))) ∧ ∀ j, w.frozen? ⟨b, j, none⟩ = false := by
  obtain ⟨b, off, cap, h1, _, _, h4, h5⟩ := h.val_some (i := 1) (by decide) (by rw [cont_own]; simp)
  exact ⟨b, off, cap, by simpa [cont_own] using h1, fun l hl => h4 l _ (by rw [cont_own, List.getElem?_map, List.getElem?_range hl]; rfl), h5⟩
theorem MachAt.cellsAt {w : World} {n : Nat} {Y : Lay} {m : Mac} {log : ByteArray} (h : MachAt w n Y m log) : ∃ b off cap, Y.val 0 = .slice (some ⟨b, off, none⟩) 8 cap ∧ (∀ l, l < 8 → w.cell? ⟨b, off + l, none⟩ = some (.int .i64 (m.cells l))) ∧ ∀ j, w.frozen? ⟨b, j, none⟩ = false := by
  obtain ⟨b, off, cap, h1, _, _, h4, h5⟩ := h.val_some (i := 0) (by decide) (by rw [cont_cells]; simp)
  exact ⟨b, off, cap, by simpa [cont_cells] using h1, fun l hl => h4 l _ (by rw [cont_cells, List.getElem?_map, List.getElem?_range hl]; rfl), h5⟩
/-- A counter, or the end of a sleep. -/
theorem MachAt.setTh {w : World} {n k o : Nat} {Y : Lay} {m : Mac} {log : ByteArray} {u : Value} {t : Th} (h : MachAt w n Y m log) (hk : k < n) (ho : o = 0 ∨ o = 3) (hu : (o = 0 ∧ u = .int .i64 (t.pc : Nat) ∧ t.wake = (m.th k).wake) ∨ (o = 3 ∧ u = .int .i64 t.wake ∧ t.pc = (m.th k).pc)) (hs : t.stk = (m.th k).stk) (hst : t.sta = (m.th k).sta) :
    MachAt (w.setCell ⟨Y.gt, k * 4 + o, none⟩ u) n Y { m with th := upd m.th k t } log ∧ Fr Y Y w (w.setCell ⟨Y.gt, k * 4 + o, none⟩ u) := by
  obtain ⟨c1, t1, t2⟩ := h.thr
  obtain ⟨c2, b1, b2⟩ := h.brow
  obtain ⟨c3, w1, w2⟩ := h.wrow
  have ne : ∀ {j cs t fr}, w.heap[j]? = some (.cells cs t fr) → ¬ t = 89 → ¬ j = Y.gt := fun hj hne e => by
    subst e; rw [t1] at hj; simp only [Option.some.injEq, Obj.cells.injEq] at hj; exact hne hj.2.1.symm
  have hcont : ∀ i, cont { m with th := upd m.th k t } i = cont m i := fun i => by
    unfold cont
    simp only
    by_cases e : i - 3 = k
    · subst e; simp only [upd_same, hs]
    · simp only [upd_other _ _ e]
  refine ⟨⟨by rw [Below.heap_setCell _ _ _ _ (ne h.self (by decide))]; exact h.self, ⟨_, heap_setCell_same w Y.gt (k * 4 + o) _ _ _ t1, fun j hj => ?_⟩, ⟨c2, by rw [Below.heap_setCell _ _ _ _ (ne b1 (by decide))]; exact b1, b2⟩, ⟨c3, by rw [Below.heap_setCell _ _ _ _ (ne w1 (by decide))]; exact w1, w2⟩, h.gbw,
    fun i hi => by rw [hcont]; exact (h.sl i hi).set_other t1 (by decide), h.dis⟩, fr_sta⟩
  obtain ⟨a0, a1, a2, a3⟩ := t2 j hj
  have i0 : k * 4 < c1.size := (Array.getElem?_eq_some_iff.1 (t2 k hk).1).1
  have i3 : k * 4 + 3 < c1.size := (Array.getElem?_eq_some_iff.1 (t2 k hk).2.2.2).1
  rw [Array.getElem?_setIfInBounds, Array.getElem?_setIfInBounds, Array.getElem?_setIfInBounds, Array.getElem?_setIfInBounds]
  by_cases e : j = k
  · subst e
    simp only [upd_same]
    rcases hu with ⟨rfl, rfl, e3⟩ | ⟨rfl, rfl, e3⟩
    · rw [if_pos (by omega), if_pos (by omega), if_neg (by omega), if_neg (by omega), if_neg (by omega), e3, hst]
      exact ⟨rfl, a1, a2, a3⟩
    · rw [if_neg (by omega), if_neg (by omega), if_neg (by omega), if_pos (by omega), if_pos (by omega), e3, hst]
      exact ⟨a0, a1, a2, rfl⟩
  · rw [if_neg (by omega), if_neg (by omega), if_neg (by omega), if_neg (by omega)]
    simp only [upd_other _ _ e]
    exact ⟨a0, a1, a2, a3⟩
/-- What is printed, and the trace. -/
theorem MachAt.setStr {w : World} {n o : Nat} {Y : Lay} {m m' : Mac} {log log' : ByteArray} {u : ByteArray} (h : MachAt w n Y m log) (hu : (o = 7 ∧ u = strOf m'.out ∧ m'.trc = m.trc ∧ log' = log) ∨ (o = 8 ∧ u = strOf m'.trc ∧ m'.out = m.out ∧ log' = log) ∨ (o = 9 ∧ u = log' ∧ m'.out = m.out ∧ m'.trc = m.trc)) (hc : ∀ i, cont m' i = cont m i) (ht : m'.th = m.th) :
    MachAt (w.setCell ⟨Y.b, o, none⟩ (.string u)) n Y m' log' ∧ Fr Y Y w (w.setCell ⟨Y.b, o, none⟩ (.string u)) := by
  obtain ⟨c1, t1, t2⟩ := h.thr
  obtain ⟨c2, b1, b2⟩ := h.brow
  obtain ⟨c3, w1, w2⟩ := h.wrow
  have ne : ∀ {j cs t fr}, w.heap[j]? = some (.cells cs t fr) → ¬ t = 51 → ¬ j = Y.b := fun hj hne e => by
    subst e; rw [h.self] at hj; simp only [Option.some.injEq, Obj.cells.injEq] at hj; exact hne hj.2.1.symm
  refine ⟨⟨?_, ⟨c1, by rw [Below.heap_setCell _ _ _ _ (ne t1 (by decide))]; exact t1, by rw [ht]; exact t2⟩, ⟨c2, by rw [Below.heap_setCell _ _ _ _ (ne b1 (by decide))]; exact b1, b2⟩, ⟨c3, by rw [Below.heap_setCell _ _ _ _ (ne w1 (by decide))]; exact w1, w2⟩, h.gbw,
    fun i hi => by rw [hc]; exact (h.sl i hi).set_other h.self (by decide), h.dis⟩, ?_⟩
  · rw [heap_setCell_same w Y.b o _ _ _ h.self]
    rcases hu with ⟨rfl, rfl, e1, e2⟩ | ⟨rfl, rfl, e1, e2⟩ | ⟨rfl, rfl, e1, e2⟩ <;> rw [e1, e2] <;> rfl
  · exact ⟨rfl, rfl, rfl, by simp [World.setCell], fun a _ hn => Below.heap_setCell _ _ _ _ (fun e => hn (.inl e)), fun _ hj => .inl hj, ⟨rfl, rfl, rfl, rfl, rfl, rfl⟩⟩

end Go.Proofs.YtjbmflgamogefabGreat
