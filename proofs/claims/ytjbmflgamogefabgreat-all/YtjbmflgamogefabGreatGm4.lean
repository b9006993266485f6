/- The code's machine: lines, states, prints. -/
import Derived.Test.YtjbmflgamogefabGreatGm3
namespace Go.Proofs.YtjbmflgamogefabGreat
open Go.RowKit

theorem GAt.cellB {K : GK} {w : World} {Y : GY} {m : Mac} (h : GAt K w Y m) :
    w.cell? ⟨K.b, 0, none⟩ = some (.slice (some ⟨K.gt, 0, none⟩) K.n K.tcap) ∧ (∀ j, j < 8 → w.cell? ⟨K.b, 1 + j, none⟩ = some (.int .i64 (m.cells j))) ∧ (∀ l, l < 4 → w.cell? ⟨K.b, 9 + l * 3, none⟩ = some (.int .i64 (m.own l))) ∧ (∀ i, i < 12 → w.cell? ⟨K.b, gpos i, none⟩ = some (Y.val i)) ∧ (∀ j, w.frozen? ⟨K.b, j, none⟩ = false) ∧ K.b < w.heap.size := by
  obtain ⟨cs, s1, s2, s3, s4, s5, s6⟩ := h.self
  refine ⟨by rw [cell_of_row _ _ _ _ _ _ s1]; exact s3, fun j hj => ?_, fun l hl => ?_, fun i hi => ?_, frozen_row s1, (Array.getElem?_eq_some_iff.1 s1).1⟩
  · rw [cell_of_row _ _ _ _ _ _ s1]; exact s4 j hj
  · rw [cell_of_row _ _ _ _ _ _ s1]; exact s5 l hl
  · rw [cell_of_row _ _ _ _ _ _ s1]; exact s6 i hi
theorem one_atG {w : World} {x : Value} {t : TypeId} {b : Nat} (hb : b = w.heap.size) : ∀ j u, [x][j]? = some u → (w.alloc (.cells #[x] t)).cell? ((⟨b, 0, none⟩ : Addr).add j) = some u := by
  subst hb; exact World.news_of_block (cs := #[x]) (heap_alloc_new w _)
/-- m' is m but for the slice i, which holds xs. -/
structure PutL (m m' : Mac) (i : Nat) (xs : List Int) : Prop where
  th : m'.th = m.th
  cells : m'.cells = m.cells
  own : m'.own = m.own
  cont : ∀ j, j < 12 → gcont m' j = if j = i then xs else gcont m j
/-- The end of an append. -/
theorem fin_put {K : GK} {w w0 w1 : World} {Y : GY} {m m' : Mac} {i : Nat} {v : Value} {g : Option Nat} {xs : List Int} (h : GAt K w Y m) (hi : i < 12) (hb : Below w.heap.size w w0) (hp : PutL m m' i xs) (hs : SlG (gE i) (gI i) w1 v xs g) (hg : w0.grownBy w1 (Y.blk i)) (hf : g = Y.blk i ∨ ∃ b, g = some b ∧ w0.heap.size ≤ b) :
    Went K Y w (w1.setCell ⟨K.b, gpos i, none⟩ v) m' ∧ w1.cell? ⟨K.b, gpos i, none⟩ = some (Y.val i) ∧ w1.frozen? ⟨K.b, gpos i, none⟩ = false := by
  obtain ⟨p, q, r⟩ := (h.below hb).putS hi hg hs hf hp.th hp.cells hp.own hp.cont
  exact ⟨⟨_, p, (GFr.of_below hb).trans q⟩, r⟩

set_option maxHeartbeats 1000000 in
theorem g_join (K : GK) (Y : GY) (m m' : Mac) (i : Nat) (x : Int) (w : World) (h : GAt K w Y m) (hi : i < 9) (hp : PutL m m' i (gcont m i ++ [x])) (hl : (gcont m i).length ≤ 1000) :
    Calls Tryz.prog 59 #[.pointer (some ⟨K.b, gpos i, none⟩), .int .i64 x] w fun e w' => e = .returned (.tuple #[]) ∧ Went K Y w w' m' := by
  have hi11 : i < 12 := by omega
  have hsl : SlAt w (Y.val i) (gcont m i) (Y.blk i) := by
    have := h.sl i hi11
    unfold gE gI at this
    rw [if_pos hi, if_pos hi] at this
    exact this
  have HSL : Hid (∀ W, Below w.heap.size w W → SlAt W (Y.val i) (gcont m i) (Y.blk i)) := fun W hW => hsl.kept (fun b hb => hW.block b (hsl.lt b hb))
  have c3 := h.cellB.2.2.2.1 i hi11
  have c4 := h.cellB.2.2.2.2.1 (gpos i)
  have c5 := h.cellB.2.2.2.2.2
  have FIN : Hid (∀ w0 w1 v g, Below w.heap.size w w0 → SlAt w1 v (gcont m i ++ [x]) g → w0.grownBy w1 (Y.blk i) → (g = Y.blk i ∨ ∃ b, g = some b ∧ w0.heap.size ≤ b) → Went K Y w (w1.setCell ⟨K.b, gpos i, none⟩ v) m' ∧ w1.cell? ⟨K.b, gpos i, none⟩ = some (Y.val i) ∧ w1.frozen? ⟨K.b, gpos i, none⟩ = false) := fun w0 w1 v g h0 h1 h2 h3 => fin_put h hi11 h0 hp (by unfold gE gI; rw [if_pos hi, if_pos hi]; exact h1) h2 h3
  have HL : Hid ((gcont m i).length ≤ 1000000) := by unfold Hid; omega
  obtain ⟨i0, hi0, hz0, hz1, hz2⟩ := info_parts Tryz.info3
  clear h hsl hp hl
  generalize gpos i = P at *
  generalize gcont m i = xs at *
  go_enter Tryz.func59, Tryz.ntmps59
  go_wp2_with (at_builtin; go_loud (refine wpList_append_sl _ rfl _ _ 29 rfl i0 Tryz.underlying29 hi0 hz0 hz1 hz2 _ xs (Y.blk i) rfl (HSL.out _ ((Below.refl _ _).alloc (Nat.le_refl _) _)) ⟨w.heap.size, 0, none⟩ 1 x rfl (one_atG rfl) HL.out ?_); intro v' w1 g' ha hgr hfr; obtain ⟨ao, cp, rfl⟩ := ha.slice; obtain ⟨R, y0, y1⟩ := FIN.out _ w1 _ g' ((Below.refl _ _).alloc (Nat.le_refl _) _) ha hgr hfr; clear ha hgr hfr)
  go_end0
  rw [List.length_append, List.length_singleton] at R
  exact ⟨rfl, R⟩

theorem GAt.line {K : GK} {w : World} {Y : GY} {m : Mac} {i : Nat} (h : GAt K w Y m) (hi : i < 9) : SlAt w (Y.val i) (gcont m i) (Y.blk i) := by
  have := h.sl i (by omega)
  unfold gE gI at this
  rw [if_pos hi, if_pos hi] at this
  exact this
theorem SlAt.firstG {w : World} {v : Value} {s : List Int} {x : Int} {g : Option Nat} (h : SlAt w v (x :: s) g) :
    ∃ b off cap, v = .slice (some ⟨b, off, none⟩) (s.length + 1) cap ∧ s.length + 1 ≤ cap ∧ w.cell? ⟨b, off, none⟩ = some (.int .i64 x) ∧ SlAt w (.slice (if cap = 1 then some ⟨b, off, none⟩ else some ⟨b, off + 1, none⟩) s.length (cap - 1)) s g := by
  have h0 := h
  rcases h with ⟨_, h, _⟩ | ⟨b, off, cap, cur, h1, h2, h3, h4, h5, h6⟩
  · simp at h
  · rw [List.length_cons] at h1 h4
    rw [h1] at h0
    refine ⟨b, off, cap, h1, h4, by rw [cell_of_row _ _ _ _ _ _ h3]; exact h6 0 x rfl, ?_⟩
    by_cases e : cap = 1
    · obtain rfl : s = [] := List.length_eq_zero_iff.1 (by omega)
      subst e
      exact .inr ⟨b, off, 0, cur, rfl, h2, h3, Nat.le_refl _, by omega, fun j y hj => by simp at hj⟩
    · rw [if_neg e]; exact h0.tail (by omega)

set_option maxHeartbeats 1000000 in
theorem g_leave0 (K : GK) (Y : GY) (m : Mac) (i : Nat) (w : World) (h : GAt K w Y m) (hi : i < 9) (hc : gcont m i = []) :
    Calls Tryz.prog 61 #[.pointer (some ⟨K.b, gpos i, none⟩)] w fun e w' => e = .returned (.int .i64 (-1)) ∧ w' = w := by
  have hsl := h.line hi
  rw [hc] at hsl
  obtain ⟨ao, cap, hs⟩ := hsl.slice
  have c3 := h.cellB.2.2.2.1 i (by omega)
  rw [hs] at c3
  rw [List.length_nil] at c3
  clear h hsl hs hc
  generalize gpos i = P at *
  go_enter Tryz.func61, Tryz.ntmps61
  go_wp2
  go_ret
  exact ⟨rfl, rfl⟩

set_option maxHeartbeats 1000000 in
theorem g_leave1 (K : GK) (Y : GY) (m m' : Mac) (i : Nat) (x : Int) (r : List Int) (w : World) (h : GAt K w Y m) (hi : i < 9) (hc : gcont m i = x :: r) (hp : PutL m m' i r) (hl : r.length ≤ 1000) :
    Calls Tryz.prog 61 #[.pointer (some ⟨K.b, gpos i, none⟩)] w fun e w' => e = .returned (.int .i64 x) ∧ Went K Y w w' m' := by
  have hi11 : i < 12 := by omega
  have hsl := h.line hi
  rw [hc] at hsl
  obtain ⟨B, O, cap, hv, hcap, hx, htl⟩ := hsl.firstG
  have c3 := h.cellB.2.2.2.1 i hi11
  have c4 := h.cellB.2.2.2.2.1 (gpos i)
  rw [hv] at c3
  obtain ⟨ao, hao⟩ : ∃ ao : Option Addr, ao = if cap = 1 then some ⟨B, O, none⟩ else some ⟨B, O + 1, none⟩ := ⟨_, rfl⟩
  rw [← hao] at htl
  have HAO := hide hao
  have FIN := hide (fin_put h hi11 (Below.refl _ _) hp (by unfold gE gI; rw [if_pos hi, if_pos hi]; exact htl) (World.grownBy.refl _ _) (.inl rfl)).1
  clear h hsl hv hp htl hao hc
  generalize gpos i = P at *
  generalize r.length = L at *
  go_enter Tryz.func61, Tryz.ntmps61
  by_cases e1 : cap = 1
  · subst e1
    obtain rfl : L = 0 := by omega
    have F := FIN.out
    rw [HAO.out, if_pos rfl] at F
    have F := hide F
    clear FIN HAO
    go_wp2
    go_ret
    exact ⟨rfl, F.out⟩
  · have F := FIN.out
    rw [HAO.out, if_neg e1] at F
    have F := hide F
    clear FIN HAO
    go_wp2
    go_ret
    exact ⟨rfl, F.out⟩

set_option maxHeartbeats 1000000 in
theorem g_setState (K : GK) (Y : GY) (m : Mac) (k : Nat) (s : Int) (w : World) (h : GAt K w Y m) (hk : k < K.n) :
    Calls Tryz.prog 91 #[.pointer (some ⟨K.b, 0, none⟩), .int .i64 k, .int .u8 s] w fun e w' => e = .returned (.tuple #[]) ∧ Went K Y w w' (stepTh m k { m.th k with sta := s }) := by
  have f0 := h.cellB.1
  obtain ⟨_, _, _, _, c4, _, d6, c7⟩ := h.cellT hk
  have c6 := d6 (k * 12 + 9)
  have FIN := hide (h.toSta (s := s) hk)
  have hk0 : decide ((k : Int) < 0) = false := by simp
  have hk1 : decide ((K.n : Int) ≤ (k : Int)) = false := by simp; omega
  clear h d6
  go_enter Tryz.func91, Tryz.ntmps91
  go_wp2
  go_end0
  exact ⟨rfl, FIN.out⟩

set_option maxHeartbeats 1000000 in
theorem g_isReady (K : GK) (Y : GY) (m : Mac) (k : Nat) (w : World) (h : GAt K w Y m) (hk : k < K.n) :
    Calls Tryz.prog 63 #[.pointer (some ⟨K.b, 0, none⟩), .int .i64 k] w fun e w' => e = .returned (.bool ((m.th k).sta == 82)) ∧ w' = w := by
  have f0 := h.cellB.1
  obtain ⟨_, _, _, _, c4, _, d6, c7⟩ := h.cellT hk
  have hk0 : decide ((k : Int) < 0) = false := by simp
  have hk1 : decide ((K.n : Int) ≤ (k : Int)) = false := by simp; omega
  clear h d6
  generalize (m.th k).sta = s at *
  go_enter Tryz.func63, Tryz.ntmps63
  go_wp2
  go_ret
  exact ⟨rfl, rfl⟩

def nameN (k : Int) : Int := if k < 0 ∨ 4 ≤ k then 45 else 48 + k
set_option maxHeartbeats 1000000 in
theorem g_nameOf (k : Nat) (w : World) (hk : k < 4) :
    Calls Tryz.prog 28 #[.int .i64 k] w fun e w' => e = .returned (.int .u8 (48 + (k : Int))) ∧ w' = w := by
  have hk0 : decide ((k : Int) < 0) = false := by simp
  have hk1 : decide (4 ≤ (k : Int)) = false := by simp; omega
  go_enter Tryz.func28, Tryz.ntmps28
  go_wp2
  go_ret
  refine ⟨ret_int ?_, rfl⟩
  first | omega | (simp [IntKind.wrap]; omega)
set_option maxHeartbeats 1000000 in
theorem g_nameOf0 (w : World) :
    Calls Tryz.prog 28 #[.int .i64 (-1)] w fun e w' => e = .returned (.int .u8 45) ∧ w' = w := by
  go_enter Tryz.func28, Tryz.ntmps28
  go_wp2
  go_ret
  exact ⟨rfl, rfl⟩

set_option maxHeartbeats 1000000 in
theorem g_makeReady (K : GK) (Y : GY) (m : Mac) (k : Nat) (w : World) (h : GAt K w Y m) (hk : k < K.n) (hl : m.q.length ≤ 1000) :
    Calls Tryz.prog 78 #[.pointer (some ⟨K.b, 0, none⟩), .int .i64 k] w fun e w' => e = .returned (.tuple #[]) ∧ Went K Y w w' (readyM m k) := by
  have HP := hide (g_setState K Y m k 82 w h hk)
  have HJ : Hid (∀ Y1 w1, GAt K w1 Y1 (stepTh m k { m.th k with sta := 82 }) → Calls Tryz.prog 59 #[.pointer (some ⟨K.b, 21, none⟩), .int .i64 k] w1 fun e w' => e = .returned (.tuple #[]) ∧ Went K Y1 w1 w' (readyM m k)) := fun Y1 w1 h1 =>
    g_join K Y1 _ (readyM m k) 0 k w1 h1 (by decide) ⟨rfl, rfl, rfl, fun j hj => by
      by_cases e : j = 0
      · subst e; simp [gcont, readyM, stepTh, castN]
      · rw [if_neg e]; simp [gcont, readyM, stepTh, e]⟩ (by simp [gcont, stepTh, castN]; exact hl)
  clear h hl
  go_enter Tryz.func78, Tryz.ntmps78
  go_wp2_with fail
  refine HP.out.mono ?_
  rintro e w1 ⟨rfl, Y1, a1, b1⟩
  have A1 := hide a1
  have B1 := hide b1
  clear a1 b1 HP
  go_wp2_with fail
  refine (HJ.out Y1 w1 A1.out).mono ?_
  rintro e w2 ⟨rfl, Y2, a2, b2⟩
  have A2 := hide a2
  have B2 := hide (B1.out.trans b2)
  clear a2 b2 A1 B1 HJ
  go_wp2_with fail
  go_end0
  exact ⟨rfl, Y2, A2.out, B2.out⟩

set_option maxHeartbeats 1000000 in
theorem g_load (K : GK) (Y : GY) (m : Mac) (c : Nat) (w : World) (h : GAt K w Y m) (hc : c < 8) :
    Calls Tryz.prog 93 #[.pointer (some ⟨K.b, 0, none⟩), .int .i64 c] w fun e w' => e = .returned (.int .i64 (m.cells c)) ∧ w' = w := by
  have c1 := h.cellB.2.1 c hc
  have hk0 : decide ((c : Int) < 0) = false := by simp
  have hk1 : decide (8 ≤ (c : Int)) = false := by simp; omega
  clear h
  go_enter Tryz.func93, Tryz.ntmps93
  go_wp2
  go_ret
  exact ⟨rfl, rfl⟩

set_option maxHeartbeats 1000000 in
theorem g_store (K : GK) (Y : GY) (m : Mac) (c : Nat) (v : Int) (w : World) (h : GAt K w Y m) (hc : c < 8) :
    Calls Tryz.prog 96 #[.pointer (some ⟨K.b, 0, none⟩), .int .i64 c, .int .i64 v] w fun e w' => e = .returned (.tuple #[]) ∧ Went K Y w w' { m with cells := upd m.cells c v } := by
  have c1 := h.cellB.2.1 c hc
  have c2 := h.cellB.2.2.2.2.1 (1 + c)
  have hk0 : decide ((c : Int) < 0) = false := by simp
  have hk1 : decide (8 ≤ (c : Int)) = false := by simp; omega
  have FIN : Hid (Went K Y w (w.setCell ⟨K.b, 1 + c, none⟩ (.int .i64 v)) { m with cells := upd m.cells c v }) := ⟨Y, h.setB (o := 1 + c) (v := .int .i64 v) (cells' := upd m.cells c v) (own' := m.own) (by omega) (fun j hj => by
      by_cases e : j = c
      · subst e; rw [if_pos rfl, upd_same]
      · rw [if_neg (by omega), upd_other _ _ e]) (fun l hl => by rw [if_neg (by omega)]) (fun i hi => (gpos_ne hi).1 c hc)⟩
  clear h
  go_enter Tryz.func96, Tryz.ntmps96
  go_wp2
  go_end0
  exact ⟨rfl, FIN.out⟩

end Go.Proofs.YtjbmflgamogefabGreat
