/- The code's threads: pop, push and what uses them. -/
import Derived.Test.YtjbmflgamogefabGreatGm
import Derived.Test.YtjbmflgamogefabGreatMachA
namespace Go.Proofs.YtjbmflgamogefabGreat
open Go.RowKit

theorem GAt.cellT {K : GK} {w : World} {Y : GY} {m : Mac} {k : Nat} (h : GAt K w Y m) (hk : k < K.n) :
    w.cell? ⟨K.gt, k * 12, none⟩ = some (K.lv k) ∧ w.cell? ⟨K.gt, k * 12 + 1, none⟩ = some (.int .i64 ((m.th k).pc : Nat)) ∧ (∀ j, j < 6 → w.cell? ⟨K.gt, k * 12 + 2 + j, none⟩ = some (.int .i64 (Y.jk k j))) ∧ w.cell? ⟨K.gt, k * 12 + 8, none⟩ = some (.int .i64 ((m.th k).stk.length : Nat)) ∧ w.cell? ⟨K.gt, k * 12 + 9, none⟩ = some (.int .u8 (m.th k).sta) ∧ w.cell? ⟨K.gt, k * 12 + 10, none⟩ = some (.int .i64 (m.th k).wake) ∧ (∀ j, w.frozen? ⟨K.gt, j, none⟩ = false) ∧ K.gt < w.heap.size := by
  obtain ⟨c, t1, t2⟩ := h.thr
  obtain ⟨a0, a1, a2, a3, a4, a5, _⟩ := t2 k hk
  refine ⟨by rw [cell_of_row _ _ _ _ _ _ t1]; exact a0, by rw [cell_of_row _ _ _ _ _ _ t1]; exact a1, fun j hj => ?_, by rw [cell_of_row _ _ _ _ _ _ t1]; exact a3, by rw [cell_of_row _ _ _ _ _ _ t1]; exact a4, by rw [cell_of_row _ _ _ _ _ _ t1]; exact a5, frozen_row t1, (Array.getElem?_eq_some_iff.1 t1).1⟩
  rw [cell_of_row _ _ _ _ _ _ t1, Nat.add_assoc]; exact a2 j hj
theorem GAt.cellT6 {K : GK} {w : World} {Y : GY} {m : Mac} {k : Nat} (h : GAt K w Y m) (hk : k < K.n) : w.cell? ⟨K.gt, k * 12 + 11, none⟩ = some (.int .i64 ((m.th k).bat : Nat)) := by
  obtain ⟨c, t1, t2⟩ := h.thr
  obtain ⟨_, _, _, _, _, _, a6⟩ := t2 k hk
  rw [cell_of_row _ _ _ _ _ _ t1]; exact a6
theorem step_step (m : Mac) (k : Nat) (t u : Th) : stepTh (stepTh m k t) k u = stepTh m k u := by simp only [stepTh, upd_upd]
theorem step_th (m : Mac) (k : Nat) (t : Th) : (stepTh m k t).th k = t := by simp only [stepTh, upd_same]
theorem Went.drew {K : GK} {Y : GY} {w w' : World} {m : Mac} (h : Went K Y w w' m) : Went K Y w w'.drew m := by
  obtain ⟨Y', h1, h2⟩ := h
  exact ⟨Y', h1.below keep_drew, h2.trans (GFr.of_below keep_drew)⟩
theorem Went.then {K : GK} {Y Y' : GY} {w w' w'' : World} {m : Mac} (h : GFr K Y Y' w w') (k : Went K Y' w' w'' m) : Went K Y w w'' m := by
  obtain ⟨Y2, h1, h2⟩ := k
  exact ⟨Y2, h1, h.trans h2⟩

theorem GAt.pop {K : GK} {w : World} {Y : GY} {m : Mac} {k : Nat} {s : List Int} {x : Int} (h : GAt K w Y m) (hk : k < K.n) (hx : (m.th k).stk = s ++ [x]) :
    Went K Y w (w.setCell ⟨K.gt, k * 12 + 8, none⟩ (.int .i64 (s.length : Nat))) (stepTh m k { m.th k with stk := s }) :=
  ⟨_, h.setT (o := 8) (v := .int .i64 (s.length : Nat)) (t := { m.th k with stk := s }) (f := Y.jk k) hk (by omega) (by simp) (fun j hj => by rw [if_neg (by omega)]) (by simp) (by simp) (by simp) (by simp) (fun j y hy => h.stk k hk j y (by rw [hx, List.getElem?_append_left (List.getElem?_eq_some_iff.1 hy).1]; exact hy))⟩
theorem GAt.push {K : GK} {w : World} {Y : GY} {m : Mac} {k : Nat} {x : Int} (h : GAt K w Y m) (hk : k < K.n) (hl : (m.th k).stk.length < 6) :
    Went K Y w ((w.setCell ⟨K.gt, k * 12 + 2 + (m.th k).stk.length, none⟩ (.int .i64 x)).setCell ⟨K.gt, k * 12 + 8, none⟩ (.int .i64 (((m.th k).stk.length : Int) + 1))) (stepTh m k { m.th k with stk := (m.th k).stk ++ [x] }) := by
  have h1 := h.setT (o := 2 + (m.th k).stk.length) (v := .int .i64 x) (t := m.th k) (f := upd (Y.jk k) (m.th k).stk.length x) hk (by omega) (by rw [if_neg (by omega)]) (fun j hj => by
      by_cases e : j = (m.th k).stk.length
      · subst e; rw [if_pos rfl, upd_same]
      · rw [if_neg (by omega), upd_other _ _ e]) (by rw [if_neg (by omega)]) (by rw [if_neg (by omega)]) (by rw [if_neg (by omega)]) (by rw [if_neg (by omega)]) (fun j y hy => by
      have hlt := (List.getElem?_eq_some_iff.1 hy).1
      rw [upd_other _ _ (by omega)]; exact h.stk k hk j y hy)
  rw [← Nat.add_assoc] at h1
  have h2 := h1.1.setT (o := 8) (v := .int .i64 (((m.th k).stk.length : Int) + 1)) (t := { m.th k with stk := (m.th k).stk ++ [x] }) (f := upd (Y.jk k) (m.th k).stk.length x) hk (by omega) (by rw [if_neg (by omega), step_th]) (fun j hj => by rw [if_neg (by omega)]; simp only [upd_same]) (by simp) (by simp [step_th]) (by simp [step_th]) (by simp [step_th]) (fun j y hy => by
      by_cases e : j = (m.th k).stk.length
      · subst e; rw [upd_same]; simp at hy; exact hy
      · have hlt := (List.getElem?_eq_some_iff.1 hy).1
        simp at hlt
        rw [List.getElem?_append_left (by omega)] at hy
        rw [upd_other _ _ e]; exact h.stk k hk j y hy)
  rw [step_step] at h2
  exact ⟨_, h2.1, h1.2.trans h2.2⟩
theorem GAt.toPc {K : GK} {w : World} {Y : GY} {m : Mac} {k p : Nat} (h : GAt K w Y m) (hk : k < K.n) :
    Went K Y w (w.setCell ⟨K.gt, k * 12 + 1, none⟩ (.int .i64 (p : Nat))) (stepTh m k { m.th k with pc := p }) :=
  ⟨_, h.setT (o := 1) (v := .int .i64 (p : Nat)) (t := { m.th k with pc := p }) (f := Y.jk k) hk (by omega) (by simp) (fun j hj => by rw [if_neg (by omega)]) (by simp) (by simp) (by simp) (by simp) (fun j y hy => h.stk k hk j y hy)⟩
theorem GAt.toSta {K : GK} {w : World} {Y : GY} {m : Mac} {k : Nat} {s : Int} (h : GAt K w Y m) (hk : k < K.n) :
    Went K Y w (w.setCell ⟨K.gt, k * 12 + 9, none⟩ (.int .u8 s)) (stepTh m k { m.th k with sta := s }) :=
  ⟨_, h.setT (o := 9) (v := .int .u8 s) (t := { m.th k with sta := s }) (f := Y.jk k) hk (by omega) (by simp) (fun j hj => by rw [if_neg (by omega)]) (by simp) (by simp) (by simp) (by simp) (fun j y hy => h.stk k hk j y hy)⟩
theorem GAt.toWake {K : GK} {w : World} {Y : GY} {m : Mac} {k : Nat} {s : Int} (h : GAt K w Y m) (hk : k < K.n) :
    Went K Y w (w.setCell ⟨K.gt, k * 12 + 10, none⟩ (.int .i64 s)) (stepTh m k { m.th k with wake := s }) :=
  ⟨_, h.setT (o := 10) (v := .int .i64 s) (t := { m.th k with wake := s }) (f := Y.jk k) hk (by omega) (by simp) (fun j hj => by rw [if_neg (by omega)]) (by simp) (by simp) (by simp) (by simp) (fun j y hy => h.stk k hk j y hy)⟩

theorem GAt.toBat {K : GK} {w : World} {Y : GY} {m : Mac} {k l : Nat} (h : GAt K w Y m) (hk : k < K.n) :
    Went K Y w (w.setCell ⟨K.gt, k * 12 + 11, none⟩ (.int .i64 (l : Nat))) (stepTh m k { m.th k with bat := l }) :=
  ⟨_, h.setT (o := 11) (v := .int .i64 (l : Nat)) (t := { m.th k with bat := l }) (f := Y.jk k) hk (by omega) (by simp) (fun j hj => by rw [if_neg (by omega)]) (by simp) (by simp) (by simp) (by simp) (fun j y hy => h.stk k hk j y hy)⟩

set_option maxHeartbeats 1000000 in
theorem g_pop (K : GK) (Y : GY) (m : Mac) (k : Nat) (s : List Int) (x : Int) (w : World) (h : GAt K w Y m) (hk : k < K.n) (hx : (m.th k).stk = s ++ [x]) (hl : s.length < 6) :
    Calls Tryz.prog 95 #[.pointer (some ⟨K.gt, k * 12, none⟩)] w fun e w' => e = .returned (.int .i64 x) ∧ Went K Y w w' (stepTh m k { m.th k with stk := s }) := by
  obtain ⟨_, _, d2, c3, _, _, d6, c7⟩ := h.cellT hk
  have c2 := d2 s.length hl
  have hj := h.stk k hk s.length x (by rw [hx]; simp)
  rw [hj] at c2
  rw [hx, List.length_append, List.length_singleton] at c3
  have c6 := d6 (k * 12 + 8)
  have FIN := hide (h.pop hk hx)
  clear h hx hj d2 d6
  generalize s.length = L at *
  go_enter Tryz.func95, Tryz.ntmps95
  go_wp2
  go_region
  go_wp2
  go_ret
  exact ⟨rfl, FIN.out.drew⟩

set_option maxHeartbeats 1000000 in
theorem g_push (K : GK) (Y : GY) (m : Mac) (k : Nat) (x : Int) (w : World) (h : GAt K w Y m) (hk : k < K.n) (hl : (m.th k).stk.length < 6) :
    Calls Tryz.prog 94 #[.pointer (some ⟨K.gt, k * 12, none⟩), .int .i64 x] w fun e w' => e = .returned (.tuple #[]) ∧ Went K Y w w' (stepTh m k { m.th k with stk := (m.th k).stk ++ [x] }) := by
  obtain ⟨_, _, d2, c3, _, _, d6, c7⟩ := h.cellT hk
  have c2 := d2 (m.th k).stk.length hl
  have c8 := d6 (k * 12 + 8)
  have c6 := d6 (k * 12 + 2 + (m.th k).stk.length)
  have FIN := hide (h.push (x := x) hk hl)
  clear h d2 d6
  generalize (m.th k).stk.length = L at *
  go_enter Tryz.func94, Tryz.ntmps94
  go_wp2
  go_region
  go_wp2
  go_end0
  exact ⟨rfl, FIN.out.drew⟩

theorem snocN {s : List Int} (h : ¬ s = []) : s = s.dropLast ++ [topOf s] := by
  rcases List.eq_nil_or_concat s with e | ⟨t, x, e⟩
  · exact absurd e h
  · rw [List.concat_eq_append] at e; subst e; simp [topOf]
theorem g_pop' (K : GK) (Y : GY) (m : Mac) (k : Nat) (w : World) (h : GAt K w Y m) (hk : k < K.n) (hx : ¬ (m.th k).stk = []) (hl : (m.th k).stk.length ≤ 6) :
    Calls Tryz.prog 95 #[.pointer (some ⟨K.gt, k * 12, none⟩)] w fun e w' => e = .returned (.int .i64 (topOf (m.th k).stk)) ∧ Went K Y w w' (stepTh m k { m.th k with stk := (m.th k).stk.dropLast }) :=
  g_pop K Y m k _ _ w h hk (snocN hx) (by
    have h1 := congrArg List.length (snocN hx)
    rw [List.length_append, List.length_singleton] at h1
    omega)

set_option maxHeartbeats 1000000 in
theorem g_add (K : GK) (Y : GY) (m : Mac) (k : Nat) (w : World) (h : GAt K w Y m) (hk : k < K.n) (hx : ¬ (m.th k).stk = []) (hx2 : ¬ (m.th k).stk.dropLast = []) (hw : ∀ x, x ∈ (m.th k).stk → 0 ≤ x ∧ x < 1000) (hl : (m.th k).stk.length ≤ 6) :
    Calls Tryz.prog 106 #[.pointer (some ⟨K.gt, k * 12, none⟩)] w fun e w' => e = .returned (.tuple #[]) ∧ Went K Y w w' (stepTh m k { m.th k with stk := (m.th k).stk.dropLast.dropLast ++ [(topOf (m.th k).stk.dropLast + topOf (m.th k).stk) % 1000] }) := by
  have HP := hide (g_pop' K Y m k w h hk hx hl)
  have hd : (m.th k).stk.dropLast.length < 6 := by
    have h1 := congrArg List.length (snocN hx)
    rw [List.length_append, List.length_singleton] at h1
    omega
  have HP2 : Hid (∀ Y1 w1, GAt K w1 Y1 (stepTh m k { m.th k with stk := (m.th k).stk.dropLast }) → Calls Tryz.prog 95 #[.pointer (some ⟨K.gt, k * 12, none⟩)] w1 fun e w' => e = .returned (.int .i64 (topOf (m.th k).stk.dropLast)) ∧ Went K Y1 w1 w' (stepTh m k { m.th k with stk := (m.th k).stk.dropLast.dropLast })) := fun Y1 w1 h1 => by
    have := g_pop' K Y1 _ k w1 h1 hk (by rw [step_th]; exact hx2) (by rw [step_th]; exact Nat.le_of_lt hd)
    rw [step_th, step_step] at this
    exact this
  have HP3 : Hid (∀ Y1 w1 x, GAt K w1 Y1 (stepTh m k { m.th k with stk := (m.th k).stk.dropLast.dropLast }) → Calls Tryz.prog 94 #[.pointer (some ⟨K.gt, k * 12, none⟩), .int .i64 x] w1 fun e w' => e = .returned (.tuple #[]) ∧ Went K Y1 w1 w' (stepTh m k { m.th k with stk := (m.th k).stk.dropLast.dropLast ++ [x] })) := fun Y1 w1 x h1 => by
    have := g_push K Y1 _ k x w1 h1 hk (by rw [step_th]; simp at hd ⊢; omega)
    rw [step_th, step_step] at this
    exact this
  obtain ⟨u0, u1⟩ := hw _ (top_mem hx)
  obtain ⟨v0, v1⟩ := hw _ (List.dropLast_subset _ (top_mem hx2))
  generalize topOf (m.th k).stk = u at *
  generalize topOf (m.th k).stk.dropLast = v at *
  have hmod : (v + u).tmod 1000 = (v + u) % 1000 := Int.tmod_eq_emod_of_nonneg (by omega)
  clear h hx hx2 hw hl hd
  go_enter Tryz.func106, Tryz.ntmps106
  go_wp2_with fail
  refine HP.out.mono ?_
  rintro e w1 ⟨rfl, Y1, a1, b1⟩
  have A1 := hide a1
  have B1 := hide b1
  clear a1 b1
  go_wp2_with fail
  refine (HP2.out Y1 w1 A1.out).mono ?_
  rintro e w2 ⟨rfl, Y2, a2, b2⟩
  have A2 := hide a2
  have B2 := hide (B1.out.trans b2)
  clear a2 b2 A1 B1
  go_wp2_with fail
  refine (HP3.out Y2 _ _ A2.out).mono ?_
  rintro e w3 ⟨rfl, Y3, a3, b3⟩
  have A3 := hide a3
  have B3 := hide (B2.out.trans b3)
  clear a3 b3 A2 B2
  go_wp2_with fail
  go_end0
  exact ⟨rfl, Y3, A3.out, B3.out⟩

set_option maxHeartbeats 1000000 in
theorem g_subtract (K : GK) (Y : GY) (m : Mac) (k : Nat) (w : World) (h : GAt K w Y m) (hk : k < K.n) (hx : ¬ (m.th k).stk = []) (hx2 : ¬ (m.th k).stk.dropLast = []) (hw : ∀ x, x ∈ (m.th k).stk → 0 ≤ x ∧ x < 1000) (hl : (m.th k).stk.length ≤ 6) :
    Calls Tryz.prog 107 #[.pointer (some ⟨K.gt, k * 12, none⟩)] w fun e w' => e = .returned (.tuple #[]) ∧ Went K Y w w' (stepTh m k { m.th k with stk := (m.th k).stk.dropLast.dropLast ++ [(topOf (m.th k).stk.dropLast - topOf (m.th k).stk + 1000) % 1000] }) := by
  have HP := hide (g_pop' K Y m k w h hk hx hl)
  have hd : (m.th k).stk.dropLast.length < 6 := by
    have h1 := congrArg List.length (snocN hx)
    rw [List.length_append, List.length_singleton] at h1
    omega
  have HP2 : Hid (∀ Y1 w1, GAt K w1 Y1 (stepTh m k { m.th k with stk := (m.th k).stk.dropLast }) → Calls Tryz.prog 95 #[.pointer (some ⟨K.gt, k * 12, none⟩)] w1 fun e w' => e = .returned (.int .i64 (topOf (m.th k).stk.dropLast)) ∧ Went K Y1 w1 w' (stepTh m k { m.th k with stk := (m.th k).stk.dropLast.dropLast })) := fun Y1 w1 h1 => by
    have := g_pop' K Y1 _ k w1 h1 hk (by rw [step_th]; exact hx2) (by rw [step_th]; exact Nat.le_of_lt hd)
    rw [step_th, step_step] at this
    exact this
  have HP3 : Hid (∀ Y1 w1 x, GAt K w1 Y1 (stepTh m k { m.th k with stk := (m.th k).stk.dropLast.dropLast }) → Calls Tryz.prog 94 #[.pointer (some ⟨K.gt, k * 12, none⟩), .int .i64 x] w1 fun e w' => e = .returned (.tuple #[]) ∧ Went K Y1 w1 w' (stepTh m k { m.th k with stk := (m.th k).stk.dropLast.dropLast ++ [x] })) := fun Y1 w1 x h1 => by
    have := g_push K Y1 _ k x w1 h1 hk (by rw [step_th]; simp at hd ⊢; omega)
    rw [step_th, step_step] at this
    exact this
  obtain ⟨u0, u1⟩ := hw _ (top_mem hx)
  obtain ⟨v0, v1⟩ := hw _ (List.dropLast_subset _ (top_mem hx2))
  generalize topOf (m.th k).stk = u at *
  generalize topOf (m.th k).stk.dropLast = v at *
  have hmod : (v - u + 1000).tmod 1000 = (v - u + 1000) % 1000 := Int.tmod_eq_emod_of_nonneg (by omega)
  clear h hx hx2 hw hl hd
  go_enter Tryz.func107, Tryz.ntmps107
  go_wp2_with fail
  refine HP.out.mono ?_
  rintro e w1 ⟨rfl, Y1, a1, b1⟩
  have A1 := hide a1
  have B1 := hide b1
  clear a1 b1
  go_wp2_with fail
  refine (HP2.out Y1 w1 A1.out).mono ?_
  rintro e w2 ⟨rfl, Y2, a2, b2⟩
  have A2 := hide a2
  have B2 := hide (B1.out.trans b2)
  clear a2 b2 A1 B1
  go_wp2_with fail
  refine (HP3.out Y2 _ ((v - u) % 1000) A2.out).mono ?_
  rintro e w3 ⟨rfl, Y3, a3, b3⟩
  have A3 := hide a3
  have B3 := hide (B2.out.trans b3)
  clear a3 b3 A2 B2
  go_wp2_with fail
  go_end0
  rw [show (v - u + 1000) % 1000 = (v - u) % 1000 by omega]
  exact ⟨rfl, Y3, A3.out, B3.out⟩

set_option maxHeartbeats 1000000 in
theorem g_jumpIfZero (K : GK) (Y : GY) (m : Mac) (k i : Nat) (w : World) (h : GAt K w Y m) (hk : k < K.n) (hx : ¬ (m.th k).stk = []) (hl : (m.th k).stk.length ≤ 6) :
    Calls Tryz.prog 108 #[.pointer (some ⟨K.gt, k * 12, none⟩), .int .i64 i] w fun e w' => e = .returned (.tuple #[]) ∧ Went K Y w w' (stepTh m k { m.th k with pc := if topOf (m.th k).stk = 0 then i else (m.th k).pc, stk := (m.th k).stk.dropLast }) := by
  have HP := hide (g_pop' K Y m k w h hk hx hl)
  clear h hx hl
  by_cases hz : topOf (m.th k).stk = 0
  · rw [hz] at HP
    rw [if_pos hz]
    clear hz
    go_enter Tryz.func108, Tryz.ntmps108
    go_wp2_with fail
    refine HP.out.mono ?_
    rintro e w1 ⟨rfl, Y1, a1, b1⟩
    obtain ⟨_, c1, _, _, _, _, d6, c7⟩ := a1.cellT hk
    have c6 := d6 (k * 12 + 1)
    have FIN := hide (a1.toPc (p := i) hk)
    have B1 := hide b1
    clear a1 b1 d6 HP
    go_wp2_with fail
    go_end0
    have R := Went.then B1.out FIN.out
    rw [step_step, step_th] at R
    exact ⟨rfl, R⟩
  · rw [if_neg hz]
    have hz0 : (topOf (m.th k).stk == 0) = false := by simp [hz]
    generalize topOf (m.th k).stk = u at *
    go_enter Tryz.func108, Tryz.ntmps108
    go_wp2_with fail
    refine HP.out.mono ?_
    rintro e w1 ⟨rfl, Y1, a1, b1⟩
    have A1 := hide a1
    have B1 := hide b1
    clear a1 b1 HP
    go_wp2_with fail
    go_end0
    exact ⟨rfl, Y1, A1.out, B1.out⟩

set_option maxHeartbeats 1000000 in
theorem g_sleepUntil (K : GK) (Y : GY) (m : Mac) (k : Nat) (q : Int) (w : World) (h : GAt K w Y m) (hk : k < K.n) :
    Calls Tryz.prog 102 #[.pointer (some ⟨K.gt, k * 12, none⟩), .int .i64 q] w fun e w' => e = .returned (.tuple #[]) ∧ Went K Y w w' (stepTh m k { m.th k with sta := 83, wake := q }) := by
  obtain ⟨_, _, _, _, c4, c5, d6, c7⟩ := h.cellT hk
  have c6 := d6 (k * 12 + 9)
  have c8 := d6 (k * 12 + 10)
  have FIN : Hid (Went K Y w ((w.setCell ⟨K.gt, k * 12 + 9, none⟩ (.int .u8 83)).setCell ⟨K.gt, k * 12 + 10, none⟩ (.int .i64 q)) (stepTh m k { m.th k with sta := 83, wake := q })) := by
    obtain ⟨Y1, a1, b1⟩ := h.toSta (s := 83) hk
    have R := Went.then b1 (a1.toWake (s := q) hk)
    rw [step_step, step_th] at R
    exact R
  clear h d6
  go_enter Tryz.func102, Tryz.ntmps102
  go_wp2
  go_end0
  exact ⟨rfl, FIN.out⟩

set_option maxHeartbeats 1000000 in
theorem g_current (K : GK) (Y : GY) (m : Mac) (k : Nat) (c a : Int) (w : World) (h : GAt K w Y m) (hk : k < K.n) (hp : (K.C k)[(m.th k).pc]? = some (c, a)) :
    Calls Tryz.prog 92 #[.pointer (some ⟨K.gt, k * 12, none⟩)] w fun e w' => e = .returned (.agg #[.int .u8 c, .int .i64 a]) ∧ Below w.heap.size w w' := by
  obtain ⟨c0, c1, _, _, _, _, _, c7⟩ := h.cellT hk
  obtain ⟨g, cap, l1, l2, l3⟩ := h.lst k hk
  rw [l1] at c0
  obtain ⟨z0, z1⟩ := l3 _ _ _ hp
  have hlt := (List.getElem?_eq_some_iff.1 hp).1
  have hg : g < w.heap.size := Nat.lt_of_lt_of_le l2 h.low.2.2.2
  have HB : Hid (Below w.heap.size w (w.alloc (.cells #[.int .u8 0, .int .i64 0] 115))) := (Below.refl _ _).alloc (Nat.le_refl _) _
  clear h l1 l3 hp
  generalize (m.th k).pc = p at *
  generalize (K.C k).length = N at *
  have hn0 : decide ((p : Int) < 0) = false := by simp
  have hn1 : decide ((N : Int) ≤ (p : Int)) = false := by simp; omega
  go_enter Tryz.func92, Tryz.ntmps92
  go_wp2
  go_quiet (fail)
  go_wp2
  go_region
  go_wp2
  try simp only [Exit.inBlock, Exit.then]
  refine bodyPost_ret (v := .agg #[.int .u8 c, .int .i64 a]) (by simp [results, Tryz.results92, go_sem]) rfl ?_
  exact ⟨rfl, HB.out.trans ⟨rfl, rfl, rfl, by simp [World.setCell], fun j hj => by simp [World.setCell, Array.getElem?_modify, show ¬ w.heap.size = j by omega]⟩⟩

end Go.Proofs.YtjbmflgamogefabGreat
