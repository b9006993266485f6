/- The code's machine: step. -/
import Derived.Test.YtjbmflgamogefabGreatGm5A
namespace Go.Proofs.YtjbmflgamogefabGreat
open Go.RowKit

/-- The thread k behind the fetch. -/
def nextM (m : Mac) (k : Nat) : Mac := stepTh m k { m.th k with pc := (m.th k).pc + 1 }
/-- Behind the fetch: the thread's next instruction is counted, the instruction itself lies in a block of its own. -/
theorem fetch {K : GK} {w w1 : World} {Y : GY} {m : Mac} {k : Nat} {c a : Int} (h : GAt K w Y m) (hk : k < K.n) (hb : Below w.heap.size w w1) :
    ∃ Y2, GAt K ((w1.setCell ⟨K.gt, k * 12 + 1, none⟩ (.int .i64 (((m.th k).pc : Int) + 1))).alloc (.cells #[.int .u8 c, .int .i64 a] 115)) Y2 (nextM m k) ∧ GFr K Y Y2 w ((w1.setCell ⟨K.gt, k * 12 + 1, none⟩ (.int .i64 (((m.th k).pc : Int) + 1))).alloc (.cells #[.int .u8 c, .int .i64 a] 115)) ∧
      GOwn K Y2 ((w1.setCell ⟨K.gt, k * 12 + 1, none⟩ (.int .i64 (((m.th k).pc : Int) + 1))).alloc (.cells #[.int .u8 c, .int .i64 a] 115)) w1.heap.size := by
  obtain ⟨Y1, a1, b1⟩ := (h.below hb).toPc (p := (m.th k).pc + 1) hk
  rw [show (((m.th k).pc + 1 : Nat) : Int) = ((m.th k).pc : Int) + 1 by omega] at a1 b1
  have hb2 : ∀ o, Below (w1.setCell ⟨K.gt, k * 12 + 1, none⟩ (.int .i64 (((m.th k).pc : Int) + 1))).heap.size (w1.setCell ⟨K.gt, k * 12 + 1, none⟩ (.int .i64 (((m.th k).pc : Int) + 1))) ((w1.setCell ⟨K.gt, k * 12 + 1, none⟩ (.int .i64 (((m.th k).pc : Int) + 1))).alloc o) := fun o => (Below.refl _ _).alloc (Nat.le_refl _) _
  have hsz : (w1.setCell ⟨K.gt, k * 12 + 1, none⟩ (.int .i64 (((m.th k).pc : Int) + 1))).heap.size = w1.heap.size := by simp [World.setCell]
  refine ⟨Y1, a1.below (hb2 _), ((GFr.of_below hb).trans b1).trans (GFr.of_below (hb2 _)), ?_⟩
  have := a1.own_new (.cells #[.int .u8 c, .int .i64 a] 115)
  rw [hsz] at this
  exact this
/-- The instruction's block, carried on. -/
theorem carry {K : GK} {Y Y' : GY} {w w' : World} {b : Nat} {c a : Int} (ho : GOwn K Y w b) (hf : GFr K Y Y' w w') (h0 : w.heap[b]? = some (.cells #[.int .u8 c, .int .i64 a] 115 (0, 0))) :
    GOwn K Y' w' b ∧ w'.heap[b]? = some (.cells #[.int .u8 c, .int .i64 a] 115 (0, 0)) := by
  obtain ⟨p, e⟩ := ho.step hf
  exact ⟨p, e.trans h0⟩
theorem in2 {w : World} {b : Nat} {c a : Int} (h0 : w.heap[b]? = some (.cells #[.int .u8 c, .int .i64 a] 115 (0, 0))) :
    w.cell? ⟨b, 0, none⟩ = some (.int .u8 c) ∧ w.cell? ⟨b, 1, none⟩ = some (.int .i64 a) ∧ b < w.heap.size :=
  ⟨by rw [cell_of_row _ _ 0 _ _ _ h0]; rfl, by rw [cell_of_row _ _ 1 _ _ _ h0]; rfl, (Array.getElem?_eq_some_iff.1 h0).1⟩
theorem in_new {w1 : World} {g o : Nat} {u : Value} {c a : Int} : ((w1.setCell ⟨g, o, none⟩ u).alloc (.cells #[.int .u8 c, .int .i64 a] 115)).heap[w1.heap.size]? = some (.cells #[.int .u8 c, .int .i64 a] 115 (0, 0)) := by
  have := heap_alloc_new (w1.setCell ⟨g, o, none⟩ u) (.cells #[.int .u8 c, .int .i64 a] 115)
  rw [show (w1.setCell ⟨g, o, none⟩ u).heap.size = w1.heap.size by simp [World.setCell]] at this
  exact this

set_option maxHeartbeats 2000000 in
theorem g_step_p82 (K : GK) (Y : GY) (m m2 : Mac) (k : Nat) (q c a : Int) (w : World) (h : GAt K w Y m) (hk : k < K.n) (hp : (K.C k)[(m.th k).pc]? = some (c, a)) (hN : (K.C k).length ≤ 1000) (hc : (c == 103) = false ∧ (c == 115) = false ∧ (c == 112) = false ∧ (c == 65) = false ∧ (c == 82) = false ∧ (c == 87) = false ∧ (c == 78) = false ∧ (c == 84) = false) (HX : Hid (∀ Y2 w2, GAt K w2 Y2 (nextM m k) → Calls Tryz.prog 103 #[.pointer (some ⟨K.gt, k * 12, none⟩), .agg #[.int .u8 c, .int .i64 a]] w2 fun e w' => e = .returned (.tuple #[]) ∧ Went K Y2 w2 w' m2)) (HS : Hid ((m2.th k).sta = 82)) :
    Calls Tryz.prog 79 #[.pointer (some ⟨K.b, 0, none⟩), .int .i64 k, .int .i64 q] w fun e w' => e = .returned (.bool (c != 89)) ∧ Went K Y w w' m2 := by
  have f0 := h.cellB.1
  have p0 := h.cellB.2.2.2.2.2
  obtain ⟨_, c1, _, _, c4, _, d6, c7⟩ := h.cellT hk
  have c6 := d6 (k * 12 + 1)
  have hk0 : decide ((k : Int) < 0) = false := by simp
  have hk1 : decide ((K.n : Int) ≤ (k : Int)) = false := by simp; omega
  have HC := hide (g_current K Y m k _ _ w h hk hp)
  have HF := hide (fun (w1 : World) => fetch (w1 := w1) (c := c) (a := a) h hk)
  have HPC : Hid ((m.th k).pc < 1000) := by have := (List.getElem?_eq_some_iff.1 hp).1; unfold Hid; omega
  clear h d6 hp hN
  go_enter Tryz.func79, Tryz.ntmps79
  go_wp2_with fail
  refine HC.out.mono ?_
  rintro e w1 ⟨rfl, hb1⟩
  obtain ⟨Y2, a2, b2, o2⟩ := HF.out w1 hb1
  obtain ⟨g1, g2⟩ := bcell hb1
  have f1 := (g1 _ 0 p0).trans f0
  have c11 := (g1 _ (k * 12 + 1) c7).trans c1
  have c16 := (g2 _ (k * 12 + 1) c7).trans c6
  have p1 : K.b < w1.heap.size := Nat.lt_of_lt_of_le p0 hb1.size
  have c17 : K.gt < w1.heap.size := Nat.lt_of_lt_of_le c7 hb1.size
  have A2 := hide a2
  have B2 := hide b2
  have O2 := hide o2
  clear a2 b2 o2 hb1 g1 g2 HC HF f0 c1 c4 c6
  generalize (m.th k).pc = pc at *
  have hpc := HPC.out
  obtain ⟨hc1, hc2, hc3, hc4, hc5, hc6, hc7, hc8⟩ := hc
  go_wp2_with fail
  go_region_with (go_at_call 103; refine (HX.out Y2 _ (A2.out.below keep_drew)).mono ?_; rintro e w3 ⟨rfl, Y3, a3, b3⟩; obtain ⟨o3, i3⟩ := carry O2.out ((GFr.of_below keep_drew).trans b3) in_new; obtain ⟨x0, x1, x2⟩ := in2 i3; have f3 := a3.cellB.1; have c34 := (a3.cellT hk).2.2.2.2.1; rw [HS.out] at c34; have A3 := hide a3; have B3 := hide ((B2.out.trans (GFr.of_below keep_drew)).trans b3); clear a3 b3 o3 i3)
  all_goals
    go_wp2_with fail
    go_ret
    exact ⟨rfl, Y3, A3.out, B3.out⟩

set_option maxHeartbeats 2000000 in
theorem g_step_pno (K : GK) (Y : GY) (m m2 : Mac) (k : Nat) (q c a : Int) (w : World) (h : GAt K w Y m) (hk : k < K.n) (hp : (K.C k)[(m.th k).pc]? = some (c, a)) (hN : (K.C k).length ≤ 1000) (hc : (c == 103) = false ∧ (c == 115) = false ∧ (c == 112) = false ∧ (c == 65) = false ∧ (c == 82) = false ∧ (c == 87) = false ∧ (c == 78) = false ∧ (c == 84) = false) (HX : Hid (∀ Y2 w2, GAt K w2 Y2 (nextM m k) → Calls Tryz.prog 103 #[.pointer (some ⟨K.gt, k * 12, none⟩), .agg #[.int .u8 c, .int .i64 a]] w2 fun e w' => e = .returned (.tuple #[]) ∧ Went K Y2 w2 w' m2)) (HS : Hid (∃ s, (m2.th k).sta = s ∧ (s == 82) = false)) :
    Calls Tryz.prog 79 #[.pointer (some ⟨K.b, 0, none⟩), .int .i64 k, .int .i64 q] w fun e w' => e = .returned (.bool false) ∧ Went K Y w w' m2 := by
  have f0 := h.cellB.1
  have p0 := h.cellB.2.2.2.2.2
  obtain ⟨_, c1, _, _, c4, _, d6, c7⟩ := h.cellT hk
  have c6 := d6 (k * 12 + 1)
  have hk0 : decide ((k : Int) < 0) = false := by simp
  have hk1 : decide ((K.n : Int) ≤ (k : Int)) = false := by simp; omega
  have HC := hide (g_current K Y m k _ _ w h hk hp)
  have HF := hide (fun (w1 : World) => fetch (w1 := w1) (c := c) (a := a) h hk)
  have HPC : Hid ((m.th k).pc < 1000) := by have := (List.getElem?_eq_some_iff.1 hp).1; unfold Hid; omega
  clear h d6 hp hN
  go_enter Tryz.func79, Tryz.ntmps79
  go_wp2_with fail
  refine HC.out.mono ?_
  rintro e w1 ⟨rfl, hb1⟩
  obtain ⟨Y2, a2, b2, o2⟩ := HF.out w1 hb1
  obtain ⟨g1, g2⟩ := bcell hb1
  have f1 := (g1 _ 0 p0).trans f0
  have c11 := (g1 _ (k * 12 + 1) c7).trans c1
  have c16 := (g2 _ (k * 12 + 1) c7).trans c6
  have p1 : K.b < w1.heap.size := Nat.lt_of_lt_of_le p0 hb1.size
  have c17 : K.gt < w1.heap.size := Nat.lt_of_lt_of_le c7 hb1.size
  have A2 := hide a2
  have B2 := hide b2
  have O2 := hide o2
  clear a2 b2 o2 hb1 g1 g2 HC HF f0 c1 c4 c6
  generalize (m.th k).pc = pc at *
  have hpc := HPC.out
  obtain ⟨hc1, hc2, hc3, hc4, hc5, hc6, hc7, hc8⟩ := hc
  go_wp2_with fail
  go_region_with (go_at_call 103; refine (HX.out Y2 _ (A2.out.below keep_drew)).mono ?_; rintro e w3 ⟨rfl, Y3, a3, b3⟩; obtain ⟨o3, i3⟩ := carry O2.out ((GFr.of_below keep_drew).trans b3) in_new; obtain ⟨x0, x1, x2⟩ := in2 i3; have f3 := a3.cellB.1; have c34 := (a3.cellT hk).2.2.2.2.1; obtain ⟨s, hs, hsb⟩ := HS.out; rw [hs] at c34; have A3 := hide a3; have B3 := hide ((B2.out.trans (GFr.of_below keep_drew)).trans b3); clear a3 b3 o3 i3)
  all_goals
    go_wp2_with fail
    go_ret
    exact ⟨rfl, Y3, A3.out, B3.out⟩

set_option maxHeartbeats 2000000 in
theorem g_step_T (K : GK) (Y : GY) (m m2 : Mac) (k : Nat) (q a : Int) (w : World) (h : GAt K w Y m) (hk : k < K.n) (hp : (K.C k)[(m.th k).pc]? = some (84, a)) (hN : (K.C k).length ≤ 1000) (hqa : 0 ≤ q ∧ q < 1000 ∧ 0 ≤ a ∧ a < 1000) (HX : Hid (∀ Y2 w2, GAt K w2 Y2 (nextM m k) → Calls Tryz.prog 102 #[.pointer (some ⟨K.gt, k * 12, none⟩), .int .i64 (q + 1 + a)] w2 fun e w' => e = .returned (.tuple #[]) ∧ Went K Y2 w2 w' m2)) (HS : Hid (∃ s, (m2.th k).sta = s ∧ (s == 82) = false)) :
    Calls Tryz.prog 79 #[.pointer (some ⟨K.b, 0, none⟩), .int .i64 k, .int .i64 q] w fun e w' => e = .returned (.bool false) ∧ Went K Y w w' m2 := by
  have f0 := h.cellB.1
  have p0 := h.cellB.2.2.2.2.2
  obtain ⟨_, c1, _, _, c4, _, d6, c7⟩ := h.cellT hk
  have c6 := d6 (k * 12 + 1)
  have hk0 : decide ((k : Int) < 0) = false := by simp
  have hk1 : decide ((K.n : Int) ≤ (k : Int)) = false := by simp; omega
  have HC := hide (g_current K Y m k _ _ w h hk hp)
  have HF := hide (fun (w1 : World) => fetch (w1 := w1) (c := 84) (a := a) h hk)
  have HPC : Hid ((m.th k).pc < 1000) := by have := (List.getElem?_eq_some_iff.1 hp).1; unfold Hid; omega
  clear h d6 hp hN
  go_enter Tryz.func79, Tryz.ntmps79
  go_wp2_with fail
  refine HC.out.mono ?_
  rintro e w1 ⟨rfl, hb1⟩
  obtain ⟨Y2, a2, b2, o2⟩ := HF.out w1 hb1
  obtain ⟨g1, g2⟩ := bcell hb1
  have f1 := (g1 _ 0 p0).trans f0
  have c11 := (g1 _ (k * 12 + 1) c7).trans c1
  have c16 := (g2 _ (k * 12 + 1) c7).trans c6
  have p1 : K.b < w1.heap.size := Nat.lt_of_lt_of_le p0 hb1.size
  have c17 : K.gt < w1.heap.size := Nat.lt_of_lt_of_le c7 hb1.size
  have A2 := hide a2
  have B2 := hide b2
  have O2 := hide o2
  clear a2 b2 o2 hb1 g1 g2 HC HF f0 c1 c4 c6
  generalize (m.th k).pc = pc at *
  have hpc := HPC.out
  obtain ⟨hq1, hq2, hq3, hq4⟩ := hqa
  go_wp2_with fail
  go_region_with (go_at_call 102; rw [show IntKind.i64.wrap (q + 1) = q + 1 from wrap_small (by omega) (by omega), show IntKind.i64.wrap (q + 1 + a) = q + 1 + a from wrap_small (by omega) (by omega)]; refine (HX.out Y2 _ (A2.out.below keep_drew)).mono ?_; rintro e w3 ⟨rfl, Y3, a3, b3⟩; obtain ⟨o3, i3⟩ := carry O2.out ((GFr.of_below keep_drew).trans b3) in_new; obtain ⟨x0, x1, x2⟩ := in2 i3; have f3 := a3.cellB.1; have c34 := (a3.cellT hk).2.2.2.2.1; obtain ⟨s, hs, hsb⟩ := HS.out; rw [hs] at c34; have A3 := hide a3; have B3 := hide ((B2.out.trans (GFr.of_below keep_drew)).trans b3); clear a3 b3 o3 i3)
  all_goals
    go_wp2_with fail
    go_ret
    exact ⟨rfl, Y3, A3.out, B3.out⟩

set_option maxHeartbeats 2000000 in
theorem g_step_A82 (K : GK) (Y : GY) (m m2 : Mac) (k : Nat) (q a : Int) (w : World) (h : GAt K w Y m) (hk : k < K.n) (hp : (K.C k)[(m.th k).pc]? = some (65, a)) (hN : (K.C k).length ≤ 1000) (HX : Hid (∀ Y2 w2, GAt K w2 Y2 (nextM m k) → Calls Tryz.prog 98 #[.pointer (some ⟨K.b, 0, none⟩), .int .i64 k, .int .i64 a] w2 fun e w' => e = .returned (.tuple #[]) ∧ Went K Y2 w2 w' m2)) (HS : Hid ((m2.th k).sta = 82)) :
    Calls Tryz.prog 79 #[.pointer (some ⟨K.b, 0, none⟩), .int .i64 k, .int .i64 q] w fun e w' => e = .returned (.bool true) ∧ Went K Y w w' m2 := by
  have f0 := h.cellB.1
  have p0 := h.cellB.2.2.2.2.2
  obtain ⟨_, c1, _, _, c4, _, d6, c7⟩ := h.cellT hk
  have c6 := d6 (k * 12 + 1)
  have hk0 : decide ((k : Int) < 0) = false := by simp
  have hk1 : decide ((K.n : Int) ≤ (k : Int)) = false := by simp; omega
  have HC := hide (g_current K Y m k _ _ w h hk hp)
  have HF := hide (fun (w1 : World) => fetch (w1 := w1) (c := 65) (a := a) h hk)
  have HPC : Hid ((m.th k).pc < 1000) := by have := (List.getElem?_eq_some_iff.1 hp).1; unfold Hid; omega
  clear h d6 hp hN
  go_enter Tryz.func79, Tryz.ntmps79
  go_wp2_with fail
  refine HC.out.mono ?_
  rintro e w1 ⟨rfl, hb1⟩
  obtain ⟨Y2, a2, b2, o2⟩ := HF.out w1 hb1
  obtain ⟨g1, g2⟩ := bcell hb1
  have f1 := (g1 _ 0 p0).trans f0
  have c11 := (g1 _ (k * 12 + 1) c7).trans c1
  have c16 := (g2 _ (k * 12 + 1) c7).trans c6
  have p1 : K.b < w1.heap.size := Nat.lt_of_lt_of_le p0 hb1.size
  have c17 : K.gt < w1.heap.size := Nat.lt_of_lt_of_le c7 hb1.size
  have A2 := hide a2
  have B2 := hide b2
  have O2 := hide o2
  clear a2 b2 o2 hb1 g1 g2 HC HF f0 c1 c4 c6
  generalize (m.th k).pc = pc at *
  have hpc := HPC.out
  go_wp2_with fail
  refine (HX.out Y2 _ A2.out).mono ?_
  rintro e w3 ⟨rfl, Y3, a3, b3⟩
  obtain ⟨o3, i3⟩ := carry O2.out b3 in_new
  obtain ⟨x0, x1, x2⟩ := in2 i3
  have f3 := a3.cellB.1
  have c34 := (a3.cellT hk).2.2.2.2.1
  rw [HS.out] at c34
  have A3 := hide a3
  have B3 := hide (B2.out.trans b3)
  clear a3 b3 o3 i3 A2 B2 O2 HX
  go_wp2_with fail
  go_ret
  exact ⟨rfl, Y3, A3.out, B3.out⟩


set_option maxHeartbeats 2000000 in
theorem g_step_Ano (K : GK) (Y : GY) (m m2 : Mac) (k : Nat) (q a : Int) (w : World) (h : GAt K w Y m) (hk : k < K.n) (hp : (K.C k)[(m.th k).pc]? = some (65, a)) (hN : (K.C k).length ≤ 1000) (HX : Hid (∀ Y2 w2, GAt K w2 Y2 (nextM m k) → Calls Tryz.prog 98 #[.pointer (some ⟨K.b, 0, none⟩), .int .i64 k, .int .i64 a] w2 fun e w' => e = .returned (.tuple #[]) ∧ Went K Y2 w2 w' m2)) (HS : Hid (∃ s, (m2.th k).sta = s ∧ (s == 82) = false)) :
    Calls Tryz.prog 79 #[.pointer (some ⟨K.b, 0, none⟩), .int .i64 k, .int .i64 q] w fun e w' => e = .returned (.bool false) ∧ Went K Y w w' m2 := by
  have f0 := h.cellB.1
  have p0 := h.cellB.2.2.2.2.2
  obtain ⟨_, c1, _, _, c4, _, d6, c7⟩ := h.cellT hk
  have c6 := d6 (k * 12 + 1)
  have hk0 : decide ((k : Int) < 0) = false := by simp
  have hk1 : decide ((K.n : Int) ≤ (k : Int)) = false := by simp; omega
  have HC := hide (g_current K Y m k _ _ w h hk hp)
  have HF := hide (fun (w1 : World) => fetch (w1 := w1) (c := 65) (a := a) h hk)
  have HPC : Hid ((m.th k).pc < 1000) := by have := (List.getElem?_eq_some_iff.1 hp).1; unfold Hid; omega
  clear h d6 hp hN
  go_enter Tryz.func79, Tryz.ntmps79
  go_wp2_with fail
  refine HC.out.mono ?_
  rintro e w1 ⟨rfl, hb1⟩
  obtain ⟨Y2, a2, b2, o2⟩ := HF.out w1 hb1
  obtain ⟨g1, g2⟩ := bcell hb1
  have f1 := (g1 _ 0 p0).trans f0
  have c11 := (g1 _ (k * 12 + 1) c7).trans c1
  have c16 := (g2 _ (k * 12 + 1) c7).trans c6
  have p1 : K.b < w1.heap.size := Nat.lt_of_lt_of_le p0 hb1.size
  have c17 : K.gt < w1.heap.size := Nat.lt_of_lt_of_le c7 hb1.size
  have A2 := hide a2
  have B2 := hide b2
  have O2 := hide o2
  clear a2 b2 o2 hb1 g1 g2 HC HF f0 c1 c4 c6
  generalize (m.th k).pc = pc at *
  have hpc := HPC.out
  go_wp2_with fail
  refine (HX.out Y2 _ A2.out).mono ?_
  rintro e w3 ⟨rfl, Y3, a3, b3⟩
  obtain ⟨o3, i3⟩ := carry O2.out b3 in_new
  obtain ⟨x0, x1, x2⟩ := in2 i3
  have f3 := a3.cellB.1
  have c34 := (a3.cellT hk).2.2.2.2.1
  obtain ⟨s, hs, hsb⟩ := HS.out; rw [hs] at c34
  have A3 := hide a3
  have B3 := hide (B2.out.trans b3)
  clear a3 b3 o3 i3 A2 B2 O2 HX
  go_wp2_with fail
  go_ret
  exact ⟨rfl, Y3, A3.out, B3.out⟩


set_option maxHeartbeats 2000000 in
theorem g_step_R82 (K : GK) (Y : GY) (m m2 : Mac) (k : Nat) (q a : Int) (w : World) (h : GAt K w Y m) (hk : k < K.n) (hp : (K.C k)[(m.th k).pc]? = some (82, a)) (hN : (K.C k).length ≤ 1000) (HX : Hid (∀ Y2 w2, GAt K w2 Y2 (nextM m k) → Calls Tryz.prog 99 #[.pointer (some ⟨K.b, 0, none⟩), .int .i64 a] w2 fun e w' => e = .returned (.tuple #[]) ∧ Went K Y2 w2 w' m2)) (HS : Hid ((m2.th k).sta = 82)) :
    Calls Tryz.prog 79 #[.pointer (some ⟨K.b, 0, none⟩), .int .i64 k, .int .i64 q] w fun e w' => e = .returned (.bool true) ∧ Went K Y w w' m2 := by
  have f0 := h.cellB.1
  have p0 := h.cellB.2.2.2.2.2
  obtain ⟨_, c1, _, _, c4, _, d6, c7⟩ := h.cellT hk
  have c6 := d6 (k * 12 + 1)
  have hk0 : decide ((k : Int) < 0) = false := by simp
  have hk1 : decide ((K.n : Int) ≤ (k : Int)) = false := by simp; omega
  have HC := hide (g_current K Y m k _ _ w h hk hp)
  have HF := hide (fun (w1 : World) => fetch (w1 := w1) (c := 82) (a := a) h hk)
  have HPC : Hid ((m.th k).pc < 1000) := by have := (List.getElem?_eq_some_iff.1 hp).1; unfold Hid; omega
  clear h d6 hp hN
  go_enter Tryz.func79, Tryz.ntmps79
  go_wp2_with fail
  refine HC.out.mono ?_
  rintro e w1 ⟨rfl, hb1⟩
  obtain ⟨Y2, a2, b2, o2⟩ := HF.out w1 hb1
  obtain ⟨g1, g2⟩ := bcell hb1
  have f1 := (g1 _ 0 p0).trans f0
  have c11 := (g1 _ (k * 12 + 1) c7).trans c1
  have c16 := (g2 _ (k * 12 + 1) c7).trans c6
  have p1 : K.b < w1.heap.size := Nat.lt_of_lt_of_le p0 hb1.size
  have c17 : K.gt < w1.heap.size := Nat.lt_of_lt_of_le c7 hb1.size
  have A2 := hide a2
  have B2 := hide b2
  have O2 := hide o2
  clear a2 b2 o2 hb1 g1 g2 HC HF f0 c1 c4 c6
  generalize (m.th k).pc = pc at *
  have hpc := HPC.out
  go_wp2_with fail
  refine (HX.out Y2 _ A2.out).mono ?_
  rintro e w3 ⟨rfl, Y3, a3, b3⟩
  obtain ⟨o3, i3⟩ := carry O2.out b3 in_new
  obtain ⟨x0, x1, x2⟩ := in2 i3
  have f3 := a3.cellB.1
  have c34 := (a3.cellT hk).2.2.2.2.1
  rw [HS.out] at c34
  have A3 := hide a3
  have B3 := hide (B2.out.trans b3)
  clear a3 b3 o3 i3 A2 B2 O2 HX
  go_wp2_with fail
  go_ret
  exact ⟨rfl, Y3, A3.out, B3.out⟩


set_option maxHeartbeats 2000000 in
theorem g_step_Wno (K : GK) (Y : GY) (m m2 : Mac) (k : Nat) (q a : Int) (w : World) (h : GAt K w Y m) (hk : k < K.n) (hp : (K.C k)[(m.th k).pc]? = some (87, a)) (hN : (K.C k).length ≤ 1000) (HX : Hid (∀ Y2 w2, GAt K w2 Y2 (nextM m k) → Calls Tryz.prog 100 #[.pointer (some ⟨K.b, 0, none⟩), .int .i64 k, .int .i64 a] w2 fun e w' => e = .returned (.tuple #[]) ∧ Went K Y2 w2 w' m2)) (HS : Hid (∃ s, (m2.th k).sta = s ∧ (s == 82) = false)) :
    Calls Tryz.prog 79 #[.pointer (some ⟨K.b, 0, none⟩), .int .i64 k, .int .i64 q] w fun e w' => e = .returned (.bool false) ∧ Went K Y w w' m2 := by
  have f0 := h.cellB.1
  have p0 := h.cellB.2.2.2.2.2
  obtain ⟨_, c1, _, _, c4, _, d6, c7⟩ := h.cellT hk
  have c6 := d6 (k * 12 + 1)
  have hk0 : decide ((k : Int) < 0) = false := by simp
  have hk1 : decide ((K.n : Int) ≤ (k : Int)) = false := by simp; omega
  have HC := hide (g_current K Y m k _ _ w h hk hp)
  have HF := hide (fun (w1 : World) => fetch (w1 := w1) (c := 87) (a := a) h hk)
  have HPC : Hid ((m.th k).pc < 1000) := by have := (List.getElem?_eq_some_iff.1 hp).1; unfold Hid; omega
  clear h d6 hp hN
  go_enter Tryz.func79, Tryz.ntmps79
  go_wp2_with fail
  refine HC.out.mono ?_
  rintro e w1 ⟨rfl, hb1⟩
  obtain ⟨Y2, a2, b2, o2⟩ := HF.out w1 hb1
  obtain ⟨g1, g2⟩ := bcell hb1
  have f1 := (g1 _ 0 p0).trans f0
  have c11 := (g1 _ (k * 12 + 1) c7).trans c1
  have c16 := (g2 _ (k * 12 + 1) c7).trans c6
  have p1 : K.b < w1.heap.size := Nat.lt_of_lt_of_le p0 hb1.size
  have c17 : K.gt < w1.heap.size := Nat.lt_of_lt_of_le c7 hb1.size
  have A2 := hide a2
  have B2 := hide b2
  have O2 := hide o2
  clear a2 b2 o2 hb1 g1 g2 HC HF f0 c1 c4 c6
  generalize (m.th k).pc = pc at *
  have hpc := HPC.out
  go_wp2_with fail
  refine (HX.out Y2 _ A2.out).mono ?_
  rintro e w3 ⟨rfl, Y3, a3, b3⟩
  obtain ⟨o3, i3⟩ := carry O2.out b3 in_new
  obtain ⟨x0, x1, x2⟩ := in2 i3
  have f3 := a3.cellB.1
  have c34 := (a3.cellT hk).2.2.2.2.1
  obtain ⟨s, hs, hsb⟩ := HS.out; rw [hs] at c34
  have A3 := hide a3
  have B3 := hide (B2.out.trans b3)
  clear a3 b3 o3 i3 A2 B2 O2 HX
  go_wp2_with fail
  go_ret
  exact ⟨rfl, Y3, A3.out, B3.out⟩


set_option maxHeartbeats 2000000 in
theorem g_step_N82 (K : GK) (Y : GY) (m m2 : Mac) (k : Nat) (q a : Int) (w : World) (h : GAt K w Y m) (hk : k < K.n) (hp : (K.C k)[(m.th k).pc]? = some (78, a)) (hN : (K.C k).length ≤ 1000) (HX : Hid (∀ Y2 w2, GAt K w2 Y2 (nextM m k) → Calls Tryz.prog 101 #[.pointer (some ⟨K.b, 0, none⟩), .int .i64 a] w2 fun e w' => e = .returned (.tuple #[]) ∧ Went K Y2 w2 w' m2)) (HS : Hid ((m2.th k).sta = 82)) :
    Calls Tryz.prog 79 #[.pointer (some ⟨K.b, 0, none⟩), .int .i64 k, .int .i64 q] w fun e w' => e = .returned (.bool true) ∧ Went K Y w w' m2 := by
  have f0 := h.cellB.1
  have p0 := h.cellB.2.2.2.2.2
  obtain ⟨_, c1, _, _, c4, _, d6, c7⟩ := h.cellT hk
  have c6 := d6 (k * 12 + 1)
  have hk0 : decide ((k : Int) < 0) = false := by simp
  have hk1 : decide ((K.n : Int) ≤ (k : Int)) = false := by simp; omega
  have HC := hide (g_current K Y m k _ _ w h hk hp)
  have HF := hide (fun (w1 : World) => fetch (w1 := w1) (c := 78) (a := a) h hk)
  have HPC : Hid ((m.th k).pc < 1000) := by have := (List.getElem?_eq_some_iff.1 hp).1; unfold Hid; omega
  clear h d6 hp hN
  go_enter Tryz.func79, Tryz.ntmps79
  go_wp2_with fail
  refine HC.out.mono ?_
  rintro e w1 ⟨rfl, hb1⟩
  obtain ⟨Y2, a2, b2, o2⟩ := HF.out w1 hb1
  obtain ⟨g1, g2⟩ := bcell hb1
  have f1 := (g1 _ 0 p0).trans f0
  have c11 := (g1 _ (k * 12 + 1) c7).trans c1
  have c16 := (g2 _ (k * 12 + 1) c7).trans c6
  have p1 : K.b < w1.heap.size := Nat.lt_of_lt_of_le p0 hb1.size
  have c17 : K.gt < w1.heap.size := Nat.lt_of_lt_of_le c7 hb1.size
  have A2 := hide a2
  have B2 := hide b2
  have O2 := hide o2
  clear a2 b2 o2 hb1 g1 g2 HC HF f0 c1 c4 c6
  generalize (m.th k).pc = pc at *
  have hpc := HPC.out
  go_wp2_with fail
  refine (HX.out Y2 _ A2.out).mono ?_
  rintro e w3 ⟨rfl, Y3, a3, b3⟩
  obtain ⟨o3, i3⟩ := carry O2.out b3 in_new
  obtain ⟨x0, x1, x2⟩ := in2 i3
  have f3 := a3.cellB.1
  have c34 := (a3.cellT hk).2.2.2.2.1
  rw [HS.out] at c34
  have A3 := hide a3
  have B3 := hide (B2.out.trans b3)
  clear a3 b3 o3 i3 A2 B2 O2 HX
  go_wp2_with fail
  go_ret
  exact ⟨rfl, Y3, A3.out, B3.out⟩

set_option maxHeartbeats 2000000 in
theorem g_step_g (K : GK) (Y : GY) (m m2 : Mac) (k : Nat) (q : Int) (i : Nat) (w : World) (h : GAt K w Y m) (hk : k < K.n) (hp : (K.C k)[(m.th k).pc]? = some (103, (i : Int))) (hN : (K.C k).length ≤ 1000) (hi : i < 8) (HX : Hid (∀ Y2 w2, GAt K w2 Y2 (nextM m k) → Calls Tryz.prog 94 #[.pointer (some ⟨K.gt, k * 12, none⟩), .int .i64 (m.cells i)] w2 fun e w' => e = .returned (.tuple #[]) ∧ Went K Y2 w2 w' m2)) (HS : Hid ((m2.th k).sta = 82)) :
    Calls Tryz.prog 79 #[.pointer (some ⟨K.b, 0, none⟩), .int .i64 k, .int .i64 q] w fun e w' => e = .returned (.bool true) ∧ Went K Y w w' m2 := by
  have f0 := h.cellB.1
  have p0 := h.cellB.2.2.2.2.2
  obtain ⟨_, c1, _, _, c4, _, d6, c7⟩ := h.cellT hk
  have c6 := d6 (k * 12 + 1)
  have hk0 : decide ((k : Int) < 0) = false := by simp
  have hk1 : decide ((K.n : Int) ≤ (k : Int)) = false := by simp; omega
  have HC := hide (g_current K Y m k _ _ w h hk hp)
  have HF := hide (fun (w1 : World) => fetch (w1 := w1) (c := 103) (a := (i : Int)) h hk)
  have HPC : Hid ((m.th k).pc < 1000) := by have := (List.getElem?_eq_some_iff.1 hp).1; unfold Hid; omega
  clear h d6 hp hN
  go_enter Tryz.func79, Tryz.ntmps79
  go_wp2_with fail
  refine HC.out.mono ?_
  rintro e w1 ⟨rfl, hb1⟩
  obtain ⟨Y2, a2, b2, o2⟩ := HF.out w1 hb1
  obtain ⟨g1, g2⟩ := bcell hb1
  have f1 := (g1 _ 0 p0).trans f0
  have c11 := (g1 _ (k * 12 + 1) c7).trans c1
  have c16 := (g2 _ (k * 12 + 1) c7).trans c6
  have p1 : K.b < w1.heap.size := Nat.lt_of_lt_of_le p0 hb1.size
  have c17 : K.gt < w1.heap.size := Nat.lt_of_lt_of_le c7 hb1.size
  have A2 := hide a2
  have B2 := hide b2
  have O2 := hide o2
  clear a2 b2 o2 hb1 g1 g2 HC HF f0 c1 c4 c6
  generalize (m.th k).pc = pc at *
  have hpc := HPC.out
  have HG := hide (g_load K Y2 _ i _ A2.out hi)
  rw [show (nextM m k).cells i = m.cells i from rfl] at HG
  go_wp2_with fail
  refine HG.out.mono ?_
  rintro e w4 ⟨rfl, h4⟩
  replace h4 := h4.symm
  subst h4
  generalize m.cells i = cv at *
  clear HG
  go_wp2_with fail
  refine (HX.out Y2 _ A2.out).mono ?_
  rintro e w3 ⟨rfl, Y3, a3, b3⟩
  obtain ⟨o3, i3⟩ := carry O2.out b3 in_new
  obtain ⟨x0, x1, x2⟩ := in2 i3
  have f3 := a3.cellB.1
  have c34 := (a3.cellT hk).2.2.2.2.1
  rw [HS.out] at c34
  have A3 := hide a3
  have B3 := hide (B2.out.trans b3)
  clear a3 b3 o3 i3 A2 B2 O2 HX
  go_wp2_with fail
  go_ret
  exact ⟨rfl, Y3, A3.out, B3.out⟩

set_option maxHeartbeats 2000000 in
theorem g_step_s (K : GK) (Y : GY) (m m2 : Mac) (k : Nat) (q : Int) (a : Int) (w : World) (h : GAt K w Y m) (hk : k < K.n) (hp : (K.C k)[(m.th k).pc]? = some (115, a)) (hN : (K.C k).length ≤ 1000) (m3 : Mac) (v : Int) (HP : Hid (∀ Y2 w2, GAt K w2 Y2 (nextM m k) → Calls Tryz.prog 95 #[.pointer (some ⟨K.gt, k * 12, none⟩)] w2 fun e w' => e = .returned (.int .i64 v) ∧ Went K Y2 w2 w' m3)) (HX : Hid (∀ Y2 w2, GAt K w2 Y2 m3 → Calls Tryz.prog 96 #[.pointer (some ⟨K.b, 0, none⟩), .int .i64 a, .int .i64 v] w2 fun e w' => e = .returned (.tuple #[]) ∧ Went K Y2 w2 w' m2)) (HS : Hid ((m2.th k).sta = 82)) :
    Calls Tryz.prog 79 #[.pointer (some ⟨K.b, 0, none⟩), .int .i64 k, .int .i64 q] w fun e w' => e = .returned (.bool true) ∧ Went K Y w w' m2 := by
  have f0 := h.cellB.1
  have p0 := h.cellB.2.2.2.2.2
  obtain ⟨_, c1, _, _, c4, _, d6, c7⟩ := h.cellT hk
  have c6 := d6 (k * 12 + 1)
  have hk0 : decide ((k : Int) < 0) = false := by simp
  have hk1 : decide ((K.n : Int) ≤ (k : Int)) = false := by simp; omega
  have HC := hide (g_current K Y m k _ _ w h hk hp)
  have HF := hide (fun (w1 : World) => fetch (w1 := w1) (c := 115) (a := a) h hk)
  have HPC : Hid ((m.th k).pc < 1000) := by have := (List.getElem?_eq_some_iff.1 hp).1; unfold Hid; omega
  clear h d6 hp hN
  go_enter Tryz.func79, Tryz.ntmps79
  go_wp2_with fail
  refine HC.out.mono ?_
  rintro e w1 ⟨rfl, hb1⟩
  obtain ⟨Y2, a2, b2, o2⟩ := HF.out w1 hb1
  obtain ⟨g1, g2⟩ := bcell hb1
  have f1 := (g1 _ 0 p0).trans f0
  have c11 := (g1 _ (k * 12 + 1) c7).trans c1
  have c16 := (g2 _ (k * 12 + 1) c7).trans c6
  have p1 : K.b < w1.heap.size := Nat.lt_of_lt_of_le p0 hb1.size
  have c17 : K.gt < w1.heap.size := Nat.lt_of_lt_of_le c7 hb1.size
  have A2 := hide a2
  have B2 := hide b2
  have O2 := hide o2
  clear a2 b2 o2 hb1 g1 g2 HC HF f0 c1 c4 c6
  generalize (m.th k).pc = pc at *
  have hpc := HPC.out
  go_wp2_with fail
  refine (HP.out Y2 _ A2.out).mono ?_
  rintro e w4 ⟨rfl, Y4, a4, b4⟩
  obtain ⟨o4, i4⟩ := carry O2.out b4 in_new
  obtain ⟨v0, v1, v2⟩ := in2 i4
  have A4 := hide a4
  have B4 := hide (B2.out.trans b4)
  have O4 := hide o4
  have I4 := hide i4
  clear a4 b4 o4 i4 A2 B2 O2 HP
  go_wp2_with fail
  refine (HX.out Y4 _ A4.out).mono ?_
  rintro e w3 ⟨rfl, Y3, a3, b3⟩
  obtain ⟨o3, i3⟩ := carry O4.out b3 I4.out
  obtain ⟨x0, x1, x2⟩ := in2 i3
  have f3 := a3.cellB.1
  have c34 := (a3.cellT hk).2.2.2.2.1
  rw [HS.out] at c34
  have A3 := hide a3
  have B3 := hide (B4.out.trans b3)
  clear a3 b3 o3 i3 A4 B4 O4 I4 HX
  go_wp2_with fail
  go_ret
  exact ⟨rfl, Y3, A3.out, B3.out⟩

set_option maxHeartbeats 2000000 in
theorem g_step_pr (K : GK) (Y : GY) (m m2 : Mac) (k : Nat) (q : Int) (a : Int) (w : World) (h : GAt K w Y m) (hk : k < K.n) (hp : (K.C k)[(m.th k).pc]? = some (112, a)) (hN : (K.C k).length ≤ 1000) (m3 : Mac) (v : Int) (HP : Hid (∀ Y2 w2, GAt K w2 Y2 (nextM m k) → Calls Tryz.prog 95 #[.pointer (some ⟨K.gt, k * 12, none⟩)] w2 fun e w' => e = .returned (.int .i64 v) ∧ Went K Y2 w2 w' m3)) (HX : Hid (∀ Y2 w2, GAt K w2 Y2 m3 → Calls Tryz.prog 97 #[.pointer (some ⟨K.b, 0, none⟩), .int .i64 v] w2 fun e w' => e = .returned (.tuple #[]) ∧ Went K Y2 w2 w' m2)) (HS : Hid ((m2.th k).sta = 82)) :
    Calls Tryz.prog 79 #[.pointer (some ⟨K.b, 0, none⟩), .int .i64 k, .int .i64 q] w fun e w' => e = .returned (.bool true) ∧ Went K Y w w' m2 := by
  have f0 := h.cellB.1
  have p0 := h.cellB.2.2.2.2.2
  obtain ⟨_, c1, _, _, c4, _, d6, c7⟩ := h.cellT hk
  have c6 := d6 (k * 12 + 1)
  have hk0 : decide ((k : Int) < 0) = false := by simp
  have hk1 : decide ((K.n : Int) ≤ (k : Int)) = false := by simp; omega
  have HC := hide (g_current K Y m k _ _ w h hk hp)
  have HF := hide (fun (w1 : World) => fetch (w1 := w1) (c := 112) (a := a) h hk)
  have HPC : Hid ((m.th k).pc < 1000) := by have := (List.getElem?_eq_some_iff.1 hp).1; unfold Hid; omega
  clear h d6 hp hN
  go_enter Tryz.func79, Tryz.ntmps79
  go_wp2_with fail
  refine HC.out.mono ?_
  rintro e w1 ⟨rfl, hb1⟩
  obtain ⟨Y2, a2, b2, o2⟩ := HF.out w1 hb1
  obtain ⟨g1, g2⟩ := bcell hb1
  have f1 := (g1 _ 0 p0).trans f0
  have c11 := (g1 _ (k * 12 + 1) c7).trans c1
  have c16 := (g2 _ (k * 12 + 1) c7).trans c6
  have p1 : K.b < w1.heap.size := Nat.lt_of_lt_of_le p0 hb1.size
  have c17 : K.gt < w1.heap.size := Nat.lt_of_lt_of_le c7 hb1.size
  have A2 := hide a2
  have B2 := hide b2
  have O2 := hide o2
  clear a2 b2 o2 hb1 g1 g2 HC HF f0 c1 c4 c6
  generalize (m.th k).pc = pc at *
  have hpc := HPC.out
  go_wp2_with fail
  refine (HP.out Y2 _ A2.out).mono ?_
  rintro e w4 ⟨rfl, Y4, a4, b4⟩
  obtain ⟨o4, i4⟩ := carry O2.out b4 in_new
  obtain ⟨v0, v1, v2⟩ := in2 i4
  have A4 := hide a4
  have B4 := hide (B2.out.trans b4)
  have O4 := hide o4
  have I4 := hide i4
  clear a4 b4 o4 i4 A2 B2 O2 HP
  go_wp2_with fail
  refine (HX.out Y4 _ A4.out).mono ?_
  rintro e w3 ⟨rfl, Y3, a3, b3⟩
  obtain ⟨o3, i3⟩ := carry O4.out b3 I4.out
  obtain ⟨x0, x1, x2⟩ := in2 i3
  have f3 := a3.cellB.1
  have c34 := (a3.cellT hk).2.2.2.2.1
  rw [HS.out] at c34
  have A3 := hide a3
  have B3 := hide (B4.out.trans b3)
  clear a3 b3 o3 i3 A4 B4 O4 I4 HX
  go_wp2_with fail
  go_ret
  exact ⟨rfl, Y3, A3.out, B3.out⟩

end Go.Proofs.YtjbmflgamogefabGreat
