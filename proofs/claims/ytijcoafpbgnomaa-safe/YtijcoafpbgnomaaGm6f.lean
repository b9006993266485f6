/- The code's machine: step. -/
import Derived.Test.YtijcoafpbgnomaaGm6
namespace Go.Proofs.Ytijcoafpbgnomaa
open Go.RowKit

set_option maxHeartbeats 2000000 in
theorem g_step_s (K : GK) (Y : GY) (m m2 : Mac) (k : Nat) (q : Int) (a : Int) (w : World) (h : GAt K w Y m) (hk : k < K.n) (hp : (K.C k)[(m.th k).pc]? = some (115, a)) (hN : (K.C k).length ≤ 1000) (m3 : Mac) (v : Int) (HP : Hid (∀ Y2 w2, GAt K w2 Y2 (nextM m k) → Calls Try.prog 107 #[.pointer (some ⟨K.gt, k * 11, none⟩)] w2 fun e w' => e = .returned (.int .i64 v) ∧ Went K Y2 w2 w' m3)) (HX : Hid (∀ Y2 w2, GAt K w2 Y2 m3 → Calls Try.prog 108 #[.pointer (some ⟨K.b, 0, none⟩), .int .i64 a, .int .i64 v] w2 fun e w' => e = .returned (.tuple #[]) ∧ Went K Y2 w2 w' m2)) (HS : Hid ((m2.th k).sta = 82)) :
    Calls Try.prog 99 #[.pointer (some ⟨K.b, 0, none⟩), .int .i64 k, .int .i64 q] w fun e w' => e = .returned (.bool true) ∧ Went K Y w w' m2 := by
  have f0 := h.cellB.1
  have p0 := h.cellB.2.2.2.2.2
  obtain ⟨_, c1, _, _, c4, _, d6, c7⟩ := h.cellT hk
  have c6 := d6 (k * 11 + 1)
  have hk0 : decide ((k : Int) < 0) = false := by simp
  have hk1 : decide ((K.n : Int) ≤ (k : Int)) = false := by simp; omega
  have HC := hide (g_current K Y m k _ _ w h hk hp)
  have HF := hide (fun (w1 : World) => fetch (w1 := w1) (c := 115) (a := a) h hk)
  have HPC : Hid ((m.th k).pc < 1000) := by have := (List.getElem?_eq_some_iff.1 hp).1; unfold Hid; omega
  clear h d6 hp hN
  go_enter Try.func99, Try.ntmps99
  go_wp2_with fail
  refine HC.out.mono ?_
  rintro e w1 ⟨rfl, hb1⟩
  obtain ⟨Y2, a2, b2, o2⟩ := HF.out w1 hb1
  obtain ⟨g1, g2⟩ := bcell hb1
  have f1 := (g1 _ 0 p0).trans f0
  have c11 := (g1 _ (k * 11 + 1) c7).trans c1
  have c16 := (g2 _ (k * 11 + 1) c7).trans c6
  have p1 : K.b < w1.heap.size := Nat.lt_of_lt_of_le p0 hb1.size
  have c17 : K.gt < w1.heap.size := Nat.lt_of_lt_of_le c7 hb1.size
  have A2 := hide a2
  have B2 := hide b2
  have O2 := hide o2
  clear a2 b2 o2 hb1 g1 g2 HC HF f0 c1 c4 c6
  generalize (m.th k).pc = pc at *
  have hpc := HPC.out
  go_wp2_with fail
  refine (HP.out Y2 _ A2.out).mono ?_
  rintro e w4 ⟨rfl, Y4, a4, b4⟩
  obtain ⟨o4, i4⟩ := carry O2.out b4 in_new
  obtain ⟨v0, v1, v2⟩ := in2 i4
  have A4 := hide a4
  have B4 := hide (B2.out.trans b4)
  have O4 := hide o4
  have I4 := hide i4
  clear a4 b4 o4 i4 A2 B2 O2 HP
  go_wp2_with fail
  refine (HX.out Y4 _ A4.out).mono ?_
  rintro e w3 ⟨rfl, Y3, a3, b3⟩
  obtain ⟨o3, i3⟩ := carry O4.out b3 I4.out
  obtain ⟨x0, x1, x2⟩ := in2 i3
  have f3 := a3.cellB.1
  have c34 := (a3.cellT hk).2.2.2.2.1
  rw [HS.out] at c34
  have A3 := hide a3
  have B3 := hide (B4.out.trans b3)
  clear a3 b3 o3 i3 A4 B4 O4 I4 HX
  go_wp2_with fail
  go_ret
  exact ⟨rfl, Y3, A3.out, B3.out⟩

set_option maxHeartbeats 2000000 in
theorem g_step_pr (K : GK) (Y : GY) (m m2 : Mac) (k : Nat) (q : Int) (a : Int) (w : World) (h : GAt K w Y m) (hk : k < K.n) (hp : (K.C k)[(m.th k).pc]? = some (112, a)) (hN : (K.C k).length ≤ 1000) (m3 : Mac) (v : Int) (HP : Hid (∀ Y2 w2, GAt K w2 Y2 (nextM m k) → Calls Try.prog 107 #[.pointer (some ⟨K.gt, k * 11, none⟩)] w2 fun e w' => e = .returned (.int .i64 v) ∧ Went K Y2 w2 w' m3)) (HX : Hid (∀ Y2 w2, GAt K w2 Y2 m3 → Calls Try.prog 109 #[.pointer (some ⟨K.b, 0, none⟩), .int .i64 v] w2 fun e w' => e = .returned (.tuple #[]) ∧ Went K Y2 w2 w' m2)) (HS : Hid ((m2.th k).sta = 82)) :
    Calls Try.prog 99 #[.pointer (some ⟨K.b, 0, none⟩), .int .i64 k, .int .i64 q] w fun e w' => e = .returned (.bool true) ∧ Went K Y w w' m2 := by
  have f0 := h.cellB.1
  have p0 := h.cellB.2.2.2.2.2
  obtain ⟨_, c1, _, _, c4, _, d6, c7⟩ := h.cellT hk
  have c6 := d6 (k * 11 + 1)
  have hk0 : decide ((k : Int) < 0) = false := by simp
  have hk1 : decide ((K.n : Int) ≤ (k : Int)) = false := by simp; omega
  have HC := hide (g_current K Y m k _ _ w h hk hp)
  have HF := hide (fun (w1 : World) => fetch (w1 := w1) (c := 112) (a := a) h hk)
  have HPC : Hid ((m.th k).pc < 1000) := by have := (List.getElem?_eq_some_iff.1 hp).1; unfold Hid; omega
  clear h d6 hp hN
  go_enter Try.func99, Try.ntmps99
  go_wp2_with fail
  refine HC.out.mono ?_
  rintro e w1 ⟨rfl, hb1⟩
  obtain ⟨Y2, a2, b2, o2⟩ := HF.out w1 hb1
  obtain ⟨g1, g2⟩ := bcell hb1
  have f1 := (g1 _ 0 p0).trans f0
  have c11 := (g1 _ (k * 11 + 1) c7).trans c1
  have c16 := (g2 _ (k * 11 + 1) c7).trans c6
  have p1 : K.b < w1.heap.size := Nat.lt_of_lt_of_le p0 hb1.size
  have c17 : K.gt < w1.heap.size := Nat.lt_of_lt_of_le c7 hb1.size
  have A2 := hide a2
  have B2 := hide b2
  have O2 := hide o2
  clear a2 b2 o2 hb1 g1 g2 HC HF f0 c1 c4 c6
  generalize (m.th k).pc = pc at *
  have hpc := HPC.out
  go_wp2_with fail
  refine (HP.out Y2 _ A2.out).mono ?_
  rintro e w4 ⟨rfl, Y4, a4, b4⟩
  obtain ⟨o4, i4⟩ := carry O2.out b4 in_new
  obtain ⟨v0, v1, v2⟩ := in2 i4
  have A4 := hide a4
  have B4 := hide (B2.out.trans b4)
  have O4 := hide o4
  have I4 := hide i4
  clear a4 b4 o4 i4 A2 B2 O2 HP
  go_wp2_with fail
  refine (HX.out Y4 _ A4.out).mono ?_
  rintro e w3 ⟨rfl, Y3, a3, b3⟩
  obtain ⟨o3, i3⟩ := carry O4.out b3 I4.out
  obtain ⟨x0, x1, x2⟩ := in2 i3
  have f3 := a3.cellB.1
  have c34 := (a3.cellT hk).2.2.2.2.1
  rw [HS.out] at c34
  have A3 := hide a3
  have B3 := hide (B4.out.trans b3)
  clear a3 b3 o3 i3 A4 B4 O4 I4 HX
  go_wp2_with fail
  go_ret
  exact ⟨rfl, Y3, A3.out, B3.out⟩

end Go.Proofs.Ytijcoafpbgnomaa
