/- The code's threads: perform. -/
import Derived.Test.YtjbmflgamogefabGreatGm2
namespace Go.Proofs.YtjbmflgamogefabGreat
open Go.RowKit

theorem Went.alloc {K : GK} {Y : GY} {w w' : World} {m : Mac} (h : Went K Y w w' m) (o : Obj) : Went K Y w (w'.alloc o) m := by
  obtain ⟨Y', h1, h2⟩ := h
  have hb : Below w'.heap.size w' (w'.alloc o) := (Below.refl _ _).alloc (Nat.le_refl _) _
  exact ⟨Y', h1.below hb, h2.trans (GFr.of_below hb)⟩
/-- A thread behind its Z. -/
def zTh (t : Th) (i : Nat) : Th := { t with pc := if topOf t.stk = 0 then i else t.pc, stk := t.stk.dropLast }
theorem g_jumpIfZero' (K : GK) (Y : GY) (m : Mac) (k i : Nat) (w : World) (h : GAt K w Y m) (hk : k < K.n) (hx : ¬ (m.th k).stk = []) (hl : (m.th k).stk.length ≤ 6) :
    Calls Tryz.prog 108 #[.pointer (some ⟨K.gt, k * 12, none⟩), .int .i64 i] w fun e w' => e = .returned (.tuple #[]) ∧ Went K Y w w' (stepTh m k (zTh (m.th k) i)) := g_jumpIfZero K Y m k i w h hk hx hl
set_option maxHeartbeats 1000000 in
theorem g_perform_k (K : GK) (Y : GY) (m : Mac) (k : Nat) (a : Int) (w : World) (h : GAt K w Y m) (hk : k < K.n) (hl : (m.th k).stk.length < 6) :
    Calls Tryz.prog 103 #[.pointer (some ⟨K.gt, k * 12, none⟩), .agg #[.int .u8 107, .int .i64 a]] w fun e w' => e = .returned (.tuple #[]) ∧ Went K Y w w' (stepTh m k { m.th k with stk := (m.th k).stk ++ [a] }) := by
  have hb : Below w.heap.size w (w.alloc (.cells #[.int .u8 107, .int .i64 a] 115)) := (Below.refl _ _).alloc (Nat.le_refl _) _
  have HB := hide hb
  have HP := hide (g_push K Y m k a _ (h.below hb) hk hl)
  clear h hb
  go_enter Tryz.func103, Tryz.ntmps103
  go_wp2_with fail
  refine HP.out.mono ?_
  rintro e w1 ⟨rfl, Y1, a1, b1⟩
  have A1 := hide a1
  have B1 := hide b1
  clear a1 b1 HP
  go_wp2_with fail
  go_end0
  exact ⟨rfl, Y1, A1.out, (GFr.of_below HB.out).trans B1.out⟩

set_option maxHeartbeats 1000000 in
theorem g_perform_add (K : GK) (Y : GY) (m : Mac) (k : Nat) (a : Int) (w : World) (h : GAt K w Y m) (hk : k < K.n) (hx : ¬ (m.th k).stk = []) (hx2 : ¬ (m.th k).stk.dropLast = []) (hw : ∀ x, x ∈ (m.th k).stk → 0 ≤ x ∧ x < 1000) (hl : (m.th k).stk.length ≤ 6) :
    Calls Tryz.prog 103 #[.pointer (some ⟨K.gt, k * 12, none⟩), .agg #[.int .u8 43, .int .i64 a]] w fun e w' => e = .returned (.tuple #[]) ∧ Went K Y w w' (stepTh m k { m.th k with stk := (m.th k).stk.dropLast.dropLast ++ [(topOf (m.th k).stk.dropLast + topOf (m.th k).stk) % 1000] }) := by
  have hb : Below w.heap.size w (w.alloc (.cells #[.int .u8 43, .int .i64 a] 115)) := (Below.refl _ _).alloc (Nat.le_refl _) _
  have HB := hide hb
  have HP := hide (g_add K Y m k _ (h.below hb) hk hx hx2 hw hl)
  clear h hb
  go_enter Tryz.func103, Tryz.ntmps103
  go_wp2_with fail
  refine HP.out.mono ?_
  rintro e w1 ⟨rfl, Y1, a1, b1⟩
  have A1 := hide a1
  have B1 := hide b1
  clear a1 b1 HP
  go_wp2_with fail
  go_end0
  exact ⟨rfl, Y1, A1.out, (GFr.of_below HB.out).trans B1.out⟩

set_option maxHeartbeats 1000000 in
theorem g_perform_sub (K : GK) (Y : GY) (m : Mac) (k : Nat) (a : Int) (w : World) (h : GAt K w Y m) (hk : k < K.n) (hx : ¬ (m.th k).stk = []) (hx2 : ¬ (m.th k).stk.dropLast = []) (hw : ∀ x, x ∈ (m.th k).stk → 0 ≤ x ∧ x < 1000) (hl : (m.th k).stk.length ≤ 6) :
    Calls Tryz.prog 103 #[.pointer (some ⟨K.gt, k * 12, none⟩), .agg #[.int .u8 45, .int .i64 a]] w fun e w' => e = .returned (.tuple #[]) ∧ Went K Y w w' (stepTh m k { m.th k with stk := (m.th k).stk.dropLast.dropLast ++ [(topOf (m.th k).stk.dropLast - topOf (m.th k).stk + 1000) % 1000] }) := by
  have hb : Below w.heap.size w (w.alloc (.cells #[.int .u8 45, .int .i64 a] 115)) := (Below.refl _ _).alloc (Nat.le_refl _) _
  have HB := hide hb
  have HP := hide (g_subtract K Y m k _ (h.below hb) hk hx hx2 hw hl)
  clear h hb
  go_enter Tryz.func103, Tryz.ntmps103
  go_wp2_with fail
  refine HP.out.mono ?_
  rintro e w1 ⟨rfl, Y1, a1, b1⟩
  have A1 := hide a1
  have B1 := hide b1
  clear a1 b1 HP
  go_wp2_with fail
  go_end0
  exact ⟨rfl, Y1, A1.out, (GFr.of_below HB.out).trans B1.out⟩

set_option maxHeartbeats 1000000 in
theorem g_perform_Z (K : GK) (Y : GY) (m : Mac) (k : Nat) (i : Nat) (w : World) (h : GAt K w Y m) (hk : k < K.n) (hx : ¬ (m.th k).stk = []) (hl : (m.th k).stk.length ≤ 6) :
    Calls Tryz.prog 103 #[.pointer (some ⟨K.gt, k * 12, none⟩), .agg #[.int .u8 90, .int .i64 i]] w fun e w' => e = .returned (.tuple #[]) ∧ Went K Y w w' (stepTh m k (zTh (m.th k) i)) := by
  have hb : Below w.heap.size w (w.alloc (.cells #[.int .u8 90, .int .i64 i] 115)) := (Below.refl _ _).alloc (Nat.le_refl _) _
  have HB := hide hb
  have HP := hide (g_jumpIfZero' K Y m k i _ (h.below hb) hk hx hl)
  clear h hb
  go_enter Tryz.func103, Tryz.ntmps103
  go_wp2_with fail
  refine HP.out.mono ?_
  rintro e w1 ⟨rfl, Y1, a1, b1⟩
  have A1 := hide a1
  have B1 := hide b1
  clear a1 b1 HP
  go_wp2_with fail
  go_end0
  exact ⟨rfl, Y1, A1.out, (GFr.of_below HB.out).trans B1.out⟩

set_option maxHeartbeats 1000000 in
theorem g_perform_J (K : GK) (Y : GY) (m : Mac) (k : Nat) (i : Nat) (w : World) (h : GAt K w Y m) (hk : k < K.n) :
    Calls Tryz.prog 103 #[.pointer (some ⟨K.gt, k * 12, none⟩), .agg #[.int .u8 74, .int .i64 i]] w fun e w' => e = .returned (.tuple #[]) ∧ Went K Y w w' (stepTh m k { m.th k with pc := i }) := by
  have hb : Below w.heap.size w (w.alloc (.cells #[.int .u8 74, .int .i64 i] 115)) := (Below.refl _ _).alloc (Nat.le_refl _) _
  obtain ⟨_, c1, _, _, c4, _, d6, c7⟩ := h.cellT hk
  have c6 := d6 (k * 12 + 1)
  have FIN := hide (h.toPc (p := i) hk)
  clear h hb d6
  go_enter Tryz.func103, Tryz.ntmps103
  go_wp2_with fail
  go_end0
  exact ⟨rfl, FIN.out.alloc _⟩

set_option maxHeartbeats 1000000 in
theorem g_perform_X (K : GK) (Y : GY) (m : Mac) (k : Nat) (a : Int) (w : World) (h : GAt K w Y m) (hk : k < K.n) :
    Calls Tryz.prog 103 #[.pointer (some ⟨K.gt, k * 12, none⟩), .agg #[.int .u8 88, .int .i64 a]] w fun e w' => e = .returned (.tuple #[]) ∧ Went K Y w w' (stepTh m k { m.th k with sta := 68 }) := by
  have hb : Below w.heap.size w (w.alloc (.cells #[.int .u8 88, .int .i64 a] 115)) := (Below.refl _ _).alloc (Nat.le_refl _) _
  obtain ⟨_, c1, _, _, c4, _, d6, c7⟩ := h.cellT hk
  have c6 := d6 (k * 12 + 9)
  have FIN := hide (h.toSta (s := 68) hk)
  clear h hb d6
  go_enter Tryz.func103, Tryz.ntmps103
  go_wp2_with fail
  go_end0
  exact ⟨rfl, FIN.out.alloc _⟩

set_option maxHeartbeats 1000000 in
theorem g_perform_Y (K : GK) (Y : GY) (m : Mac) (k : Nat) (c a : Int) (w : World) (h : GAt K w Y m) (hc : (c == 107) = false ∧ (c == 43) = false ∧ (c == 45) = false ∧ (c == 74) = false ∧ (c == 90) = false ∧ (c == 88) = false) :
    Calls Tryz.prog 103 #[.pointer (some ⟨K.gt, k * 12, none⟩), .agg #[.int .u8 c, .int .i64 a]] w fun e w' => e = .returned (.tuple #[]) ∧ Went K Y w w' m := by
  have hb : Below w.heap.size w (w.alloc (.cells #[.int .u8 c, .int .i64 a] 115)) := (Below.refl _ _).alloc (Nat.le_refl _) _
  have h0 := hide (h.below hb)
  have HB := hide hb
  obtain ⟨hc1, hc2, hc3, hc4, hc5, hc6⟩ := hc
  clear h hb
  go_enter Tryz.func103, Tryz.ntmps103
  go_wp2_with fail
  go_end0
  exact ⟨rfl, Y, h0.out, GFr.of_below HB.out⟩

end Go.Proofs.YtjbmflgamogefabGreat
