/- The code's machine: print. -/
import Derived.Test.YtjbmflgamogefabGm5
namespace Go.Proofs.Ytjbmflgamogefab
open Go.RowKit

set_option maxHeartbeats 2000000 in
theorem g_print (K : GK) (Y : GY) (m : Mac) (v : Int) (w : World) (h : GAt K w Y m) (hv : 0 ≤ v ∧ v < 1000) (hl : m.out.length ≤ 100000) :
    Calls Try.prog 66 #[.pointer (some ⟨K.b, 0, none⟩), .int .i64 v] w fun e w' => e = .returned (.tuple #[]) ∧ Went K Y w w' { m with out := m.out ++ dig3 v } := by
  obtain ⟨q1, q2⟩ := hv
  have HD : Hid (m.out ++ dig3 v = m.out ++ [48 + v / 100 % 10] ++ [48 + v / 10 % 10] ++ [48 + v % 10]) := by
    simp only [Hid, dig3, List.append_assoc, List.cons_append, List.nil_append]
    rw [show v / 100 % 10 = v / 100 by omega]
  obtain ⟨s1, c1, f1, p1, s2⟩ := app_byte h (i := 9) (by decide) (putL_out m (m.out ++ [48 + v / 100 % 10]))
  rw [show gpos 9 = 22 from rfl] at c1 f1
  have P1 := hide (app_b h (i := 9) (p := 22) rfl (by decide) rfl (putL_out m (m.out ++ [48 + v / 100 % 10])))
  clear h s1 s2
  obtain ⟨i0, hi0, hz0, hz1, hz2⟩ := info_parts info_u8
  have HL1 : Hid (m.out.length ≤ 1000000) := by unfold Hid; omega
  have HL2 : Hid ((m.out ++ [48 + v / 100 % 10]).length ≤ 1000000) := by unfold Hid; rw [List.length_append, List.length_singleton]; omega
  have HL3 : Hid ((m.out ++ [48 + v / 100 % 10] ++ [48 + v / 10 % 10]).length ≤ 1000000) := by unfold Hid; rw [List.length_append, List.length_append, List.length_singleton, List.length_singleton]; omega
  go_enter Try.func66, Try.ntmps66
  go_wp2_with (at_builtin; first
    | (refine wpList_append_sb _ rfl _ _ 34 rfl i0 under_u8 hi0 hz0 hz1 hz2 (Y.val 9) m.out (Y.blk 9) rfl (P1.out.at_ _ ((Below.refl _ _).alloc (Nat.le_refl _) _)) ⟨_, 0, none⟩ 1 (48 + v / 100 % 10) rfl (one_atG rfl) HL1.out ?_; intro v1 w1 g1 ha hgr hfr; obtain ⟨ao1, n1, cp1, rfl⟩ := ha.slice'; obtain ⟨Y1, a1, b1, e1, y10, y11⟩ := P1.out.fin _ w1 _ g1 ((Below.refl _ _).alloc (Nat.le_refl _) _) ha hgr hfr; have P2 := hide (app_b a1 (i := 9) (p := 22) e1 (by decide) rfl (putL_out _ (m.out ++ [48 + v / 100 % 10] ++ [48 + v / 10 % 10]))); have B1 := hide b1; have z1 := a1.cellB.2.2.2.2.2; clear ha hgr hfr a1 b1 e1)
    | (refine wpList_append_sb _ rfl _ _ 34 rfl i0 under_u8 hi0 hz0 hz1 hz2 _ (m.out ++ [48 + v / 100 % 10]) (Y1.blk 9) rfl (P2.out.at_ _ ((Below.refl _ _).alloc (Nat.le_refl _) _)) ⟨_, 0, none⟩ 1 (48 + v / 10 % 10) rfl (one_atG (by simp [World.setCell])) HL2.out ?_; intro v2 w2 g2 ha hgr hfr; obtain ⟨ao2, n2, cp2, rfl⟩ := ha.slice'; obtain ⟨Y2, a2, b2, e2, y20, y21⟩ := P2.out.fin _ w2 _ g2 ((Below.refl _ _).alloc (Nat.le_refl _) _) ha hgr hfr; have P3 := hide (app_b a2 (i := 9) (p := 22) e2 (by decide) rfl (putL_out _ (m.out ++ [48 + v / 100 % 10] ++ [48 + v / 10 % 10] ++ [48 + v % 10]))); have B2 := hide (B1.out.trans b2); have z2 := a2.cellB.2.2.2.2.2; clear ha hgr hfr a2 b2 e2)
    | (refine wpList_append_sb _ rfl _ _ 34 rfl i0 under_u8 hi0 hz0 hz1 hz2 _ (m.out ++ [48 + v / 100 % 10] ++ [48 + v / 10 % 10]) (Y2.blk 9) rfl (P3.out.at_ _ ((Below.refl _ _).alloc (Nat.le_refl _) _)) ⟨_, 0, none⟩ 1 (48 + v % 10) rfl (one_atG (by simp [World.setCell])) HL3.out ?_; intro v3 w3 g3 ha hgr hfr; obtain ⟨ao3, n3, cp3, rfl⟩ := ha.slice'; obtain ⟨Y3, a3, b3, e3, y30, y31⟩ := P3.out.fin _ w3 _ g3 ((Below.refl _ _).alloc (Nat.le_refl _) _) ha hgr hfr; have A3 := hide a3; have B3 := hide (B2.out.trans b3); clear ha hgr hfr a3 b3 e3))
  go_end0
  rw [HD.out]
  exact ⟨rfl, Y3, A3.out, B3.out⟩

end Go.Proofs.Ytjbmflgamogefab
