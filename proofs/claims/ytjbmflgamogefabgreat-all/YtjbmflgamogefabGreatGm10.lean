/- The code's machine: quantum. -/
import Derived.Test.YtjbmflgamogefabGreatGm9A
namespace Go.Proofs.YtjbmflgamogefabGreat
open Go.RowKit

theorem ready_same {m : Mac} {k : Nat} (h : (m.th k).sta = 82) : readyM m k = { m with q := m.q ++ [k] } := by
  have e : upd m.th k { m.th k with sta := 82 } = m.th := by
    funext j
    by_cases c : j = k
    · subst c; rw [upd_same, ← h]
    · rw [upd_other _ _ c]
  unfold readyM
  rw [e]

set_option maxRecDepth 100000 in
set_option maxHeartbeats 2000000 in
theorem g_quantum0 (K : GK) (Y : GY) (m : Mac) (q most : Nat) (ρ : Nat → List Int) (w : World) (h : GAt K w Y m) (hG : Good K) (hI : Inv K.C K.n none ρ m) (ht : (wakeM q K.n 0 m).trc.length ≤ 100000) (he : (wakeM q K.n 0 m).q = []) :
    Calls Tryz.prog 42 #[.pointer (some ⟨K.b, 0, none⟩), .int .i64 q, .int .i64 most] w fun e w' => e = .returned (.tuple #[]) ∧ Went K Y w w' { wakeM q K.n 0 m with trc := (wakeM q K.n 0 m).trc ++ [45] } := by
  have HW := hide (g_wakeSleepers K Y m q ρ w h hG hI)
  generalize wakeM q K.n 0 m = m1 at *
  have HL := hide (fun Y1 w1 h1 => g_leave0 K Y1 m1 0 w1 h1 (by decide) (by rw [gcont_q, he]; rfl))
  obtain ⟨i0, hi0, hz0, hz1, hz2⟩ := info_parts info_u8
  have HL1 : Hid (m1.trc.length ≤ 1000000) := by unfold Hid; omega
  clear h hI ht he
  go_enter Tryz.func42, Tryz.ntmps42
  go_wp2_with fail
  refine HW.out.mono ?_
  rintro e w1 ⟨rfl, Y1, a1, b1⟩
  have L := hide (HL.out Y1 w1 a1)
  obtain ⟨s1, c1, f1, p1, s2⟩ := app_byte a1 (i := 10) (by decide) (putL_trc m1 (m1.trc ++ [45]))
  rw [show gpos 10 = 23 from rfl] at c1 f1
  have P1 := hide (app_b a1 (i := 10) (p := 23) rfl (by decide) rfl (putL_trc m1 (m1.trc ++ [45])))
  have B1 := hide b1
  clear a1 b1 s1 s2 HW HL
  go_wp2_with fail
  refine L.out.mono ?_
  rintro e w2 ⟨rfl, h2⟩
  replace h2 := h2.symm
  subst h2
  clear L
  go_wp2_with fail
  go_region_law
    (first
      | (refine step_nameOf _ rfl (.tmp 20) rfl (.int .i64 (-1)) (.int .u8 45) rfl (g_nameOf0 _) ?_)
      | (refine step_append_sb _ rfl (.tmp 19) (.tmp 22) 72 rfl i0 under_u8 hi0 hz0 hz1 hz2 (Y1.val 10) m1.trc (Y1.blk 10) rfl (P1.out.at_ _ (by first | exact keep_ad | exact keep_drew)) ⟨w1.heap.size, 0, none⟩ 1 45 rfl (by exact one_atG rfl) HL1.out ?_; intro v1 w4 g1 ha hgr hfr; obtain ⟨ao1, n1, cp1, rfl⟩ := ha.slice'; obtain ⟨Y2, a2, b2, e2, y10, y11⟩ := P1.out.fin _ w4 _ g1 keep_ad ha hgr hfr; have A2 := hide a2; have B2 := hide (B1.out.trans b2); clear ha hgr hfr a2 b2 e2))
  all_goals
    go_wp2_with fail
    refine bodyPost_ret (results_none (by rfl) _ _ _) rfl ?_
    exact ⟨rfl, Y2, A2.out, B2.out⟩

set_option maxRecDepth 100000 in
set_option maxHeartbeats 2000000 in
theorem g_quantum1 (K : GK) (Y : GY) (m m3 m4 : Mac) (q most k : Nat) (r : List Nat) (ρ : Nat → List Int) (w : World) (h : GAt K w Y m) (hG : Good K) (hI : Inv K.C K.n none ρ m) (ht : (wakeM q K.n 0 m).trc.length ≤ 100000) (he : (wakeM q K.n 0 m).q = k :: r) (ho : (wakeM q K.n 0 m).out.length + 3 * most ≤ 100000) (hq : q < 1000) (hm : most < 1000) (hm3 : runM K.C k q most 32 { wakeM q K.n 0 m with q := r, trc := (wakeM q K.n 0 m).trc ++ [48 + (k : Int)] } = m3) (H4 : Hid (((m3.th k).sta = 82 → m4 = readyM m3 k) ∧ (¬ (m3.th k).sta = 82 → m4 = m3))) (m5 : Mac) (HLG : Hid (∀ Y1 w1, GAt K w1 Y1 m4 → Calls Tryz.prog 64 #[.pointer (some ⟨K.b, 0, none⟩), .int .i64 k, .int .i64 q] w1 fun e w' => e = .returned (.tuple #[]) ∧ Went K Y1 w1 w' m5)) :
    Calls Tryz.prog 42 #[.pointer (some ⟨K.b, 0, none⟩), .int .i64 q, .int .i64 most] w fun e w' => e = .returned (.tuple #[]) ∧ Went K Y w w' m5 := by
  have HW := hide (g_wakeSleepers K Y m q ρ w h hG hI)
  have hI1 := hI.wakeups (q : Int) K.n 0 m (by omega)
  generalize wakeM q K.n 0 m = m1 at *
  obtain ⟨hI2, hk, hs⟩ := hI1.start he (m1.trc ++ [48 + (k : Int)])
  have hn4 := hG.n4
  obtain ⟨ρ3, hI3⟩ := Inv.runs hG.fine hk (q : Int) most 32 _ _ hI2
  have lq3 := hI3.lens.1
  have HT : Hid (∀ Y1 w1, GAt K w1 Y1 { m1 with q := r, trc := m1.trc ++ [48 + (k : Int)] } → Calls Tryz.prog 62 #[.pointer (some ⟨K.b, 0, none⟩), .int .i64 k, .int .i64 q, .int .i64 most] w1 fun e w' => e = .returned (.tuple #[]) ∧ Went K Y1 w1 w' m3) := fun Y1 w1 h1 => by
    rw [← hm3]
    exact g_turn K Y1 _ k q most ρ w1 h1 hG hk hI2 hs ho hq hm
  rw [hm3] at hI3 lq3
  have HL := hide (fun Y1 w1 h1 => g_leave1 K Y1 m1 { m1 with q := r } 0 k (castN r) w1 h1 (by decide) (by rw [gcont_q, he]; rfl) (putL_q m1 r) (by rw [castN_len]; have := hI1.lens.1; rw [he] at this; simp at this; omega))
  obtain ⟨i0, hi0, hz0, hz1, hz2⟩ := info_parts info_u8
  have HL1 : Hid (m1.trc.length ≤ 1000000) := by unfold Hid; omega
  have HR := hide (fun Y1 w1 h1 => g_isReady K Y1 m3 k w1 h1 hk)
  have HJ : Hid ((m3.th k).sta = 82 → ∀ Y1 w1, GAt K w1 Y1 m3 → Calls Tryz.prog 59 #[.pointer (some ⟨K.b, 21, none⟩), .int .i64 k] w1 fun e w' => e = .returned (.tuple #[]) ∧ Went K Y1 w1 w' (readyM m3 k)) := fun h82 Y1 w1 h1 => by
    rw [ready_same h82]
    exact g_join K Y1 m3 { m3 with q := m3.q ++ [k] } 0 k w1 h1 (by decide) (by rw [gcont_q, ← castN_snoc]; exact putL_q m3 _) (by rw [gcont_q, castN_len]; omega)
  have hk4 : k < 4 := by omega
  have hkn : ((k : Int) == -1) = false := by simp
  clear h hI ht he hI1 hI2 hI3 lq3 hs ho hm3
  go_enter Tryz.func42, Tryz.ntmps42
  go_wp2_with fail
  refine HW.out.mono ?_
  rintro e w0 ⟨rfl, Y0, a0, b0⟩
  have L := hide (HL.out Y0 w0 a0)
  have B0 := hide b0
  clear a0 b0 HW HL
  go_wp2_with fail
  refine L.out.mono ?_
  rintro e w1 ⟨rfl, Y1, a1, b1⟩
  obtain ⟨s1, c1, f1, p1, s2⟩ := app_byte a1 (i := 10) (by decide) (putL_trc _ (m1.trc ++ [48 + (k : Int)]))
  rw [show gpos 10 = 23 from rfl] at c1 f1
  have P1 := hide (app_b a1 (i := 10) (p := 23) rfl (by decide) rfl (putL_trc { m1 with q := r } (m1.trc ++ [48 + (k : Int)])))
  have B1 := hide (B0.out.trans b1)
  clear a1 b1 s1 s2 L B0
  go_wp2_with fail
  go_region_law
    (first
      | (refine step_nameOf _ rfl (.tmp 20) rfl (.int .i64 k) (.int .u8 (48 + (k : Int))) rfl (g_nameOf k _ hk4) ?_)
      | (refine step_append_sb _ rfl (.tmp 19) (.tmp 22) 72 rfl i0 under_u8 hi0 hz0 hz1 hz2 (Y1.val 10) m1.trc (Y1.blk 10) rfl (P1.out.at_ _ (by first | exact keep_ad | exact keep_drew)) ⟨w1.heap.size, 0, none⟩ 1 (48 + (k : Int)) rfl (by exact one_atG rfl) HL1.out ?_; intro v1 w4 g1 ha hgr hfr; obtain ⟨ao1, n1, cp1, rfl⟩ := ha.slice'; obtain ⟨Y2, a2, b2, e2, y10, y11⟩ := P1.out.fin _ w4 _ g1 keep_ad ha hgr hfr; have A2 := hide a2; have B2 := hide (B1.out.trans b2); clear ha hgr hfr a2 b2 e2))
  all_goals
    go_wp2_with fail
    refine (HT.out Y2 _ A2.out).mono ?_
    rintro e w5 ⟨rfl, Y5, a5, b5⟩
    have A5 := hide a5
    have B5 := hide (B2.out.trans b5)
    clear a5 b5
    go_wp2_with fail
    refine (HR.out Y5 w5 A5.out).mono ?_
    rintro e w6 ⟨rfl, h6⟩
    replace h6 := h6.symm
    subst h6
    by_cases h82 : (m3.th k).sta = 82
    · rw [show ((m3.th k).sta == 82) = true by simp [h82]]
      have E4 := hide (H4.out.1 h82)
      have J := hide (HJ.out h82)
      clear h82
      go_wp2_with fail
      refine (J.out Y5 w5 A5.out).mono ?_
      rintro e w7 ⟨rfl, Y7, a7, b7⟩
      have A7 := hide a7
      have B7 := hide (B5.out.trans b7)
      clear a7 b7
      go_wp2_with fail
      refine (HLG.out Y7 w7 (by rw [E4.out]; exact A7.out)).mono ?_
      rintro e w8 ⟨rfl, Y8, a8, b8⟩
      have A8 := hide a8
      have B8 := hide (B7.out.trans b8)
      clear a8 b8
      go_wp2_with fail
      go_end0
      exact ⟨rfl, Y8, A8.out, B8.out⟩
    · rw [show ((m3.th k).sta == 82) = false by simp [h82]]
      have E4 := hide (H4.out.2 h82)
      clear h82
      go_wp2_with fail
      refine (HLG.out Y5 w5 (by rw [E4.out]; exact A5.out)).mono ?_
      rintro e w8 ⟨rfl, Y8, a8, b8⟩
      have A8 := hide a8
      have B8 := hide (B5.out.trans b8)
      clear a8 b8
      go_wp2_with fail
      go_end0
      exact ⟨rfl, Y8, A8.out, B8.out⟩

theorem wake_told {q : Int} : ∀ (i k : Nat) (m : Mac), (wakeM q i k m).out = m.out ∧ (wakeM q i k m).trc = m.trc
  | 0, _, _ => ⟨rfl, rfl⟩
  | i + 1, k, m => by
    simp only [wakeM]
    obtain ⟨a, b⟩ := wake_told (q := q) i (k + 1) (if (m.th k).sta = 83 ∧ (m.th k).wake = q then readyM m k else m)
    rw [a, b]
    split <;> exact ⟨rfl, rfl⟩
theorem obst_lt {C : Nat → List In} {n : Nat} {ρ : Nat → List Int} {run : Option Nat} {m : Mac} (hI : Inv C n run ρ m) (hn : n ≤ 4) : ∀ j, obst n m j < 4 := by
  intro j
  unfold obst
  repeat' split
  all_goals first | omega | (rcases hI.who (m.th j).bat with e | ⟨k, hk, e⟩ <;> omega)
theorem g_quantum (K : GK) (Y : GY) (m : Mac) (q most : Nat) (ρ : Nat → List Int) (w : World) (h : GAt K w Y m) (hG : Good K) (hI : Inv K.C K.n none ρ m) (ht : m.trc.length ≤ 100000) (ho : m.out.length + 3 * most ≤ 100000) (hlg : m.log.length ≤ 100000) (hq : q < 1000) (hm : most < 1000) :
    Calls Tryz.prog 42 #[.pointer (some ⟨K.b, 0, none⟩), .int .i64 q, .int .i64 most] w fun e w' => e = .returned (.tuple #[]) ∧ Went K Y w w' (turnM K.C K.n most q m) := by
  obtain ⟨t1, t2⟩ := wake_told (q := (q : Int)) K.n 0 m
  have hn4 := hG.n4
  have h0 := turn0_log K.C K.n most q m
  obtain ⟨ρ1, hI1⟩ := hI.turn0 hG.fine most q
  unfold turnM
  cases e : (wakeM (q : Int) K.n 0 m).q with
  | nil =>
    have e1 : turn0M K.C K.n most q m = { wakeM q K.n 0 m with trc := (wakeM q K.n 0 m).trc ++ [45] } := by
      unfold turn0M; simp only [e]
    simp only
    rw [e1]
    exact g_quantum0 K Y m q most ρ w h hG hI (by rw [t2]; exact ht) e
  | cons k r =>
    obtain ⟨_, hk, _⟩ := (hI.wakeups (q : Int) K.n 0 m (by omega)).start e []
    simp only
    refine g_quantum1 K Y m _ (turn0M K.C K.n most q m) q most k r ρ w h hG hI (by rw [t2]; exact ht) e (by rw [t1]; exact ho) hq hm rfl ⟨fun h => ?_, fun h => ?_⟩ _ (fun Y1 w1 h1 => g_logDeadlock K Y1 _ k q w1 h1 (by omega) hq (by rw [h0]; exact hlg) (obst_lt hI1 hn4))
    · unfold turn0M; simp only [e]; rw [if_pos h]
    · unfold turn0M; simp only [e]; rw [if_neg h]

end Go.Proofs.YtjbmflgamogefabGreat
