/- The code's machine: print, ask, giveBack, wait, wakeWaiting. -/
import Derived.Test.YtjbmflgamogefabGreatGm4
namespace Go.Proofs.YtjbmflgamogefabGreat
open Go.RowKit

theorem info_u8 : (Tryz.prog.info? 5).map (fun i => (i.zero, i.size, i.bytes)) = some (some (.int .u8 0), 1, 1) := by kernel_rfl
theorem under_u8 : Tryz.prog.underlying 72 = some (.slice 5) := by kernel_rfl
/-- Bytes are appended to the slice i (9: what is printed, 10: the trace). -/
theorem app_byte {K : GK} {w : World} {Y : GY} {m m' : Mac} {i : Nat} {xs : List Int} (h : GAt K w Y m) (hi : 9 ≤ i ∧ i < 12) (hp : PutL m m' i xs) :
    (∀ W, Below w.heap.size w W → SbAt W (Y.val i) (gcont m i) (Y.blk i)) ∧ w.cell? ⟨K.b, gpos i, none⟩ = some (Y.val i) ∧ w.frozen? ⟨K.b, gpos i, none⟩ = false ∧ K.b < w.heap.size ∧
    ∀ w0 w1 v g, Below w.heap.size w w0 → SbAt w1 v xs g → w0.grownBy w1 (Y.blk i) → (g = Y.blk i ∨ ∃ b, g = some b ∧ w0.heap.size ≤ b) → ∃ Y', GAt K (w1.setCell ⟨K.b, gpos i, none⟩ v) Y' m' ∧ GFr K Y Y' w (w1.setCell ⟨K.b, gpos i, none⟩ v) ∧ Y'.val i = v ∧ w1.cell? ⟨K.b, gpos i, none⟩ = some (Y.val i) ∧ w1.frozen? ⟨K.b, gpos i, none⟩ = false := by
  have hsl : SbAt w (Y.val i) (gcont m i) (Y.blk i) := by
    have := h.sl i hi.2
    unfold gE gI at this
    rw [if_neg (by omega), if_neg (by omega)] at this
    exact this
  refine ⟨fun W hW => hsl.kept (fun b hb => hW.block b (hsl.lt b hb)), h.cellB.2.2.2.1 i hi.2, h.cellB.2.2.2.2.1 _, h.cellB.2.2.2.2.2, fun w0 w1 v g h0 h1 h2 h3 => ?_⟩
  obtain ⟨p, q, r1, r2⟩ := (h.below h0).putS (v := v) hi.2 h2 (by unfold gE gI; rw [if_neg (by omega), if_neg (by omega)]; exact h1) h3 hp.th hp.cells hp.own hp.cont
  exact ⟨_, p, (GFr.of_below h0).trans q, by simp only [upd_same], r1, r2⟩
theorem putL_out (m : Mac) (xs : List Int) : PutL m { m with out := xs } 9 xs := ⟨rfl, rfl, rfl, fun j hj => by
  by_cases e : j = 9
  · subst e; rfl
  · rw [if_neg e]; simp [gcont, e]⟩
theorem putL_trc (m : Mac) (xs : List Int) : PutL m { m with trc := xs } 10 xs := ⟨rfl, rfl, rfl, fun j hj => by
  by_cases e : j = 10
  · subst e; rfl
  · rw [if_neg e]
    unfold gcont
    simp only
    repeat' split
    all_goals first | rfl | omega⟩
theorem putL_log (m : Mac) (xs : List Int) : PutL m { m with log := xs } 11 xs := ⟨rfl, rfl, rfl, fun j hj => by
  by_cases e : j = 11
  · subst e; rfl
  · rw [if_neg e]
    unfold gcont
    simp only
    repeat' split
    all_goals first | rfl | omega⟩
theorem putL_q (m : Mac) (xs : List Nat) : PutL m { m with q := xs } 0 (castN xs) := ⟨rfl, rfl, rfl, fun j hj => by
  by_cases e : j = 0
  · subst e; rfl
  · rw [if_neg e]; simp [gcont, e]⟩
theorem putL_blk (m : Mac) (l : Nat) (hl : l < 4) (xs : List Nat) : PutL m { m with blk := upd m.blk l xs } (1 + l) (castN xs) := ⟨rfl, rfl, rfl, fun j hj => by
  unfold gcont
  by_cases e : j = 1 + l
  · subst e; rw [if_neg (by omega), if_pos (by omega), if_pos rfl]; simp only [show 1 + l - 1 = l by omega, upd_same]
  · rw [if_neg e]
    by_cases c : j = 0
    · subst c; rfl
    · rw [if_neg c, if_neg c]
      by_cases d : j < 5
      · rw [if_pos d, if_pos d]; simp only [upd_other _ _ (show ¬ j - 1 = l by omega)]
      · rw [if_neg d, if_neg d]⟩
theorem putL_wai (m : Mac) (l : Nat) (hl : l < 4) (xs : List Nat) : PutL m { m with wai := upd m.wai l xs } (5 + l) (castN xs) := ⟨rfl, rfl, rfl, fun j hj => by
  unfold gcont
  by_cases e : j = 5 + l
  · subst e; rw [if_neg (by omega), if_neg (by omega), if_pos (by omega), if_pos rfl]; simp only [show 5 + l - 5 = l by omega, upd_same]
  · rw [if_neg e]
    by_cases c : j = 0
    · subst c; rfl
    · rw [if_neg c, if_neg c]
      by_cases d : j < 5
      · rw [if_pos d, if_pos d]
      · rw [if_neg d, if_neg d]
        by_cases f : j < 9
        · rw [if_pos f, if_pos f]; simp only [upd_other _ _ (show ¬ j - 5 = l by omega)]
        · rw [if_neg f, if_neg f]⟩
theorem gcont_q (m : Mac) : gcont m 0 = castN m.q := rfl
theorem gcont_blk (m : Mac) {l : Nat} (hl : l < 4) : gcont m (1 + l) = castN (m.blk l) := by
  unfold gcont; rw [if_neg (by omega), if_pos (by omega), show 1 + l - 1 = l by omega]
theorem gcont_wai (m : Mac) {l : Nat} (hl : l < 4) : gcont m (5 + l) = castN (m.wai l) := by
  unfold gcont; rw [if_neg (by omega), if_neg (by omega), if_pos (by omega), show 5 + l - 5 = l by omega]
theorem gpos_blk {l : Nat} (hl : l < 4) : gpos (1 + l) = 9 + l * 3 + 1 := by unfold gpos; rw [if_neg (by omega), if_pos (by omega)]; omega
theorem gpos_wai {l : Nat} (hl : l < 4) : gpos (5 + l) = 9 + l * 3 + 2 := by unfold gpos; rw [if_neg (by omega), if_neg (by omega), if_pos (by omega)]; omega
theorem castN_len (l : List Nat) : (castN l).length = l.length := by simp [castN]
theorem castN_cons (k : Nat) (l : List Nat) : castN (k :: l) = (k : Int) :: castN l := rfl

/-- An owner. -/
theorem GAt.toOwn {K : GK} {w : World} {Y : GY} {m : Mac} {l : Nat} {x : Int} (h : GAt K w Y m) (hl : l < 4) :
    Went K Y w (w.setCell ⟨K.b, 9 + l * 3, none⟩ (.int .i64 x)) { m with own := upd m.own l x } :=
  ⟨Y, h.setB (o := 9 + l * 3) (v := .int .i64 x) (cells' := m.cells) (own' := upd m.own l x) (by omega) (fun j hj => by rw [if_neg (by omega)]) (fun j hj => by
      by_cases e : j = l
      · subst e; rw [if_pos rfl, upd_same]
      · rw [if_neg (by omega), upd_other _ _ e]) (fun i hi => (gpos_ne hi).2.1 l hl)⟩

set_option maxHeartbeats 1000000 in
theorem g_ask0 (K : GK) (Y : GY) (m : Mac) (k l : Nat) (w : World) (h : GAt K w Y m) (hl : l < 4) (ho : m.own l = -1) :
    Calls Tryz.prog 98 #[.pointer (some ⟨K.b, 0, none⟩), .int .i64 k, .int .i64 l] w fun e w' => e = .returned (.tuple #[]) ∧ Went K Y w w' { m with own := upd m.own l (k : Int) } := by
  have c1 := h.cellB.2.2.1 l hl
  rw [ho] at c1
  have c2 := h.cellB.2.2.2.2.1 (9 + l * 3)
  have hk0 : decide ((l : Int) < 0) = false := by simp
  have hk1 : decide (4 ≤ (l : Int)) = false := by simp; omega
  have FIN := hide (h.toOwn (x := (k : Int)) hl)
  clear h
  go_enter Tryz.func98, Tryz.ntmps98
  go_wp2
  refine bodyPost_ret (results_none (by rfl) _ _ _) rfl ?_
  exact ⟨rfl, FIN.out⟩

def blockM (m : Mac) (k l : Nat) : Mac := { m with th := upd m.th k { m.th k with sta := 66, bat := l }, blk := upd m.blk l (m.blk l ++ [k]) }
set_option maxHeartbeats 1000000 in
theorem g_block (K : GK) (Y : GY) (m : Mac) (k l : Nat) (w : World) (h : GAt K w Y m) (hl : l < 4) (hk : k < K.n) (hb : (m.blk l).length ≤ 1000) :
    Calls Tryz.prog 105 #[.pointer (some ⟨K.b, 0, none⟩), .int .i64 k, .int .i64 l] w fun e w' => e = .returned (.tuple #[]) ∧ Went K Y w w' (blockM m k l) := by
  have f0 := h.cellB.1
  have hk0 : decide ((k : Int) < 0) = false := by simp
  have hk1 : decide ((K.n : Int) ≤ (k : Int)) = false := by simp; omega
  have hl0 : decide ((l : Int) < 0) = false := by simp
  have hl1 : decide (4 ≤ (l : Int)) = false := by simp; omega
  have HJ := hide (g_join K Y m { m with blk := upd m.blk l (m.blk l ++ [k]) } (1 + l) k w h (by omega) (by rw [gcont_blk m hl, ← castN_snoc]; exact putL_blk m l hl _) (by rw [gcont_blk m hl, castN_len]; exact hb))
  rw [gpos_blk hl] at HJ
  clear h hb
  go_enter Tryz.func105, Tryz.ntmps105
  go_wp2_with fail
  refine HJ.out.mono ?_
  rintro e w1 ⟨rfl, Y1, a1, b1⟩
  have f1 := a1.cellB.1
  obtain ⟨_, _, _, _, c4, _, d6, c7⟩ := a1.cellT hk
  have c5 := a1.cellT6 hk
  have c6 := d6 (k * 12 + 9)
  have c8 := d6 (k * 12 + 11)
  have B1 := hide b1
  have FIN : Hid (Went K Y1 w1 ((w1.setCell ⟨K.gt, k * 12 + 9, none⟩ (.int .u8 66)).setCell ⟨K.gt, k * 12 + 11, none⟩ (.int .i64 (l : Nat))) (blockM m k l)) := by
    obtain ⟨Y2, a2, b2⟩ := a1.toSta (s := 66) hk
    have R := Went.then b2 (a2.toBat (l := l) hk)
    rw [step_step, step_th] at R
    exact R
  have hgb := a1.gt_ne
  clear a1 b1 d6 HJ f0
  go_wp2_with fail
  go_end0
  exact ⟨rfl, Went.then B1.out FIN.out⟩

set_option maxHeartbeats 1000000 in
theorem g_ask1 (K : GK) (Y : GY) (m : Mac) (k l : Nat) (w : World) (h : GAt K w Y m) (hl : l < 4) (hk : k < K.n) (ho : ¬ m.own l = -1) (hb : (m.blk l).length ≤ 1000) :
    Calls Tryz.prog 98 #[.pointer (some ⟨K.b, 0, none⟩), .int .i64 k, .int .i64 l] w fun e w' => e = .returned (.tuple #[]) ∧ Went K Y w w' { stepTh m k { m.th k with sta := 66, bat := l } with blk := upd m.blk l (m.blk l ++ [k]) } := by
  have c1 := h.cellB.2.2.1 l hl
  have hk0 : decide ((l : Int) < 0) = false := by simp
  have hk1 : decide (4 ≤ (l : Int)) = false := by simp; omega
  have ho1 : (m.own l == -1) = false := by simp [ho]
  have HJ := hide (g_block K Y m k l w h hl hk hb)
  clear h hb ho
  generalize m.own l = o at *
  go_enter Tryz.func98, Tryz.ntmps98
  go_wp2_with fail
  refine HJ.out.mono ?_
  rintro e w1 ⟨rfl, Y1, a1, b1⟩
  have A1 := hide a1
  have B1 := hide b1
  clear a1 b1 HJ
  go_wp2_with fail
  go_end0
  exact ⟨rfl, Y1, A1.out, B1.out⟩

set_option maxHeartbeats 1000000 in
theorem g_giveBack0 (K : GK) (Y : GY) (m : Mac) (l : Nat) (w : World) (h : GAt K w Y m) (hl : l < 4) (hb : m.blk l = []) :
    Calls Tryz.prog 99 #[.pointer (some ⟨K.b, 0, none⟩), .int .i64 l] w fun e w' => e = .returned (.tuple #[]) ∧ Went K Y w w' { m with own := upd m.own l (-1) } := by
  have c1 := h.cellB.2.2.1 l hl
  have c2 := h.cellB.2.2.2.2.1 (9 + l * 3)
  have hk0 : decide ((l : Int) < 0) = false := by simp
  have hk1 : decide (4 ≤ (l : Int)) = false := by simp; omega
  have HL := hide (g_leave0 K Y m (1 + l) w h (by omega) (by rw [gcont_blk m hl, hb]; rfl))
  rw [gpos_blk hl] at HL
  have FIN := hide (h.toOwn (x := -1) hl)
  clear h hb
  go_enter Tryz.func99, Tryz.ntmps99
  go_wp2_with fail
  refine HL.out.mono ?_
  rintro e w1 ⟨rfl, h1⟩
  replace h1 := h1.symm
  subst h1
  clear HL
  go_wp2_with fail
  go_end0
  exact ⟨rfl, FIN.out⟩

set_option maxHeartbeats 1000000 in
theorem g_giveBack1 (K : GK) (Y : GY) (m : Mac) (l k : Nat) (r : List Nat) (w : World) (h : GAt K w Y m) (hl : l < 4) (hb : m.blk l = k :: r) (hk : k < K.n) (hr : r.length ≤ 1000) (hq : m.q.length ≤ 1000) :
    Calls Tryz.prog 99 #[.pointer (some ⟨K.b, 0, none⟩), .int .i64 l] w fun e w' => e = .returned (.tuple #[]) ∧ Went K Y w w' (readyM { m with blk := upd m.blk l r, own := upd m.own l (k : Int) } k) := by
  have hk0 : decide ((l : Int) < 0) = false := by simp
  have hk1 : decide (4 ≤ (l : Int)) = false := by simp; omega
  have HL := hide (g_leave1 K Y m { m with blk := upd m.blk l r } (1 + l) k (castN r) w h (by omega) (by rw [gcont_blk m hl, hb]; rfl) (putL_blk m l hl r) (by rw [castN_len]; exact hr))
  rw [gpos_blk hl] at HL
  have HR := hide (fun Y1 w1 h1 => g_makeReady K Y1 { m with blk := upd m.blk l r, own := upd m.own l (k : Int) } k w1 h1 hk hq)
  have hkn : ((k : Int) != -1) = true := by simp
  clear h hb hr hq
  go_enter Tryz.func99, Tryz.ntmps99
  go_wp2_with fail
  refine HL.out.mono ?_
  rintro e w1 ⟨rfl, Y1, a1, b1⟩
  have c1 := a1.cellB.2.2.1 l hl
  have c2 := a1.cellB.2.2.2.2.1 (9 + l * 3)
  obtain ⟨Y2, a2, b2⟩ := a1.toOwn (x := (k : Int)) hl
  have A2 := hide a2
  have B2 := hide (b1.trans b2)
  clear a1 b1 a2 b2 HL
  go_wp2_with fail
  refine (HR.out Y2 _ A2.out).mono ?_
  rintro e w3 ⟨rfl, Y3, a3, b3⟩
  have A3 := hide a3
  have B3 := hide (B2.out.trans b3)
  clear a3 b3 A2 B2 HR
  go_wp2_with fail
  go_end0
  exact ⟨rfl, Y3, A3.out, B3.out⟩

theorem g_giveBack (K : GK) (Y : GY) (m : Mac) (l : Nat) (w : World) (h : GAt K w Y m) (hl : l < 4) (hb : ∀ k, k ∈ m.blk l → k < K.n) (hr : (m.blk l).length ≤ 1000) (hq : m.q.length ≤ 1000) :
    Calls Tryz.prog 99 #[.pointer (some ⟨K.b, 0, none⟩), .int .i64 l] w fun e w' => e = .returned (.tuple #[]) ∧ Went K Y w w' (giveM m l) := by
  unfold giveM
  cases e : m.blk l with
  | nil => exact g_giveBack0 K Y m l w h hl e
  | cons k r =>
    rw [e] at hb hr
    exact g_giveBack1 K Y m l k r w h hl e (hb k (by simp)) (by simp at hr; omega) hq

theorem give_wai (m : Mac) (l : Nat) : (giveM m l).wai = m.wai := by
  unfold giveM; split <;> rfl

set_option maxHeartbeats 1000000 in
theorem g_wait (K : GK) (Y : GY) (m : Mac) (k l : Nat) (w : World) (h : GAt K w Y m) (hl : l < 4) (hk : k < K.n) (hb : ∀ k, k ∈ m.blk l → k < K.n) (hr : (m.blk l).length ≤ 1000) (hq : m.q.length ≤ 1000) (hw : (m.wai l).length ≤ 1000) :
    Calls Tryz.prog 100 #[.pointer (some ⟨K.b, 0, none⟩), .int .i64 k, .int .i64 l] w fun e w' => e = .returned (.tuple #[]) ∧ Went K Y w w' (waitM (giveM m l) k l) := by
  have hk0 : decide ((l : Int) < 0) = false := by simp
  have hk1 : decide (4 ≤ (l : Int)) = false := by simp; omega
  have HG := hide (g_giveBack K Y m l w h hl hb hr hq)
  have hw2 : ((giveM m l).wai l).length ≤ 1000 := by rw [give_wai]; exact hw
  generalize giveM m l = m1 at *
  have HJ : Hid (∀ Y1 w1, GAt K w1 Y1 m1 → Calls Tryz.prog 59 #[.pointer (some ⟨K.b, 9 + l * 3 + 2, none⟩), .int .i64 k] w1 fun e w' => e = .returned (.tuple #[]) ∧ Went K Y1 w1 w' { m1 with wai := upd m1.wai l (m1.wai l ++ [k]) }) := fun Y1 w1 h1 => by
    have := g_join K Y1 m1 { m1 with wai := upd m1.wai l (m1.wai l ++ [k]) } (5 + l) k w1 h1 (by omega) (by rw [gcont_wai m1 hl, ← castN_snoc]; exact putL_wai m1 l hl _) (by rw [gcont_wai m1 hl, castN_len]; exact hw2)
    rw [gpos_wai hl] at this
    exact this
  have HS := hide (fun Y1 w1 h1 => g_setState K Y1 { m1 with wai := upd m1.wai l (m1.wai l ++ [k]) } k 87 w1 h1 hk)
  clear h hb hr hq hw hw2
  go_enter Tryz.func100, Tryz.ntmps100
  go_wp2_with fail
  refine HG.out.mono ?_
  rintro e w0 ⟨rfl, Y0, a0, b0⟩
  have A0 := hide a0
  have B0 := hide b0
  clear a0 b0 HG
  go_wp2_with fail
  refine (HJ.out Y0 w0 A0.out).mono ?_
  rintro e w1 ⟨rfl, Y1, a1, b1⟩
  have A1 := hide a1
  have B1 := hide (B0.out.trans b1)
  clear a1 b1 A0 B0 HJ
  go_wp2_with fail
  refine (HS.out Y1 w1 A1.out).mono ?_
  rintro e w2 ⟨rfl, Y2, a2, b2⟩
  have A2 := hide a2
  have B2 := hide (B1.out.trans b2)
  clear a2 b2 A1 B1 HS
  go_wp2_with fail
  go_end0
  exact ⟨rfl, Y2, A2.out, B2.out⟩

set_option maxHeartbeats 1000000 in
theorem g_wakeWaiting0 (K : GK) (Y : GY) (m : Mac) (l : Nat) (w : World) (h : GAt K w Y m) (hl : l < 4) (hb : m.wai l = []) :
    Calls Tryz.prog 101 #[.pointer (some ⟨K.b, 0, none⟩), .int .i64 l] w fun e w' => e = .returned (.tuple #[]) ∧ w' = w := by
  have hk0 : decide ((l : Int) < 0) = false := by simp
  have hk1 : decide (4 ≤ (l : Int)) = false := by simp; omega
  have HL := hide (g_leave0 K Y m (5 + l) w h (by omega) (by rw [gcont_wai m hl, hb]; rfl))
  rw [gpos_wai hl] at HL
  clear h hb
  go_enter Tryz.func101, Tryz.ntmps101
  go_wp2_with fail
  refine HL.out.mono ?_
  rintro e w1 ⟨rfl, h1⟩
  replace h1 := h1.symm
  subst h1
  clear HL
  go_wp2_with fail
  go_end0
  exact ⟨rfl, rfl⟩

set_option maxHeartbeats 1000000 in
theorem g_wakeWaiting1 (K : GK) (Y : GY) (m : Mac) (l x : Nat) (r : List Nat) (w : World) (h : GAt K w Y m) (hl : l < 4) (hb : m.wai l = x :: r) (hx : x < K.n) (hr : r.length ≤ 1000) (hq : (m.blk l).length ≤ 1000) :
    Calls Tryz.prog 101 #[.pointer (some ⟨K.b, 0, none⟩), .int .i64 l] w fun e w' => e = .returned (.tuple #[]) ∧ Went K Y w w' { m with th := upd m.th x { m.th x with sta := 66, bat := l }, wai := upd m.wai l r, blk := upd m.blk l (m.blk l ++ [x]) } := by
  have hk0 : decide ((l : Int) < 0) = false := by simp
  have hk1 : decide (4 ≤ (l : Int)) = false := by simp; omega
  have HL := hide (g_leave1 K Y m { m with wai := upd m.wai l r } (5 + l) x (castN r) w h (by omega) (by rw [gcont_wai m hl, hb]; rfl) (putL_wai m l hl r) (by rw [castN_len]; exact hr))
  rw [gpos_wai hl] at HL
  have HJ := hide (fun Y1 w1 h1 => g_block K Y1 { m with wai := upd m.wai l r } x l w1 h1 hl hx hq)
  have hkn : ((x : Int) != -1) = true := by simp
  clear h hb hr hq
  go_enter Tryz.func101, Tryz.ntmps101
  go_wp2_with fail
  refine HL.out.mono ?_
  rintro e w0 ⟨rfl, Y0, a0, b0⟩
  have A0 := hide a0
  have B0 := hide b0
  clear a0 b0 HL
  go_wp2_with fail
  refine (HJ.out Y0 w0 A0.out).mono ?_
  rintro e w1 ⟨rfl, Y1, a1, b1⟩
  have A1 := hide a1
  have B1 := hide (B0.out.trans b1)
  clear a1 b1 A0 B0 HJ
  go_wp2_with fail
  go_end0
  exact ⟨rfl, Y1, A1.out, B1.out⟩

theorem g_wakeWaiting (K : GK) (Y : GY) (m : Mac) (l : Nat) (w : World) (h : GAt K w Y m) (hl : l < 4) (hw : ∀ k, k ∈ m.wai l → k < K.n) (hr : (m.wai l).length ≤ 1000) (hq : (m.blk l).length ≤ 1000) :
    Calls Tryz.prog 101 #[.pointer (some ⟨K.b, 0, none⟩), .int .i64 l] w fun e w' => e = .returned (.tuple #[]) ∧ Went K Y w w' (noteM m l) := by
  unfold noteM
  cases e : m.wai l with
  | nil =>
    refine (g_wakeWaiting0 K Y m l w h hl e).mono ?_
    rintro e w' ⟨rfl, rfl⟩
    exact ⟨rfl, Y, h, GFr.of_below (Below.refl _ _)⟩
  | cons x r =>
    rw [e] at hw hr
    exact g_wakeWaiting1 K Y m l x r w h hl e (hw x (by simp)) (by simp at hr; omega) hq

theorem SbAt.slice' {w : World} {v : Value} {xs : List Int} {g : Option Nat} (h : SbAt w v xs g) : ∃ ao n cap, v = .slice ao n cap := by
  obtain ⟨ao, cap, h1⟩ := h.slice
  exact ⟨ao, _, cap, h1⟩
/-- What the byte's append wants, as one. -/
structure ApB (K : GK) (Y : GY) (w : World) (m m' : Mac) (i p : Nat) (v : Value) (xs : List Int) : Prop where
  at_ : ∀ W, Below w.heap.size w W → SbAt W v (gcont m i) (Y.blk i)
  fin : ∀ w0 w1 u g, Below w.heap.size w w0 → SbAt w1 u xs g → w0.grownBy w1 (Y.blk i) → (g = Y.blk i ∨ ∃ b, g = some b ∧ w0.heap.size ≤ b) → ∃ Y', GAt K (w1.setCell ⟨K.b, p, none⟩ u) Y' m' ∧ GFr K Y Y' w (w1.setCell ⟨K.b, p, none⟩ u) ∧ Y'.val i = u ∧ w1.cell? ⟨K.b, p, none⟩ = some v ∧ w1.frozen? ⟨K.b, p, none⟩ = false
theorem app_b {K : GK} {w : World} {Y : GY} {m m' : Mac} {i p : Nat} {xs : List Int} {v : Value} (h : GAt K w Y m) (hv : Y.val i = v) (hi : 9 ≤ i ∧ i < 12) (hpp : gpos i = p) (hp : PutL m m' i xs) : ApB K Y w m m' i p v xs := by
  obtain ⟨s1, _, _, _, F1⟩ := app_byte h hi hp
  subst hv
  subst hpp
  exact ⟨s1, F1⟩

set_option maxHeartbeats 2000000 in
theorem g_print (K : GK) (Y : GY) (m : Mac) (v : Int) (w : World) (h : GAt K w Y m) (hv : 0 ≤ v ∧ v < 1000) (hl : m.out.length ≤ 100000) :
    Calls Tryz.prog 97 #[.pointer (some ⟨K.b, 0, none⟩), .int .i64 v] w fun e w' => e = .returned (.tuple #[]) ∧ Went K Y w w' { m with out := m.out ++ dig3 v } := by
  obtain ⟨q1, q2⟩ := hv
  have HD : Hid (m.out ++ dig3 v = m.out ++ [48 + v / 100 % 10] ++ [48 + v / 10 % 10] ++ [48 + v % 10]) := by
    simp only [Hid, dig3, List.append_assoc, List.cons_append, List.nil_append]
    rw [show v / 100 % 10 = v / 100 by omega]
  obtain ⟨s1, c1, f1, p1, s2⟩ := app_byte h (i := 9) (by decide) (putL_out m (m.out ++ [48 + v / 100 % 10]))
  rw [show gpos 9 = 22 from rfl] at c1 f1
  have P1 := hide (app_b h (i := 9) (p := 22) rfl (by decide) rfl (putL_out m (m.out ++ [48 + v / 100 % 10])))
  clear h s1 s2
  obtain ⟨i0, hi0, hz0, hz1, hz2⟩ := info_parts info_u8
  have HL1 : Hid (m.out.length ≤ 1000000) := by unfold Hid; omega
  have HL2 : Hid ((m.out ++ [48 + v / 100 % 10]).length ≤ 1000000) := by unfold Hid; rw [List.length_append, List.length_singleton]; omega
  have HL3 : Hid ((m.out ++ [48 + v / 100 % 10] ++ [48 + v / 10 % 10]).length ≤ 1000000) := by unfold Hid; rw [List.length_append, List.length_append, List.length_singleton, List.length_singleton]; omega
  go_enter Tryz.func97, Tryz.ntmps97
  go_wp2_with (at_builtin; first
    | (refine wpList_append_sb _ rfl _ _ 72 rfl i0 under_u8 hi0 hz0 hz1 hz2 (Y.val 9) m.out (Y.blk 9) rfl (P1.out.at_ _ ((Below.refl _ _).alloc (Nat.le_refl _) _)) ⟨_, 0, none⟩ 1 (48 + v / 100 % 10) rfl (one_atG rfl) HL1.out ?_; intro v1 w1 g1 ha hgr hfr; obtain ⟨ao1, n1, cp1, rfl⟩ := ha.slice'; obtain ⟨Y1, a1, b1, e1, y10, y11⟩ := P1.out.fin _ w1 _ g1 ((Below.refl _ _).alloc (Nat.le_refl _) _) ha hgr hfr; have P2 := hide (app_b a1 (i := 9) (p := 22) e1 (by decide) rfl (putL_out _ (m.out ++ [48 + v / 100 % 10] ++ [48 + v / 10 % 10]))); have B1 := hide b1; have z1 := a1.cellB.2.2.2.2.2; clear ha hgr hfr a1 b1 e1)
    | (refine wpList_append_sb _ rfl _ _ 72 rfl i0 under_u8 hi0 hz0 hz1 hz2 _ (m.out ++ [48 + v / 100 % 10]) (Y1.blk 9) rfl (P2.out.at_ _ ((Below.refl _ _).alloc (Nat.le_refl _) _)) ⟨_, 0, none⟩ 1 (48 + v / 10 % 10) rfl (one_atG (by simp [World.setCell])) HL2.out ?_; intro v2 w2 g2 ha hgr hfr; obtain ⟨ao2, n2, cp2, rfl⟩ := ha.slice'; obtain ⟨Y2, a2, b2, e2, y20, y21⟩ := P2.out.fin _ w2 _ g2 ((Below.refl _ _).alloc (Nat.le_refl _) _) ha hgr hfr; have P3 := hide (app_b a2 (i := 9) (p := 22) e2 (by decide) rfl (putL_out _ (m.out ++ [48 + v / 100 % 10] ++ [48 + v / 10 % 10] ++ [48 + v % 10]))); have B2 := hide (B1.out.trans b2); have z2 := a2.cellB.2.2.2.2.2; clear ha hgr hfr a2 b2 e2)
    | (refine wpList_append_sb _ rfl _ _ 72 rfl i0 under_u8 hi0 hz0 hz1 hz2 _ (m.out ++ [48 + v / 100 % 10] ++ [48 + v / 10 % 10]) (Y2.blk 9) rfl (P3.out.at_ _ ((Below.refl _ _).alloc (Nat.le_refl _) _)) ⟨_, 0, none⟩ 1 (48 + v % 10) rfl (one_atG (by simp [World.setCell])) HL3.out ?_; intro v3 w3 g3 ha hgr hfr; obtain ⟨ao3, n3, cp3, rfl⟩ := ha.slice'; obtain ⟨Y3, a3, b3, e3, y30, y31⟩ := P3.out.fin _ w3 _ g3 ((Below.refl _ _).alloc (Nat.le_refl _) _) ha hgr hfr; have A3 := hide a3; have B3 := hide (B2.out.trans b3); clear ha hgr hfr a3 b3 e3))
  go_end0
  rw [HD.out]
  exact ⟨rfl, Y3, A3.out, B3.out⟩

end Go.Proofs.YtjbmflgamogefabGreat
