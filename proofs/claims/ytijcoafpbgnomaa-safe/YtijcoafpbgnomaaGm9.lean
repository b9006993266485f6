/- The code's machine: wakeSleepers, quantum. -/
import Derived.Test.YtijcoafpbgnomaaGm8
namespace Go.Proofs.Ytijcoafpbgnomaa
open Go.RowKit

def WakeAt (K : GK) (Y : GY) (w wr : World) (ρ : Nat → List Int) (q : Int) (j : Nat) (F : Mac) : Prop :=
  ∃ Y' m', GAt K wr Y' m' ∧ GFr K Y Y' w wr ∧ Inv K.C K.n none ρ m' ∧ wakeM q (K.n - j) j m' = F
theorem wake_yes {K : GK} {Y Y' : GY} {w wr w' : World} {ρ : Nat → List Int} {q : Int} {j : Nat} {F m' : Mac} (hj : j < K.n) (hf : GFr K Y Y' w wr) (hI : Inv K.C K.n none ρ m') (hr : wakeM q (K.n - j) j m' = F) (h1 : (m'.th j).sta = 83) (h2 : (m'.th j).wake = q) (hw : Went K Y' wr w' (readyM m' j)) : WakeAt K Y w w' ρ q (j + 1) F := by
  obtain ⟨Y2, a2, b2⟩ := hw
  rw [show K.n - j = (K.n - (j + 1)) + 1 by omega] at hr
  rw [wakeM, if_pos ⟨h1, h2⟩] at hr
  exact ⟨Y2, _, a2, hf.trans b2, hI.ready hj (.inr ⟨rfl, h1⟩), hr⟩
theorem wake_no {K : GK} {Y Y' : GY} {w wr w' : World} {ρ : Nat → List Int} {q : Int} {j : Nat} {F m' : Mac} (hj : j < K.n) (h : GAt K wr Y' m') (hf : GFr K Y Y' w wr) (hI : Inv K.C K.n none ρ m') (hr : wakeM q (K.n - j) j m' = F) (h1 : ¬ ((m'.th j).sta = 83 ∧ (m'.th j).wake = q)) (hb : Below wr.heap.size wr w') : WakeAt K Y w w' ρ q (j + 1) F := by
  rw [show K.n - j = (K.n - (j + 1)) + 1 by omega] at hr
  rw [wakeM, if_neg h1] at hr
  exact ⟨Y', m', h.below hb, hf.trans (GFr.of_below hb), hI, hr⟩
theorem wake_over {K : GK} {Y : GY} {w wr : World} {ρ : Nat → List Int} {q : Int} {j : Nat} {F : Mac} (hj : ¬ j < K.n) (h : WakeAt K Y w wr ρ q j F) : Went K Y w wr F := by
  obtain ⟨Y', m', h1, h2, h3, h4⟩ := h
  rw [show K.n - j = 0 by omega] at h4
  exact ⟨Y', by rw [← h4]; exact h1, h2⟩

set_option maxRecDepth 100000 in
set_option maxHeartbeats 1000000 in
theorem g_wakeSleepers (K : GK) (Y : GY) (m : Mac) (q : Nat) (ρ : Nat → List Int) (w : World) (h : GAt K w Y m) (hG : Good K) (hI : Inv K.C K.n none ρ m) :
    Calls Try.prog 83 #[.pointer (some ⟨K.b, 0, none⟩), .int .i64 q] w fun e w' => e = .returned (.tuple #[]) ∧ Went K Y w w' (wakeM q K.n 0 m) := by
  have HT : Hid (WakeAt K Y w w ρ q 0 (wakeM q K.n 0 m)) := ⟨Y, m, h, GFr.of_below (Below.refl _ _), hI, by simp⟩
  have f0 := h.cellB.1
  generalize wakeM q K.n 0 m = F at *
  have HG := hide hG
  clear h hI hG
  go_enter Try.func83, Try.ntmps83
  go_wp2_with fail
  go_loopw [10] (fun s wr => ∃ j : Nat, j ≤ K.n ∧ s = .int .i64 j ∧ Hid (WakeAt K Y w wr ρ q j F)) (fun s _ => K.n - (intOf s).toNat)
  case atStart => exact ⟨0, Nat.zero_le _, rfl, HT⟩
  case round =>
    obtain ⟨j, hj, rfl, ht⟩ := hrel
    have hn4 := HG.out.n4
    by_cases hlt : j < K.n
    · obtain ⟨Y1, m1, t1, t2, t3, t4⟩ := ht.out
      have f1 := t1.cellB.1
      obtain ⟨_, _, _, _, c4, c5, _, c7⟩ := t1.cellT hlt
      have hlt1 : (j : Int) < (K.n : Int) := by omega
      by_cases h1 : (m1.th j).sta = 83
      · by_cases h2 : (m1.th j).wake = q
        · have HR := hide (g_makeReady K Y1 m1 j wr t1 hlt (by have := t3.lens.1; omega))
          have HN := hide (fun w' => wake_yes (w' := w') hlt t2 t3 t4 h1 h2)
          rw [h1] at c4
          rw [h2] at c5
          have b1 : ((q : Int) == (q : Int)) = true := by simp
          clear t1 t2 t3 t4 ht HT h1 h2 f0
          go_wp2_with fail
          refine HR.out.mono ?_
          rintro e w2 ⟨rfl, hw⟩
          have N1 := hide (HN.out w2 hw)
          clear hw HR HN
          go_wp2_with fail
          go_roundw
          case rel => exact ⟨j + 1, by omega, by go_num, N1⟩
          case measure => simp [intOf]; omega
        · have HN := hide (wake_no hlt t1 t2 t3 t4 (fun e => h2 e.2) (Below.refl _ _))
          rw [h1] at c4
          have b1 : ((m1.th j).wake == (q : Int)) = false := by simp [h2]
          generalize (m1.th j).wake = v at *
          clear t1 t2 t3 t4 ht HT h1 h2 f0
          go_wp2_with fail
          go_roundw
          case rel => exact ⟨j + 1, by omega, by go_num, HN⟩
          case measure => simp [intOf]; omega
      · have HN := hide (wake_no hlt t1 t2 t3 t4 (fun e => h1 e.1) (Below.refl _ _))
        have b1 : ((m1.th j).sta == 83) = false := by simp [h1]
        generalize (m1.th j).sta = v at *
        clear t1 t2 t3 t4 ht HT h1 f0
        go_wp2_with fail
        go_roundw
        case rel => exact ⟨j + 1, by omega, by go_num, HN⟩
        case measure => simp [intOf]; omega
    · have R := hide (wake_over hlt ht.out)
      clear ht HT
      have hlt1 : ¬ (j : Int) < (K.n : Int) := by omega
      go_wp2_with fail
      go_end0
      exact ⟨rfl, R.out⟩

end Go.Proofs.Ytijcoafpbgnomaa
