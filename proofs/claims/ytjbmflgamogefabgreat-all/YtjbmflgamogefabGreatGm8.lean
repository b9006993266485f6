/- The code's machine: turn, wakeSleepers. -/
import Derived.Test.YtjbmflgamogefabGreatGm7
import Derived.Test.YtjbmflgamogefabGreatMachA
namespace Go.Proofs.YtjbmflgamogefabGreat
open Go.RowKit

structure Good (K : GK) : Prop where
  fine : Fine K.C K.n
  n4 : K.n ≤ 4
  len : ∀ k, k < K.n → (K.C k).length ≤ 1000

/-- A round of turn's loop begins: j instructions are made. -/
def TurnAt (K : GK) (Y : GY) (w wr : World) (k : Nat) (q : Int) (most j : Nat) (F : Mac) : Prop :=
  ∃ Y' m' ρ' op, GAt K wr Y' m' ∧ GFr K Y Y' w wr ∧ Inv K.C K.n (some k) ρ' m' ∧ (m'.th k).sta = 82 ∧ ¬ op = 89 ∧ m'.out.length + 3 * (most - j) ≤ 100000 ∧ runM K.C k q (most - j) op m' = F
/-- Behind an instruction. -/
theorem turn_next {K : GK} {Y Y' : GY} {w wr w' : World} {k : Nat} {q op : Int} {most j : Nat} {F m' : Mac} {ρ' : Nat → List Int} (hG : Good K) (hk : k < K.n) (hj : j < most) (hI : Inv K.C K.n (some k) ρ' m') (hs : (m'.th k).sta = 82) (hop : ¬ op = 89) (ho : m'.out.length + 3 * (most - j) ≤ 100000) (hr : runM K.C k q (most - j) op m' = F) (hf : GFr K Y Y' w wr) (hw : Went K Y' wr w' (actM K.C m' k q)) :
    (decide (((actM K.C m' k q).th k).sta = 82 ∧ ¬ (insAt K.C m' k).1 = 89) = true → TurnAt K Y w w' k q most (j + 1) F) ∧ (decide (((actM K.C m' k q).th k).sta = 82 ∧ ¬ (insAt K.C m' k).1 = 89) = false → Went K Y w w' F) := by
  obtain ⟨Y2, a2, b2⟩ := hw
  have e1 : most - j = (most - (j + 1)) + 1 := by omega
  rw [e1] at hr
  rw [runM, if_pos ⟨hs, hop⟩] at hr
  obtain ⟨ρ1, h1⟩ := hI.act hG.fine hk hs q
  have ha := acts_act hI q
  constructor
  · intro hd
    have hd := of_decide_eq_true hd
    refine ⟨Y2, _, ρ1, _, a2, hf.trans b2, h1, hd.1, hd.2, ?_, hr⟩
    rcases ha.out with ho2 | ⟨v, ho2⟩
    · rw [ho2]; omega
    · rw [ho2, List.length_append, show (dig3 v).length = 3 from rfl]; omega
  · intro hd
    have hd := of_decide_eq_false hd
    refine ⟨Y2, ?_, hf.trans b2⟩
    have : runM K.C k q (most - (j + 1)) (insAt K.C m' k).1 (actM K.C m' k q) = actM K.C m' k q := by
      cases most - (j + 1) with
      | zero => rfl
      | succ i => rw [runM, if_neg hd]
    rw [this] at hr
    rw [← hr]; exact a2
theorem turn_over {K : GK} {Y : GY} {w wr : World} {k : Nat} {q : Int} {most j : Nat} {F : Mac} (hj : ¬ j < most) (h : TurnAt K Y w wr k q most j F) : Went K Y w wr F := by
  obtain ⟨Y', m', ρ', op, h1, h2, h3, h4, h5, h6, h7⟩ := h
  rw [show most - j = 0 by omega] at h7
  exact ⟨Y', by rw [← h7]; exact h1, h2⟩

set_option maxRecDepth 100000 in
set_option maxHeartbeats 1000000 in
theorem g_turn (K : GK) (Y : GY) (m : Mac) (k q most : Nat) (ρ : Nat → List Int) (w : World) (h : GAt K w Y m) (hG : Good K) (hk : k < K.n) (hI : Inv K.C K.n (some k) ρ m) (hs : (m.th k).sta = 82) (ho : m.out.length + 3 * most ≤ 100000) (hq : q < 1000) (hm : most < 1000) :
    Calls Tryz.prog 62 #[.pointer (some ⟨K.b, 0, none⟩), .int .i64 k, .int .i64 q, .int .i64 most] w fun e w' => e = .returned (.tuple #[]) ∧ Went K Y w w' (runM K.C k q most 32 m) := by
  have HT : Hid (TurnAt K Y w w k q most 0 (runM K.C k q most 32 m)) := ⟨Y, m, ρ, 32, h, GFr.of_below (Below.refl _ _), hI, hs, by decide, by simpa using ho, by simp⟩
  generalize runM K.C k q most 32 m = F at *
  have HG := hide hG
  clear h hI hs ho hG
  go_enter Tryz.func62, Tryz.ntmps62
  go_wp2_with fail
  go_loopw [8] (fun s wr => ∃ j : Nat, j ≤ most ∧ s = .int .i64 j ∧ Hid (TurnAt K Y w wr k q most j F)) (fun s _ => most - (intOf s).toNat)
  case atStart => exact ⟨0, Nat.zero_le _, rfl, HT⟩
  case round =>
    obtain ⟨j, hj, rfl, ht⟩ := hrel
    by_cases hlt : j < most
    · obtain ⟨Y1, m1, ρ1, op, t1, t2, t3, t4, t5, t6, t7⟩ := ht.out
      have HS := hide (g_step K Y1 m1 k q ρ1 wr t1 hk HG.out.fine HG.out.n4 (HG.out.len k hk) t3 t4 (by omega) ⟨by omega, by omega⟩)
      have HN := hide (fun w' => turn_next (w' := w') HG.out hk hlt t3 t4 t5 t6 t7 t2)
      clear t1 t2 t3 t4 t5 t6 t7 ht HT
      have hlt1 : (j : Int) < (most : Int) := by omega
      generalize actM K.C m1 k q = m2 at *
      generalize decide ((m2.th k).sta = 82 ∧ ¬ (insAt K.C m1 k).1 = 89) = B at *
      go_wp2_with fail
      refine HS.out.mono ?_
      rintro e w2 ⟨rfl, hw⟩
      obtain ⟨n1, n2⟩ := HN.out w2 hw
      clear hw HS HN
      cases B with
      | true =>
        have N1 := hide (n1 rfl)
        clear n1 n2
        go_wp2_with fail
        go_roundw
        case rel => exact ⟨j + 1, by omega, by go_num, N1⟩
        case measure => simp [intOf]; omega
      | false =>
        have N2 := hide (n2 rfl)
        clear n1 n2
        go_wp2_with fail
        refine bodyPost_ret (results_none (by rfl) _ _ _) rfl ?_
        exact ⟨rfl, N2.out⟩
    · have R := hide (turn_over hlt ht.out)
      clear ht HT
      have hlt1 : ¬ (j : Int) < (most : Int) := by omega
      go_wp2_with fail
      go_end0
      exact ⟨rfl, R.out⟩

def WakeAt (K : GK) (Y : GY) (w wr : World) (ρ : Nat → List Int) (q : Int) (j : Nat) (F : Mac) : Prop :=
  ∃ Y' m', GAt K wr Y' m' ∧ GFr K Y Y' w wr ∧ Inv K.C K.n none ρ m' ∧ wakeM q (K.n - j) j m' = F
theorem wake_yes {K : GK} {Y Y' : GY} {w wr w' : World} {ρ : Nat → List Int} {q : Int} {j : Nat} {F m' : Mac} (hj : j < K.n) (hf : GFr K Y Y' w wr) (hI : Inv K.C K.n none ρ m') (hr : wakeM q (K.n - j) j m' = F) (h1 : (m'.th j).sta = 83) (h2 : (m'.th j).wake = q) (hw : Went K Y' wr w' (readyM m' j)) : WakeAt K Y w w' ρ q (j + 1) F := by
  obtain ⟨Y2, a2, b2⟩ := hw
  rw [show K.n - j = (K.n - (j + 1)) + 1 by omega] at hr
  rw [wakeM, if_pos ⟨h1, h2⟩] at hr
  exact ⟨Y2, _, a2, hf.trans b2, hI.ready hj (.inr ⟨rfl, h1⟩), hr⟩
theorem wake_no {K : GK} {Y Y' : GY} {w wr w' : World} {ρ : Nat → List Int} {q : Int} {j : Nat} {F m' : Mac} (hj : j < K.n) (h : GAt K wr Y' m') (hf : GFr K Y Y' w wr) (hI : Inv K.C K.n none ρ m') (hr : wakeM q (K.n - j) j m' = F) (h1 : ¬ ((m'.th j).sta = 83 ∧ (m'.th j).wake = q)) (hb : Below wr.heap.size wr w') : WakeAt K Y w w' ρ q (j + 1) F := by
  rw [show K.n - j = (K.n - (j + 1)) + 1 by omega] at hr
  rw [wakeM, if_neg h1] at hr
  exact ⟨Y', m', h.below hb, hf.trans (GFr.of_below hb), hI, hr⟩
theorem wake_over {K : GK} {Y : GY} {w wr : World} {ρ : Nat → List Int} {q : Int} {j : Nat} {F : Mac} (hj : ¬ j < K.n) (h : WakeAt K Y w wr ρ q j F) : Went K Y w wr F := by
  obtain ⟨Y', m', h1, h2, h3, h4⟩ := h
  rw [show K.n - j = 0 by omega] at h4
  exact ⟨Y', by rw [← h4]; exact h1, h2⟩

set_option maxRecDepth 100000 in
set_option maxHeartbeats 1000000 in
theorem g_wakeSleepers (K : GK) (Y : GY) (m : Mac) (q : Nat) (ρ : Nat → List Int) (w : World) (h : GAt K w Y m) (hG : Good K) (hI : Inv K.C K.n none ρ m) :
    Calls Tryz.prog 60 #[.pointer (some ⟨K.b, 0, none⟩), .int .i64 q] w fun e w' => e = .returned (.tuple #[]) ∧ Went K Y w w' (wakeM q K.n 0 m) := by
  have HT : Hid (WakeAt K Y w w ρ q 0 (wakeM q K.n 0 m)) := ⟨Y, m, h, GFr.of_below (Below.refl _ _), hI, by simp⟩
  have f0 := h.cellB.1
  generalize wakeM q K.n 0 m = F at *
  have HG := hide hG
  clear h hI hG
  go_enter Tryz.func60, Tryz.ntmps60
  go_wp2_with fail
  go_loopw [10] (fun s wr => ∃ j : Nat, j ≤ K.n ∧ s = .int .i64 j ∧ Hid (WakeAt K Y w wr ρ q j F)) (fun s _ => K.n - (intOf s).toNat)
  case atStart => exact ⟨0, Nat.zero_le _, rfl, HT⟩
  case round =>
    obtain ⟨j, hj, rfl, ht⟩ := hrel
    have hn4 := HG.out.n4
    by_cases hlt : j < K.n
    · obtain ⟨Y1, m1, t1, t2, t3, t4⟩ := ht.out
      have f1 := t1.cellB.1
      obtain ⟨_, _, _, _, c4, c5, _, c7⟩ := t1.cellT hlt
      have hlt1 : (j : Int) < (K.n : Int) := by omega
      by_cases h1 : (m1.th j).sta = 83
      · by_cases h2 : (m1.th j).wake = q
        · have HR := hide (g_makeReady K Y1 m1 j wr t1 hlt (by have := t3.lens.1; omega))
          have HN := hide (fun w' => wake_yes (w' := w') hlt t2 t3 t4 h1 h2)
          rw [h1] at c4
          rw [h2] at c5
          have b1 : ((q : Int) == (q : Int)) = true := by simp
          clear t1 t2 t3 t4 ht HT h1 h2 f0
          go_wp2_with fail
          refine HR.out.mono ?_
          rintro e w2 ⟨rfl, hw⟩
          have N1 := hide (HN.out w2 hw)
          clear hw HR HN
          go_wp2_with fail
          go_roundw
          case rel => exact ⟨j + 1, by omega, by go_num, N1⟩
          case measure => simp [intOf]; omega
        · have HN := hide (wake_no hlt t1 t2 t3 t4 (fun e => h2 e.2) (Below.refl _ _))
          rw [h1] at c4
          have b1 : ((m1.th j).wake == (q : Int)) = false := by simp [h2]
          generalize (m1.th j).wake = v at *
          clear t1 t2 t3 t4 ht HT h1 h2 f0
          go_wp2_with fail
          go_roundw
          case rel => exact ⟨j + 1, by omega, by go_num, HN⟩
          case measure => simp [intOf]; omega
      · have HN := hide (wake_no hlt t1 t2 t3 t4 (fun e => h1 e.1) (Below.refl _ _))
        have b1 : ((m1.th j).sta == 83) = false := by simp [h1]
        generalize (m1.th j).sta = v at *
        clear t1 t2 t3 t4 ht HT h1 f0
        go_wp2_with fail
        go_roundw
        case rel => exact ⟨j + 1, by omega, by go_num, HN⟩
        case measure => simp [intOf]; omega
    · have R := hide (wake_over hlt ht.out)
      clear ht HT
      have hlt1 : ¬ (j : Int) < (K.n : Int) := by omega
      go_wp2_with fail
      go_end0
      exact ⟨rfl, R.out⟩

end Go.Proofs.YtjbmflgamogefabGreat
