/- The code's machine: turn, wakeSleepers. -/
import Derived.Test.YtijcoafpbgnomaaGm7
import Derived.Test.YtijcoafpbgnomaaMach3
namespace Go.Proofs.Ytijcoafpbgnomaa
open Go.RowKit

structure Good (K : GK) : Prop where
  fine : Fine K.C K.n
  n4 : K.n ≤ 4
  len : ∀ k, k < K.n → (K.C k).length ≤ 1000

/-- A round of turn's loop begins: j instructions are made. -/
def TurnAt (K : GK) (Y : GY) (w wr : World) (k : Nat) (q : Int) (most j : Nat) (F : Mac) : Prop :=
  ∃ Y' m' ρ' op, GAt K wr Y' m' ∧ GFr K Y Y' w wr ∧ Inv K.C K.n (some k) ρ' m' ∧ (m'.th k).sta = 82 ∧ ¬ op = 89 ∧ m'.out.length + 3 * (most - j) ≤ 100000 ∧ runM K.C k q (most - j) op m' = F
/-- Behind an instruction. -/
theorem turn_next {K : GK} {Y Y' : GY} {w wr w' : World} {k : Nat} {q op : Int} {most j : Nat} {F m' : Mac} {ρ' : Nat → List Int} (hG : Good K) (hk : k < K.n) (hj : j < most) (hI : Inv K.C K.n (some k) ρ' m') (hs : (m'.th k).sta = 82) (hop : ¬ op = 89) (ho : m'.out.length + 3 * (most - j) ≤ 100000) (hr : runM K.C k q (most - j) op m' = F) (hf : GFr K Y Y' w wr) (hw : Went K Y' wr w' (actM K.C m' k q)) :
    (decide (((actM K.C m' k q).th k).sta = 82 ∧ ¬ (insAt K.C m' k).1 = 89) = true → TurnAt K Y w w' k q most (j + 1) F) ∧ (decide (((actM K.C m' k q).th k).sta = 82 ∧ ¬ (insAt K.C m' k).1 = 89) = false → Went K Y w w' F) := by
  obtain ⟨Y2, a2, b2⟩ := hw
  have e1 : most - j = (most - (j + 1)) + 1 := by omega
  rw [e1] at hr
  rw [runM, if_pos ⟨hs, hop⟩] at hr
  obtain ⟨ρ1, h1⟩ := hI.act hG.fine hk hs q
  have ha := acts_act hI q
  constructor
  · intro hd
    have hd := of_decide_eq_true hd
    refine ⟨Y2, _, ρ1, _, a2, hf.trans b2, h1, hd.1, hd.2, ?_, hr⟩
    rcases ha.out with ho2 | ⟨v, ho2⟩
    · rw [ho2]; omega
    · rw [ho2, List.length_append, show (dig3 v).length = 3 from rfl]; omega
  · intro hd
    have hd := of_decide_eq_false hd
    refine ⟨Y2, ?_, hf.trans b2⟩
    have : runM K.C k q (most - (j + 1)) (insAt K.C m' k).1 (actM K.C m' k q) = actM K.C m' k q := by
      cases most - (j + 1) with
      | zero => rfl
      | succ i => rw [runM, if_neg hd]
    rw [this] at hr
    rw [← hr]; exact a2
theorem turn_over {K : GK} {Y : GY} {w wr : World} {k : Nat} {q : Int} {most j : Nat} {F : Mac} (hj : ¬ j < most) (h : TurnAt K Y w wr k q most j F) : Went K Y w wr F := by
  obtain ⟨Y', m', ρ', op, h1, h2, h3, h4, h5, h6, h7⟩ := h
  rw [show most - j = 0 by omega] at h7
  exact ⟨Y', by rw [← h7]; exact h1, h2⟩

set_option maxRecDepth 100000 in
set_option maxHeartbeats 1000000 in
theorem g_turn (K : GK) (Y : GY) (m : Mac) (k q most : Nat) (ρ : Nat → List Int) (w : World) (h : GAt K w Y m) (hG : Good K) (hk : k < K.n) (hI : Inv K.C K.n (some k) ρ m) (hs : (m.th k).sta = 82) (ho : m.out.length + 3 * most ≤ 100000) (hq : q < 1000) (hm : most < 1000) :
    Calls Try.prog 85 #[.pointer (some ⟨K.b, 0, none⟩), .int .i64 k, .int .i64 q, .int .i64 most] w fun e w' => e = .returned (.tuple #[]) ∧ Went K Y w w' (runM K.C k q most 32 m) := by
  have HT : Hid (TurnAt K Y w w k q most 0 (runM K.C k q most 32 m)) := ⟨Y, m, ρ, 32, h, GFr.of_below (Below.refl _ _), hI, hs, by decide, by simpa using ho, by simp⟩
  generalize runM K.C k q most 32 m = F at *
  have HG := hide hG
  clear h hI hs ho hG
  go_enter Try.func85, Try.ntmps85
  go_wp2_with fail
  go_loopw [8] (fun s wr => ∃ j : Nat, j ≤ most ∧ s = .int .i64 j ∧ Hid (TurnAt K Y w wr k q most j F)) (fun s _ => most - (intOf s).toNat)
  case atStart => exact ⟨0, Nat.zero_le _, rfl, HT⟩
  case round =>
    obtain ⟨j, hj, rfl, ht⟩ := hrel
    by_cases hlt : j < most
    · obtain ⟨Y1, m1, ρ1, op, t1, t2, t3, t4, t5, t6, t7⟩ := ht.out
      have HS := hide (g_step K Y1 m1 k q ρ1 wr t1 hk HG.out.fine HG.out.n4 (HG.out.len k hk) t3 t4 (by omega) ⟨by omega, by omega⟩)
      have HN := hide (fun w' => turn_next (w' := w') HG.out hk hlt t3 t4 t5 t6 t7 t2)
      clear t1 t2 t3 t4 t5 t6 t7 ht HT
      have hlt1 : (j : Int) < (most : Int) := by omega
      generalize actM K.C m1 k q = m2 at *
      generalize decide ((m2.th k).sta = 82 ∧ ¬ (insAt K.C m1 k).1 = 89) = B at *
      go_wp2_with fail
      refine HS.out.mono ?_
      rintro e w2 ⟨rfl, hw⟩
      obtain ⟨n1, n2⟩ := HN.out w2 hw
      clear hw HS HN
      cases B with
      | true =>
        have N1 := hide (n1 rfl)
        clear n1 n2
        go_wp2_with fail
        go_roundw
        case rel => exact ⟨j + 1, by omega, by go_num, N1⟩
        case measure => simp [intOf]; omega
      | false =>
        have N2 := hide (n2 rfl)
        clear n1 n2
        go_wp2_with fail
        refine bodyPost_ret (results_none (by rfl) _ _ _) rfl ?_
        exact ⟨rfl, N2.out⟩
    · have R := hide (turn_over hlt ht.out)
      clear ht HT
      have hlt1 : ¬ (j : Int) < (most : Int) := by omega
      go_wp2_with fail
      go_end0
      exact ⟨rfl, R.out⟩

end Go.Proofs.Ytijcoafpbgnomaa
