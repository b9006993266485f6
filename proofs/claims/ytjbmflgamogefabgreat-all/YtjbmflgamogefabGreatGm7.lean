/- The code's machine: step, whatever the instruction. -/
import Derived.Test.YtjbmflgamogefabGreatGm5A
import Derived.Test.YtjbmflgamogefabGreatGm6
namespace Go.Proofs.YtjbmflgamogefabGreat
open Go.RowKit

theorem len_lt {l : List Nat} {n : Nat} (hd : l.Nodup) (h : ∀ x ∈ l, x < n) : l.length ≤ n := by
  have := nodup_len l (List.range n) hd (fun x hx => by simpa using h x hx)
  simpa using this
theorem Inv.lens {C : Nat → List In} {n : Nat} {run : Option Nat} {ρ : Nat → List Int} {m : Mac} (h : Inv C n run ρ m) : m.q.length ≤ n ∧ (∀ l, (m.blk l).length ≤ n) ∧ (∀ l, (m.wai l).length ≤ n) :=
  ⟨len_lt h.qnd (fun x hx => ((h.que x).1 hx).1), fun l => len_lt (h.bnd l) (fun x hx => ((h.blk l x).1 hx).1), fun l => len_lt (h.wnd l) (fun x hx => ((h.wai l x).1 hx).1)⟩
theorem glue {K : GK} {Y : GY} {w : World} {m m2 : Mac} {k : Nat} {q c a : Int} {b : Bool} (hcall : Calls Tryz.prog 79 #[.pointer (some ⟨K.b, 0, none⟩), .int .i64 k, .int .i64 q] w fun e w' => e = .returned (.bool b) ∧ Went K Y w w' m2) (hins : insAt K.C m k = (c, a)) (em : actOn m k q c a = m2) (hb : b = decide ((m2.th k).sta = 82 ∧ ¬ c = 89)) :
    Calls Tryz.prog 79 #[.pointer (some ⟨K.b, 0, none⟩), .int .i64 k, .int .i64 q] w fun e w' => e = .returned (.bool (decide (((actM K.C m k q).th k).sta = 82 ∧ ¬ (insAt K.C m k).1 = 89))) ∧ Went K Y w w' (actM K.C m k q) := by
  unfold actM
  rw [hins]
  simp only
  rw [em]
  refine hcall.mono ?_
  rintro e w' ⟨rfl, hw⟩
  exact ⟨by rw [hb], hw⟩
theorem nextM_th (m : Mac) (k : Nat) : (nextM m k).th k = { m.th k with pc := (m.th k).pc + 1 } := step_th _ _ _
theorem step_next (m : Mac) (k : Nat) (t : Th) : stepTh (nextM m k) k t = stepTh m k t := step_step _ _ _ _
theorem give_sta {m : Mac} {k l : Nat} (h : (m.th k).sta = 82) : ((giveM m l).th k).sta = 82 := by
  unfold giveM
  split
  · exact h
  · next x r e =>
    simp only [readyM]
    by_cases c : k = x
    · subst c; simp only [upd_same]
    · simp only [upd_other _ _ c]; exact h
theorem note_sta {m : Mac} {k l : Nat} (h : (m.th k).sta = 82) (hw : ¬ k ∈ m.wai l) : ((noteM m l).th k).sta = 82 := by
  unfold noteM
  split
  · exact h
  · next x r e =>
    rw [e] at hw
    simp only
    rw [upd_other _ _ (fun c => hw (by simp [c]))]; exact h
theorem stk_ne {s : List Int} (h : 1 ≤ (s.length : Int)) : ¬ s = [] := by intro e; subst e; simp at h
theorem stk_ne2 {s : List Int} (h : 2 ≤ (s.length : Int)) : ¬ s.dropLast = [] := by
  intro e
  have := congrArg List.length e
  simp at this; omega

set_option maxHeartbeats 1000000 in
theorem g_step (K : GK) (Y : GY) (m : Mac) (k : Nat) (q : Int) (ρ : Nat → List Int) (w : World) (h : GAt K w Y m) (hk : k < K.n) (hF : Fine K.C K.n) (hn : K.n ≤ 4) (hN : (K.C k).length ≤ 1000) (hI : Inv K.C K.n (some k) ρ m) (hs : (m.th k).sta = 82) (ho : m.out.length ≤ 100000) (hq : 0 ≤ q ∧ q < 1000) :
    Calls Tryz.prog 79 #[.pointer (some ⟨K.b, 0, none⟩), .int .i64 k, .int .i64 q] w fun e w' => e = .returned (.bool (decide (((actM K.C m k q).th k).sta = 82 ∧ ¬ (insAt K.C m k).1 = 89))) ∧ Went K Y w w' (actM K.C m k q) := by
  obtain ⟨c, a, hca, hins, hlt, ha0, ha1, hok, hsb, hlb, _⟩ := at_ins hF hI hk (by omega)
  have hst := stk_ok hsb
  have hht : ((m.th k).stk.length : Int) ≤ 6 := ((hI.at_ k hk (by omega)).valid (hF.ok k hk)).2.2.2.1
  have hnum := hI.nums k hk
  obtain ⟨lq, lb, lw⟩ := hI.lens
  have hal : ((a.toNat : Nat) : Int) = a := by omega
  have hlet := hF.ok k hk
  by_cases c1 : c = 107
  · subst c1
    simp only [tk, pt] at hst
    refine glue (g_step_p82 K Y m k q 107 a w h hk hca hN ⟨by decide, by decide, by decide, by decide, by decide, by decide, by decide, by decide⟩ (fun Y2 w2 h2 => ?_) (m2 := stepTh m k { m.th k with pc := (m.th k).pc + 1, stk := (m.th k).stk ++ [a] }) (by simp only [Hid, step_th]; exact hs)) hins rfl (by simp [step_th, hs])
    have := g_perform_k K Y2 _ k a w2 h2 hk (by rw [nextM_th]; simp at hst ⊢; omega)
    rw [nextM_th, step_next] at this
    exact this
  by_cases c2 : c = 103
  · subst c2
    simp only [tk, pt] at hst
    have h8 : a.toNat < 8 := by simp [argOk] at hok; omega
    have hca2 := hca
    rw [← hal] at hca2
    refine glue (g_step_g K Y m (stepTh m k { m.th k with pc := (m.th k).pc + 1, stk := (m.th k).stk ++ [m.cells a.toNat] }) k q a.toNat w h hk hca2 hN h8 (fun Y2 w2 h2 => ?_) (by simp only [Hid, step_th]; exact hs)) hins rfl (by simp [step_th, hs])
    have := g_push K Y2 _ k (m.cells a.toNat) w2 h2 hk (by rw [nextM_th]; simp at hst ⊢; omega)
    rw [nextM_th, step_next] at this
    exact this
  by_cases c3 : c = 115
  · subst c3
    have e1 : tk 115 = 1 := by decide
    rw [e1] at hst
    have h8 : a.toNat < 8 := by simp [argOk] at hok; omega
    have hne : ¬ (m.th k).stk = [] := stk_ne (by omega)
    refine glue (g_step_s K Y m k q a w h hk hca hN (stepTh m k { m.th k with pc := (m.th k).pc + 1, stk := (m.th k).stk.dropLast }) (topOf (m.th k).stk) (fun Y2 w2 h2 => ?_) (fun Y2 w2 h2 => ?_) (m2 := { stepTh m k { m.th k with pc := (m.th k).pc + 1, stk := (m.th k).stk.dropLast } with cells := upd m.cells a.toNat (topOf (m.th k).stk) }) (by simp only [Hid, stepTh, upd_same]; exact hs)) hins rfl (by simp [stepTh, upd_same, hs])
    · have := g_pop' K Y2 _ k w2 h2 hk (by rw [nextM_th]; exact hne) (by rw [nextM_th]; simp only; omega)
      rw [nextM_th, step_next] at this
      exact this
    · have := g_store K Y2 _ a.toNat (topOf (m.th k).stk) w2 h2 h8
      rw [hal] at this
      exact this
  by_cases c4 : c = 112
  · subst c4
    have e1 : tk 112 = 1 := by decide
    rw [e1] at hst
    have hne : ¬ (m.th k).stk = [] := stk_ne (by omega)
    refine glue (g_step_pr K Y m k q a w h hk hca hN (stepTh m k { m.th k with pc := (m.th k).pc + 1, stk := (m.th k).stk.dropLast }) (topOf (m.th k).stk) (fun Y2 w2 h2 => ?_) (fun Y2 w2 h2 => ?_) (m2 := { stepTh m k { m.th k with pc := (m.th k).pc + 1, stk := (m.th k).stk.dropLast } with out := m.out ++ dig3 (topOf (m.th k).stk) }) (by simp only [Hid, stepTh, upd_same]; exact hs)) hins rfl (by simp [stepTh, upd_same, hs])
    · have := g_pop' K Y2 _ k w2 h2 hk (by rw [nextM_th]; exact hne) (by rw [nextM_th]; simp only; omega)
      rw [nextM_th, step_next] at this
      exact this
    · exact g_print K Y2 _ (topOf (m.th k).stk) w2 h2 (hnum _ (top_mem hne)) ho
  by_cases c5 : c = 43
  · subst c5
    have e1 : tk 43 = 2 := by decide
    rw [e1] at hst
    refine glue (g_step_p82 K Y m k q 43 a w h hk hca hN ⟨by decide, by decide, by decide, by decide, by decide, by decide, by decide, by decide⟩ (fun Y2 w2 h2 => ?_) (m2 := stepTh m k { m.th k with pc := (m.th k).pc + 1, stk := (m.th k).stk.dropLast.dropLast ++ [(topOf (m.th k).stk.dropLast + topOf (m.th k).stk) % 1000] }) (by simp only [Hid, step_th]; exact hs)) hins rfl (by simp [step_th, hs])
    have := g_perform_add K Y2 _ k a w2 h2 hk (by rw [nextM_th]; exact (stk_ne (by omega) : ¬ (m.th k).stk = [])) (by rw [nextM_th]; exact (stk_ne2 (by omega) : ¬ (m.th k).stk.dropLast = [])) (by rw [nextM_th]; exact hnum) (by rw [nextM_th]; simp only; omega)
    rw [nextM_th, step_next] at this
    exact this
  by_cases c6 : c = 45
  · subst c6
    have e1 : tk 45 = 2 := by decide
    rw [e1] at hst
    refine glue (g_step_p82 K Y m k q 45 a w h hk hca hN ⟨by decide, by decide, by decide, by decide, by decide, by decide, by decide, by decide⟩ (fun Y2 w2 h2 => ?_) (m2 := stepTh m k { m.th k with pc := (m.th k).pc + 1, stk := (m.th k).stk.dropLast.dropLast ++ [(topOf (m.th k).stk.dropLast - topOf (m.th k).stk + 1000) % 1000] }) (by simp only [Hid, step_th]; exact hs)) hins rfl (by simp [step_th, hs])
    have := g_perform_sub K Y2 _ k a w2 h2 hk (by rw [nextM_th]; exact (stk_ne (by omega) : ¬ (m.th k).stk = [])) (by rw [nextM_th]; exact (stk_ne2 (by omega) : ¬ (m.th k).stk.dropLast = [])) (by rw [nextM_th]; exact hnum) (by rw [nextM_th]; simp only; omega)
    rw [nextM_th, step_next] at this
    exact this
  by_cases c7 : c = 74
  · subst c7
    refine glue (g_step_p82 K Y m k q 74 a w h hk hca hN ⟨by decide, by decide, by decide, by decide, by decide, by decide, by decide, by decide⟩ (fun Y2 w2 h2 => ?_) (m2 := stepTh m k { m.th k with pc := a.toNat }) (by simp only [Hid, step_th]; exact hs)) hins rfl (by simp [step_th, hs])
    have := g_perform_J K Y2 _ k a.toNat w2 h2 hk
    rw [nextM_th, step_next, hal] at this
    exact this
  by_cases c8 : c = 90
  · subst c8
    have e1 : tk 90 = 1 := by decide
    rw [e1] at hst
    refine glue (g_step_p82 K Y m k q 90 a w h hk hca hN ⟨by decide, by decide, by decide, by decide, by decide, by decide, by decide, by decide⟩ (fun Y2 w2 h2 => ?_) (m2 := stepTh m k { m.th k with pc := if topOf (m.th k).stk = 0 then a.toNat else (m.th k).pc + 1, stk := (m.th k).stk.dropLast }) (by simp only [Hid, step_th]; exact hs)) hins rfl (by simp [step_th, hs])
    have := g_perform_Z K Y2 _ k a.toNat w2 h2 hk (by rw [nextM_th]; exact (stk_ne (by omega) : ¬ (m.th k).stk = [])) (by rw [nextM_th]; simp only; omega)
    rw [nextM_th, step_next, hal] at this
    exact this
  by_cases c9 : c = 65
  · subst c9
    have h4 : a.toNat < 4 := by simp [argOk] at hok; omega
    by_cases hw : m.own a.toNat < 0
    · have hm1 : m.own a.toNat = -1 := by
        rcases hI.who a.toNat with e | ⟨j, _, e⟩
        · exact e
        · omega
      refine glue (g_step_A82 K Y m k q a w h hk hca hN (fun Y2 w2 h2 => ?_) (m2 := { stepTh m k { m.th k with pc := (m.th k).pc + 1 } with own := upd m.own a.toNat (k : Int) }) (by simp only [Hid, stepTh, upd_same]; exact hs)) hins (by simp [actOn, hw]) (by simp [stepTh, upd_same, hs])
      have := g_ask0 K Y2 _ k a.toNat w2 h2 h4 hm1
      rw [hal] at this
      exact this
    · refine glue (g_step_Ano K Y m k q a w h hk hca hN (fun Y2 w2 h2 => ?_) (m2 := { stepTh m k { m.th k with pc := (m.th k).pc + 1, sta := 66, bat := a.toNat } with blk := upd m.blk a.toNat (m.blk a.toNat ++ [k]) }) ⟨66, by simp only [stepTh, upd_same], rfl⟩) hins (by simp [actOn, hw]) (by simp [stepTh, upd_same])
      have := g_ask1 K Y2 _ k a.toNat w2 h2 h4 hk (by show ¬ m.own a.toNat = -1; omega) (by show (m.blk a.toNat).length ≤ 1000; have := lb a.toNat; omega)
      rw [hal, nextM_th, step_next] at this
      exact this
  by_cases c10 : c = 82
  · subst c10
    have h4 : a.toNat < 4 := by simp [argOk] at hok; omega
    refine glue (g_step_R82 K Y m k q a w h hk hca hN (fun Y2 w2 h2 => ?_) (m2 := giveM (nextM m k) a.toNat) (give_sta (by rw [nextM_th]; exact hs))) hins rfl (by rw [give_sta (by rw [nextM_th]; exact hs)]; rfl)
    have := g_giveBack K Y2 _ a.toNat w2 h2 h4 (fun x hx => ((hI.blk a.toNat x).1 hx).1) (by show (m.blk a.toNat).length ≤ 1000; have := lb a.toNat; omega) (by show m.q.length ≤ 1000; omega)
    rw [hal] at this
    exact this
  by_cases c11 : c = 87
  · subst c11
    have h4 : a.toNat < 4 := by simp [argOk] at hok; omega
    refine glue (g_step_Wno K Y m k q a w h hk hca hN (fun Y2 w2 h2 => ?_) (m2 := waitM (giveM (nextM m k) a.toNat) k a.toNat) ⟨87, by simp only [waitM, upd_same], rfl⟩) hins rfl (by simp [waitM, upd_same])
    have := g_wait K Y2 _ k a.toNat w2 h2 h4 hk (fun x hx => ((hI.blk a.toNat x).1 hx).1) (by show (m.blk a.toNat).length ≤ 1000; have := lb a.toNat; omega) (by show m.q.length ≤ 1000; omega) (by show (m.wai a.toNat).length ≤ 1000; have := lw a.toNat; omega)
    rw [hal] at this
    exact this
  by_cases c12 : c = 78
  · subst c12
    have h4 : a.toNat < 4 := by simp [argOk] at hok; omega
    have hnw : ¬ k ∈ (nextM m k).wai a.toNat := fun hx => by have := ((hI.wai a.toNat k).1 hx).2.1; omega
    refine glue (g_step_N82 K Y m k q a w h hk hca hN (fun Y2 w2 h2 => ?_) (m2 := noteM (nextM m k) a.toNat) (note_sta (by rw [nextM_th]; exact hs) hnw)) hins rfl (by rw [note_sta (by rw [nextM_th]; exact hs) hnw]; rfl)
    have := g_wakeWaiting K Y2 _ a.toNat w2 h2 h4 (fun x hx => ((hI.wai a.toNat x).1 hx).1) (by show (m.wai a.toNat).length ≤ 1000; have := lw a.toNat; omega) (by show (m.blk a.toNat).length ≤ 1000; have := lb a.toNat; omega)
    rw [hal] at this
    exact this
  by_cases c13 : c = 84
  · subst c13
    refine glue (g_step_T K Y m k q a w h hk hca hN ⟨hq.1, hq.2, ha0, by omega⟩ (fun Y2 w2 h2 => ?_) (m2 := stepTh m k { m.th k with pc := (m.th k).pc + 1, sta := 83, wake := q + 1 + a }) ⟨83, by simp only [step_th], rfl⟩) hins rfl (by simp [step_th])
    have := g_sleepUntil K Y2 _ k (q + 1 + a) w2 h2 hk
    rw [nextM_th, step_next] at this
    exact this
  by_cases c14 : c = 88
  · subst c14
    refine glue (g_step_pno K Y m k q 88 a w h hk hca hN ⟨by decide, by decide, by decide, by decide, by decide, by decide, by decide, by decide⟩ (fun Y2 w2 h2 => ?_) (m2 := stepTh m k { m.th k with pc := (m.th k).pc + 1, sta := 68 }) ⟨68, by simp only [step_th], rfl⟩) hins rfl (by simp [step_th])
    have := g_perform_X K Y2 _ k a w2 h2 hk
    rw [nextM_th, step_next] at this
    exact this
  · have hno : ∀ x : Int, ¬ c = x → (c == x) = false := fun x hx => by simp [hx]
    refine glue (g_step_p82 K Y m k q c a w h hk hca hN ⟨hno _ c2, hno _ c3, hno _ c4, hno _ c9, hno _ c10, hno _ c11, hno _ c12, hno _ c13⟩ (fun Y2 w2 h2 => ?_) (m2 := nextM m k) (by simp only [Hid, nextM_th]; exact hs)) hins (by unfold actOn; rw [if_neg c1, if_neg c2, if_neg c3, if_neg c4, if_neg c5, if_neg c6, if_neg c7, if_neg c8, if_neg c9, if_neg c10, if_neg c11, if_neg c12, if_neg c13, if_neg c14]; rfl) (by rw [nextM_th]; by_cases e : c = 89 <;> simp [hs, e])
    exact g_perform_Y K Y2 _ k c a w2 h2 ⟨hno _ c1, hno _ c5, hno _ c6, hno _ c7, hno _ c8, hno _ c14⟩

end Go.Proofs.YtjbmflgamogefabGreat
