/- A single thread: what it does hangs on how many instructions it has made (Alone). -/
import Derived.Test.YtjbmflgamogefabMach4
namespace Go.Proofs.Ytjbmflgamogefab

/-- The same but for the queue and the trace. -/
structure Like (m m' : Mac) : Prop where
  th : m'.th = m.th
  cells : m'.cells = m.cells
  own : m'.own = m.own
  blk : m'.blk = m.blk
  wai : m'.wai = m.wai
  out : m'.out = m.out
theorem Like.refl (m : Mac) : Like m m := ⟨rfl, rfl, rfl, rfl, rfl, rfl⟩
theorem Like.symm {m m' : Mac} (h : Like m m') : Like m' m := ⟨h.th.symm, h.cells.symm, h.own.symm, h.blk.symm, h.wai.symm, h.out.symm⟩
theorem Like.trans {a b c : Mac} (h : Like a b) (k : Like b c) : Like a c := ⟨k.th.trans h.th, k.cells.trans h.cells, k.own.trans h.own, k.blk.trans h.blk, k.wai.trans h.wai, k.out.trans h.out⟩
theorem like_eta {m m' : Mac} (h : Like m m') : m' = { m with q := m'.q, trc := m'.trc, log := m'.log } := by
  cases m; cases m'
  obtain ⟨h1, h2, h3, h4, h5, h6⟩ := h
  simp only at h1 h2 h3 h4 h5 h6
  subst h1; subst h2; subst h3; subst h4; subst h5; subst h6; rfl
theorem like_give (m : Mac) (x : List Nat) (y z : List Int) (k l : Nat) (t : Th) : Like (giveM (stepTh m k t) l) (giveM (stepTh { m with q := x, trc := y, log := z } k t) l) := by
  unfold giveM
  have e : (stepTh { m with q := x, trc := y, log := z } k t).blk l = (stepTh m k t).blk l := rfl
  rw [e]
  cases (stepTh m k t).blk l with
  | nil => exact ⟨rfl, rfl, rfl, rfl, rfl, rfl⟩
  | cons j r => exact ⟨rfl, rfl, rfl, rfl, rfl, rfl⟩
theorem like_note (m : Mac) (x : List Nat) (y z : List Int) (k l : Nat) (t : Th) : Like (noteM (stepTh m k t) l) (noteM (stepTh { m with q := x, trc := y, log := z } k t) l) := by
  unfold noteM
  have e : (stepTh { m with q := x, trc := y, log := z } k t).wai l = (stepTh m k t).wai l := rfl
  rw [e]
  cases (stepTh m k t).wai l with
  | nil => exact ⟨rfl, rfl, rfl, rfl, rfl, rfl⟩
  | cons j r => exact ⟨rfl, rfl, rfl, rfl, rfl, rfl⟩
theorem like_wait {m m' : Mac} (h : Like m m') (k l : Nat) : Like (waitM m k l) (waitM m' k l) := ⟨by simp only [waitM, h.th], h.cells, h.own, h.blk, by simp only [waitM, h.wai], h.out⟩
theorem like_on {m m' : Mac} (h : Like m m') (k : Nat) (q q' c a : Int) (hc : ¬ c = 84) : Like (actOn m k q c a) (actOn m' k q' c a) := by
  rw [like_eta h]
  generalize m'.q = x
  generalize m'.trc = y
  generalize m'.log = z
  unfold actOn
  by_cases c1 : c = 107
  · rw [if_pos c1, if_pos c1]; exact ⟨rfl, rfl, rfl, rfl, rfl, rfl⟩
  rw [if_neg c1, if_neg c1]
  by_cases c2 : c = 103
  · rw [if_pos c2, if_pos c2]; exact ⟨rfl, rfl, rfl, rfl, rfl, rfl⟩
  rw [if_neg c2, if_neg c2]
  by_cases c3 : c = 115
  · rw [if_pos c3, if_pos c3]; exact ⟨rfl, rfl, rfl, rfl, rfl, rfl⟩
  rw [if_neg c3, if_neg c3]
  by_cases c4 : c = 112
  · rw [if_pos c4, if_pos c4]; exact ⟨rfl, rfl, rfl, rfl, rfl, rfl⟩
  rw [if_neg c4, if_neg c4]
  by_cases c5 : c = 43
  · rw [if_pos c5, if_pos c5]; exact ⟨rfl, rfl, rfl, rfl, rfl, rfl⟩
  rw [if_neg c5, if_neg c5]
  by_cases c6 : c = 45
  · rw [if_pos c6, if_pos c6]; exact ⟨rfl, rfl, rfl, rfl, rfl, rfl⟩
  rw [if_neg c6, if_neg c6]
  by_cases c7 : c = 74
  · rw [if_pos c7, if_pos c7]; exact ⟨rfl, rfl, rfl, rfl, rfl, rfl⟩
  rw [if_neg c7, if_neg c7]
  by_cases c8 : c = 90
  · rw [if_pos c8, if_pos c8]; exact ⟨rfl, rfl, rfl, rfl, rfl, rfl⟩
  rw [if_neg c8, if_neg c8]
  by_cases c9 : c = 65
  · rw [if_pos c9, if_pos c9]
    by_cases ho : m.own a.toNat < 0
    · rw [if_pos ho, if_pos ho]; exact ⟨rfl, rfl, rfl, rfl, rfl, rfl⟩
    · rw [if_neg ho, if_neg ho]; exact ⟨rfl, rfl, rfl, rfl, rfl, rfl⟩
  rw [if_neg c9, if_neg c9]
  by_cases c10 : c = 82
  · rw [if_pos c10, if_pos c10]; exact like_give _ _ _ _ _ _ _
  rw [if_neg c10, if_neg c10]
  by_cases c11 : c = 87
  · rw [if_pos c11, if_pos c11]; exact like_wait (like_give _ _ _ _ _ _ _) _ _
  rw [if_neg c11, if_neg c11]
  by_cases c12 : c = 78
  · rw [if_pos c12, if_pos c12]; exact like_note _ _ _ _ _ _ _
  rw [if_neg c12, if_neg c12]
  rw [if_neg hc, if_neg hc]
  by_cases c13 : c = 88
  · rw [if_pos c13, if_pos c13]; exact ⟨rfl, rfl, rfl, rfl, rfl, rfl⟩
  rw [if_neg c13, if_neg c13]
  exact ⟨rfl, rfl, rfl, rfl, rfl, rfl⟩

/-- So many instructions of thread 0, while it is ready. -/
def iterA (C : Nat → List In) : Nat → Mac → Mac
  | 0, m => m
  | i + 1, m => if (m.th 0).sta = 82 then iterA C i (actM C m 0 0) else m
theorem iterA_stop {C : Nat → List In} {m : Mac} (h : ¬ (m.th 0).sta = 82) : ∀ i, iterA C i m = m
  | 0 => rfl
  | i + 1 => by simp only [iterA, if_neg h]
theorem iterA_add (C : Nat → List In) : ∀ (i j : Nat) (m : Mac), iterA C (i + j) m = iterA C j (iterA C i m)
  | 0, j, m => by simp [iterA]
  | i + 1, j, m => by
    rw [show i + 1 + j = i + j + 1 from by omega]
    simp only [iterA]
    split
    · exact iterA_add C i j _
    · rename_i h; exact (iterA_stop h j).symm
/-- No instruction of the code ends a quantum early but X. -/
def Steady (I : List In) : Prop := ∀ x ∈ I, ¬ x.1 = 89 ∧ ¬ x.1 = 84 ∧ ¬ x.1 = 87
theorem ins_steady {C : Nat → List In} (hS : Steady (C 0)) (m : Mac) : ¬ (insAt C m 0).1 = 89 ∧ ¬ (insAt C m 0).1 = 84 := by
  unfold insAt
  rw [List.getD_eq_getElem?_getD]
  cases h : (C 0)[(m.th 0).pc]? with
  | none => simp
  | some x => have := hS x (List.mem_of_getElem? h); exact ⟨this.1, this.2.1⟩
theorem ins_like {C : Nat → List In} {m m' : Mac} (h : Like m m') (k : Nat) : insAt C m' k = insAt C m k := by unfold insAt; rw [h.th]
theorem like_iter {C : Nat → List In} (hS : Steady (C 0)) : ∀ (i : Nat) (m m' : Mac), Like m m' → Like (iterA C i m) (iterA C i m')
  | 0, _, _, h => h
  | i + 1, m, m', h => by
    simp only [iterA]
    rw [h.th]
    split
    · refine like_iter hS i _ _ ?_
      unfold actM
      rw [ins_like h]
      exact like_on h _ _ _ _ _ (ins_steady hS m).2
    · exact h
theorem like_run {C : Nat → List In} (hS : Steady (C 0)) (q : Int) : ∀ (i : Nat) (op : Int) (m m' : Mac), ¬ op = 89 → Like m m' → Like (iterA C i m) (runM C 0 q i op m')
  | 0, _, _, _, _, h => h
  | i + 1, op, m, m', ho, h => by
    simp only [iterA, runM]
    rw [h.th]
    by_cases hs : (m.th 0).sta = 82
    · rw [if_pos hs, if_pos ⟨hs, ho⟩]
      refine like_run hS q i _ _ _ (by rw [ins_like h]; exact (ins_steady hS m).1) ?_
      unfold actM
      rw [ins_like h]
      exact like_on h _ _ _ _ _ (ins_steady hS m).2
    · rw [if_neg hs, if_neg (fun x => hs x.1)]; exact h

/-- A single thread is never blocked, asleep or waiting. -/
theorem act_alone {C : Nat → List In} {ρ : Nat → List Int} {m : Mac} (hF : Fine C 1) (hS : Steady (C 0)) (h : Inv C 1 (some 0) ρ m) (hs : (m.th 0).sta = 82) (q : Int) : ((actM C m 0 q).th 0).sta = 82 ∨ ((actM C m 0 q).th 0).sta = 68 := by
  obtain ⟨c, a, hca, hins, _, ha0, _, _, _, hlb, _⟩ := at_ins hF h (Nat.zero_lt_one) (by omega)
  have hst := hS _ (List.mem_of_getElem? hca)
  simp only at hst
  have hal : ((a.toNat : Nat) : Int) = a := by omega
  have hstep : ∀ t : Th, t.sta = 82 → ((stepTh m 0 t).th 0).sta = 82 := fun t ht => by simp only [stepTh, upd_same]; exact ht
  have hgive : ∀ (t : Th) (l : Nat), t.sta = 82 → ((giveM (stepTh m 0 t) l).th 0).sta = 82 := fun t l ht => by
    unfold giveM
    split
    · simp only [stepTh, upd_same]; exact ht
    · rename_i x r hb
      by_cases e : 0 = x
      · subst e; simp [readyM, upd_same]
      · simp only [readyM, stepTh, upd_other _ _ e, upd_same]; exact ht
  unfold actM
  rw [hins]
  unfold actOn
  by_cases c1 : c = 107
  · rw [if_pos c1]; exact .inl (hstep _ hs)
  rw [if_neg c1]
  by_cases c2 : c = 103
  · rw [if_pos c2]; exact .inl (hstep _ hs)
  rw [if_neg c2]
  by_cases c3 : c = 115
  · rw [if_pos c3]; exact .inl (hstep _ hs)
  rw [if_neg c3]
  by_cases c4 : c = 112
  · rw [if_pos c4]; exact .inl (hstep _ hs)
  rw [if_neg c4]
  by_cases c5 : c = 43
  · rw [if_pos c5]; exact .inl (hstep _ hs)
  rw [if_neg c5]
  by_cases c6 : c = 45
  · rw [if_pos c6]; exact .inl (hstep _ hs)
  rw [if_neg c6]
  by_cases c7 : c = 74
  · rw [if_pos c7]; exact .inl (hstep _ hs)
  rw [if_neg c7]
  by_cases c8 : c = 90
  · rw [if_pos c8]; exact .inl (hstep _ hs)
  rw [if_neg c8]
  by_cases c9 : c = 65
  · rw [if_pos c9]
    have ho : m.own a.toNat < 0 := by
      rcases h.who a.toNat with ho | ⟨j, hj, ho⟩
      · omega
      · have hj0 : j = 0 := by omega
        subst hj0
        have hm := (h.own a.toNat 0 hj).1 ho
        rw [owned_plain (.inl hs), hal] at hm
        have hb : hasL (ρ 0) a = false := by subst c9; simpa [lckBad] using hlb
        simp [hasL] at hb
        exact absurd hm hb
    rw [if_pos ho]; exact .inl (hstep _ hs)
  rw [if_neg c9]
  by_cases c10 : c = 82
  · rw [if_pos c10]; exact .inl (hgive _ _ hs)
  rw [if_neg c10, if_neg hst.2.2]
  by_cases c12 : c = 78
  · rw [if_pos c12]
    unfold noteM
    have hwe : (stepTh m 0 { m.th 0 with pc := (m.th 0).pc + 1 }).wai a.toNat = m.wai a.toNat := rfl
    rw [hwe]
    cases hw : m.wai a.toNat with
    | nil => exact .inl (hstep _ hs)
    | cons x r =>
      have hx := (h.wai a.toNat x).1 (by rw [hw]; simp)
      have hx0 : x = 0 := by omega
      subst hx0; omega
  rw [if_neg c12, if_neg hst.2.1]
  by_cases c14 : c = 88
  · rw [if_pos c14]; exact .inr (by simp [stepTh, upd_same])
  rw [if_neg c14]; exact .inl (hstep _ hs)
theorem run_alone {C : Nat → List In} (hF : Fine C 1) (hS : Steady (C 0)) (q : Int) : ∀ (i : Nat) (op : Int) (m : Mac) (ρ : Nat → List Int), Inv C 1 (some 0) ρ m → ((m.th 0).sta = 82 ∨ (m.th 0).sta = 68) → ((runM C 0 q i op m).th 0).sta = 82 ∨ ((runM C 0 q i op m).th 0).sta = 68
  | 0, _, _, _, _, h => h
  | i + 1, op, m, ρ, hI, h => by
    simp only [runM]
    split
    · rename_i hc
      obtain ⟨ρ1, h1⟩ := hI.act hF Nat.zero_lt_one hc.1 q
      exact run_alone hF hS q i _ _ _ h1 (act_alone hF hS hI hc.1 q)
    · exact h
theorem upd_self {f : Nat → Th} {k : Nat} {t : Th} (h : t = f k) : upd f k t = f := by
  funext j
  by_cases e : j = k
  · subst e; rw [upd_same, h]
  · rw [upd_other _ _ e]
theorem play_alone {C : Nat → List In} (hF : Fine C 1) (hS : Steady (C 0)) (quantum : Nat) : ∀ i, Like (iterA C (i * quantum) (beginM 1)) (playM C 1 quantum i) ∧ (((playM C 1 quantum i).th 0).sta = 82 ∨ ((playM C 1 quantum i).th 0).sta = 68)
  | 0 => ⟨by rw [Nat.zero_mul]; exact Like.refl _, .inl rfl⟩
  | i + 1 => by
    obtain ⟨h1, h2⟩ := play_alone hF hS quantum i
    obtain ⟨ρ, hI⟩ := Inv.plays hF quantum i
    have hwk : wakeM (i : Int) 1 0 (playM C 1 quantum i) = playM C 1 quantum i := by
      simp only [wakeM]
      rw [if_neg (by omega)]
    have e2 : (i + 1) * quantum = i * quantum + quantum := Nat.succ_mul i quantum
    rw [e2, iterA_add]
    have hq := hI.que 0
    rcases h2 with h2 | h2
    · have hm : 0 ∈ (playM C 1 quantum i).q := hq.2 ⟨Nat.zero_lt_one, h2, by simp⟩
      have hq0 : (playM C 1 quantum i).q = [0] := by
        have hlen : (playM C 1 quantum i).q.length ≤ 1 := by
          have := nodup_len _ (List.range 1) hI.qnd (fun x hx => List.mem_range.2 ((hI.que x).1 hx).1)
          simpa using this
        match hl : (playM C 1 quantum i).q, hm, hlen with
        | [x], hm, _ => simp at hm; rw [hm]
        | x :: y :: r, _, hlen => simp at hlen
      obtain ⟨hst, _, _⟩ := hI.start hq0 ((playM C 1 quantum i).trc ++ [48 + ((0 : Nat) : Int)])
      have hr := run_alone hF hS (i : Int) quantum 32 _ _ hst (.inl h2)
      have hlk : Like (iterA C quantum (iterA C (i * quantum) (beginM 1))) (runM C 0 i quantum 32 { playM C 1 quantum i with q := [], trc := (playM C 1 quantum i).trc ++ [48 + ((0 : Nat) : Int)] }) :=
        (like_iter hS quantum _ _ h1).trans (like_run hS (i : Int) quantum 32 _ _ (by omega) ⟨rfl, rfl, rfl, rfl, rfl, rfl⟩)
      simp only [playM]
      obtain ⟨L, eL⟩ := turn_eq C 1 quantum i (playM C 1 quantum i)
      rw [eL]
      simp only [turn0M]
      rw [hwk, hq0]
      simp only
      split
      · rename_i hs2
        refine ⟨⟨?_, hlk.cells, hlk.own, hlk.blk, hlk.wai, hlk.out⟩, ?_⟩
        · simp only [readyM]
          rw [upd_self (by rw [← hs2])]
          exact hlk.th
        · left; simp [readyM, upd_same]
      · exact ⟨⟨hlk.th, hlk.cells, hlk.own, hlk.blk, hlk.wai, hlk.out⟩, hr⟩
    · have hq0 : (playM C 1 quantum i).q = [] := by
        cases hl : (playM C 1 quantum i).q with
        | nil => rfl
        | cons x r =>
          have := (hI.que x).1 (by rw [hl]; simp)
          have hx0 : x = 0 := by omega
          subst hx0; omega
      simp only [playM]
      obtain ⟨L, eL⟩ := turn_eq C 1 quantum i (playM C 1 quantum i)
      rw [eL]
      simp only [turn0M]
      rw [hwk, hq0]
      simp only
      refine ⟨?_, .inr h2⟩
      rw [iterA_stop (by rw [← h1.th]; omega)]
      exact ⟨h1.th, h1.cells, h1.own, h1.blk, h1.wai, h1.out⟩
/-- P7: cut into other quanta, the same. -/
theorem alone_same {C : Nat → List In} (hF : Fine C 1) (hS : Steady (C 0)) (q n r m : Nat) (h : q * n = r * m) : Like (playM C 1 q n) (playM C 1 r m) := by
  have h1 := (play_alone hF hS q n).1
  have h2 := (play_alone hF hS r m).1
  rw [Nat.mul_comm n q, h, Nat.mul_comm r m] at h1
  exact h1.symm.trans h2

end Go.Proofs.Ytjbmflgamogefab
