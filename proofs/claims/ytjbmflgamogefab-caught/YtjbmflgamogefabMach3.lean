/- The machine: what is told; who has a quantum. -/
import Derived.Test.YtjbmflgamogefabMach2
namespace Go.Proofs.Ytjbmflgamogefab

/-- How the state of a thread that has not the quantum may turn. -/
def Ch (s s' : Int) : Prop := s' = s ∨ s' = 82 ∨ (s = 87 ∧ s' = 66)
theorem Ch.refl (s : Int) : Ch s s := .inl rfl
theorem Ch.trans {a b c : Int} (h : Ch a b) (k : Ch b c) : Ch a c := by
  unfold Ch at *; omega
theorem upd_ne {f : Nat → Th} {k j : Nat} {t : Th} (h : ¬ j = k) : (upd f k t j).sta = (f j).sta := by rw [upd_other _ _ h]

/-- What one instruction does to what is told, to the queue and to the others. -/
structure Acts (k : Nat) (m m' : Mac) : Prop where
  trc : m'.trc = m.trc
  out : m'.out = m.out ∨ ∃ v, m'.out = m.out ++ dig3 v
  que : ∃ e, m'.q = m.q ++ e
  oth : ∀ j, ¬ j = k → Ch (m.th j).sta (m'.th j).sta ∧ (m'.th j).stk = (m.th j).stk ∧ (m'.th j).pc = (m.th j).pc ∧ (m'.th j).wake = (m.th j).wake
theorem acts_step (m : Mac) (k : Nat) (t : Th) : Acts k m (stepTh m k t) := ⟨rfl, .inl rfl, ⟨[], by simp [stepTh]⟩, fun j hj => by simp only [stepTh, upd_other _ _ hj]; exact ⟨Ch.refl _, by trivial, by trivial, by trivial⟩⟩
theorem acts_give (m : Mac) (k l : Nat) (t : Th) : Acts k m (giveM (stepTh m k t) l) := by
  unfold giveM
  split
  · exact ⟨rfl, .inl rfl, ⟨[], by simp [stepTh]⟩, fun j hj => by simp only [stepTh, upd_other _ _ hj]; exact ⟨Ch.refl _, by trivial, by trivial, by trivial⟩⟩
  · rename_i x r hb
    refine ⟨rfl, .inl rfl, ⟨[x], rfl⟩, fun j hj => ?_⟩
    by_cases e : j = x
    · subst e; simp only [readyM, stepTh, upd_same, upd_other _ _ hj]; exact ⟨.inr (.inl (by trivial)), by trivial, by trivial, by trivial⟩
    · simp only [readyM, stepTh, upd_other _ _ e, upd_other _ _ hj]; exact ⟨Ch.refl _, by trivial, by trivial, by trivial⟩
theorem acts_with {m m1 : Mac} {k : Nat} (h : Acts k m m1) {m' : Mac} (h1 : m'.trc = m1.trc) (h2 : m'.out = m1.out) (h3 : m'.q = m1.q) (h4 : ∀ j, ¬ j = k → m'.th j = m1.th j) : Acts k m m' :=
  ⟨h1.trans h.trc, by rw [h2]; exact h.out, by rw [h3]; exact h.que, fun j hj => by rw [h4 j hj]; exact h.oth j hj⟩
theorem acts_act {C : Nat → List In} {n : Nat} {ρ : Nat → List Int} {m : Mac} {k : Nat} (h : Inv C n (some k) ρ m) (q : Int) : Acts k m (actM C m k q) := by
  unfold actM
  generalize insAt C m k = x
  obtain ⟨c, a⟩ := x
  unfold actOn
  by_cases c1 : c = 107
  · rw [if_pos c1]; exact acts_step _ _ _
  rw [if_neg c1]
  by_cases c2 : c = 103
  · rw [if_pos c2]; exact acts_step _ _ _
  rw [if_neg c2]
  by_cases c3 : c = 115
  · rw [if_pos c3]; exact acts_with (acts_step m k _) rfl rfl rfl (fun _ _ => rfl)
  rw [if_neg c3]
  by_cases c4 : c = 112
  · rw [if_pos c4]
    exact ⟨rfl, .inr ⟨_, rfl⟩, ⟨[], by simp [stepTh]⟩, fun j hj => by simp only [stepTh, upd_other _ _ hj]; exact ⟨Ch.refl _, by trivial, by trivial, by trivial⟩⟩
  rw [if_neg c4]
  by_cases c5 : c = 43
  · rw [if_pos c5]; exact acts_step _ _ _
  rw [if_neg c5]
  by_cases c6 : c = 45
  · rw [if_pos c6]; exact acts_step _ _ _
  rw [if_neg c6]
  by_cases c7 : c = 74
  · rw [if_pos c7]; exact acts_step _ _ _
  rw [if_neg c7]
  by_cases c8 : c = 90
  · rw [if_pos c8]; exact acts_step _ _ _
  rw [if_neg c8]
  by_cases c9 : c = 65
  · rw [if_pos c9]
    by_cases ho : m.own a.toNat < 0
    · rw [if_pos ho]; exact acts_with (acts_step m k _) rfl rfl rfl (fun _ _ => rfl)
    · rw [if_neg ho]; exact acts_with (acts_step m k _) rfl rfl rfl (fun _ _ => rfl)
  rw [if_neg c9]
  by_cases c10 : c = 82
  · rw [if_pos c10]; exact acts_give _ _ _ _
  rw [if_neg c10]
  by_cases c11 : c = 87
  · rw [if_pos c11]; exact acts_with (acts_give m k _ _) rfl rfl rfl (fun j hj => by simp only [waitM, upd_other _ _ hj])
  rw [if_neg c11]
  by_cases c12 : c = 78
  · rw [if_pos c12]
    unfold noteM
    have hwe : (stepTh m k { m.th k with pc := (m.th k).pc + 1 }).wai a.toNat = m.wai a.toNat := rfl
    rw [hwe]
    cases hw : m.wai a.toNat with
    | nil => exact acts_step _ _ _
    | cons x r =>
      have hx := ((h.wai _ x).1 (by rw [hw]; simp)).2.1
      refine ⟨rfl, .inl rfl, ⟨[], by simp [stepTh]⟩, fun j hj => ?_⟩
      by_cases e : j = x
      · subst e; simp only [stepTh, upd_same, upd_other _ _ hj]; exact ⟨.inr (.inr ⟨hx, by trivial⟩), by trivial, by trivial, by trivial⟩
      · simp only [stepTh, upd_other _ _ e, upd_other _ _ hj]; exact ⟨Ch.refl _, by trivial, by trivial, by trivial⟩
  rw [if_neg c12]
  by_cases c13 : c = 84
  · rw [if_pos c13]; exact acts_step _ _ _
  rw [if_neg c13]
  by_cases c14 : c = 88
  · rw [if_pos c14]; exact acts_step _ _ _
  rw [if_neg c14]
  exact acts_step _ _ _

/-- The same of a whole quantum's instructions. -/
structure Runs (k i : Nat) (m m' : Mac) : Prop where
  trc : m'.trc = m.trc
  out : ∃ e, m'.out = m.out ++ e ∧ e.length % 3 = 0 ∧ e.length ≤ 3 * i
  que : ∃ e, m'.q = m.q ++ e
  oth : ∀ j, ¬ j = k → Ch (m.th j).sta (m'.th j).sta ∧ (m'.th j).stk = (m.th j).stk ∧ (m'.th j).pc = (m.th j).pc ∧ (m'.th j).wake = (m.th j).wake
theorem runs_all {C : Nat → List In} {n k : Nat} (hF : Fine C n) (hk : k < n) (q : Int) : ∀ (i : Nat) (op : Int) (m : Mac) (ρ : Nat → List Int), Inv C n (some k) ρ m → Runs k i m (runM C k q i op m)
  | 0, _, m, _, _ => ⟨rfl, ⟨[], by simp [runM], by simp, by simp⟩, ⟨[], by simp [runM]⟩, fun j _ => ⟨Ch.refl _, rfl, rfl, rfl⟩⟩
  | i + 1, op, m, ρ, h => by
    simp only [runM]
    split
    · rename_i hc
      have ha := acts_act h q
      obtain ⟨ρ1, h1⟩ := h.act hF hk hc.1 q
      have hr := runs_all hF hk q i (insAt C m k).1 _ _ h1
      refine ⟨hr.trc.trans ha.trc, ?_, ?_, fun j hj => ?_⟩
      · obtain ⟨e, he, h3, hl⟩ := hr.out
        rcases ha.out with ho | ⟨v, ho⟩
        · exact ⟨e, by rw [he, ho], h3, by omega⟩
        · refine ⟨dig3 v ++ e, by rw [he, ho, List.append_assoc], ?_, ?_⟩
          · rw [List.length_append, show (dig3 v).length = 3 from rfl]; omega
          · rw [List.length_append, show (dig3 v).length = 3 from rfl]; omega
      · obtain ⟨e, he⟩ := hr.que
        obtain ⟨e', he'⟩ := ha.que
        exact ⟨e' ++ e, by rw [he, he', List.append_assoc]⟩
      · obtain ⟨a1, a2, a3, a4⟩ := ha.oth j hj
        obtain ⟨b1, b2, b3, b4⟩ := hr.oth j hj
        exact ⟨a1.trans b1, b2.trans a2, b3.trans a3, b4.trans a4⟩
    · exact ⟨rfl, ⟨[], by simp, by simp, by simp⟩, ⟨[], by simp⟩, fun j _ => ⟨Ch.refl _, rfl, rfl, rfl⟩⟩

/-- Those who wake up go behind the queue; nothing else turns. -/
structure Woke (q : Int) (m m' : Mac) : Prop where
  trc : m'.trc = m.trc
  out : m'.out = m.out
  cells : m'.cells = m.cells
  own : m'.own = m.own
  blk : m'.blk = m.blk
  wai : m'.wai = m.wai
  que : ∃ e, m'.q = m.q ++ e ∧ ((∀ j, ¬ j ∈ e → m'.th j = m.th j) ∧ ∀ j, j ∈ e → (m.th j).sta = 83 ∧ (m.th j).wake = q ∧ m'.th j = { m.th j with sta := 82 })
theorem wokes {q : Int} : ∀ (i k : Nat) (m : Mac), Woke q m (wakeM q i k m)
  | 0, _, m => ⟨rfl, rfl, rfl, rfl, rfl, rfl, ⟨[], by simp [wakeM], fun _ _ => rfl, fun j h => by cases h⟩⟩
  | i + 1, k, m => by
    simp only [wakeM]
    split
    · rename_i hc
      have h := wokes (q := q) i (k + 1) (readyM m k)
      obtain ⟨e, he, h1, h2⟩ := h.que
      refine ⟨h.trc, h.out, h.cells, h.own, h.blk, h.wai, ⟨k :: e, by rw [he]; simp [readyM], fun j hj => ?_, fun j hj => ?_⟩⟩
      · simp at hj
        rw [h1 j hj.2]; simp only [readyM, upd_other _ _ hj.1]
      · have hke : ¬ k ∈ e := fun hm => by have := (h2 k hm).1; simp [readyM, upd_same] at this
        rcases List.mem_cons.1 hj with rfl | hj
        · refine ⟨hc.1, hc.2, ?_⟩
          rw [h1 j hke]; simp only [readyM, upd_same]
        · have hjk : ¬ j = k := fun e2 => hke (e2 ▸ hj)
          have := h2 j hj
          simp only [readyM, upd_other _ _ hjk] at this
          exact this
    · exact wokes i (k + 1) m

/-- What a quantum does. -/
structure Turned (n quantum q : Nat) (m m' : Mac) : Prop where
  out : ∃ e, m'.out = m.out ++ e ∧ e.length % 3 = 0 ∧ e.length ≤ 3 * quantum
  who : (m'.trc = m.trc ++ [45] ∧ m.q = [] ∧ (∀ j, m'.th j = m.th j) ∧ m'.out = m.out ∧ m'.own = m.own ∧ m'.cells = m.cells ∧ m'.blk = m.blk ∧ m'.wai = m.wai ∧ m'.q = []) ∨
    ∃ k, k < n ∧ m'.trc = m.trc ++ [48 + (k : Int)] ∧ ((m.th k).sta = 82 ∨ (m.th k).sta = 83) ∧ (∀ j, ¬ j = k → Ch (m.th j).sta (m'.th j).sta) ∧ (∀ x r, m.q = x :: r → x = k ∧ ∃ e, m'.q = r ++ e)
theorem turned0 {C : Nat → List In} {n : Nat} (hF : Fine C n) {ρ : Nat → List Int} {m : Mac} (quantum q : Nat) (h : Inv C n none ρ m) : Turned n quantum q m (turn0M C n quantum q m) := by
  have h1 := h.wakeups (q : Int) n 0 m (by omega)
  have hw := wokes (q := (q : Int)) n 0 m
  obtain ⟨e, he, hw1, hw2⟩ := hw.que
  have hch : ∀ j, Ch (m.th j).sta ((wakeM (q : Int) n 0 m).th j).sta := fun j => by
    by_cases hj : j ∈ e
    · rw [(hw2 j hj).2.2]; exact .inr (.inl rfl)
    · rw [hw1 j hj]; exact Ch.refl _
  unfold turn0M
  cases hq : (wakeM (q : Int) n 0 m).q with
  | nil =>
    simp only [hq]
    rw [hq] at he
    have h0 := List.append_eq_nil_iff.1 he.symm
    refine ⟨⟨[], by simp [hw.out], by simp, by simp⟩, .inl ⟨by rw [hw.trc], h0.1, fun j => hw1 j (by rw [h0.2]; simp), hw.out, hw.own, hw.cells, hw.blk, hw.wai, ?_⟩⟩
    first | rfl | exact hq
  | cons k r =>
    simp only [hq]
    obtain ⟨h2, hk, hs⟩ := h1.start hq ((wakeM (q : Int) n 0 m).trc ++ [48 + (k : Int)])
    have hr := runs_all hF hk (q : Int) quantum 32 _ _ h2
    have hsk : (m.th k).sta = 82 ∨ (m.th k).sta = 83 := by
      by_cases hj : k ∈ e
      · exact .inr (hw2 k hj).1
      · rw [hw1 k hj] at hs; exact .inl hs
    have hquex : ∀ x r', m.q = x :: r' → x = k ∧ ∃ e', r = r' ++ e' := fun x r' hx => by
      rw [hq, hx] at he
      simp at he
      exact ⟨he.1.symm, e, he.2⟩
    obtain ⟨eo, ho1, ho2, ho3⟩ := hr.out
    obtain ⟨eq, hqq⟩ := hr.que
    simp only at ho1 hqq
    have hoth : ∀ j, ¬ j = k → Ch (m.th j).sta ((runM C k q quantum 32 { wakeM (q : Int) n 0 m with q := r, trc := (wakeM (q : Int) n 0 m).trc ++ [48 + (k : Int)] }).th j).sta := fun j hj => (hch j).trans (hr.oth j hj).1
    have htrc := hr.trc
    simp only at htrc
    split
    · refine ⟨⟨eo, by rw [← hw.out]; exact ho1, ho2, ho3⟩, .inr ⟨k, hk, ?_, hsk, fun j hj => ?_, fun x r' hx => ?_⟩⟩
      · rw [← hw.trc]; exact htrc
      · simp only [readyM, upd_other _ _ hj]; exact hoth j hj
      · obtain ⟨e1, e', he'⟩ := hquex x r' hx
        refine ⟨e1, e' ++ eq ++ [k], ?_⟩
        simp only [readyM]
        rw [hqq, he']; simp
    · refine ⟨⟨eo, by rw [← hw.out]; exact ho1, ho2, ho3⟩, .inr ⟨k, hk, by rw [← hw.trc]; exact htrc, hsk, hoth, fun x r' hx => ?_⟩⟩
      obtain ⟨e1, e', he'⟩ := hquex x r' hx
      exact ⟨e1, e' ++ eq, by rw [hqq, he']; simp⟩
theorem turned {C : Nat → List In} {n : Nat} (hF : Fine C n) {ρ : Nat → List Int} {m : Mac} (quantum q : Nat) (h : Inv C n none ρ m) : Turned n quantum q m (turnM C n quantum q m) := by
  obtain ⟨L, e⟩ := turn_eq C n quantum q m
  have h1 := turned0 hF quantum q h
  rw [e]
  exact ⟨h1.out, h1.who⟩

end Go.Proofs.Ytjbmflgamogefab
