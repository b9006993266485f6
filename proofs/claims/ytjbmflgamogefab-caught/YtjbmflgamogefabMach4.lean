/- The machine behind n quanta: lengths, beginnings, who is done owns no lock, fairness. -/
import Derived.Test.YtjbmflgamogefabMach3
namespace Go.Proofs.Ytjbmflgamogefab

theorem play_turned {C : Nat → List In} {n : Nat} (hF : Fine C n) (quantum : Nat) (i : Nat) : Turned n quantum i (playM C n quantum i) (playM C n quantum (i + 1)) := by
  obtain ⟨ρ, h⟩ := Inv.plays hF quantum i
  exact turned hF quantum i h
theorem play_trc_len {C : Nat → List In} {n : Nat} (hF : Fine C n) (quantum : Nat) : ∀ i, (playM C n quantum i).trc.length = i
  | 0 => rfl
  | i + 1 => by
    have ih := play_trc_len hF quantum i
    rcases (play_turned hF quantum i).who with ⟨h, _⟩ | ⟨k, _, h, _⟩ <;> rw [h] <;> simp [ih]
theorem play_out_len {C : Nat → List In} {n : Nat} (hF : Fine C n) (quantum : Nat) : ∀ i, (playM C n quantum i).out.length % 3 = 0 ∧ (playM C n quantum i).out.length ≤ 3 * (i * quantum)
  | 0 => by simp [playM, beginM]
  | i + 1 => by
    obtain ⟨h1, h2⟩ := play_out_len hF quantum i
    obtain ⟨e, he, h3, h4⟩ := (play_turned hF quantum i).out
    rw [he, List.length_append]
    have e2 : (i + 1) * quantum = i * quantum + quantum := Nat.succ_mul i quantum
    rw [e2]
    omega
theorem give_log (m : Mac) (l : Nat) : (giveM m l).log = m.log := by unfold giveM; split <;> rfl
theorem note_log (m : Mac) (l : Nat) : (noteM m l).log = m.log := by unfold noteM; split <;> rfl
theorem ite_log {p : Prop} [Decidable p] {a b : Mac} {L : List Int} (h1 : a.log = L) (h2 : b.log = L) : (if p then a else b).log = L := by
  by_cases h : p
  · rw [if_pos h]; exact h1
  · rw [if_neg h]; exact h2
theorem on_log (m : Mac) (k : Nat) (q c a : Int) : (actOn m k q c a).log = m.log := by
  unfold actOn
  repeat' apply ite_log
  all_goals first | rfl | exact give_log _ _ | exact note_log _ _
theorem run_log (C : Nat → List In) (k : Nat) (q : Int) : ∀ (i : Nat) (op : Int) (m : Mac), (runM C k q i op m).log = m.log
  | 0, _, _ => rfl
  | i + 1, op, m => by
    simp only [runM]
    split
    · rw [run_log C k q i]; exact on_log _ _ _ _ _
    · rfl
theorem wake_log (q : Int) : ∀ (i k : Nat) (m : Mac), (wakeM q i k m).log = m.log
  | 0, _, _ => rfl
  | i + 1, k, m => by
    simp only [wakeM]
    rw [wake_log q i]
    split <;> rfl
theorem turn0_log (C : Nat → List In) (n quantum q : Nat) (m : Mac) : (turn0M C n quantum q m).log = m.log := by
  unfold turn0M
  cases hq : (wakeM (q : Int) n 0 m).q with
  | nil => simp only [hq]; exact wake_log _ _ _ _
  | cons k r =>
    simp only [hq]
    split
    · exact (run_log _ _ _ _ _ _).trans (wake_log _ _ _ _)
    · exact (run_log _ _ _ _ _ _).trans (wake_log _ _ _ _)
theorem names_len (s : Nat → Bool) : ∀ i, (namesM s i).length ≤ i
  | 0 => Nat.le_refl _
  | i + 1 => by
    have := names_len s i
    simp only [namesM, List.length_append]
    split <;> simp <;> omega
theorem ent_len (n : Nat) (m : Mac) (k q : Nat) : (entM n m k q).length ≤ 8 := by
  unfold entM
  split
  · have := names_len (ringM n m k 4 k (fun _ => false)).1 4
    simp only [List.length_append, List.length_cons, List.length_nil]
    omega
  · simp
theorem names_bytes (s : Nat → Bool) : ∀ i, i ≤ 4 → ∀ x ∈ namesM s i, 0 ≤ x ∧ x < 256
  | 0, _ => by simp [namesM]
  | i + 1, h => by
    intro x hx
    simp only [namesM, List.mem_append] at hx
    rcases hx with hx | hx
    · exact names_bytes s i (by omega) x hx
    · split at hx
      · simp at hx; omega
      · simp at hx
theorem ent_bytes (n : Nat) (m : Mac) (k q : Nat) : ∀ x ∈ entM n m k q, 0 ≤ x ∧ x < 256 := by
  intro x hx
  unfold entM at hx
  split at hx
  · simp only [List.mem_append, List.mem_cons, List.not_mem_nil, or_false] at hx
    rcases hx with ((rfl | rfl | rfl) | hx) | rfl
    · omega
    · omega
    · omega
    · exact names_bytes _ 4 (Nat.le_refl _) x hx
    · omega
  · simp at hx
theorem play_log (C : Nat → List In) (n quantum i : Nat) : ∃ e, (playM C n quantum (i + 1)).log = (playM C n quantum i).log ++ e ∧ e.length ≤ 8 ∧ ∀ x ∈ e, 0 ≤ x ∧ x < 256 := by
  simp only [playM]
  unfold turnM
  split
  · exact ⟨[], by rw [turn0_log]; simp, by simp, by simp⟩
  · exact ⟨_, by rw [turn0_log], ent_len _ _ _ _, ent_bytes _ _ _ _⟩
theorem play_log_len (C : Nat → List In) (n quantum : Nat) : ∀ i, (playM C n quantum i).log.length ≤ 8 * i
  | 0 => Nat.le_refl _
  | i + 1 => by
    obtain ⟨e, h1, h2, _⟩ := play_log C n quantum i
    have := play_log_len C n quantum i
    rw [h1, List.length_append]
    omega
theorem play_log_bytes (C : Nat → List In) (n quantum : Nat) : ∀ i, ∀ x ∈ (playM C n quantum i).log, 0 ≤ x ∧ x < 256
  | 0 => by simp [playM, beginM]
  | i + 1 => by
    obtain ⟨e, h1, _, h2⟩ := play_log C n quantum i
    intro x hx
    rw [h1] at hx
    rcases List.mem_append.1 hx with hx | hx
    · exact play_log_bytes C n quantum i x hx
    · exact h2 x hx
theorem play_log_grows (C : Nat → List In) (n quantum i : Nat) : ∀ d, ∃ e, (playM C n quantum (i + d)).log = (playM C n quantum i).log ++ e
  | 0 => ⟨[], by simp⟩
  | d + 1 => by
    obtain ⟨e, h1⟩ := play_log_grows C n quantum i d
    obtain ⟨f, h2, _⟩ := play_log C n quantum (i + d)
    exact ⟨e ++ f, by rw [show i + (d + 1) = i + d + 1 from rfl, h2, h1, List.append_assoc]⟩
theorem play_idle_log {C : Nat → List In} {n : Nat} (hF : Fine C n) (quantum i : Nat) (h : (playM C n quantum (i + 1)).trc = (playM C n quantum i).trc ++ [45]) : (playM C n quantum (i + 1)).log = (playM C n quantum i).log := by
  obtain ⟨ρ, hI⟩ := Inv.plays hF quantum i
  have h1 := hI.wakeups (i : Int) n 0 _ (by omega)
  have hw := wokes (q := (i : Int)) n 0 (playM C n quantum i)
  simp only [playM] at h ⊢
  generalize playM C n quantum i = m at *
  unfold turnM at h ⊢
  cases hq : (wakeM (i : Int) n 0 m).q with
  | nil => simp only; exact turn0_log _ _ _ _ _
  | cons k r =>
    exfalso
    rw [hq] at h
    simp only at h
    obtain ⟨h2, hk, _⟩ := h1.start hq ((wakeM (i : Int) n 0 m).trc ++ [48 + (k : Int)])
    have hr := (runs_all hF hk (i : Int) quantum 32 _ _ h2).trc
    simp only at hr
    have h3 : (turn0M C n quantum i m).trc = m.trc ++ [48 + (k : Int)] := by
      unfold turn0M
      simp only [hq]
      split
      · rw [← hw.trc]; exact hr
      · rw [← hw.trc]; exact hr
    rw [h3] at h
    have := List.append_cancel_left h
    simp at this
    omega
theorem play_grows {C : Nat → List In} {n : Nat} (hF : Fine C n) (quantum : Nat) (i : Nat) : ∀ d, ∃ e f, (playM C n quantum (i + d)).out = (playM C n quantum i).out ++ e ∧ (playM C n quantum (i + d)).trc = (playM C n quantum i).trc ++ f
  | 0 => ⟨[], [], by simp, by simp⟩
  | d + 1 => by
    obtain ⟨e, f, h1, h2⟩ := play_grows hF quantum i d
    have ht := play_turned hF quantum (i + d)
    obtain ⟨e', he', _⟩ := ht.out
    have : ∃ f', (playM C n quantum (i + d + 1)).trc = (playM C n quantum (i + d)).trc ++ f' := by
      rcases ht.who with ⟨h, _⟩ | ⟨k, _, h, _⟩
      · exact ⟨_, h⟩
      · exact ⟨_, h⟩
    obtain ⟨f', hf'⟩ := this
    exact ⟨e ++ e', f ++ f', by rw [show i + (d + 1) = i + d + 1 from rfl, he', h1, List.append_assoc], by rw [show i + (d + 1) = i + d + 1 from rfl, hf', h2, List.append_assoc]⟩
theorem play_states {C : Nat → List In} {n : Nat} (hF : Fine C n) (quantum : Nat) (i k : Nat) (hk : k < n) : let s := ((playM C n quantum i).th k).sta; s = 82 ∨ s = 66 ∨ s = 87 ∨ s = 83 ∨ s = 68 := by
  obtain ⟨ρ, h⟩ := Inv.plays hF quantum i
  exact h.sta k hk
theorem play_cells {C : Nat → List In} {n : Nat} (hF : Fine C n) (quantum : Nat) (i j : Nat) : 0 ≤ (playM C n quantum i).cells j ∧ (playM C n quantum i).cells j < 1000 := by
  obtain ⟨ρ, h⟩ := Inv.plays hF quantum i
  exact h.cells j
theorem play_who {C : Nat → List In} {n : Nat} (hF : Fine C n) (quantum : Nat) (i l : Nat) : (playM C n quantum i).own l = -1 ∨ ∃ k : Nat, k < n ∧ (playM C n quantum i).own l = (k : Int) ∧ ¬ ((playM C n quantum i).th k).sta = 68 := by
  obtain ⟨ρ, h⟩ := Inv.plays hF quantum i
  rcases h.who l with h1 | ⟨k, hk, h1⟩
  · exact .inl h1
  · refine .inr ⟨k, hk, h1, fun hd => ?_⟩
    have := (h.own l k hk).1 h1
    rw [h.done k hk hd] at this
    simp [owned] at this
/-- A thread that is blocked is so at a lock that another one owns. -/
theorem play_blocked {C : Nat → List In} {n : Nat} (hF : Fine C n) (quantum : Nat) (i k : Nat) (hk : k < n) (hb : ((playM C n quantum i).th k).sta = 66) : ∃ l : Nat, l < 4 ∧ k ∈ (playM C n quantum i).blk l ∧ ∃ j : Nat, j < n ∧ ¬ j = k ∧ (playM C n quantum i).own l = (j : Int) := by
  obtain ⟨ρ, h⟩ := Inv.plays hF quantum i
  have hR := (h.at_ k hk (by omega)).valid (hF.ok k hk)
  have hnd := nodup_rows hF h k hk
  obtain ⟨r, y, hry⟩ : ∃ r y, ρ k = r ++ [y] := by
    rcases snoc_or (ρ k) with e | ⟨r, y, e⟩
    · exact absurd e (h.ne k hk (.inl hb))
    · exact ⟨r, y, e⟩
  have hy := hR.2.2.2.2.1 y (by simp only; rw [hry]; simp)
  obtain ⟨l, rfl⟩ : ∃ l : Nat, y = (l : Int) := ⟨y.toNat, by omega⟩
  have hm : k ∈ (playM C n quantum i).blk l := (h.blk l k).2 ⟨hk, hb, by rw [hry]; simp⟩
  refine ⟨l, by omega, hm, ?_⟩
  have h1 := h.has l (fun e => by rw [e] at hm; cases hm)
  rcases h.who l with h2 | ⟨j, hj, h2⟩
  · exact absurd h2 h1
  · refine ⟨j, hj, fun e => ?_, h2⟩
    subst e
    have := (h.own l j hj).1 h2
    rw [owned, if_pos (.inl hb), hry, List.dropLast_concat] at this
    rw [hry, List.nodup_append] at hnd
    exact hnd.2.2 _ this _ (by simp) rfl
/-- Who stands in the queue behind p others has the quantum behind p more. -/
theorem play_queue {C : Nat → List In} {n : Nat} (hF : Fine C n) (quantum : Nat) (k : Nat) : ∀ (p i : Nat) (a b : List Nat), (playM C n quantum i).q = a ++ k :: b → a.length = p → ∃ f, (playM C n quantum (i + p + 1)).trc = (playM C n quantum (i + p)).trc ++ [48 + (k : Int)] ∧ (playM C n quantum (i + p)).trc = (playM C n quantum i).trc ++ f
  | 0, i, a, b, hq, hp => by
    have ha : a = [] := List.eq_nil_of_length_eq_zero hp
    subst ha
    rcases (play_turned hF quantum i).who with ⟨_, h, _⟩ | ⟨j, _, h, _, _, h2⟩
    · rw [hq] at h; simp at h
    · obtain ⟨e, _⟩ := h2 k b (by simpa using hq)
      subst e
      exact ⟨[], h, by simp⟩
  | p + 1, i, a, b, hq, hp => by
    obtain ⟨x, a', rfl⟩ : ∃ x a', a = x :: a' := by
      cases a with
      | nil => simp at hp
      | cons x a' => exact ⟨x, a', rfl⟩
    rcases (play_turned hF quantum i).who with ⟨_, h, _⟩ | ⟨j, _, h, _, _, h2⟩
    · rw [hq] at h; simp at h
    · obtain ⟨e, e', hq'⟩ := h2 x (a' ++ k :: b) (by simpa using hq)
      obtain ⟨f, h3, h4⟩ := play_queue hF quantum k p (i + 1) a' (b ++ e') (by rw [hq']; simp) (by simpa using hp)
      rw [show i + (p + 1) = i + 1 + p from by omega]
      exact ⟨_, h3, by rw [h4, h, List.append_assoc]⟩
/-- P11: who is ready has a quantum within as many as there are threads. -/
theorem play_fair {C : Nat → List In} {n : Nat} (hF : Fine C n) (quantum : Nat) (i k : Nat) (hk : k < n) (hs : ((playM C n quantum i).th k).sta = 82) : (48 + (k : Int)) ∈ (playM C n quantum (i + n)).trc.drop i := by
  obtain ⟨ρ, h⟩ := Inv.plays hF quantum i
  have hm := (h.que k).2 ⟨hk, hs, by simp⟩
  obtain ⟨a, b, hq⟩ := List.append_of_mem hm
  have hlen : (playM C n quantum i).q.length ≤ n := by
    have := nodup_len _ (List.range n) h.qnd (fun x hx => List.mem_range.2 ((h.que x).1 hx).1)
    simpa using this
  have ha : a.length < n := by rw [hq] at hlen; simp at hlen; omega
  obtain ⟨f, h1, h2⟩ := play_queue hF quantum k a.length i a b hq rfl
  obtain ⟨e, g, _, h4⟩ := play_grows hF quantum (i + a.length + 1) (n - a.length - 1)
  rw [show i + a.length + 1 + (n - a.length - 1) = i + n from by omega] at h4
  rw [h4, h1, h2]
  have hl := play_trc_len hF quantum i
  have hd : ∀ (L X : List Int), L.length = i → (L ++ X).drop i = X := fun L X e => by subst e; exact List.drop_left
  rw [List.append_assoc, List.append_assoc, hd _ _ hl]
  simp

end Go.Proofs.Ytjbmflgamogefab
