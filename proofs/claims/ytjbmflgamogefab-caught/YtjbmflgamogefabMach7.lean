/- Rings and the log (P10, P11): who is logged is caught; a ring is logged as soon as it is there. -/
import Derived.Test.YtjbmflgamogefabMach6
namespace Go.Proofs.Ytjbmflgamogefab

/-- Who is blocked is so at the lock that is noted with it. -/
def Bat (n : Nat) (m : Mac) : Prop := ∀ k, k < n → (m.th k).sta = 66 → k ∈ m.blk (m.th k).bat
theorem Bat.congr {n : Nat} {m m' : Mac} (h : Bat n m) (h1 : m'.th = m.th) (h2 : m'.blk = m.blk) : Bat n m' := by
  unfold Bat at *; rw [h1, h2]; exact h
theorem Bat.step {n k : Nat} {m : Mac} {t : Th} (h : Bat n m) (ht : t.sta = 66 → t.bat = (m.th k).bat ∧ (m.th k).sta = 66) : Bat n (stepTh m k t) := fun j hj hs => by
  simp only [stepTh] at hs ⊢
  by_cases e : j = k
  · subst e; rw [upd_same] at hs ⊢; rw [(ht hs).1]; exact h j hj (ht hs).2
  · rw [upd_other _ _ e] at hs ⊢; exact h j hj hs
theorem Bat.ready {n k : Nat} {m : Mac} (h : Bat n m) : Bat n (readyM m k) := (h.step (k := k) (t := { m.th k with sta := 82 }) (fun e => by simp at e)).congr rfl rfl
theorem Bat.give {n l : Nat} {m : Mac} (h : Bat n m) : Bat n (giveM m l) := by
  unfold giveM
  cases hb : m.blk l with
  | nil => exact h.congr rfl rfl
  | cons x r =>
    intro j hj hs
    simp only [readyM] at hs ⊢
    by_cases e : j = x
    · subst e; rw [upd_same] at hs; simp at hs
    · rw [upd_other _ _ e] at hs ⊢
      have := h j hj hs
      by_cases el : (m.th j).bat = l
      · rw [el, hb] at this
        rw [el, upd_same]
        rcases List.mem_cons.1 this with e2 | e2
        · exact absurd e2 e
        · exact e2
      · rw [upd_other _ _ el]; exact this
theorem Bat.wait {n k l : Nat} {m : Mac} (h : Bat n m) : Bat n (waitM m k l) := (h.step (k := k) (t := { m.th k with sta := 87 }) (fun e => by simp at e)).congr rfl rfl
theorem Bat.block {n k l : Nat} {m : Mac} {t : Th} (h : Bat n m) (ht : t.bat = l) : Bat n { m with th := upd m.th k t, blk := upd m.blk l (m.blk l ++ [k]) } := fun j hj hs => by
  simp only at hs ⊢
  by_cases e : j = k
  · subst e; rw [upd_same] at hs ⊢; rw [ht, upd_same]; simp
  · rw [upd_other _ _ e] at hs ⊢
    have := h j hj hs
    by_cases el : (m.th j).bat = l
    · rw [el] at this ⊢; rw [upd_same]; exact List.mem_append.2 (.inl this)
    · rw [upd_other _ _ el]; exact this
theorem Bat.note {n l : Nat} {m : Mac} (h : Bat n m) : Bat n (noteM m l) := by
  unfold noteM
  cases hb : m.wai l with
  | nil => exact h
  | cons x r => exact (h.block (k := x) (l := l) (t := { m.th x with sta := 66, bat := l }) rfl).congr rfl rfl
theorem ite_bat {n : Nat} {p : Prop} [Decidable p] {a b : Mac} (h1 : Bat n a) (h2 : Bat n b) : Bat n (if p then a else b) := by
  by_cases h : p
  · rw [if_pos h]; exact h1
  · rw [if_neg h]; exact h2
theorem Bat.on {n : Nat} {m : Mac} (h : Bat n m) (k : Nat) (q c a : Int) : Bat n (actOn m k q c a) := by
  have s1 : ∀ {t : Th}, t.sta = (m.th k).sta → t.bat = (m.th k).bat → Bat n (stepTh m k t) := fun e1 e2 => h.step (fun e => ⟨e2, by rw [← e1]; exact e⟩)
  have s2 : ∀ {t : Th}, ¬ t.sta = 66 → Bat n (stepTh m k t) := fun e1 => h.step (fun e => absurd e e1)
  unfold actOn
  refine ite_bat (s1 rfl rfl) (ite_bat (s1 rfl rfl) (ite_bat ((s1 (t := { m.th k with pc := (m.th k).pc + 1, stk := (m.th k).stk.dropLast }) rfl rfl).congr rfl rfl) (ite_bat ((s1 (t := { m.th k with pc := (m.th k).pc + 1, stk := (m.th k).stk.dropLast }) rfl rfl).congr rfl rfl) (ite_bat (s1 rfl rfl) (ite_bat (s1 rfl rfl) (ite_bat (s1 rfl rfl) (ite_bat (s1 rfl rfl) (ite_bat (ite_bat ?_ ?_) (ite_bat ?_ (ite_bat ?_ (ite_bat ?_ (ite_bat (s2 (by simp)) (ite_bat (s2 (by simp)) (s1 rfl rfl))))))))))))))
  · exact (s1 (t := { m.th k with pc := (m.th k).pc + 1 }) rfl rfl).congr rfl rfl
  · exact (h.block (k := k) (l := a.toNat) (t := { m.th k with pc := (m.th k).pc + 1, sta := 66, bat := a.toNat }) rfl).congr rfl rfl
  · exact (s1 (t := { m.th k with pc := (m.th k).pc + 1 }) rfl rfl).give
  · exact (s1 (t := { m.th k with pc := (m.th k).pc + 1 }) rfl rfl).give.wait
  · exact (s1 (t := { m.th k with pc := (m.th k).pc + 1 }) rfl rfl).note
theorem Bat.run {n : Nat} (C : Nat → List In) (k : Nat) (q : Int) : ∀ (i : Nat) (op : Int) (m : Mac), Bat n m → Bat n (runM C k q i op m)
  | 0, _, _, h => h
  | i + 1, op, m, h => by
    simp only [runM]
    split
    · exact Bat.run C k q i _ _ (h.on k q _ _)
    · exact h
theorem Bat.wake {n : Nat} (q : Int) : ∀ (i k : Nat) (m : Mac), Bat n m → Bat n (wakeM q i k m)
  | 0, _, _, h => h
  | i + 1, k, m, h => by
    simp only [wakeM]
    refine Bat.wake q i (k + 1) _ ?_
    split
    · exact h.ready
    · exact h
theorem Bat.turn {n : Nat} (C : Nat → List In) (quantum q : Nat) {m : Mac} (h : Bat n m) : Bat n (turnM C n quantum q m) := by
  obtain ⟨L, e⟩ := turn_eq C n quantum q m
  rw [e]
  refine Bat.congr (m := turn0M C n quantum q m) ?_ rfl rfl
  have h1 := Bat.wake (q : Int) n 0 m h
  unfold turn0M
  cases hq : (wakeM (q : Int) n 0 m).q with
  | nil => simp only [hq]; exact h1.congr rfl rfl
  | cons k r =>
    simp only [hq]
    have h2 := Bat.run C k (q : Int) quantum 32 { wakeM (q : Int) n 0 m with q := r, trc := (wakeM (q : Int) n 0 m).trc ++ [48 + (k : Int)] } (h1.congr rfl rfl)
    exact ite_bat h2.ready h2
theorem play_bat (C : Nat → List In) (n quantum : Nat) : ∀ i, Bat n (playM C n quantum i)
  | 0 => fun k _ h => by simp [playM, beginM] at h
  | i + 1 => (play_bat C n quantum i).turn C quantum i

theorem obst_at {n : Nat} {m : Mac} {k u : Nat} (h : obst n m k = (u : Int)) : k < n ∧ (m.th k).sta = 66 ∧ (m.th k).bat < 4 ∧ m.own (m.th k).bat = (u : Int) := by
  unfold obst at h
  split at h
  · rename_i h1
    split at h
    · rename_i h2
      split at h
      · rename_i h3; exact ⟨h1, h2, h3, h⟩
      · omega
    · omega
  · omega
/-- What one met on the way back. -/
theorem ring_met (n : Nat) (m : Mac) (k : Nat) : ∀ (i : Nat) (p : Int) (s : Nat → Bool), (ringM n m k i p s).2 = true → 0 ≤ p ∧ (ringM n m k i p s).1 p.toNat = true ∧ (∀ t, s t = true → (ringM n m k i p s).1 t = true) ∧
    ∀ t, (ringM n m k i p s).1 t = true → s t = true ∨ (t < 4 ∧ ∃ u : Nat, obst n m t = (u : Int) ∧ (u = k ∨ (ringM n m k i p s).1 u = true))
  | 0, p, s, h => by simp [ringM] at h
  | i + 1, p, s, h => by
    rw [ringM] at h ⊢
    by_cases h1 : p < 0
    · rw [if_pos h1] at h; simp at h
    rw [if_neg h1] at h ⊢
    by_cases h2 : 4 ≤ p
    · rw [if_pos h2] at h; simp at h
    rw [if_neg h2] at h ⊢
    by_cases h3 : obst n m p.toNat = (k : Int)
    · rw [if_pos h3]
      refine ⟨by omega, by simp only [upd_same], fun t ht => ?_, fun t ht => ?_⟩
      · simp only [upd]; split
        · rfl
        · exact ht
      · simp only [upd] at ht
        split at ht
        · rename_i e; subst e; exact .inr ⟨by omega, k, h3, .inl rfl⟩
        · exact .inl ht
    · rw [if_neg h3] at h ⊢
      obtain ⟨a1, a2, a3, a4⟩ := ring_met n m k i _ _ h
      refine ⟨by omega, a3 _ (by rw [upd_same]), fun t ht => a3 t ?_, fun t ht => ?_⟩
      · simp only [upd]; split
        · rfl
        · exact ht
      · rcases a4 t ht with b | b
        · simp only [upd] at b
          split at b
          · rename_i e; subst e
            exact .inr ⟨by omega, (obst n m p.toNat).toNat, by omega, .inr a2⟩
          · exact .inl b
        · exact .inr b
/-- The threads of a ring that is logged. -/
def rngL (n : Nat) (m : Mac) (k : Nat) : List Nat := (List.range 4).filter (ringM n m k 4 k (fun _ => false)).1
theorem ring_closed {n : Nat} {m : Mac} {k : Nat} (hB : Bat n m) (h : (ringM n m k 4 k (fun _ => false)).2 = true) : Closed n m (rngL n m k) := by
  obtain ⟨_, a2, _, a4⟩ := ring_met n m k 4 k (fun _ => false) h
  rw [Int.toNat_natCast] at a2
  intro j hj
  simp only [rngL, List.mem_filter, List.mem_range] at hj
  rcases a4 j hj.2 with b | ⟨b1, u, b2, b3⟩
  · simp at b
  · obtain ⟨c1, c2, c3, c4⟩ := obst_at b2
    refine ⟨c1, c2, _, u, hB j c1 c2, ?_, c4⟩
    have hu : (ringM n m k 4 k (fun _ => false)).1 u = true := by
      rcases b3 with e | e
      · rw [e]; exact a2
      · exact e
    simp only [rngL, List.mem_filter, List.mem_range]
    refine ⟨?_, hu⟩
    rcases a4 u hu with b | ⟨b, _⟩
    · simp at b
    · exact b
theorem names_mem (s : Nat → Bool) (x : Int) : ∀ i, x ∈ namesM s i → ∃ t : Nat, t < i ∧ s t = true ∧ x = 48 + (t : Int)
  | 0, h => by simp [namesM] at h
  | i + 1, h => by
    simp only [namesM, List.mem_append] at h
    rcases h with h | h
    · obtain ⟨t, h1, h2⟩ := names_mem s x i h; exact ⟨t, by omega, h2⟩
    · split at h
      · rename_i hs; simp at h; exact ⟨i, by omega, hs, h⟩
      · simp at h
/-- A log: behind each ':' and ahead of the next blank, every sign has P. -/
def okL (P : Int → Prop) : Bool → List Int → Prop
  | b, [] => b = false
  | b, c :: r => (b = true → ¬ c = 32 → P c) ∧ okL P (if c = 58 then true else if c = 32 then false else b) r
theorem okL_append {P : Int → Prop} : ∀ (l : List Int) (b : Bool) (r : List Int), okL P b l → okL P false r → okL P b (l ++ r)
  | [], b, r, h, h2 => by simp only [okL] at h; subst h; exact h2
  | c :: l, b, r, h, h2 => by
    simp only [okL, List.cons_append] at h ⊢
    exact ⟨h.1, okL_append l _ r h.2 h2⟩
theorem okL_names {P : Int → Prop} : ∀ (l : List Int), (∀ x ∈ l, P x ∧ ¬ x = 58 ∧ ¬ x = 32) → okL P true (l ++ [32])
  | [], _ => by simp [okL]
  | c :: l, h => by
    obtain ⟨h1, h2, h3⟩ := h c (List.mem_cons_self ..)
    simp only [okL, List.cons_append]
    rw [if_neg h2, if_neg h3]
    exact ⟨fun _ _ => h1, okL_names l (fun x hx => h x (List.mem_cons_of_mem _ hx))⟩
theorem okL_mono {P Q : Int → Prop} (hPQ : ∀ x, P x → Q x) : ∀ (l : List Int) (b : Bool), okL P b l → okL Q b l
  | [], _, h => h
  | c :: l, _, h => ⟨fun e1 e2 => hPQ c (h.1 e1 e2), okL_mono hPQ l _ h.2⟩
theorem ent_ok {P : Int → Prop} {n : Nat} {m : Mac} {k q : Nat} (h : (ringM n m k 4 k (fun _ => false)).2 = true → ∀ t ∈ rngL n m k, P (48 + (t : Int))) : okL P false (entM n m k q) := by
  unfold entM
  split
  · rename_i hr
    have h1 : okL P true (namesM (ringM n m k 4 k (fun _ => false)).1 4 ++ [32]) := okL_names _ (fun x hx => by
      obtain ⟨t, ht, hs, rfl⟩ := names_mem _ _ 4 hx
      exact ⟨h hr t (by simp only [rngL, List.mem_filter, List.mem_range]; exact ⟨ht, hs⟩), by omega, by omega⟩)
    simp only [List.cons_append, List.nil_append, okL]
    rw [if_neg (by omega), if_neg (by omega), if_neg (by omega), if_neg (by omega), if_pos trivial]
    exact ⟨fun e => by simp at e, fun e => by simp at e, fun e => by simp at e, h1⟩
  · rfl
/-- P11: who stands in the log is blocked for good and has no quantum any more. -/
def CaughtAt (C : Nat → List In) (n quantum i j : Nat) (c : Int) : Prop := ∃ t : Nat, c = 48 + (t : Int) ∧ t < n ∧ ((playM C n quantum i).th t).sta = 66 ∧ ((playM C n quantum j).th t).sta = 66 ∧ ¬ c ∈ (playM C n quantum j).trc.drop i
theorem drop_mid {l f g : List Int} {i : Nat} (h : l = f ++ g) (hl : f.length = i) : l.drop i = g := by
  subst hl; rw [h]; exact List.drop_left
theorem closed_caught {C : Nat → List In} {n : Nat} {S : List Nat} (hF : Fine C n) (quantum a i d : Nat) (hai : a ≤ i) (h : Closed n (playM C n quantum a) S) : ∀ t ∈ S, CaughtAt C n quantum i (i + d) (48 + (t : Int)) := by
  obtain ⟨e, rfl⟩ : ∃ e, i = a + e := ⟨i - a, by omega⟩
  obtain ⟨h1, _⟩ := play_caught hF quantum a h e
  obtain ⟨h2, f, h3, h4⟩ := play_caught hF quantum (a + e) h1 d
  intro t ht
  refine ⟨t, rfl, (h1 t ht).1, (h1 t ht).2.1, (h2 t ht).2.1, ?_⟩
  rw [drop_mid h3 (play_trc_len hF quantum (a + e))]
  exact h4 t ht
theorem play_log_ok {C : Nat → List In} {n : Nat} (hF : Fine C n) (quantum i d : Nat) : ∀ j, j ≤ i → okL (CaughtAt C n quantum i (i + d)) false (playM C n quantum j).log
  | 0, _ => rfl
  | j + 1, hj => by
    have ih := play_log_ok hF quantum i d j (by omega)
    have hB := play_bat C n quantum (j + 1)
    have hc := fun S (h : Closed n (playM C n quantum (j + 1)) S) => closed_caught hF quantum (j + 1) i d hj h
    simp only [playM] at hB hc ⊢
    unfold turnM at hB hc ⊢
    cases hq : (wakeM ((j : Nat) : Int) n 0 (playM C n quantum j)).q with
    | nil => simp only; rw [turn0_log]; exact ih
    | cons k r =>
      simp only [hq] at hB hc ⊢
      rw [turn0_log]
      refine okL_append _ _ _ ih (ent_ok (fun hr t ht => ?_))
      exact hc (rngL n (turn0M C n quantum j (playM C n quantum j)) k) (ring_closed (hB.congr rfl rfl) hr) t ht

end Go.Proofs.Ytjbmflgamogefab
