/- A ring that is there is logged (P10, P11: Stuck). -/
import Derived.Test.YtjbmflgamogefabMach7
namespace Go.Proofs.Ytjbmflgamogefab

/-- Among others than k, who is blocked, and at whose lock, was so before. -/
structure Back (k : Nat) (m m' : Mac) : Prop where
  own : ∀ (l u : Nat), ¬ u = k → m'.own l = (u : Int) → (m'.th u).sta = 66 → m.own l = (u : Int)
  blk : ∀ (l t u : Nat), ¬ t = k → ¬ u = k → m.own l = (u : Int) → t ∈ m'.blk l → (m'.th t).sta = 66 → t ∈ m.blk l ∧ (m.th t).sta = 66
theorem Closed.back {n k : Nat} {m m' : Mac} {S : List Nat} (h : Closed n m' S) (hk : ¬ k ∈ S) (hb : Back k m m') : Closed n m S := by
  intro j hj
  obtain ⟨h1, h2, l, i, h3, h4, h5⟩ := h j hj
  have hik : ¬ i = k := fun e => hk (e ▸ h4)
  have hjk : ¬ j = k := fun e => hk (e ▸ hj)
  have o1 := hb.own l i hik h5 (h i h4).2.1
  obtain ⟨b1, b2⟩ := hb.blk l j i hjk hik o1 h3 h2
  exact ⟨h1, b2, l, i, b1, h4, o1⟩
theorem back_step (m : Mac) (k : Nat) (t : Th) : Back k m (stepTh m k t) := ⟨fun _ _ _ h _ => h, fun l j u hj _ _ hm hs => ⟨hm, by simp only [stepTh, upd_other _ _ hj] at hs; exact hs⟩⟩
theorem back_with {k : Nat} {m m1 m' : Mac} (h : Back k m m1) (h1 : m'.own = m1.own) (h2 : m'.blk = m1.blk) (h3 : ∀ j, (m'.th j).sta = 66 → (m1.th j).sta = 66) : Back k m m' :=
  ⟨fun l u a b c => h.own l u a (by rw [← h1]; exact b) (h3 u c), fun l t u a b c d e => h.blk l t u a b c (by rw [← h2]; exact d) (h3 t e)⟩
theorem back_give {m : Mac} {k l : Nat} (t : Th) (ho : m.own l = (k : Int)) : Back k m (giveM (stepTh m k t) l) := by
  unfold giveM
  have e : (stepTh m k t).blk l = m.blk l := rfl
  rw [e]
  cases hb : m.blk l with
  | nil =>
    refine ⟨fun l' u h1 h2 h3 => ?_, fun l' j u hj hu h1 hm hs => ⟨hm, by simp only [stepTh, upd_other _ _ hj] at hs; exact hs⟩⟩
    simp only [stepTh, upd] at h2
    split at h2
    · omega
    · exact h2
  | cons x r =>
    refine ⟨fun l' u h1 h2 h3 => ?_, fun l' j u hj hu h1 hm hs => ?_⟩
    · simp only [readyM, stepTh, upd] at h2 h3
      split at h2
      · rename_i el
        have hux : u = x := by omega
        rw [if_pos hux] at h3
        simp at h3
      · exact h2
    · have hne : ¬ l' = l := fun e => by subst e; omega
      simp only [readyM, stepTh, upd_other _ _ hne] at hm
      simp only [readyM, stepTh] at hs
      by_cases ex : j = x
      · subst ex; rw [upd_same] at hs; simp at hs
      · rw [upd_other _ _ ex, upd_other _ _ hj] at hs
        exact ⟨hm, hs⟩
theorem back_act {C : Nat → List In} {n k : Nat} {ρ : Nat → List Int} {m : Mac} (hF : Fine C n) (h : Inv C n (some k) ρ m) (hk : k < n) (hs : (m.th k).sta = 82) (q : Int) : Back k m (actM C m k q) := by
  obtain ⟨c, a, hca, hins, _, ha0, _, _, _, hlb, _⟩ := at_ins hF h hk (by omega)
  have hal : ((a.toNat : Nat) : Int) = a := by omega
  have hlast : lastIs (ρ k) a = true → m.own a.toNat = (k : Int) := fun hla => by
    obtain ⟨r, hr⟩ := last_row hla
    exact (h.own a.toNat k hk).2 (by rw [owned_plain (.inl hs), hal, hr]; simp)
  unfold actM
  rw [hins]
  unfold actOn
  by_cases c1 : c = 107
  · rw [if_pos c1]; exact back_step _ _ _
  rw [if_neg c1]
  by_cases c2 : c = 103
  · rw [if_pos c2]; exact back_step _ _ _
  rw [if_neg c2]
  by_cases c3 : c = 115
  · rw [if_pos c3]; exact back_with (back_step m k _) rfl rfl (fun _ x => x)
  rw [if_neg c3]
  by_cases c4 : c = 112
  · rw [if_pos c4]; exact back_with (back_step m k _) rfl rfl (fun _ x => x)
  rw [if_neg c4]
  by_cases c5 : c = 43
  · rw [if_pos c5]; exact back_step _ _ _
  rw [if_neg c5]
  by_cases c6 : c = 45
  · rw [if_pos c6]; exact back_step _ _ _
  rw [if_neg c6]
  by_cases c7 : c = 74
  · rw [if_pos c7]; exact back_step _ _ _
  rw [if_neg c7]
  by_cases c8 : c = 90
  · rw [if_pos c8]; exact back_step _ _ _
  rw [if_neg c8]
  by_cases c9 : c = 65
  · rw [if_pos c9]
    by_cases ho : m.own a.toNat < 0
    · rw [if_pos ho]
      refine ⟨fun l u h1 h2 h3 => ?_, fun l j u hj hu h1 hm hs => ⟨hm, by simp only [stepTh, upd_other _ _ hj] at hs; exact hs⟩⟩
      simp only [upd] at h2
      split at h2
      · omega
      · exact h2
    · rw [if_neg ho]
      refine ⟨fun l u h1 h2 h3 => h2, fun l j u hj hu h1 hm hs => ⟨?_, by simp only [stepTh, upd_other _ _ hj] at hs; exact hs⟩⟩
      simp only [upd] at hm
      split at hm
      · rename_i el
        rcases List.mem_append.1 hm with x | x
        · rw [el]; exact x
        · simp at x; exact absurd x hj
      · exact hm
  rw [if_neg c9]
  by_cases c10 : c = 82
  · rw [if_pos c10]; exact back_give _ (hlast (by subst c10; simpa [lckBad] using hlb))
  rw [if_neg c10]
  by_cases c11 : c = 87
  · rw [if_pos c11]
    refine back_with (back_give (l := a.toNat) _ (hlast (by subst c11; simpa [lckBad] using hlb))) rfl rfl (fun j x => ?_)
    simp only [waitM, upd] at x
    split at x
    · simp at x
    · exact x
  rw [if_neg c11]
  by_cases c12 : c = 78
  · rw [if_pos c12]
    have hha : hasL (ρ k) a = true := by subst c12; simpa [lckBad] using hlb
    have hmem : a ∈ ρ k := by simpa [hasL] using hha
    have hown : m.own a.toNat = (k : Int) := (h.own a.toNat k hk).2 (by rw [owned_plain (.inl hs), hal]; exact hmem)
    unfold noteM
    have hwe : (stepTh m k { m.th k with pc := (m.th k).pc + 1 }).wai a.toNat = m.wai a.toNat := rfl
    rw [hwe]
    cases hw : m.wai a.toNat with
    | nil => exact back_step _ _ _
    | cons x r =>
      refine ⟨fun l u _ h2 _ => h2, fun l j u hj hu h1 hm hs2 => ?_⟩
      have hne : ¬ l = a.toNat := fun e => by subst e; omega
      simp only [stepTh, upd_other _ _ hne] at hm
      have h66 := ((h.blk l j).1 hm).2.1
      exact ⟨hm, h66⟩
  rw [if_neg c12]
  by_cases c13 : c = 84
  · rw [if_pos c13]; exact back_step _ _ _
  rw [if_neg c13]
  by_cases c14 : c = 88
  · rw [if_pos c14]; exact back_step _ _ _
  rw [if_neg c14]; exact back_step _ _ _
theorem run_back {C : Nat → List In} {n k : Nat} {S : List Nat} (hF : Fine C n) (hk : k < n) (hkS : ¬ k ∈ S) (q : Int) : ∀ (i : Nat) (op : Int) (m : Mac) (ρ : Nat → List Int), Inv C n (some k) ρ m → Closed n (runM C k q i op m) S → Closed n m S
  | 0, _, _, _, _, h => h
  | i + 1, op, m, ρ, hI, h => by
    simp only [runM] at h
    split at h
    · rename_i hc
      obtain ⟨ρ1, h1⟩ := hI.act hF hk hc.1 q
      exact (run_back hF hk hkS q i _ _ _ h1 h).back hkS (back_act hF hI hk hc.1 q)
    · exact h
theorem turn_back {C : Nat → List In} {n : Nat} {S : List Nat} (hF : Fine C n) {ρ : Nat → List Int} {m : Mac} (quantum q : Nat) (hI : Inv C n none ρ m) (h : Closed n (turn0M C n quantum q m) S) (hS : ∀ k r, (wakeM (q : Int) n 0 m).q = k :: r → ¬ k ∈ S) : Closed n m S := by
  have h1 := hI.wakeups (q : Int) n 0 m (by omega)
  have hw := wokes (q := (q : Int)) n 0 m
  obtain ⟨e, he, hw1, hw2⟩ := hw.que
  have hback : Closed n (wakeM (q : Int) n 0 m) S → Closed n m S := fun hc j hj => by
    obtain ⟨a1, a2, l, i, a3, a4, a5⟩ := hc j hj
    have hje : ¬ j ∈ e := fun hm => by have := (hw2 j hm).2.2; rw [this] at a2; simp at a2
    exact ⟨a1, by rw [← hw1 j hje]; exact a2, l, i, by rw [← hw.blk]; exact a3, a4, by rw [← hw.own]; exact a5⟩
  unfold turn0M at h
  cases hq : (wakeM (q : Int) n 0 m).q with
  | nil => simp only [hq] at h; exact hback h
  | cons k r =>
    simp only [hq] at h
    have hkS := hS k r hq
    obtain ⟨h2, hk, hs⟩ := h1.start hq ((wakeM (q : Int) n 0 m).trc ++ [48 + (k : Int)])
    refine hback (show Closed n { wakeM (q : Int) n 0 m with q := r, trc := (wakeM (q : Int) n 0 m).trc ++ [48 + (k : Int)] } S from run_back (S := S) hF hk hkS (q : Int) quantum 32 _ _ h2 ?_)
    split at h
    · intro j hj
      obtain ⟨a1, a2, l, i, a3, a4, a5⟩ := h j hj
      have hjk : ¬ j = k := fun e => hkS (e ▸ hj)
      exact ⟨a1, by simp only [readyM, upd_other _ _ hjk] at a2; exact a2, l, i, a3, a4, a5⟩
    · exact h

theorem least {p : Nat → Prop} (h : ∃ j, p j) : ∃ j, p j ∧ ∀ b, b < j → ¬ p b := by
  classical
  obtain ⟨j, hj⟩ := h
  induction j using Nat.strongRecOn with
  | ind j ih =>
    by_cases hb : ∃ b, b < j ∧ p b
    · obtain ⟨b, h1, h2⟩ := hb
      exact ih b h1 h2
    · exact ⟨j, hj, fun b h1 h2 => hb ⟨b, h1, h2⟩⟩
/-- From one to the next. -/
def itO (n : Nat) (m : Mac) : Nat → Nat → Nat
  | 0, p => p
  | a + 1, p => itO n m a (obst n m p).toNat
theorem itO_add (n : Nat) (m : Mac) : ∀ (a b p : Nat), itO n m (a + b) p = itO n m b (itO n m a p)
  | 0, b, p => by rw [Nat.zero_add]; rfl
  | a + 1, b, p => by
    rw [Nat.succ_add]
    exact itO_add n m a b _
theorem ring_hits (n : Nat) (m : Mac) (k : Nat) : ∀ (i p : Nat) (s : Nat → Bool) (j : Nat), j < i → itO n m (j + 1) p = k → (∀ a, a ≤ j → itO n m a p < 4 ∧ obst n m (itO n m a p) = ((itO n m (a + 1) p : Nat) : Int)) → (ringM n m k i p s).2 = true
  | 0, _, _, j, hj, _, _ => by omega
  | i + 1, p, s, j, hj, hh, ha => by
    obtain ⟨a1, a2⟩ := ha 0 (Nat.zero_le _)
    simp only [itO] at a1 a2
    rw [ringM, if_neg (by omega), if_neg (by omega), Int.toNat_natCast]
    by_cases h3 : obst n m p = (k : Int)
    · rw [if_pos h3]
    · rw [if_neg h3, a2]
      match j, hj, hh, ha with
      | 0, _, hh, _ => simp only [itO] at hh; rw [hh] at a2; exact absurd a2 h3
      | j + 1, hj, hh, ha => exact ring_hits n m k i _ _ j (by omega) hh (fun a hle => ha (a + 1) (by omega))
theorem closed_obst {C : Nat → List In} {n : Nat} {S : List Nat} {ρ : Nat → List Int} {run : Option Nat} {m : Mac} (hF : Fine C n) (hI : Inv C n run ρ m) (hB : Bat n m) (h : Closed n m S) : ∀ j ∈ S, ∃ i : Nat, i ∈ S ∧ obst n m j = (i : Int) ∧ ∃ l, j ∈ m.blk l ∧ m.own l = (i : Int) := by
  intro j hj
  obtain ⟨h1, h2, l, i, h3, h4, h5⟩ := h j hj
  have b1 := ((hI.blk l j).1 h3).2.2
  have b2 := ((hI.blk _ j).1 (hB j h1 h2)).2.2
  rw [b1] at b2
  have hl : (m.th j).bat = l := by simp at b2; omega
  have hR := (hI.at_ j h1 (by omega)).valid (hF.ok j h1)
  have hlt : (l : Int) < 4 := (hR.2.2.2.2.1 (l : Int) (List.mem_of_getLast? b1)).2
  refine ⟨i, h4, ?_, l, h3, h5⟩
  unfold obst
  rw [if_pos h1, if_pos h2, hl, if_pos (by omega), h5]
theorem ring_logged0 {C : Nat → List In} {n : Nat} {S : List Nat} (hn : n ≤ 4) {ρ : Nat → List Int} {run : Option Nat} {m : Mac} (hF : Fine C n) (hI : Inv C n run ρ m) (hB : Bat n m) (h : Closed n m S) (k : Nat) (hk : k ∈ S) : (ringM n m k 4 k (fun _ => false)).2 = true ∨ ∃ S', ¬ S' = [] ∧ ¬ k ∈ S' ∧ Closed n m S' := by
  classical
  have ho := closed_obst hF hI hB h
  have hit : ∀ a p, p ∈ S → itO n m a p ∈ S := by
    intro a
    induction a with
    | zero => intro p hp; exact hp
    | succ a ih =>
      intro p hp
      obtain ⟨i, hi, e, _⟩ := ho p hp
      have : itO n m (a + 1) p = itO n m a i := by rw [itO, e, Int.toNat_natCast]
      rw [this]; exact ih i hi
  have hnx : ∀ a p, p ∈ S → obst n m (itO n m a p) = ((itO n m (a + 1) p : Nat) : Int) := fun a p hp => by
    obtain ⟨i, _, e, _⟩ := ho _ (hit a p hp)
    rw [itO_add n m a 1 p, e]
    simp only [itO, e, Int.toNat_natCast]
  have hlt : ∀ p, p ∈ S → p < n := fun p hp => (h p hp).1
  by_cases hr : ∃ j, itO n m (j + 1) k = k
  · left
    obtain ⟨j, hj, hmin⟩ : ∃ j, itO n m (j + 1) k = k ∧ ∀ b, b < j → ¬ itO n m (b + 1) k = k := least hr
    have hnd : ((List.range (j + 1)).map (fun a => itO n m a k)).Nodup := by
      unfold List.Nodup
      rw [List.pairwise_map]
      refine List.Pairwise.imp_of_mem ?_ List.pairwise_lt_range
      intro a b ha hb hab e
      rw [List.mem_range] at ha hb
      have e1 : itO n m (j + 1 - b) (itO n m a k) = itO n m (j + 1 - b) (itO n m b k) := by rw [e]
      rw [← itO_add, ← itO_add, show b + (j + 1 - b) = j + 1 by omega, hj] at e1
      exact hmin (a + (j + 1 - b) - 1) (by omega) (by rw [show a + (j + 1 - b) - 1 + 1 = a + (j + 1 - b) by omega]; exact e1)
    have hlen := nodup_len _ (List.range n) hnd (fun x hx => by
      simp only [List.mem_map, List.mem_range] at hx
      obtain ⟨a, _, rfl⟩ := hx
      exact List.mem_range.2 (hlt _ (hit a k hk)))
    simp only [List.length_map, List.length_range] at hlen
    exact ring_hits n m k 4 k _ j (by omega) hj (fun a _ => ⟨by have := hlt _ (hit a k hk); omega, hnx a k hk⟩)
  · right
    have hr' : ∀ j, ¬ itO n m (j + 1) k = k := fun j e => hr ⟨j, e⟩
    obtain ⟨i, hi, e, _⟩ := ho k hk
    refine ⟨S.filter (fun t => decide (∀ j, ¬ itO n m j t = k)), fun hnil => ?_, fun hm => ?_, fun j hj => ?_⟩
    · have : i ∈ S.filter (fun t => decide (∀ j, ¬ itO n m j t = k)) := by
        rw [List.mem_filter]
        refine ⟨hi, decide_eq_true (fun j => ?_)⟩
        have := hr' j
        rw [itO, e, Int.toNat_natCast] at this
        exact this
      rw [hnil] at this; cases this
    · rw [List.mem_filter] at hm
      exact of_decide_eq_true hm.2 0 rfl
    · rw [List.mem_filter] at hj
      obtain ⟨hj1, hj2⟩ := hj
      have hj2 := of_decide_eq_true hj2
      obtain ⟨i', hi', e', l, hl1, hl2⟩ := ho j hj1
      refine ⟨(h j hj1).1, (h j hj1).2.1, l, i', hl1, ?_, hl2⟩
      rw [List.mem_filter]
      refine ⟨hi', decide_eq_true (fun a => ?_)⟩
      have := hj2 (a + 1)
      rw [itO, e', Int.toNat_natCast] at this
      exact this
/-- P10: where there is a ring, the log is not empty. -/
theorem ring_logged {C : Nat → List In} {n : Nat} (hF : Fine C n) (hn : n ≤ 4) (quantum : Nat) : ∀ (i : Nat) (S : List Nat), ¬ S = [] → Closed n (playM C n quantum i) S → ¬ (playM C n quantum i).log = []
  | 0, S, hS, h => by
    cases S with
    | nil => exact absurd rfl hS
    | cons x r => have := (h x (List.mem_cons_self ..)).2.1; simp [playM, beginM] at this
  | i + 1, S, hS, h => by
    obtain ⟨ρ, hI⟩ := Inv.plays hF quantum i
    obtain ⟨L, hL, _⟩ := play_log C n quantum i
    have hgrow : ∀ S', ¬ S' = [] → Closed n (playM C n quantum i) S' → ¬ (playM C n quantum (i + 1)).log = [] := fun S' h1 h2 h3 => by
      rw [hL] at h3
      exact ring_logged hF hn quantum i S' h1 h2 (List.append_eq_nil_iff.1 h3).1
    obtain ⟨ρ1, hI1⟩ := hI.turn0 hF quantum i
    have hB1 : Bat n (turn0M C n quantum i (playM C n quantum i)) := by
      have := play_bat C n quantum (i + 1)
      simp only [playM] at this
      obtain ⟨L', e⟩ := turn_eq C n quantum i (playM C n quantum i)
      rw [e] at this
      exact this.congr rfl rfl
    have h0 : Closed n (turn0M C n quantum i (playM C n quantum i)) S := by
      simp only [playM] at h
      obtain ⟨L', e⟩ := turn_eq C n quantum i (playM C n quantum i)
      rw [e] at h
      exact h
    cases hq : (wakeM ((i : Nat) : Int) n 0 (playM C n quantum i)).q with
    | nil => exact hgrow S hS (turn_back hF quantum i hI h0 (fun k r e => by rw [hq] at e; cases e))
    | cons k r =>
      have hno : ∀ (S' : List Nat), ¬ k ∈ S' → ∀ k' r', (wakeM ((i : Nat) : Int) n 0 (playM C n quantum i)).q = k' :: r' → ¬ k' ∈ S' := fun (S' : List Nat) h1 k' r' e => by
        rw [hq] at e; cases e; exact h1
      by_cases hkS : k ∈ S
      · rcases ring_logged0 hn hF hI1 hB1 h0 k hkS with hr | ⟨S', s1, s2, s3⟩
        · simp only [playM]
          unfold turnM
          rw [hq]
          simp only
          unfold entM
          rw [if_pos hr]
          intro hx
          have := congrArg List.length hx
          simp at this
        · exact hgrow S' s1 (turn_back hF quantum i hI s3 (hno S' s2))
      · exact hgrow S hS (turn_back hF quantum i hI h0 (hno S hkS))
/-- P11: where nobody is ready, asleep or waiting, all are done or the log is not empty. -/
theorem play_stuck {C : Nat → List In} {n : Nat} (hF : Fine C n) (hn : n ≤ 4) (quantum i : Nat) (h : ∀ k, k < n → ((playM C n quantum i).th k).sta = 66 ∨ ((playM C n quantum i).th k).sta = 68) (k : Nat) (hk : k < n) (hb : ((playM C n quantum i).th k).sta = 66) : ¬ (playM C n quantum i).log = [] := by
  refine ring_logged hF hn quantum i ((List.range n).filter (fun t => ((playM C n quantum i).th t).sta == 66)) (fun e => ?_) (fun j hj => ?_)
  · have : k ∈ (List.range n).filter (fun t => ((playM C n quantum i).th t).sta == 66) := by simp [hk, hb]
    rw [e] at this; cases this
  · simp only [List.mem_filter, List.mem_range, beq_iff_eq] at hj
    obtain ⟨l, hl, hm, u, hu, _, ho⟩ := play_blocked hF quantum i j hj.1 hj.2
    refine ⟨hj.1, hj.2, l, u, hm, ?_, ho⟩
    simp only [List.mem_filter, List.mem_range, beq_iff_eq]
    refine ⟨hu, ?_⟩
    rcases h u hu with e | e
    · exact e
    · rcases play_who hF quantum i l with e1 | ⟨v, _, e1, e2⟩
      · omega
      · have : v = u := by omega
        subst this; exact absurd e e2
/-- P11: where nobody is ready or asleep, nothing happens any more. -/
theorem play_still {C : Nat → List In} {n : Nat} (hF : Fine C n) (quantum i : Nat) (h : ∀ k, k < n → ¬ ((playM C n quantum i).th k).sta = 82 ∧ ¬ ((playM C n quantum i).th k).sta = 83) : ∀ d, (playM C n quantum (i + d)).th = (playM C n quantum i).th ∧ (playM C n quantum (i + d)).out = (playM C n quantum i).out ∧ (playM C n quantum (i + d)).own = (playM C n quantum i).own ∧ (playM C n quantum (i + d)).log = (playM C n quantum i).log ∧ (playM C n quantum (i + d)).trc = (playM C n quantum i).trc ++ List.replicate d 45
  | 0 => ⟨rfl, rfl, rfl, rfl, by simp⟩
  | d + 1 => by
    obtain ⟨a1, a2, a3, a4, a5⟩ := play_still hF quantum i h d
    rcases (play_turned hF quantum (i + d)).who with ⟨b1, _, b3, b4, b5, _⟩ | ⟨k, hk, _, hs, _⟩
    · have hlg := play_idle_log hF quantum (i + d) b1
      refine ⟨?_, by rw [← a2]; exact b4, by rw [← a3]; exact b5, by rw [← a4]; exact hlg, ?_⟩
      · rw [← a1]; funext j; exact b3 j
      · show (playM C n quantum (i + d + 1)).trc = _
        rw [b1, a5, List.append_assoc, List.replicate_succ']
    · rw [a1] at hs
      have := h k hk
      omega

end Go.Proofs.Ytjbmflgamogefab
