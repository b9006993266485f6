/- Rings of blocked threads stay (Caught). -/
import Derived.Test.YtjbmflgamogefabMach5
namespace Go.Proofs.Ytjbmflgamogefab

/-- Each of S is blocked at a lock that one of S owns. -/
def Closed (n : Nat) (m : Mac) (S : List Nat) : Prop := ∀ j ∈ S, j < n ∧ (m.th j).sta = 66 ∧ ∃ l i, j ∈ m.blk l ∧ i ∈ S ∧ m.own l = ((i : Nat) : Int)
/-- The state of whoever is blocked at a lock of another one than k is as it was; so is the lock's owner. -/
structure Leaves (k : Nat) (m m' : Mac) : Prop where
  own : ∀ l, ¬ m.own l = (k : Int) → ¬ m.own l = -1 → m'.own l = m.own l
  blk : ∀ l, ¬ m.own l = (k : Int) → ¬ m.own l = -1 → ∀ j, j ∈ m.blk l → j ∈ m'.blk l ∧ (¬ j = k → (m.th j).sta = 66 → (m'.th j).sta = 66)
theorem Closed.leaves {n k : Nat} {m m' : Mac} {S : List Nat} (h : Closed n m S) (hk : (m.th k).sta = 82) (hl : Leaves k m m') : Closed n m' S := by
  intro j hj
  obtain ⟨h1, h2, l, i, h3, h4, h5⟩ := h j hj
  have hik : ¬ i = k := fun e => by subst e; have := (h i h4).2.1; omega
  have hjk : ¬ j = k := fun e => by subst e; omega
  have o1 : ¬ m.own l = (k : Int) := by omega
  have o2 : ¬ m.own l = -1 := by omega
  obtain ⟨b1, b2⟩ := hl.blk l o1 o2 j h3
  exact ⟨h1, b2 hjk h2, l, i, b1, h4, by rw [hl.own l o1 o2]; exact h5⟩
theorem leaves_step (m : Mac) (k : Nat) (t : Th) : Leaves k m (stepTh m k t) := ⟨fun _ _ _ => rfl, fun l _ _ j hj => ⟨hj, fun hjk h => by simp only [stepTh, upd_other _ _ hjk]; exact h⟩⟩
theorem leaves_give {C : Nat → List In} {n : Nat} {ρ : Nat → List Int} {m : Mac} {k l : Nat} (hI : Inv C n (some k) ρ m) (t : Th) (ho : m.own l = (k : Int)) : Leaves k m (giveM (stepTh m k t) l) := by
  unfold giveM
  have e : (stepTh m k t).blk l = m.blk l := rfl
  rw [e]
  cases hb : m.blk l with
  | nil =>
    refine ⟨fun l' h1 _ => ?_, fun l' h1 _ j hj => ⟨hj, fun hjk h => by simp only [stepTh, upd_other _ _ hjk]; exact h⟩⟩
    have hne : ¬ l' = l := fun e => by subst e; exact h1 ho
    simp only [stepTh, upd_other _ _ hne]
  | cons x r =>
    refine ⟨fun l' h1 _ => ?_, fun l' h1 _ j hj => ?_⟩
    · have hne : ¬ l' = l := fun e => by subst e; exact h1 ho
      simp only [readyM, stepTh, upd_other _ _ hne]
    · have hne : ¬ l' = l := fun e => by subst e; exact h1 ho
      have hjx : ¬ j = x := fun e => by
        subst e
        have a1 := ((hI.blk l j).1 (by rw [hb]; simp)).2.2
        have a2 := ((hI.blk l' j).1 hj).2.2
        rw [a1] at a2; simp at a2; omega
      refine ⟨by simp only [readyM, stepTh, upd_other _ _ hne]; exact hj, fun hjk h => ?_⟩
      simp only [readyM, stepTh, upd_other _ _ hjx, upd_other _ _ hjk]; exact h
theorem leaves_with {k : Nat} {m m1 m' : Mac} (h : Leaves k m m1) (h1 : m'.own = m1.own) (h2 : ∀ l j, j ∈ m1.blk l → j ∈ m'.blk l) (h3 : ∀ j, ¬ j = k → (m1.th j).sta = 66 → (m'.th j).sta = 66) : Leaves k m m' :=
  ⟨fun l a b => by rw [h1]; exact h.own l a b, fun l a b j hj => ⟨h2 l j (h.blk l a b j hj).1, fun hjk hs => h3 j hjk ((h.blk l a b j hj).2 hjk hs)⟩⟩
theorem leaves_act {C : Nat → List In} {n k : Nat} {ρ : Nat → List Int} {m : Mac} (hF : Fine C n) (h : Inv C n (some k) ρ m) (hk : k < n) (hs : (m.th k).sta = 82) (q : Int) : Leaves k m (actM C m k q) := by
  obtain ⟨c, a, hca, hins, _, ha0, _, _, _, hlb, _⟩ := at_ins hF h hk (by omega)
  have hal : ((a.toNat : Nat) : Int) = a := by omega
  have hlast : lastIs (ρ k) a = true → m.own a.toNat = (k : Int) := fun hla => by
    obtain ⟨r, hr⟩ := last_row hla
    exact (h.own a.toNat k hk).2 (by rw [owned_plain (.inl hs), hal, hr]; simp)
  unfold actM
  rw [hins]
  unfold actOn
  by_cases c1 : c = 107
  · rw [if_pos c1]; exact leaves_step _ _ _
  rw [if_neg c1]
  by_cases c2 : c = 103
  · rw [if_pos c2]; exact leaves_step _ _ _
  rw [if_neg c2]
  by_cases c3 : c = 115
  · rw [if_pos c3]; exact leaves_with (leaves_step m k _) rfl (fun _ _ x => x) (fun _ _ x => x)
  rw [if_neg c3]
  by_cases c4 : c = 112
  · rw [if_pos c4]; exact leaves_with (leaves_step m k _) rfl (fun _ _ x => x) (fun _ _ x => x)
  rw [if_neg c4]
  by_cases c5 : c = 43
  · rw [if_pos c5]; exact leaves_step _ _ _
  rw [if_neg c5]
  by_cases c6 : c = 45
  · rw [if_pos c6]; exact leaves_step _ _ _
  rw [if_neg c6]
  by_cases c7 : c = 74
  · rw [if_pos c7]; exact leaves_step _ _ _
  rw [if_neg c7]
  by_cases c8 : c = 90
  · rw [if_pos c8]; exact leaves_step _ _ _
  rw [if_neg c8]
  by_cases c9 : c = 65
  · rw [if_pos c9]
    by_cases ho : m.own a.toNat < 0
    · rw [if_pos ho]
      refine ⟨fun l h1 h2 => ?_, fun l h1 h2 j hj => ⟨hj, fun hjk hx => by simp only [stepTh, upd_other _ _ hjk]; exact hx⟩⟩
      have hne : ¬ l = a.toNat := fun e => by
        subst e
        rcases h.who a.toNat with h3 | ⟨i, _, h3⟩
        · exact h2 h3
        · omega
      simp only [upd_other _ _ hne]
    · rw [if_neg ho]
      refine ⟨fun l _ _ => rfl, fun l h1 h2 j hj => ⟨?_, fun hjk hx => by simp only [stepTh, upd_other _ _ hjk]; exact hx⟩⟩
      by_cases e : l = a.toNat
      · subst e; simp only [upd_same]; exact List.mem_append.2 (.inl hj)
      · simp only [upd_other _ _ e]; exact hj
  rw [if_neg c9]
  by_cases c10 : c = 82
  · rw [if_pos c10]; exact leaves_give h _ (hlast (by subst c10; simpa [lckBad] using hlb))
  rw [if_neg c10]
  by_cases c11 : c = 87
  · rw [if_pos c11]
    refine leaves_with (leaves_give (l := a.toNat) h _ (hlast (by subst c11; simpa [lckBad] using hlb))) rfl (fun _ _ x => x) (fun j hjk x => ?_)
    simp only [waitM, upd_other _ _ hjk]; exact x
  rw [if_neg c11]
  by_cases c12 : c = 78
  · rw [if_pos c12]
    unfold noteM
    have hwe : (stepTh m k { m.th k with pc := (m.th k).pc + 1 }).wai a.toNat = m.wai a.toNat := rfl
    rw [hwe]
    cases hw : m.wai a.toNat with
    | nil => exact leaves_step _ _ _
    | cons x r =>
      refine leaves_with (leaves_step m k { m.th k with pc := (m.th k).pc + 1 }) rfl (fun l j hj => ?_) (fun j hjk hx => ?_)
      · by_cases e : l = a.toNat
        · subst e; simp only [upd_same]; exact List.mem_append.2 (.inl hj)
        · simp only [upd_other _ _ e]; exact hj
      · by_cases e : j = x
        · subst e; simp [upd_same]
        · simp only [upd_other _ _ e]; exact hx
  rw [if_neg c12]
  by_cases c13 : c = 84
  · rw [if_pos c13]; exact leaves_step _ _ _
  rw [if_neg c13]
  by_cases c14 : c = 88
  · rw [if_pos c14]; exact leaves_step _ _ _
  rw [if_neg c14]; exact leaves_step _ _ _
theorem closed_run {C : Nat → List In} {n k : Nat} {S : List Nat} (hF : Fine C n) (hk : k < n) (q : Int) : ∀ (i : Nat) (op : Int) (m : Mac) (ρ : Nat → List Int), Inv C n (some k) ρ m → Closed n m S → Closed n (runM C k q i op m) S
  | 0, _, _, _, _, h => h
  | i + 1, op, m, ρ, hI, h => by
    simp only [runM]
    split
    · rename_i hc
      obtain ⟨ρ1, h1⟩ := hI.act hF hk hc.1 q
      exact closed_run hF hk q i _ _ _ h1 (h.leaves hc.1 (leaves_act hF hI hk hc.1 q))
    · exact h
theorem closed_turn0 {C : Nat → List In} {n : Nat} {S : List Nat} (hF : Fine C n) {ρ : Nat → List Int} {m : Mac} (quantum q : Nat) (hI : Inv C n none ρ m) (h : Closed n m S) :
    Closed n (turn0M C n quantum q m) S ∧ ∃ x, (turn0M C n quantum q m).trc = m.trc ++ [x] ∧ ∀ j ∈ S, ¬ x = 48 + (j : Int) := by
  have h1 := hI.wakeups (q : Int) n 0 m (by omega)
  have hw := wokes (q := (q : Int)) n 0 m
  obtain ⟨e, he, hw1, hw2⟩ := hw.que
  have hcl : Closed n (wakeM (q : Int) n 0 m) S := fun j hj => by
    obtain ⟨a1, a2, l, i, a3, a4, a5⟩ := h j hj
    have hje : ¬ j ∈ e := fun hm => by have := (hw2 j hm).1; omega
    exact ⟨a1, by rw [hw1 j hje]; exact a2, l, i, by rw [hw.blk]; exact a3, a4, by rw [hw.own]; exact a5⟩
  have hlen : ∀ j ∈ S, ¬ (45 : Int) = 48 + (j : Int) := fun j _ => by omega
  unfold turn0M
  cases hq : (wakeM (q : Int) n 0 m).q with
  | nil =>
    simp only [hq]
    exact ⟨hcl, 45, by rw [hw.trc], hlen⟩
  | cons k r =>
    simp only [hq]
    obtain ⟨h2, hk, hs⟩ := h1.start hq ((wakeM (q : Int) n 0 m).trc ++ [48 + (k : Int)])
    have hr := runs_all hF hk (q : Int) quantum 32 _ _ h2
    have hkS : ∀ j ∈ S, ¬ j = k := fun j hj e2 => by subst e2; have := (hcl j hj).2.1; omega
    have hc2 := closed_run (S := S) hF hk (q : Int) quantum 32 _ _ h2 hcl
    have htrc := hr.trc
    simp only at htrc
    split
    · refine ⟨fun j hj => ?_, 48 + (k : Int), by rw [← hw.trc]; exact htrc, fun j hj e2 => hkS j hj (by omega)⟩
      obtain ⟨a1, a2, l, i, a3, a4, a5⟩ := hc2 j hj
      refine ⟨a1, ?_, l, i, a3, a4, a5⟩
      simp only [readyM, upd_other _ _ (hkS j hj)]; exact a2
    · exact ⟨hc2, 48 + (k : Int), by rw [← hw.trc]; exact htrc, fun j hj e2 => hkS j hj (by omega)⟩
theorem closed_turn {C : Nat → List In} {n : Nat} {S : List Nat} (hF : Fine C n) {ρ : Nat → List Int} {m : Mac} (quantum q : Nat) (hI : Inv C n none ρ m) (h : Closed n m S) :
    Closed n (turnM C n quantum q m) S ∧ ∃ x, (turnM C n quantum q m).trc = m.trc ++ [x] ∧ ∀ j ∈ S, ¬ x = 48 + (j : Int) := by
  obtain ⟨L, e⟩ := turn_eq C n quantum q m
  have h1 := closed_turn0 hF quantum q hI h
  rw [e]
  exact h1
/-- P11: the threads of a deadlock stay blocked for good and have no quantum any more. -/
theorem play_caught {C : Nat → List In} {n : Nat} {S : List Nat} (hF : Fine C n) (quantum i : Nat) (h : Closed n (playM C n quantum i) S) : ∀ d, Closed n (playM C n quantum (i + d)) S ∧ ∃ f, (playM C n quantum (i + d)).trc = (playM C n quantum i).trc ++ f ∧ ∀ j ∈ S, ¬ (48 + (j : Int)) ∈ f
  | 0 => ⟨h, [], by simp, fun _ _ => by simp⟩
  | d + 1 => by
    obtain ⟨h1, f, h2, h3⟩ := play_caught hF quantum i h d
    obtain ⟨ρ, hI⟩ := Inv.plays hF quantum (i + d)
    obtain ⟨h4, x, h5, h6⟩ := closed_turn (S := S) hF quantum (i + d) hI h1
    refine ⟨h4, f ++ [x], ?_, fun j hj => ?_⟩
    · show (turnM C n quantum (i + d) (playM C n quantum (i + d))).trc = _
      rw [h5, h2, List.append_assoc]
    · simp only [List.mem_append, List.mem_singleton]
      rintro (hm | hm)
      · exact h3 j hj hm
      · exact h6 j hj hm.symm

end Go.Proofs.Ytjbmflgamogefab
