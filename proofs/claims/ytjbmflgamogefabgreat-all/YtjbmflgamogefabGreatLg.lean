/- The reference's log is the code's (P10: Logs). -/
import Derived.Test.YtjbmflgamogefabGreatMnG
import Derived.Laws.Strings
namespace Go.Proofs.YtjbmflgamogefabGreat

/-- Each of S is blocked at a lock that s of it owns, which is of S. -/
def ClosedF (n : Nat) (m : Mac) (S : List Nat) (s : Nat → Nat) : Prop := ∀ j ∈ S, j < n ∧ (m.th j).sta = 66 ∧ s j ∈ S ∧ ∃ l, j ∈ m.blk l ∧ m.own l = ((s j : Nat) : Int)
theorem ClosedF.closed {n : Nat} {m : Mac} {S : List Nat} {s : Nat → Nat} (h : ClosedF n m S s) : Closed n m S := fun j hj => by
  obtain ⟨h1, h2, h3, l, h4, h5⟩ := h j hj
  exact ⟨h1, h2, l, s j, h4, h3, h5⟩
theorem ClosedF.leaves {n k : Nat} {m m' : Mac} {S : List Nat} {s : Nat → Nat} (h : ClosedF n m S s) (hk : (m.th k).sta = 82) (hl : Leaves k m m') : ClosedF n m' S s := by
  intro j hj
  obtain ⟨h1, h2, h3, l, h4, h5⟩ := h j hj
  have hik : ¬ s j = k := fun e => by have := (h _ h3).2.1; rw [e] at this; omega
  have hjk : ¬ j = k := fun e => by subst e; omega
  have o1 : ¬ m.own l = (k : Int) := by omega
  have o2 : ¬ m.own l = -1 := by omega
  obtain ⟨b1, b2⟩ := hl.blk l o1 o2 j h4
  exact ⟨h1, b2 hjk h2, h3, l, b1, by rw [hl.own l o1 o2]; exact h5⟩
theorem ClosedF.back {n k : Nat} {m m' : Mac} {S : List Nat} {s : Nat → Nat} (h : ClosedF n m' S s) (hk : ¬ k ∈ S) (hb : Back k m m') : ClosedF n m S s := by
  intro j hj
  obtain ⟨h1, h2, h3, l, h4, h5⟩ := h j hj
  have hik : ¬ s j = k := fun e => hk (e ▸ h3)
  have hjk : ¬ j = k := fun e => hk (e ▸ hj)
  have o1 := hb.own l _ hik h5 (h _ h3).2.1
  obtain ⟨b1, b2⟩ := hb.blk l j _ hjk hik o1 h4 h2
  exact ⟨h1, b2, h3, l, b1, o1⟩
theorem runF {C : Nat → List In} {n k : Nat} {S : List Nat} {s : Nat → Nat} (hF : Fine C n) (hk : k < n) (q : Int) : ∀ (i : Nat) (op : Int) (m : Mac) (ρ : Nat → List Int), Inv C n (some k) ρ m → (ClosedF n m S s → ClosedF n (runM C k q i op m) S s) ∧ (¬ k ∈ S → ClosedF n (runM C k q i op m) S s → ClosedF n m S s)
  | 0, _, _, _, _ => ⟨fun h => h, fun _ h => h⟩
  | i + 1, op, m, ρ, hI => by
    simp only [runM]
    split
    · rename_i hc
      obtain ⟨ρ1, h1⟩ := hI.act hF hk hc.1 q
      obtain ⟨a, b⟩ := runF (S := S) (s := s) hF hk q i (insAt C m k).1 _ _ h1
      exact ⟨fun h => a (h.leaves hc.1 (leaves_act hF hI hk hc.1 q)), fun hkS h => (b hkS h).back hkS (back_act hF hI hk hc.1 q)⟩
    · exact ⟨fun h => h, fun _ h => h⟩
/-- A quantum, both ways. -/
theorem turnF {C : Nat → List In} {n : Nat} {S : List Nat} {s : Nat → Nat} (hF : Fine C n) {ρ : Nat → List Int} {m : Mac} (quantum q : Nat) (hI : Inv C n none ρ m) :
    (ClosedF n m S s → ClosedF n (turnM C n quantum q m) S s) ∧ ((∀ k r, (wakeM (q : Int) n 0 m).q = k :: r → ¬ k ∈ S) → ClosedF n (turnM C n quantum q m) S s → ClosedF n m S s) ∧ ∀ k r, (wakeM (q : Int) n 0 m).q = k :: r → k < n ∧ ¬ (m.th k).sta = 66 := by
  obtain ⟨L, eL⟩ := turn_eq C n quantum q m
  rw [eL]
  have h1 := hI.wakeups (q : Int) n 0 m (by omega)
  have hw := wokes (q := (q : Int)) n 0 m
  obtain ⟨e, he, hw1, hw2⟩ := hw.que
  have hf : ClosedF n m S s → ClosedF n (wakeM (q : Int) n 0 m) S s := fun hc j hj => by
    obtain ⟨a1, a2, a3, l, a4, a5⟩ := hc j hj
    have hje : ¬ j ∈ e := fun hm => by have := (hw2 j hm).1; omega
    exact ⟨a1, by rw [hw1 j hje]; exact a2, a3, l, by rw [hw.blk]; exact a4, by rw [hw.own]; exact a5⟩
  have hb : ClosedF n (wakeM (q : Int) n 0 m) S s → ClosedF n m S s := fun hc j hj => by
    obtain ⟨a1, a2, a3, l, a4, a5⟩ := hc j hj
    have hje : ¬ j ∈ e := fun hm => by have := (hw2 j hm).2.2; rw [this] at a2; simp at a2
    exact ⟨a1, by rw [← hw1 j hje]; exact a2, a3, l, by rw [← hw.blk]; exact a4, by rw [← hw.own]; exact a5⟩
  cases hq : (wakeM (q : Int) n 0 m).q with
  | nil =>
    have e0 : turn0M C n quantum q m = { wakeM (q : Int) n 0 m with trc := (wakeM (q : Int) n 0 m).trc ++ [45] } := by
      unfold turn0M; simp only [hq]
    rw [e0]
    exact ⟨fun h => hf h, fun _ h => hb h, fun k r e => by cases e⟩
  | cons k r =>
    obtain ⟨h2, hk, hs⟩ := h1.start hq ((wakeM (q : Int) n 0 m).trc ++ [48 + (k : Int)])
    obtain ⟨a, b⟩ := runF (S := S) (s := s) hF hk (q : Int) quantum 32 _ _ h2
    have e0 : turn0M C n quantum q m = if ((runM C k q quantum 32 { wakeM (q : Int) n 0 m with q := r, trc := (wakeM (q : Int) n 0 m).trc ++ [48 + (k : Int)] }).th k).sta = 82 then readyM (runM C k q quantum 32 { wakeM (q : Int) n 0 m with q := r, trc := (wakeM (q : Int) n 0 m).trc ++ [48 + (k : Int)] }) k else runM C k q quantum 32 { wakeM (q : Int) n 0 m with q := r, trc := (wakeM (q : Int) n 0 m).trc ++ [48 + (k : Int)] } := by
      unfold turn0M; simp only [hq]
    rw [e0]
    have hsk : (m.th k).sta = 82 ∨ (m.th k).sta = 83 := by
      by_cases hj : k ∈ e
      · exact .inr (hw2 k hj).1
      · rw [hw1 k hj] at hs; exact .inl hs
    refine ⟨fun h => ?_, fun hS h => ?_, fun k' r' e' => by cases e'; exact ⟨hk, by omega⟩⟩
    · have hc := hf h
      have hr := a hc
      have hkS : ¬ k ∈ S := fun hm => by have := (hc k hm).2.1; omega
      split
      · intro j hj
        obtain ⟨c1, c2, c3, l, c4, c5⟩ := hr j hj
        have hjk : ¬ j = k := fun e => hkS (e ▸ hj)
        exact ⟨c1, by simp only [readyM, upd_other _ _ hjk]; exact c2, c3, l, c4, c5⟩
      · exact hr
    · have hkS := hS k r rfl
      refine hb (show ClosedF n { wakeM (q : Int) n 0 m with q := r, trc := (wakeM (q : Int) n 0 m).trc ++ [48 + (k : Int)] } S s from b hkS ?_)
      split at h
      · intro j hj
        obtain ⟨c1, c2, c3, l, c4, c5⟩ := h j hj
        have hjk : ¬ j = k := fun e => hkS (e ▸ hj)
        exact ⟨c1, by simp only [readyM, upd_other _ _ hjk] at c2; exact c2, c3, l, c4, c5⟩
      · exact h

/-- One comes back to t. -/
def Per (n : Nat) (m : Mac) (t : Nat) : Prop := ∃ j, 1 ≤ j ∧ itO n m j t = t ∧ ∀ a, a < j → 0 ≤ obst n m (itO n m a t)
theorem itO_succ (n : Nat) (m : Mac) (a t : Nat) : itO n m (a + 1) t = (obst n m (itO n m a t)).toNat := by rw [itO_add n m a 1 t]; rfl
theorem Per.nn {n : Nat} {m : Mac} {t : Nat} (h : Per n m t) : ∀ a, 0 ≤ obst n m (itO n m a t) := by
  obtain ⟨j, j1, j3, j4⟩ := h
  intro a
  induction a using Nat.strongRecOn with
  | ind a ih =>
    by_cases ha : a < j
    · exact j4 a ha
    · have e : itO n m a t = itO n m (a - j) t := by
        rw [show a = j + (a - j) by omega, itO_add, j3]
        congr 1; omega
      rw [e]; exact ih (a - j) (by omega)
theorem Per.lt {n : Nat} {m : Mac} {t : Nat} (h : Per n m t) (ht : t < 4) (ho : ∀ j, obst n m j < 4) : ∀ a, itO n m a t < 4
  | 0 => ht
  | a + 1 => by
    rw [itO_succ]
    have := ho (itO n m a t)
    have := h.nn a
    omega
theorem Per.ltn {n : Nat} {m : Mac} {t : Nat} (h : Per n m t) : ∀ a, itO n m a t < n := fun a => by
  have h1 := h.nn a
  obtain ⟨u, hu⟩ : ∃ u : Nat, obst n m (itO n m a t) = (u : Int) := ⟨(obst n m (itO n m a t)).toNat, by omega⟩
  exact (obst_at hu).1
theorem Per.four {n : Nat} {m : Mac} {t : Nat} (h : Per n m t) (hn : n ≤ 4) : ∃ j, 1 ≤ j ∧ j ≤ 4 ∧ itO n m j t = t := by
  have hltn := h.ltn
  obtain ⟨j, j1, j3, _⟩ := h
  obtain ⟨j, hj, hmin⟩ := least (p := fun j => 1 ≤ j ∧ itO n m j t = t) ⟨j, j1, j3⟩
  have hnd : ((List.range j).map (fun a => itO n m a t)).Nodup := by
    unfold List.Nodup
    rw [List.pairwise_map]
    refine List.Pairwise.imp_of_mem ?_ List.pairwise_lt_range
    intro a b ha hb hab e
    rw [List.mem_range] at ha hb
    have e1 : itO n m (j - b) (itO n m a t) = itO n m (j - b) (itO n m b t) := by rw [e]
    rw [← itO_add, ← itO_add, show b + (j - b) = j by omega, hj.2] at e1
    exact hmin (a + (j - b)) (by omega) ⟨by omega, e1⟩
  have hlen := nodup_len _ (List.range n) hnd (fun x hx => by
    simp only [List.mem_map, List.mem_range] at hx
    obtain ⟨a, _, rfl⟩ := hx
    exact List.mem_range.2 (hltn a))
  simp only [List.length_map, List.length_range] at hlen
  exact ⟨j, hj.1, by omega, hj.2⟩
theorem Per.to {n : Nat} {m : Mac} {t : Nat} (h : Per n m t) (a : Nat) : Per n m (itO n m a t) ∧ ∃ b, itO n m b (itO n m a t) = t := by
  have hnn := h.nn
  obtain ⟨j, j1, j3, j4⟩ := h
  have hmul : ∀ c, itO n m (c * j) t = t := by
    intro c
    induction c with
    | zero => rw [Nat.zero_mul]; rfl
    | succ c ih => rw [Nat.succ_mul, itO_add, ih, j3]
  refine ⟨⟨j, j1, ?_, fun b _ => by rw [← itO_add]; exact hnn _⟩, (a + 1) * j - a, ?_⟩
  · rw [← itO_add, Nat.add_comm, itO_add, j3]
  · rw [← itO_add, show a + ((a + 1) * j - a) = (a + 1) * j by
      have : a + 1 ≤ (a + 1) * j := Nat.le_mul_of_pos_right _ (by omega)
      omega]
    exact hmul _
theorem cau_hit (n : Nat) (m : Mac) (k : Nat) : ∀ i x j, 1 ≤ j → j ≤ i → itO n m j x = k → (∀ a, a < j → 0 ≤ obst n m (itO n m a x)) → cauM n m k i (obst n m x) = true
  | 0, _, j, h1, h2, _, _ => by omega
  | i + 1, x, j, h1, h2, h3, h4 => by
    have h0 : 0 ≤ obst n m x := h4 0 (by omega)
    rw [cauM, if_neg (by omega)]
    by_cases hk : obst n m x = (k : Int)
    · rw [if_pos hk]
    · rw [if_neg hk]
      match j, h1, h2, h3, h4 with
      | 1, _, _, h3, _ => simp only [itO] at h3; omega
      | j + 2, _, h2, h3, h4 => exact cau_hit n m k i _ (j + 1) (by omega) (by omega) h3 (fun a ha => h4 (a + 1) (by omega))
theorem cau_per {n : Nat} {m : Mac} {t : Nat} (hn : n ≤ 4) : cauM n m t 4 (obst n m t) = true ↔ Per n m t := by
  constructor
  · intro h
    obtain ⟨j, j1, _, j3, j4⟩ := cau_hits n m t 4 t h
    exact ⟨j, j1, j3, j4⟩
  · intro h
    obtain ⟨j, j1, j2, j3⟩ := h.four hn
    exact cau_hit n m t 4 t j j1 j2 j3 (fun a _ => h.nn a)
theorem ring_true (n : Nat) (m : Mac) (k : Nat) : ∀ (i p : Nat) (s : Nat → Bool), (ringM n m k i p s).2 = true → ∃ j, 1 ≤ j ∧ j ≤ i ∧ itO n m j p = k ∧ ∀ a, a < j → 0 ≤ obst n m (itO n m a p)
  | 0, _, _, h => by simp [ringM] at h
  | i + 1, p, s, h => by
    rw [ringM, if_neg (by omega)] at h
    by_cases h2 : (4 : Int) ≤ (p : Int)
    · rw [if_pos h2] at h; simp at h
    rw [if_neg h2, Int.toNat_natCast] at h
    by_cases h3 : obst n m p = (k : Int)
    · exact ⟨1, by omega, by omega, by simp [itO, h3], fun a ha => by
        have e : a = 0 := by omega
        subst e
        show 0 ≤ obst n m p
        omega⟩
    · rw [if_neg h3] at h
      by_cases h0 : 0 ≤ obst n m p
      · obtain ⟨u, hu⟩ : ∃ u : Nat, obst n m p = (u : Int) := ⟨(obst n m p).toNat, by omega⟩
        rw [hu] at h
        obtain ⟨j, j1, j2, j3, j4⟩ := ring_true n m k i u _ h
        have e1 : ∀ a, itO n m (a + 1) p = itO n m a u := fun a => by rw [itO, hu, Int.toNat_natCast]
        refine ⟨j + 1, by omega, by omega, by rw [e1]; exact j3, fun a ha => ?_⟩
        match a, ha with
        | 0, _ => exact h0
        | a + 1, ha => rw [e1]; exact j4 a (by omega)
      · cases i with
        | zero => simp [ringM] at h
        | succ i => rw [ringM, if_pos (by omega)] at h; simp at h
theorem ring_per {n : Nat} {m : Mac} {k : Nat} (hn : n ≤ 4) (hk : k < 4) (ho : ∀ j, obst n m j < 4) : (ringM n m k 4 k (fun _ => false)).2 = true ↔ Per n m k := by
  constructor
  · intro h
    obtain ⟨j, j1, _, j3, j4⟩ := ring_true n m k 4 k _ h
    exact ⟨j, j1, j3, j4⟩
  · intro h
    obtain ⟨j, j1, j2, j3⟩ := h.four hn
    obtain ⟨j', rfl⟩ : ∃ j', j = j' + 1 := ⟨j - 1, by omega⟩
    refine ring_hits n m k 4 k _ j' (by omega) j3 (fun a _ => ⟨h.lt hk ho a, ?_⟩)
    have := h.nn a
    rw [itO_succ]; omega
theorem ring_sub (n : Nat) (m : Mac) (k : Nat) : ∀ (i : Nat) (p : Int) (s : Nat → Bool) (x : Nat), (ringM n m k i p s).1 x = true → s x = true ∨ (0 ≤ p ∧ ∃ a, itO n m a p.toNat = x)
  | 0, _, _, x, h => .inl h
  | i + 1, p, s, x, h => by
    rw [ringM] at h
    by_cases h1 : p < 0
    · rw [if_pos h1] at h; exact .inl h
    rw [if_neg h1] at h
    by_cases h2 : 4 ≤ p
    · rw [if_pos h2] at h; exact .inl h
    rw [if_neg h2] at h
    have hu : ∀ y, upd s p.toNat true y = true → s y = true ∨ (0 ≤ p ∧ ∃ a, itO n m a p.toNat = y) := fun y hy => by
      simp only [upd] at hy
      split at hy
      · rename_i e; exact .inr ⟨by omega, 0, by rw [e]; rfl⟩
      · exact .inl hy
    by_cases h3 : obst n m p.toNat = (k : Int)
    · rw [if_pos h3] at h; exact hu x h
    · rw [if_neg h3] at h
      rcases ring_sub n m k i _ _ x h with h4 | ⟨h4, a, h5⟩
      · exact hu x h4
      · exact .inr ⟨by omega, a + 1, h5⟩
theorem ring_set {n : Nat} {m : Mac} {k : Nat} (h : (ringM n m k 4 k (fun _ => false)).2 = true) (x : Nat) : (ringM n m k 4 k (fun _ => false)).1 x = true ↔ ∃ a, itO n m a k = x := by
  constructor
  · intro hx
    rcases ring_sub n m k 4 k _ x hx with h1 | ⟨_, a, h2⟩
    · simp at h1
    · exact ⟨a, by rw [Int.toNat_natCast] at h2; exact h2⟩
  · rintro ⟨a, rfl⟩
    obtain ⟨_, a2, _, a4⟩ := ring_met n m k 4 k (fun _ => false) h
    rw [Int.toNat_natCast] at a2
    induction a with
    | zero => exact a2
    | succ a ih =>
      rcases a4 _ ih with b | ⟨_, u, b2, b3⟩
      · simp at b
      · rw [itO_succ, b2, Int.toNat_natCast]
        rcases b3 with e | e
        · rw [e]; exact a2
        · exact e
theorem setI_iff (n : Nat) (m : Mac) : ∀ (i p : Nat) (s : Nat → Bool) (x : Nat), setI n m i p s x = true ↔ s x = true ∨ ∃ a, a < i ∧ itO n m a p = x
  | 0, p, s, x => by simp [setI]
  | i + 1, p, s, x => by
    rw [setI, setI_iff n m i]
    constructor
    · rintro (h | ⟨a, ha, h⟩)
      · simp only [upd] at h
        split at h
        · rename_i e; exact .inr ⟨0, by omega, by rw [e]; rfl⟩
        · exact .inl h
      · exact .inr ⟨a + 1, by omega, h⟩
    · rintro (h | ⟨a, ha, h⟩)
      · left; simp only [upd]; split
        · rfl
        · exact h
      · match a, ha, h with
        | 0, _, h => left; rw [← h]; simp [upd, itO]
        | a + 1, ha, h => exact .inr ⟨a, by omega, h⟩
theorem Per.set {n : Nat} {m : Mac} {t : Nat} (h : Per n m t) (hn : n ≤ 4) (x : Nat) : setI n m 4 t (fun _ => false) x = true ↔ ∃ a, itO n m a t = x := by
  rw [setI_iff]
  obtain ⟨j, j1, j2, j3⟩ := h.four hn
  constructor
  · rintro (e | ⟨a, _, e⟩)
    · simp at e
    · exact ⟨a, e⟩
  · rintro ⟨a, rfl⟩
    right
    have hmod : ∀ c b, itO n m (c * j + b) t = itO n m b t := by
      intro c b
      induction c with
      | zero => rw [Nat.zero_mul, Nat.zero_add]
      | succ c ih => rw [Nat.succ_mul, Nat.add_assoc, Nat.add_comm j b, ← Nat.add_assoc, Nat.add_comm, itO_add, j3]; exact ih
    have hd := Nat.div_add_mod a j
    have hl := Nat.mod_lt a (show j > 0 by omega)
    refine ⟨a % j, by omega, ?_⟩
    have := hmod (a / j) (a % j)
    rw [Nat.mul_comm, hd] at this
    exact this.symm
theorem names_congr {s s' : Nat → Bool} : ∀ i, (∀ t, t < i → s t = s' t) → namesM s i = namesM s' i
  | 0, _ => rfl
  | i + 1, h => by rw [namesM, namesM, names_congr i (fun t ht => h t (by omega)), h i (by omega)]
theorem names_in (s : Nat → Bool) (x : Nat) : ∀ i, ((48 + (x : Int)) ∈ namesM s i ↔ x < i ∧ s x = true)
  | 0 => by simp [namesM]
  | i + 1 => by
    rw [namesM, List.mem_append, names_in s x i]
    constructor
    · rintro (⟨h1, h2⟩ | h)
      · exact ⟨by omega, h2⟩
      · split at h
        · rename_i hs
          simp at h
          have : x = i := by omega
          subst this
          exact ⟨by omega, hs⟩
        · simp at h
    · rintro ⟨h1, h2⟩
      by_cases e : x = i
      · subst e; right; rw [if_pos h2]; simp
      · left; exact ⟨by omega, h2⟩
theorem bool_ext {a b : Bool} (h : a = true ↔ b = true) : a = b := by cases a <;> cases b <;> simp_all
/-- The same ring, seen from another one of it. -/
theorem Per.same {n : Nat} {m : Mac} {t u : Nat} (h : Per n m t) (hn : n ≤ 4) (hu : ∃ a, itO n m a t = u) : Per n m u ∧ ringOf n m u = ringOf n m t ∧ ∀ x, (∃ a, itO n m a u = x) ↔ ∃ a, itO n m a t = x := by
  obtain ⟨a, rfl⟩ := hu
  obtain ⟨h1, b, h2⟩ := h.to a
  have hx : ∀ x, (∃ c, itO n m c (itO n m a t) = x) ↔ ∃ c, itO n m c t = x := fun x => by
    constructor
    · rintro ⟨c, rfl⟩; exact ⟨a + c, by rw [itO_add]⟩
    · rintro ⟨c, rfl⟩; exact ⟨b + c, by rw [itO_add, h2]⟩
  refine ⟨h1, names_congr 4 (fun x _ => bool_ext ?_), hx⟩
  rw [h1.set hn, h.set hn]; exact hx x
theorem names_head (s : Nat → Bool) (i : Nat) (h : ¬ namesM s i = []) : ∃ t : Nat, t < i ∧ s t = true ∧ (namesM s i).head? = some (48 + (t : Int)) := by
  cases e : namesM s i with
  | nil => exact absurd e h
  | cons x r =>
    obtain ⟨t, h1, h2, h3⟩ := names_mem s x i (by rw [e]; exact List.mem_cons_self ..)
    exact ⟨t, h1, h2, by rw [List.head?_cons, h3]⟩
theorem mem_rings (n : Nat) (m : Mac) (hn : n ≤ 4) (r : List Int) : ∀ k, r ∈ ringsL n m k ↔ ∃ t, t < k ∧ Per n m t ∧ (ringOf n m t).head? = some (48 + (t : Int)) ∧ r = ringOf n m t
  | 0 => by simp [ringsL]
  | k + 1 => by
    rw [ringsL, List.mem_append, mem_rings n m hn r k]
    constructor
    · rintro (⟨t, h1, h2⟩ | h)
      · exact ⟨t, by omega, h2⟩
      · split at h
        · rename_i hc
          simp only [List.mem_singleton] at h
          exact ⟨k, by omega, (cau_per hn).1 hc.1, hc.2, h⟩
        · simp at h
    · rintro ⟨t, h1, h2, h3, h4⟩
      by_cases e : t = k
      · subst e
        right
        rw [if_pos ⟨(cau_per hn).2 h2, h3⟩, h4]; exact List.mem_singleton.2 rfl
      · left; exact ⟨t, by omega, h2, h3, h4⟩
theorem Per.self {n : Nat} {m : Mac} {t : Nat} (h : Per n m t) : t < n := h.ltn 0
theorem in_rings (n : Nat) (m : Mac) (hn : n ≤ 4) (r : List Int) : r ∈ ringsL n m n ↔ ∃ t, Per n m t ∧ r = ringOf n m t := by
  rw [mem_rings n m hn]
  constructor
  · rintro ⟨t, _, h2, _, h4⟩; exact ⟨t, h2, h4⟩
  · rintro ⟨t, h2, h4⟩
    have ht := h2.self
    obtain ⟨u, u1, u2, u3⟩ := names_head _ 4 (ring_ne n m (k := t) (by omega))
    obtain ⟨a1, a2, _⟩ := h2.same hn ((h2.set hn u).1 u2)
    exact ⟨u, a1.self, a1, by rw [a2]; exact u3, by rw [a2]; exact h4⟩
theorem agree {n : Nat} {m m' : Mac} {t : Nat} (hn : n ≤ 4) (h : Per n m t) (he : ∀ a, obst n m' (itO n m a t) = obst n m (itO n m a t)) : Per n m' t ∧ ringOf n m' t = ringOf n m t ∧ ∀ a, itO n m' a t = itO n m a t := by
  have hi : ∀ a, itO n m' a t = itO n m a t := by
    intro a
    induction a with
    | zero => rfl
    | succ a ih => rw [itO_succ, itO_succ, ih, he]
  have hp : Per n m' t := by
    obtain ⟨j, j1, j2, j3⟩ := h
    exact ⟨j, j1, by rw [hi]; exact j2, fun a ha => by rw [hi, he]; exact j3 a ha⟩
  refine ⟨hp, names_congr 4 (fun x _ => bool_ext ?_), hi⟩
  rw [hp.set hn, h.set hn]
  constructor
  · rintro ⟨a, rfl⟩; exact ⟨a, (hi a).symm⟩
  · rintro ⟨a, rfl⟩; exact ⟨a, hi a⟩
/-- Those to whom one comes from t. -/
def orb (n : Nat) (m : Mac) (t : Nat) : List Nat := (List.range 4).map (fun a => itO n m a t)
theorem Per.orb {n : Nat} {m : Mac} {t : Nat} (h : Per n m t) (hn : n ≤ 4) (x : Nat) : x ∈ orb n m t ↔ ∃ a, itO n m a t = x := by
  rw [← h.set hn, setI_iff]
  simp only [Proofs.YtjbmflgamogefabGreat.orb, List.mem_map, List.mem_range]
  simp
theorem Per.closedF {n : Nat} {m : Mac} {t : Nat} (h : Per n m t) (hn : n ≤ 4) (hB : Bat n m) : ClosedF n m (Proofs.YtjbmflgamogefabGreat.orb n m t) (fun j => (obst n m j).toNat) := by
  intro j hj
  obtain ⟨a, rfl⟩ := (h.orb hn j).1 hj
  have h1 := h.nn a
  obtain ⟨u, hu⟩ : ∃ u : Nat, obst n m (itO n m a t) = (u : Int) := ⟨(obst n m (itO n m a t)).toNat, by omega⟩
  obtain ⟨b1, b2, b3, b4⟩ := obst_at hu
  refine ⟨b1, b2, (h.orb hn _).2 ⟨a + 1, itO_succ n m a t⟩, _, hB _ b1 b2, ?_⟩
  show m.own _ = (((obst n m (itO n m a t)).toNat : Nat) : Int)
  rw [hu, Int.toNat_natCast]; exact b4
theorem ClosedF.obst {C : Nat → List In} {n : Nat} {S : List Nat} {s : Nat → Nat} {ρ : Nat → List Int} {run : Option Nat} {m : Mac} (hF : Fine C n) (hI : Inv C n run ρ m) (hB : Bat n m) (h : ClosedF n m S s) : ∀ j ∈ S, Proofs.YtjbmflgamogefabGreat.obst n m j = ((s j : Nat) : Int) := by
  intro j hj
  obtain ⟨h1, h2, h4, l, h3, h5⟩ := h j hj
  have b1 := ((hI.blk l j).1 h3).2.2
  have b2 := ((hI.blk _ j).1 (hB j h1 h2)).2.2
  rw [b1] at b2
  have hl : (m.th j).bat = l := by simp at b2; omega
  have hR := (hI.at_ j h1 (by omega)).valid (hF.ok j h1)
  have hlt : (l : Int) < 4 := (hR.2.2.2.2.1 (l : Int) (List.mem_of_getLast? b1)).2
  unfold Proofs.YtjbmflgamogefabGreat.obst
  rw [if_pos h1, if_pos h2, hl, if_pos (by omega), h5]
/-- From one machine to another that has the same ones caught. -/
theorem Per.over {C : Nat → List In} {n : Nat} {ρ' : Nat → List Int} {m m' : Mac} {t : Nat} (hF : Fine C n) (hn : n ≤ 4) (hB : Bat n m) (hI' : Inv C n none ρ' m') (hB' : Bat n m') (h : Per n m t)
    (hc : ClosedF n m (Proofs.YtjbmflgamogefabGreat.orb n m t) (fun j => (Proofs.YtjbmflgamogefabGreat.obst n m j).toNat) → ClosedF n m' (Proofs.YtjbmflgamogefabGreat.orb n m t) (fun j => (Proofs.YtjbmflgamogefabGreat.obst n m j).toNat)) : Per n m' t ∧ ringOf n m' t = ringOf n m t ∧ ∀ a, itO n m' a t = itO n m a t := by
  have h1 := (hc (h.closedF hn hB)).obst hF hI' hB'
  refine agree hn h (fun a => ?_)
  rw [h1 _ ((h.orb hn _).2 ⟨a, rfl⟩)]
  show ((((Proofs.YtjbmflgamogefabGreat.obst n m (itO n m a t)).toNat : Nat) : Nat) : Int) = _
  have := h.nn a
  omega
theorem ring_congr {n : Nat} {m m' : Mac} (h : ∀ j, obst n m' j = obst n m j) (k : Nat) : ∀ (i : Nat) (p : Int) (s : Nat → Bool), ringM n m' k i p s = ringM n m k i p s
  | 0, _, _ => rfl
  | i + 1, p, s => by rw [ringM, ringM, h, ring_congr h k i]
theorem strOf_inj : ∀ {a b : List Int}, (∀ x ∈ a, 0 ≤ x ∧ x < 256) → (∀ x ∈ b, 0 ≤ x ∧ x < 256) → a.map (fun x => UInt8.ofNat x.toNat) = b.map (fun x => UInt8.ofNat x.toNat) → a = b
  | [], [], _, _, _ => rfl
  | [], y :: b, _, _, h => by simp at h
  | x :: a, [], _, _, h => by simp at h
  | x :: a, y :: b, h1, h2, h => by
    simp only [List.map_cons, List.cons.injEq] at h
    obtain ⟨e1, e2⟩ := h
    have := h1 x (List.mem_cons_self ..)
    have := h2 y (List.mem_cons_self ..)
    have e3 : (UInt8.ofNat x.toNat).toNat = (UInt8.ofNat y.toNat).toNat := by rw [e1]
    rw [UInt8.toNat_ofNat_of_lt' (by show x.toNat < 256; omega), UInt8.toNat_ofNat_of_lt' (by show y.toNat < 256; omega)] at e3
    rw [strOf_inj (fun z hz => h1 z (List.mem_cons_of_mem _ hz)) (fun z hz => h2 z (List.mem_cons_of_mem _ hz)) e2, show x = y by omega]
def ByteL (r : List Int) : Prop := ∀ x ∈ r, 0 ≤ x ∧ x < 256
theorem any_iff {K : List (List Int)} {r : List Int} (hK : ∀ y ∈ K, ByteL y) (hr : ByteL r) : (K.any (fun y => (strOf y).toList == (strOf r).toList)) = true ↔ r ∈ K := by
  rw [List.any_eq_true]
  constructor
  · rintro ⟨y, hy, e⟩
    rw [beq_iff_eq] at e
    have e1 : (strOf y).data.toList = (strOf r).data.toList := by rw [← Go.ByteArray.toList_eq, ← Go.ByteArray.toList_eq]; exact e
    simp only [strOf] at e1
    rw [← strOf_inj (hK y hy) hr e1]; exact hy
  · intro h; exact ⟨r, h, by simp⟩
theorem note_same (q : Nat) : ∀ (l : List (List Int)) (K : List (List Int)) (L : List Int), (∀ y ∈ K, ByteL y) → (∀ r ∈ l, r ∈ K) → noteR q l (K, L) = (K, L)
  | [], _, _, _, _ => rfl
  | r :: l, K, L, hK, h => by
    have hr := h r (List.mem_cons_self ..)
    rw [noteR, if_pos ((any_iff hK (hK r hr)).2 hr)]
    exact note_same q l K L hK (fun y hy => h y (List.mem_cons_of_mem _ hy))
theorem note_new (q : Nat) (z : List Int) (hz : ByteL z) : ∀ (l : List (List Int)) (K : List (List Int)) (L : List Int), (∀ y ∈ K, ByteL y) → ¬ z ∈ K → z ∈ l → (∀ r ∈ l, r ∈ K ∨ r = z) → noteR q l (K, L) = (K ++ [z], L ++ [48 + (q : Int) / 10 % 10, 48 + (q : Int) % 10, 58] ++ z ++ [32])
  | [], _, _, _, _, h, _ => by simp at h
  | r :: l, K, L, hK, hn, hm, h => by
    rw [noteR]
    by_cases hr : r ∈ K
    · rw [if_pos ((any_iff hK (hK r hr)).2 hr)]
      refine note_new q z hz l K L hK hn ?_ (fun y hy => h y (List.mem_cons_of_mem _ hy))
      rcases List.mem_cons.1 hm with e | e
      · exact absurd (e ▸ hr) hn
      · exact e
    · rcases h r (List.mem_cons_self ..) with e | e
      · exact absurd e hr
      · subst e
        rw [if_neg (fun e => hr ((any_iff hK hz).1 e))]
        refine note_same q l _ _ (fun y hy => ?_) (fun y hy => ?_)
        · rcases List.mem_append.1 hy with h1 | h1
          · exact hK y h1
          · rw [List.mem_singleton.1 h1]; exact hz
        · rcases h y (List.mem_cons_of_mem _ hy) with h1 | h1
          · exact List.mem_append_left _ h1
          · exact List.mem_append_right _ (List.mem_singleton.2 h1)
theorem rings_bytes {n : Nat} {m : Mac} (hn : n ≤ 4) {r : List Int} (h : r ∈ ringsL n m n) : ByteL r := by
  obtain ⟨t, _, rfl⟩ := (in_rings n m hn r).1 h
  exact names_bytes _ 4 (Nat.le_refl _)
theorem Per.blocked {n : Nat} {m : Mac} {t : Nat} (h : Per n m t) : (m.th t).sta = 66 := by
  have h1 : 0 ≤ Proofs.YtjbmflgamogefabGreat.obst n m t := h.nn 0
  obtain ⟨u, hu⟩ : ∃ u : Nat, Proofs.YtjbmflgamogefabGreat.obst n m t = (u : Int) := ⟨(Proofs.YtjbmflgamogefabGreat.obst n m t).toNat, by omega⟩
  exact (obst_at hu).2.1
theorem obst_ltP {C : Nat → List In} {n : Nat} (hF : Fine C n) (hn : n ≤ 4) (quantum i : Nat) (j : Nat) : obst n (playM C n quantum i) j < 4 := by
  have h0 := fun l => play_who hF quantum i l
  unfold obst
  split
  · split
    · split
      · rcases h0 ((playM C n quantum i).th j).bat with e | ⟨k, e1, e2, _⟩ <;> omega
      · omega
    · omega
  · omega
/-- The reference's log is the code's. -/
theorem log_same {C : Nat → List In} {n : Nat} (hF : Fine C n) (hn : n ≤ 4) (quantum : Nat) : ∀ i, (logR C n quantum i).2 = (playM C n quantum i).log ∧ ∀ r, r ∈ (logR C n quantum i).1 ↔ r ∈ ringsL n (playM C n quantum i) n
  | 0 => by
    refine ⟨rfl, fun r => ?_⟩
    rw [in_rings n _ hn]
    constructor
    · intro h; simp [logR] at h
    · rintro ⟨t, h, _⟩
      have := h.blocked
      simp [playM, beginM] at this
  | i + 1 => by
    obtain ⟨ih1, ih2⟩ := log_same hF hn quantum i
    obtain ⟨ρ, hI⟩ := Inv.plays hF quantum i
    obtain ⟨ρ', hI'⟩ := Inv.plays hF quantum (i + 1)
    have hB := play_bat C n quantum i
    have hB' := play_bat C n quantum (i + 1)
    have hT := fun (S : List Nat) (s : Nat → Nat) => turnF (S := S) (s := s) hF quantum i hI
    rw [show turnM C n quantum i (playM C n quantum i) = playM C n quantum (i + 1) from rfl] at hT
    have ho' := obst_ltP hF hn quantum (i + 1)
    have hfor : ∀ t, Per n (playM C n quantum i) t → Per n (playM C n quantum (i + 1)) t ∧ ringOf n (playM C n quantum (i + 1)) t = ringOf n (playM C n quantum i) t ∧ ∀ a, itO n (playM C n quantum (i + 1)) a t = itO n (playM C n quantum i) a t := fun t h =>
      h.over hF hn hB hI' hB' (hT _ _).1
    have hbck : ∀ t, Per n (playM C n quantum (i + 1)) t → (∀ k r, (wakeM (i : Int) n 0 (playM C n quantum i)).q = k :: r → ¬ ∃ a, itO n (playM C n quantum (i + 1)) a t = k) → Per n (playM C n quantum i) t ∧ ringOf n (playM C n quantum i) t = ringOf n (playM C n quantum (i + 1)) t := fun t h hk => by
      obtain ⟨a, b, _⟩ := h.over hF hn hB' hI hB ((hT _ _).2.1 (fun k r e hm => hk k r e ((h.orb hn k).1 hm)))
      exact ⟨a, b⟩
    have hKB : ∀ y ∈ (logR C n quantum i).1, ByteL y := fun y hy => rings_bytes hn ((ih2 y).1 hy)
    have hrec : logR C n quantum (i + 1) = noteR i (ringsL n (playM C n quantum (i + 1)) n) ((logR C n quantum i).1, (logR C n quantum i).2) := rfl
    -- the rings stay the same
    have hsame : (∀ t, Per n (playM C n quantum (i + 1)) t → ∀ k r, (wakeM (i : Int) n 0 (playM C n quantum i)).q = k :: r → ¬ ∃ a, itO n (playM C n quantum (i + 1)) a t = k) → logR C n quantum (i + 1) = ((logR C n quantum i).1, (logR C n quantum i).2) ∧ ∀ r, r ∈ ringsL n (playM C n quantum (i + 1)) n ↔ r ∈ ringsL n (playM C n quantum i) n := fun h => by
      have h1 : ∀ r, r ∈ ringsL n (playM C n quantum (i + 1)) n ↔ r ∈ ringsL n (playM C n quantum i) n := fun r => by
        rw [in_rings n _ hn, in_rings n _ hn]
        constructor
        · rintro ⟨t, h1, rfl⟩
          obtain ⟨a, b⟩ := hbck t h1 (h t h1)
          exact ⟨t, a, b.symm⟩
        · rintro ⟨t, h1, rfl⟩
          obtain ⟨a, b, _⟩ := hfor t h1
          exact ⟨t, a, b.symm⟩
      refine ⟨?_, h1⟩
      rw [hrec]
      exact note_same i _ _ _ hKB (fun r hr => (ih2 r).2 ((h1 r).1 hr))
    cases hq : (wakeM (i : Int) n 0 (playM C n quantum i)).q with
    | nil =>
      obtain ⟨h1, h2⟩ := hsame (fun t _ k r e => by rw [hq] at e; cases e)
      have hl : (playM C n quantum (i + 1)).log = (playM C n quantum i).log := by
        show (turnM C n quantum i (playM C n quantum i)).log = _
        unfold turnM
        simp only [hq]
        rw [turn0_log]
      rw [h1]
      exact ⟨by rw [hl]; exact ih1, fun r => by rw [h2]; exact ih2 r⟩
    | cons k r =>
      obtain ⟨hk, hnb⟩ := (hT [] id).2.2 k r hq
      obtain ⟨L, hL⟩ := turn_eq C n quantum i (playM C n quantum i)
      have hob : ∀ j, obst n (turn0M C n quantum i (playM C n quantum i)) j = obst n (playM C n quantum (i + 1)) j := fun j => by
        show _ = obst n (turnM C n quantum i (playM C n quantum i)) j
        rw [hL]; rfl
      have hl : (playM C n quantum (i + 1)).log = (playM C n quantum i).log ++ entM n (playM C n quantum (i + 1)) k i := by
        have e : entM n (turn0M C n quantum i (playM C n quantum i)) k i = entM n (playM C n quantum (i + 1)) k i := by
          unfold entM
          rw [ring_congr hob]
        rw [← e]
        show (turnM C n quantum i (playM C n quantum i)).log = _
        unfold turnM
        simp only [hq]
        rw [turn0_log]
      have hnk : ¬ Per n (playM C n quantum i) k := fun h => hnb h.blocked
      by_cases hP : Per n (playM C n quantum (i + 1)) k
      · have hr2 := (ring_per hn (by omega) ho').2 hP
        have hnm : namesM (ringM n (playM C n quantum (i + 1)) k 4 k (fun _ => false)).1 4 = ringOf n (playM C n quantum (i + 1)) k :=
          names_congr 4 (fun x _ => bool_ext (by rw [ring_set hr2, hP.set hn]))
        have hkin : (48 + (k : Int)) ∈ ringOf n (playM C n quantum (i + 1)) k := (names_in _ k 4).2 ⟨by omega, (hP.set hn k).2 ⟨0, rfl⟩⟩
        have hnew : ¬ ringOf n (playM C n quantum (i + 1)) k ∈ ringsL n (playM C n quantum i) n := fun h => by
          obtain ⟨t, h1, h2⟩ := (in_rings n _ hn _).1 h
          rw [h2] at hkin
          obtain ⟨_, h4⟩ := (names_in _ k 4).1 hkin
          obtain ⟨a, ha⟩ := (h1.set hn k).1 h4
          exact hnk (ha ▸ (h1.to a).1)
        have hin : ringOf n (playM C n quantum (i + 1)) k ∈ ringsL n (playM C n quantum (i + 1)) n := (in_rings n _ hn _).2 ⟨k, hP, rfl⟩
        have hall : ∀ r, r ∈ ringsL n (playM C n quantum (i + 1)) n ↔ r ∈ ringsL n (playM C n quantum i) n ∨ r = ringOf n (playM C n quantum (i + 1)) k := fun r' => by
          constructor
          · intro h
            obtain ⟨t, h1, rfl⟩ := (in_rings n _ hn _).1 h
            by_cases hc : ∃ a, itO n (playM C n quantum (i + 1)) a t = k
            · right; exact ((h1.same hn hc).2.1).symm
            · left
              obtain ⟨a, b⟩ := hbck t h1 (fun k' r' e => by rw [hq] at e; cases e; exact hc)
              exact (in_rings n _ hn _).2 ⟨t, a, b.symm⟩
          · rintro (h | rfl)
            · obtain ⟨t, h1, rfl⟩ := (in_rings n _ hn _).1 h
              obtain ⟨a, b, _⟩ := hfor t h1
              exact (in_rings n _ hn _).2 ⟨t, a, b.symm⟩
            · exact hin
        rw [hrec, note_new i (ringOf n (playM C n quantum (i + 1)) k) (rings_bytes hn hin) _ _ _ hKB (fun h => hnew ((ih2 _).1 h)) hin (fun r' hr' => ((hall r').1 hr').imp (fun h => (ih2 r').2 h) id)]
        refine ⟨?_, fun r' => ?_⟩
        · rw [hl, ← ih1]
          unfold entM
          rw [if_pos hr2, hnm]
          simp only [List.append_assoc]
        · rw [hall, List.mem_append, ih2, List.mem_singleton]
      · obtain ⟨h1, h2⟩ := hsame (fun t ht k' r' e hc => by rw [hq] at e; cases e; exact hP ((ht.same hn hc).1))
        have hl' : (playM C n quantum (i + 1)).log = (playM C n quantum i).log := by
          rw [hl]
          unfold entM
          rw [if_neg (fun h => hP ((ring_per hn (by omega) ho').1 h)), List.append_nil]
        rw [h1]
        exact ⟨by rw [hl']; exact ih1, fun r' => by rw [h2]; exact ih2 r'⟩

end Go.Proofs.YtjbmflgamogefabGreat
