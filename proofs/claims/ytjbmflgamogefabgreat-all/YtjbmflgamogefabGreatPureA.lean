/- The plain functions: what the small functions of the program and of the reference compute, and their laws. No program is imported. -/
namespace Go.Proofs.YtjbmflgamogefabGreat

def isDig (c : Int) : Bool := decide (48 ≤ c) && decide (c ≤ 57)
def isLet (c : Int) : Bool :=
  c == 107 || c == 103 || c == 115 || c == 43 || c == 45 || c == 112 || c == 74 || c == 90 || c == 65 || c == 82 || c == 87 || c == 78 || c == 84 || c == 89 || c == 88
def tk (c : Int) : Int := if c == 43 || c == 45 then 2 else if c == 115 || c == 112 || c == 90 then 1 else 0
def pt (c : Int) : Int := if c == 107 || c == 103 || c == 43 || c == 45 then 1 else 0
/-- May the letter have the argument in a code of n instructions. -/
def argOk (c a n : Int) : Bool :=
  if c == 103 || c == 115 then decide (a < 8)
  else if c == 43 || c == 45 || c == 112 || c == 89 || c == 88 then a == 0
  else if c == 74 || c == 90 then decide (a < n)
  else if c == 65 || c == 82 || c == 87 || c == 78 then decide (a < 4)
  else true

theorem tk_01 (c : Int) : 0 ≤ tk c ∧ tk c ≤ 2 := by unfold tk; split <;> (try split) <;> omega
theorem pt_01 (c : Int) : 0 ≤ pt c ∧ pt c ≤ 1 := by unfold pt; split <;> omega

/-- A row of locks as one number, the last lock lowest. -/
def enc : List Int → Int := fun r => r.foldl (fun a l => a * 5 + l + 1) 0
def OkRow (r : List Int) : Prop := ∀ l ∈ r, 0 ≤ l ∧ l < 4
theorem enc_nil : enc [] = 0 := rfl
theorem enc_snoc (r : List Int) (l : Int) : enc (r ++ [l]) = enc r * 5 + l + 1 := by simp [enc, List.foldl_append]
theorem OkRow.snoc {r : List Int} {l : Int} (h : OkRow (r ++ [l])) : OkRow r ∧ 0 ≤ l ∧ l < 4 :=
  ⟨fun x hx => h x (by simp [hx]), h l (by simp)⟩
theorem OkRow.add {r : List Int} {l : Int} (h : OkRow r) (h0 : 0 ≤ l) (h1 : l < 4) : OkRow (r ++ [l]) := by
  intro x hx
  rcases List.mem_append.1 hx with hx | hx
  · exact h x hx
  · simp at hx; subst hx; exact ⟨h0, h1⟩
theorem OkRow.nil : OkRow [] := fun _ h => by cases h
/-- From behind. -/
theorem snoc_ind {P : List Int → Prop} (h0 : P []) (h1 : ∀ r l, P r → P (r ++ [l])) : ∀ r, P r := by
  intro r
  have : ∀ s : List Int, P s.reverse := by
    intro s
    induction s with
    | nil => simpa using h0
    | cons a s ih => simpa using h1 _ a ih
  simpa using this r.reverse
theorem snoc_or (r : List Int) : r = [] ∨ ∃ s l, r = s ++ [l] := by
  rcases List.eq_nil_or_concat r with h | ⟨s, l, h⟩
  · exact .inl h
  · exact .inr ⟨s, l, by simpa using h⟩
theorem enc_nonneg (r : List Int) (h : OkRow r) : 0 ≤ enc r := by
  revert h
  refine snoc_ind (P := fun r => OkRow r → 0 ≤ enc r) (fun _ => by simp [enc_nil]) (fun r l ih h => ?_) r
  have := ih h.snoc.1
  have := h.snoc.2
  rw [enc_snoc]; omega
theorem enc_lt (r : List Int) (h : OkRow r) : enc r < 5 ^ r.length := by
  revert h
  refine snoc_ind (P := fun r => OkRow r → enc r < 5 ^ r.length) (fun _ => by simp [enc_nil]) (fun r l ih h => ?_) r
  have h1 := ih h.snoc.1
  have := h.snoc.2
  rw [enc_snoc, List.length_append, List.length_singleton, Int.pow_succ]; omega
theorem enc_pos (r : List Int) (h : OkRow r) (hr : r ≠ []) : 0 < enc r := by
  rcases snoc_or r with rfl | ⟨s, l, rfl⟩
  · exact absurd rfl hr
  · have := enc_nonneg s h.snoc.1
    have := h.snoc.2
    rw [enc_snoc]; omega
theorem enc_inj (r s : List Int) (hr : OkRow r) (hs : OkRow s) (h : enc r = enc s) : r = s := by
  revert s
  refine snoc_ind (P := fun r => OkRow r → ∀ s, OkRow s → enc r = enc s → r = s) ?_ ?_ r hr
  · intro _ s hs h
    by_cases hn : s = []
    · exact hn.symm
    · have := enc_pos s hs hn; rw [enc_nil] at h; omega
  · intro r l ih hr s hs h
    rcases snoc_or s with rfl | ⟨s', l', rfl⟩
    · have := enc_pos _ hr (by simp); rw [enc_nil] at h; omega
    · have h1 := hr.snoc.2
      have h2 := hs.snoc.2
      rw [enc_snoc, enc_snoc] at h
      have h3 : enc r = enc s' := by omega
      have h4 : l = l' := by omega
      rw [ih hr.snoc.1 s' hs.snoc.1 h3, h4]

/-- Rows with four locks at most, none twice. -/
def GoodRow (r : List Int) : Prop := OkRow r ∧ r.Nodup
theorem nodup_len {α : Type} [DecidableEq α] : ∀ (l m : List α), l.Nodup → (∀ x ∈ l, x ∈ m) → l.length ≤ m.length := by
  intro l
  induction l with
  | nil => intro m _ _; simp
  | cons a l ih =>
    intro m hn hs
    have ha : a ∈ m := hs a (by simp)
    have hn' := List.nodup_cons.1 hn
    have h1 := ih (m.erase a) hn'.2 (fun x hx => (List.mem_erase_of_ne (fun e => by subst e; exact hn'.1 hx)).2 (hs x (by simp [hx])))
    rw [List.length_erase_of_mem ha] at h1
    have : 0 < m.length := List.length_pos_of_mem ha
    simp only [List.length_cons]; omega
theorem length_le_four (r : List Int) (h : OkRow r) (hn : r.Nodup) : r.length ≤ 4 := by
  have h1 := nodup_len r [0, 1, 2, 3] hn (fun x hx => by
    have := h x hx
    have : x = 0 ∨ x = 1 ∨ x = 2 ∨ x = 3 := by omega
    simp [this])
  simpa using h1
theorem enc_625 (r : List Int) (h : OkRow r) (hn : r.Nodup) : 0 ≤ enc r ∧ enc r < 625 := by
  refine ⟨enc_nonneg r h, ?_⟩
  have h1 := enc_lt r h
  have h2 := length_le_four r h hn
  have h3 : (5 : Int) ^ r.length ≤ 5 ^ 4 := by
    have : (5 : Nat) ^ r.length ≤ 5 ^ 4 := Nat.pow_le_pow_right (by omega) h2
    exact_mod_cast this
  have h4 : (5 : Int) ^ 4 = 625 := by decide
  omega

/-- The program's own order of the tests. -/
def argOkG (c a n : Int) : Bool :=
  if c == 107 || c == 84 then true
  else if c == 103 || c == 115 then decide (a < 8)
  else if c == 65 || c == 82 || c == 87 || c == 78 then decide (a < 4)
  else if c == 74 || c == 90 then decide (a < n)
  else a == 0
theorem argOkG_eq (c a n : Int) (h : isLet c = true) : argOkG c a n = argOk c a n := by
  simp only [isLet, Bool.or_eq_true, beq_iff_eq] at h
  rcases h with (((((((((((((h | h) | h) | h) | h) | h) | h) | h) | h) | h) | h) | h) | h) | h) | h <;> subst h <;> rfl

def lastIs (r : List Int) (a : Int) : Bool := r.getLast? == some a
theorem lastIs_nil (a : Int) : lastIs [] a = false := rfl
theorem lastIs_snoc (r : List Int) (l a : Int) : lastIs (r ++ [l]) a = (l == a) := by
  simp [lastIs]
theorem last_enc (r : List Int) (a : Int) (h : OkRow r) (ha : 0 ≤ a) : (enc r % 5 == a + 1) = lastIs r a := by
  rcases snoc_or r with rfl | ⟨s, l, rfl⟩
  · rw [enc_nil, lastIs_nil]; simp; omega
  · have := h.snoc.2
    have h5 := enc_nonneg s h.snoc.1
    rw [enc_snoc, lastIs_snoc, Bool.eq_iff_iff, beq_iff_eq, beq_iff_eq]
    omega
theorem enc_div (s : List Int) (l : Int) (h : OkRow (s ++ [l])) : enc (s ++ [l]) / 5 = enc s := by
  have := h.snoc.2
  rw [enc_snoc]; omega
theorem enc_zero (r : List Int) (h : OkRow r) : (enc r == 0) = r.isEmpty := by
  cases hr : r with
  | nil => rfl
  | cons a t => have := enc_pos r h (by simp [hr]); rw [hr] at this; simp; omega

def hasL (r : List Int) (a : Int) : Bool := r.contains a
def stkBad (c h : Int) : Bool := decide (h < tk c) || decide (6 < h - tk c + pt c)
def lckBad (c a : Int) (r : List Int) : Bool :=
  if c == 65 then hasL r a
  else if c == 82 || c == 87 then !lastIs r a
  else if c == 78 then !hasL r a
  else if c == 88 then !r.isEmpty
  else false
/-- P5, of an instruction with a height and a row. -/
def wrg (c a h : Int) (r : List Int) : Int := if stkBad c h then 5 else if lckBad c a r then 6 else 0

/-- A place, a height, a row of locks. -/
abbrev Sp := Int × Int × List Int
/-- An instruction: its letter, its argument. -/
abbrev In := Int × Int

def metL (L : List Sp) (s : Sp) : Bool := L.contains s
def addL (L : List Sp) (s : Sp) : List Sp := if metL L s then L else L ++ [s]
/-- What 'behind' gathers out of the old row, and the row behind the instruction. -/
def keptR (c : Int) (r : List Int) : List Int := if c == 82 then r.dropLast else r
def behindR (c a : Int) (r : List Int) : List Int := keptR c r ++ (if c == 65 then [a] else [])

/-- Where a path goes on from a spot: at the next place; at the argument. -/
def nxt (c a : Int) (s : Sp) : Sp := (s.1 + 1, s.2.1 - tk c + pt c, behindR c a s.2.2)
def jmp (c a : Int) (s : Sp) : Sp := (a, s.2.1 - tk c + pt c, behindR c a s.2.2)
def goesOn (c a : Int) (s : Sp) : Prop := wrg c a s.2.1 s.2.2 = 0 ∧ ¬ c = 88
/-- From s one comes to t. -/
def Step (I : List In) (s t : Sp) : Prop := ∃ c a, I[s.1.toNat]? = some (c, a) ∧ goesOn c a s ∧ ((¬ c = 74 ∧ t = nxt c a s) ∨ ((c = 74 ∨ c = 90) ∧ t = jmp c a s))
def s0 : Sp := (0, 0, [])
/-- The spot comes to be. -/
def Reach (I : List In) (s : Sp) : Prop := ∀ C : Sp → Prop, C s0 → (∀ s t, C s → Step I s t → C t) → C s
theorem Reach.first (I : List In) : Reach I s0 := fun _ h _ => h
theorem Reach.step {I : List In} {s t : Sp} (h : Reach I s) (ht : Step I s t) : Reach I t := fun C h0 h1 => h1 s t (h C h0 h1) ht

/-- The arguments are allowed. -/
def OkCode (I : List In) : Prop := ∀ x ∈ I, 0 ≤ x.2 ∧ x.2 < 100 ∧ argOk x.1 x.2 I.length = true
def Valid (n : Nat) (s : Sp) : Prop := 0 ≤ s.1 ∧ s.1 ≤ n ∧ 0 ≤ s.2.1 ∧ s.2.1 ≤ 6 ∧ OkRow s.2.2 ∧ s.2.2.Nodup

theorem wr_ok {c a h : Int} {r : List Int} (hw : wrg c a h r = 0) : stkBad c h = false ∧ lckBad c a r = false := by
  unfold wrg at hw
  cases h1 : stkBad c h with
  | true => rw [h1] at hw; simp at hw
  | false =>
    cases h2 : lckBad c a r with
    | true => rw [h1, h2] at hw; simp at hw
    | false => exact ⟨rfl, rfl⟩
theorem dropLast_ok {r : List Int} (h : OkRow r) : OkRow r.dropLast := fun l hl => h l ((List.dropLast_sublist r).subset hl)
theorem behind_ok {c a : Int} {r : List Int} (h1 : OkRow r) (h2 : r.Nodup) (hw : lckBad c a r = false) (ha : 0 ≤ a) (h4 : c = 65 → a < 4) : OkRow (behindR c a r) ∧ (behindR c a r).Nodup := by
  unfold behindR keptR
  by_cases hc : c = 65
  · subst hc
    have h5 : hasL r a = false := by simpa [lckBad] using hw
    have h6 : ¬ a ∈ r := by simpa [hasL] using h5
    refine ⟨?_, ?_⟩
    · simpa using h1.add ha (h4 rfl)
    · simp only [show ((65 : Int) == 82) = false from rfl, show ((65 : Int) == 65) = true from rfl, if_true, Bool.false_eq_true, if_false]
      rw [List.nodup_append]
      exact ⟨h2, by simp, fun x hx y hy => by simp at hy; subst hy; intro e; subst e; exact h6 hx⟩
  · by_cases h8 : c = 82
    · subst h8
      simp only [show ((82 : Int) == 82) = true from rfl, show ((82 : Int) == 65) = false from rfl, if_true, Bool.false_eq_true, if_false, List.append_nil]
      exact ⟨dropLast_ok h1, h2.sublist (List.dropLast_sublist r)⟩
    · simp [hc, h8, h1, h2]
theorem Valid.step {I : List In} {s t : Sp} (hI : OkCode I) (h : Valid I.length s) (ht : Step I s t) : Valid I.length t := by
  obtain ⟨c, a, hg, ⟨hw, hx⟩, ht⟩ := ht
  obtain ⟨v1, v2, v3, v4, v5, v6⟩ := h
  have hlt := (List.getElem?_eq_some_iff.1 hg).1
  have hm := hI _ (List.mem_of_getElem? hg)
  simp only at hm
  obtain ⟨m1, m2, m3⟩ := hm
  obtain ⟨w1, w2⟩ := wr_ok hw
  have hb := behind_ok (a := a) v5 v6 w2 m1 (fun hc => by subst hc; simpa [argOk] using m3)
  have hs : tk c ≤ s.2.1 ∧ s.2.1 - tk c + pt c ≤ 6 := by
    simp only [stkBad, Bool.or_eq_false_iff, decide_eq_false_iff_not] at w1
    omega
  have hp := pt_01 c
  rcases ht with ⟨_, rfl⟩ | ⟨hj, rfl⟩
  · exact ⟨by simp only [nxt]; omega, by simp only [nxt]; omega, by simp only [nxt]; omega, by simp only [nxt]; omega, hb.1, hb.2⟩
  · have : a < (I.length : Int) := by
      rcases hj with rfl | rfl
      · simpa [argOk] using m3
      · simpa [argOk] using m3
    exact ⟨by simp only [jmp]; omega, by simp only [jmp]; omega, by simp only [jmp]; omega, by simp only [jmp]; omega, hb.1, hb.2⟩
theorem Valid.first (n : Nat) : Valid n s0 := ⟨by simp [s0], by simp [s0], by simp [s0], by simp [s0], OkRow.nil, List.nodup_nil⟩
theorem Reach.valid {I : List In} (hI : OkCode I) {s : Sp} (h : Reach I s) : Valid I.length s := h _ (Valid.first _) (fun _ _ h1 h2 => h1.step hI h2)

/-- The number of a spot. -/
def idx (s : Sp) : Nat := ((s.1 * 625 + enc s.2.2) * 7 + s.2.1).toNat
theorem idx_int {n : Nat} {s : Sp} (h : Valid n s) : (idx s : Int) = (s.1 * 625 + enc s.2.2) * 7 + s.2.1 := by
  obtain ⟨v1, v2, v3, v4, v5, v6⟩ := h
  have := enc_625 _ v5 v6
  unfold idx; omega
theorem idx_lt {n : Nat} {s : Sp} (h : Valid n s) : idx s < (n + 1) * 625 * 7 := by
  have h1 := idx_int h
  obtain ⟨v1, v2, v3, v4, v5, v6⟩ := h
  have := enc_625 _ v5 v6
  omega
theorem idx_inj {n : Nat} {s t : Sp} (h : Valid n s) (k : Valid n t) (e : idx s = idx t) : s = t := by
  have h1 := idx_int h
  have h2 := idx_int k
  obtain ⟨v1, v2, v3, v4, v5, v6⟩ := h
  obtain ⟨x1, x2, x3, x4, x5, x6⟩ := k
  have := enc_625 _ v5 v6
  have := enc_625 _ x5 x6
  have e1 : s.1 = t.1 := by omega
  have e2 : s.2.1 = t.2.1 := by omega
  have e3 : enc s.2.2 = enc t.2.2 := by omega
  have e4 := enc_inj _ _ v5 x5 e3
  exact Prod.ext e1 (Prod.ext e2 e4)
theorem map_nodup {L : List Sp} {n : Nat} (hn : L.Nodup) (hv : ∀ s ∈ L, Valid n s) : (L.map idx).Nodup := by
  induction L with
  | nil => exact List.nodup_nil
  | cons a L ih =>
    obtain ⟨h1, h2⟩ := List.nodup_cons.1 hn
    rw [List.map_cons, List.nodup_cons]
    refine ⟨fun hm => ?_, ih h2 (fun s hs => hv s (by simp [hs]))⟩
    obtain ⟨b, hb, e⟩ := List.mem_map.1 hm
    have := idx_inj (hv b (by simp [hb])) (hv a (by simp)) e
    subst this; exact h1 hb
theorem len_bd {L : List Sp} {n : Nat} (hn : L.Nodup) (hv : ∀ s ∈ L, Valid n s) : L.length ≤ (n + 1) * 625 * 7 := by
  have h1 := nodup_len (L.map idx) (List.range ((n + 1) * 625 * 7)) (map_nodup hn hv) (fun x hx => by
    obtain ⟨s, hs, rfl⟩ := List.mem_map.1 hx
    exact List.mem_range.2 (idx_lt (hv s hs)))
  simpa using h1

theorem metL_iff {L : List Sp} {s : Sp} : metL L s = true ↔ s ∈ L := by simp [metL]
theorem mem_addL {L : List Sp} {s t : Sp} : t ∈ addL L s ↔ t ∈ L ∨ t = s := by
  unfold addL
  cases h : metL L s with
  | true => have := metL_iff.1 h; simp; intro e; subst e; exact this
  | false => simp
theorem addL_nodup {L : List Sp} {s : Sp} (h : L.Nodup) : (addL L s).Nodup := by
  unfold addL
  cases hm : metL L s with
  | true => simpa using h
  | false =>
    have : ¬ s ∈ L := fun hx => by rw [metL_iff.2 hx] at hm; cases hm
    simp only [Bool.false_eq_true, if_false]
    rw [List.nodup_append]
    exact ⟨h, by simp, fun x hx y hy => by simp at hy; subst hy; intro e; subst e; exact this hx⟩
theorem addL_get {L : List Sp} {s x : Sp} {k : Nat} (h : L[k]? = some x) : (addL L s)[k]? = some x := by
  unfold addL
  have := (List.getElem?_eq_some_iff.1 h).1
  split
  · exact h
  · rw [List.getElem?_append_left this]; exact h
theorem addL_len {L : List Sp} {s : Sp} : L.length ≤ (addL L s).length := by unfold addL; split <;> simp

/-- A walk under way: the list so far, of which the first i have been gone on from. -/
structure Walking (I : List In) (L : List Sp) (i : Nat) : Prop where
  nodup : L.Nodup
  first : s0 ∈ L
  reach : ∀ s ∈ L, Reach I s
  done : ∀ k s t, k < i → L[k]? = some s → Step I s t → t ∈ L
  le : i ≤ L.length
theorem Walking.start (I : List In) : Walking I [s0] 0 := ⟨by simp, by simp, fun s hs => by simp at hs; subst hs; exact Reach.first I, fun k _ _ h => by omega, by simp⟩
theorem Walking.add {I : List In} {L : List Sp} {i : Nat} (h : Walking I L i) {s t : Sp} (hs : s ∈ L) (ht : Step I s t) : Walking I (addL L t) i where
  nodup := addL_nodup h.nodup
  first := mem_addL.2 (.inl h.first)
  reach := fun x hx => by
    rcases mem_addL.1 hx with hx | rfl
    · exact h.reach x hx
    · exact (h.reach s hs).step ht
  done := fun k x y hk hx hy => by
    have h1 : L[k]? = some x := by
      have : k < L.length := Nat.lt_of_lt_of_le hk h.le
      have h2 := addL_get (s := t) (List.getElem?_eq_getElem this)
      rw [h2] at hx
      rw [List.getElem?_eq_getElem this]; exact hx
    exact mem_addL.2 (.inl (h.done k x y hk h1 hy))
  le := Nat.le_trans h.le addL_len
theorem Walking.next {I : List In} {L : List Sp} {i : Nat} (h : Walking I L i) {s : Sp} (hs : L[i]? = some s) (ht : ∀ t, Step I s t → t ∈ L) : Walking I L (i + 1) where
  nodup := h.nodup
  first := h.first
  reach := h.reach
  done := fun k x y hk hx hy => by
    by_cases e : k = i
    · subst e; rw [hs] at hx; cases hx; exact ht y hy
    · exact h.done k x y (by omega) hx hy
  le := (List.getElem?_eq_some_iff.1 hs).1
theorem Walking.over {I : List In} {L : List Sp} {k : Nat} {s : Sp} {c a : Int} (h : Walking I L k) (hs : L[k]? = some s) (hc : I[s.1.toNat]? = some (c, a)) (hn : ¬ c = 74 → nxt c a s ∈ L) (hj : (c = 74 ∨ c = 90) → jmp c a s ∈ L) : Walking I L (k + 1) :=
  h.next hs (fun t ht => by
    obtain ⟨c', a', hc', _, ht⟩ := ht
    rw [hc] at hc'
    cases hc'
    rcases ht with ⟨h1, rfl⟩ | ⟨h1, rfl⟩
    · exact hn h1
    · exact hj h1)
/-- All that comes to be, each once. -/
def IsAll (I : List In) (L : List Sp) : Prop := L.Nodup ∧ ∀ s, s ∈ L ↔ Reach I s
theorem Walking.all {I : List In} {L : List Sp} (h : Walking I L L.length) : IsAll I L := by
  refine ⟨h.nodup, fun s => ⟨h.reach s, fun hs => hs (· ∈ L) h.first (fun x y hx hy => ?_)⟩⟩
  obtain ⟨k, hk⟩ := List.getElem?_of_mem hx
  exact h.done k x y (List.getElem?_eq_some_iff.1 hk).1 hk hy
theorem Walking.valid {I : List In} {L : List Sp} {i : Nat} (hI : OkCode I) (h : Walking I L i) : ∀ s ∈ L, Valid I.length s := fun s hs => (h.reach s hs).valid hI
theorem Walking.bd {I : List In} {L : List Sp} {i : Nat} (hI : OkCode I) (h : Walking I L i) : L.length ≤ (I.length + 1) * 625 * 7 := len_bd h.nodup (h.valid hI)

/-- Two lists of all that comes to be have, of a place, equally many; and where it is one, the same one. -/
theorem filter_len_le {I : List In} {L M : List Sp} (hL : IsAll I L) (hM : IsAll I M) (f : Sp → Bool) : (L.filter f).length ≤ (M.filter f).length :=
  nodup_len _ _ (hL.1.sublist List.filter_sublist) (fun x hx => by
    rw [List.mem_filter] at hx ⊢
    exact ⟨(hM.2 x).2 ((hL.2 x).1 hx.1), hx.2⟩)
theorem filter_len {I : List In} {L M : List Sp} (hL : IsAll I L) (hM : IsAll I M) (f : Sp → Bool) : (L.filter f).length = (M.filter f).length :=
  Nat.le_antisymm (filter_len_le hL hM f) (filter_len_le hM hL f)
theorem filter_one {I : List In} {L M : List Sp} (hL : IsAll I L) (hM : IsAll I M) (f : Sp → Bool) {s : Sp} (h : L.filter f = [s]) : M.filter f = [s] := by
  have h1 := filter_len hL hM f
  rw [h] at h1
  obtain ⟨t, ht⟩ := List.length_eq_one_iff.1 h1.symm
  have hs : s ∈ L.filter f := by rw [h]; simp
  rw [List.mem_filter] at hs
  have : s ∈ M.filter f := List.mem_filter.2 ⟨(hM.2 s).2 ((hL.2 s).1 hs.1), hs.2⟩
  rw [ht] at this ⊢
  simp at this; rw [this]

def atP (p : Nat) (s : Sp) : Bool := s.1 == (p : Int)
/-- The error of the last one of a list of spots of one place. -/
def eR (c a : Int) (F : List Sp) : Int := match F.getLast? with
  | none => 0
  | some s => wrg c a s.2.1 s.2.2
/-- P5, of place p. -/
def faultF (I : List In) (L : List Sp) (p : Nat) : Int :=
  if (L.filter (atP p)).length = 0 then 0 else match I[p]? with
    | none => 7
    | some x => if 1 < (L.filter (atP p)).length then 4 else eR x.1 x.2 (L.filter (atP p))
theorem eR_snoc (c a : Int) (F : List Sp) (s : Sp) : eR c a (F ++ [s]) = wrg c a s.2.1 s.2.2 := by simp [eR]
theorem filter_take (f : Sp → Bool) (L : List Sp) (k : Nat) (s : Sp) (h : L[k]? = some s) : (L.take (k + 1)).filter f = (L.take k).filter f ++ (if f s then [s] else []) := by
  rw [List.take_add_one, h, List.filter_append]
  simp [List.filter_cons]
theorem filter_take_len (f : Sp → Bool) (L : List Sp) (k : Nat) : ((L.take k).filter f).length ≤ L.length :=
  Nat.le_trans (List.length_filter_le _ _) (by simp [List.length_take]; omega)
/-- It hangs on the set alone. -/
theorem faultF_eq {I : List In} {L M : List Sp} (hL : IsAll I L) (hM : IsAll I M) (p : Nat) : faultF I L p = faultF I M p := by
  have h1 := filter_len hL hM (atP p)
  unfold faultF
  rw [← h1]
  by_cases h0 : (L.filter (atP p)).length = 0
  · simp [h0]
  · rw [if_neg h0, if_neg h0]
    cases I[p]? with
    | none => rfl
    | some x =>
      simp only
      by_cases h2 : 1 < (L.filter (atP p)).length
      · rw [if_pos h2, if_pos h2]
      · rw [if_neg h2, if_neg h2]
        obtain ⟨s, hs⟩ := List.length_eq_one_iff.1 (show (L.filter (atP p)).length = 1 by omega)
        rw [hs, filter_one hL hM _ hs]
/-- The first place with an error, from p on. -/
def firstF (I : List In) (L : List Sp) : Nat → Nat → Int × Nat
  | 0, _ => (0, 0)
  | f + 1, p => if faultF I L p = 0 then firstF I L f (p + 1) else (faultF I L p, p)
theorem firstF_eq {I : List In} {L M : List Sp} (hL : IsAll I L) (hM : IsAll I M) : ∀ f p, firstF I L f p = firstF I M f p
  | 0, _ => rfl
  | f + 1, p => by simp only [firstF, faultF_eq hL hM p, firstF_eq hL hM f (p + 1)]

/-- A code from place i on, of which 'cur' has been read: where it cannot go on; or its instructions and the place behind it. -/
def pcode : List Int → List In → Nat → Nat ⊕ (List In × Nat)
  | [], cur, i => if cur = [] then .inl i else .inr (cur, i)
  | c :: [], cur, i => if c = 124 ∧ ¬ cur = [] then .inr (cur, i) else if isLet c = false then .inl i else .inl (i + 1)
  | c :: d :: [], cur, i => if c = 124 ∧ ¬ cur = [] then .inr (cur, i) else if isLet c = false then .inl i else if isDig d = false then .inl (i + 1) else .inl (i + 2)
  | c :: d :: e :: t, cur, i => if c = 124 ∧ ¬ cur = [] then .inr (cur, i) else if isLet c = false then .inl i else if isDig d = false then .inl (i + 1) else if isDig e = false then .inl (i + 2) else
      pcode t (cur ++ [(c, 10 * (d - 48) + (e - 48))]) (i + 3)

theorem drop_at {T : List Int} {i : Nat} {c : Int} (h : T[i]? = some c) : T.drop i = c :: T.drop (i + 1) := by
  obtain ⟨hk, rfl⟩ := List.getElem?_eq_some_iff.1 h
  exact List.drop_eq_getElem_cons hk
theorem drop_over {T : List Int} {i : Nat} (h : T.length ≤ i) : T.drop i = [] := List.drop_of_length_le h
theorem let_bar {c : Int} (h : isLet c = true) : ¬ c = 124 := by intro e; subst e; simp [isLet] at h

theorem pcode_end {T : List Int} {cur : List In} {i : Nat} (h : T.length ≤ i) : pcode (T.drop i) cur i = if cur = [] then .inl i else .inr (cur, i) := by
  rw [drop_over h]; rfl
theorem pcode_bar {T : List Int} {cur : List In} {i : Nat} (h : T[i]? = some 124) (hc : ¬ cur = []) : pcode (T.drop i) cur i = .inr (cur, i) := by
  rw [drop_at h]
  rcases T.drop (i + 1) with _ | ⟨d, _ | ⟨e, t⟩⟩ <;> simp [pcode, hc]
theorem pcode_no {T : List Int} {cur : List In} {i : Nat} {c : Int} (h : T[i]? = some c) (hc : ¬ (c = 124 ∧ ¬ cur = [])) (hl : isLet c = false) : pcode (T.drop i) cur i = .inl i := by
  rw [drop_at h]
  rcases T.drop (i + 1) with _ | ⟨d, _ | ⟨e, t⟩⟩ <;> simp only [pcode, if_neg hc, hl, if_true]
theorem pcode_d1 {T : List Int} {cur : List In} {i : Nat} {c : Int} (h : T[i]? = some c) (hl : isLet c = true) (hd : ∀ d, T[i + 1]? = some d → isDig d = false) : pcode (T.drop i) cur i = .inl (i + 1) := by
  have hb : ¬ (c = 124 ∧ ¬ cur = []) := fun h => let_bar hl h.1
  rw [drop_at h]
  by_cases hk : T.length ≤ i + 1
  · rw [drop_over hk]; simp only [pcode, if_neg hb, hl, Bool.true_eq_false, if_false]
  · obtain ⟨d, hd'⟩ : ∃ d, T[i + 1]? = some d := ⟨T[i + 1], by simp⟩
    rw [drop_at hd']
    rcases T.drop (i + 1 + 1) with _ | ⟨e, t⟩ <;> simp only [pcode, if_neg hb, hl, hd d hd', Bool.true_eq_false, if_false, if_true]
theorem pcode_d2 {T : List Int} {cur : List In} {i : Nat} {c d : Int} (h : T[i]? = some c) (hl : isLet c = true) (h1 : T[i + 1]? = some d) (hd : isDig d = true) (he : ∀ e, T[i + 2]? = some e → isDig e = false) : pcode (T.drop i) cur i = .inl (i + 2) := by
  have hb : ¬ (c = 124 ∧ ¬ cur = []) := fun h => let_bar hl h.1
  rw [drop_at h, drop_at h1]
  by_cases hk : T.length ≤ i + 2
  · rw [drop_over (i := i + 1 + 1) hk]; simp only [pcode, if_neg hb, hl, hd, Bool.true_eq_false, if_false]
  · obtain ⟨e, he'⟩ : ∃ d, T[i + 2]? = some d := ⟨T[i + 2], by simp⟩
    rw [drop_at (i := i + 1 + 1) he']
    simp only [pcode, if_neg hb, hl, hd, he e he', Bool.true_eq_false, if_false, if_true]
theorem pcode_ok {T : List Int} {cur : List In} {i : Nat} {c d e : Int} (h : T[i]? = some c) (hl : isLet c = true) (h1 : T[i + 1]? = some d) (hd : isDig d = true) (h2 : T[i + 2]? = some e) (he : isDig e = true) :
    pcode (T.drop i) cur i = pcode (T.drop (i + 3)) (cur ++ [(c, 10 * (d - 48) + (e - 48))]) (i + 3) := by
  have hb : ¬ (c = 124 ∧ ¬ cur = []) := fun h => let_bar hl h.1
  rw [drop_at h, drop_at h1, drop_at (i := i + 1 + 1) h2]
  simp only [pcode, if_neg hb, hl, hd, he, Bool.true_eq_false, if_false]

abbrev Cods := List (Nat × List In)
/-- Codes from place i on, k more at most behind this one. -/
def pread (T : List Int) : Nat → Cods → Nat → Nat ⊕ Cods
  | 0, acc, i => match pcode (T.drop i) [] i with
    | .inl j => .inl j
    | .inr x => if x.2 = T.length then .inr (acc ++ [(i, x.1)]) else .inl x.2
  | k + 1, acc, i => match pcode (T.drop i) [] i with
    | .inl j => .inl j
    | .inr x => if x.2 = T.length then .inr (acc ++ [(i, x.1)]) else pread T k (acc ++ [(i, x.1)]) (x.2 + 1)
/-- The same in the middle of a code. -/
def pfrom (T : List Int) (k : Nat) (acc : Cods) (st : Nat) (cur : List In) (i : Nat) : Nat ⊕ Cods :=
  match pcode (T.drop i) cur i with
  | .inl j => .inl j
  | .inr x => if x.2 = T.length then .inr (acc ++ [(st, x.1)]) else match k with
    | 0 => .inl x.2
    | k + 1 => pread T k (acc ++ [(st, x.1)]) (x.2 + 1)
theorem pread_eq (T : List Int) (k : Nat) (acc : Cods) (i : Nat) : pread T k acc i = pfrom T k acc i [] i := by
  cases k <;> rfl
def parse (T : List Int) : Nat ⊕ Cods := pread T 3 [] 0

theorem pfrom_inl {T : List Int} {k : Nat} {acc : Cods} {st : Nat} {cur : List In} {i j : Nat} (h : pcode (T.drop i) cur i = .inl j) : pfrom T k acc st cur i = .inl j := by rw [pfrom, h]
theorem pfrom_go {T : List Int} {k : Nat} {acc : Cods} {st : Nat} {cur cur' : List In} {i i' : Nat} (h : pcode (T.drop i) cur i = pcode (T.drop i') cur' i') : pfrom T k acc st cur i = pfrom T k acc st cur' i' := by rw [pfrom, pfrom, h]
theorem pfrom_end {T : List Int} {k : Nat} {acc : Cods} {st : Nat} {cur : List In} {i : Nat} (h : pcode (T.drop i) cur i = .inr (cur, i)) (hi : i = T.length) : pfrom T k acc st cur i = .inr (acc ++ [(st, cur)]) := by
  rw [pfrom, h]; simp [hi]
theorem pfrom_over {T : List Int} {k : Nat} {acc : Cods} {st : Nat} {cur : List In} {i : Nat} (h : pcode (T.drop i) cur i = .inr (cur, i)) (hi : ¬ i = T.length) : pfrom T (k + 1) acc st cur i = pfrom T k (acc ++ [(st, cur)]) (i + 1) [] (i + 1) := by
  rw [pfrom, h]; simp only [if_neg hi]; exact pread_eq T k _ _
theorem pfrom_full {T : List Int} {acc : Cods} {st : Nat} {cur : List In} {i : Nat} (h : pcode (T.drop i) cur i = .inr (cur, i)) (hi : ¬ i = T.length) : pfrom T 0 acc st cur i = .inl i := by
  rw [pfrom, h]; simp [hi]

/-- What is known of the codes that have been read. -/
def GoodCode (n : Nat) (st : Nat) (I : List In) : Prop := st + 3 * I.length ≤ n ∧ ∀ x ∈ I, isLet x.1 = true ∧ 0 ≤ x.2 ∧ x.2 < 100
theorem dig_bd {d : Int} (h : isDig d = true) : 48 ≤ d ∧ d ≤ 57 := by simpa [isDig] using h
theorem GoodCode.snoc {n st i : Nat} {I : List In} {c d e : Int} (h : GoodCode n st I) (hi : i = st + 3 * I.length) (h3 : i + 3 ≤ n) (hl : isLet c = true) (hd : isDig d = true) (he : isDig e = true) : GoodCode n st (I ++ [(c, 10 * (d - 48) + (e - 48))]) := by
  have := dig_bd hd
  have := dig_bd he
  refine ⟨by simp; omega, fun x hx => ?_⟩
  rcases List.mem_append.1 hx with hx | hx
  · exact h.2 x hx
  · simp at hx; subst hx; exact ⟨hl, by simp only; omega, by simp only; omega⟩
theorem GoodCode.nil {n st : Nat} (h : st ≤ n) : GoodCode n st [] := ⟨by simpa using h, fun _ h => by cases h⟩

def toldF (st : Int) (x : Int × Nat) : Int × Int := if x.1 = 0 then (0, 0) else (x.1, st + 3 * x.2)
/-- The first instruction whose argument is not allowed, from place p of the text on. -/
def badIn (n : Int) : List In → Int → Option Int
  | [], _ => none
  | x :: t, p => if argOk x.1 x.2 n = true then badIn n t (p + 3) else some p
def badCods : Cods → Option Int
  | [] => none
  | x :: t => match badIn x.2.length x.2 x.1 with
    | some p => some p
    | none => badCods t
def Told (st : Int) (I : List In) (r : Int × Int) : Prop := ∃ L, IsAll I L ∧ r = toldF st (firstF I L (I.length + 1) 0)
theorem Told.unique {st : Int} {I : List In} {r r' : Int × Int} (h : Told st I r) (h' : Told st I r') : r = r' := by
  obtain ⟨L, hL, rfl⟩ := h
  obtain ⟨M, hM, rfl⟩ := h'
  rw [firstF_eq hL hM]
def ChkCods : Cods → Int × Int → Prop
  | [], r => r = (0, 0)
  | x :: t, r => ∃ q, Told x.1 x.2 q ∧ ((q.1 = 0 ∧ ChkCods t r) ∨ (¬ q.1 = 0 ∧ r = q))
theorem ChkCods.unique : ∀ {cs : Cods} {r r' : Int × Int}, ChkCods cs r → ChkCods cs r' → r = r'
  | [], r, r', h, h' => by rw [show r = (0, 0) from h, show r' = (0, 0) from h']
  | x :: t, r, r', h, h' => by
    obtain ⟨q, h1, h2⟩ := h
    obtain ⟨q', h1', h2'⟩ := h'
    have e := h1.unique h1'
    subst e
    rcases h2 with ⟨a, b⟩ | ⟨a, b⟩ <;> rcases h2' with ⟨a', b'⟩ | ⟨a', b'⟩
    · exact ChkCods.unique b b'
    · exact absurd a a'
    · exact absurd a' a
    · rw [b, b']
def CheckRel (T : List Int) (r : Int × Int) : Prop := if 400 < T.length then r = (1, 0) else match parse T with
  | .inl j => r = (2, (j : Int))
  | .inr cs => match badCods cs with
    | some p => r = (3, p)
    | none => ChkCods cs r
theorem CheckRel.unique {T : List Int} {r r' : Int × Int} (h : CheckRel T r) (h' : CheckRel T r') : r = r' := by
  unfold CheckRel at h h'
  split at h
  · rename_i hc
    rw [if_pos hc] at h'; rw [h, h']
  · rename_i hc
    rw [if_neg hc] at h'
    cases hp : parse T with
    | inl j => rw [hp] at h h'; simp only at h h'; rw [h, h']
    | inr cs =>
      rw [hp] at h h'
      simp only at h h'
      cases hb : badCods cs with
      | some p => rw [hb] at h h'; simp only at h h'; rw [h, h']
      | none => rw [hb] at h h'; exact ChkCods.unique h h'

theorem pcode_good : ∀ (m : Nat) (t : List Int) (cur cur' : List In) (n st i j : Nat), t.length ≤ m → t.length + i = n → GoodCode n st cur → i = st + 3 * cur.length → pcode t cur i = .inr (cur', j) → GoodCode n st cur' ∧ j = st + 3 * cur'.length ∧ j ≤ n
  | m, [], cur, cur', n, st, i, j, hm, hn, hg, hi, h => by
    simp only [pcode] at h
    split at h
    · cases h
    · cases h; exact ⟨hg, hi, by simp at hn; omega⟩
  | m, c :: [], cur, cur', n, st, i, j, hm, hn, hg, hi, h => by
    simp only [pcode] at h
    split at h
    · cases h; exact ⟨hg, hi, by simp at hn; omega⟩
    · split at h <;> cases h
  | m, c :: d :: [], cur, cur', n, st, i, j, hm, hn, hg, hi, h => by
    simp only [pcode] at h
    split at h
    · cases h; exact ⟨hg, hi, by simp at hn; omega⟩
    · split at h
      · cases h
      · split at h <;> cases h
  | 0, c :: d :: e :: t, cur, cur', n, st, i, j, hm, hn, hg, hi, h => by simp at hm
  | m + 1, c :: d :: e :: t, cur, cur', n, st, i, j, hm, hn, hg, hi, h => by
    simp only [pcode] at h
    split at h
    · cases h; exact ⟨hg, hi, by simp at hn; omega⟩
    · split at h
      · cases h
      · rename_i hl
        split at h
        · cases h
        · rename_i hd
          split at h
          · cases h
          · rename_i he
            simp only [List.length_cons] at hn hm
            exact pcode_good m t _ _ n st (i + 3) j (by omega) (by omega) (hg.snoc hi (by omega) (by simpa using hl) (by simpa using hd) (by simpa using he)) (by simp; omega) h
theorem pread_good (T : List Int) : ∀ (k : Nat) (acc cs : Cods) (i : Nat), i ≤ T.length → (∀ x ∈ acc, GoodCode T.length x.1 x.2) → pread T k acc i = .inr cs → ∀ x ∈ cs, GoodCode T.length x.1 x.2 := by
  intro k
  induction k with
  | zero =>
    intro acc cs i hi ha h
    rw [pread] at h
    cases hp : pcode (T.drop i) [] i with
    | inl j => rw [hp] at h; cases h
    | inr x =>
      obtain ⟨cur, j⟩ := x
      rw [hp] at h
      simp only at h
      have hg := pcode_good _ _ _ _ T.length i i j (Nat.le_refl _) (by rw [List.length_drop]; omega) (GoodCode.nil hi) (by simp) hp
      split at h
      · cases h
        intro x hx
        rcases List.mem_append.1 hx with hx | hx
        · exact ha x hx
        · simp at hx; subst hx; exact hg.1
      · cases h
  | succ k ih =>
    intro acc cs i hi ha h
    rw [pread] at h
    cases hp : pcode (T.drop i) [] i with
    | inl j => rw [hp] at h; cases h
    | inr x =>
      obtain ⟨cur, j⟩ := x
      rw [hp] at h
      simp only at h
      have hg := pcode_good _ _ _ _ T.length i i j (Nat.le_refl _) (by rw [List.length_drop]; omega) (GoodCode.nil hi) (by simp) hp
      have ha' : ∀ x ∈ acc ++ [(i, cur)], GoodCode T.length x.1 x.2 := by
        intro x hx
        rcases List.mem_append.1 hx with hx | hx
        · exact ha x hx
        · simp at hx; subst hx; exact hg.1
      split at h
      · cases h; exact ha'
      · rename_i hj
        exact ih _ _ _ (by omega) ha' h
theorem parse_good {T : List Int} {cs : Cods} (h : parse T = .inr cs) : ∀ x ∈ cs, GoodCode T.length x.1 x.2 := pread_good T 3 [] cs 0 (Nat.zero_le _) (fun x hx => by cases hx) h
theorem badIn_none {n : Int} : ∀ {I : List In} {p : Int}, badIn n I p = none → ∀ x ∈ I, argOk x.1 x.2 n = true
  | [], _, _, x, hx => by cases hx
  | y :: t, p, h, x, hx => by
    rw [badIn] at h
    split at h
    · rename_i hy
      rcases List.mem_cons.1 hx with rfl | hx
      · exact hy
      · exact badIn_none h x hx
    · cases h
theorem badCods_none : ∀ {cs : Cods}, badCods cs = none → ∀ x ∈ cs, badIn x.2.length x.2 x.1 = none
  | [], _, x, hx => by cases hx
  | y :: t, h, x, hx => by
    rw [badCods] at h
    split at h
    · cases h
    · rename_i hy
      rcases List.mem_cons.1 hx with rfl | hx
      · exact hy
      · exact badCods_none h x hx
theorem ok_of {T : List Int} {cs : Cods} (h : parse T = .inr cs) (hb : badCods cs = none) : ∀ x ∈ cs, OkCode x.2 := fun x hx y hy => by
  have h1 := (parse_good h x hx).2 y hy
  exact ⟨h1.2.1, h1.2.2, badIn_none (badCods_none hb x hx) y hy⟩
/-- Going on in the middle. -/
theorem badIn_drop {n : Int} {I : List In} {k : Nat} {x : In} {st : Int} (h : I[k]? = some x) : badIn n (I.drop k) (st + 3 * k) = if argOk x.1 x.2 n = true then badIn n (I.drop (k + 1)) (st + 3 * (k + 1 : Nat)) else some (st + 3 * k) := by
  obtain ⟨hk, rfl⟩ := List.getElem?_eq_some_iff.1 h
  rw [List.drop_eq_getElem_cons hk, badIn, show st + 3 * (k : Int) + 3 = st + 3 * ((k + 1 : Nat) : Int) from by omega]
theorem badCods_drop {cs : Cods} {k : Nat} {x : Nat × List In} (h : cs[k]? = some x) : badCods (cs.drop k) = match badIn x.2.length x.2 x.1 with
    | some p => some p
    | none => badCods (cs.drop (k + 1)) := by
  obtain ⟨hk, rfl⟩ := List.getElem?_eq_some_iff.1 h
  rw [List.drop_eq_getElem_cons hk, badCods]
/-- The loop over the codes, from code k on. -/
theorem chk_drop {cs : Cods} {k : Nat} {x : Nat × List In} {r : Int × Int} (h : cs[k]? = some x) : ChkCods (cs.drop k) r ↔ ∃ q, Told x.1 x.2 q ∧ ((q.1 = 0 ∧ ChkCods (cs.drop (k + 1)) r) ∨ (¬ q.1 = 0 ∧ r = q)) := by
  obtain ⟨hk, rfl⟩ := List.getElem?_eq_some_iff.1 h
  rw [List.drop_eq_getElem_cons hk]
  exact Iff.rfl

end Go.Proofs.YtjbmflgamogefabGreat
