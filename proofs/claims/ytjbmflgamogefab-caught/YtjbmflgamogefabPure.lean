/- The plain functions: what the small functions of the program and of the reference compute, and their laws. No program is imported. -/
namespace Go.Proofs.Ytjbmflgamogefab

def isDig (c : Int) : Bool := decide (48 ≤ c) && decide (c ≤ 57)
def isLet (c : Int) : Bool :=
  c == 107 || c == 103 || c == 115 || c == 43 || c == 45 || c == 112 || c == 74 || c == 90 || c == 65 || c == 82 || c == 87 || c == 78 || c == 84 || c == 89 || c == 88
def tk (c : Int) : Int := if c == 43 || c == 45 then 2 else if c == 115 || c == 112 || c == 90 then 1 else 0
def pt (c : Int) : Int := if c == 107 || c == 103 || c == 43 || c == 45 then 1 else 0
/-- May the letter have the argument in a code of n instructions. -/
def argOk (c a n : Int) : Bool :=
  if c == 103 || c == 115 then decide (a < 8)
  else if c == 43 || c == 45 || c == 112 || c == 89 || c == 88 then a == 0
  else if c == 74 || c == 90 then decide (a < n)
  else if c == 65 || c == 82 || c == 87 || c == 78 then decide (a < 4)
  else true

theorem tk_01 (c : Int) : 0 ≤ tk c ∧ tk c ≤ 2 := by unfold tk; split <;> (try split) <;> omega
theorem pt_01 (c : Int) : 0 ≤ pt c ∧ pt c ≤ 1 := by unfold pt; split <;> omega

/-- A row of locks as one number, the last lock lowest. -/
def enc : List Int → Int := fun r => r.foldl (fun a l => a * 5 + l + 1) 0
def OkRow (r : List Int) : Prop := ∀ l ∈ r, 0 ≤ l ∧ l < 4
theorem enc_nil : enc [] = 0 := rfl
theorem enc_snoc (r : List Int) (l : Int) : enc (r ++ [l]) = enc r * 5 + l + 1 := by simp [enc, List.foldl_append]
theorem OkRow.snoc {r : List Int} {l : Int} (h : OkRow (r ++ [l])) : OkRow r ∧ 0 ≤ l ∧ l < 4 :=
  ⟨fun x hx => h x (by simp [hx]), h l (by simp)⟩
theorem OkRow.add {r : List Int} {l : Int} (h : OkRow r) (h0 : 0 ≤ l) (h1 : l < 4) : OkRow (r ++ [l]) := by
  intro x hx
  rcases List.mem_append.1 hx with hx | hx
  · exact h x hx
  · simp at hx; subst hx; exact ⟨h0, h1⟩
theorem OkRow.nil : OkRow [] := fun _ h => by cases h
/-- From behind. -/
theorem snoc_ind {P : List Int → Prop} (h0 : P []) (h1 : ∀ r l, P r → P (r ++ [l])) : ∀ r, P r := by
  intro r
  have : ∀ s : List Int, P s.reverse := by
    intro s
    induction s with
    | nil => simpa using h0
    | cons a s ih => simpa using h1 _ a ih
  simpa using this r.reverse
theorem snoc_or (r : List Int) : r = [] ∨ ∃ s l, r = s ++ [l] := by
  rcases List.eq_nil_or_concat r with h | ⟨s, l, h⟩
  · exact .inl h
  · exact .inr ⟨s, l, by simpa using h⟩
theorem enc_nonneg (r : List Int) (h : OkRow r) : 0 ≤ enc r := by
  revert h
  refine snoc_ind (P := fun r => OkRow r → 0 ≤ enc r) (fun _ => by simp [enc_nil]) (fun r l ih h => ?_) r
  have := ih h.snoc.1
  have := h.snoc.2
  rw [enc_snoc]; omega
theorem enc_lt (r : List Int) (h : OkRow r) : enc r < 5 ^ r.length := by
  revert h
  refine snoc_ind (P := fun r => OkRow r → enc r < 5 ^ r.length) (fun _ => by simp [enc_nil]) (fun r l ih h => ?_) r
  have h1 := ih h.snoc.1
  have := h.snoc.2
  rw [enc_snoc, List.length_append, List.length_singleton, Int.pow_succ]; omega
theorem enc_pos (r : List Int) (h : OkRow r) (hr : r ≠ []) : 0 < enc r := by
  rcases snoc_or r with rfl | ⟨s, l, rfl⟩
  · exact absurd rfl hr
  · have := enc_nonneg s h.snoc.1
    have := h.snoc.2
    rw [enc_snoc]; omega
theorem enc_inj (r s : List Int) (hr : OkRow r) (hs : OkRow s) (h : enc r = enc s) : r = s := by
  revert s
  refine snoc_ind (P := fun r => OkRow r → ∀ s, OkRow s → enc r = enc s → r = s) ?_ ?_ r hr
  · intro _ s hs h
    by_cases hn : s = []
    · exact hn.symm
    · have := enc_pos s hs hn; rw [enc_nil] at h; omega
  · intro r l ih hr s hs h
    rcases snoc_or s with rfl | ⟨s', l', rfl⟩
    · have := enc_pos _ hr (by simp); rw [enc_nil] at h; omega
    · have h1 := hr.snoc.2
      have h2 := hs.snoc.2
      rw [enc_snoc, enc_snoc] at h
      have h3 : enc r = enc s' := by omega
      have h4 : l = l' := by omega
      rw [ih hr.snoc.1 s' hs.snoc.1 h3, h4]

/-- Rows with four locks at most, none twice. -/
def GoodRow (r : List Int) : Prop := OkRow r ∧ r.Nodup
theorem nodup_len {α : Type} [DecidableEq α] : ∀ (l m : List α), l.Nodup → (∀ x ∈ l, x ∈ m) → l.length ≤ m.length := by
  intro l
  induction l with
  | nil => intro m _ _; simp
  | cons a l ih =>
    intro m hn hs
    have ha : a ∈ m := hs a (by simp)
    have hn' := List.nodup_cons.1 hn
    have h1 := ih (m.erase a) hn'.2 (fun x hx => (List.mem_erase_of_ne (fun e => by subst e; exact hn'.1 hx)).2 (hs x (by simp [hx])))
    rw [List.length_erase_of_mem ha] at h1
    have : 0 < m.length := List.length_pos_of_mem ha
    simp only [List.length_cons]; omega
theorem length_le_four (r : List Int) (h : OkRow r) (hn : r.Nodup) : r.length ≤ 4 := by
  have h1 := nodup_len r [0, 1, 2, 3] hn (fun x hx => by
    have := h x hx
    have : x = 0 ∨ x = 1 ∨ x = 2 ∨ x = 3 := by omega
    simp [this])
  simpa using h1
theorem enc_625 (r : List Int) (h : OkRow r) (hn : r.Nodup) : 0 ≤ enc r ∧ enc r < 625 := by
  refine ⟨enc_nonneg r h, ?_⟩
  have h1 := enc_lt r h
  have h2 := length_le_four r h hn
  have h3 : (5 : Int) ^ r.length ≤ 5 ^ 4 := by
    have : (5 : Nat) ^ r.length ≤ 5 ^ 4 := Nat.pow_le_pow_right (by omega) h2
    exact_mod_cast this
  have h4 : (5 : Int) ^ 4 = 625 := by decide
  omega

/-- The program's own order of the tests. -/
def argOkG (c a n : Int) : Bool :=
  if c == 107 || c == 84 then true
  else if c == 103 || c == 115 then decide (a < 8)
  else if c == 65 || c == 82 || c == 87 || c == 78 then decide (a < 4)
  else if c == 74 || c == 90 then decide (a < n)
  else a == 0
theorem argOkG_eq (c a n : Int) (h : isLet c = true) : argOkG c a n = argOk c a n := by
  simp only [isLet, Bool.or_eq_true, beq_iff_eq] at h
  rcases h with (((((((((((((h | h) | h) | h) | h) | h) | h) | h) | h) | h) | h) | h) | h) | h) | h <;> subst h <;> rfl

def lastIs (r : List Int) (a : Int) : Bool := r.getLast? == some a
theorem lastIs_nil (a : Int) : lastIs [] a = false := rfl
theorem lastIs_snoc (r : List Int) (l a : Int) : lastIs (r ++ [l]) a = (l == a) := by
  simp [lastIs]
theorem last_enc (r : List Int) (a : Int) (h : OkRow r) (ha : 0 ≤ a) : (enc r % 5 == a + 1) = lastIs r a := by
  rcases snoc_or r with rfl | ⟨s, l, rfl⟩
  · rw [enc_nil, lastIs_nil]; simp; omega
  · have := h.snoc.2
    have h5 := enc_nonneg s h.snoc.1
    rw [enc_snoc, lastIs_snoc, Bool.eq_iff_iff, beq_iff_eq, beq_iff_eq]
    omega
theorem enc_div (s : List Int) (l : Int) (h : OkRow (s ++ [l])) : enc (s ++ [l]) / 5 = enc s := by
  have := h.snoc.2
  rw [enc_snoc]; omega
theorem enc_zero (r : List Int) (h : OkRow r) : (enc r == 0) = r.isEmpty := by
  cases hr : r with
  | nil => rfl
  | cons a t => have := enc_pos r h (by simp [hr]); rw [hr] at this; simp; omega

def hasL (r : List Int) (a : Int) : Bool := r.contains a
def stkBad (c h : Int) : Bool := decide (h < tk c) || decide (6 < h - tk c + pt c)
def lckBad (c a : Int) (r : List Int) : Bool :=
  if c == 65 then hasL r a
  else if c == 82 || c == 87 then !lastIs r a
  else if c == 78 then !hasL r a
  else if c == 88 then !r.isEmpty
  else false
/-- P5, of an instruction with a height and a row. -/
def wrg (c a h : Int) (r : List Int) : Int := if stkBad c h then 5 else if lckBad c a r then 6 else 0

end Go.Proofs.Ytjbmflgamogefab
