/- The text (P3): plain mathematics. -/
import Derived.Test.YtjbmflgamogefabPure3
namespace Go.Proofs.Ytjbmflgamogefab

/-- A code from place i on, of which 'cur' has been read: where it cannot go on; or its instructions and the place behind it. -/
def pcode : List Int → List In → Nat → Nat ⊕ (List In × Nat)
  | [], cur, i => if cur = [] then .inl i else .inr (cur, i)
  | c :: [], cur, i => if c = 124 ∧ ¬ cur = [] then .inr (cur, i) else if isLet c = false then .inl i else .inl (i + 1)
  | c :: d :: [], cur, i => if c = 124 ∧ ¬ cur = [] then .inr (cur, i) else if isLet c = false then .inl i else if isDig d = false then .inl (i + 1) else .inl (i + 2)
  | c :: d :: e :: t, cur, i => if c = 124 ∧ ¬ cur = [] then .inr (cur, i) else if isLet c = false then .inl i else if isDig d = false then .inl (i + 1) else if isDig e = false then .inl (i + 2) else
      pcode t (cur ++ [(c, 10 * (d - 48) + (e - 48))]) (i + 3)

theorem drop_at {T : List Int} {i : Nat} {c : Int} (h : T[i]? = some c) : T.drop i = c :: T.drop (i + 1) := by
  obtain ⟨hk, rfl⟩ := List.getElem?_eq_some_iff.1 h
  exact List.drop_eq_getElem_cons hk
theorem drop_over {T : List Int} {i : Nat} (h : T.length ≤ i) : T.drop i = [] := List.drop_of_length_le h
theorem let_bar {c : Int} (h : isLet c = true) : ¬ c = 124 := by intro e; subst e; simp [isLet] at h

theorem pcode_end {T : List Int} {cur : List In} {i : Nat} (h : T.length ≤ i) : pcode (T.drop i) cur i = if cur = [] then .inl i else .inr (cur, i) := by
  rw [drop_over h]; rfl
theorem pcode_bar {T : List Int} {cur : List In} {i : Nat} (h : T[i]? = some 124) (hc : ¬ cur = []) : pcode (T.drop i) cur i = .inr (cur, i) := by
  rw [drop_at h]
  rcases T.drop (i + 1) with _ | ⟨d, _ | ⟨e, t⟩⟩ <;> simp [pcode, hc]
theorem pcode_no {T : List Int} {cur : List In} {i : Nat} {c : Int} (h : T[i]? = some c) (hc : ¬ (c = 124 ∧ ¬ cur = [])) (hl : isLet c = false) : pcode (T.drop i) cur i = .inl i := by
  rw [drop_at h]
  rcases T.drop (i + 1) with _ | ⟨d, _ | ⟨e, t⟩⟩ <;> simp only [pcode, if_neg hc, hl, if_true]
theorem pcode_d1 {T : List Int} {cur : List In} {i : Nat} {c : Int} (h : T[i]? = some c) (hl : isLet c = true) (hd : ∀ d, T[i + 1]? = some d → isDig d = false) : pcode (T.drop i) cur i = .inl (i + 1) := by
  have hb : ¬ (c = 124 ∧ ¬ cur = []) := fun h => let_bar hl h.1
  rw [drop_at h]
  by_cases hk : T.length ≤ i + 1
  · rw [drop_over hk]; simp only [pcode, if_neg hb, hl, Bool.true_eq_false, if_false]
  · obtain ⟨d, hd'⟩ : ∃ d, T[i + 1]? = some d := ⟨T[i + 1], by simp⟩
    rw [drop_at hd']
    rcases T.drop (i + 1 + 1) with _ | ⟨e, t⟩ <;> simp only [pcode, if_neg hb, hl, hd d hd', Bool.true_eq_false, if_false, if_true]
theorem pcode_d2 {T : List Int} {cur : List In} {i : Nat} {c d : Int} (h : T[i]? = some c) (hl : isLet c = true) (h1 : T[i + 1]? = some d) (hd : isDig d = true) (he : ∀ e, T[i + 2]? = some e → isDig e = false) : pcode (T.drop i) cur i = .inl (i + 2) := by
  have hb : ¬ (c = 124 ∧ ¬ cur = []) := fun h => let_bar hl h.1
  rw [drop_at h, drop_at h1]
  by_cases hk : T.length ≤ i + 2
  · rw [drop_over (i := i + 1 + 1) hk]; simp only [pcode, if_neg hb, hl, hd, Bool.true_eq_false, if_false]
  · obtain ⟨e, he'⟩ : ∃ d, T[i + 2]? = some d := ⟨T[i + 2], by simp⟩
    rw [drop_at (i := i + 1 + 1) he']
    simp only [pcode, if_neg hb, hl, hd, he e he', Bool.true_eq_false, if_false, if_true]
theorem pcode_ok {T : List Int} {cur : List In} {i : Nat} {c d e : Int} (h : T[i]? = some c) (hl : isLet c = true) (h1 : T[i + 1]? = some d) (hd : isDig d = true) (h2 : T[i + 2]? = some e) (he : isDig e = true) :
    pcode (T.drop i) cur i = pcode (T.drop (i + 3)) (cur ++ [(c, 10 * (d - 48) + (e - 48))]) (i + 3) := by
  have hb : ¬ (c = 124 ∧ ¬ cur = []) := fun h => let_bar hl h.1
  rw [drop_at h, drop_at h1, drop_at (i := i + 1 + 1) h2]
  simp only [pcode, if_neg hb, hl, hd, he, Bool.true_eq_false, if_false]

abbrev Cods := List (Nat × List In)
/-- Codes from place i on, k more at most behind this one. -/
def pread (T : List Int) : Nat → Cods → Nat → Nat ⊕ Cods
  | 0, acc, i => match pcode (T.drop i) [] i with
    | .inl j => .inl j
    | .inr x => if x.2 = T.length then .inr (acc ++ [(i, x.1)]) else .inl x.2
  | k + 1, acc, i => match pcode (T.drop i) [] i with
    | .inl j => .inl j
    | .inr x => if x.2 = T.length then .inr (acc ++ [(i, x.1)]) else pread T k (acc ++ [(i, x.1)]) (x.2 + 1)
/-- The same in the middle of a code. -/
def pfrom (T : List Int) (k : Nat) (acc : Cods) (st : Nat) (cur : List In) (i : Nat) : Nat ⊕ Cods :=
  match pcode (T.drop i) cur i with
  | .inl j => .inl j
  | .inr x => if x.2 = T.length then .inr (acc ++ [(st, x.1)]) else match k with
    | 0 => .inl x.2
    | k + 1 => pread T k (acc ++ [(st, x.1)]) (x.2 + 1)
theorem pread_eq (T : List Int) (k : Nat) (acc : Cods) (i : Nat) : pread T k acc i = pfrom T k acc i [] i := by
  cases k <;> rfl
def parse (T : List Int) : Nat ⊕ Cods := pread T 3 [] 0

theorem pfrom_inl {T : List Int} {k : Nat} {acc : Cods} {st : Nat} {cur : List In} {i j : Nat} (h : pcode (T.drop i) cur i = .inl j) : pfrom T k acc st cur i = .inl j := by rw [pfrom, h]
theorem pfrom_go {T : List Int} {k : Nat} {acc : Cods} {st : Nat} {cur cur' : List In} {i i' : Nat} (h : pcode (T.drop i) cur i = pcode (T.drop i') cur' i') : pfrom T k acc st cur i = pfrom T k acc st cur' i' := by rw [pfrom, pfrom, h]
theorem pfrom_end {T : List Int} {k : Nat} {acc : Cods} {st : Nat} {cur : List In} {i : Nat} (h : pcode (T.drop i) cur i = .inr (cur, i)) (hi : i = T.length) : pfrom T k acc st cur i = .inr (acc ++ [(st, cur)]) := by
  rw [pfrom, h]; simp [hi]
theorem pfrom_over {T : List Int} {k : Nat} {acc : Cods} {st : Nat} {cur : List In} {i : Nat} (h : pcode (T.drop i) cur i = .inr (cur, i)) (hi : ¬ i = T.length) : pfrom T (k + 1) acc st cur i = pfrom T k (acc ++ [(st, cur)]) (i + 1) [] (i + 1) := by
  rw [pfrom, h]; simp only [if_neg hi]; exact pread_eq T k _ _
theorem pfrom_full {T : List Int} {acc : Cods} {st : Nat} {cur : List In} {i : Nat} (h : pcode (T.drop i) cur i = .inr (cur, i)) (hi : ¬ i = T.length) : pfrom T 0 acc st cur i = .inl i := by
  rw [pfrom, h]; simp [hi]

/-- What is known of the codes that have been read. -/
def GoodCode (n : Nat) (st : Nat) (I : List In) : Prop := st + 3 * I.length ≤ n ∧ ∀ x ∈ I, isLet x.1 = true ∧ 0 ≤ x.2 ∧ x.2 < 100
theorem dig_bd {d : Int} (h : isDig d = true) : 48 ≤ d ∧ d ≤ 57 := by simpa [isDig] using h
theorem GoodCode.snoc {n st i : Nat} {I : List In} {c d e : Int} (h : GoodCode n st I) (hi : i = st + 3 * I.length) (h3 : i + 3 ≤ n) (hl : isLet c = true) (hd : isDig d = true) (he : isDig e = true) : GoodCode n st (I ++ [(c, 10 * (d - 48) + (e - 48))]) := by
  have := dig_bd hd
  have := dig_bd he
  refine ⟨by simp; omega, fun x hx => ?_⟩
  rcases List.mem_append.1 hx with hx | hx
  · exact h.2 x hx
  · simp at hx; subst hx; exact ⟨hl, by simp only; omega, by simp only; omega⟩
theorem GoodCode.nil {n st : Nat} (h : st ≤ n) : GoodCode n st [] := ⟨by simpa using h, fun _ h => by cases h⟩

end Go.Proofs.Ytjbmflgamogefab
