/- The whole of Check (P3), plainly, as a relation that has one answer. -/
import Derived.Test.YtjbmflgamogefabParse
namespace Go.Proofs.Ytjbmflgamogefab

def toldF (st : Int) (x : Int × Nat) : Int × Int := if x.1 = 0 then (0, 0) else (x.1, st + 3 * x.2)
/-- The first instruction whose argument is not allowed, from place p of the text on. -/
def badIn (n : Int) : List In → Int → Option Int
  | [], _ => none
  | x :: t, p => if argOk x.1 x.2 n = true then badIn n t (p + 3) else some p
def badCods : Cods → Option Int
  | [] => none
  | x :: t => match badIn x.2.length x.2 x.1 with
    | some p => some p
    | none => badCods t
def Told (st : Int) (I : List In) (r : Int × Int) : Prop := ∃ L, IsAll I L ∧ r = toldF st (firstF I L (I.length + 1) 0)
theorem Told.unique {st : Int} {I : List In} {r r' : Int × Int} (h : Told st I r) (h' : Told st I r') : r = r' := by
  obtain ⟨L, hL, rfl⟩ := h
  obtain ⟨M, hM, rfl⟩ := h'
  rw [firstF_eq hL hM]
def ChkCods : Cods → Int × Int → Prop
  | [], r => r = (0, 0)
  | x :: t, r => ∃ q, Told x.1 x.2 q ∧ ((q.1 = 0 ∧ ChkCods t r) ∨ (¬ q.1 = 0 ∧ r = q))
theorem ChkCods.unique : ∀ {cs : Cods} {r r' : Int × Int}, ChkCods cs r → ChkCods cs r' → r = r'
  | [], r, r', h, h' => by rw [show r = (0, 0) from h, show r' = (0, 0) from h']
  | x :: t, r, r', h, h' => by
    obtain ⟨q, h1, h2⟩ := h
    obtain ⟨q', h1', h2'⟩ := h'
    have e := h1.unique h1'
    subst e
    rcases h2 with ⟨a, b⟩ | ⟨a, b⟩ <;> rcases h2' with ⟨a', b'⟩ | ⟨a', b'⟩
    · exact ChkCods.unique b b'
    · exact absurd a a'
    · exact absurd a' a
    · rw [b, b']
def CheckRel (T : List Int) (r : Int × Int) : Prop := if 400 < T.length then r = (1, 0) else match parse T with
  | .inl j => r = (2, (j : Int))
  | .inr cs => match badCods cs with
    | some p => r = (3, p)
    | none => ChkCods cs r
theorem CheckRel.unique {T : List Int} {r r' : Int × Int} (h : CheckRel T r) (h' : CheckRel T r') : r = r' := by
  unfold CheckRel at h h'
  split at h
  · rename_i hc
    rw [if_pos hc] at h'; rw [h, h']
  · rename_i hc
    rw [if_neg hc] at h'
    cases hp : parse T with
    | inl j => rw [hp] at h h'; simp only at h h'; rw [h, h']
    | inr cs =>
      rw [hp] at h h'
      simp only at h h'
      cases hb : badCods cs with
      | some p => rw [hb] at h h'; simp only at h h'; rw [h, h']
      | none => rw [hb] at h h'; exact ChkCods.unique h h'

theorem pcode_good : ∀ (m : Nat) (t : List Int) (cur cur' : List In) (n st i j : Nat), t.length ≤ m → t.length + i = n → GoodCode n st cur → i = st + 3 * cur.length → pcode t cur i = .inr (cur', j) → GoodCode n st cur' ∧ j = st + 3 * cur'.length ∧ j ≤ n
  | m, [], cur, cur', n, st, i, j, hm, hn, hg, hi, h => by
    simp only [pcode] at h
    split at h
    · cases h
    · cases h; exact ⟨hg, hi, by simp at hn; omega⟩
  | m, c :: [], cur, cur', n, st, i, j, hm, hn, hg, hi, h => by
    simp only [pcode] at h
    split at h
    · cases h; exact ⟨hg, hi, by simp at hn; omega⟩
    · split at h <;> cases h
  | m, c :: d :: [], cur, cur', n, st, i, j, hm, hn, hg, hi, h => by
    simp only [pcode] at h
    split at h
    · cases h; exact ⟨hg, hi, by simp at hn; omega⟩
    · split at h
      · cases h
      · split at h <;> cases h
  | 0, c :: d :: e :: t, cur, cur', n, st, i, j, hm, hn, hg, hi, h => by simp at hm
  | m + 1, c :: d :: e :: t, cur, cur', n, st, i, j, hm, hn, hg, hi, h => by
    simp only [pcode] at h
    split at h
    · cases h; exact ⟨hg, hi, by simp at hn; omega⟩
    · split at h
      · cases h
      · rename_i hl
        split at h
        · cases h
        · rename_i hd
          split at h
          · cases h
          · rename_i he
            simp only [List.length_cons] at hn hm
            exact pcode_good m t _ _ n st (i + 3) j (by omega) (by omega) (hg.snoc hi (by omega) (by simpa using hl) (by simpa using hd) (by simpa using he)) (by simp; omega) h
theorem pread_good (T : List Int) : ∀ (k : Nat) (acc cs : Cods) (i : Nat), i ≤ T.length → (∀ x ∈ acc, GoodCode T.length x.1 x.2) → pread T k acc i = .inr cs → ∀ x ∈ cs, GoodCode T.length x.1 x.2 := by
  intro k
  induction k with
  | zero =>
    intro acc cs i hi ha h
    rw [pread] at h
    cases hp : pcode (T.drop i) [] i with
    | inl j => rw [hp] at h; cases h
    | inr x =>
      obtain ⟨cur, j⟩ := x
      rw [hp] at h
      simp only at h
      have hg := pcode_good _ _ _ _ T.length i i j (Nat.le_refl _) (by rw [List.length_drop]; omega) (GoodCode.nil hi) (by simp) hp
      split at h
      · cases h
        intro x hx
        rcases List.mem_append.1 hx with hx | hx
        · exact ha x hx
        · simp at hx; subst hx; exact hg.1
      · cases h
  | succ k ih =>
    intro acc cs i hi ha h
    rw [pread] at h
    cases hp : pcode (T.drop i) [] i with
    | inl j => rw [hp] at h; cases h
    | inr x =>
      obtain ⟨cur, j⟩ := x
      rw [hp] at h
      simp only at h
      have hg := pcode_good _ _ _ _ T.length i i j (Nat.le_refl _) (by rw [List.length_drop]; omega) (GoodCode.nil hi) (by simp) hp
      have ha' : ∀ x ∈ acc ++ [(i, cur)], GoodCode T.length x.1 x.2 := by
        intro x hx
        rcases List.mem_append.1 hx with hx | hx
        · exact ha x hx
        · simp at hx; subst hx; exact hg.1
      split at h
      · cases h; exact ha'
      · rename_i hj
        exact ih _ _ _ (by omega) ha' h
theorem parse_good {T : List Int} {cs : Cods} (h : parse T = .inr cs) : ∀ x ∈ cs, GoodCode T.length x.1 x.2 := pread_good T 3 [] cs 0 (Nat.zero_le _) (fun x hx => by cases hx) h
theorem badIn_none {n : Int} : ∀ {I : List In} {p : Int}, badIn n I p = none → ∀ x ∈ I, argOk x.1 x.2 n = true
  | [], _, _, x, hx => by cases hx
  | y :: t, p, h, x, hx => by
    rw [badIn] at h
    split at h
    · rename_i hy
      rcases List.mem_cons.1 hx with rfl | hx
      · exact hy
      · exact badIn_none h x hx
    · cases h
theorem badCods_none : ∀ {cs : Cods}, badCods cs = none → ∀ x ∈ cs, badIn x.2.length x.2 x.1 = none
  | [], _, x, hx => by cases hx
  | y :: t, h, x, hx => by
    rw [badCods] at h
    split at h
    · cases h
    · rename_i hy
      rcases List.mem_cons.1 hx with rfl | hx
      · exact hy
      · exact badCods_none h x hx
theorem ok_of {T : List Int} {cs : Cods} (h : parse T = .inr cs) (hb : badCods cs = none) : ∀ x ∈ cs, OkCode x.2 := fun x hx y hy => by
  have h1 := (parse_good h x hx).2 y hy
  exact ⟨h1.2.1, h1.2.2, badIn_none (badCods_none hb x hx) y hy⟩
/-- Going on in the middle. -/
theorem badIn_drop {n : Int} {I : List In} {k : Nat} {x : In} {st : Int} (h : I[k]? = some x) : badIn n (I.drop k) (st + 3 * k) = if argOk x.1 x.2 n = true then badIn n (I.drop (k + 1)) (st + 3 * (k + 1 : Nat)) else some (st + 3 * k) := by
  obtain ⟨hk, rfl⟩ := List.getElem?_eq_some_iff.1 h
  rw [List.drop_eq_getElem_cons hk, badIn, show st + 3 * (k : Int) + 3 = st + 3 * ((k + 1 : Nat) : Int) from by omega]
theorem badCods_drop {cs : Cods} {k : Nat} {x : Nat × List In} (h : cs[k]? = some x) : badCods (cs.drop k) = match badIn x.2.length x.2 x.1 with
    | some p => some p
    | none => badCods (cs.drop (k + 1)) := by
  obtain ⟨hk, rfl⟩ := List.getElem?_eq_some_iff.1 h
  rw [List.drop_eq_getElem_cons hk, badCods]
/-- The loop over the codes, from code k on. -/
theorem chk_drop {cs : Cods} {k : Nat} {x : Nat × List In} {r : Int × Int} (h : cs[k]? = some x) : ChkCods (cs.drop k) r ↔ ∃ q, Told x.1 x.2 q ∧ ((q.1 = 0 ∧ ChkCods (cs.drop (k + 1)) r) ∨ (¬ q.1 = 0 ∧ r = q)) := by
  obtain ⟨hk, rfl⟩ := List.getElem?_eq_some_iff.1 h
  rw [List.drop_eq_getElem_cons hk]
  exact Iff.rfl

end Go.Proofs.Ytjbmflgamogefab
