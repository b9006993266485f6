/- What comes to be (P4): plain mathematics. No program is imported. -/
import Derived.Test.YtjbmflgamogefabPure
namespace Go.Proofs.Ytjbmflgamogefab

/-- A place, a height, a row of locks. -/
abbrev Sp := Int × Int × List Int
/-- An instruction: its letter, its argument. -/
abbrev In := Int × Int

def metL (L : List Sp) (s : Sp) : Bool := L.contains s
def addL (L : List Sp) (s : Sp) : List Sp := if metL L s then L else L ++ [s]
/-- What 'behind' gathers out of the old row, and the row behind the instruction. -/
def keptR (c : Int) (r : List Int) : List Int := if c == 82 then r.dropLast else r
def behindR (c a : Int) (r : List Int) : List Int := keptR c r ++ (if c == 65 then [a] else [])

/-- Where a path goes on from a spot: at the next place; at the argument. -/
def nxt (c a : Int) (s : Sp) : Sp := (s.1 + 1, s.2.1 - tk c + pt c, behindR c a s.2.2)
def jmp (c a : Int) (s : Sp) : Sp := (a, s.2.1 - tk c + pt c, behindR c a s.2.2)
def goesOn (c a : Int) (s : Sp) : Prop := wrg c a s.2.1 s.2.2 = 0 ∧ ¬ c = 88
/-- From s one comes to t. -/
def Step (I : List In) (s t : Sp) : Prop := ∃ c a, I[s.1.toNat]? = some (c, a) ∧ goesOn c a s ∧ ((¬ c = 74 ∧ t = nxt c a s) ∨ ((c = 74 ∨ c = 90) ∧ t = jmp c a s))
def s0 : Sp := (0, 0, [])
/-- The spot comes to be. -/
def Reach (I : List In) (s : Sp) : Prop := ∀ C : Sp → Prop, C s0 → (∀ s t, C s → Step I s t → C t) → C s
theorem Reach.first (I : List In) : Reach I s0 := fun _ h _ => h
theorem Reach.step {I : List In} {s t : Sp} (h : Reach I s) (ht : Step I s t) : Reach I t := fun C h0 h1 => h1 s t (h C h0 h1) ht

/-- The arguments are allowed. -/
def OkCode (I : List In) : Prop := ∀ x ∈ I, 0 ≤ x.2 ∧ x.2 < 100 ∧ argOk x.1 x.2 I.length = true
def Valid (n : Nat) (s : Sp) : Prop := 0 ≤ s.1 ∧ s.1 ≤ n ∧ 0 ≤ s.2.1 ∧ s.2.1 ≤ 6 ∧ OkRow s.2.2 ∧ s.2.2.Nodup

theorem wr_ok {c a h : Int} {r : List Int} (hw : wrg c a h r = 0) : stkBad c h = false ∧ lckBad c a r = false := by
  unfold wrg at hw
  cases h1 : stkBad c h with
  | true => rw [h1] at hw; simp at hw
  | false =>
    cases h2 : lckBad c a r with
    | true => rw [h1, h2] at hw; simp at hw
    | false => exact ⟨rfl, rfl⟩
theorem dropLast_ok {r : List Int} (h : OkRow r) : OkRow r.dropLast := fun l hl => h l ((List.dropLast_sublist r).subset hl)
theorem behind_ok {c a : Int} {r : List Int} (h1 : OkRow r) (h2 : r.Nodup) (hw : lckBad c a r = false) (ha : 0 ≤ a) (h4 : c = 65 → a < 4) : OkRow (behindR c a r) ∧ (behindR c a r).Nodup := by
  unfold behindR keptR
  by_cases hc : c = 65
  · subst hc
    have h5 : hasL r a = false := by simpa [lckBad] using hw
    have h6 : ¬ a ∈ r := by simpa [hasL] using h5
    refine ⟨?_, ?_⟩
    · simpa using h1.add ha (h4 rfl)
    · simp only [show ((65 : Int) == 82) = false from rfl, show ((65 : Int) == 65) = true from rfl, if_true, Bool.false_eq_true, if_false]
      rw [List.nodup_append]
      exact ⟨h2, by simp, fun x hx y hy => by simp at hy; subst hy; intro e; subst e; exact h6 hx⟩
  · by_cases h8 : c = 82
    · subst h8
      simp only [show ((82 : Int) == 82) = true from rfl, show ((82 : Int) == 65) = false from rfl, if_true, Bool.false_eq_true, if_false, List.append_nil]
      exact ⟨dropLast_ok h1, h2.sublist (List.dropLast_sublist r)⟩
    · simp [hc, h8, h1, h2]
theorem Valid.step {I : List In} {s t : Sp} (hI : OkCode I) (h : Valid I.length s) (ht : Step I s t) : Valid I.length t := by
  obtain ⟨c, a, hg, ⟨hw, hx⟩, ht⟩ := ht
  obtain ⟨v1, v2, v3, v4, v5, v6⟩ := h
  have hlt := (List.getElem?_eq_some_iff.1 hg).1
  have hm := hI _ (List.mem_of_getElem? hg)
  simp only at hm
  obtain ⟨m1, m2, m3⟩ := hm
  obtain ⟨w1, w2⟩ := wr_ok hw
  have hb := behind_ok (a := a) v5 v6 w2 m1 (fun hc => by subst hc; simpa [argOk] using m3)
  have hs : tk c ≤ s.2.1 ∧ s.2.1 - tk c + pt c ≤ 6 := by
    simp only [stkBad, Bool.or_eq_false_iff, decide_eq_false_iff_not] at w1
    omega
  have hp := pt_01 c
  rcases ht with ⟨_, rfl⟩ | ⟨hj, rfl⟩
  · exact ⟨by simp only [nxt]; omega, by simp only [nxt]; omega, by simp only [nxt]; omega, by simp only [nxt]; omega, hb.1, hb.2⟩
  · have : a < (I.length : Int) := by
      rcases hj with rfl | rfl
      · simpa [argOk] using m3
      · simpa [argOk] using m3
    exact ⟨by simp only [jmp]; omega, by simp only [jmp]; omega, by simp only [jmp]; omega, by simp only [jmp]; omega, hb.1, hb.2⟩
theorem Valid.first (n : Nat) : Valid n s0 := ⟨by simp [s0], by simp [s0], by simp [s0], by simp [s0], OkRow.nil, List.nodup_nil⟩
theorem Reach.valid {I : List In} (hI : OkCode I) {s : Sp} (h : Reach I s) : Valid I.length s := h _ (Valid.first _) (fun _ _ h1 h2 => h1.step hI h2)

/-- The number of a spot. -/
def idx (s : Sp) : Nat := ((s.1 * 625 + enc s.2.2) * 7 + s.2.1).toNat
theorem idx_int {n : Nat} {s : Sp} (h : Valid n s) : (idx s : Int) = (s.1 * 625 + enc s.2.2) * 7 + s.2.1 := by
  obtain ⟨v1, v2, v3, v4, v5, v6⟩ := h
  have := enc_625 _ v5 v6
  unfold idx; omega
theorem idx_lt {n : Nat} {s : Sp} (h : Valid n s) : idx s < (n + 1) * 625 * 7 := by
  have h1 := idx_int h
  obtain ⟨v1, v2, v3, v4, v5, v6⟩ := h
  have := enc_625 _ v5 v6
  omega
theorem idx_inj {n : Nat} {s t : Sp} (h : Valid n s) (k : Valid n t) (e : idx s = idx t) : s = t := by
  have h1 := idx_int h
  have h2 := idx_int k
  obtain ⟨v1, v2, v3, v4, v5, v6⟩ := h
  obtain ⟨x1, x2, x3, x4, x5, x6⟩ := k
  have := enc_625 _ v5 v6
  have := enc_625 _ x5 x6
  have e1 : s.1 = t.1 := by omega
  have e2 : s.2.1 = t.2.1 := by omega
  have e3 : enc s.2.2 = enc t.2.2 := by omega
  have e4 := enc_inj _ _ v5 x5 e3
  exact Prod.ext e1 (Prod.ext e2 e4)
theorem map_nodup {L : List Sp} {n : Nat} (hn : L.Nodup) (hv : ∀ s ∈ L, Valid n s) : (L.map idx).Nodup := by
  induction L with
  | nil => exact List.nodup_nil
  | cons a L ih =>
    obtain ⟨h1, h2⟩ := List.nodup_cons.1 hn
    rw [List.map_cons, List.nodup_cons]
    refine ⟨fun hm => ?_, ih h2 (fun s hs => hv s (by simp [hs]))⟩
    obtain ⟨b, hb, e⟩ := List.mem_map.1 hm
    have := idx_inj (hv b (by simp [hb])) (hv a (by simp)) e
    subst this; exact h1 hb
theorem len_bd {L : List Sp} {n : Nat} (hn : L.Nodup) (hv : ∀ s ∈ L, Valid n s) : L.length ≤ (n + 1) * 625 * 7 := by
  have h1 := nodup_len (L.map idx) (List.range ((n + 1) * 625 * 7)) (map_nodup hn hv) (fun x hx => by
    obtain ⟨s, hs, rfl⟩ := List.mem_map.1 hx
    exact List.mem_range.2 (idx_lt (hv s hs)))
  simpa using h1

theorem metL_iff {L : List Sp} {s : Sp} : metL L s = true ↔ s ∈ L := by simp [metL]
theorem mem_addL {L : List Sp} {s t : Sp} : t ∈ addL L s ↔ t ∈ L ∨ t = s := by
  unfold addL
  cases h : metL L s with
  | true => have := metL_iff.1 h; simp; intro e; subst e; exact this
  | false => simp
theorem addL_nodup {L : List Sp} {s : Sp} (h : L.Nodup) : (addL L s).Nodup := by
  unfold addL
  cases hm : metL L s with
  | true => simpa using h
  | false =>
    have : ¬ s ∈ L := fun hx => by rw [metL_iff.2 hx] at hm; cases hm
    simp only [Bool.false_eq_true, if_false]
    rw [List.nodup_append]
    exact ⟨h, by simp, fun x hx y hy => by simp at hy; subst hy; intro e; subst e; exact this hx⟩
theorem addL_get {L : List Sp} {s x : Sp} {k : Nat} (h : L[k]? = some x) : (addL L s)[k]? = some x := by
  unfold addL
  have := (List.getElem?_eq_some_iff.1 h).1
  split
  · exact h
  · rw [List.getElem?_append_left this]; exact h
theorem addL_len {L : List Sp} {s : Sp} : L.length ≤ (addL L s).length := by unfold addL; split <;> simp

/-- A walk under way: the list so far, of which the first i have been gone on from. -/
structure Walking (I : List In) (L : List Sp) (i : Nat) : Prop where
  nodup : L.Nodup
  first : s0 ∈ L
  reach : ∀ s ∈ L, Reach I s
  done : ∀ k s t, k < i → L[k]? = some s → Step I s t → t ∈ L
  le : i ≤ L.length
theorem Walking.start (I : List In) : Walking I [s0] 0 := ⟨by simp, by simp, fun s hs => by simp at hs; subst hs; exact Reach.first I, fun k _ _ h => by omega, by simp⟩
theorem Walking.add {I : List In} {L : List Sp} {i : Nat} (h : Walking I L i) {s t : Sp} (hs : s ∈ L) (ht : Step I s t) : Walking I (addL L t) i where
  nodup := addL_nodup h.nodup
  first := mem_addL.2 (.inl h.first)
  reach := fun x hx => by
    rcases mem_addL.1 hx with hx | rfl
    · exact h.reach x hx
    · exact (h.reach s hs).step ht
  done := fun k x y hk hx hy => by
    have h1 : L[k]? = some x := by
      have : k < L.length := Nat.lt_of_lt_of_le hk h.le
      have h2 := addL_get (s := t) (List.getElem?_eq_getElem this)
      rw [h2] at hx
      rw [List.getElem?_eq_getElem this]; exact hx
    exact mem_addL.2 (.inl (h.done k x y hk h1 hy))
  le := Nat.le_trans h.le addL_len
theorem Walking.next {I : List In} {L : List Sp} {i : Nat} (h : Walking I L i) {s : Sp} (hs : L[i]? = some s) (ht : ∀ t, Step I s t → t ∈ L) : Walking I L (i + 1) where
  nodup := h.nodup
  first := h.first
  reach := h.reach
  done := fun k x y hk hx hy => by
    by_cases e : k = i
    · subst e; rw [hs] at hx; cases hx; exact ht y hy
    · exact h.done k x y (by omega) hx hy
  le := (List.getElem?_eq_some_iff.1 hs).1
theorem Walking.over {I : List In} {L : List Sp} {k : Nat} {s : Sp} {c a : Int} (h : Walking I L k) (hs : L[k]? = some s) (hc : I[s.1.toNat]? = some (c, a)) (hn : ¬ c = 74 → nxt c a s ∈ L) (hj : (c = 74 ∨ c = 90) → jmp c a s ∈ L) : Walking I L (k + 1) :=
  h.next hs (fun t ht => by
    obtain ⟨c', a', hc', _, ht⟩ := ht
    rw [hc] at hc'
    cases hc'
    rcases ht with ⟨h1, rfl⟩ | ⟨h1, rfl⟩
    · exact hn h1
    · exact hj h1)
/-- All that comes to be, each once. -/
def IsAll (I : List In) (L : List Sp) : Prop := L.Nodup ∧ ∀ s, s ∈ L ↔ Reach I s
theorem Walking.all {I : List In} {L : List Sp} (h : Walking I L L.length) : IsAll I L := by
  refine ⟨h.nodup, fun s => ⟨h.reach s, fun hs => hs (· ∈ L) h.first (fun x y hx hy => ?_)⟩⟩
  obtain ⟨k, hk⟩ := List.getElem?_of_mem hx
  exact h.done k x y (List.getElem?_eq_some_iff.1 hk).1 hk hy
theorem Walking.valid {I : List In} {L : List Sp} {i : Nat} (hI : OkCode I) (h : Walking I L i) : ∀ s ∈ L, Valid I.length s := fun s hs => (h.reach s hs).valid hI
theorem Walking.bd {I : List In} {L : List Sp} {i : Nat} (hI : OkCode I) (h : Walking I L i) : L.length ≤ (I.length + 1) * 625 * 7 := len_bd h.nodup (h.valid hI)

/-- Two lists of all that comes to be have, of a place, equally many; and where it is one, the same one. -/
theorem filter_len_le {I : List In} {L M : List Sp} (hL : IsAll I L) (hM : IsAll I M) (f : Sp → Bool) : (L.filter f).length ≤ (M.filter f).length :=
  nodup_len _ _ (hL.1.sublist List.filter_sublist) (fun x hx => by
    rw [List.mem_filter] at hx ⊢
    exact ⟨(hM.2 x).2 ((hL.2 x).1 hx.1), hx.2⟩)
theorem filter_len {I : List In} {L M : List Sp} (hL : IsAll I L) (hM : IsAll I M) (f : Sp → Bool) : (L.filter f).length = (M.filter f).length :=
  Nat.le_antisymm (filter_len_le hL hM f) (filter_len_le hM hL f)
theorem filter_one {I : List In} {L M : List Sp} (hL : IsAll I L) (hM : IsAll I M) (f : Sp → Bool) {s : Sp} (h : L.filter f = [s]) : M.filter f = [s] := by
  have h1 := filter_len hL hM f
  rw [h] at h1
  obtain ⟨t, ht⟩ := List.length_eq_one_iff.1 h1.symm
  have hs : s ∈ L.filter f := by rw [h]; simp
  rw [List.mem_filter] at hs
  have : s ∈ M.filter f := List.mem_filter.2 ⟨(hM.2 s).2 ((hL.2 s).1 hs.1), hs.2⟩
  rw [ht] at this ⊢
  simp at this; rw [this]

end Go.Proofs.Ytjbmflgamogefab
