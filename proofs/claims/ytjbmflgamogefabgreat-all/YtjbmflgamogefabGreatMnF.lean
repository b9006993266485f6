/- The reference's begin. -/
import Derived.Test.YtjbmflgamogefabGreatMnE
import Derived.Deep.CutRange
namespace Go.Proofs.YtjbmflgamogefabGreat
open Go.RowKit

def t4 : List Value := [.int .i64 0, .slice none 0 0, .int .u8 82, .int .i64 0]
def rthr : Nat → List Value
  | 0 => []
  | i + 1 => rthr i ++ t4
theorem rthr_len : ∀ i, (rthr i).length = i * 4
  | 0 => rfl
  | i + 1 => by rw [rthr, List.length_append, rthr_len i]; simp [t4]; omega
theorem rthr_get : ∀ (i k o : Nat), k < i → o < 4 → (rthr i)[k * 4 + o]? = t4[o]?
  | 0, k, o, h, _ => by omega
  | i + 1, k, o, h, ho => by
    rw [rthr]
    by_cases e : k = i
    · subst e
      rw [List.getElem?_append_right (by rw [rthr_len]; omega), rthr_len]
      congr 1; omega
    · rw [List.getElem?_append_left (by rw [rthr_len]; omega)]
      exact rthr_get i k o (by omega) ho
def zero8 : Array Value := #[.int .i64 0, .int .i64 0, .int .i64 0, .int .i64 0, .int .i64 0, .int .i64 0, .int .i64 0, .int .i64 0]
def nil4 : Array Value := #[.slice none 0 0, .slice none 0 0, .slice none 0 0, .slice none 0 0]
def ownA : Nat → Array Value
  | 0 => #[.int .i64 0, .int .i64 0, .int .i64 0, .int .i64 0]
  | j + 1 => (ownA j).setIfInBounds j (.int .i64 (-1))
theorem ownA_at {j : Nat} (h : j < 4) : (ownA j)[j]? = some (.int .i64 0) := by
  match j, h with
  | 0, _ => rfl
  | 1, _ => rfl
  | 2, _ => rfl
  | 3, _ => rfl
/-- The machine while it is made: b its block, the four blocks of its slices ahead of it; the first j owners are set, i threads laid, q in the queue. -/
structure NewR (w : World) (b c o bl wa : Nat) (wr : World) (cv tv qv : Value) (j i q : Nat) : Prop where
  eb : b = w.heap.size + 4 ∧ w.heap.size ≤ c ∧ w.heap.size ≤ o ∧ w.heap.size ≤ bl ∧ w.heap.size ≤ wa ∧ c < b ∧ o < b ∧ bl < b ∧ wa < b ∧ ¬ c = o ∧ ¬ bl = wa ∧ ¬ bl = o ∧ ¬ wa = o
  self : wr.heap[b]? = some (.cells #[cv, tv, qv, .slice (some ⟨c, 0, none⟩) 8 8, .slice (some ⟨o, 0, none⟩) 4 4, .slice (some ⟨bl, 0, none⟩) 4 4, .slice (some ⟨wa, 0, none⟩) 4 4, .string ⟨#[]⟩, .string ⟨#[]⟩, .string ⟨#[]⟩] 51 (0, 0))
  fix : wr.heap[c]? = some (.cells zero8 3 (0, 0)) ∧ wr.heap[o]? = some (.cells (ownA j) 3 (0, 0)) ∧ wr.heap[bl]? = some (.cells nil4 29 (0, 0)) ∧ wr.heap[wa]? = some (.cells nil4 29 (0, 0))
  row : wr.ownsRow (w.heap.size + 5) 89 4 tv i (rthr i)
  que : ∃ g, SlAt wr qv (castL (List.range q)) g ∧ ∀ x, g = some x → w.heap.size + 5 ≤ x
  bel : Below w.heap.size w wr
theorem NewR.fields {w wr : World} {b c o bl wa : Nat} {cv tv qv : Value} {j i q : Nat} (h : NewR w b c o bl wa wr cv tv qv j i q) : wr.cell? ⟨b, 1, none⟩ = some tv ∧ wr.cell? ⟨b, 2, none⟩ = some qv ∧ wr.cell? ⟨b, 4, none⟩ = some (.slice (some ⟨o, 0, none⟩) 4 4) ∧ (∀ x, wr.frozen? ⟨b, x, none⟩ = false) ∧ b < wr.heap.size :=
  ⟨by rw [cell_of_row _ _ 1 _ _ _ h.self]; rfl, by rw [cell_of_row _ _ 2 _ _ _ h.self]; rfl, by rw [cell_of_row _ _ 4 _ _ _ h.self]; rfl, frozen_row h.self, (Array.getElem?_eq_some_iff.1 h.self).1⟩
/-- An owner is set. -/
theorem NewR.own {w wr : World} {b c o bl wa : Nat} {cv tv qv : Value} {j i q : Nat} (h : NewR w b c o bl wa wr cv tv qv j i q) (hi : tv = .slice none 0 0 ∧ i = 0) (hq : qv = .slice none 0 0 ∧ q = 0) : NewR w b c o bl wa (wr.setCell ⟨o, j, none⟩ (.int .i64 (-1))) cv tv qv (j + 1) i q := by
  obtain ⟨f1, f2, f3, f4⟩ := h.fix
  have eb := h.eb
  obtain ⟨rfl, rfl⟩ := hi
  obtain ⟨rfl, rfl⟩ := hq
  exact ⟨eb, by rw [Below.heap_setCell _ _ _ _ (by simp only; omega)]; exact h.self,
    ⟨by rw [Below.heap_setCell _ _ _ _ (by simp only; omega)]; exact f1, heap_setCell_same wr _ j _ _ _ f2, by rw [Below.heap_setCell _ _ _ _ (by simp only; omega)]; exact f3, by rw [Below.heap_setCell _ _ _ _ (by simp only; omega)]; exact f4⟩,
    World.ownsRow_nil _ _ _ _, ⟨none, SlAt.nil _, fun _ h => by cases h⟩, h.bel.setCell (by simp only; omega) _⟩
/-- A thread is laid. -/
theorem NewR.thr {w wr w0 w1 : World} {b c o bl wa : Nat} {cv tv qv tv' : Value} {j i q : Nat} (h : NewR w b c o bl wa wr cv tv qv j i q) (h0 : Below wr.heap.size wr w0) (ha : w1.ownsRow (w.heap.size + 5) 89 4 tv' (i + 1) (rthr i ++ t4)) (hg : w0.grownBy w1 tv.ownBlock) :
    NewR w b c o bl wa (w1.setCell ⟨b, 1, none⟩ tv') cv tv' qv j (i + 1) q ∧ w1.cell? ⟨b, 1, none⟩ = some tv ∧ w1.frozen? ⟨b, 1, none⟩ = false := by
  obtain ⟨f1, f2, f3, f4⟩ := h.fix
  have eb := h.eb
  have r0 := own_below h.row h0
  have k : ∀ {x : Nat} {cs : Array Value} {t : TypeId}, wr.heap[x]? = some (.cells cs t (0, 0)) → ¬ t = 89 → w1.heap[x]? = some (.cells cs t (0, 0)) := fun {x cs t} hx hne => by
    have e0 := (h0.block x (Array.getElem?_eq_some_iff.1 hx).1).trans hx
    rw [hg.block x (Array.getElem?_eq_some_iff.1 e0).1 (row_ne r0 e0 hne)]; exact e0
  have s1 := k h.self (by decide)
  obtain ⟨g, q1, q2⟩ := h.que
  have q3 : SlAt w1 qv (castL (List.range q)) g := q1.kept (fun x hx => by
    rcases q1 with ⟨_, _, e⟩ | ⟨bb, off, cap, cur, _, e2, e3, _⟩
    · rw [e] at hx; cases hx
    · rw [e2] at hx; cases hx
      rw [k e3 (by decide), e3])
  have hB : Below w.heap.size w w1 := ⟨hg.os.trans (h0.os.trans h.bel.os), hg.tape.trans (h0.tape.trans h.bel.tape), hg.output.trans (h0.output.trans h.bel.output), Nat.le_trans h.bel.size (Nat.le_trans h0.size hg.size), fun x hx => by
    have z1 := h.bel.size
    have z2 := h0.size
    rw [hg.block x (by omega) (fun e => by have := row_low r0 x e.symm; omega), h0.block x (by omega), h.bel.block x hx]⟩
  refine ⟨⟨eb, ?_, ⟨?_, ?_, ?_, ?_⟩, ?_, ⟨g, q3.set_other s1 (by decide), q2⟩, hB.setCell (by simp only; omega) _⟩, by rw [cell_of_row _ _ 1 _ _ _ s1]; rfl, frozen_row s1 1⟩
  · rw [heap_setCell_same w1 b 1 _ _ _ s1]; rfl
  · rw [Below.heap_setCell _ _ _ _ (by simp only; omega)]; exact k f1 (by decide)
  · rw [Below.heap_setCell _ _ _ _ (by simp only; omega)]; exact k f2 (by decide)
  · rw [Below.heap_setCell _ _ _ _ (by simp only; omega)]; exact k f3 (by decide)
  · rw [Below.heap_setCell _ _ _ _ (by simp only; omega)]; exact k f4 (by decide)
  · rw [rthr]; exact own_set_other ha s1 (by decide)
/-- A thread stands in the queue. -/
theorem NewR.queue {w wr w0 w1 : World} {b c o bl wa : Nat} {cv tv qv qv' : Value} {j i q : Nat} {g g' : Option Nat} (h : NewR w b c o bl wa wr cv tv qv j i q) (hs : SlAt wr qv (castL (List.range q)) g) (hl : ∀ x, g = some x → w.heap.size + 5 ≤ x) (h0 : Below wr.heap.size wr w0) (ha : SlAt w1 qv' (castL (List.range q) ++ [(q : Int)]) g') (hg : w0.grownBy w1 g) (hf : g' = g ∨ ∃ x, g' = some x ∧ w0.heap.size ≤ x) :
    NewR w b c o bl wa (w1.setCell ⟨b, 2, none⟩ qv') cv tv qv' j i (q + 1) ∧ w1.cell? ⟨b, 2, none⟩ = some qv ∧ w1.frozen? ⟨b, 2, none⟩ = false := by
  obtain ⟨f1, f2, f3, f4⟩ := h.fix
  have eb := h.eb
  have q0 : SlAt w0 qv (castL (List.range q)) g := hs.kept (fun x hx => h0.block x (hs.lt x hx))
  have k : ∀ {x : Nat} {cs : Array Value} {t : TypeId}, wr.heap[x]? = some (.cells cs t (0, 0)) → (¬ t = 3 ∨ x < w.heap.size + 5) → w1.heap[x]? = some (.cells cs t (0, 0)) := fun {x cs t} hx hne => by
    have e0 := (h0.block x (Array.getElem?_eq_some_iff.1 hx).1).trans hx
    rw [hg.block x (Array.getElem?_eq_some_iff.1 e0).1 (by
      rcases hne with hne | hne
      · exact slot_ne q0 e0 hne
      · intro e; have := hl x e.symm; omega)]; exact e0
  have s1 := k h.self (.inl (by decide))
  have hB : Below w.heap.size w w1 := ⟨hg.os.trans (h0.os.trans h.bel.os), hg.tape.trans (h0.tape.trans h.bel.tape), hg.output.trans (h0.output.trans h.bel.output), Nat.le_trans h.bel.size (Nat.le_trans h0.size hg.size), fun x hx => by
    have z1 := h.bel.size
    have z2 := h0.size
    rw [hg.block x (by omega) (fun e => by have := hl x e.symm; omega), h0.block x (by omega), h.bel.block x hx]⟩
  have hbs := (Array.getElem?_eq_some_iff.1 h.self).1
  refine ⟨⟨eb, ?_, ⟨?_, ?_, ?_, ?_⟩, ?_, ⟨g', ?_, ?_⟩, hB.setCell (by simp only; omega) _⟩, by rw [cell_of_row _ _ 2 _ _ _ s1]; rfl, frozen_row s1 2⟩
  · rw [heap_setCell_same w1 b 2 _ _ _ s1]; rfl
  · rw [Below.heap_setCell _ _ _ _ (by simp only; omega)]; exact k f1 (.inr (by omega))
  · rw [Below.heap_setCell _ _ _ _ (by simp only; omega)]; exact k f2 (.inr (by omega))
  · rw [Below.heap_setCell _ _ _ _ (by simp only; omega)]; exact k f3 (.inl (by decide))
  · rw [Below.heap_setCell _ _ _ _ (by simp only; omega)]; exact k f4 (.inl (by decide))
  · have : w1.ownsRow (w.heap.size + 5) 89 4 tv i (rthr i) := by
      refine ⟨h.row.1, ?_⟩
      rcases h.row.2 with e | ⟨gg, cap, cur, e1, e2, e3, e4⟩
      · exact .inl e
      · exact .inr ⟨gg, cap, cur, e1, e2, k e3 (.inl (by decide)), e4⟩
    exact own_set_other this s1 (by decide)
  · have e : castL (List.range q) ++ [(q : Int)] = castL (List.range (q + 1)) := by simp [castL, List.range_succ]
    rw [← e]
    exact ha.set_other s1 (by decide)
  · intro x hx
    rcases hf with e | ⟨y, e, hy⟩
    · rw [e] at hx; exact hl x hx
    · rw [e] at hx; cases hx; have := h0.size; omega
def Y1 (b gt tcap : Nat) (cv qv : Value) (g : Option Nat) (c o bl wa : Nat) : Lay := ⟨b, gt, tcap, bl, wa, cv, fun i => if i = 0 then .slice (some ⟨c, 0, none⟩) 8 8 else if i = 1 then .slice (some ⟨o, 0, none⟩) 4 4 else if i = 2 then qv else .slice none 0 0, fun i => if i = 0 then some c else if i = 1 then some o else if i = 2 then g else none⟩
/-- The machine is made. -/
theorem NewR.done {w wr : World} {b c o bl wa : Nat} {cv tv qv : Value} {n : Nat} {cs : Cods} (h : NewR w b c o bl wa wr cv tv qv 4 n n) (hn : 0 < n) (hn4 : n ≤ 4) (hcv : CodP w.heap.size w cv cs) : ∃ Y, Y.b = b ∧ RM w.heap.size cs wr n Y (beginM n) ⟨#[]⟩ := by
  obtain ⟨f1, f2, f3, f4⟩ := h.fix
  have eb := h.eb
  obtain ⟨g, q1, q2⟩ := h.que
  rcases h.row.2 with ⟨_, e⟩ | ⟨gt, cap, cur, e1, e2, e3, e4, e5, e6, e7⟩
  · omega
  have hget : ∀ k x, k < n → x < 4 → cur[k * 4 + x]? = t4[x]? := fun k x hk ho => by
    have h1 := rthr_get n k x hk ho
    rw [← e7, List.getElem?_take] at h1
    rw [if_pos (by omega)] at h1
    rw [← h1]; simp
  refine ⟨Y1 b gt cap cv qv g c o bl wa, rfl, ⟨?_, ?_, ?_, ?_, by simp only [Y1]; omega, fun i hi => ?_, fun i j x hi hj x1 x2 => ?_⟩, fun j hj => ?_, h.bel.size, ?_⟩
  · rw [e1] at h; exact h.self
  · refine ⟨cur, e3, fun k hk => ⟨?_, ?_, ?_, ?_⟩⟩
    · have := hget k 0 hk (by omega); rw [Nat.add_zero] at this; rw [this]; rfl
    · rw [hget k 1 hk (by omega)]; simp only [Y1]; rw [if_neg (by omega), if_neg (by omega), if_neg (by omega)]; rfl
    · rw [hget k 2 hk (by omega)]; rfl
    · rw [hget k 3 hk (by omega)]; rfl
  · refine ⟨nil4, f3, fun l hl => ?_⟩
    match l, hl with
    | 0, _ | 1, _ | 2, _ | 3, _ => rfl
  · refine ⟨nil4, f4, fun l hl => ?_⟩
    match l, hl with
    | 0, _ | 1, _ | 2, _ | 3, _ => rfl
  · by_cases e0 : i = 0
    · subst e0
      refine .inr ⟨c, 0, 8, zero8, rfl, rfl, f1, Nat.le_refl _, Nat.le_refl _, fun j x hj => ?_⟩
      have hlt := (List.getElem?_eq_some_iff.1 hj).1
      rw [show (cont (beginM n) 0).length = 8 from rfl] at hlt
      rw [Nat.zero_add]
      match j, hlt, hj with
      | 0, _, hj | 1, _, hj | 2, _, hj | 3, _, hj | 4, _, hj | 5, _, hj | 6, _, hj | 7, _, hj => cases hj; rfl
    · by_cases e1 : i = 1
      · subst e1
        refine .inr ⟨o, 0, 4, ownA 4, rfl, rfl, f2, Nat.le_refl _, Nat.le_refl _, fun j x hj => ?_⟩
        have hlt := (List.getElem?_eq_some_iff.1 hj).1
        rw [show (cont (beginM n) 1).length = 4 from rfl] at hlt
        rw [Nat.zero_add]
        match j, hlt, hj with
        | 0, _, hj | 1, _, hj | 2, _, hj | 3, _, hj => cases hj; rfl
      · by_cases e2 : i = 2
        · subst e2; exact q1
        · simp only [Y1]
          rw [if_neg e0, if_neg e1, if_neg e2, if_neg e0, if_neg e1, if_neg e2]
          have ec : cont (beginM n) i = [] := by
            unfold cont beginM
            simp only [e0, e1, e2, if_false]
            repeat' split
            all_goals rfl
          rw [ec]
          exact SlAt.nil _
  · simp only [Y1] at x1 x2
    have hq : ∀ y, g = some y → w.heap.size + 5 ≤ y := q2
    by_cases a0 : i = 0
    · rw [if_pos a0] at x1
      by_cases b0 : j = 0
      · omega
      · rw [if_neg b0] at x2
        by_cases b1 : j = 1
        · rw [if_pos b1] at x2; simp at x1 x2; omega
        · rw [if_neg b1] at x2
          by_cases b2 : j = 2
          · rw [if_pos b2] at x2; have := hq x x2; simp at x1; omega
          · rw [if_neg b2] at x2; cases x2
    · rw [if_neg a0] at x1
      by_cases a1 : i = 1
      · rw [if_pos a1] at x1
        by_cases b0 : j = 0
        · rw [if_pos b0] at x2; simp at x1 x2; omega
        · rw [if_neg b0] at x2
          by_cases b1 : j = 1
          · omega
          · rw [if_neg b1] at x2
            by_cases b2 : j = 2
            · rw [if_pos b2] at x2; have := hq x x2; simp at x1; omega
            · rw [if_neg b2] at x2; cases x2
      · rw [if_neg a1] at x1
        by_cases a2 : i = 2
        · rw [if_pos a2] at x1
          have := hq x x1
          by_cases b0 : j = 0
          · rw [if_pos b0] at x2; simp at x2; omega
          · rw [if_neg b0] at x2
            by_cases b1 : j = 1
            · rw [if_pos b1] at x2; simp at x2; omega
            · rw [if_neg b1] at x2
              by_cases b2 : j = 2
              · omega
              · rw [if_neg b2] at x2; cases x2
        · rw [if_neg a2] at x1; cases x1
  · rcases hj with e | e | e | e | ⟨i, hi, e⟩
    · simp only [Y1] at e; omega
    · simp only [Y1] at e; omega
    · simp only [Y1] at e; omega
    · simp only [Y1] at e; omega
    · simp only [Y1] at e
      by_cases a0 : i = 0
      · rw [if_pos a0] at e; simp at e; omega
      · rw [if_neg a0] at e
        by_cases a1 : i = 1
        · rw [if_pos a1] at e; simp at e; omega
        · rw [if_neg a1] at e
          by_cases a2 : i = 2
          · rw [if_pos a2] at e; have := q2 j e; omega
          · rw [if_neg a2] at e; cases e
  · exact hcv.below h.bel

theorem five (w : World) (o0 o1 o2 o3 o4 : Obj) : let W := (((((w.alloc o0).alloc o1).alloc o2).alloc o3).alloc o4).drew
    W.heap[w.heap.size]? = some o0 ∧ W.heap[w.heap.size + 1]? = some o1 ∧ W.heap[w.heap.size + 2]? = some o2 ∧ W.heap[w.heap.size + 3]? = some o3 ∧ W.heap[w.heap.size + 4]? = some o4 ∧ Below w.heap.size w W := by
  have e1 : (w.alloc o0).heap.size = w.heap.size + 1 := by simp
  have e2 : ((w.alloc o0).alloc o1).heap.size = w.heap.size + 2 := by simp
  have e3 : (((w.alloc o0).alloc o1).alloc o2).heap.size = w.heap.size + 3 := by simp
  have e4 : ((((w.alloc o0).alloc o1).alloc o2).alloc o3).heap.size = w.heap.size + 4 := by simp
  have n0 : (w.alloc o0).heap[w.heap.size]? = some o0 := heap_alloc_new w o0
  have n1 : ((w.alloc o0).alloc o1).heap[w.heap.size + 1]? = some o1 := by rw [← e1]; exact heap_alloc_new _ _
  have n2 : (((w.alloc o0).alloc o1).alloc o2).heap[w.heap.size + 2]? = some o2 := by rw [← e2]; exact heap_alloc_new _ _
  have n3 : ((((w.alloc o0).alloc o1).alloc o2).alloc o3).heap[w.heap.size + 3]? = some o3 := by rw [← e3]; exact heap_alloc_new _ _
  have n4 : (((((w.alloc o0).alloc o1).alloc o2).alloc o3).alloc o4).heap[w.heap.size + 4]? = some o4 := by rw [← e4]; exact heap_alloc_new _ _
  have k : ∀ (W : World) (o : Obj) (j : Nat) (x : Obj), W.heap[j]? = some x → (W.alloc o).heap[j]? = some x := fun W o j x h => (((Below.refl W.heap.size W).alloc (Nat.le_refl _) o).block j (Array.getElem?_eq_some_iff.1 h).1).trans h
  exact ⟨k _ _ _ _ (k _ _ _ _ (k _ _ _ _ (k _ _ _ _ n0))), k _ _ _ _ (k _ _ _ _ (k _ _ _ _ n1)), k _ _ _ _ (k _ _ _ _ n2), k _ _ _ _ n3, n4, (((((((Below.refl _ _).alloc (Nat.le_refl _) _).alloc (by simp) _).alloc (by simp; omega) _).alloc (by simp; omega) _).alloc (by simp; omega) _).drew)⟩
theorem info_thrR : (Tryz.prog.info? 89).map (fun i => (i.zero, i.size, i.bytes)) = some (some (.agg #[.int .i64 0, .slice none 0 0, .int .u8 0, .int .i64 0]), 4, 48) := by kernel_rfl
theorem under_thrR : Tryz.prog.underlying 48 = some (.slice 89) := by kernel_rfl
theorem t4_one : ∀ u ∈ t4, u.oneCell' = true := by
  intro u hu
  simp only [t4, List.mem_cons, List.not_mem_nil, or_false] at hu
  rcases hu with rfl | rfl | rfl | rfl <;> rfl
theorem news4 (w : World) : ∀ j u, t4[j]? = some u → (w.alloc (.cells #[.int .i64 0, .slice none 0 0, .int .u8 82, .int .i64 0] 89)).cell? ((⟨w.heap.size, 0, none⟩ : Addr).add j) = some u :=
  World.news_of_block (cs := #[.int .i64 0, .slice none 0 0, .int .u8 82, .int .i64 0]) (heap_alloc_new w _)
theorem mk_z8 (w : World) : (Instr.makeSlice 29 (.int .i64 8) (.int .i64 8)).run Tryz.prog w = .ok (.slice (some ⟨w.heap.size, 0, none⟩) 8 8) (w.alloc (.cells zero8 3)) := by
  kernel_rfl
theorem mk_z4 (w : World) : (Instr.makeSlice 29 (.int .i64 4) (.int .i64 4)).run Tryz.prog w = .ok (.slice (some ⟨w.heap.size, 0, none⟩) 4 4) (w.alloc (.cells (ownA 0) 3)) := by
  kernel_rfl
theorem mk_n4 (w : World) : (Instr.makeSlice 49 (.int .i64 4) (.int .i64 4)).run Tryz.prog w = .ok (.slice (some ⟨w.heap.size, 0, none⟩) 4 4) (w.alloc (.cells nil4 29)) := by
  kernel_rfl

set_option maxRecDepth 100000 in
set_option maxHeartbeats 4000000 in
theorem r_begin (cs : Cods) (v : Value) (w : World) (hv : CodsAt w 0 v cs) (hn : 0 < cs.length) (hn4 : cs.length ≤ 4) :
    Calls Tryz.prog 29 #[v] w fun e w' => ∃ Y, e = .returned (.pointer (some ⟨Y.b, 0, none⟩)) ∧ RM w.heap.size cs w' cs.length Y (beginM cs.length) ⟨#[]⟩ ∧ Below w.heap.size w w' := by
  have HCP := hide hv.toP
  obtain ⟨ao, cap, rfl⟩ := hv.slice
  clear hv
  have m1 := mk_z8
  have m2 := mk_z4
  have m3 := mk_n4
  go_enter Tryz.func29, Tryz.ntmps29
  go_upto_region 1 with fail
  go_cut [3] from 4 to 13 (fun s W => ∃ b c o bl wa, s = .pointer (some ⟨b, 0, none⟩) ∧ NewR w b c o bl wa W (.slice ao cs.length cap) (.slice none 0 0) (.slice none 0 0) 0 0 0)
  case first =>
    go_region
    all_goals
      go_wp2_with fail
      go_meet
      obtain ⟨f0, f1, f2, f3, f4, f5⟩ := five w _ _ _ _ _
      exact ⟨_, _, _, _, _, rfl, ⟨by omega, f4, ⟨by first | exact f0 | exact f1 | exact f2 | exact f3, by first | exact f0 | exact f1 | exact f2 | exact f3, by first | exact f0 | exact f1 | exact f2 | exact f3, by first | exact f0 | exact f1 | exact f2 | exact f3⟩, World.ownsRow_nil _ _ _ _, ⟨none, SlAt.nil _, fun _ h => by cases h⟩, f5⟩⟩
  case rest =>
    obtain ⟨b, c, o, bl, wa, rfl, hN⟩ := hcut
    have HN0 := hide hN
    clear hN m1 m2 m3
    go_wp2_with fail
    go_loopw [4] (fun s wr => ∃ j : Nat, j ≤ 4 ∧ s = .int .i64 j ∧ NewR w b c o bl wa wr (.slice ao cs.length cap) (.slice none 0 0) (.slice none 0 0) j 0 0) (fun s _ => 4 - (intOf s).toNat)
    case atStart => exact ⟨0, Nat.zero_le _, rfl, HN0.out⟩
    case round =>
      obtain ⟨j, hj, rfl, hN⟩ := hrel
      by_cases hlt : j < 4
      · have hlt1 : (j : Int) < 4 := by omega
        obtain ⟨_, _, f4, _, fb⟩ := hN.fields
        have z0 : wr.cell? ⟨o, j, none⟩ = some (.int .i64 0) := by rw [cell_of_row _ _ _ _ _ _ hN.fix.2.1]; exact ownA_at hlt
        have z1 : wr.frozen? ⟨o, j, none⟩ = false := frozen_row hN.fix.2.1 j
        have HN2 := hide (hN.own ⟨rfl, rfl⟩ ⟨rfl, rfl⟩)
        clear hN HN0
        go_wp2_with fail
        go_roundw
        case rel => exact ⟨j + 1, by omega, by go_num, HN2.out⟩
        case measure => simp [intOf]; omega
      · obtain rfl : j = 4 := by omega
        have HN2 := hide hN
        clear hN HN0 hlt hj
        rw [show ((4 : Nat) : Int) = 4 from rfl]
        go_wp2_with fail
        go_loopw [5] (fun s wr => ∃ (i : Nat) (tv qv : Value), i ≤ cs.length ∧ s = .int .i64 i ∧ NewR w b c o bl wa wr (.slice ao cs.length cap) tv qv 4 i i) (fun s _ => cs.length - (intOf s).toNat)
        case atStart => exact ⟨0, _, _, Nat.zero_le _, rfl, HN2.out⟩
        case round =>
          obtain ⟨i, tv, qv, hi, rfl, hN⟩ := hrel
          by_cases hlt : i < cs.length
          · have hlt1 : (i : Int) < (cs.length : Int) := by omega
            obtain ⟨f1, f2, _, f3, fb⟩ := hN.fields
            have hsz : w.heap.size + 5 ≤ wr.heap.size := by have := hN.eb.1; omega
            obtain ⟨ta, tc, rfl⟩ := row_slice hN.row
            have HN3 := hide hN
            have hL : cs.length ≤ 4 := hn4
            obtain ⟨i0, hi0, hz0, hz1, hz2⟩ := info_parts info_thrR
            obtain ⟨j0, hj0, hy0, hy1, hy2⟩ := info_parts Tryz.info3
            clear hN HN2
            generalize hCL : cs.length = CL at *
            go_upto_region 10 with (at_builtin; go_loud (refine wpList_append_own _ rfl _ _ 48 rfl (w.heap.size + 5) 89 i0 _ 4 48 under_thrR hi0 hz0 hz1 hz2 rfl (by decide) _ _ _ rfl (own_below HN3.out.row ((Below.refl _ _).alloc (Nat.le_refl _) _)) ⟨wr.heap.size, 0, none⟩ 1 1 t4 rfl rfl (news4 _) t4_one (by unfold maxLen; omega) (by omega) (by simp; omega) ?_); intro v' w3 ha hgr _; obtain ⟨ta2, tc2, rfl⟩ := row_slice ha; obtain ⟨R1, y0, y1⟩ := HN3.out.thr ((Below.refl _ _).alloc (Nat.le_refl _) _) ha hgr; have HR1 := hide R1; clear ha hgr R1)
            generalize w3.setCell ⟨b, 1, none⟩ (.slice ta2 (i + 1) tc2) = w4 at *
            obtain ⟨_, g2, _, g3, gb⟩ := HR1.out.fields
            have g4 := g3 2
            obtain ⟨qg, hqs, hql⟩ := HR1.out.que
            have HQL := hide hql
            have HQS := hide hqs
            obtain ⟨qa, qc, rfl⟩ := hqs.slice
            rw [show (castL (List.range i)).length = i by simp [castL]] at *
            have HL : Hid ((castL (List.range i)).length ≤ 1000000) := by simp [castL, Hid]; omega
            clear y0 y1 f1 f2 f3 g3 hqs hql HN3 fb
            go_wp2_with (at_builtin; go_loud (refine wpList_append_sl _ rfl _ _ 29 rfl j0 Tryz.underlying29 hj0 hy0 hy1 hy2 _ (castL (List.range i)) qg rfl (HQS.out.kept (fun b hb => ((Below.refl _ _).alloc (Nat.le_refl _) _).block b (HQS.out.lt b hb))) ⟨w4.heap.size, 0, none⟩ 1 (i : Int) rfl (one_at rfl) HL.out ?_); intro v' w5 g' ha hgr hfr; obtain ⟨qa2, qc2, rfl⟩ := ha.slice; obtain ⟨R2, y0, y1⟩ := HR1.out.queue HQS.out HQL.out ((Below.refl _ _).alloc (Nat.le_refl _) _) ha hgr hfr; have HR2 := hide R2; clear ha hgr hfr R2)
            rw [List.length_append, List.length_singleton] at HR2
            go_roundw
            case rel => exact ⟨i + 1, _, _, by omega, by go_num, HR2.out⟩
            case measure => simp [intOf]; omega
          · obtain rfl : i = cs.length := by omega
            have hlt1 : ¬ (cs.length : Int) < (cs.length : Int) := by omega
            obtain ⟨Y, hY, hRM⟩ := hN.done hn hn4 HCP.out
            have HRM := hide hRM
            have HBE := hide hN.bel
            subst hY
            clear hN HN2 hRM
            go_wp2_with fail
            go_ret
            exact ⟨Y, rfl, HRM.out, HBE.out⟩

end Go.Proofs.YtjbmflgamogefabGreat
