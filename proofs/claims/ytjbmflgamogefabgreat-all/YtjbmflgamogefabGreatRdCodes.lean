/- green's readCodes. -/
import Derived.Test.YtjbmflgamogefabGreatIsProg
import Derived.Test.YtjbmflgamogefabGreatReach
import Derived.Test.YtjbmflgamogefabGreatPureA
namespace Go.Proofs.YtjbmflgamogefabGreat
open Go.RowKit


def gcCells : List ((Nat × List In) × Value) → List Value
  | [] => []
  | m :: t => .int .i64 (m.1.1 : Nat) :: m.2 :: gcCells t
theorem gcCells_get : ∀ (M : List ((Nat × List In) × Value)) (k : Nat) (m), M[k]? = some m → (gcCells M)[k * 2]? = some (.int .i64 (m.1.1 : Nat)) ∧ (gcCells M)[k * 2 + 1]? = some m.2
  | [], k, m, h => by simp at h
  | m' :: t, 0, m, h => by simp at h; subst h; exact ⟨rfl, rfl⟩
  | m' :: t, k + 1, m, h => by
    have := gcCells_get t k m (by simpa using h)
    have e : (k + 1) * 2 = k * 2 + 2 := by omega
    rw [e]; simpa [gcCells] using this
theorem gcCells_snoc (m : (Nat × List In) × Value) : ∀ M, gcCells (M ++ [m]) = gcCells M ++ [.int .i64 (m.1.1 : Nat), m.2]
  | [] => rfl
  | m' :: t => by simp [gcCells, gcCells_snoc m t]
def GCods (w : World) (base : Nat) (v : Value) (cs : Cods) : Prop :=
  ∃ M : List ((Nat × List In) × Value), M.map (·.1) = cs ∧ w.ownsRow base 91 2 v M.length (gcCells M) ∧ ∀ m ∈ M, GIns w m.2 m.1.2
theorem GCods.below {w w' : World} {base : Nat} {v : Value} {cs : Cods} (h : GCods w base v cs) (hb : Below w.heap.size w w') : GCods w' base v cs := by
  obtain ⟨M, h1, h2, h3⟩ := h
  exact ⟨M, h1, own_below h2 hb, fun m hm => (h3 m hm).below hb⟩
theorem GCods.slice {w : World} {base : Nat} {v : Value} {cs : Cods} (h : GCods w base v cs) : ∃ ao cap, v = .slice ao cs.length cap := by
  obtain ⟨M, rfl, h2, _⟩ := h
  obtain ⟨ao, cap, rfl⟩ := row_slice h2
  exact ⟨ao, cap, by simp⟩
theorem GCods.at {w : World} {base : Nat} {ao : Option Addr} {n cap : Nat} {cs : Cods} (h : GCods w base (.slice ao n cap) cs) {k : Nat} {st : Nat} {I : List In} (hk : cs[k]? = some (st, I)) :
    ∃ g lv, ao = some ⟨g, 0, none⟩ ∧ g < w.heap.size ∧ w.cell? ⟨g, k * 2, none⟩ = some (.int .i64 (st : Nat)) ∧ w.cell? ⟨g, k * 2 + 1, none⟩ = some lv ∧ GIns w lv I := by
  obtain ⟨M, rfl, h2, h3⟩ := h
  obtain ⟨m, hm, hmk⟩ : ∃ m, M[k]? = some m ∧ m.1 = (st, I) := by simpa using hk
  have hlt := (List.getElem?_eq_some_iff.1 hm).1
  obtain ⟨g, cap', hv, _, hg, hc⟩ := row_cell h2 (by omega)
  obtain ⟨g1, g2⟩ := gcCells_get M k m hm
  have h4 := h3 m (List.mem_of_getElem? hm)
  rw [hmk] at g1 h4
  simp only [Value.slice.injEq] at hv
  exact ⟨g, m.2, hv.1, hg, hc _ _ g1, hc _ _ g2, h4⟩

/-- The codes under way: those that are read, in the row v, their lists in blocks below E; the one at hand, in block X. -/
structure Under (w : World) (D X E : Nat) (M : List ((Nat × List In) × Value)) (v lv : Value) (st : Nat) (cur : List In) : Prop where
  row : w.ownsRow D 91 2 v M.length (gcCells M)
  lists : ∀ m ∈ M, GIns w m.2 m.1.2 ∧ ∀ b, m.2.ownBlock = some b → b < E
  own : w.ownsRow E 115 2 lv cur.length (giCells cur)
  DE : D ≤ E
  EE : E ≤ w.heap.size
  self : w.heap[X]? = some (.cells #[.int .i64 (st : Nat), lv] 91 (0, 0))
  far : v.ownBlock ≠ some X
  DX : D ≤ X

/-- A further instruction. -/
theorem Under.push {w W w1 : World} {D X E g m' cp : Nat} {M : List ((Nat × List In) × Value)} {v lv : Value} {st : Nat} {cur : List In} {c a : Int} (h : Under w D X E M v lv st cur) (hbW : Below w.heap.size w W)
    (ho : w1.ownsRow E 115 2 (.slice (some ⟨g, 0, none⟩) m' cp) (cur.length + 1) (giCells cur ++ [.int .u8 c, .int .i64 a])) (hg : W.grownBy w1 lv.ownBlock) :
    Under (w1.setCell ⟨X, 1, none⟩ (.slice (some ⟨g, 0, none⟩) m' cp)) D X E M v (.slice (some ⟨g, 0, none⟩) m' cp) st (cur ++ [(c, a)]) ∧ w1.cell? ⟨X, 1, none⟩ = some lv ∧ w1.frozen? ⟨X, 1, none⟩ = false ∧ (∀ D' w0, D' ≤ X → D' ≤ E → D' ≤ w.heap.size → Below D' w0 w → Below D' w0 (w1.setCell ⟨X, 1, none⟩ (.slice (some ⟨g, 0, none⟩) m' cp))) := by
  have hXl := heap_ltG h.self
  have hzW := hbW.size
  have n1 : some X ≠ lv.ownBlock := own_block_type h.own h.self (by decide)
  have s1 : w1.heap[X]? = some (.cells #[.int .i64 (st : Nat), lv] 91 (0, 0)) := by
    rw [hg.block X (by omega) n1, hbW.block X hXl]; exact h.self
  have hz : w1.heap.size = (w1.setCell ⟨X, 1, none⟩ (.slice (some ⟨g, 0, none⟩) m' cp)).heap.size := by simp [World.setCell]
  refine ⟨⟨?_, fun m hm => ⟨?_, (h.lists m hm).2⟩, ?_, h.DE, by have := hg.size; have := h.EE; omega, ?_, h.far, h.DX⟩, (twoG s1).2, frozen_row s1 1, ?_⟩
  · have k1 := own_grown_other (own_below h.row hbW) (own_below h.own hbW) (by decide) hg
    refine ⟨k1.1, ?_⟩
    rcases k1.2 with k2 | ⟨g2, cap, cu, hv, hb0, hgg, rest⟩
    · exact .inl k2
    · refine .inr ⟨g2, cap, cu, hv, hb0, ?_, rest⟩
      rw [Below.heap_setCell _ _ _ _ (by intro e; simp only at e; subst e; exact h.far (by rw [hv]; rfl))]; exact hgg
  · have k0 := own_below (h.lists m hm).1 hbW
    have k1 : w1.ownsRow 0 115 2 m.2 m.1.2.length (giCells m.1.2) := by
      refine k0.kept hg ?_
      cases hb : m.2.ownBlock with
      | none => exact .inl rfl
      | some b =>
        right
        intro e
        have q1 := (h.lists m hm).2 b hb
        have q2 := (h.own.lt b e.symm).1
        omega
    exact own_set_other k1 s1 (by decide)
  · rw [giCells_snoc, List.length_append]
    exact own_set_other ho s1 (by decide)
  · rw [heap_setCell_same w1 X 1 _ _ _ s1]; rfl
  · intro D' w0 d1 d2 d3 hb
    exact ((hb.trans (hbW.mono d3)).grown hg (by omega) (fun j hj => by have := (h.own.lt j hj).1; omega)).setCell d1 _
/-- The code at hand is laid down, and another one begun. -/
theorem Under.over {w W w1 : World} {D X E g m' cp st' : Nat} {M : List ((Nat × List In) × Value)} {v lv : Value} {st : Nat} {cur : List In} (h : Under w D X E M v lv st cur) (hbW : Below w.heap.size w W)
    (hown : w1.ownsRow D 91 2 (.slice (some ⟨g, 0, none⟩) m' cp) (M.length + 1) (gcCells M ++ [.int .i64 (st : Nat), lv])) (hg : W.grownBy w1 v.ownBlock) (hat : v.ownBlock = some g ∨ w.heap.size ≤ g) :
    Under ((w1.setCell ⟨X, 0, none⟩ (.int .i64 (st' : Nat))).setCell ⟨X, 1, none⟩ (.slice none 0 0)) D X w1.heap.size (M ++ [((st, cur), lv)]) (.slice (some ⟨g, 0, none⟩) m' cp) (.slice none 0 0) st' [] ∧ w1.heap[X]? = some (.cells #[.int .i64 (st : Nat), lv] 91 (0, 0)) ∧ GCods w1 D (.slice (some ⟨g, 0, none⟩) m' cp) ((M ++ [((st, cur), lv)]).map (·.1)) ∧
      (∀ D' w0, D' ≤ D → D' ≤ w.heap.size → Below D' w0 w → Below D' w0 w1) := by
  have hXl := heap_ltG h.self
  have hzW := hbW.size
  have s1 : w1.heap[X]? = some (.cells #[.int .i64 (st : Nat), lv] 91 (0, 0)) := by
    rw [hg.block X (by omega) (Ne.symm h.far), hbW.block X hXl]; exact h.self
  have hz : ((w1.setCell ⟨X, 0, none⟩ (.int .i64 (st' : Nat))).setCell ⟨X, 1, none⟩ (.slice none 0 0)).heap.size = w1.heap.size := by simp [World.setCell]
  have hgX : (Value.slice (some ⟨g, 0, none⟩) m' cp).ownBlock ≠ some X := by
    intro e
    have e' : g = X := by simpa [Value.ownBlock] using e
    subst e'
    rcases hat with h1 | h1
    · exact h.far h1
    · omega
  have lists : ∀ m ∈ M ++ [((st, cur), lv)], GIns w1 m.2 m.1.2 ∧ ∀ b, m.2.ownBlock = some b → b < w1.heap.size := by
    intro m hm
    rcases List.mem_append.1 hm with hm | hm
    · have k := own_grown_other (own_below (h.lists m hm).1 hbW) (own_below h.row hbW) (by decide) hg
      exact ⟨k, fun b hb => (k.lt b hb).2⟩
    · simp at hm; subst hm
      have k := own_grown_other (own_below h.own hbW) (own_below h.row hbW) (by decide) hg
      exact ⟨own_mono k (Nat.zero_le _), fun b hb => (k.lt b hb).2⟩
  have s2 := heap_setCell_same w1 X 0 _ _ (.int .i64 (st' : Nat)) s1
  have hrow : w1.ownsRow D 91 2 (.slice (some ⟨g, 0, none⟩) m' cp) (M ++ [((st, cur), lv)]).length (gcCells (M ++ [((st, cur), lv)])) := by
    rw [gcCells_snoc, List.length_append]; exact hown
  refine ⟨⟨?_, fun m hm => ⟨?_, (lists m hm).2⟩, World.ownsRow_nil _ _ _ _, by have := hg.size; have := h.DE; have := h.EE; omega, by rw [hz]; exact Nat.le_refl _, ?_, hgX, h.DX⟩, s1, ⟨M ++ [((st, cur), lv)], rfl, hrow, fun m hm => (lists m hm).1⟩, ?_⟩
  · refine ⟨hrow.1, ?_⟩
    rcases hrow.2 with k2 | ⟨g2, cap, cu, hv, hb0, hgg, rest⟩
    · exact .inl k2
    · have hne : g2 ≠ X := by intro e; subst e; exact hgX (by rw [hv]; rfl)
      refine .inr ⟨g2, cap, cu, hv, hb0, ?_, rest⟩
      rw [Below.heap_setCell _ _ _ _ hne, Below.heap_setCell _ _ _ _ hne]; exact hgg
  · exact own_set_other (own_set_other (lists m hm).1 s1 (by decide)) s2 (by decide)
  · rw [heap_setCell_same _ X 1 _ _ _ s2]; rfl
  · intro D' w0 d1 d2 hb
    exact (hb.trans (hbW.mono d2)).grown hg (by omega) (fun j hj => by have := (h.row.lt j hj).1; omega)

end Go.Proofs.YtjbmflgamogefabGreat
