/- Lists of spots in package greenref: met, with. -/
import Derived.Test.YtjbmflgamogefabLeafS
namespace Go.Proofs.Ytjbmflgamogefab
open Go.RowKit

def spCells : List (Sp × Value) → List Value
  | [] => []
  | m :: t => .int .i64 m.1.1 :: .int .i64 m.1.2.1 :: m.2 :: spCells t
theorem spCells_len : ∀ M : List (Sp × Value), (spCells M).length = M.length * 3
  | [] => rfl
  | m :: t => by simp only [spCells, List.length_cons, spCells_len t]; omega
theorem spCells_get : ∀ (M : List (Sp × Value)) (k : Nat) (m : Sp × Value), M[k]? = some m →
    (spCells M)[k * 3]? = some (.int .i64 m.1.1) ∧ (spCells M)[k * 3 + 1]? = some (.int .i64 m.1.2.1) ∧ (spCells M)[k * 3 + 2]? = some m.2
  | [], k, m, h => by simp at h
  | m' :: t, 0, m, h => by simp at h; subst h; exact ⟨rfl, rfl, rfl⟩
  | m' :: t, k + 1, m, h => by
    have := spCells_get t k m (by simpa using h)
    have e : (k + 1) * 3 = k * 3 + 3 := by omega
    rw [e]; simpa [spCells] using this
theorem spCells_snoc (m : Sp × Value) : ∀ M : List (Sp × Value), spCells (M ++ [m]) = spCells M ++ [.int .i64 m.1.1, .int .i64 m.1.2.1, m.2]
  | [] => rfl
  | m' :: t => by simp [spCells, spCells_snoc m t]

theorem row_cell {w : World} {base e size n : Nat} {v : Value} {xs : List Value} (h : w.ownsRow base e size v n xs) (hn : 0 < n) :
    ∃ g cap, v = .slice (some ⟨g, 0, none⟩) n cap ∧ base ≤ g ∧ g < w.heap.size ∧ ∀ k x, xs[k]? = some x → w.cell? ⟨g, k, none⟩ = some x := by
  rcases h.2 with ⟨rfl, h0⟩ | ⟨g, cap, cur, hv, hb, hg, _, _, hs, ht⟩
  · omega
  · refine ⟨g, cap, hv, hb, (Array.getElem?_eq_some_iff.1 hg).1, fun k x hk => ?_⟩
    rw [cell_of_row w g k cur _ (0, 0) hg]
    rw [← ht, List.getElem?_take] at hk
    split at hk
    · simpa using hk
    · cases hk
theorem row_slice {w : World} {base e size n : Nat} {v : Value} {xs : List Value} (h : w.ownsRow base e size v n xs) : ∃ ao cap, v = .slice ao n cap := by
  rcases h.2 with ⟨rfl, rfl⟩ | ⟨g, cap, cur, hv, _⟩
  · exact ⟨none, 0, rfl⟩
  · exact ⟨_, cap, hv⟩
theorem own_below {w w' : World} {base e size n : Nat} {v : Value} {xs : List Value} (h : w.ownsRow base e size v n xs) (hb : Below w.heap.size w w') : w'.ownsRow base e size v n xs := by
  refine ⟨h.1, ?_⟩
  rcases h.2 with h2 | ⟨g, cap, cur, hv, hb0, hg, rest⟩
  · exact .inl h2
  · exact .inr ⟨g, cap, cur, hv, hb0, by rw [hb.block g (Array.getElem?_eq_some_iff.1 hg).1]; exact hg, rest⟩
theorem metL_drop {L : List Sp} {s x : Sp} {k : Nat} (h : L[k]? = some x) : metL (L.drop k) s = (s == x || metL (L.drop (k + 1)) s) := by
  obtain ⟨hk, rfl⟩ := List.getElem?_eq_some_iff.1 h
  rw [List.drop_eq_getElem_cons hk]
  simp only [metL, List.contains_cons]

theorem sp_eq (s : Sp) (b : Bool) : (s == s || b) = true := by simp
theorem sp_ne {s x : Sp} (b : Bool) (h : ¬ s = x) : (s == x || b) = b := by simp [h]

theorem grown_of_below {w w' : World} (row : Option Nat) (h : Below w.heap.size w w') : w.grownBy w' row := ⟨h.os, h.tape, h.output, h.size, fun k hk _ => h.block k hk⟩
theorem grown_trans {a b c : World} {row : Option Nat} (h : a.grownBy b row) (k : b.grownBy c row) : a.grownBy c row :=
  ⟨k.os.trans h.os, k.tape.trans h.tape, k.output.trans h.output, Nat.le_trans h.size k.size, fun i hi hr => (k.block i (Nat.lt_of_lt_of_le hi h.size) hr).trans (h.block i hi hr)⟩
/-- A row of another element type than the row that is written stays. -/
theorem own_grown_other {w w' : World} {base base' e e' size size' n n' : Nat} {v v' : Value} {xs xs' : List Value} (h : w.ownsRow base e size v n xs) (h' : w.ownsRow base' e' size' v' n' xs') (hne : e ≠ e') (hg : w.grownBy w' v'.ownBlock) : w'.ownsRow base e size v n xs := by
  refine ⟨h.1, ?_⟩
  rcases h.2 with h2 | ⟨g, cap, cur, hv, hb0, hgg, rest⟩
  · exact .inl h2
  · refine .inr ⟨g, cap, cur, hv, hb0, ?_, rest⟩
    rw [hg.block g (Array.getElem?_eq_some_iff.1 hgg).1 ?_]; exact hgg
    intro hx
    rcases h'.2 with ⟨rfl, _⟩ | ⟨g', cap', cur', rfl, _, hgg', _⟩
    · simp [Value.ownBlock] at hx
    · simp only [Value.ownBlock, Option.some.injEq] at hx
      subst hx
      rw [hgg] at hgg'
      simp only [Option.some.injEq, Obj.cells.injEq] at hgg'
      exact hne hgg'.2.1
theorem news3 (w : World) (a b c : Value) (t : TypeId) : ∀ j u, [a, b, c][j]? = some u → (w.alloc (.cells #[a, b, c] t)).cell? ((⟨w.heap.size, 0, none⟩ : Addr).add j) = some u :=
  World.news_of_block (cs := #[a, b, c]) (heap_alloc_new w _)
theorem news2 (w : World) (a b : Value) (t : TypeId) : ∀ j u, [a, b][j]? = some u → (w.alloc (.cells #[a, b] t)).cell? ((⟨w.heap.size, 0, none⟩ : Addr).add j) = some u :=
  World.news_of_block (cs := #[a, b]) (heap_alloc_new w _)

end Go.Proofs.Ytjbmflgamogefab
