/- greenref's spots: all that comes to be. -/
import Derived.Test.YtjbmflgamogefabMem
import Derived.Deep.CutRange
namespace Go.Proofs.Ytjbmflgamogefab
open Go.RowKit

/-- The cells of a code's instructions, the first of which stands at st. -/
def inCells : Int → List In → List Value
  | _, [] => []
  | st, x :: t => .int .u8 x.1 :: .int .i64 x.2 :: .int .i64 st :: inCells (st + 3) t
theorem inCells_len : ∀ (I : List In) (st : Int), (inCells st I).length = I.length * 3
  | [], _ => rfl
  | x :: t, st => by simp only [inCells, List.length_cons, inCells_len t]; omega
theorem inCells_get : ∀ (I : List In) (st : Int) (k : Nat) (x : In), I[k]? = some x →
    (inCells st I)[k * 3]? = some (.int .u8 x.1) ∧ (inCells st I)[k * 3 + 1]? = some (.int .i64 x.2) ∧ (inCells st I)[k * 3 + 2]? = some (.int .i64 (st + 3 * k))
  | [], _, k, x, h => by simp at h
  | y :: t, st, 0, x, h => by simp at h; subst h; exact ⟨rfl, rfl, by simp [inCells]⟩
  | y :: t, st, k + 1, x, h => by
    have := inCells_get t (st + 3) k x (by simpa using h)
    have e : (k + 1) * 3 = k * 3 + 3 := by omega
    have e2 : st + 3 * ((k + 1 : Nat) : Int) = st + 3 + 3 * (k : Int) := by omega
    rw [e, e2]; simpa [inCells] using this
theorem inCells_snoc (x : In) : ∀ (I : List In) (st : Int), inCells st (I ++ [x]) = inCells st I ++ [.int .u8 x.1, .int .i64 x.2, .int .i64 (st + 3 * I.length)]
  | [], st => by simp [inCells]
  | y :: t, st => by
    have e2 : st + 3 * ((t.length + 1 : Nat) : Int) = st + 3 + 3 * (t.length : Int) := by omega
    simp only [List.cons_append, inCells, inCells_snoc x t, List.length_cons, e2]
def InsAt (w : World) (v : Value) (st : Int) (I : List In) : Prop := w.ownsRow 0 74 3 v I.length (inCells st I)
theorem InsAt.below {w w' : World} {v : Value} {st : Int} {I : List In} (h : InsAt w v st I) (hb : Below w.heap.size w w') : InsAt w' v st I := own_below h hb
theorem InsAt.at {w : World} {ao : Option Addr} {n cap : Nat} {st : Int} {I : List In} (h : InsAt w (.slice ao n cap) st I) {k : Nat} {c a : Int} (hk : I[k]? = some (c, a)) :
    ∃ g, ao = some ⟨g, 0, none⟩ ∧ g < w.heap.size ∧ w.cell? ⟨g, k * 3, none⟩ = some (.int .u8 c) ∧ w.cell? ⟨g, k * 3 + 1, none⟩ = some (.int .i64 a) ∧ w.cell? ⟨g, k * 3 + 2, none⟩ = some (.int .i64 (st + 3 * k)) := by
  have hlt := (List.getElem?_eq_some_iff.1 hk).1
  obtain ⟨g, cap', hv, _, hg, hc⟩ := row_cell h (by omega)
  obtain ⟨g1, g2, g3⟩ := inCells_get I st k _ hk
  simp only [Value.slice.injEq] at hv
  exact ⟨g, hv.1, hg, hc _ _ g1, hc _ _ g2, hc _ _ g3⟩

end Go.Proofs.Ytjbmflgamogefab
