/- Small laws on worlds. -/
import Derived.Test.YtjbmflgamogefabGreatMet
namespace Go.Proofs.YtjbmflgamogefabGreat
open Go.RowKit

theorem keep_ad {w1 : World} {o : Obj} : Below w1.heap.size w1 (w1.alloc o).drew := ((Below.refl _ _).alloc (Nat.le_refl _) _).drew
theorem keep_drew {w1 : World} : Below w1.heap.size w1 w1.drew := (Below.refl _ _).drew
theorem keep_alloc {w1 W : World} {o : Obj} {X : Prop} (h : Below w1.heap.size w1 W ∧ X) : Below w1.heap.size w1 (W.alloc o) := h.1.alloc h.1.size o
theorem keep_call {w1 W W' : World} {X : Prop} (hb : Below W.heap.size W W') (h : Below w1.heap.size w1 W ∧ X) : Below w1.heap.size w1 W' := h.1.trans (hb.mono h.1.size)
theorem keep_after {w1 W : World} {o : Obj} (hb : Below w1.drew.heap.size w1.drew W) : Below w1.heap.size w1 (W.alloc o) := by
  have h : Below w1.heap.size w1 W := (Below.refl _ _).drew.trans hb
  exact h.alloc h.size o
theorem keep_set {w1 W : World} {b o : Nat} {u : Value} {X : Prop} (h : Below w1.heap.size w1 W ∧ X) (hb : w1.heap.size ≤ b) : Below w1.heap.size w1 (W.setCell ⟨b, o, none⟩ u) := h.1.setCell hb u
theorem keep_set3 {w1 W : World} {b o o' o'' : Nat} {u u' u'' : Value} {X : Prop} (h : Below w1.heap.size w1 W ∧ X) (hb : w1.heap.size ≤ b) : Below w1.heap.size w1 (((W.setCell ⟨b, o, none⟩ u).setCell ⟨b, o', none⟩ u').setCell ⟨b, o'', none⟩ u'') := ((h.1.setCell hb u).setCell hb u').setCell hb u''
theorem bcell {W w1 : World} (hb : Below W.heap.size W w1) : (∀ b o, b < W.heap.size → w1.cell? ⟨b, o, none⟩ = W.cell? ⟨b, o, none⟩) ∧ (∀ b o, b < W.heap.size → w1.frozen? ⟨b, o, none⟩ = W.frozen? ⟨b, o, none⟩) :=
  ⟨fun b o h => hb.cell (p := ⟨b, o, none⟩) h, fun b o h => hb.frozen (p := ⟨b, o, none⟩) h⟩

theorem wrap_small {n : Int} (h : -4611686018427387904 ≤ n) (h' : n < 4611686018427387904) : IntKind.i64.wrap n = n := by
  have e1 : ((2 : Int) ^ IntKind.i64.bits) = 18446744073709551616 := by decide
  have e2 : ((2 : Int) ^ (IntKind.i64.bits - 1)) = 9223372036854775808 := by decide
  have e3 : IntKind.i64.signed = true := rfl
  unfold IntKind.wrap
  simp only [e1, e2, e3, Bool.true_and, decide_eq_true_eq]
  split <;> omega

theorem frozen_row {w : World} {g : Nat} {cs : Array Value} {t : TypeId} (h : w.heap[g]? = some (.cells cs t (0, 0))) (j : Nat) : w.frozen? ⟨g, j, none⟩ = false := by
  simp [World.frozen?, h]
/-- A block that is known whole: three cells stored into it. -/
theorem set3 {w : World} {g : Nat} {a b c x y z : Value} {t : TypeId} (h : w.heap[g]? = some (.cells #[a, b, c] t (0, 0))) :
    (((w.setCell ⟨g, 0, none⟩ x).setCell ⟨g, 1, none⟩ y).setCell ⟨g, 2, none⟩ z).heap[g]? = some (.cells #[x, y, z] t (0, 0)) := by
  have h1 := heap_setCell_same w g 0 _ t x h
  have h2 := heap_setCell_same _ g 1 _ t y h1
  have h3 := heap_setCell_same _ g 2 _ t z h2
  rw [h3]; rfl
theorem own_set_other {w : World} {base e size n : Nat} {v : Value} {xs : List Value} (h : w.ownsRow base e size v n xs) {g o : Nat} {u : Value} {cs : Array Value} {t : TypeId} {fr : Nat × Nat} (hg : w.heap[g]? = some (.cells cs t fr)) (hne : e ≠ t) : (w.setCell ⟨g, o, none⟩ u).ownsRow base e size v n xs := by
  refine ⟨h.1, ?_⟩
  rcases h.2 with h2 | ⟨g', cap, cur, hv, hb0, hgg, rest⟩
  · exact .inl h2
  · refine .inr ⟨g', cap, cur, hv, hb0, ?_, rest⟩
    rw [heap_setCell_other]; exact hgg
    intro e1
    simp only at e1
    subst e1
    rw [hg] at hgg
    simp only [Option.some.injEq, Obj.cells.injEq] at hgg
    exact hne hgg.2.1.symm

theorem cutA {w1 w' : World} {x y v2 : Value} {r2 : List Int} (hb : Below w1.drew.heap.size w1.drew w') (hi : IntsAt w' v2 r2) {W : World} (hW : W = w'.alloc (.cells #[x, y, v2] 118)) :
    w1.heap.size ≤ w'.heap.size ∧ W.heap[w'.heap.size]? = some (.cells #[x, y, v2] 118 (0, 0)) ∧ Below w1.heap.size w1 W ∧ IntsAt W v2 r2 := by
  subst hW
  have h : Below w1.heap.size w1 w' := (Below.refl _ _).drew.trans hb
  exact ⟨h.size, heap_alloc_new w' _, h.alloc h.size _, hi.below ((Below.refl _ _).alloc (Nat.le_refl _) _)⟩

theorem cutB {w1 w' : World} {x y v2 a b c : Value} {r2 : List Int} (hb : Below (w1.alloc (.cells #[a, b, c] 118)).drew.heap.size (w1.alloc (.cells #[a, b, c] 118)).drew w') (hi : IntsAt w' v2 r2)
    {W : World} (hW : W = ((w'.setCell ⟨w1.heap.size, 0, none⟩ x).setCell ⟨w1.heap.size, 1, none⟩ y).setCell ⟨w1.heap.size, 2, none⟩ v2) :
    w1.heap.size ≤ w1.heap.size ∧ W.heap[w1.heap.size]? = some (.cells #[x, y, v2] 118 (0, 0)) ∧ Below w1.heap.size w1 W ∧ IntsAt W v2 r2 := by
  have hz : (w1.alloc (.cells #[a, b, c] 118)).drew.heap.size = w1.heap.size + 1 := by simp
  have h0 : Below w1.heap.size w1 w' := keep_ad.trans (hb.mono (by omega))
  have hT : w'.heap[w1.heap.size]? = some (.cells #[a, b, c] 118 (0, 0)) := (hb.block w1.heap.size (by omega)).trans (heap_alloc_new w1 _)
  have hT3 := set3 (x := x) (y := y) (z := v2) hT
  subst hW
  refine ⟨Nat.le_refl _, hT3, ((h0.setCell (Nat.le_refl _) _).setCell (Nat.le_refl _) _).setCell (Nat.le_refl _) _, ?_⟩
  have k1 := heap_setCell_same w' w1.heap.size 0 _ _ x hT
  have k2 := heap_setCell_same _ w1.heap.size 1 _ _ y k1
  exact own_set_other (own_set_other (own_set_other hi hT (by decide)) k1 (by decide)) k2 (by decide)

/-- Three cells and what they are good for. -/
theorem three {w : World} {g : Nat} {x y z : Value} {t : TypeId} (h : w.heap[g]? = some (.cells #[x, y, z] t (0, 0))) :
    w.cell? ⟨g, 0, none⟩ = some x ∧ w.cell? ⟨g, 1, none⟩ = some y ∧ w.cell? ⟨g, 2, none⟩ = some z ∧ w.frozen? ⟨g, 0, none⟩ = false ∧ g < w.heap.size :=
  ⟨by rw [cell_of_row _ _ 0 _ _ _ h]; rfl, by rw [cell_of_row _ _ 1 _ _ _ h]; rfl, by rw [cell_of_row _ _ 2 _ _ _ h]; rfl, frozen_row h 0, (Array.getElem?_eq_some_iff.1 h).1⟩
theorem SpotsAt.set {w : World} {base : Nat} {v : Value} {L : List Sp} (h : SpotsAt w base v L) {T o : Nat} {u : Value} {cs : Array Value} {fr : Nat × Nat} (hT : w.heap[T]? = some (.cells cs 118 fr)) (hne : v.ownBlock ≠ some T) : SpotsAt (w.setCell ⟨T, o, none⟩ u) base v L := by
  obtain ⟨M, h1, h2, h3⟩ := h
  refine ⟨M, h1, ⟨h2.1, ?_⟩, fun m hm => own_set_other (h3 m hm) hT (by decide)⟩
  rcases h2.2 with h4 | ⟨g, cap, cur, hv, hb0, hgg, rest⟩
  · exact .inl h4
  · refine .inr ⟨g, cap, cur, hv, hb0, ?_, rest⟩
    rw [heap_setCell_other]; exact hgg
    intro e
    simp only at e
    subst e
    exact hne (by rw [hv]; rfl)

end Go.Proofs.YtjbmflgamogefabGreat
