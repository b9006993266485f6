/- Rows of locks in package greenref: last, sameRow, wrong, behind. -/
import Derived.Test.YtjbmflgamogefabLeafR
namespace Go.Proofs.Ytjbmflgamogefab
open Go.RowKit

theorem IntsAt.view2 {w : World} {v : Value} {r : List Int} (h : IntsAt w v r) :
    ∃ ao cap, v = .slice ao r.length cap ∧ ∀ k x, r[k]? = some x → ∃ g, ao = some ⟨g, 0, none⟩ ∧ g < w.heap.size ∧ w.cell? ⟨g, k, none⟩ = some (.int .i64 x) := by
  rcases h.view with ⟨rfl, rfl⟩ | ⟨g, cap, rfl, hg, hc⟩
  · exact ⟨none, 0, rfl, fun k x hk => by simp at hk⟩
  · exact ⟨some ⟨g, 0, none⟩, cap, rfl, fun k x hk => ⟨g, rfl, hg, hc k x hk⟩⟩

theorem beq_drop {r s : List Int} {k : Nat} {x y : Int} (h : r[k]? = some x) (h' : s[k]? = some y) : (r.drop k == s.drop k) = (x == y && r.drop (k + 1) == s.drop (k + 1)) := by
  obtain ⟨hk, rfl⟩ := List.getElem?_eq_some_iff.1 h
  obtain ⟨hk', rfl⟩ := List.getElem?_eq_some_iff.1 h'
  rw [List.drop_eq_getElem_cons hk, List.drop_eq_getElem_cons hk']
  rfl
def sameR (r s : List Int) : Bool := r == s

theorem own_mono {w : World} {base base' : Nat} {e : TypeId} {size : Nat} {v : Value} {n : Nat} {xs : List Value} (h : w.ownsRow base e size v n xs) (hb : base' ≤ base) : w.ownsRow base' e size v n xs := by
  refine ⟨h.1, ?_⟩
  rcases h.2 with h2 | ⟨g, cap, cur, hv, hb0, rest⟩
  · exact .inl h2
  · exact .inr ⟨g, cap, cur, hv, by omega, rest⟩

theorem cell_new (w : World) (cs : Array Value) (t : TypeId) (j : Nat) : (w.alloc (.cells cs t)).cell? ⟨w.heap.size, j, none⟩ = cs[j]? := by
  rw [cell_of_row _ w.heap.size j cs t (0, 0) (heap_alloc_new w _)]
theorem behind_step {w wr w1 : World} {B : Nat} {t : List Int} {o v' : Value} {u x : Value} {y : Int} {e : TypeId} (hown' : w1.ownsRow (B + 1) 3 1 v' (t.length + 1) (t.map (Value.int .i64) ++ [.int .i64 y]))
    (hown : wr.ownsRow (B + 1) 3 1 o t.length (t.map (Value.int .i64)))
    (hgrow : (wr.alloc (.cells #[x] e)).grownBy w1 o.ownBlock) (hbel : Below (B + 1) w wr) (hB : B + 1 ≤ wr.heap.size) (_hu : u = x) :
    w1.ownsRow (B + 1) 3 1 v' (t ++ [y]).length ((t ++ [y]).map (Value.int .i64)) ∧ Below (B + 1) w w1 :=
  ⟨by simpa using hown', (hbel.alloc hB _).grown hgrow (by simp; omega) (fun k hk => (hown.lt k hk).1)⟩

theorem keptR_len (c : Int) (r : List Int) : (keptR c r).length ≤ r.length := by unfold keptR; split <;> simp
theorem keptR_get (c : Int) (r : List Int) (k : Nat) (x : Int) (h : r[k]? = some x) (hk : k < (keptR c r).length) : (keptR c r)[k]? = some x := by
  unfold keptR at *
  split at hk
  · rename_i hc
    rw [if_pos hc]
    rw [List.getElem?_dropLast, if_pos (by simpa using hk)]
    exact h
  · rename_i hc
    rw [if_neg hc]; exact h
theorem keptR_take (c : Int) (r : List Int) (k : Nat) (x : Int) (h : r[k]? = some x) (hk : k < (keptR c r).length) : (keptR c r).take (k + 1) = (keptR c r).take k ++ [x] := by
  have := keptR_get c r k x h hk
  rw [List.take_add_one, this]; rfl
theorem keptR_over (c : Int) (r : List Int) (k : Nat) (hk : (keptR c r).length ≤ k) : (keptR c r).take (k + 1) = (keptR c r).take k := by
  rw [List.take_of_length_le (by omega), List.take_of_length_le hk]

theorem Try.info3 : (Try.prog.info? 3).map (fun i => (i.zero, i.size, i.bytes)) = some (some (.int .i64 0), 1, 8) := by kernel_rfl

end Go.Proofs.Ytjbmflgamogefab
