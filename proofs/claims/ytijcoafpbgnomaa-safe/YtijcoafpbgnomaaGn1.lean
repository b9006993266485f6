/- The code's newMachine: the machine while it is made. -/
import Derived.Test.YtijcoafpbgnomaaGm10
import Derived.Test.YtijcoafpbgnomaaGCheck
import Derived.Test.YtijcoafpbgnomaaWz
namespace Go.Proofs.Ytijcoafpbgnomaa
open Go.RowKit

theorem Zm_def : Zm = #[.slice none 0 0, .int .i64 0, .int .i64 0, .int .i64 0, .int .i64 0, .int .i64 0, .int .i64 0, .int .i64 0, .int .i64 0, .int .i64 0, .slice none 0 0, .slice none 0 0, .int .i64 0, .slice none 0 0, .slice none 0 0, .int .i64 0, .slice none 0 0, .slice none 0 0, .int .i64 0, .slice none 0 0, .slice none 0 0, .slice none 0 0, .slice none 0 0, .slice none 0 0] := rfl
theorem Zm_size : Zm.size = 24 := rfl
theorem Zm_one : Zm.all (·.oneCell') = true := by decide +kernel
/-- The owners of the first j locks are set. -/
def ownZ : Nat → Array Value
  | 0 => Zm
  | j + 1 => (ownZ j).setIfInBounds (9 + j * 3) (.int .i64 (-1))
theorem ownZ_size : ∀ j, (ownZ j).size = 24
  | 0 => rfl
  | j + 1 => by rw [ownZ, Array.size_setIfInBounds, ownZ_size j]
theorem ownZ_at {j : Nat} (h : j < 4) : (ownZ j)[9 + j * 3]? = some (.int .i64 0) := by
  match j, h with
  | 0, _ => rfl
  | 1, _ => rfl
  | 2, _ => rfl
  | 3, _ => rfl
/-- The machine's cells: the threads' slice, the queue's. -/
def mCells (tv qv : Value) : Array Value := ((ownZ 4).setIfInBounds 0 tv).setIfInBounds 21 qv
theorem mCells_eq (tv qv : Value) : mCells tv qv = #[tv, .int .i64 0, .int .i64 0, .int .i64 0, .int .i64 0, .int .i64 0, .int .i64 0, .int .i64 0, .int .i64 0, .int .i64 (-1), .slice none 0 0, .slice none 0 0, .int .i64 (-1), .slice none 0 0, .slice none 0 0, .int .i64 (-1), .slice none 0 0, .slice none 0 0, .int .i64 (-1), .slice none 0 0, .slice none 0 0, qv, .slice none 0 0, .slice none 0 0] := rfl
theorem mCells_size (tv qv : Value) : (mCells tv qv).size = 24 := rfl
theorem mCells_tv (tv qv tv' : Value) : (mCells tv qv).setIfInBounds 0 tv' = mCells tv' qv := rfl
theorem mCells_qv (tv qv qv' : Value) : (mCells tv qv).setIfInBounds 21 qv' = mCells tv qv' := rfl
def thr1 (v : Value) : List Value := [v, .int .i64 0, .int .i64 0, .int .i64 0, .int .i64 0, .int .i64 0, .int .i64 0, .int .i64 0, .int .i64 0, .int .u8 82, .int .i64 0]
def thCells : List Value → List Value
  | [] => []
  | v :: t => thr1 v ++ thCells t
theorem thCells_snoc (v : Value) : ∀ M, thCells (M ++ [v]) = thCells M ++ thr1 v
  | [] => by simp [thCells]
  | x :: t => by simp [thCells, thCells_snoc v t]
theorem thCells_get : ∀ (M : List Value) (k : Nat) (v : Value), M[k]? = some v → ∀ o, o < 11 → (thCells M)[k * 11 + o]? = (thr1 v)[o]?
  | [], k, v, h, _, _ => by simp at h
  | x :: t, 0, v, h, o, ho => by
    simp at h; subst h
    rw [thCells, Nat.zero_mul, Nat.zero_add, List.getElem?_append_left (by simpa [thr1] using ho)]
  | x :: t, k + 1, v, h, o, ho => by
    have := thCells_get t k v (by simpa using h) o ho
    rw [thCells, List.getElem?_append_right (by simp [thr1]; omega), ← this]
    congr 1
    simp [thr1]; omega

structure NewAt (base b : Nat) (wr : World) (tv qv : Value) (M : List Value) (i : Nat) : Prop where
  self : wr.heap[b]? = some (.cells (mCells tv qv) 86 (0, 0))
  row : wr.ownsRow base 91 11 tv M.length (thCells M)
  que : ∃ g, SlAt wr qv (castN (List.range i)) g ∧ ∀ x, g = some x → base ≤ x
  low : base ≤ b ∧ base ≤ wr.heap.size
theorem row_ne {w : World} {base e size n : Nat} {v : Value} {xs : List Value} (h : w.ownsRow base e size v n xs) {k : Nat} {cs : Array Value} {t : TypeId} {fr : Nat × Nat} (hk : w.heap[k]? = some (.cells cs t fr)) (hne : ¬ t = e) : some k ≠ v.ownBlock := by
  intro x
  rcases h.2 with ⟨rfl, _⟩ | ⟨g, cap, cur, rfl, _, hg, _⟩
  · simp [Value.ownBlock] at x
  · simp only [Value.ownBlock, Option.some.injEq] at x
    subst x
    rw [hk] at hg
    simp only [Option.some.injEq, Obj.cells.injEq] at hg
    exact hne hg.2.1
theorem row_low {w : World} {base e size n : Nat} {v : Value} {xs : List Value} (h : w.ownsRow base e size v n xs) : ∀ g, v.ownBlock = some g → base ≤ g := by
  intro x hx
  rcases h.2 with ⟨rfl, _⟩ | ⟨g, cap, cur, rfl, hb, hg, _⟩
  · simp [Value.ownBlock] at hx
  · simp only [Value.ownBlock, Option.some.injEq] at hx
    omega
theorem slat_ne {w : World} {v : Value} {xs : List Int} {g : Option Nat} (h : SlAt w v xs g) {k : Nat} {cs : Array Value} {t : TypeId} {fr : Nat × Nat} (hk : w.heap[k]? = some (.cells cs t fr)) (hne : ¬ t = 3) : some k ≠ g := SlG.ne (E := 3) (I := .i64) h hk hne
theorem slat_set {w : World} {v : Value} {xs : List Int} {g : Option Nat} (h : SlAt w v xs g) {k o : Nat} {u : Value} {cs : Array Value} {t : TypeId} {fr : Nat × Nat} (hk : w.heap[k]? = some (.cells cs t fr)) (hne : ¬ t = 3) : SlAt (w.setCell ⟨k, o, none⟩ u) v xs g := SlG.set_other (E := 3) (I := .i64) h hk hne
theorem NewAt.cells {base b : Nat} {wr : World} {tv qv : Value} {M : List Value} {i : Nat} (h : NewAt base b wr tv qv M i) : wr.cell? ⟨b, 0, none⟩ = some tv ∧ wr.cell? ⟨b, 21, none⟩ = some qv ∧ b < wr.heap.size :=
  ⟨by rw [cell_of_row _ _ 0 _ _ _ h.self]; rfl, by rw [cell_of_row _ _ 21 _ _ _ h.self]; rfl, (Array.getElem?_eq_some_iff.1 h.self).1⟩
/-- A thread is laid. -/
theorem NewAt.thr {base b : Nat} {wr w0 w1 : World} {tv tv' qv v : Value} {M : List Value} {i : Nat} (h : NewAt base b wr tv qv M i) (hb : Below wr.heap.size wr w0) (ho : w1.ownsRow base 91 11 tv' (M.length + 1) (thCells M ++ thr1 v)) (hg : w0.grownBy w1 tv.ownBlock) :
    NewAt base b (w1.setCell ⟨b, 0, none⟩ tv') tv' qv (M ++ [v]) i ∧ Below base wr (w1.setCell ⟨b, 0, none⟩ tv') ∧ w1.cell? ⟨b, 0, none⟩ = some tv ∧ w1.frozen? ⟨b, 0, none⟩ = false := by
  have lt : ∀ {j o}, wr.heap[j]? = some o → j < wr.heap.size := fun hj => (Array.getElem?_eq_some_iff.1 hj).1
  have r0 : w0.ownsRow base 91 11 tv M.length (thCells M) := own_below h.row hb
  have s0 : w0.heap[b]? = some (.cells (mCells tv qv) 86 (0, 0)) := (hb.block _ (lt h.self)).trans h.self
  have s1 : w1.heap[b]? = some (.cells (mCells tv qv) 86 (0, 0)) := (hg.block _ (Array.getElem?_eq_some_iff.1 s0).1 (row_ne r0 s0 (by decide))).trans s0
  obtain ⟨g, q1, q2⟩ := h.que
  have q0 : SlAt w0 qv (castN (List.range i)) g := q1.kept (fun x hx => hb.block x (q1.lt x hx))
  have q3 : SlAt w1 qv (castN (List.range i)) g := q0.kept (fun x hx => hg.block x (q0.lt x hx) (fun e => by
    rcases q0 with ⟨_, _, e1⟩ | ⟨b', off, cap, cur, _, e2, e3, _⟩
    · rw [e1] at hx; cases hx
    · rw [e2] at hx; cases hx
      exact row_ne r0 e3 (by decide) e))
  have hB : Below base wr w1 := ⟨hg.os.trans hb.os, hg.tape.trans hb.tape, hg.output.trans hb.output, Nat.le_trans hb.size hg.size, fun j hj => by
    have hl := h.low.2
    rw [hg.block j (by have := hb.size; omega) (fun e => by have := row_low r0 j e.symm; omega), hb.block j (by omega)]⟩
  refine ⟨⟨?_, ?_, ⟨g, slat_set q3 s1 (by decide), q2⟩, h.low.1, ?_⟩, hB.setCell h.low.1 _, by rw [cell_of_row _ _ 0 _ _ _ s1]; rfl, frozen_row s1 0⟩
  · rw [heap_setCell_same w1 b 0 _ _ _ s1, mCells_tv]
  · rw [thCells_snoc, List.length_append]; exact own_set_other ho s1 (by decide)
  · have := hB.size; have := h.low.2; simp [World.setCell]; omega
/-- A thread stands in the queue. -/
theorem NewAt.queue {base b : Nat} {wr w0 w1 : World} {tv qv qv' : Value} {M : List Value} {i : Nat} {g g' : Option Nat} (h : NewAt base b wr tv qv M i) (hs : SlAt wr qv (castN (List.range i)) g) (hl : ∀ x, g = some x → base ≤ x) (hb : Below wr.heap.size wr w0) (ho : SlAt w1 qv' (castN (List.range i) ++ [(i : Int)]) g') (hg : w0.grownBy w1 g) (hf : g' = g ∨ ∃ x, g' = some x ∧ w0.heap.size ≤ x) :
    NewAt base b (w1.setCell ⟨b, 21, none⟩ qv') tv qv' M (i + 1) ∧ Below base wr (w1.setCell ⟨b, 21, none⟩ qv') ∧ w1.cell? ⟨b, 21, none⟩ = some qv ∧ w1.frozen? ⟨b, 21, none⟩ = false := by
  have lt : ∀ {j o}, wr.heap[j]? = some o → j < wr.heap.size := fun hj => (Array.getElem?_eq_some_iff.1 hj).1
  have r0 : w0.ownsRow base 91 11 tv M.length (thCells M) := own_below h.row hb
  have s0 : w0.heap[b]? = some (.cells (mCells tv qv) 86 (0, 0)) := (hb.block _ (lt h.self)).trans h.self
  have q0 : SlAt w0 qv (castN (List.range i)) g := hs.kept (fun x hx => hb.block x (hs.lt x hx))
  have s1 : w1.heap[b]? = some (.cells (mCells tv qv) 86 (0, 0)) := (hg.block _ (Array.getElem?_eq_some_iff.1 s0).1 (slat_ne q0 s0 (by decide))).trans s0
  have r1 : w1.ownsRow base 91 11 tv M.length (thCells M) := by
    refine ⟨r0.1, ?_⟩
    rcases r0.2 with e | ⟨gg, cap, cur, e1, e2, e3, e4⟩
    · exact .inl e
    · exact .inr ⟨gg, cap, cur, e1, e2, (hg.block gg (Array.getElem?_eq_some_iff.1 e3).1 (slat_ne q0 e3 (by decide))).trans e3, e4⟩
  have hB : Below base wr w1 := ⟨hg.os.trans hb.os, hg.tape.trans hb.tape, hg.output.trans hb.output, Nat.le_trans hb.size hg.size, fun j hj => by
    have hl2 := h.low.2
    rw [hg.block j (by have := hb.size; omega) (fun e => by have := hl j e.symm; omega), hb.block j (by omega)]⟩
  refine ⟨⟨?_, own_set_other r1 s1 (by decide), ⟨g', ?_, fun x hx => ?_⟩, h.low.1, ?_⟩, hB.setCell h.low.1 _, by rw [cell_of_row _ _ 21 _ _ _ s1]; rfl, frozen_row s1 21⟩
  · rw [heap_setCell_same w1 b 21 _ _ _ s1, mCells_qv]
  · rw [List.range_succ, castN_snoc]; exact slat_set ho s1 (by decide)
  · rcases hf with e | ⟨y, e, hy⟩
    · rw [e] at hx; exact hl x hx
    · rw [e] at hx; cases hx; have := hb.size; have := h.low.2; omega
  · have := hB.size; have := h.low.2; simp [World.setCell]; omega

set_option maxHeartbeats 1000000 in
/-- join, whatever the line lies in. -/
theorem g_join_raw (b P : Nat) (qv : Value) (xs : List Int) (g : Option Nat) (x : Int) (w : World) (hs : SlAt w qv xs g) (c3 : w.cell? ⟨b, P, none⟩ = some qv) (_c5 : b < w.heap.size) (hl : xs.length ≤ 1000) (R : World → Prop)
    (FIN0 : ∀ w1 v g', SlAt w1 v (xs ++ [x]) g' → (w.alloc (.cells #[.int .i64 x] 3)).grownBy w1 g → (g' = g ∨ ∃ y, g' = some y ∧ (w.alloc (.cells #[.int .i64 x] 3)).heap.size ≤ y) → R (w1.setCell ⟨b, P, none⟩ v) ∧ w1.cell? ⟨b, P, none⟩ = some qv ∧ w1.frozen? ⟨b, P, none⟩ = false) :
    Calls Try.prog 82 #[.pointer (some ⟨b, P, none⟩), .int .i64 x] w fun e w' => e = .returned (.tuple #[]) ∧ R w' := by
  have HSL : Hid (∀ W, Below w.heap.size w W → SlAt W qv xs g) := fun W hW => hs.kept (fun b hb => hW.block b (hs.lt b hb))
  have FIN := hide FIN0
  have HL : Hid (xs.length ≤ 1000000) := by unfold Hid; omega
  obtain ⟨i0, hi0, hz0, hz1, hz2⟩ := info_parts Try.info3
  clear hs hl FIN0
  go_enter Try.func82, Try.ntmps82
  go_wp2_with (at_builtin; refine wpList_append_sl _ rfl _ _ 29 rfl i0 Try.underlying29 hi0 hz0 hz1 hz2 _ xs g rfl (HSL.out _ ((Below.refl _ _).alloc (Nat.le_refl _) _)) ⟨w.heap.size, 0, none⟩ 1 x rfl (one_atG rfl) HL.out ?_; intro v' w1 g' ha hgr hfr; obtain ⟨ao, cp, rfl⟩ := ha.slice; obtain ⟨R, y0, y1⟩ := FIN.out w1 _ g' ha hgr hfr; clear ha hgr hfr)
  go_end0
  rw [List.length_append, List.length_singleton] at R
  exact ⟨rfl, R⟩

end Go.Proofs.Ytijcoafpbgnomaa
