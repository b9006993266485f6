/- The reference's machine in memory. -/
import Derived.Test.YtjbmflgamogefabSl
import Derived.Test.YtjbmflgamogefabMachA
namespace Go.Proofs.Ytjbmflgamogefab
open Go.RowKit

/-- Where the machine lies: its struct, its threads, its rows of blocked and of waiting threads; of its fifteen slices of integers the values and the blocks (0 the cells, 1 the owners, 2 the queue, from 3 on the stacks, from 7 on who is blocked, from 11 on who waits). -/
structure Lay where
  b : Nat
  gt : Nat
  tcap : Nat
  gb : Nat
  gw : Nat
  cv : Value
  val : Nat → Value
  blk : Nat → Option Nat
def castL (l : List Nat) : List Int := l.map (fun (x : Nat) => (x : Int))
/-- What the slices hold. -/
def cont (m : Mac) (i : Nat) : List Int :=
  if i = 0 then (List.range 8).map m.cells else if i = 1 then (List.range 4).map m.own else if i = 2 then castL m.q
  else if i < 7 then (m.th (i - 3)).stk else if i < 11 then castL (m.blk (i - 7)) else castL (m.wai (i - 11))
def strOf (l : List Int) : ByteArray := ⟨(l.map (fun x => UInt8.ofNat x.toNat)).toArray⟩
/-- A block of the machine's own. -/
def InY (Y : Lay) (j : Nat) : Prop := j = Y.b ∨ j = Y.gt ∨ j = Y.gb ∨ j = Y.gw ∨ ∃ i, i < 15 ∧ Y.blk i = some j
/-- What a step of the machine leaves alone. -/
structure Fr (Y Y' : Lay) (w w' : World) : Prop where
  os : w'.os = w.os
  tape : w'.tape = w.tape
  output : w'.output = w.output
  size : w.heap.size ≤ w'.heap.size
  block : ∀ j, j < w.heap.size → ¬ InY Y j → w'.heap[j]? = w.heap[j]?
  fresh : ∀ j, InY Y' j → InY Y j ∨ w.heap.size ≤ j
  same : Y'.b = Y.b ∧ Y'.gt = Y.gt ∧ Y'.tcap = Y.tcap ∧ Y'.gb = Y.gb ∧ Y'.gw = Y.gw ∧ Y'.cv = Y.cv
theorem Fr.trans {Y Y' Y'' : Lay} {a b c : World} (h : Fr Y Y' a b) (k : Fr Y' Y'' b c) : Fr Y Y'' a c where
  os := k.os.trans h.os
  tape := k.tape.trans h.tape
  output := k.output.trans h.output
  size := Nat.le_trans h.size k.size
  block := fun j hj hn => by
    rw [k.block j (Nat.lt_of_lt_of_le hj h.size) (fun hi => ?_), h.block j hj hn]
    rcases h.fresh j hi with h1 | h1
    · exact hn h1
    · omega
  fresh := fun j hj => by
    rcases k.fresh j hj with h1 | h1
    · exact h.fresh j h1
    · exact .inr (Nat.le_trans h.size h1)
  same := by
    obtain ⟨a1, a2, a3, a4, a5, a6⟩ := h.same
    obtain ⟨b1, b2, b3, b4, b5, b6⟩ := k.same
    exact ⟨b1.trans a1, b2.trans a2, b3.trans a3, b4.trans a4, b5.trans a5, b6.trans a6⟩
theorem Fr.of_below {Y : Lay} {w w' : World} (h : Below w.heap.size w w') : Fr Y Y w w' := ⟨h.os, h.tape, h.output, h.size, fun j hj _ => h.block j hj, fun _ hj => .inl hj, ⟨rfl, rfl, rfl, rfl, rfl, rfl⟩⟩
theorem slot_ne {w : World} {v : Value} {xs : List Int} {g : Option Nat} (h : SlAt w v xs g) {k : Nat} {cs : Array Value} {t : TypeId} {fr : Nat × Nat} (hk : w.heap[k]? = some (.cells cs t fr)) (hne : ¬ t = 3) : some k ≠ g := by
  intro e
  rcases h with ⟨_, _, h⟩ | ⟨b, off, cap, cur, _, h2, h3, _⟩
  · rw [h] at e; cases e
  · rw [h2] at e; cases e
    rw [hk] at h3
    simp only [Option.some.injEq, Obj.cells.injEq] at h3
    exact hne h3.2.1
theorem SlAt.set_other {w : World} {v : Value} {xs : List Int} {g : Option Nat} (h : SlAt w v xs g) {k o : Nat} {u : Value} {cs : Array Value} {t : TypeId} {fr : Nat × Nat} (hk : w.heap[k]? = some (.cells cs t fr)) (hne : ¬ t = 3) : SlAt (w.setCell ⟨k, o, none⟩ u) v xs g :=
  h.kept (fun b hb => Below.heap_setCell _ _ _ _ (fun e => slot_ne h hk hne (by rw [hb]; simp only at e; rw [e])))
def putL (Y : Lay) (i : Nat) (v : Value) (g : Option Nat) : Lay := { Y with val := upd Y.val i v, blk := upd Y.blk i g }
theorem fresh_put {Y : Lay} {w : World} {i : Nat} {v : Value} {g : Option Nat} (hi : i < 15) (hg : g = Y.blk i ∨ ∃ b, g = some b ∧ w.heap.size ≤ b) : ∀ j, InY (putL Y i v g) j → InY Y j ∨ w.heap.size ≤ j := by
  intro j hj
  rcases hj with h | h | h | h | ⟨a, ha, h⟩
  · exact .inl (.inl h)
  · exact .inl (.inr (.inl h))
  · exact .inl (.inr (.inr (.inl h)))
  · exact .inl (.inr (.inr (.inr (.inl h))))
  · simp only [putL] at h
    by_cases e : a = i
    · subst e; rw [upd_same] at h
      rcases hg with e | ⟨b, e, hb⟩
      · rw [e] at h; exact .inl (.inr (.inr (.inr (.inr ⟨a, hi, h⟩))))
      · rw [e] at h; cases h; exact .inr hb
    · rw [upd_other _ _ e] at h; exact .inl (.inr (.inr (.inr (.inr ⟨a, ha, h⟩))))
theorem fr_sta {w : World} {Y : Lay} {o : Nat} {u : Value} : Fr Y Y w (w.setCell ⟨Y.gt, o, none⟩ u) :=
  ⟨rfl, rfl, rfl, by simp [World.setCell], fun j _ hn => Below.heap_setCell _ _ _ _ (fun e => hn (.inr (.inl e))), fun _ hj => .inl hj, ⟨rfl, rfl, rfl, rfl, rfl, rfl⟩⟩

end Go.Proofs.Ytjbmflgamogefab
