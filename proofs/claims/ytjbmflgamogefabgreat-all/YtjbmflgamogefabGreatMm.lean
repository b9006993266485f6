/- The reference's machine in memory. -/
import Derived.Test.YtjbmflgamogefabGreatSl
import Derived.Test.YtjbmflgamogefabGreatMachA
namespace Go.Proofs.YtjbmflgamogefabGreat
open Go.RowKit

/-- Where the machine lies: its struct, its threads, its rows of blocked and of waiting threads; of its fifteen slices of integers the values and the blocks (0 the cells, 1 the owners, 2 the queue, from 3 on the stacks, from 7 on who is blocked, from 11 on who waits). -/
structure Lay where
  b : Nat
  gt : Nat
  tcap : Nat
  gb : Nat
  gw : Nat
  cv : Value
  val : Nat → Value
  blk : Nat → Option Nat
def castL (l : List Nat) : List Int := l.map (fun (x : Nat) => (x : Int))
/-- What the slices hold. -/
def cont (m : Mac) (i : Nat) : List Int :=
  if i = 0 then (List.range 8).map m.cells else if i = 1 then (List.range 4).map m.own else if i = 2 then castL m.q
  else if i < 7 then (m.th (i - 3)).stk else if i < 11 then castL (m.blk (i - 7)) else castL (m.wai (i - 11))
def strOf (l : List Int) : ByteArray := ⟨(l.map (fun x => UInt8.ofNat x.toNat)).toArray⟩
structure MachAt (w : World) (n : Nat) (Y : Lay) (m : Mac) (log : ByteArray) : Prop where
  self : w.heap[Y.b]? = some (.cells #[Y.cv, .slice (some ⟨Y.gt, 0, none⟩) n Y.tcap, Y.val 2, Y.val 0, Y.val 1, .slice (some ⟨Y.gb, 0, none⟩) 4 4, .slice (some ⟨Y.gw, 0, none⟩) 4 4, .string (strOf m.out), .string (strOf m.trc), .string log] 51 (0, 0))
  thr : ∃ cur, w.heap[Y.gt]? = some (.cells cur 89 (0, 0)) ∧ ∀ k, k < n → cur[k * 4]? = some (.int .i64 ((m.th k).pc : Nat)) ∧ cur[k * 4 + 1]? = some (Y.val (3 + k)) ∧ cur[k * 4 + 2]? = some (.int .u8 (m.th k).sta) ∧ cur[k * 4 + 3]? = some (.int .i64 (m.th k).wake)
  brow : ∃ cur, w.heap[Y.gb]? = some (.cells cur 29 (0, 0)) ∧ ∀ l, l < 4 → cur[l]? = some (Y.val (7 + l))
  wrow : ∃ cur, w.heap[Y.gw]? = some (.cells cur 29 (0, 0)) ∧ ∀ l, l < 4 → cur[l]? = some (Y.val (11 + l))
  gbw : ¬ Y.gb = Y.gw
  sl : ∀ i, i < 15 → SlAt w (Y.val i) (cont m i) (Y.blk i)
  dis : ∀ i j g, i < 15 → j < 15 → Y.blk i = some g → Y.blk j = some g → i = j
/-- A block of the machine's own. -/
def InY (Y : Lay) (j : Nat) : Prop := j = Y.b ∨ j = Y.gt ∨ j = Y.gb ∨ j = Y.gw ∨ ∃ i, i < 15 ∧ Y.blk i = some j
/-- What a step of the machine leaves alone. -/
structure Fr (Y Y' : Lay) (w w' : World) : Prop where
  os : w'.os = w.os
  tape : w'.tape = w.tape
  output : w'.output = w.output
  size : w.heap.size ≤ w'.heap.size
  block : ∀ j, j < w.heap.size → ¬ InY Y j → w'.heap[j]? = w.heap[j]?
  fresh : ∀ j, InY Y' j → InY Y j ∨ w.heap.size ≤ j
  same : Y'.b = Y.b ∧ Y'.gt = Y.gt ∧ Y'.tcap = Y.tcap ∧ Y'.gb = Y.gb ∧ Y'.gw = Y.gw ∧ Y'.cv = Y.cv
theorem Fr.trans {Y Y' Y'' : Lay} {a b c : World} (h : Fr Y Y' a b) (k : Fr Y' Y'' b c) : Fr Y Y'' a c where
  os := k.os.trans h.os
  tape := k.tape.trans h.tape
  output := k.output.trans h.output
  size := Nat.le_trans h.size k.size
  block := fun j hj hn => by
    rw [k.block j (Nat.lt_of_lt_of_le hj h.size) (fun hi => ?_), h.block j hj hn]
    rcases h.fresh j hi with h1 | h1
    · exact hn h1
    · omega
  fresh := fun j hj => by
    rcases k.fresh j hj with h1 | h1
    · exact h.fresh j h1
    · exact .inr (Nat.le_trans h.size h1)
  same := by
    obtain ⟨a1, a2, a3, a4, a5, a6⟩ := h.same
    obtain ⟨b1, b2, b3, b4, b5, b6⟩ := k.same
    exact ⟨b1.trans a1, b2.trans a2, b3.trans a3, b4.trans a4, b5.trans a5, b6.trans a6⟩
theorem Fr.of_below {Y : Lay} {w w' : World} (h : Below w.heap.size w w') : Fr Y Y w w' := ⟨h.os, h.tape, h.output, h.size, fun j hj _ => h.block j hj, fun _ hj => .inl hj, ⟨rfl, rfl, rfl, rfl, rfl, rfl⟩⟩
theorem MachAt.below {w w' : World} {n : Nat} {Y : Lay} {m : Mac} {log : ByteArray} (h : MachAt w n Y m log) (hb : Below w.heap.size w w') : MachAt w' n Y m log := by
  have lt : ∀ {j o}, w.heap[j]? = some o → j < w.heap.size := fun hj => (Array.getElem?_eq_some_iff.1 hj).1
  obtain ⟨c1, t1, t2⟩ := h.thr
  obtain ⟨c2, b1, b2⟩ := h.brow
  obtain ⟨c3, w1, w2⟩ := h.wrow
  exact ⟨by rw [hb.block _ (lt h.self)]; exact h.self, ⟨c1, by rw [hb.block _ (lt t1)]; exact t1, t2⟩, ⟨c2, by rw [hb.block _ (lt b1)]; exact b1, b2⟩, ⟨c3, by rw [hb.block _ (lt w1)]; exact w1, w2⟩, h.gbw,
    fun i hi => (h.sl i hi).kept (fun b hbb => hb.block b ((h.sl i hi).lt b hbb)), h.dis⟩

theorem slot_ne {w : World} {v : Value} {xs : List Int} {g : Option Nat} (h : SlAt w v xs g) {k : Nat} {cs : Array Value} {t : TypeId} {fr : Nat × Nat} (hk : w.heap[k]? = some (.cells cs t fr)) (hne : ¬ t = 3) : some k ≠ g := by
  intro e
  rcases h with ⟨_, _, h⟩ | ⟨b, off, cap, cur, _, h2, h3, _⟩
  · rw [h] at e; cases e
  · rw [h2] at e; cases e
    rw [hk] at h3
    simp only [Option.some.injEq, Obj.cells.injEq] at h3
    exact hne h3.2.1
/-- The slice i is appended to: all else lies as it did. -/
theorem MachAt.grown {w w' : World} {n i : Nat} {Y : Lay} {m : Mac} {log : ByteArray} (h : MachAt w n Y m log) (hi : i < 15) (hg : w.grownBy w' (Y.blk i)) :
    w'.heap[Y.b]? = w.heap[Y.b]? ∧ w'.heap[Y.gt]? = w.heap[Y.gt]? ∧ w'.heap[Y.gb]? = w.heap[Y.gb]? ∧ w'.heap[Y.gw]? = w.heap[Y.gw]? ∧ ∀ j, j < 15 → ¬ j = i → SlAt w' (Y.val j) (cont m j) (Y.blk j) := by
  have lt : ∀ {j o}, w.heap[j]? = some o → j < w.heap.size := fun hj => (Array.getElem?_eq_some_iff.1 hj).1
  obtain ⟨c1, t1, _⟩ := h.thr
  obtain ⟨c2, b1, _⟩ := h.brow
  obtain ⟨c3, w1, _⟩ := h.wrow
  have hs := h.sl i hi
  refine ⟨hg.block _ (lt h.self) (slot_ne hs h.self (by decide)), hg.block _ (lt t1) (slot_ne hs t1 (by decide)), hg.block _ (lt b1) (slot_ne hs b1 (by decide)), hg.block _ (lt w1) (slot_ne hs w1 (by decide)), fun j hj hji => ?_⟩
  exact (h.sl j hj).kept (fun b hb => hg.block b ((h.sl j hj).lt b hb) (fun e => hji (h.dis j i b hj hi hb e.symm)))
theorem SlAt.set_other {w : World} {v : Value} {xs : List Int} {g : Option Nat} (h : SlAt w v xs g) {k o : Nat} {u : Value} {cs : Array Value} {t : TypeId} {fr : Nat × Nat} (hk : w.heap[k]? = some (.cells cs t fr)) (hne : ¬ t = 3) : SlAt (w.setCell ⟨k, o, none⟩ u) v xs g :=
  h.kept (fun b hb => Below.heap_setCell _ _ _ _ (fun e => slot_ne h hk hne (by rw [hb]; simp only at e; rw [e])))
def putL (Y : Lay) (i : Nat) (v : Value) (g : Option Nat) : Lay := { Y with val := upd Y.val i v, blk := upd Y.blk i g }
theorem dis_put {w : World} {n : Nat} {Y : Lay} {m : Mac} {log : ByteArray} (h : MachAt w n Y m log) {i : Nat} {v : Value} {g : Option Nat} (hi : i < 15) (hg : g = Y.blk i ∨ ∃ b, g = some b ∧ w.heap.size ≤ b) : ∀ a c x, a < 15 → c < 15 → (putL Y i v g).blk a = some x → (putL Y i v g).blk c = some x → a = c := by
  intro a c x ha hc h1 h2
  simp only [putL] at h1 h2
  by_cases ea : a = i
  · by_cases ec : c = i
    · omega
    · subst ea; rw [upd_same] at h1; rw [upd_other _ _ ec] at h2
      rcases hg with e | ⟨b, e, hb⟩
      · rw [e] at h1; exact h.dis _ _ _ ha hc h1 h2
      · rw [e] at h1; cases h1; have := (h.sl c hc).lt _ h2; omega
  · by_cases ec : c = i
    · subst ec; rw [upd_same] at h2; rw [upd_other _ _ ea] at h1
      rcases hg with e | ⟨b, e, hb⟩
      · rw [e] at h2; exact h.dis _ _ _ ha hc h1 h2
      · rw [e] at h2; cases h2; have := (h.sl a ha).lt _ h1; omega
    · rw [upd_other _ _ ea] at h1; rw [upd_other _ _ ec] at h2; exact h.dis _ _ _ ha hc h1 h2
theorem fresh_put {Y : Lay} {w : World} {i : Nat} {v : Value} {g : Option Nat} (hi : i < 15) (hg : g = Y.blk i ∨ ∃ b, g = some b ∧ w.heap.size ≤ b) : ∀ j, InY (putL Y i v g) j → InY Y j ∨ w.heap.size ≤ j := by
  intro j hj
  rcases hj with h | h | h | h | ⟨a, ha, h⟩
  · exact .inl (.inl h)
  · exact .inl (.inr (.inl h))
  · exact .inl (.inr (.inr (.inl h)))
  · exact .inl (.inr (.inr (.inr (.inl h))))
  · simp only [putL] at h
    by_cases e : a = i
    · subst e; rw [upd_same] at h
      rcases hg with e | ⟨b, e, hb⟩
      · rw [e] at h; exact .inl (.inr (.inr (.inr (.inr ⟨a, hi, h⟩))))
      · rw [e] at h; cases h; exact .inr hb
    · rw [upd_other _ _ e] at h; exact .inl (.inr (.inr (.inr (.inr ⟨a, ha, h⟩))))
/-- The state of a thread. -/
theorem MachAt.setSta {w : World} {n k : Nat} {Y : Lay} {m : Mac} {log : ByteArray} {s : Int} (h : MachAt w n Y m log) (hk : k < n) :
    MachAt (w.setCell ⟨Y.gt, k * 4 + 2, none⟩ (.int .u8 s)) n Y { m with th := upd m.th k { m.th k with sta := s } } log := by
  obtain ⟨c1, t1, t2⟩ := h.thr
  obtain ⟨c2, b1, b2⟩ := h.brow
  obtain ⟨c3, w1, w2⟩ := h.wrow
  have ne : ∀ {j cs t fr}, w.heap[j]? = some (.cells cs t fr) → ¬ t = 89 → ¬ j = Y.gt := fun hj hne e => by
    subst e; rw [t1] at hj; simp only [Option.some.injEq, Obj.cells.injEq] at hj; exact hne hj.2.1.symm
  have hcont : ∀ i, cont { m with th := upd m.th k { m.th k with sta := s } } i = cont m i := fun i => by
    unfold cont
    split
    · rfl
    split
    · rfl
    split
    · rfl
    split
    · by_cases e : i - 3 = k
      · subst e; simp only [upd_same]
      · simp only [upd_other _ _ e]
    · rfl
  refine ⟨by rw [Below.heap_setCell _ _ _ _ (ne h.self (by decide))]; exact h.self, ⟨_, heap_setCell_same w Y.gt (k * 4 + 2) _ _ _ t1, fun j hj => ?_⟩, ⟨c2, by rw [Below.heap_setCell _ _ _ _ (ne b1 (by decide))]; exact b1, b2⟩, ⟨c3, by rw [Below.heap_setCell _ _ _ _ (ne w1 (by decide))]; exact w1, w2⟩, h.gbw,
    fun i hi => by rw [hcont]; exact (h.sl i hi).set_other t1 (by decide), h.dis⟩
  obtain ⟨a0, a1, a2, a3⟩ := t2 j hj
  have hin : k * 4 + 2 < c1.size := (Array.getElem?_eq_some_iff.1 (t2 k hk).2.2.1).1
  rw [Array.getElem?_setIfInBounds, Array.getElem?_setIfInBounds, Array.getElem?_setIfInBounds, Array.getElem?_setIfInBounds]
  by_cases e : j = k
  · subst e
    rw [if_neg (by omega), if_neg (by omega), if_pos rfl, if_pos hin, if_neg (by omega)]
    simp only [upd_same]
    exact ⟨a0, a1, by trivial, a3⟩
  · rw [if_neg (by omega), if_neg (by omega), if_neg (by omega), if_neg (by omega)]
    simp only [upd_other _ _ e]
    exact ⟨a0, a1, a2, a3⟩
/-- The queue is another one. -/
theorem MachAt.putQ {w w1 : World} {n : Nat} {Y : Lay} {m : Mac} {log : ByteArray} {v : Value} {g : Option Nat} {q' : List Nat} (h : MachAt w n Y m log) (hg : w.grownBy w1 (Y.blk 2)) (hs : SlAt w1 v (castL q') g) (hf : g = Y.blk 2 ∨ ∃ b, g = some b ∧ w.heap.size ≤ b) :
    MachAt (w1.setCell ⟨Y.b, 2, none⟩ v) n (putL Y 2 v g) { m with q := q' } log ∧ Fr Y (putL Y 2 v g) w (w1.setCell ⟨Y.b, 2, none⟩ v) := by
  obtain ⟨g1, g2, g3, g4, g5⟩ := h.grown (by decide) hg
  have s1 := g1.trans h.self
  obtain ⟨c1, t1, t2⟩ := h.thr
  obtain ⟨c2, b1, b2⟩ := h.brow
  obtain ⟨c3, w1', w2⟩ := h.wrow
  have ne : ∀ {j cs t fr}, w.heap[j]? = some (.cells cs t fr) → ¬ t = 51 → ¬ j = Y.b := fun hj hne e => by
    subst e; rw [h.self] at hj; simp only [Option.some.injEq, Obj.cells.injEq] at hj; exact hne hj.2.1.symm
  refine ⟨⟨?_, ⟨c1, by simp only [putL]; rw [Below.heap_setCell _ _ _ _ (ne t1 (by decide)), g2]; exact t1, fun k hk => ?_⟩, ⟨c2, by simp only [putL]; rw [Below.heap_setCell _ _ _ _ (ne b1 (by decide)), g3]; exact b1, fun l hl => ?_⟩, ⟨c3, by simp only [putL]; rw [Below.heap_setCell _ _ _ _ (ne w1' (by decide)), g4]; exact w1', fun l hl => ?_⟩, h.gbw, fun i hi => ?_, dis_put h (by decide) hf⟩, ?_⟩
  · simp only [putL, upd_same, upd_other _ _ (show ¬ 0 = 2 by decide), upd_other _ _ (show ¬ 1 = 2 by decide)]
    rw [heap_setCell_same w1 Y.b 2 _ _ _ s1]; rfl
  · simp only [putL, upd_other _ _ (show ¬ 3 + k = 2 by omega)]; exact t2 k hk
  · simp only [putL, upd_other _ _ (show ¬ 7 + l = 2 by omega)]; exact b2 l hl
  · simp only [putL, upd_other _ _ (show ¬ 11 + l = 2 by omega)]; exact w2 l hl
  · by_cases e : i = 2
    · subst e; simp only [putL, upd_same]; exact hs.set_other s1 (by decide)
    · simp only [putL, upd_other _ _ e]
      have hc : cont { m with q := q' } i = cont m i := by unfold cont; simp only [e, if_false]
      rw [hc]; exact (g5 i hi e).set_other s1 (by decide)
  · refine ⟨hg.os, hg.tape, hg.output, ?_, fun j hj hn => ?_, fresh_put (by decide) hf, ⟨rfl, rfl, rfl, rfl, rfl, rfl⟩⟩
    · have := hg.size; simp [World.setCell]; omega
    · rw [Below.heap_setCell _ _ _ _ (fun e => hn (.inl e)), hg.block j hj (fun e => hn (.inr (.inr (.inr (.inr ⟨2, by decide, e.symm⟩)))))]
theorem fr_sta {w : World} {Y : Lay} {o : Nat} {u : Value} : Fr Y Y w (w.setCell ⟨Y.gt, o, none⟩ u) :=
  ⟨rfl, rfl, rfl, by simp [World.setCell], fun j _ hn => Below.heap_setCell _ _ _ _ (fun e => hn (.inr (.inl e))), fun _ hj => .inl hj, ⟨rfl, rfl, rfl, rfl, rfl, rfl⟩⟩

end Go.Proofs.YtjbmflgamogefabGreat
