/- The code's machine in memory. -/
import Derived.Test.YtjbmflgamogefabGreatSb
import Derived.Test.YtjbmflgamogefabGreatMachA
namespace Go.Proofs.YtjbmflgamogefabGreat
open Go.RowKit

/-- What stays: from where on the machine's blocks lie, its struct, its threads, how many they are, their lists. -/
structure GK where
  base : Nat
  b : Nat
  gt : Nat
  n : Nat
  tcap : Nat
  lv : Nat → Value
  C : Nat → List In
/-- What changes: the stacks' cells; of the twelve slices (0 the queue, from 1 on who is blocked, from 5 on who waits, 9 what is printed, 10 the trace, 11 the log) the values and the blocks. -/
structure GY where
  jk : Nat → Nat → Int
  val : Nat → Value
  blk : Nat → Option Nat

/-- A slice that begins anywhere in its block, of elements of the type E. -/
def SlG (E : TypeId) (I : IntKind) (w : World) (v : Value) (xs : List Int) (g : Option Nat) : Prop :=
  (v = .slice none 0 0 ∧ xs = [] ∧ g = none) ∨
  ∃ b off cap cur, v = .slice (some ⟨b, off, none⟩) xs.length cap ∧ g = some b ∧ w.heap[b]? = some (.cells cur E (0, 0)) ∧ xs.length ≤ cap ∧ off + cap ≤ cur.size ∧ ∀ j x, xs[j]? = some x → cur[off + j]? = some (.int I x)
theorem SlG.kept {E : TypeId} {I : IntKind} {w w' : World} {v : Value} {xs : List Int} {g : Option Nat} (h : SlG E I w v xs g) (hk : ∀ b, g = some b → w'.heap[b]? = w.heap[b]?) : SlG E I w' v xs g := by
  rcases h with h | ⟨b, off, cap, cur, h1, h2, h3, h4⟩
  · exact .inl h
  · exact .inr ⟨b, off, cap, cur, h1, h2, by rw [hk b h2]; exact h3, h4⟩
theorem SlG.lt {E : TypeId} {I : IntKind} {w : World} {v : Value} {xs : List Int} {g : Option Nat} (h : SlG E I w v xs g) : ∀ b, g = some b → b < w.heap.size := by
  intro b hb
  rcases h with ⟨_, _, h⟩ | ⟨b', off, cap, cur, _, h2, h3, _⟩
  · rw [h] at hb; cases hb
  · rw [h2] at hb; cases hb; exact (Array.getElem?_eq_some_iff.1 h3).1
theorem SlG.ne {E : TypeId} {I : IntKind} {w : World} {v : Value} {xs : List Int} {g : Option Nat} (h : SlG E I w v xs g) {k : Nat} {cs : Array Value} {t : TypeId} {fr : Nat × Nat} (hk : w.heap[k]? = some (.cells cs t fr)) (hne : ¬ t = E) : some k ≠ g := by
  intro e
  rcases h with ⟨_, _, h⟩ | ⟨b, off, cap, cur, _, h2, h3, _⟩
  · rw [h] at e; cases e
  · rw [h2] at e; cases e
    rw [hk] at h3
    simp only [Option.some.injEq, Obj.cells.injEq] at h3
    exact hne h3.2.1
theorem SlG.set_other {E : TypeId} {I : IntKind} {w : World} {v : Value} {xs : List Int} {g : Option Nat} (h : SlG E I w v xs g) {k o : Nat} {u : Value} {cs : Array Value} {t : TypeId} {fr : Nat × Nat} (hk : w.heap[k]? = some (.cells cs t fr)) (hne : ¬ t = E) : SlG E I (w.setCell ⟨k, o, none⟩ u) v xs g :=
  h.kept (fun b hb => Below.heap_setCell _ _ _ _ (fun e => h.ne hk hne (by rw [hb]; simp only at e; rw [e])))

def castN (l : List Nat) : List Int := l.map (fun (x : Nat) => (x : Int))
theorem castN_snoc (l : List Nat) (k : Nat) : castN (l ++ [k]) = castN l ++ [(k : Int)] := by simp [castN]
def gcont (m : Mac) (i : Nat) : List Int := if i = 0 then castN m.q else if i < 5 then castN (m.blk (i - 1)) else if i < 9 then castN (m.wai (i - 5)) else if i = 9 then m.out else if i = 10 then m.trc else m.log
def gE (i : Nat) : TypeId := if i < 9 then 3 else 5
def gI (i : Nat) : IntKind := if i < 9 then .i64 else .u8
theorem gE_ne (i : Nat) : ¬ 74 = gE i ∧ ¬ 80 = gE i := by unfold gE; split <;> decide
def gpos (i : Nat) : Nat := if i = 0 then 21 else if i < 5 then 7 + 3 * i else if i < 9 then 3 * i - 4 else i + 13
theorem gpos_ne {i : Nat} (h : i < 12) : (∀ j, j < 8 → ¬ gpos i = 1 + j) ∧ (∀ l, l < 4 → ¬ gpos i = 9 + l * 3) ∧ ¬ gpos i = 0 ∧ gpos i < 25 := by
  unfold gpos
  refine ⟨fun j hj => ?_, fun l hl => ?_, ?_, ?_⟩ <;> (repeat' split) <;> omega
theorem gpos_inj {i j : Nat} (h : i < 12) (k : j < 12) (e : gpos i = gpos j) : i = j := by
  unfold gpos at e
  repeat' split at e
  all_goals omega

structure GAt (K : GK) (w : World) (Y : GY) (m : Mac) : Prop where
  self : ∃ cs, w.heap[K.b]? = some (.cells cs 74 (0, 0)) ∧ cs.size = 25 ∧ cs[0]? = some (.slice (some ⟨K.gt, 0, none⟩) K.n K.tcap) ∧ (∀ j, j < 8 → cs[1 + j]? = some (.int .i64 (m.cells j))) ∧ (∀ l, l < 4 → cs[9 + l * 3]? = some (.int .i64 (m.own l))) ∧ ∀ i, i < 12 → cs[gpos i]? = some (Y.val i)
  thr : ∃ cur, w.heap[K.gt]? = some (.cells cur 80 (0, 0)) ∧ ∀ k, k < K.n → cur[k * 12]? = some (K.lv k) ∧ cur[k * 12 + 1]? = some (.int .i64 ((m.th k).pc : Nat)) ∧ (∀ j, j < 6 → cur[k * 12 + (2 + j)]? = some (.int .i64 (Y.jk k j))) ∧ cur[k * 12 + 8]? = some (.int .i64 ((m.th k).stk.length : Nat)) ∧ cur[k * 12 + 9]? = some (.int .u8 (m.th k).sta) ∧ cur[k * 12 + 10]? = some (.int .i64 (m.th k).wake) ∧ cur[k * 12 + 11]? = some (.int .i64 ((m.th k).bat : Nat))
  stk : ∀ k, k < K.n → ∀ j v, (m.th k).stk[j]? = some v → Y.jk k j = v
  sl : ∀ i, i < 12 → SlG (gE i) (gI i) w (Y.val i) (gcont m i) (Y.blk i)
  dis : ∀ i j g, i < 12 → j < 12 → Y.blk i = some g → Y.blk j = some g → i = j
  lst : ∀ k, k < K.n → ∃ g cap, K.lv k = .slice (some ⟨g, 0, none⟩) (K.C k).length cap ∧ g < K.base ∧ ∀ j c a, (K.C k)[j]? = some (c, a) → w.cell? ⟨g, j * 2, none⟩ = some (.int .u8 c) ∧ w.cell? ⟨g, j * 2 + 1, none⟩ = some (.int .i64 a)
  low : K.base ≤ K.b ∧ K.base ≤ K.gt ∧ (∀ i g, i < 12 → Y.blk i = some g → K.base ≤ g) ∧ K.base ≤ w.heap.size
/-- A block of the machine's own. -/
def GIn (K : GK) (Y : GY) (j : Nat) : Prop := j = K.b ∨ j = K.gt ∨ ∃ i, i < 12 ∧ Y.blk i = some j
/-- What a step of the machine leaves alone. -/
structure GFr (K : GK) (Y Y' : GY) (w w' : World) : Prop where
  os : w'.os = w.os
  tape : w'.tape = w.tape
  output : w'.output = w.output
  size : w.heap.size ≤ w'.heap.size
  block : ∀ j, j < w.heap.size → ¬ GIn K Y j → w'.heap[j]? = w.heap[j]?
  fresh : ∀ j, GIn K Y' j → GIn K Y j ∨ w.heap.size ≤ j
theorem GFr.trans {K : GK} {Y Y' Y'' : GY} {a b c : World} (h : GFr K Y Y' a b) (k : GFr K Y' Y'' b c) : GFr K Y Y'' a c where
  os := k.os.trans h.os
  tape := k.tape.trans h.tape
  output := k.output.trans h.output
  size := Nat.le_trans h.size k.size
  block := fun j hj hn => by
    rw [k.block j (Nat.lt_of_lt_of_le hj h.size) (fun hi => ?_), h.block j hj hn]
    rcases h.fresh j hi with h1 | h1
    · exact hn h1
    · omega
  fresh := fun j hj => by
    rcases k.fresh j hj with h1 | h1
    · exact h.fresh j h1
    · exact .inr (Nat.le_trans h.size h1)
theorem GFr.of_below {K : GK} {Y : GY} {w w' : World} (h : Below w.heap.size w w') : GFr K Y Y w w' := ⟨h.os, h.tape, h.output, h.size, fun j hj _ => h.block j hj, fun _ hj => .inl hj⟩
theorem GFr.low {K : GK} {Y Y' : GY} {w w' : World} {m : Mac} (h : GFr K Y Y' w w') (k : GAt K w Y m) : Below K.base w w' := by
  obtain ⟨l1, l2, l3, l4⟩ := k.low
  refine ⟨h.os, h.tape, h.output, h.size, fun j hj => h.block j (by omega) ?_⟩
  rintro (e | e | ⟨i, hi, e⟩)
  · omega
  · omega
  · have := l3 i j hi e; omega
/-- The machine has become m'; nothing else has changed. -/
def Went (K : GK) (Y : GY) (w w' : World) (m' : Mac) : Prop := ∃ Y', GAt K w' Y' m' ∧ GFr K Y Y' w w'

theorem GAt.lst_to {K : GK} {w w' : World} {Y : GY} {m : Mac} (h : GAt K w Y m) (hb : Below K.base w w') : ∀ k, k < K.n → ∃ g cap, K.lv k = .slice (some ⟨g, 0, none⟩) (K.C k).length cap ∧ g < K.base ∧ ∀ j c a, (K.C k)[j]? = some (c, a) → w'.cell? ⟨g, j * 2, none⟩ = some (.int .u8 c) ∧ w'.cell? ⟨g, j * 2 + 1, none⟩ = some (.int .i64 a) := by
  intro k hk
  obtain ⟨g, cap, h1, h2, h3⟩ := h.lst k hk
  refine ⟨g, cap, h1, h2, fun j c a hj => ?_⟩
  rw [hb.cell (p := ⟨g, j * 2, none⟩) h2, hb.cell (p := ⟨g, j * 2 + 1, none⟩) h2]
  exact h3 j c a hj
theorem GAt.below {K : GK} {w w' : World} {Y : GY} {m : Mac} (h : GAt K w Y m) (hb : Below w.heap.size w w') : GAt K w' Y m := by
  have lt : ∀ {j o}, w.heap[j]? = some o → j < w.heap.size := fun hj => (Array.getElem?_eq_some_iff.1 hj).1
  obtain ⟨cs, s1, s2⟩ := h.self
  obtain ⟨c1, t1, t2⟩ := h.thr
  obtain ⟨l1, l2, l3, l4⟩ := h.low
  exact ⟨⟨cs, by rw [hb.block _ (lt s1)]; exact s1, s2⟩, ⟨c1, by rw [hb.block _ (lt t1)]; exact t1, t2⟩, h.stk,
    fun i hi => (h.sl i hi).kept (fun b hbb => hb.block b ((h.sl i hi).lt b hbb)), h.dis, h.lst_to (hb.mono l4), l1, l2, l3, Nat.le_trans l4 hb.size⟩
theorem GAt.gt_ne {K : GK} {w : World} {Y : GY} {m : Mac} (h : GAt K w Y m) : ¬ K.b = K.gt := by
  intro e
  obtain ⟨cs, s1, _⟩ := h.self
  obtain ⟨c1, t1, _⟩ := h.thr
  rw [e, t1] at s1
  simp at s1
theorem cont_th {m : Mac} {f : Nat → Th} (i : Nat) : gcont { m with th := f } i = gcont m i := by unfold gcont; rfl
/-- A store into a thread. -/
theorem GAt.setT {K : GK} {w : World} {Y : GY} {m : Mac} {k o : Nat} {v : Value} {t : Th} {f : Nat → Int} (h : GAt K w Y m) (hk : k < K.n) (ho : 0 < o ∧ o < 12)
    (h1 : if o = 1 then v = .int .i64 (t.pc : Nat) else t.pc = (m.th k).pc) (h2 : ∀ j, j < 6 → if o = 2 + j then v = .int .i64 (f j) else f j = Y.jk k j) (h3 : if o = 8 then v = .int .i64 (t.stk.length : Nat) else t.stk.length = (m.th k).stk.length)
    (h4 : if o = 9 then v = .int .u8 t.sta else t.sta = (m.th k).sta) (h5 : if o = 10 then v = .int .i64 t.wake else t.wake = (m.th k).wake) (h6 : if o = 11 then v = .int .i64 (t.bat : Nat) else t.bat = (m.th k).bat) (hs : ∀ j x, t.stk[j]? = some x → f j = x) :
    GAt K (w.setCell ⟨K.gt, k * 12 + o, none⟩ v) { Y with jk := upd Y.jk k f } (stepTh m k t) ∧ GFr K Y { Y with jk := upd Y.jk k f } w (w.setCell ⟨K.gt, k * 12 + o, none⟩ v) := by
  have hbn := h.gt_ne
  obtain ⟨cs, s1, s2⟩ := h.self
  obtain ⟨c1, t1, t2⟩ := h.thr
  obtain ⟨l1, l2, l3, l4⟩ := h.low
  have hB : Below K.base w (w.setCell ⟨K.gt, k * 12 + o, none⟩ v) := (Below.refl _ _).setCell l2 _
  refine ⟨⟨⟨cs, by rw [Below.heap_setCell _ _ _ _ hbn]; exact s1, s2⟩, ⟨_, heap_setCell_same w K.gt (k * 12 + o) _ _ _ t1, fun j hj => ?_⟩, fun j hj => ?_, fun i hi => ?_, h.dis, h.lst_to hB, l1, l2, l3, by simpa [World.setCell] using l4⟩, ⟨rfl, rfl, rfl, by simp [World.setCell], fun j _ hn => Below.heap_setCell _ _ _ _ (fun e => hn (.inr (.inl e))), fun _ hj => .inl hj⟩⟩
  · obtain ⟨a0, a1, a2, a3, a4, a5, a6⟩ := t2 j hj
    have hin : k * 12 + o < c1.size := by
      have h11 := (Array.getElem?_eq_some_iff.1 (t2 k hk).2.2.2.2.2.2).1
      omega
    simp only [stepTh, Array.getElem?_setIfInBounds]
    by_cases e : j = k
    · subst e
      simp only [upd_same]
      rw [if_neg (by omega)]
      refine ⟨a0, ?_, fun j2 hj2 => ?_, ?_, ?_, ?_, ?_⟩
      · by_cases c : o = 1
        · subst c; simp only [if_true, hin]; simp only [if_true] at h1; rw [h1]
        · rw [if_neg (by omega)]; rw [if_neg c] at h1; rw [h1]; exact a1
      · have h2 := h2 j2 hj2
        by_cases c : o = 2 + j2
        · subst c; simp only [if_true, hin]; simp only [if_true] at h2; rw [h2]
        · rw [if_neg (by omega)]; rw [if_neg c] at h2; rw [h2]; exact a2 j2 hj2
      · by_cases c : o = 8
        · subst c; simp only [if_true, hin]; simp only [if_true] at h3; rw [h3]
        · rw [if_neg (by omega)]; rw [if_neg c] at h3; rw [h3]; exact a3
      · by_cases c : o = 9
        · subst c; simp only [if_true, hin]; simp only [if_true] at h4; rw [h4]
        · rw [if_neg (by omega)]; rw [if_neg c] at h4; rw [h4]; exact a4
      · by_cases c : o = 10
        · subst c; simp only [if_true, hin]; simp only [if_true] at h5; rw [h5]
        · rw [if_neg (by omega)]; rw [if_neg c] at h5; rw [h5]; exact a5
      · by_cases c : o = 11
        · subst c; simp only [if_true, hin]; simp only [if_true] at h6; rw [h6]
        · rw [if_neg (by omega)]; rw [if_neg c] at h6; rw [h6]; exact a6
    · simp only [upd_other _ _ e]
      have hd : j * 12 + 12 ≤ k * 12 ∨ k * 12 + 12 ≤ j * 12 := by omega
      rw [if_neg (show ¬ k * 12 + o = j * 12 by omega), if_neg (show ¬ k * 12 + o = j * 12 + 1 by omega), if_neg (show ¬ k * 12 + o = j * 12 + 8 by omega), if_neg (show ¬ k * 12 + o = j * 12 + 9 by omega), if_neg (show ¬ k * 12 + o = j * 12 + 10 by omega), if_neg (show ¬ k * 12 + o = j * 12 + 11 by omega)]
      refine ⟨a0, a1, fun j2 hj2 => ?_, a3, a4, a5, a6⟩
      rw [if_neg (by omega)]; exact a2 j2 hj2
  · simp only [stepTh]
    by_cases e : j = k
    · subst e; simp only [upd_same]; exact hs
    · simp only [upd_other _ _ e]; exact h.stk j hj
  · simp only [stepTh]
    rw [cont_th]
    exact (h.sl i hi).set_other t1 (gE_ne i).2
/-- A store of an owner or of a cell. -/
theorem GAt.setB {K : GK} {w : World} {Y : GY} {m : Mac} {o : Nat} {v : Value} {cells' own' : Nat → Int} (h : GAt K w Y m) (ho : 0 < o ∧ o < 21)
    (h1 : ∀ j, j < 8 → if o = 1 + j then v = .int .i64 (cells' j) else cells' j = m.cells j) (h2 : ∀ l, l < 4 → if o = 9 + l * 3 then v = .int .i64 (own' l) else own' l = m.own l) (h3 : ∀ i, i < 12 → ¬ gpos i = o) :
    GAt K (w.setCell ⟨K.b, o, none⟩ v) Y { m with cells := cells', own := own' } ∧ GFr K Y Y w (w.setCell ⟨K.b, o, none⟩ v) := by
  have hbn := h.gt_ne
  obtain ⟨cs, s1, s2, s3, s4, s5, s6⟩ := h.self
  obtain ⟨c1, t1, t2⟩ := h.thr
  obtain ⟨l1, l2, l3, l4⟩ := h.low
  have hB : Below K.base w (w.setCell ⟨K.b, o, none⟩ v) := (Below.refl _ _).setCell l1 _
  have hin : o < cs.size := by omega
  refine ⟨⟨⟨_, heap_setCell_same w K.b o _ _ _ s1, by simpa using s2, ?_, fun j hj => ?_, fun l hl => ?_, fun i hi => ?_⟩, ⟨c1, by rw [Below.heap_setCell _ _ _ _ (fun e => hbn e.symm)]; exact t1, t2⟩, h.stk, fun i hi => (h.sl i hi).set_other s1 (gE_ne i).1, h.dis, h.lst_to hB, l1, l2, l3, by simpa [World.setCell] using l4⟩, ⟨rfl, rfl, rfl, by simp [World.setCell], fun j _ hn => Below.heap_setCell _ _ _ _ (fun e => hn (.inl e)), fun _ hj => .inl hj⟩⟩
  · rw [Array.getElem?_setIfInBounds, if_neg (by omega)]; exact s3
  · have h1 := h1 j hj
    rw [Array.getElem?_setIfInBounds]
    by_cases c : o = 1 + j
    · subst c; simp only [if_true, hin]; simp only [if_true] at h1; rw [h1]
    · rw [if_neg c]; rw [if_neg c] at h1; simp only [h1]; exact s4 j hj
  · have h2 := h2 l hl
    rw [Array.getElem?_setIfInBounds]
    by_cases c : o = 9 + l * 3
    · subst c; simp only [if_true, hin]; simp only [if_true] at h2; rw [h2]
    · rw [if_neg c]; rw [if_neg c] at h2; simp only [h2]; exact s5 l hl
  · rw [Array.getElem?_setIfInBounds, if_neg (fun e => h3 i hi e.symm)]; exact s6 i hi
/-- The slice i is another one. -/
theorem GAt.putS {K : GK} {w w1 : World} {Y : GY} {m m' : Mac} {i : Nat} {v : Value} {g : Option Nat} {xs : List Int} (h : GAt K w Y m) (hi : i < 12) (hg : w.grownBy w1 (Y.blk i)) (hs : SlG (gE i) (gI i) w1 v xs g) (hf : g = Y.blk i ∨ ∃ b, g = some b ∧ w.heap.size ≤ b)
    (e1 : m'.th = m.th) (e2 : m'.cells = m.cells) (e3 : m'.own = m.own) (e4 : ∀ j, j < 12 → gcont m' j = if j = i then xs else gcont m j) :
    GAt K (w1.setCell ⟨K.b, gpos i, none⟩ v) { Y with val := upd Y.val i v, blk := upd Y.blk i g } m' ∧ GFr K Y { Y with val := upd Y.val i v, blk := upd Y.blk i g } w (w1.setCell ⟨K.b, gpos i, none⟩ v) ∧ w1.cell? ⟨K.b, gpos i, none⟩ = some (Y.val i) ∧ w1.frozen? ⟨K.b, gpos i, none⟩ = false := by
  have lt : ∀ {j o}, w.heap[j]? = some o → j < w.heap.size := fun hj => (Array.getElem?_eq_some_iff.1 hj).1
  have hbn := h.gt_ne
  obtain ⟨cs, s1, s2, s3, s4, s5, s6⟩ := h.self
  obtain ⟨c1, t1, t2⟩ := h.thr
  obtain ⟨l1, l2, l3, l4⟩ := h.low
  have hsi := h.sl i hi
  have k1 : w1.heap[K.b]? = some (.cells cs 74 (0, 0)) := (hg.block _ (lt s1) (hsi.ne s1 (gE_ne i).1)).trans s1
  have k2 : w1.heap[K.gt]? = some (.cells c1 80 (0, 0)) := (hg.block _ (lt t1) (hsi.ne t1 (gE_ne i).2)).trans t1
  have hB : Below K.base w w1 := ⟨hg.os, hg.tape, hg.output, hg.size, fun j hj => hg.block j (by omega) (fun e => by have := l3 i j hi e.symm; omega)⟩
  have hB2 : Below K.base w (w1.setCell ⟨K.b, gpos i, none⟩ v) := hB.setCell l1 _
  have hpi := (gpos_ne hi).2.2
  refine ⟨⟨⟨_, heap_setCell_same w1 K.b (gpos i) _ _ _ k1, by simpa using s2, ?_, fun j hj => ?_, fun l hl => ?_, fun j hj => ?_⟩, ⟨c1, by rw [Below.heap_setCell _ _ _ _ (fun e => hbn e.symm)]; exact k2, ?_⟩, ?_, fun j hj => ?_, fun a c x ha hc x1 x2 => ?_, h.lst_to hB2, l1, l2, fun j b hj hb => ?_, ?_⟩, ⟨hg.os, hg.tape, hg.output, ?_, fun j hj hn => ?_, fun j hj => ?_⟩, by rw [cell_of_row _ _ _ _ _ _ k1]; exact s6 i hi, frozen_row k1 _⟩
  · rw [Array.getElem?_setIfInBounds, if_neg hpi.1]; exact s3
  · rw [Array.getElem?_setIfInBounds, if_neg ((gpos_ne hi).1 j hj), e2]; exact s4 j hj
  · rw [Array.getElem?_setIfInBounds, if_neg ((gpos_ne hi).2.1 l hl), e3]; exact s5 l hl
  · rw [Array.getElem?_setIfInBounds]
    by_cases e : j = i
    · subst e; rw [if_pos rfl, if_pos (by omega)]; simp only [upd_same]
    · rw [if_neg (fun x => e (gpos_inj hi hj x).symm)]; simp only [upd_other _ _ e]; exact s6 j hj
  · rw [e1]; exact t2
  · rw [e1]; exact h.stk
  · rw [e4 j hj]
    by_cases e : j = i
    · subst e; simp only [upd_same, if_true]; exact hs.set_other k1 (gE_ne _).1
    · rw [if_neg e]; simp only [upd_other _ _ e]
      have q : SlG (gE j) (gI j) w1 (Y.val j) (gcont m j) (Y.blk j) := (h.sl j hj).kept (fun b hb => hg.block b ((h.sl j hj).lt b hb) (fun x => e (h.dis j i b hj hi hb x.symm)))
      exact q.set_other k1 (gE_ne _).1
  · simp only at x1 x2
    by_cases ea : a = i
    · by_cases ec : c = i
      · omega
      · subst ea; rw [upd_same] at x1; rw [upd_other _ _ ec] at x2
        rcases hf with e | ⟨b, e, hb⟩
        · rw [e] at x1; exact h.dis _ _ _ ha hc x1 x2
        · rw [e] at x1; cases x1; have := (h.sl c hc).lt _ x2; omega
    · by_cases ec : c = i
      · subst ec; rw [upd_same] at x2; rw [upd_other _ _ ea] at x1
        rcases hf with e | ⟨b, e, hb⟩
        · rw [e] at x2; exact h.dis _ _ _ ha hc x1 x2
        · rw [e] at x2; cases x2; have := (h.sl a ha).lt _ x1; omega
      · rw [upd_other _ _ ea] at x1; rw [upd_other _ _ ec] at x2; exact h.dis _ _ _ ha hc x1 x2
  · simp only at hb
    by_cases e : j = i
    · subst e; rw [upd_same] at hb
      rcases hf with e | ⟨b', e, hb'⟩
      · rw [e] at hb; exact l3 j b hj hb
      · rw [e] at hb; cases hb; omega
    · rw [upd_other _ _ e] at hb; exact l3 j b hj hb
  · have := hg.size
    simp [World.setCell]; omega
  · have := hg.size
    simp [World.setCell]; omega
  · rw [Below.heap_setCell _ _ _ _ (fun e => hn (.inl e)), hg.block j hj (fun e => hn (.inr (.inr ⟨i, hi, e.symm⟩)))]
  · rcases hj with e | e | ⟨a, ha, e⟩
    · exact .inl (.inl e)
    · exact .inl (.inr (.inl e))
    · simp only at e
      by_cases c : a = i
      · subst c; rw [upd_same] at e
        rcases hf with f | ⟨b', f, hb'⟩
        · rw [f] at e; exact .inl (.inr (.inr ⟨a, ha, e⟩))
        · rw [f] at e; cases e; exact .inr hb'
      · rw [upd_other _ _ c] at e; exact .inl (.inr (.inr ⟨a, ha, e⟩))
/-- A block that is not the machine's. -/
def GOwn (K : GK) (Y : GY) (w : World) (j : Nat) : Prop := j < w.heap.size ∧ ¬ GIn K Y j
theorem GOwn.step {K : GK} {Y Y' : GY} {w w' : World} {j : Nat} (h : GOwn K Y w j) (hf : GFr K Y Y' w w') : GOwn K Y' w' j ∧ w'.heap[j]? = w.heap[j]? := by
  refine ⟨⟨Nat.lt_of_lt_of_le h.1 hf.size, fun hi => ?_⟩, hf.block j h.1 h.2⟩
  rcases hf.fresh j hi with k | k
  · exact h.2 k
  · have := h.1; omega
theorem GAt.in_lt {K : GK} {w : World} {Y : GY} {m : Mac} (h : GAt K w Y m) {j : Nat} (hj : GIn K Y j) : j < w.heap.size := by
  obtain ⟨cs, s1, _⟩ := h.self
  obtain ⟨c1, t1, _⟩ := h.thr
  rcases hj with e | e | ⟨i, hi, e⟩
  · rw [e]; exact (Array.getElem?_eq_some_iff.1 s1).1
  · rw [e]; exact (Array.getElem?_eq_some_iff.1 t1).1
  · exact (h.sl i hi).lt j e
theorem GAt.own_new {K : GK} {w : World} {Y : GY} {m : Mac} (h : GAt K w Y m) (o : Obj) : GOwn K Y (w.alloc o) w.heap.size :=
  ⟨by simp, fun hi => by have := h.in_lt hi; omega⟩

end Go.Proofs.YtjbmflgamogefabGreat
