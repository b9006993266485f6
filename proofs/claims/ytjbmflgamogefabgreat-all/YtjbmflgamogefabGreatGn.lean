/- The code's newMachine: the machine while it is made. -/
import Derived.Test.YtjbmflgamogefabGreatGm10
import Derived.Test.YtjbmflgamogefabGreatGCheck
import Derived.Test.YtjbmflgamogefabGreatWzA
import Derived.Deep.Upon
namespace Go.Proofs.YtjbmflgamogefabGreat
open Go.RowKit

theorem Zm_def : Zm = #[.slice none 0 0, .int .i64 0, .int .i64 0, .int .i64 0, .int .i64 0, .int .i64 0, .int .i64 0, .int .i64 0, .int .i64 0, .int .i64 0, .slice none 0 0, .slice none 0 0, .int .i64 0, .slice none 0 0, .slice none 0 0, .int .i64 0, .slice none 0 0, .slice none 0 0, .int .i64 0, .slice none 0 0, .slice none 0 0, .slice none 0 0, .slice none 0 0, .slice none 0 0, .slice none 0 0] := rfl
theorem Zm_size : Zm.size = 25 := rfl
theorem Zm_one : Zm.all (·.oneCell') = true := by decide +kernel
/-- The owners of the first j locks are set. -/
def ownZ : Nat → Array Value
  | 0 => Zm
  | j + 1 => (ownZ j).setIfInBounds (9 + j * 3) (.int .i64 (-1))
theorem ownZ_size : ∀ j, (ownZ j).size = 25
  | 0 => rfl
  | j + 1 => by rw [ownZ, Array.size_setIfInBounds, ownZ_size j]
theorem ownZ_at {j : Nat} (h : j < 4) : (ownZ j)[9 + j * 3]? = some (.int .i64 0) := by
  match j, h with
  | 0, _ => rfl
  | 1, _ => rfl
  | 2, _ => rfl
  | 3, _ => rfl
/-- The machine's cells: the threads' slice, the queue's. -/
def mCells (tv qv : Value) : Array Value := ((ownZ 4).setIfInBounds 0 tv).setIfInBounds 21 qv
theorem mCells_eq (tv qv : Value) : mCells tv qv = #[tv, .int .i64 0, .int .i64 0, .int .i64 0, .int .i64 0, .int .i64 0, .int .i64 0, .int .i64 0, .int .i64 0, .int .i64 (-1), .slice none 0 0, .slice none 0 0, .int .i64 (-1), .slice none 0 0, .slice none 0 0, .int .i64 (-1), .slice none 0 0, .slice none 0 0, .int .i64 (-1), .slice none 0 0, .slice none 0 0, qv, .slice none 0 0, .slice none 0 0, .slice none 0 0] := rfl
theorem mCells_size (tv qv : Value) : (mCells tv qv).size = 25 := rfl
theorem mCells_tv (tv qv tv' : Value) : (mCells tv qv).setIfInBounds 0 tv' = mCells tv' qv := rfl
theorem mCells_qv (tv qv qv' : Value) : (mCells tv qv).setIfInBounds 21 qv' = mCells tv qv' := rfl
def thr1 (v : Value) : List Value := [v, .int .i64 0, .int .i64 0, .int .i64 0, .int .i64 0, .int .i64 0, .int .i64 0, .int .i64 0, .int .i64 0, .int .u8 82, .int .i64 0, .int .i64 0]
def thCells : List Value → List Value
  | [] => []
  | v :: t => thr1 v ++ thCells t
theorem thCells_snoc (v : Value) : ∀ M, thCells (M ++ [v]) = thCells M ++ thr1 v
  | [] => by simp [thCells]
  | x :: t => by simp [thCells, thCells_snoc v t]
theorem thCells_get : ∀ (M : List Value) (k : Nat) (v : Value), M[k]? = some v → ∀ o, o < 12 → (thCells M)[k * 12 + o]? = (thr1 v)[o]?
  | [], k, v, h, _, _ => by simp at h
  | x :: t, 0, v, h, o, ho => by
    simp at h; subst h
    rw [thCells, Nat.zero_mul, Nat.zero_add, List.getElem?_append_left (by simpa [thr1] using ho)]
  | x :: t, k + 1, v, h, o, ho => by
    have := thCells_get t k v (by simpa using h) o ho
    rw [thCells, List.getElem?_append_right (by simp [thr1]; omega), ← this]
    congr 1
    simp [thr1]; omega

structure NewAt (base b : Nat) (wr : World) (tv qv : Value) (M : List Value) (i : Nat) : Prop where
  self : wr.heap[b]? = some (.cells (mCells tv qv) 74 (0, 0))
  row : wr.ownsRow base 80 12 tv M.length (thCells M)
  que : ∃ g, SlAt wr qv (castN (List.range i)) g ∧ ∀ x, g = some x → base ≤ x
  low : base ≤ b ∧ base ≤ wr.heap.size
theorem row_ne {w : World} {base e size n : Nat} {v : Value} {xs : List Value} (h : w.ownsRow base e size v n xs) {k : Nat} {cs : Array Value} {t : TypeId} {fr : Nat × Nat} (hk : w.heap[k]? = some (.cells cs t fr)) (hne : ¬ t = e) : some k ≠ v.ownBlock := by
  intro x
  rcases h.2 with ⟨rfl, _⟩ | ⟨g, cap, cur, rfl, _, hg, _⟩
  · simp [Value.ownBlock] at x
  · simp only [Value.ownBlock, Option.some.injEq] at x
    subst x
    rw [hk] at hg
    simp only [Option.some.injEq, Obj.cells.injEq] at hg
    exact hne hg.2.1
theorem row_low {w : World} {base e size n : Nat} {v : Value} {xs : List Value} (h : w.ownsRow base e size v n xs) : ∀ g, v.ownBlock = some g → base ≤ g := by
  intro x hx
  rcases h.2 with ⟨rfl, _⟩ | ⟨g, cap, cur, rfl, hb, hg, _⟩
  · simp [Value.ownBlock] at hx
  · simp only [Value.ownBlock, Option.some.injEq] at hx
    omega
theorem slat_ne {w : World} {v : Value} {xs : List Int} {g : Option Nat} (h : SlAt w v xs g) {k : Nat} {cs : Array Value} {t : TypeId} {fr : Nat × Nat} (hk : w.heap[k]? = some (.cells cs t fr)) (hne : ¬ t = 3) : some k ≠ g := SlG.ne (E := 3) (I := .i64) h hk hne
theorem slat_set {w : World} {v : Value} {xs : List Int} {g : Option Nat} (h : SlAt w v xs g) {k o : Nat} {u : Value} {cs : Array Value} {t : TypeId} {fr : Nat × Nat} (hk : w.heap[k]? = some (.cells cs t fr)) (hne : ¬ t = 3) : SlAt (w.setCell ⟨k, o, none⟩ u) v xs g := SlG.set_other (E := 3) (I := .i64) h hk hne
theorem NewAt.cells {base b : Nat} {wr : World} {tv qv : Value} {M : List Value} {i : Nat} (h : NewAt base b wr tv qv M i) : wr.cell? ⟨b, 0, none⟩ = some tv ∧ wr.cell? ⟨b, 21, none⟩ = some qv ∧ b < wr.heap.size :=
  ⟨by rw [cell_of_row _ _ 0 _ _ _ h.self]; rfl, by rw [cell_of_row _ _ 21 _ _ _ h.self]; rfl, (Array.getElem?_eq_some_iff.1 h.self).1⟩
/-- A thread is laid. -/
theorem NewAt.thr {base b : Nat} {wr w0 w1 : World} {tv tv' qv v : Value} {M : List Value} {i : Nat} (h : NewAt base b wr tv qv M i) (hb : Below wr.heap.size wr w0) (ho : w1.ownsRow base 80 12 tv' (M.length + 1) (thCells M ++ thr1 v)) (hg : w0.grownBy w1 tv.ownBlock) :
    NewAt base b (w1.setCell ⟨b, 0, none⟩ tv') tv' qv (M ++ [v]) i ∧ Below base wr (w1.setCell ⟨b, 0, none⟩ tv') ∧ w1.cell? ⟨b, 0, none⟩ = some tv ∧ w1.frozen? ⟨b, 0, none⟩ = false := by
  have lt : ∀ {j o}, wr.heap[j]? = some o → j < wr.heap.size := fun hj => (Array.getElem?_eq_some_iff.1 hj).1
  have r0 : w0.ownsRow base 80 12 tv M.length (thCells M) := own_below h.row hb
  have s0 : w0.heap[b]? = some (.cells (mCells tv qv) 74 (0, 0)) := (hb.block _ (lt h.self)).trans h.self
  have s1 : w1.heap[b]? = some (.cells (mCells tv qv) 74 (0, 0)) := (hg.block _ (Array.getElem?_eq_some_iff.1 s0).1 (row_ne r0 s0 (by decide))).trans s0
  obtain ⟨g, q1, q2⟩ := h.que
  have q0 : SlAt w0 qv (castN (List.range i)) g := q1.kept (fun x hx => hb.block x (q1.lt x hx))
  have q3 : SlAt w1 qv (castN (List.range i)) g := q0.kept (fun x hx => hg.block x (q0.lt x hx) (fun e => by
    rcases q0 with ⟨_, _, e1⟩ | ⟨b', off, cap, cur, _, e2, e3, _⟩
    · rw [e1] at hx; cases hx
    · rw [e2] at hx; cases hx
      exact row_ne r0 e3 (by decide) e))
  have hB : Below base wr w1 := ⟨hg.os.trans hb.os, hg.tape.trans hb.tape, hg.output.trans hb.output, Nat.le_trans hb.size hg.size, fun j hj => by
    have hl := h.low.2
    rw [hg.block j (by have := hb.size; omega) (fun e => by have := row_low r0 j e.symm; omega), hb.block j (by omega)]⟩
  refine ⟨⟨?_, ?_, ⟨g, slat_set q3 s1 (by decide), q2⟩, h.low.1, ?_⟩, hB.setCell h.low.1 _, by rw [cell_of_row _ _ 0 _ _ _ s1]; rfl, frozen_row s1 0⟩
  · rw [heap_setCell_same w1 b 0 _ _ _ s1, mCells_tv]
  · rw [thCells_snoc, List.length_append]; exact own_set_other ho s1 (by decide)
  · have := hB.size; have := h.low.2; simp [World.setCell]; omega
/-- A thread stands in the queue. -/
theorem NewAt.queue {base b : Nat} {wr w0 w1 : World} {tv qv qv' : Value} {M : List Value} {i : Nat} {g g' : Option Nat} (h : NewAt base b wr tv qv M i) (hs : SlAt wr qv (castN (List.range i)) g) (hl : ∀ x, g = some x → base ≤ x) (hb : Below wr.heap.size wr w0) (ho : SlAt w1 qv' (castN (List.range i) ++ [(i : Int)]) g') (hg : w0.grownBy w1 g) (hf : g' = g ∨ ∃ x, g' = some x ∧ w0.heap.size ≤ x) :
    NewAt base b (w1.setCell ⟨b, 21, none⟩ qv') tv qv' M (i + 1) ∧ Below base wr (w1.setCell ⟨b, 21, none⟩ qv') ∧ w1.cell? ⟨b, 21, none⟩ = some qv ∧ w1.frozen? ⟨b, 21, none⟩ = false := by
  have lt : ∀ {j o}, wr.heap[j]? = some o → j < wr.heap.size := fun hj => (Array.getElem?_eq_some_iff.1 hj).1
  have r0 : w0.ownsRow base 80 12 tv M.length (thCells M) := own_below h.row hb
  have s0 : w0.heap[b]? = some (.cells (mCells tv qv) 74 (0, 0)) := (hb.block _ (lt h.self)).trans h.self
  have q0 : SlAt w0 qv (castN (List.range i)) g := hs.kept (fun x hx => hb.block x (hs.lt x hx))
  have s1 : w1.heap[b]? = some (.cells (mCells tv qv) 74 (0, 0)) := (hg.block _ (Array.getElem?_eq_some_iff.1 s0).1 (slat_ne q0 s0 (by decide))).trans s0
  have r1 : w1.ownsRow base 80 12 tv M.length (thCells M) := by
    refine ⟨r0.1, ?_⟩
    rcases r0.2 with e | ⟨gg, cap, cur, e1, e2, e3, e4⟩
    · exact .inl e
    · exact .inr ⟨gg, cap, cur, e1, e2, (hg.block gg (Array.getElem?_eq_some_iff.1 e3).1 (slat_ne q0 e3 (by decide))).trans e3, e4⟩
  have hB : Below base wr w1 := ⟨hg.os.trans hb.os, hg.tape.trans hb.tape, hg.output.trans hb.output, Nat.le_trans hb.size hg.size, fun j hj => by
    have hl2 := h.low.2
    rw [hg.block j (by have := hb.size; omega) (fun e => by have := hl j e.symm; omega), hb.block j (by omega)]⟩
  refine ⟨⟨?_, own_set_other r1 s1 (by decide), ⟨g', ?_, fun x hx => ?_⟩, h.low.1, ?_⟩, hB.setCell h.low.1 _, by rw [cell_of_row _ _ 21 _ _ _ s1]; rfl, frozen_row s1 21⟩
  · rw [heap_setCell_same w1 b 21 _ _ _ s1, mCells_qv]
  · rw [List.range_succ, castN_snoc]; exact slat_set ho s1 (by decide)
  · rcases hf with e | ⟨y, e, hy⟩
    · rw [e] at hx; exact hl x hx
    · rw [e] at hx; cases hx; have := hb.size; have := h.low.2; omega
  · have := hB.size; have := h.low.2; simp [World.setCell]; omega

set_option maxHeartbeats 1000000 in
/-- join, whatever the line lies in. -/
theorem g_join_raw (b P : Nat) (qv : Value) (xs : List Int) (g : Option Nat) (x : Int) (w : World) (hs : SlAt w qv xs g) (c3 : w.cell? ⟨b, P, none⟩ = some qv) (_c5 : b < w.heap.size) (hl : xs.length ≤ 1000) (R : World → Prop)
    (FIN0 : ∀ w1 v g', SlAt w1 v (xs ++ [x]) g' → (w.alloc (.cells #[.int .i64 x] 3)).grownBy w1 g → (g' = g ∨ ∃ y, g' = some y ∧ (w.alloc (.cells #[.int .i64 x] 3)).heap.size ≤ y) → R (w1.setCell ⟨b, P, none⟩ v) ∧ w1.cell? ⟨b, P, none⟩ = some qv ∧ w1.frozen? ⟨b, P, none⟩ = false) :
    Calls Tryz.prog 59 #[.pointer (some ⟨b, P, none⟩), .int .i64 x] w fun e w' => e = .returned (.tuple #[]) ∧ R w' := by
  have HSL : Hid (∀ W, Below w.heap.size w W → SlAt W qv xs g) := fun W hW => hs.kept (fun b hb => hW.block b (hs.lt b hb))
  have FIN := hide FIN0
  have HL : Hid (xs.length ≤ 1000000) := by unfold Hid; omega
  obtain ⟨i0, hi0, hz0, hz1, hz2⟩ := info_parts Tryz.info3
  clear hs hl FIN0
  go_enter Tryz.func59, Tryz.ntmps59
  go_wp2_with (at_builtin; refine wpList_append_sl _ rfl _ _ 29 rfl i0 Tryz.underlying29 hi0 hz0 hz1 hz2 _ xs g rfl (HSL.out _ ((Below.refl _ _).alloc (Nat.le_refl _) _)) ⟨w.heap.size, 0, none⟩ 1 x rfl (one_atG rfl) HL.out ?_; intro v' w1 g' ha hgr hfr; obtain ⟨ao, cp, rfl⟩ := ha.slice; obtain ⟨R, y0, y1⟩ := FIN.out w1 _ g' ha hgr hfr; clear ha hgr hfr)
  go_end0
  rw [List.length_append, List.length_singleton] at R
  exact ⟨rfl, R⟩

theorem info_thr : (Tryz.prog.info? 80).map (fun i => (i.zero, i.size, i.bytes)) = some (some (.agg #[.slice none 0 0, .int .i64 0, .int .i64 0, .int .i64 0, .int .i64 0, .int .i64 0, .int .i64 0, .int .i64 0, .int .i64 0, .int .u8 0, .int .i64 0, .int .i64 0]), 12, 112) := by kernel_rfl
theorem under_thr : Tryz.prog.underlying 65 = some (.slice 80) := by kernel_rfl
def Lists (w : World) (cs : Cods) (M : List Value) (j : Nat) : Prop := ∀ (k : Nat) (x : Nat × List In), k < j → cs[k]? = some x → ∃ lv, M[k]? = some lv ∧ GIns w lv x.2
theorem newsT (w : World) (o : Obj) (v : Value) (n : Nat) (hn : n = (w.alloc o).heap.size) : ∀ j u, (thr1 v)[j]? = some u → ((w.alloc o).alloc (.cells #[v, .int .i64 0, .int .i64 0, .int .i64 0, .int .i64 0, .int .i64 0, .int .i64 0, .int .i64 0, .int .i64 0, .int .u8 82, .int .i64 0, .int .i64 0] 80)).cell? ((⟨n, 0, none⟩ : Addr).add j) = some u := by
  subst hn; exact World.news_of_block (cs := #[v, .int .i64 0, .int .i64 0, .int .i64 0, .int .i64 0, .int .i64 0, .int .i64 0, .int .i64 0, .int .i64 0, .int .u8 82, .int .i64 0, .int .i64 0]) (heap_alloc_new (w.alloc o) _)
theorem two_newG (w : World) (o o' : Obj) : Below w.heap.size w ((w.alloc o).alloc o') := ((Below.refl _ _).alloc (Nat.le_refl _) _).alloc (by simp) _
theorem thr1_one (ao : Option Addr) (n c : Nat) : ∀ u ∈ thr1 (.slice ao n c), u.oneCell' = true := by
  intro u hu
  simp [thr1] at hu
  rcases hu with rfl | rfl | rfl | rfl <;> rfl
theorem NewAt.thr_keep {base b : Nat} {wr w0 w1 : World} {tv qv u : Value} {M : List Value} {i o : Nat} (h : NewAt base b wr tv qv M i) (hb : Below wr.heap.size wr w0) (hg : w0.grownBy w1 tv.ownBlock) {k : Nat} {c : Array Value} {fr : Nat × Nat} (hk : wr.heap[k]? = some (.cells c 74 fr)) (hne : ¬ k = b) : (w1.setCell ⟨b, o, none⟩ u).heap[k]? = some (.cells c 74 fr) := by
  have k0 := (hb.block _ (Array.getElem?_eq_some_iff.1 hk).1).trans hk
  rw [Below.heap_setCell _ _ _ _ hne, hg.block k (Array.getElem?_eq_some_iff.1 k0).1 (row_ne (own_below h.row hb) k0 (by decide))]
  exact k0
theorem queue_keep {wr w0 w1 : World} {qv u : Value} {xs : List Int} {g : Option Nat} {o b : Nat} (hs : SlAt wr qv xs g) (hb : Below wr.heap.size wr w0) (hg : w0.grownBy w1 g) {k : Nat} {c : Array Value} {fr : Nat × Nat} (hk : wr.heap[k]? = some (.cells c 74 fr)) (hne : ¬ k = b) : (w1.setCell ⟨b, o, none⟩ u).heap[k]? = some (.cells c 74 fr) := by
  have k0 := (hb.block _ (Array.getElem?_eq_some_iff.1 hk).1).trans hk
  have q0 : SlAt w0 qv xs g := hs.kept (fun x hx => hb.block x (hs.lt x hx))
  rw [Below.heap_setCell _ _ _ _ hne, hg.block k (Array.getElem?_eq_some_iff.1 k0).1 (slat_ne q0 k0 (by decide))]
  exact k0
theorem join_new {base b : Nat} {wr : World} {tv qv : Value} {M : List Value} {i : Nat} (h : NewAt base b wr tv qv M i) (hi : i ≤ 1000) :
    Calls Tryz.prog 59 #[.pointer (some ⟨b, 21, none⟩), .int .i64 i] wr fun e w' => e = .returned (.tuple #[]) ∧ ∃ qv', NewAt base b w' tv qv' M (i + 1) ∧ Below base wr w' ∧ ∀ (k : Nat) (c : Array Value), wr.heap[k]? = some (.cells c 74 (0, 0)) → ¬ k = b → w'.heap[k]? = some (.cells c 74 (0, 0)) := by
  obtain ⟨g, q1, q2⟩ := h.que
  obtain ⟨_, c1, c2⟩ := h.cells
  refine g_join_raw b 21 qv _ g i wr q1 c1 c2 (by simp [castN]; exact hi) (fun w' => ∃ qv', NewAt base b w' tv qv' M (i + 1) ∧ Below base wr w' ∧ ∀ (k : Nat) (c : Array Value), wr.heap[k]? = some (.cells c 74 (0, 0)) → ¬ k = b → w'.heap[k]? = some (.cells c 74 (0, 0))) (fun w1 v g' h1 h2 h3 => ?_)
  obtain ⟨p1, p2, p3⟩ := h.queue q1 q2 ((Below.refl _ _).alloc (Nat.le_refl _) _) h1 h2 h3
  exact ⟨⟨v, p1, p2, fun k c hk hne => queue_keep q1 ((Below.refl _ _).alloc (Nat.le_refl _) _) h2 hk hne⟩, p3⟩
theorem there_of {w : World} {b n : Nat} {c : Array Value} {t : TypeId} (h : w.heap[b]? = some (.cells c t (0, 0))) (hn : c.size = n) : w.there b 0 n := fun j hj => by
  rw [Nat.zero_add]
  exact ⟨by rw [cell_of_row _ _ _ _ _ _ h]; simp; omega, frozen_row h _⟩
theorem mCells_one (a a' : Option Addr) (n n' c c' : Nat) : (mCells (.slice a n c) (.slice a' n' c')).all (·.oneCell') = true := by
  rw [mCells_eq, ← Array.all_toList]; rfl
theorem setCells_size (b : Nat) : ∀ (vs : List Value) (o : Nat) (w : World), (w.setCells b o vs).heap.size = w.heap.size ∧ (w.setCells b o vs).tape = w.tape
  | [], _, _ => ⟨rfl, rfl⟩
  | v :: r, o, w => by
    obtain ⟨h1, h2⟩ := setCells_size b r (o + 1) (w.setCell ⟨b, o, none⟩ v)
    rw [World.setCells, h1, h2]
    exact ⟨by simp [World.setCell], rfl⟩
theorem results_cell {fn : Func} {p : Tmp} {ty : TypeId} (h : fn.results = #[.cell p ty]) (tmps : Array Value) (P : Program) (w : World) :
    (results fn tmps).run P w = ((asAddr (tmps.getD p undef)).run P w).andThen fun a w₁ => (loadVar ty a).run P w₁ := by
  simp only [results, h]
  simp [Sem.run_bind, Result.andThen]
theorem ret_cell {fn : Func} {p : Tmp} {ty : TypeId} (h : fn.results = #[.cell p ty]) {tmps : Array Value} {P : Program} {w : World} {a : Addr} (ht : tmps.getD p undef = .pointer (some a)) {v : Value} (hl : (loadVar ty a).run P w = .ok v w) : (results fn tmps).run P w = .ok v w := by
  rw [results_cell h, ht]
  simp only [asAddr, Sem.run_pure, Result.andThen_ok]
  exact hl
theorem NewAt.res {base b : Nat} {wr : World} {tv qv : Value} {M : List Value} {i : Nat} (h : NewAt base b wr tv qv M i) {r : Nat} {c : Array Value} (hr : wr.heap[r]? = some (.cells c 74 (0, 0))) (hne : ¬ r = b) (hl : base ≤ r) (vs : List Value) :
    NewAt base b (wr.setCells r 0 vs) tv qv M i ∧ Below base wr (wr.setCells r 0 vs) := by
  have lt : ∀ {j o}, wr.heap[j]? = some o → j < wr.heap.size := fun hj => (Array.getElem?_eq_some_iff.1 hj).1
  have hsz : (wr.setCells r 0 vs).heap.size = wr.heap.size := (setCells_size r vs 0 wr).1
  have hB : Below base wr (wr.setCells r 0 vs) := ⟨World.os_setCells .., (setCells_size r vs 0 wr).2, World.output_setCells .., by rw [hsz]; exact Nat.le_refl _, fun j hj => World.heap_setCells_other wr r 0 vs (by have := h.low.2; omega) (by omega)⟩
  obtain ⟨g, q1, q2⟩ := h.que
  refine ⟨⟨?_, ⟨h.row.1, ?_⟩, ⟨g, q1.kept (fun x hx => World.heap_setCells_other wr r 0 vs (q1.lt x hx) (fun e => ?_)), q2⟩, h.low.1, by rw [hsz]; exact h.low.2⟩, hB⟩
  · rw [World.heap_setCells_other wr r 0 vs (lt h.self) (fun e => hne e.symm)]; exact h.self
  · rcases h.row.2 with e | ⟨gg, cap, cur, e1, e2, e3, e4⟩
    · exact .inl e
    · refine .inr ⟨gg, cap, cur, e1, e2, ?_, e4⟩
      rw [World.heap_setCells_other wr r 0 vs (lt e3) (fun e => ?_)]; exact e3
      subst e; rw [hr] at e3; simp at e3
  · subst e; exact slat_ne q1 hr (by decide) hx.symm
theorem load_res {W : World} {r : Nat} {cs : Array Value} (hc : W.rangeAt r 0 cs.toList) (hs : cs.size = 25) : (loadVar 74 ⟨r, 0, none⟩).run Tryz.prog W = .ok (.agg cs) W := by
  obtain ⟨d, h1, h2⟩ := under_m
  have := run_loadVar_mid (P := Tryz.prog) W r 0 74 cs.toList d hc h1 h2 (by rw [size_m, Array.length_toList, hs])
  rw [Array.toArray_toList] at this
  exact this
theorem start_new {w wA wB : World} (hA : wA.heap.size = w.heap.size + 1) (hB : wB.heap[wA.heap.size]? = some (.cells (ownZ 4) 74 (0, 0))) (hsz : wB.heap.size = wA.heap.size + 1) :
    NewAt w.heap.size wA.heap.size wB (.slice none 0 0) (.slice none 0 0) [] 0 :=
  ⟨hB, World.ownsRow_nil _ _ _ _, ⟨none, SlAt.nil _, fun _ h => by cases h⟩, by omega, by omega⟩

set_option maxRecDepth 100000 in
set_option maxHeartbeats 4000000 in
theorem g_newMachine (cs : Cods) (ao : Option Addr) (cap : Nat) (w : World) (h : GCods w 0 (.slice ao cs.length cap) cs) (hl4 : cs.length ≤ 4) :
    Calls Tryz.prog 41 #[.slice ao cs.length cap] w fun e w' => ∃ tv qv M b, e = .returned (.agg (mCells tv qv)) ∧ NewAt w.heap.size b w' tv qv M cs.length ∧ Below w.heap.size w w' ∧ M.length = cs.length ∧ Lists w cs M cs.length := by
  have H := hide h
  clear h
  go_enter Tryz.func41, Tryz.ntmps41
  go_upto_region 1 with fail
  rw [← Zm_def]
  have WB := hide ((Below.refl w.heap.size w).alloc (Nat.le_refl _) (.cells Zm 74))
  obtain ⟨wA, hwA⟩ : ∃ wA, wA = w.alloc (.cells Zm 74) := ⟨_, rfl⟩
  rw [← hwA] at WB ⊢
  have HA : Hid (wA.heap.size = w.heap.size + 1) := by rw [hwA]; simp [Hid]
  have HW0 : Hid (wA.heap[w.heap.size]? = some (.cells Zm 74 (0, 0))) := by rw [hwA]; exact heap_alloc_new w _
  clear hwA
  go_wp2_with (first
    | (refine wpList_build_m rfl rfl ?_)
    | (refine wpList_alloc_m rfl rfl ?_)
    | (refine wpList_store_new rfl 74 (.tmp 3) (.tmp 7) rfl Zm Zm rfl rfl rfl size_m rfl Zm_one ?_))
  go_loopw [8] (fun s wr => ∃ j : Nat, j ≤ 4 ∧ s = .int .i64 j ∧ wr = wA.alloc (.cells (ownZ j) 74)) (fun s _ => 4 - (intOf s).toNat)
  case atStart => exact ⟨0, Nat.zero_le _, rfl, rfl⟩
  case round =>
    obtain ⟨j, hj, rfl, rfl⟩ := hrel
    by_cases hlt : j < 4
    · have hlt1 : (j : Int) < 4 := by omega
      have z0 : (wA.alloc (.cells (ownZ j) 74)).cell? ⟨wA.heap.size, 9 + j * 3, none⟩ = some (.int .i64 0) := by
        rw [cell_of_row _ _ _ _ _ _ (heap_alloc_new wA _)]; exact ownZ_at hlt
      have z1 : (wA.alloc (.cells (ownZ j) 74)).frozen? ⟨wA.heap.size, 9 + j * 3, none⟩ = false := frozen_row (heap_alloc_new wA _) _
      have HE : Hid (wA.alloc (.cells ((ownZ j).setIfInBounds (9 + j * 3) (.int .i64 (-1))) 74) = wA.alloc (.cells (ownZ (j + 1)) 74)) := rfl
      generalize ownZ j = Oj at *
      go_wp2_with fail
      go_roundw
      case rel => exact ⟨j + 1, by omega, by go_num, HE.out⟩
      case measure => simp [intOf]; omega
    · obtain rfl : j = 4 := by omega
      clear hlt hj
      rw [show ((4 : Nat) : Int) = 4 from rfl]
      have hB := heap_alloc_new wA (.cells (ownZ 4) 74)
      have hB2 : Below wA.heap.size wA (wA.alloc (.cells (ownZ 4) 74)) := (Below.refl _ _).alloc (Nat.le_refl _) _
      have hsz : (wA.alloc (.cells (ownZ 4) 74)).heap.size = wA.heap.size + 1 := by simp
      generalize wA.alloc (.cells (ownZ 4) 74) = wB at *
      have HN0 := hide (start_new HA.out hB hsz)
      have HBB : Hid (Below w.heap.size w wB) := WB.out.trans (hB2.mono (by have := HA.out; omega))
      have HR0 : Hid (wB.heap[w.heap.size]? = some (.cells Zm 74 (0, 0))) := (hB2.block _ (by have := HA.out; omega)).trans HW0.out
      generalize wA.heap.size = b at *
      clear hB hB2 hsz WB HW0
      go_wp2_with fail
      go_loopw [18] (fun s wr => ∃ (j : Nat) (tv qv : Value) (M : List Value), j ≤ cs.length ∧ s = .int .i64 j ∧ M.length = j ∧ NewAt w.heap.size b wr tv qv M j ∧ Below w.heap.size w wr ∧ wr.heap[w.heap.size]? = some (.cells Zm 74 (0, 0)) ∧ Hid (Lists w cs M j)) (fun s _ => cs.length - (intOf s).toNat)
      case atStart => exact ⟨0, _, _, [], Nat.zero_le _, rfl, rfl, HN0.out, HBB.out, HR0.out, fun k x hk => by omega⟩
      case round =>
        obtain ⟨j, tv, qv, M, hj, rfl, hM, hN, hBl, hRs, hLs⟩ := hrel
        by_cases hlt : j < cs.length
        · have hlt1 : (j : Int) < (cs.length : Int) := by omega
          obtain ⟨⟨st, I⟩, hx⟩ : ∃ x, cs[j]? = some x := ⟨cs[j], by simp [hlt]⟩
          obtain ⟨g, lv, rfl, hg, d0, d1, hI⟩ := H.out.at hx
          have d0 := (hBl.cell (p := ⟨g, j * 2, none⟩) hg).trans d0
          have d1 := (hBl.cell (p := ⟨g, j * 2 + 1, none⟩) hg).trans d1
          have hgr0 : g < wr.heap.size := Nat.lt_of_lt_of_le hg hBl.size
          obtain ⟨lo, lcap, rfl⟩ := row_slice hI
          obtain ⟨t0, t1, t2⟩ := hN.cells
          obtain ⟨i0, hi0, hz0, hz1, hz2⟩ := info_parts info_thr
          have hwl : w.heap.size ≤ wr.heap.size := hBl.size
          have HLS : Hid (Lists w cs (M ++ [.slice lo I.length lcap]) (j + 1)) := fun k x hk hkx => by
            by_cases e : k = j
            · subst e
              rw [hx] at hkx
              cases hkx
              exact ⟨_, by rw [List.getElem?_append_right (by omega)]; simp [hM], hI⟩
            · obtain ⟨u, hu, hu2⟩ := hLs.out k x (by omega) hkx
              exact ⟨u, by rw [List.getElem?_append_left (by omega)]; exact hu, hu2⟩
          have HN := hide hN
          have HNB : Hid (¬ w.heap.size = b) := by have := HA.out; unfold Hid; omega
          have HBL := hide hBl
          have HRS := hide hRs
          have hMl : M.length ≤ 4 := by omega
          generalize hIl : I.length = IL at *
          clear hN hBl hRs hx hI hLs
          go_wp2_with (at_builtin; go_loud ((refine wpList_append_own _ rfl _ _ 65 rfl w.heap.size 80 i0 _ 12 112 under_thr hi0 hz0 hz1 hz2 rfl (by decide) _ _ _ rfl (own_below HN.out.row (two_newG _ _ _)) ⟨wr.heap.size + 1, 0, none⟩ 1 1 (thr1 (.slice lo IL lcap)) rfl rfl (newsT _ _ _ _ (by simp)) (thr1_one _ _ _) (by unfold maxLen; omega) (by omega) (by simp; omega) ?_); intro v' w1 ha hgr _; obtain ⟨ao2, cp2, rfl⟩ := row_slice ha; obtain ⟨R1, R2, R3, R4⟩ := HN.out.thr (two_newG _ _ _) ha hgr; have HK2 := hide (HN.out.thr_keep (u := .slice ao2 (M.length + 1) cp2) (o := 0) (two_newG _ _ _) hgr HRS.out HNB.out); rw [hM] at R1 R2 HK2; have HB2 := hide R2; have J := hide (join_new R1 (by omega)); clear ha hgr R1 R2))
          refine J.out.mono ?_
          rintro e w3 ⟨rfl, qv3, n3, b3, k3⟩
          have N3 := hide n3
          have B3 := hide (HBL.out.trans (HB2.out.trans b3))
          have K3 := hide (k3 _ _ HK2.out HNB.out)
          have hM3 : (M ++ [Value.slice lo IL lcap]).length = j + 1 := by rw [List.length_append, List.length_singleton, hM]
          clear n3 b3 k3 J HB2 HK2 HN HBL HRS
          go_wp2_with fail
          go_roundw
          case rel => exact ⟨j + 1, _, _, _, by omega, by go_num, hM3, N3.out, B3.out, K3.out, HLS⟩
          case measure => simp [intOf]; omega
        · obtain rfl : j = cs.length := by omega
          have HN := hide hN
          have HBL := hide hBl
          have HLS := hide hLs.out
          have HNB : Hid (¬ w.heap.size = b) := by have := HA.out; unfold Hid; omega
          obtain ⟨ta, tc, htv⟩ := row_slice hN.row
          obtain ⟨qg, hq1, _⟩ := hN.que
          obtain ⟨qa, qc, hqv⟩ := hq1.slice
          have HT := hide (there_of (n := (mCells tv qv).size) hRs rfl)
          have HO : Hid ((mCells tv qv).all (·.oneCell') = true) := by rw [htv, hqv]; exact mCells_one _ _ _ _ _ _
          have HW := hide (hN.res hRs HNB.out (Nat.le_refl _) (mCells tv qv).toList)
          have HL := hide (load_res (World.rangeAt_setCells_same wr w.heap.size 0 (mCells tv qv).toList (by rw [Array.length_toList]; exact HT.out)) (mCells_size tv qv))
          have hlt1 : ¬ (cs.length : Int) < (cs.length : Int) := by omega
          clear hN hBl hLs htv hqv hq1
          go_wp2_with (first
            | (refine wpList_load_m rfl (.tmp 3) rfl b rfl _ HN.out.self (mCells_size _ _) ?_)
            | (refine wpList_store_mid rfl 74 (.tmp 2) (.tmp 35) rfl w.heap.size 0 _ rfl rfl HT.out size_m HO.out ?_))
          refine bodyPost_ret (v := .agg (mCells tv qv)) (ret_cell Tryz.results41 rfl HL.out) rfl ?_
          exact ⟨tv, qv, rfl, M, ⟨b, HW.out.1⟩, HBL.out.trans HW.out.2, hM, HLS.out⟩

end Go.Proofs.YtjbmflgamogefabGreat
