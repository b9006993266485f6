/- green's reach and goOn: the walk's own memory. -/
import Derived.Test.YtjbmflgamogefabGreatMem
import Derived.Test.YtjbmflgamogefabGreatLeafG
import Derived.Deep.CutRange
import Derived.Deep.RegionLaw
namespace Go.Proofs.YtjbmflgamogefabGreat
open Go.RowKit

/-- Instructions of package green. -/
def giCells : List In → List Value
  | [] => []
  | x :: t => .int .u8 x.1 :: .int .i64 x.2 :: giCells t
theorem giCells_get : ∀ (I : List In) (k : Nat) (x : In), I[k]? = some x → (giCells I)[k * 2]? = some (.int .u8 x.1) ∧ (giCells I)[k * 2 + 1]? = some (.int .i64 x.2)
  | [], k, x, h => by simp at h
  | y :: t, 0, x, h => by simp at h; subst h; exact ⟨rfl, rfl⟩
  | y :: t, k + 1, x, h => by
    have := giCells_get t k x (by simpa using h)
    have e : (k + 1) * 2 = k * 2 + 2 := by omega
    rw [e]; simpa [giCells] using this
theorem giCells_snoc (x : In) : ∀ I : List In, giCells (I ++ [x]) = giCells I ++ [.int .u8 x.1, .int .i64 x.2]
  | [] => rfl
  | y :: t => by simp [giCells, giCells_snoc x t]
def GIns (w : World) (v : Value) (I : List In) : Prop := w.ownsRow 0 115 2 v I.length (giCells I)
theorem GIns.below {w w' : World} {v : Value} {I : List In} (h : GIns w v I) (hb : Below w.heap.size w w') : GIns w' v I := own_below h hb
theorem GIns.at {w : World} {ao : Option Addr} {n cap : Nat} {I : List In} (h : GIns w (.slice ao n cap) I) {k : Nat} {c a : Int} (hk : I[k]? = some (c, a)) :
    ∃ g, ao = some ⟨g, 0, none⟩ ∧ g < w.heap.size ∧ w.cell? ⟨g, k * 2, none⟩ = some (.int .u8 c) ∧ w.cell? ⟨g, k * 2 + 1, none⟩ = some (.int .i64 a) := by
  have hlt := (List.getElem?_eq_some_iff.1 hk).1
  obtain ⟨g, cap', hv, _, hg, hc⟩ := row_cell h (by omega)
  obtain ⟨g1, g2⟩ := giCells_get I k _ hk
  simp only [Value.slice.injEq] at hv
  exact ⟨g, hv.1, hg, hc _ _ g1, hc _ _ g2⟩

/-- Spots of package green: the row as a number. -/
def gsCells : List Sp → List Value
  | [] => []
  | x :: t => .int .i64 x.1 :: .int .i64 x.2.1 :: .int .i64 (enc x.2.2) :: gsCells t
theorem gsCells_get : ∀ (L : List Sp) (k : Nat) (x : Sp), L[k]? = some x → (gsCells L)[k * 3]? = some (.int .i64 x.1) ∧ (gsCells L)[k * 3 + 1]? = some (.int .i64 x.2.1) ∧ (gsCells L)[k * 3 + 2]? = some (.int .i64 (enc x.2.2))
  | [], k, x, h => by simp at h
  | y :: t, 0, x, h => by simp at h; subst h; exact ⟨rfl, rfl, rfl⟩
  | y :: t, k + 1, x, h => by
    have := gsCells_get t k x (by simpa using h)
    have e : (k + 1) * 3 = k * 3 + 3 := by omega
    rw [e]; simpa [gsCells] using this
theorem gsCells_snoc (x : Sp) : ∀ L : List Sp, gsCells (L ++ [x]) = gsCells L ++ [.int .i64 x.1, .int .i64 x.2.1, .int .i64 (enc x.2.2)]
  | [] => rfl
  | y :: t => by simp [gsCells, gsCells_snoc x t]
def GSpots (w : World) (D : Nat) (v : Value) (L : List Sp) : Prop := w.ownsRow D 112 3 v L.length (gsCells L)
theorem GSpots.at {w : World} {D : Nat} {ao : Option Addr} {n cap : Nat} {L : List Sp} (h : GSpots w D (.slice ao n cap) L) {k : Nat} {s : Sp} (hk : L[k]? = some s) :
    ∃ g, ao = some ⟨g, 0, none⟩ ∧ D ≤ g ∧ g < w.heap.size ∧ w.cell? ⟨g, k * 3, none⟩ = some (.int .i64 s.1) ∧ w.cell? ⟨g, k * 3 + 1, none⟩ = some (.int .i64 s.2.1) ∧ w.cell? ⟨g, k * 3 + 2, none⟩ = some (.int .i64 (enc s.2.2)) := by
  have hlt := (List.getElem?_eq_some_iff.1 hk).1
  obtain ⟨g, cap', hv, hd, hg, hc⟩ := row_cell h (by omega)
  obtain ⟨g1, g2, g3⟩ := gsCells_get L k _ hk
  simp only [Value.slice.injEq] at hv
  exact ⟨g, hv.1, hd, hg, hc _ _ g1, hc _ _ g2, hc _ _ g3⟩

/-- The marks: of each number whether its spot is in the list. -/
def Marks (N : Nat) (cur : Array Value) (L : List Sp) : Prop := cur.size = N ∧ ∀ j, j < N → cur[j]? = some (.bool (L.any (fun s => idx s == j)))
/-- The walk's memory: its struct at block b, the marks at block gs, its list of spots. -/
structure WalkAt (w : World) (D b gs : Nat) (lv sv : Value) (n : Nat) (L : List Sp) : Prop where
  self : w.heap[b]? = some (.cells #[lv, .slice (some ⟨gs, 0, none⟩) ((n + 1) * 625 * 7) ((n + 1) * 625 * 7), sv] 130 (0, 0))
  marks : ∃ cur, w.heap[gs]? = some (.cells cur 4 (0, 0)) ∧ Marks ((n + 1) * 625 * 7) cur L
  spots : GSpots w D sv L
  Db : D ≤ b
  Dg : D ≤ gs
/-- What a step of the walk leaves alone. -/
structure Kept (w w' : World) (b gs : Nat) (row : Option Nat) : Prop where
  os : w'.os = w.os
  tape : w'.tape = w.tape
  output : w'.output = w.output
  size : w.heap.size ≤ w'.heap.size
  block : ∀ k, k < w.heap.size → k ≠ b → k ≠ gs → some k ≠ row → w'.heap[k]? = w.heap[k]?
theorem Kept.below {w w' : World} {b gs D : Nat} {row : Option Nat} (h : Kept w w' b gs row) (hD : D ≤ w.heap.size) (hb : D ≤ b) (hg : D ≤ gs) (hr : ∀ k, row = some k → D ≤ k) : Below D w w' :=
  ⟨h.os, h.tape, h.output, h.size, fun k hk => h.block k (by omega) (by omega) (by omega) (fun e => by have := hr k e.symm; omega)⟩
theorem kept_of_below {w w' : World} (b gs : Nat) (row : Option Nat) (h : Below w.heap.size w w') : Kept w w' b gs row := ⟨h.os, h.tape, h.output, h.size, fun k hk _ _ _ => h.block k hk⟩
theorem Kept.trans {a x c : World} {b gs : Nat} {row row' : Option Nat} (h : Kept a x b gs row) (k : Kept x c b gs row') (hr : ∀ j, j < a.heap.size → row' = some j → row = some j) : Kept a c b gs row :=
  ⟨k.os.trans h.os, k.tape.trans h.tape, k.output.trans h.output, Nat.le_trans h.size k.size, fun i hi h1 h2 h3 => (k.block i (Nat.lt_of_lt_of_le hi h.size) h1 h2 (fun e => h3 (hr i hi e.symm).symm)).trans (h.block i hi h1 h2 h3)⟩

theorem any_idx {L : List Sp} {n : Nat} {s : Sp} (hv : ∀ t ∈ L, Valid n t) (hs : Valid n s) : L.any (fun t => idx t == idx s) = metL L s := by
  rw [Bool.eq_iff_iff, metL_iff, List.any_eq_true]
  constructor
  · rintro ⟨t, ht, e⟩
    have := idx_inj (hv t ht) hs (by simpa using e)
    subst this; exact ht
  · intro h; exact ⟨s, h, by simp⟩
theorem Marks.add {N : Nat} {cur : Array Value} {L : List Sp} {s : Sp} (h : Marks N cur L) (_hs : idx s < N) : Marks N (cur.setIfInBounds (idx s) (.bool true)) (L ++ [s]) := by
  refine ⟨by rw [Array.size_setIfInBounds]; exact h.1, fun j hj => ?_⟩
  rw [Array.getElem?_setIfInBounds]
  by_cases e : idx s = j
  · subst e
    rw [if_pos rfl, if_pos (by rw [h.1]; exact hj)]
    simp
  · rw [if_neg e, h.2 j hj, List.any_append]
    simp [e]

theorem Tryz.info112 : (Tryz.prog.info? 112).map (fun i => (i.zero, i.size, i.bytes)) = some (some (.agg #[.int .i64 0, .int .i64 0, .int .i64 0]), 3, 24) := by kernel_rfl

theorem own_block_type {w : World} {base e size n : Nat} {v : Value} {xs : List Value} (h : w.ownsRow base e size v n xs) {k : Nat} {cs : Array Value} {t : TypeId} {fr : Nat × Nat} (hk : w.heap[k]? = some (.cells cs t fr)) (hne : e ≠ t) : some k ≠ v.ownBlock := by
  intro hx
  rcases h.2 with ⟨rfl, _⟩ | ⟨g, cap, cur, rfl, _, hg, _⟩
  · simp [Value.ownBlock] at hx
  · simp only [Value.ownBlock, Option.some.injEq] at hx
    subst hx
    rw [hk] at hg
    simp only [Option.some.injEq, Obj.cells.injEq] at hg
    exact hne hg.2.1.symm
theorem ne_type {w : World} {k k' : Nat} {cs cs' : Array Value} {t t' : TypeId} {fr fr' : Nat × Nat} (h : w.heap[k]? = some (.cells cs t fr)) (h' : w.heap[k']? = some (.cells cs' t' fr')) (hne : t ≠ t') : k ≠ k' := by
  intro e; subst e; rw [h] at h'
  simp only [Option.some.injEq, Obj.cells.injEq] at h'
  exact hne h'.2.1
theorem twoG {w : World} {g : Nat} {x y : Value} {t : TypeId} (h : w.heap[g]? = some (.cells #[x, y] t (0, 0))) : w.cell? ⟨g, 0, none⟩ = some x ∧ w.cell? ⟨g, 1, none⟩ = some y :=
  ⟨by rw [cell_of_row _ _ 0 _ _ _ h]; rfl, by rw [cell_of_row _ _ 1 _ _ _ h]; rfl⟩
theorem heap_ltG {w : World} {k : Nat} {o : Obj} (h : w.heap[k]? = some o) : k < w.heap.size := (Array.getElem?_eq_some_iff.1 h).1
theorem addL_new {L : List Sp} {s : Sp} (h : metL L s = false) : addL L s = L ++ [s] := by rw [addL, h]; rfl

theorem reach_mid {w wc : World} {D b gs n : Nat} {lv sv : Value} {L : List Sp} {x : Nat} {box : Array Value} (hW : WalkAt w D b gs lv sv n L) (hwc : wc = (w.setCell ⟨gs, x, none⟩ (.bool true)).alloc (.cells box 112)) :
    wc.heap[b]? = w.heap[b]? ∧ (∀ cur, w.heap[gs]? = some (.cells cur 4 (0, 0)) → wc.heap[gs]? = some (.cells (cur.setIfInBounds x (.bool true)) 4 (0, 0))) ∧ wc.heap[w.heap.size]? = some (.cells box 112 (0, 0)) ∧ wc.heap.size = w.heap.size + 1 ∧ GSpots wc D sv L ∧ (∀ k, k < w.heap.size → k ≠ gs → wc.heap[k]? = w.heap[k]?) ∧ wc.os = w.os ∧ wc.tape = w.tape ∧ wc.output = w.output := by
  subst hwc
  obtain ⟨cur, hcur, _⟩ := hW.marks
  have hbg : b ≠ gs := ne_type hW.self hcur (by decide)
  have hz : (w.setCell ⟨gs, x, none⟩ (.bool true)).heap.size = w.heap.size := by simp [World.setCell]
  have hk : ∀ k, k < w.heap.size → k ≠ gs → ((w.setCell ⟨gs, x, none⟩ (.bool true)).alloc (.cells box 112)).heap[k]? = w.heap[k]? := fun k hk hne => by
    rw [Below.heap_alloc _ _ _ (by omega), Below.heap_setCell _ _ _ _ hne]
  refine ⟨hk b (heap_ltG hW.self) hbg, fun c hc => ?_, ?_, by simp [hz], ?_, hk, rfl, rfl, rfl⟩
  · rw [Below.heap_alloc _ _ _ (by rw [hz]; exact heap_ltG hc)]
    exact heap_setCell_same w gs x _ _ _ hc
  · have := heap_alloc_new (w.setCell ⟨gs, x, none⟩ (.bool true)) (.cells box 112)
    rw [hz] at this; exact this
  · exact own_below (own_set_other hW.spots hcur (by decide)) ((Below.refl _ _).alloc (Nat.le_refl _) _)

theorem reach_fin {w wc W w1 : World} {D b gs n g m cap' : Nat} {lv sv v1 : Value} {L : List Sp} {s : Sp} {x : Nat} {box : Array Value} (hW : WalkAt w D b gs lv sv n L) (hm : metL L s = false) (hx : x = idx s) (hil : idx s < (n + 1) * 625 * 7)
    (hwc : wc = (w.setCell ⟨gs, x, none⟩ (.bool true)).alloc (.cells box 112)) (hbW : Below wc.heap.size wc W)
    (hown : w1.ownsRow D 112 3 v1 (L.length + 1) (gsCells L ++ [.int .i64 s.1, .int .i64 s.2.1, .int .i64 (enc s.2.2)])) (hg : W.grownBy w1 sv.ownBlock) (hv1 : v1 = .slice (some ⟨g, 0, none⟩) m cap') (hat : sv.ownBlock = some g ∨ w.heap.size ≤ g) :
    WalkAt (w1.setCell ⟨b, 2, none⟩ v1) D b gs lv v1 n (addL L s) ∧ Kept w (w1.setCell ⟨b, 2, none⟩ v1) b gs sv.ownBlock ∧ ∀ k, v1.ownBlock = some k → sv.ownBlock = some k ∨ w.heap.size ≤ k := by
  obtain ⟨m1, m2, m3, m4, m5, m6, m7, m8, m9⟩ := reach_mid hW hwc
  obtain ⟨cur, hcur, hmk⟩ := hW.marks
  have hbg : b ≠ gs := ne_type hW.self hcur (by decide)
  have hbo : some b ≠ sv.ownBlock := own_block_type hW.spots hW.self (by decide)
  have hgo : some gs ≠ sv.ownBlock := own_block_type hW.spots hcur (by decide)
  have hbl := heap_ltG hW.self
  have hgl := heap_ltG hcur
  have hzW := hbW.size
  have hzg := hg.size
  have hb1 : w1.heap[b]? = some (.cells #[lv, .slice (some ⟨gs, 0, none⟩) ((n + 1) * 625 * 7) ((n + 1) * 625 * 7), sv] 130 (0, 0)) := by
    rw [hg.block b (by omega) hbo, hbW.block b (by omega), m1]; exact hW.self
  have hg1 : w1.heap[gs]? = some (.cells (cur.setIfInBounds x (.bool true)) 4 (0, 0)) := by
    rw [hg.block gs (by omega) hgo, hbW.block gs (by omega)]; exact m2 cur hcur
  have hs1 : (w1.setCell ⟨b, 2, none⟩ v1).heap[b]? = some (.cells #[lv, .slice (some ⟨gs, 0, none⟩) ((n + 1) * 625 * 7) ((n + 1) * 625 * 7), v1] 130 (0, 0)) := by
    rw [heap_setCell_same w1 b 2 _ _ _ hb1]; rfl
  refine ⟨⟨hs1, ⟨cur.setIfInBounds x (.bool true), ?_, ?_⟩, ?_, hW.Db, hW.Dg⟩, ⟨?_, ?_, ?_, ?_, ?_⟩, ?_⟩
  · rw [Below.heap_setCell _ _ _ _ (Ne.symm hbg)]; exact hg1
  · rw [addL_new hm, hx]; exact hmk.add hil
  · rw [addL_new hm]
    have := own_set_other (o := 2) (u := v1) hown hb1 (by decide)
    show World.ownsRow _ _ _ _ _ _ _
    rw [gsCells_snoc, List.length_append]
    exact this
  · exact hg.os.trans (hbW.os.trans m7)
  · exact hg.tape.trans (hbW.tape.trans m8)
  · exact hg.output.trans (hbW.output.trans m9)
  · simp [World.setCell]; omega
  · intro k hk h1 h2 h3
    rw [Below.heap_setCell _ _ _ _ h1, hg.block k (by omega) h3, hbW.block k (by omega), m6 k hk h2]
  · intro k hk
    subst hv1
    simp only [Value.ownBlock, Option.some.injEq] at hk
    subst hk; exact hat

set_option maxRecDepth 100000 in
set_option maxHeartbeats 4000000 in
theorem g_reach (D b gs n : Nat) (lv sv : Value) (L : List Sp) (p h : Int) (r : List Int) (w : World) (hW : WalkAt w D b gs lv sv n L) (hs : Valid n (p, h, r)) (hv : ∀ t ∈ L, Valid n t) (hbd : L.length ≤ 1000000) (hn : n ≤ 200) (hD : D ≤ w.heap.size) :
    Calls Tryz.prog 71 #[.pointer (some ⟨b, 0, none⟩), .agg #[.int .i64 p, .int .i64 h, .int .i64 (enc r)]] w fun e w' => e = .returned (.tuple #[]) ∧ ∃ sv', WalkAt w' D b gs lv sv' n (addL L (p, h, r)) ∧ Kept w w' b gs sv.ownBlock ∧ ∀ k, sv'.ownBlock = some k → sv.ownBlock = some k ∨ w.heap.size ≤ k := by
  obtain ⟨ao, cap, rfl⟩ := row_slice hW.spots
  obtain ⟨c0, c1, c2, cf, hb⟩ := three hW.self
  have cf2 := frozen_row hW.self 2
  obtain ⟨cur, hcur, hmk⟩ := hW.marks
  have hi := idx_int hs
  have hil := idx_lt hs
  have hany := any_idx hv hs
  have henc := enc_625 _ hs.2.2.2.2.1 hs.2.2.2.2.2
  obtain ⟨v1, v2, v3, v4, _⟩ := hs
  simp only at hi hil v1 v2 v3 v4 henc
  obtain ⟨x, hx⟩ : ∃ x, x = idx (p, h, r) := ⟨_, rfl⟩
  rw [← hx] at hi hil hany
  have hi' : (p * 625 + enc r) * 7 + h = (x : Int) := by omega
  have hcell : w.cell? ⟨gs, x, none⟩ = some (.bool (metL L (p, h, r))) := by
    rw [cell_of_row _ _ x _ _ _ hcur, hmk.2 x hil, ← hany]
  have hfr := frozen_row hcur x
  have hgs : gs < w.heap.size := (Array.getElem?_eq_some_iff.1 hcur).1
  have hxb : (x : Int) < (((n + 1) * 625 * 7 : Nat) : Int) := by omega
  have HX := hide hx
  have HI := hide hi
  have HW := hide hW
  have HM := hide hmk
  have HCUR := hide hcur
  have HANY := hide hany
  clear hx hi hW hmk hcur hany hil
  generalize hN : (n + 1) * 625 * 7 = N at *
  cases hm : metL L (p, h, r) with
  | true =>
    rw [hm] at hcell
    go_enter Tryz.func71, Tryz.ntmps71
    go_wp2
    refine bodyPost_ret (results_none (by rfl) _ _ _) rfl ?_
    refine ⟨rfl, .slice ao L.length cap, ?_, kept_of_below _ _ _ ((Below.refl _ _).alloc (Nat.le_refl _) _), fun k hk => .inl hk⟩
    have hb0 : Below w.heap.size w (w.alloc (.cells #[.int .i64 p, .int .i64 h, .int .i64 (enc r)] 112)) := (Below.refl _ _).alloc (Nat.le_refl _) _
    rw [addL, hm]
    refine ⟨?_, ⟨cur, ?_, ?_⟩, own_below HW.out.spots hb0, HW.out.Db, HW.out.Dg⟩
    · rw [hb0.block b hb]; exact HW.out.self
    · rw [hb0.block gs hgs]; exact HCUR.out
    · rw [hN]; exact HM.out
  | false =>
    rw [hm] at hcell
    have HIL : Hid (idx (p, h, r) < (n + 1) * 625 * 7) := by rw [hN, ← HX.out]; show x < N; omega
    obtain ⟨wc, hwc⟩ : ∃ wc, wc = (w.setCell ⟨gs, x, none⟩ (.bool true)).alloc (.cells #[.int .i64 p, .int .i64 h, .int .i64 (enc r)] 112) := ⟨_, rfl⟩
    obtain ⟨m1, m2, m3, m4, m5, _⟩ := reach_mid HW.out hwc
    have FIN : Hid (∀ W w1 g cap', Below wc.heap.size wc W → w1.ownsRow D 112 3 (.slice (some ⟨g, 0, none⟩) (L.length + 1) cap') (L.length + 1) (gsCells L ++ [.int .i64 p, .int .i64 h, .int .i64 (enc r)]) → W.grownBy w1 (Value.slice ao L.length cap).ownBlock → ((Value.slice ao L.length cap).ownBlock = some g ∨ w.heap.size ≤ g) → _) :=
      fun W w1 g cap' h1 h2 h3 h4 => reach_fin (s := (p, h, r)) HW.out hm HX.out HIL.out hwc h1 h2 h3 rfl h4
    have s1 := m1.trans HW.out.self
    rw [hN] at s1
    have hbo : some b ≠ (Value.slice ao L.length cap).ownBlock := own_block_type HW.out.spots HW.out.self (by decide)
    obtain ⟨k0, k1, k2, k3, kb⟩ := three s1
    have kf := frozen_row s1 2
    obtain ⟨q0, q1, q2, _, _⟩ := three m3
    have HCELL : Hid (∀ W w1 : World, Below wc.heap.size wc W → W.grownBy w1 (Value.slice ao L.length cap).ownBlock → w1.cell? ⟨b, 2, none⟩ = some (.slice ao L.length cap) ∧ w1.frozen? ⟨b, 2, none⟩ = false) := fun W w1 h1 h2 =>
      ⟨(h2.cell_far ⟨b, 2, none⟩ (by have := h1.size; show b < W.heap.size; omega) hbo).trans ((h1.cell (p := ⟨b, 2, none⟩) kb).trans k2), (h2.frozen_far ⟨b, 2, none⟩ (by have := h1.size; show b < W.heap.size; omega) hbo).trans ((h1.frozen (p := ⟨b, 2, none⟩) kb).trans kf)⟩
    have HOWN : Hid (∀ W, Below wc.heap.size wc W → W.ownsRow D 112 3 (.slice ao L.length cap) L.length (gsCells L)) := fun W h => own_below m5 h
    have HWC := hide hwc
    have hDc : D ≤ wc.heap.size := by omega
    have hwz : w.heap.size < wc.heap.size := by omega
    clear m1 m2 m3 m4 m5 s1 hbo
    obtain ⟨i0, hi0, hz0, hz1, hz2⟩ := info_parts Tryz.info112
    go_enter Tryz.func71, Tryz.ntmps71
    go_wp2
    rw [← HWC.out]
    clear hwc
    go_region_law
      (first
        | (refine step_append_lies _ rfl (.tmp 43) (.tmp 45) 109 rfl D 112 i0 _ 3 24 Tryz.underlying109 hi0 hz0 hz1 hz2 rfl (by decide) _ _ _ rfl (HOWN.out _ (by first | exact keep_ad | exact keep_drew)) ⟨wc.heap.size, 0, none⟩ 1 1 [.int .i64 p, .int .i64 h, .int .i64 (enc r)] rfl rfl (by exact news3 wc _ _ _ _) (by intro u hu; simp at hu; rcases hu with rfl | rfl | rfl <;> rfl) (by decide) (by unfold maxLen; omega) (by omega) (by simp; omega) (wc.heap.size + 1) (by simp) ?_; intro g cp w1 ha hgr hat _; have R := FIN.out _ w1 g cp keep_ad ha hgr (hat.imp id (by omega)); obtain ⟨y0, y1⟩ := HCELL.out _ w1 keep_ad hgr; clear ha hgr hat))
    all_goals
      go_end0
      exact ⟨rfl, _, R.1, R.2.1, R.2.2⟩

end Go.Proofs.YtjbmflgamogefabGreat
