/- The reference's machine: give. -/
import Derived.Test.YtjbmflgamogefabGreatMmP
import Derived.Laws.BytesArg
import Derived.Deep.RegionWith
namespace Go.Proofs.YtjbmflgamogefabGreat
open Go.RowKit

theorem cont_blk (m : Mac) {l : Nat} (h : l < 4) : cont m (7 + l) = castL (m.blk l) := by
  unfold cont; rw [if_neg (by omega), if_neg (by omega), if_neg (by omega), if_neg (by omega), if_pos (by omega), show 7 + l - 7 = l by omega]
theorem cont_wai (m : Mac) {l : Nat} : cont m (11 + l) = castL (m.wai l) := by
  unfold cont; rw [if_neg (by omega), if_neg (by omega), if_neg (by omega), if_neg (by omega), if_neg (by omega), show 11 + l - 11 = l by omega]
theorem MachAt.cellB {w : World} {n l : Nat} {Y : Lay} {m : Mac} {log : ByteArray} (h : MachAt w n Y m log) (hl : l < 4) : w.cell? ⟨Y.gb, l, none⟩ = some (Y.val (7 + l)) ∧ w.frozen? ⟨Y.gb, l, none⟩ = false := by
  obtain ⟨c, h1, h2⟩ := h.brow
  exact ⟨by rw [cell_of_row _ _ _ _ _ _ h1]; exact h2 l hl, frozen_row h1 _⟩
theorem MachAt.cellW {w : World} {n l : Nat} {Y : Lay} {m : Mac} {log : ByteArray} (h : MachAt w n Y m log) (hl : l < 4) : w.cell? ⟨Y.gw, l, none⟩ = some (Y.val (11 + l)) ∧ w.frozen? ⟨Y.gw, l, none⟩ = false := by
  obtain ⟨c, h1, h2⟩ := h.wrow
  exact ⟨by rw [cell_of_row _ _ _ _ _ _ h1]; exact h2 l hl, frozen_row h1 _⟩

set_option maxHeartbeats 1000000 in
theorem r_give0 (Y : Lay) (m : Mac) (n l : Nat) (log : ByteArray) (w : World) (h : MachAt w n Y m log) (hl : l < 4) (hb : m.blk l = []) :
    Calls Tryz.prog 81 #[.pointer (some ⟨Y.b, 0, none⟩), .int .i64 l] w fun e w' => e = .returned (.tuple #[]) ∧ ∃ Y', MachAt w' n Y' { m with own := upd m.own l (-1) } log ∧ Fr Y Y' w w' := by
  obtain ⟨ob, oo, ocap, hv, hc, hz⟩ := h.owners
  have hc := hc l hl
  have hz := hz (oo + l)
  have FIN := hide (h.setOwn (y := -1) hv hl)
  have f4 := h.fields.2.2.2.2.1
  have f5 := h.fields.2.2.2.2.2.1
  have c0 := (h.cellB hl).1
  have hsl := h.sl (7 + l) (by omega)
  rw [cont_blk m hl, hb] at hsl
  obtain ⟨ao, cap, hs⟩ := hsl.slice
  rw [hs] at c0
  rw [hv] at f4
  have e0 : (castL []).length = 0 := rfl
  rw [e0] at c0
  have hk0 : (0 : Int) ≤ (l : Int) := by omega
  have hk1 : (l : Int) < 4 := by omega
  clear h hsl hs hv hb e0
  go_enter Tryz.func81, Tryz.ntmps81
  go_wp2
  refine bodyPost_ret (results_none (by rfl) _ _ _) rfl ?_
  exact ⟨rfl, Y, FIN.out.1, FIN.out.2⟩

theorem SlAt.first {w : World} {v : Value} {s : List Int} {x : Int} {g : Option Nat} (h : SlAt w v (x :: s) g) :
    ∃ b off cap, v = .slice (some ⟨b, off, none⟩) (s.length + 1) cap ∧ s.length + 1 ≤ cap ∧ w.cell? ⟨b, off, none⟩ = some (.int .i64 x) ∧ SlAt w (.slice (if cap = 1 then some ⟨b, off, none⟩ else some ⟨b, off + 1, none⟩) s.length (cap - 1)) s g := by
  have h0 := h
  rcases h with ⟨_, h, _⟩ | ⟨b, off, cap, cur, h1, h2, h3, h4, h5, h6⟩
  · simp at h
  · rw [List.length_cons] at h1 h4
    rw [h1] at h0
    refine ⟨b, off, cap, h1, h4, by rw [cell_of_row _ _ _ _ _ _ h3]; exact h6 0 x rfl, ?_⟩
    by_cases e : cap = 1
    · obtain rfl : s = [] := List.length_eq_zero_iff.1 (by omega)
      subst e
      exact .inr ⟨b, off, 0, cur, rfl, h2, h3, Nat.le_refl _, by omega, fun j y hj => by simp at hj⟩
    · rw [if_neg e]; exact h0.tail (by omega)

set_option maxHeartbeats 1000000 in
theorem r_give1 (Y : Lay) (m : Mac) (n l k : Nat) (r : List Nat) (log : ByteArray) (w : World) (h : MachAt w n Y m log) (hl : l < 4) (hn : n ≤ 4) (hb : m.blk l = k :: r) (hk : k < n) (hrl : r.length ≤ 1000) (hq : m.q.length ≤ 1000) :
    Calls Tryz.prog 81 #[.pointer (some ⟨Y.b, 0, none⟩), .int .i64 l] w fun e w' => e = .returned (.tuple #[]) ∧ ∃ Y', MachAt w' n Y' (readyM { m with blk := upd m.blk l r, own := upd m.own l (k : Int) } k) log ∧ Fr Y Y' w w' := by
  have f5 := h.fields.2.2.2.2.2.1
  obtain ⟨c0, c1⟩ := h.cellB hl
  have hsl := h.sl (7 + l) (by omega)
  rw [cont_blk m hl, hb] at hsl
  obtain ⟨B, O, cap, hv, hcap, hx, htl⟩ := hsl.first
  rw [hv] at c0
  rw [show (r.map (fun (x : Nat) => (x : Int))).length = r.length by simp] at c0 hcap htl
  obtain ⟨ao, hao⟩ : ∃ ao : Option Addr, ao = if cap = 1 then some ⟨B, O, none⟩ else some ⟨B, O + 1, none⟩ := ⟨_, rfl⟩
  rw [← hao] at htl
  have HAO := hide hao
  obtain ⟨hA, fA⟩ := h.putBlk hl hn (World.grownBy.refl _ _) (s' := r) htl (.inl rfl)
  have hA1 := hA.below keep_drew
  have fA1 := fA.trans (Fr.of_below keep_drew)
  obtain ⟨ob, oo, ocap, hv1, hc, hz⟩ := hA1.owners
  have hc := hc l hl
  have hz := hz (oo + l)
  have f4 := hA1.fields.2.2.2.2.1
  rw [hv1] at f4
  simp only [putL] at f4
  obtain ⟨hB, fB⟩ := hA1.setOwn (y := (k : Int)) hv1 hl
  have FIN := hide (fun (w' : World) Y' (a : MachAt w' n Y' (readyM { m with blk := upd m.blk l r, own := upd m.own l (k : Int) } k) log) b => (⟨Y', a, (fA1.trans fB).trans b⟩ : ∃ Y', MachAt w' n Y' (readyM { m with blk := upd m.blk l r, own := upd m.own l (k : Int) } k) log ∧ Fr Y Y' w w'))
  have HR := hide (r_ready _ _ n k log _ hB hk hq)
  have hk0 : (0 : Int) ≤ (l : Int) := by omega
  have hk1 : (l : Int) < 4 := by omega
  clear h hsl hv hb hA hA1 hB fA fA1 fB hv1 htl hao
  generalize r.length = L at *
  go_enter Tryz.func81, Tryz.ntmps81
  go_wp2
  go_region
  rw [← HAO.out]
  go_wp2_with fail
  refine HR.out.mono ?_
  rintro e w' ⟨rfl, Y', a, b⟩
  have R := FIN.out w' Y' a b
  clear a b
  go_wp2
  go_end0
  exact ⟨rfl, R⟩

theorem r_give (Y : Lay) (m : Mac) (n l : Nat) (log : ByteArray) (w : World) (h : MachAt w n Y m log) (hl : l < 4) (hn : n ≤ 4) (hb : ∀ k, k ∈ m.blk l → k < n) (hrl : (m.blk l).length ≤ 1000) (hq : m.q.length ≤ 1000) :
    Calls Tryz.prog 81 #[.pointer (some ⟨Y.b, 0, none⟩), .int .i64 l] w fun e w' => e = .returned (.tuple #[]) ∧ ∃ Y', MachAt w' n Y' (giveM m l) log ∧ Fr Y Y' w w' := by
  unfold giveM
  cases e : m.blk l with
  | nil => exact r_give0 Y m n l log w h hl e
  | cons k r =>
    rw [e] at hb hrl
    exact r_give1 Y m n l k r log w h hl hn e (hb k (by simp)) (by simp at hrl; omega) hq

theorem news_cell {w : World} {cs : Array Value} {t : TypeId} (i : Nat) : (w.alloc (.cells cs t)).cell? ⟨w.heap.size, i, none⟩ = cs[i]? := cell_of_row _ _ i _ _ _ (heap_alloc_new w _)
set_option maxHeartbeats 1000000 in
theorem r_digits (v : Int) (w : World) (h0 : 0 ≤ v) (h1 : v < 1000) :
    Calls Tryz.prog 33 #[.int .i64 v] w fun e w' => e = .returned (.string (strOf (dig3 v))) ∧ Below w.heap.size w w' := by
  have d1 : v.tdiv 100 = v / 100 := Int.tdiv_eq_ediv_of_nonneg h0
  have d2 : v.tdiv 10 = v / 10 := Int.tdiv_eq_ediv_of_nonneg h0
  have d3 : v.tmod 10 = v % 10 := Int.tmod_eq_emod_of_nonneg h0
  have d4 : (v / 10).tmod 10 = v / 10 % 10 := Int.tmod_eq_emod_of_nonneg (by omega)
  have hc := run_convert_bytes_arg (P := Tryz.prog) (w.alloc (.cells #[.int .u8 (48 + v / 100), .int .u8 (48 + v / 10 % 10), .int .u8 (48 + v % 10)] 5)) 72 5 Tryz.underlying72 Tryz.underlying5 w.heap.size 0 3 3 (dig3 v) rfl (fun i hi => by
    rw [Nat.zero_add, news_cell]
    match i, hi with
    | 0, _ => rfl
    | 1, _ => rfl
    | 2, _ => rfl) 9 Tryz.underlying9
  rw [show strOfNums (dig3 v) = strOf (dig3 v) from rfl] at hc
  go_enter Tryz.func33, Tryz.ntmps33
  go_wp2
  go_ret
  exact ⟨rfl, (Below.refl _ _).alloc (Nat.le_refl _) _⟩

theorem MachAt.lt {w : World} {n : Nat} {Y : Lay} {m : Mac} {log : ByteArray} (h : MachAt w n Y m log) {j : Nat} (hj : InY Y j) : j < w.heap.size := by
  have lt : ∀ {j o}, w.heap[j]? = some o → j < w.heap.size := fun hj => (Array.getElem?_eq_some_iff.1 hj).1
  obtain ⟨c1, t1, _⟩ := h.thr
  obtain ⟨c2, b1, _⟩ := h.brow
  obtain ⟨c3, w1, _⟩ := h.wrow
  rcases hj with rfl | rfl | rfl | rfl | ⟨i, hi, e⟩
  · exact lt h.self
  · exact lt t1
  · exact lt b1
  · exact lt w1
  · exact (h.sl i hi).lt j e
/-- A block that is not the machine's. -/
def Own (w : World) (Y : Lay) (j : Nat) (cs : Array Value) (t : TypeId) : Prop := w.heap[j]? = some (.cells cs t (0, 0)) ∧ ¬ InY Y j
theorem Own.step {w w' : World} {Y Y' : Lay} {j : Nat} {cs : Array Value} {t : TypeId} (h : Own w Y j cs t) (hf : Fr Y Y' w w') : Own w' Y' j cs t := by
  have hj : j < w.heap.size := (Array.getElem?_eq_some_iff.1 h.1).1
  refine ⟨by rw [hf.block j hj h.2]; exact h.1, fun hi => ?_⟩
  rcases hf.fresh j hi with h1 | h1
  · exact h.2 h1
  · omega
theorem own_new {w : World} {n : Nat} {Y : Lay} {m : Mac} {log : ByteArray} (h : MachAt w n Y m log) (cs : Array Value) (t : TypeId) : Own (w.alloc (.cells cs t)) Y w.heap.size cs t :=
  ⟨heap_alloc_new w _, fun hi => Nat.lt_irrefl _ (h.lt hi)⟩
theorem Own.in3 {w : World} {Y : Lay} {j : Nat} {x y z : Value} {t : TypeId} (h : Own w Y j #[x, y, z] t) : w.cell? ⟨j, 0, none⟩ = some x ∧ w.cell? ⟨j, 1, none⟩ = some y ∧ w.cell? ⟨j, 2, none⟩ = some z := by
  obtain ⟨a, b, c, _⟩ := three h.1
  exact ⟨a, b, c⟩
def popM (m : Mac) (k : Nat) : Mac := { m with th := upd m.th k { m.th k with stk := (m.th k).stk.dropLast } }
theorem snoc_of {s : List Int} (h : ¬ s = []) : s = s.dropLast ++ [topOf s] := by
  rcases List.eq_nil_or_concat s with e | ⟨t, x, e⟩
  · exact absurd e h
  · rw [List.concat_eq_append] at e; subst e; simp [topOf]
theorem r_pop' (Y : Lay) (m : Mac) (n k : Nat) (log : ByteArray) (w : World) (h : MachAt w n Y m log) (hk : k < n) (hn : n ≤ 4) (hx : ¬ (m.th k).stk = []) (hl : (m.th k).stk.length ≤ 1000) :
    Calls Tryz.prog 83 #[.pointer (some ⟨Y.b, 0, none⟩), .int .i64 k] w fun e w' => e = .returned (.int .i64 (topOf (m.th k).stk)) ∧ ∃ Y', MachAt w' n Y' (popM m k) log ∧ Fr Y Y' w w' :=
  r_pop Y m n k _ _ log w h hk hn (snoc_of hx) (by simp; omega)

set_option maxHeartbeats 1000000 in
theorem r_plain_k (Y : Lay) (m : Mac) (n k : Nat) (a p : Int) (log : ByteArray) (w : World) (h : MachAt w n Y m log) (hk : k < n) (hn : n ≤ 4) (hl : (m.th k).stk.length ≤ 1000) :
    Calls Tryz.prog 66 #[.pointer (some ⟨Y.b, 0, none⟩), .int .i64 k, .agg #[.int .u8 107, .int .i64 a, .int .i64 p]] w fun e w' => e = .returned (.tuple #[]) ∧ ∃ Y', MachAt w' n Y' (pushM m k a) log ∧ Fr Y Y' w w' := by
  have hb : Below w.heap.size w (w.alloc (.cells #[.int .u8 107, .int .i64 a, .int .i64 p] 63)) := (Below.refl _ _).alloc (Nat.le_refl _) _
  have h1 := h.below hb
  obtain ⟨x0, x1, x2⟩ := (own_new h #[.int .u8 107, .int .i64 a, .int .i64 p] 63).in3
  have HP := hide (r_push Y m n k a log _ h1 hk hn hl)
  have HB := hide hb
  clear h h1 hb
  go_enter Tryz.func66, Tryz.ntmps66
  go_wp2_with fail
  refine HP.out.mono ?_
  rintro e w' ⟨rfl, Y', a1, b1⟩
  have A1 := hide a1
  have B1 := hide b1
  clear a1 b1
  go_wp2
  go_end0
  exact ⟨rfl, Y', A1.out, (Fr.of_below HB.out).trans B1.out⟩

set_option maxHeartbeats 1000000 in
theorem r_plain_s (Y : Lay) (m : Mac) (n k i : Nat) (p : Int) (log : ByteArray) (w : World) (h : MachAt w n Y m log) (hk : k < n) (hn : n ≤ 4) (hi : i < 8) (hx : ¬ (m.th k).stk = []) (hl : (m.th k).stk.length ≤ 1000) :
    Calls Tryz.prog 66 #[.pointer (some ⟨Y.b, 0, none⟩), .int .i64 k, .agg #[.int .u8 115, .int .i64 i, .int .i64 p]] w fun e w' => e = .returned (.tuple #[]) ∧ ∃ Y', MachAt w' n Y' { popM m k with cells := upd m.cells i (topOf (m.th k).stk) } log ∧ Fr Y Y' w w' := by
  have hb : Below w.heap.size w (w.alloc (.cells #[.int .u8 115, .int .i64 i, .int .i64 p] 63)) := (Below.refl _ _).alloc (Nat.le_refl _) _
  have h1 := h.below hb
  have ho := own_new h #[.int .u8 115, .int .i64 i, .int .i64 p] 63
  obtain ⟨x0, x1, x2⟩ := ho.in3
  have HO := hide ho
  have HP := hide (r_pop' Y m n k log _ h1 hk hn hx hl)
  have HB := hide hb
  have hi0 : (0 : Int) ≤ (i : Int) := by omega
  have hi1 : (i : Int) < 8 := by omega
  clear h h1 hb ho
  go_enter Tryz.func66, Tryz.ntmps66
  go_wp2_with fail
  refine HP.out.mono ?_
  rintro e w' ⟨rfl, Y', a1, b1⟩
  obtain ⟨y0, y1, y2⟩ := (HO.out.step b1).in3
  obtain ⟨cb, co, ccap, hv, hc, hz⟩ := a1.cellsAt
  have hc := hc i hi
  have hz := hz (co + i)
  have f3 := a1.fields.2.2.2.1
  rw [hv] at f3
  rw [b1.same.1] at f3
  have R := hide (a1.setCells (y := topOf (m.th k).stk) hv hi)
  have B1 := hide b1
  clear a1 b1 hv x0 x1 x2
  go_wp2
  go_region
  go_end0
  exact ⟨rfl, Y', R.out.1.below keep_drew, (((Fr.of_below HB.out).trans B1.out).trans R.out.2).trans (Fr.of_below keep_drew)⟩

set_option maxHeartbeats 1000000 in
theorem r_plain_add (Y : Lay) (m : Mac) (n k : Nat) (i : Int) (p : Int) (log : ByteArray) (w : World) (h : MachAt w n Y m log) (hk : k < n) (hn : n ≤ 4) (hx : ¬ (m.th k).stk = []) (hx2 : ¬ (m.th k).stk.dropLast = []) (hw : ∀ x, x ∈ (m.th k).stk → 0 ≤ x ∧ x < 1000) (hl : (m.th k).stk.length ≤ 1000) :
    Calls Tryz.prog 66 #[.pointer (some ⟨Y.b, 0, none⟩), .int .i64 k, .agg #[.int .u8 43, .int .i64 i, .int .i64 p]] w fun e w' => e = .returned (.tuple #[]) ∧ ∃ Y', MachAt w' n Y' (pushM (popM (popM m k) k) k ((topOf (m.th k).stk.dropLast + topOf (m.th k).stk) % 1000)) log ∧ Fr Y Y' w w' := by
  have hb : Below w.heap.size w (w.alloc (.cells #[.int .u8 43, .int .i64 i, .int .i64 p] 63)) := (Below.refl _ _).alloc (Nat.le_refl _) _
  have h1 := h.below hb
  have ho := own_new h #[.int .u8 43, .int .i64 i, .int .i64 p] 63
  obtain ⟨x0, x1, x2⟩ := ho.in3
  have HO := hide ho
  have HB := hide hb
  have HP := hide (r_pop' Y m n k log _ h1 hk hn hx hl)
  have es : ((popM m k).th k).stk = (m.th k).stk.dropLast := by simp only [popM, upd_same]
  have es2 : ((popM (popM m k) k).th k).stk = (m.th k).stk.dropLast.dropLast := by simp only [popM, upd_same]
  have hl1 : ((popM m k).th k).stk.length ≤ 1000 := by rw [es]; simp; omega
  have hl2 : ((popM (popM m k) k).th k).stk.length ≤ 1000 := by rw [es2]; simp; omega
  have HP2 := hide (fun Y1 w1 h => r_pop' Y1 (popM m k) n k log w1 h hk hn (by rw [es]; exact hx2) hl1)
  have HP3 := hide (fun Y1 w1 x h => r_push Y1 (popM (popM m k) k) n k x log w1 h hk hn hl2)
  obtain ⟨u0, u1⟩ := hw _ (top_mem hx)
  obtain ⟨v0, v1⟩ := hw _ (List.dropLast_subset _ (top_mem hx2))
  rw [es] at HP2
  generalize topOf (m.th k).stk = u at *
  generalize topOf (m.th k).stk.dropLast = v at *
  have hmod : (v + u).tmod 1000 = (v + u) % 1000 := Int.tmod_eq_emod_of_nonneg (by omega)
  clear h h1 hb ho es es2 hx hx2 hw hl hl1 hl2
  go_enter Tryz.func66, Tryz.ntmps66
  go_wp2_with fail
  refine HP.out.mono ?_
  rintro e w1 ⟨rfl, Y1, a1, b1⟩
  have e1 := b1.same.1
  have P2 := hide (HP2.out Y1 w1 a1)
  have B1 := hide b1
  rw [e1] at P2
  clear a1 b1 x0 x1 x2
  go_wp2_with fail
  refine P2.out.mono ?_
  rintro e w2 ⟨rfl, Y2, a2, b2⟩
  have P3 := hide (HP3.out Y2 w2 ((v + u) % 1000) a2)
  rw [b2.same.1, e1] at P3
  have B2 := hide b2
  clear a2 b2
  go_wp2_with fail
  refine P3.out.mono ?_
  rintro e w3 ⟨rfl, Y3, a3, b3⟩
  have A3 := hide a3
  have B3 := hide b3
  clear a3 b3
  go_wp2
  go_end0
  exact ⟨rfl, Y3, A3.out, (((Fr.of_below HB.out).trans B1.out).trans B2.out).trans B3.out⟩

set_option maxHeartbeats 1000000 in
theorem r_plain_g (Y : Lay) (m : Mac) (n k : Nat) (i : Nat) (p : Int) (log : ByteArray) (w : World) (h : MachAt w n Y m log) (hk : k < n) (hn : n ≤ 4) (hi : i < 8) (hl : (m.th k).stk.length ≤ 1000) :
    Calls Tryz.prog 66 #[.pointer (some ⟨Y.b, 0, none⟩), .int .i64 k, .agg #[.int .u8 103, .int .i64 i, .int .i64 p]] w fun e w' => e = .returned (.tuple #[]) ∧ ∃ Y', MachAt w' n Y' (pushM m k (m.cells i)) log ∧ Fr Y Y' w w' := by
  have hb : Below w.heap.size w (w.alloc (.cells #[.int .u8 103, .int .i64 i, .int .i64 p] 63)) := (Below.refl _ _).alloc (Nat.le_refl _) _
  have h1 := h.below hb
  have ho := own_new h #[.int .u8 103, .int .i64 i, .int .i64 p] 63
  obtain ⟨x0, x1, x2⟩ := ho.in3
  have HO := hide ho
  have HB := hide hb
  obtain ⟨cb, co, ccap, hv, hc, _⟩ := h1.cellsAt
  have hc := hc i hi
  have f3 := h1.fields.2.2.2.1
  rw [hv] at f3
  have HP := hide (r_push Y m n k (m.cells i) log _ (h1.below keep_drew) hk hn hl)
  have hi0 : (0 : Int) ≤ (i : Int) := by omega
  have hi1 : (i : Int) < 8 := by omega
  clear h h1 hb ho hv
  go_enter Tryz.func66, Tryz.ntmps66
  go_wp2
  go_region_with (go_at_call 82; refine HP.out.mono ?_; rintro e w1 ⟨rfl, Y1, a1, b1⟩; have A1 := hide a1; have B1 := hide b1; clear a1 b1)
  all_goals
    go_end0
    exact ⟨rfl, Y1, A1.out, ((Fr.of_below HB.out).trans (Fr.of_below keep_drew)).trans B1.out⟩

set_option maxHeartbeats 1000000 in
theorem r_plain_sub (Y : Lay) (m : Mac) (n k : Nat) (i : Int) (p : Int) (log : ByteArray) (w : World) (h : MachAt w n Y m log) (hk : k < n) (hn : n ≤ 4) (hx : ¬ (m.th k).stk = []) (hx2 : ¬ (m.th k).stk.dropLast = []) (hw : ∀ x, x ∈ (m.th k).stk → 0 ≤ x ∧ x < 1000) (hl : (m.th k).stk.length ≤ 1000) :
    Calls Tryz.prog 66 #[.pointer (some ⟨Y.b, 0, none⟩), .int .i64 k, .agg #[.int .u8 45, .int .i64 i, .int .i64 p]] w fun e w' => e = .returned (.tuple #[]) ∧ ∃ Y', MachAt w' n Y' (pushM (popM (popM m k) k) k ((topOf (m.th k).stk.dropLast - topOf (m.th k).stk + 1000) % 1000)) log ∧ Fr Y Y' w w' := by
  have hb : Below w.heap.size w (w.alloc (.cells #[.int .u8 45, .int .i64 i, .int .i64 p] 63)) := (Below.refl _ _).alloc (Nat.le_refl _) _
  have h1 := h.below hb
  have ho := own_new h #[.int .u8 45, .int .i64 i, .int .i64 p] 63
  obtain ⟨x0, x1, x2⟩ := ho.in3
  have HO := hide ho
  have HB := hide hb
  have HP := hide (r_pop' Y m n k log _ h1 hk hn hx hl)
  have es : ((popM m k).th k).stk = (m.th k).stk.dropLast := by simp only [popM, upd_same]
  have es2 : ((popM (popM m k) k).th k).stk = (m.th k).stk.dropLast.dropLast := by simp only [popM, upd_same]
  have hl1 : ((popM m k).th k).stk.length ≤ 1000 := by rw [es]; simp; omega
  have hl2 : ((popM (popM m k) k).th k).stk.length ≤ 1000 := by rw [es2]; simp; omega
  have HP2 := hide (fun Y1 w1 h => r_pop' Y1 (popM m k) n k log w1 h hk hn (by rw [es]; exact hx2) hl1)
  have HP3 := hide (fun Y1 w1 x h => r_push Y1 (popM (popM m k) k) n k x log w1 h hk hn hl2)
  obtain ⟨u0, u1⟩ := hw _ (top_mem hx)
  obtain ⟨v0, v1⟩ := hw _ (List.dropLast_subset _ (top_mem hx2))
  rw [es] at HP2
  generalize topOf (m.th k).stk = u at *
  generalize topOf (m.th k).stk.dropLast = v at *
  have hmod : (v - u + 1000).tmod 1000 = (v - u + 1000) % 1000 := Int.tmod_eq_emod_of_nonneg (by omega)
  clear h h1 hb ho es es2 hx hx2 hw hl hl1 hl2
  go_enter Tryz.func66, Tryz.ntmps66
  go_wp2_with fail
  refine HP.out.mono ?_
  rintro e w1 ⟨rfl, Y1, a1, b1⟩
  have e1 := b1.same.1
  have P2 := hide (HP2.out Y1 w1 a1)
  have B1 := hide b1
  rw [e1] at P2
  clear a1 b1 x0 x1 x2
  go_wp2_with fail
  refine P2.out.mono ?_
  rintro e w2 ⟨rfl, Y2, a2, b2⟩
  have P3 := hide (HP3.out Y2 w2 ((v - u) % 1000) a2)
  rw [b2.same.1, e1] at P3
  have B2 := hide b2
  clear a2 b2
  go_wp2_with fail
  refine P3.out.mono ?_
  rintro e w3 ⟨rfl, Y3, a3, b3⟩
  have A3 := hide a3
  have B3 := hide b3
  clear a3 b3
  go_wp2
  go_end0
  rw [show (v - u + 1000) % 1000 = (v - u) % 1000 by omega]
  exact ⟨rfl, Y3, A3.out, (((Fr.of_below HB.out).trans B1.out).trans B2.out).trans B3.out⟩

set_option maxHeartbeats 1000000 in
theorem r_plain_J (Y : Lay) (m : Mac) (n k : Nat) (i : Nat) (p : Int) (log : ByteArray) (w : World) (h : MachAt w n Y m log) (hk : k < n) :
    Calls Tryz.prog 66 #[.pointer (some ⟨Y.b, 0, none⟩), .int .i64 k, .agg #[.int .u8 74, .int .i64 i, .int .i64 p]] w fun e w' => e = .returned (.tuple #[]) ∧ ∃ Y', MachAt w' n Y' (stepTh m k { m.th k with pc := i }) log ∧ Fr Y Y' w w' := by
  have hb : Below w.heap.size w (w.alloc (.cells #[.int .u8 74, .int .i64 i, .int .i64 p] 63)) := (Below.refl _ _).alloc (Nat.le_refl _) _
  have h1 := h.below hb
  have ho := own_new h #[.int .u8 74, .int .i64 i, .int .i64 p] 63
  obtain ⟨x0, x1, x2⟩ := ho.in3
  have HO := hide ho
  have HB := hide hb
  obtain ⟨hA, fA⟩ := h1.setTh (k := k) (o := 0) (u := .int .i64 i) (t := { m.th k with pc := i }) hk (.inl rfl) (.inl ⟨rfl, rfl, rfl⟩) rfl rfl
  have HA := hide hA
  have FA := hide fA
  have f1 := h1.fields.2.1
  obtain ⟨z0, _, _, _, z1⟩ := h1.cellT hk
  have z1 := z1 (k * 4)
  have hk0 : (0 : Int) ≤ (k : Int) := by omega
  have hk1 : (k : Int) < (n : Int) := by omega
  clear h h1 hb ho hA fA
  go_enter Tryz.func66, Tryz.ntmps66
  go_wp2
  go_region
  go_end0
  exact ⟨rfl, Y, HA.out.below keep_drew, ((Fr.of_below HB.out).trans FA.out).trans (Fr.of_below keep_drew)⟩

set_option maxHeartbeats 1000000 in
theorem r_plain_Z0 (Y : Lay) (m : Mac) (n k : Nat) (i : Int) (p : Int) (log : ByteArray) (w : World) (h : MachAt w n Y m log) (hk : k < n) (hn : n ≤ 4) (hx : ¬ (m.th k).stk = []) (hz : ¬ topOf (m.th k).stk = 0) (hl : (m.th k).stk.length ≤ 1000) :
    Calls Tryz.prog 66 #[.pointer (some ⟨Y.b, 0, none⟩), .int .i64 k, .agg #[.int .u8 90, .int .i64 i, .int .i64 p]] w fun e w' => e = .returned (.tuple #[]) ∧ ∃ Y', MachAt w' n Y' (popM m k) log ∧ Fr Y Y' w w' := by
  have hb : Below w.heap.size w (w.alloc (.cells #[.int .u8 90, .int .i64 i, .int .i64 p] 63)) := (Below.refl _ _).alloc (Nat.le_refl _) _
  have h1 := h.below hb
  have ho := own_new h #[.int .u8 90, .int .i64 i, .int .i64 p] 63
  obtain ⟨x0, x1, x2⟩ := ho.in3
  have HO := hide ho
  have HB := hide hb
  have HP := hide (r_pop' Y m n k log _ h1 hk hn hx hl)
  generalize topOf (m.th k).stk = u at *
  clear h h1 hb ho hx hl
  go_enter Tryz.func66, Tryz.ntmps66
  go_wp2_with fail
  refine HP.out.mono ?_
  rintro e w1 ⟨rfl, Y1, a1, b1⟩
  have A1 := hide a1
  have B1 := hide b1
  clear a1 b1 x0 x1 x2
  go_wp2
  go_end0
  exact ⟨rfl, Y1, A1.out, (Fr.of_below HB.out).trans B1.out⟩

set_option maxHeartbeats 1000000 in
theorem r_plain_Z1 (Y : Lay) (m : Mac) (n k : Nat) (i : Nat) (p : Int) (log : ByteArray) (w : World) (h : MachAt w n Y m log) (hk : k < n) (hn : n ≤ 4) (hx : ¬ (m.th k).stk = []) (hz : topOf (m.th k).stk = 0) (hl : (m.th k).stk.length ≤ 1000) :
    Calls Tryz.prog 66 #[.pointer (some ⟨Y.b, 0, none⟩), .int .i64 k, .agg #[.int .u8 90, .int .i64 i, .int .i64 p]] w fun e w' => e = .returned (.tuple #[]) ∧ ∃ Y', MachAt w' n Y' (stepTh (popM m k) k { (popM m k).th k with pc := i }) log ∧ Fr Y Y' w w' := by
  have hb : Below w.heap.size w (w.alloc (.cells #[.int .u8 90, .int .i64 i, .int .i64 p] 63)) := (Below.refl _ _).alloc (Nat.le_refl _) _
  have h1 := h.below hb
  have ho := own_new h #[.int .u8 90, .int .i64 i, .int .i64 p] 63
  obtain ⟨x0, x1, x2⟩ := ho.in3
  have HO := hide ho
  have HB := hide hb
  have HP := hide (r_pop' Y m n k log _ h1 hk hn hx hl)
  rw [hz] at HP
  have hk0 : (0 : Int) ≤ (k : Int) := by omega
  have hk1 : (k : Int) < (n : Int) := by omega
  clear h h1 hb ho hx hl hz
  go_enter Tryz.func66, Tryz.ntmps66
  go_wp2_with fail
  refine HP.out.mono ?_
  rintro e w1 ⟨rfl, Y1, a1, b1⟩
  obtain ⟨y0, y1, y2⟩ := (HO.out.step b1).in3
  obtain ⟨hA, fA⟩ := a1.setTh (k := k) (o := 0) (u := .int .i64 i) (t := { (popM m k).th k with pc := i }) hk (.inl rfl) (.inl ⟨rfl, rfl, rfl⟩) rfl rfl
  have HA := hide hA
  have FA := hide fA
  have f1 := a1.fields.2.1
  rw [b1.same.1] at f1
  rw [b1.same.2.1, b1.same.2.2.1] at f1
  obtain ⟨z0, _, _, _, z1⟩ := a1.cellT hk
  have z1 := z1 (k * 4)
  rw [b1.same.2.1] at z0 z1 HA FA
  have B1 := hide b1
  clear a1 b1 x0 x1 x2 hA fA
  go_wp2
  go_region
  go_end0
  exact ⟨rfl, Y1, HA.out.below keep_drew, (((Fr.of_below HB.out).trans B1.out).trans FA.out).trans (Fr.of_below keep_drew)⟩

theorem strOf_append (a b : List Int) : strOf (a ++ b) = strOf a ++ strOf b := by
  unfold strOf
  apply ByteArray.ext
  simp

set_option maxHeartbeats 1000000 in
theorem r_plain_p (Y : Lay) (m : Mac) (n k : Nat) (i : Int) (p : Int) (log : ByteArray) (w : World) (h : MachAt w n Y m log) (hk : k < n) (hn : n ≤ 4) (hx : ¬ (m.th k).stk = []) (hu0 : 0 ≤ topOf (m.th k).stk) (hu1 : topOf (m.th k).stk < 1000) (hol : m.out.length ≤ 1000000) (hl : (m.th k).stk.length ≤ 1000) :
    Calls Tryz.prog 66 #[.pointer (some ⟨Y.b, 0, none⟩), .int .i64 k, .agg #[.int .u8 112, .int .i64 i, .int .i64 p]] w fun e w' => e = .returned (.tuple #[]) ∧ ∃ Y', MachAt w' n Y' { popM m k with out := m.out ++ dig3 (topOf (m.th k).stk) } log ∧ Fr Y Y' w w' := by
  have hb : Below w.heap.size w (w.alloc (.cells #[.int .u8 112, .int .i64 i, .int .i64 p] 63)) := (Below.refl _ _).alloc (Nat.le_refl _) _
  have h1 := h.below hb
  have ho := own_new h #[.int .u8 112, .int .i64 i, .int .i64 p] 63
  obtain ⟨x0, x1, x2⟩ := ho.in3
  have HO := hide ho
  have HB := hide hb
  have HP := hide (r_pop' Y m n k log _ h1 hk hn hx hl)
  generalize topOf (m.th k).stk = u at *
  have HD := hide (fun W => r_digits u W hu0 hu1)
  have hsz : ¬ (strOf m.out).size + (strOf (dig3 u)).size > 9223372036854775807 := by
    have e1 : (strOf m.out).size = m.out.length := by simp [strOf, ByteArray.size]
    have e2 : (strOf (dig3 u)).size = 3 := rfl
    omega
  clear h h1 hb ho hx hl hol
  go_enter Tryz.func66, Tryz.ntmps66
  go_wp2_with fail
  refine HP.out.mono ?_
  rintro e w1 ⟨rfl, Y1, a1, b1⟩
  have f7 := a1.fields.2.2.2.2.2.2.2.1
  have KEEP : Hid (∀ W, Below w1.drew.heap.size w1.drew W → W.cell? ⟨Y.b, 7, none⟩ = some (.string (strOf m.out)) ∧ W.frozen? ⟨Y.b, 7, none⟩ = false ∧ ∃ Y', MachAt (W.setCell ⟨Y.b, 7, none⟩ (.string (strOf m.out ++ strOf (dig3 u)))) n Y' { popM m k with out := m.out ++ dig3 u } log ∧ Fr Y Y' w (W.setCell ⟨Y.b, 7, none⟩ (.string (strOf m.out ++ strOf (dig3 u))))) := fun W hW => by
    have h2 := (a1.below keep_drew).below hW
    obtain ⟨p1, p2⟩ := h2.setStr (o := 7) (m' := { popM m k with out := m.out ++ dig3 u }) (log' := log) (u := strOf m.out ++ strOf (dig3 u)) (.inl ⟨rfl, (strOf_append _ _).symm, rfl, rfl⟩) (fun _ => rfl) rfl
    have q1 := h2.fields.2.2.2.2.2.2.2.1
    have q2 := frozen_row h2.self 7
    rw [b1.same.1] at q1 q2 p1 p2
    exact ⟨q1, q2, Y1, p1, (((Fr.of_below HB.out).trans b1).trans ((Fr.of_below keep_drew).trans (Fr.of_below hW))).trans p2⟩
  rw [b1.same.1] at f7
  clear a1 b1 x0 x1 x2
  go_wp2
  go_region_with (go_at_call 33; refine (HD.out _).mono ?_; rintro e w2 ⟨rfl, hb2⟩; obtain ⟨y0, y1, R⟩ := KEEP.out w2 hb2; clear hb2)
  all_goals
    go_end0
    exact ⟨rfl, R⟩

end Go.Proofs.YtjbmflgamogefabGreat
