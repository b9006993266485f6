/- The reference's locked. -/
import Derived.Test.YtjbmflgamogefabGreatMmQ
namespace Go.Proofs.YtjbmflgamogefabGreat
open Go.RowKit

theorem castL_snoc (s : List Nat) (x : Nat) : castL s ++ [(x : Int)] = castL (s ++ [x]) := by simp [castL]
theorem fin_blk {w w0 w1 : World} {n l x : Nat} {Y : Lay} {m : Mac} {log : ByteArray} {v : Value} {g : Option Nat} (h : MachAt w n Y m log) (hl : l < 4) (hn : n ≤ 4) (hb : Below w.heap.size w w0) (hs : SlAt w1 v (castL (m.blk l) ++ [(x : Int)]) g) (hg : w0.grownBy w1 (Y.blk (7 + l))) (hf : g = Y.blk (7 + l) ∨ ∃ b, g = some b ∧ w0.heap.size ≤ b) :
    (∃ Y', MachAt (w1.setCell ⟨Y.gb, l, none⟩ v) n Y' { m with blk := upd m.blk l (m.blk l ++ [x]) } log ∧ Fr Y Y' w (w1.setCell ⟨Y.gb, l, none⟩ v)) ∧ w1.cell? ⟨Y.gb, l, none⟩ = some (Y.val (7 + l)) ∧ w1.frozen? ⟨Y.gb, l, none⟩ = false ∧ w1.cell? ⟨Y.b, 5, none⟩ = some (.slice (some ⟨Y.gb, 0, none⟩) 4 4) := by
  have h1 := h.below hb
  rw [castL_snoc] at hs
  obtain ⟨p, q⟩ := h1.putBlk hl hn hg hs hf
  obtain ⟨g1, _, g3, _⟩ := h1.grown (i := 7 + l) (by omega) hg
  have s1 := g1.trans h1.self
  obtain ⟨c1, t1, t2⟩ := h1.brow
  have t3 := g3.trans t1
  exact ⟨⟨_, p, (Fr.of_below hb).trans q⟩, by rw [cell_of_row _ _ _ _ _ _ t3]; exact t2 l hl, frozen_row t3 _, by rw [cell_of_row _ _ 5 _ _ _ s1]; rfl⟩
theorem fin_wai {w w0 w1 : World} {n l x : Nat} {Y : Lay} {m : Mac} {log : ByteArray} {v : Value} {g : Option Nat} (h : MachAt w n Y m log) (hl : l < 4) (hn : n ≤ 4) (hb : Below w.heap.size w w0) (hs : SlAt w1 v (castL (m.wai l) ++ [(x : Int)]) g) (hg : w0.grownBy w1 (Y.blk (11 + l))) (hf : g = Y.blk (11 + l) ∨ ∃ b, g = some b ∧ w0.heap.size ≤ b) :
    (∃ Y', MachAt (w1.setCell ⟨Y.gw, l, none⟩ v) n Y' { m with wai := upd m.wai l (m.wai l ++ [x]) } log ∧ Fr Y Y' w (w1.setCell ⟨Y.gw, l, none⟩ v)) ∧ w1.cell? ⟨Y.gw, l, none⟩ = some (Y.val (11 + l)) ∧ w1.frozen? ⟨Y.gw, l, none⟩ = false ∧ w1.cell? ⟨Y.b, 6, none⟩ = some (.slice (some ⟨Y.gw, 0, none⟩) 4 4) := by
  have h1 := h.below hb
  rw [castL_snoc] at hs
  obtain ⟨p, q⟩ := h1.putWai hl hn hg hs hf
  obtain ⟨g1, _, _, g4, _⟩ := h1.grown (i := 11 + l) (by omega) hg
  have s1 := g1.trans h1.self
  obtain ⟨c1, t1, t2⟩ := h1.wrow
  have t3 := g4.trans t1
  exact ⟨⟨_, p, (Fr.of_below hb).trans q⟩, by rw [cell_of_row _ _ _ _ _ _ t3]; exact t2 l hl, frozen_row t3 _, by rw [cell_of_row _ _ 6 _ _ _ s1]; rfl⟩

set_option maxHeartbeats 1000000 in
theorem r_locked_A0 (Y : Lay) (m : Mac) (n k l : Nat) (p : Int) (log : ByteArray) (w : World) (h : MachAt w n Y m log) (hl : l < 4) (ho : m.own l < 0) :
    Calls Tryz.prog 65 #[.pointer (some ⟨Y.b, 0, none⟩), .int .i64 k, .agg #[.int .u8 65, .int .i64 l, .int .i64 p]] w fun e w' => e = .returned (.tuple #[]) ∧ ∃ Y', MachAt w' n Y' { m with own := upd m.own l (k : Int) } log ∧ Fr Y Y' w w' := by
  have hb : Below w.heap.size w (w.alloc (.cells #[.int .u8 65, .int .i64 l, .int .i64 p] 63)) := (Below.refl _ _).alloc (Nat.le_refl _) _
  have h1 := h.below hb
  obtain ⟨x0, x1, x2⟩ := (own_new h #[.int .u8 65, .int .i64 l, .int .i64 p] 63).in3
  obtain ⟨ob, oo, ocap, hv, hcs, hz⟩ := h1.owners
  have hc := hcs l hl
  obtain ⟨u, hu⟩ : ∃ u, u = m.own l := ⟨_, rfl⟩
  rw [← hu] at hc ho
  clear hcs hu
  have hz := hz (oo + l)
  have FIN := hide (h1.setOwn (y := (k : Int)) hv hl)
  have HB := hide hb
  have f4 := h1.fields.2.2.2.2.1
  rw [hv] at f4
  have hk0 : (0 : Int) ≤ (l : Int) := by omega
  have hk1 : (l : Int) < 4 := by omega
  clear h h1 hb hv
  go_enter Tryz.func65, Tryz.ntmps65
  go_wp2
  go_end0
  exact ⟨rfl, Y, FIN.out.1, (Fr.of_below HB.out).trans FIN.out.2⟩

set_option maxHeartbeats 1000000 in
theorem r_locked_A1 (Y : Lay) (m : Mac) (n k l : Nat) (p : Int) (log : ByteArray) (w : World) (h : MachAt w n Y m log) (hk : k < n) (hn : n ≤ 4) (hl : l < 4) (ho : ¬ m.own l < 0) (hbl : (m.blk l).length ≤ 1000) :
    Calls Tryz.prog 65 #[.pointer (some ⟨Y.b, 0, none⟩), .int .i64 k, .agg #[.int .u8 65, .int .i64 l, .int .i64 p]] w fun e w' => e = .returned (.tuple #[]) ∧ ∃ Y', MachAt w' n Y' { m with th := upd m.th k { m.th k with sta := 66 }, blk := upd m.blk l (m.blk l ++ [k]) } log ∧ Fr Y Y' w w' := by
  have hb : Below w.heap.size w (w.alloc (.cells #[.int .u8 65, .int .i64 l, .int .i64 p] 63)) := (Below.refl _ _).alloc (Nat.le_refl _) _
  have h1 := h.below hb
  obtain ⟨x0, x1, x2⟩ := (own_new h #[.int .u8 65, .int .i64 l, .int .i64 p] 63).in3
  obtain ⟨ob, oo, ocap, hv, hcs, _⟩ := h1.owners
  have hc := hcs l hl
  obtain ⟨u, hu⟩ : ∃ u, u = m.own l := ⟨_, rfl⟩
  rw [← hu] at hc ho
  clear hcs hu
  have f4 := h1.fields.2.2.2.2.1
  have f1 := h1.fields.2.1
  rw [hv] at f4
  obtain ⟨_, _, z0, _, z1⟩ := h1.cellT hk
  have z1 := z1 (k * 4 + 2)
  have h2 := h1.setSta (k := k) (s := 66) hk
  obtain ⟨ws, hws⟩ : ∃ ws, ws = (w.alloc (.cells #[.int .u8 65, .int .i64 l, .int .i64 p] 63)).setCell ⟨Y.gt, k * 4 + 2, none⟩ (.int .u8 66) := ⟨_, rfl⟩
  rw [← hws] at h2
  have hfr : Fr Y Y w ws := by rw [hws]; exact (Fr.of_below hb).trans fr_sta
  have hsl := h2.sl (7 + l) (by omega)
  rw [cont_blk _ hl] at hsl
  have HSL : Hid (∀ W, Below ws.heap.size ws W → SlAt W (Y.val (7 + l)) (castL (m.blk l)) (Y.blk (7 + l))) := fun W hW => hsl.kept (fun b hb => hW.block b (hsl.lt b hb))
  have FIN := hide (fun (w0 w1 : World) v g => fin_blk (w0 := w0) (w1 := w1) (v := v) (g := g) (x := k) h2 hl hn)
  have f5 := h2.fields.2.2.2.2.2.1
  have f5b := h2.fields.2.2.2.2.2.2.2.2.2.2
  have c0 := (h2.cellB hl).1
  have c0b : Y.gb < ws.heap.size := h2.lt (.inr (.inr (.inl rfl)))
  have HF := hide hfr
  have HWS := hide hws
  have HL : Hid ((castL (m.blk l)).length ≤ 1000000) := by simp only [castL, List.length_map, Hid]; omega
  obtain ⟨i0, hi, hz0, hz1, hz2⟩ := info_parts Tryz.info3
  have hk0 : (0 : Int) ≤ (k : Int) := by omega
  have hk1 : (k : Int) < (n : Int) := by omega
  have hl0 : (0 : Int) ≤ (l : Int) := by omega
  have hl1 : (l : Int) < 4 := by omega
  clear h h1 h2 hb hv hsl hfr
  go_enter Tryz.func65, Tryz.ntmps65
  go_wp2
  rw [← HWS.out]
  clear hws
  go_region_law
    (first
      | (refine step_append_sl _ rfl (.tmp 47) (.tmp 49) 29 rfl i0 Tryz.underlying29 hi hz0 hz1 hz2 _ (castL (m.blk l)) (Y.blk (7 + l)) rfl (HSL.out _ (by first | exact keep_ad | exact keep_drew)) ⟨ws.heap.size, 0, none⟩ 1 (k : Int) rfl (by exact one_at rfl) HL.out ?_; intro v' w1 g' ha hgr hfr; obtain ⟨ao, cp, rfl⟩ := ha.slice; obtain ⟨R, y0, y1, y2⟩ := FIN.out _ w1 _ g' keep_ad ha hgr hfr; clear ha hgr hfr))
  all_goals
    go_end0
    rw [List.length_append, List.length_singleton] at R
    obtain ⟨Y', p1, p2⟩ := R
    exact ⟨rfl, Y', p1, HF.out.trans p2⟩

set_option maxHeartbeats 1000000 in
theorem r_locked_R (Y : Lay) (m : Mac) (n k l : Nat) (p : Int) (log : ByteArray) (w : World) (h : MachAt w n Y m log) (hn : n ≤ 4) (hl : l < 4) (hbn : ∀ x, x ∈ m.blk l → x < n) (hbl : (m.blk l).length ≤ 1000) (hq : m.q.length ≤ 1000) :
    Calls Tryz.prog 65 #[.pointer (some ⟨Y.b, 0, none⟩), .int .i64 k, .agg #[.int .u8 82, .int .i64 l, .int .i64 p]] w fun e w' => e = .returned (.tuple #[]) ∧ ∃ Y', MachAt w' n Y' (giveM m l) log ∧ Fr Y Y' w w' := by
  have hb : Below w.heap.size w (w.alloc (.cells #[.int .u8 82, .int .i64 l, .int .i64 p] 63)) := (Below.refl _ _).alloc (Nat.le_refl _) _
  have h1 := h.below hb
  obtain ⟨x0, x1, x2⟩ := (own_new h #[.int .u8 82, .int .i64 l, .int .i64 p] 63).in3
  have HP := hide (r_give Y m n l log _ h1 hl hn hbn hbl hq)
  have HB := hide hb
  clear h h1 hb hbn
  go_enter Tryz.func65, Tryz.ntmps65
  go_wp2_with fail
  refine HP.out.mono ?_
  rintro e w1 ⟨rfl, Y1, a1, b1⟩
  have A1 := hide a1
  have B1 := hide b1
  clear a1 b1
  go_wp2
  go_end0
  exact ⟨rfl, Y1, A1.out, (Fr.of_below HB.out).trans B1.out⟩

theorem giveM_wai (m : Mac) (l : Nat) : (giveM m l).wai = m.wai := by
  unfold giveM; split <;> rfl

set_option maxHeartbeats 1000000 in
theorem r_locked_W (Y : Lay) (m : Mac) (n k l : Nat) (p : Int) (log : ByteArray) (w : World) (h : MachAt w n Y m log) (hk : k < n) (hn : n ≤ 4) (hl : l < 4) (hbn : ∀ x, x ∈ m.blk l → x < n) (hbl : (m.blk l).length ≤ 1000) (hwl : (m.wai l).length ≤ 1000) (hq : m.q.length ≤ 1000) :
    Calls Tryz.prog 65 #[.pointer (some ⟨Y.b, 0, none⟩), .int .i64 k, .agg #[.int .u8 87, .int .i64 l, .int .i64 p]] w fun e w' => e = .returned (.tuple #[]) ∧ ∃ Y', MachAt w' n Y' (waitM (giveM m l) k l) log ∧ Fr Y Y' w w' := by
  have hb : Below w.heap.size w (w.alloc (.cells #[.int .u8 87, .int .i64 l, .int .i64 p] 63)) := (Below.refl _ _).alloc (Nat.le_refl _) _
  have h1 := h.below hb
  obtain ⟨x0, x1, x2⟩ := (own_new h #[.int .u8 87, .int .i64 l, .int .i64 p] 63).in3
  have HP := hide (r_give Y m n l log _ h1 hl hn hbn hbl hq)
  have HB := hide hb
  have HL : Hid ((castL ((giveM m l).wai l)).length ≤ 1000000) := by rw [giveM_wai]; simp only [castL, List.length_map, Hid]; omega
  obtain ⟨i0, hi, hz0, hz1, hz2⟩ := info_parts Tryz.info3
  have hk0 : (0 : Int) ≤ (k : Int) := by omega
  have hk1 : (k : Int) < (n : Int) := by omega
  have hl0 : (0 : Int) ≤ (l : Int) := by omega
  have hl1 : (l : Int) < 4 := by omega
  generalize giveM m l = m1 at *
  clear h h1 hb hbn hbl hwl hq
  go_enter Tryz.func65, Tryz.ntmps65
  go_wp2_with fail
  refine HP.out.mono ?_
  rintro e w1 ⟨rfl, Y1, a1, b1⟩
  have f1 := a1.fields.2.1
  obtain ⟨_, _, z0, _, z1⟩ := a1.cellT hk
  have z1 := z1 (k * 4 + 2)
  have h2 := a1.setSta (k := k) (s := 87) hk
  obtain ⟨ws, hws⟩ : ∃ ws, ws = w1.setCell ⟨Y1.gt, k * 4 + 2, none⟩ (.int .u8 87) := ⟨_, rfl⟩
  rw [← hws] at h2
  have hfr : Fr Y Y1 w ws := by rw [hws]; exact ((Fr.of_below HB.out).trans b1).trans fr_sta
  have hsl := h2.sl (11 + l) (by omega)
  rw [cont_wai _] at hsl
  have HSL : Hid (∀ W, Below ws.heap.size ws W → SlAt W (Y1.val (11 + l)) (castL (m1.wai l)) (Y1.blk (11 + l))) := fun W hW => hsl.kept (fun b hb => hW.block b (hsl.lt b hb))
  have FIN := hide (fun (w0 w1 : World) v g => fin_wai (w0 := w0) (w1 := w1) (v := v) (g := g) (x := k) h2 hl hn)
  have f6 := h2.fields.2.2.2.2.2.2.1
  have f6b := h2.fields.2.2.2.2.2.2.2.2.2.2
  have c0 := (h2.cellW hl).1
  have c0b : Y1.gw < ws.heap.size := h2.lt (.inr (.inr (.inr (.inl rfl))))
  have HF := hide hfr
  have HWS := hide hws
  rw [← b1.same.1]
  clear a1 b1 h2 hsl hfr x0 x1 x2
  go_wp2
  rw [← HWS.out]
  clear hws
  go_region_law
    (first
      | (refine step_append_sl _ rfl (.tmp 80) (.tmp 82) 29 rfl i0 Tryz.underlying29 hi hz0 hz1 hz2 _ (castL (m1.wai l)) (Y1.blk (11 + l)) rfl (HSL.out _ (by first | exact keep_ad | exact keep_drew)) ⟨ws.heap.size, 0, none⟩ 1 (k : Int) rfl (by exact one_at rfl) HL.out ?_; intro v' w1 g' ha hgr hfr; obtain ⟨ao, cp, rfl⟩ := ha.slice; obtain ⟨R, y0, y1, y2⟩ := FIN.out _ w1 _ g' keep_ad ha hgr hfr; clear ha hgr hfr))
  all_goals
    go_end0
    rw [List.length_append, List.length_singleton] at R
    obtain ⟨Y', p1, p2⟩ := R
    exact ⟨rfl, Y', p1, HF.out.trans p2⟩

set_option maxHeartbeats 1000000 in
theorem r_locked_N0 (Y : Lay) (m : Mac) (n k l : Nat) (p : Int) (log : ByteArray) (w : World) (h : MachAt w n Y m log) (hl : l < 4) (hw : m.wai l = []) :
    Calls Tryz.prog 65 #[.pointer (some ⟨Y.b, 0, none⟩), .int .i64 k, .agg #[.int .u8 78, .int .i64 l, .int .i64 p]] w fun e w' => e = .returned (.tuple #[]) ∧ ∃ Y', MachAt w' n Y' m log ∧ Fr Y Y' w w' := by
  have hb : Below w.heap.size w (w.alloc (.cells #[.int .u8 78, .int .i64 l, .int .i64 p] 63)) := (Below.refl _ _).alloc (Nat.le_refl _) _
  have h1 := h.below hb
  obtain ⟨x0, x1, x2⟩ := (own_new h #[.int .u8 78, .int .i64 l, .int .i64 p] 63).in3
  have f6 := h1.fields.2.2.2.2.2.2.1
  have c0 := (h1.cellW hl).1
  have hsl := h1.sl (11 + l) (by omega)
  rw [cont_wai m, hw] at hsl
  obtain ⟨ao, cap, hs⟩ := hsl.slice
  rw [hs, show (castL []).length = 0 from rfl] at c0
  have H1 := hide h1
  have HB := hide hb
  have hl0 : (0 : Int) ≤ (l : Int) := by omega
  have hl1 : (l : Int) < 4 := by omega
  clear h h1 hb hsl hs hw
  go_enter Tryz.func65, Tryz.ntmps65
  go_wp2
  go_end0
  exact ⟨rfl, Y, H1.out, Fr.of_below HB.out⟩

set_option maxHeartbeats 1000000 in
theorem r_locked_N1 (Y : Lay) (m : Mac) (n k l x : Nat) (r : List Nat) (p : Int) (log : ByteArray) (w : World) (h : MachAt w n Y m log) (hn : n ≤ 4) (hl : l < 4) (hw : m.wai l = x :: r) (hx : x < n) (hrl : r.length ≤ 1000) (hbl : (m.blk l).length ≤ 1000) :
    Calls Tryz.prog 65 #[.pointer (some ⟨Y.b, 0, none⟩), .int .i64 k, .agg #[.int .u8 78, .int .i64 l, .int .i64 p]] w fun e w' => e = .returned (.tuple #[]) ∧ ∃ Y', MachAt w' n Y' { m with th := upd m.th x { m.th x with sta := 66 }, wai := upd m.wai l r, blk := upd m.blk l (m.blk l ++ [x]) } log ∧ Fr Y Y' w w' := by
  have hb : Below w.heap.size w (w.alloc (.cells #[.int .u8 78, .int .i64 l, .int .i64 p] 63)) := (Below.refl _ _).alloc (Nat.le_refl _) _
  have h1 := h.below hb
  obtain ⟨x0, x1, x2⟩ := (own_new h #[.int .u8 78, .int .i64 l, .int .i64 p] 63).in3
  have f6 := h1.fields.2.2.2.2.2.2.1
  obtain ⟨c0, c1⟩ := h1.cellW hl
  have hsl := h1.sl (11 + l) (by omega)
  rw [cont_wai m, hw] at hsl
  obtain ⟨B, O, cap, hv, hcap, hxc, htl⟩ := hsl.first
  rw [hv] at c0
  rw [show (r.map (fun (x : Nat) => (x : Int))).length = r.length by simp] at c0 hcap htl
  obtain ⟨ao, hao⟩ : ∃ ao : Option Addr, ao = if cap = 1 then some ⟨B, O, none⟩ else some ⟨B, O + 1, none⟩ := ⟨_, rfl⟩
  rw [← hao] at htl
  have HAO := hide hao
  obtain ⟨wa, hwa⟩ : ∃ wa, wa = w.alloc (.cells #[.int .u8 78, .int .i64 l, .int .i64 p] 63) := ⟨_, rfl⟩
  rw [← hwa] at h1 htl
  obtain ⟨hA, fA⟩ := h1.putWai hl hn (World.grownBy.refl _ _) (s' := r) htl (.inl rfl)
  have hA1 := hA.below keep_drew
  have fA1 := fA.trans (Fr.of_below keep_drew)
  have b0 : (putL Y (11 + l) (Value.slice ao r.length (cap - 1)) (Y.blk (11 + l))).b = Y.b := rfl
  have b1 : (putL Y (11 + l) (Value.slice ao r.length (cap - 1)) (Y.blk (11 + l))).gt = Y.gt := rfl
  have b2 : (putL Y (11 + l) (Value.slice ao r.length (cap - 1)) (Y.blk (11 + l))).gb = Y.gb := rfl
  generalize putL Y (11 + l) (Value.slice ao r.length (cap - 1)) (Y.blk (11 + l)) = Y1 at *
  have f1 := hA1.fields.2.1
  obtain ⟨_, _, z0, _, z1⟩ := hA1.cellT hx
  have z1 := z1 (x * 4 + 2)
  rw [b0, b1] at f1
  rw [b1] at z0 z1
  have h2 := hA1.setSta (k := x) (s := 66) hx
  obtain ⟨ws, hws⟩ : ∃ ws, ws = (wa.setCell ⟨Y.gw, l, none⟩ (Value.slice ao r.length (cap - 1))).drew.setCell ⟨Y1.gt, x * 4 + 2, none⟩ (.int .u8 66) := ⟨_, rfl⟩
  rw [← hws] at h2
  have hfr : Fr Y Y1 w ws := by rw [hws]; exact ((Fr.of_below (by rw [hwa]; exact hb)).trans fA1).trans fr_sta
  have hsl2 := h2.sl (7 + l) (by omega)
  rw [cont_blk _ hl] at hsl2
  have HSL : Hid (∀ W, Below ws.heap.size ws W → SlAt W (Y1.val (7 + l)) (castL (m.blk l)) (Y1.blk (7 + l))) := fun W hW => hsl2.kept (fun b hb => hW.block b (hsl2.lt b hb))
  have FIN := hide (fun (w0 w1 : World) v g => fin_blk (w0 := w0) (w1 := w1) (v := v) (g := g) (x := x) h2 hl hn)
  have f5 := h2.fields.2.2.2.2.2.1
  have f5b := h2.fields.2.2.2.2.2.2.2.2.2.2
  have d0 := (h2.cellB hl).1
  have d0b : Y1.gb < ws.heap.size := h2.lt (.inr (.inr (.inl rfl)))
  rw [b0] at f5 f5b
  have HF := hide hfr
  rw [b1, hwa] at hws
  have HWS : Hid (ws = (((w.alloc (.cells #[.int .u8 78, .int .i64 l, .int .i64 p] 63)).setCell ⟨Y.gw, l, none⟩ (Value.slice ao r.length (cap - 1))).setCell ⟨Y.gt, x * 4 + 2, none⟩ (.int .u8 66)).drew) := hws.trans rfl
  have B0 := hide b0
  have HL : Hid ((castL (m.blk l)).length ≤ 1000000) := by simp only [castL, List.length_map, Hid]; omega
  obtain ⟨i0, hi, hz0, hz1, hz2⟩ := info_parts Tryz.info3
  have hk0 : (0 : Int) ≤ (x : Int) := by omega
  have hk1 : (x : Int) < (n : Int) := by omega
  have hl0 : (0 : Int) ≤ (l : Int) := by omega
  have hl1 : (l : Int) < 4 := by omega
  rw [hwa] at f1 z0 z1
  clear h h1 h2 hb hv hsl hsl2 hfr hA hA1 fA fA1 htl hw hwa b0 b1 b2 hao
  generalize r.length = L at *
  go_enter Tryz.func65, Tryz.ntmps65
  go_wp2
  go_region
  rw [← HAO.out]
  go_wp2
  rw [← HWS.out]
  clear hws
  go_region_law
    (first
      | (refine step_append_sl _ rfl (.tmp 137) (.tmp 139) 29 rfl i0 Tryz.underlying29 hi hz0 hz1 hz2 _ (castL (m.blk l)) (Y1.blk (7 + l)) rfl (HSL.out _ (by first | exact keep_ad | exact keep_drew)) ⟨ws.heap.size, 0, none⟩ 1 (x : Int) rfl (by exact one_at rfl) HL.out ?_; intro v' w1 g' ha hgr hfr; obtain ⟨ao, cp, rfl⟩ := ha.slice; obtain ⟨R, y0, y1, y2⟩ := FIN.out _ w1 _ g' keep_ad ha hgr hfr; rw [B0.out] at y2; clear ha hgr hfr))
  all_goals
    go_end0
    rw [List.length_append, List.length_singleton] at R
    obtain ⟨Y', p1, p2⟩ := R
    exact ⟨rfl, Y', p1, HF.out.trans p2⟩

end Go.Proofs.YtjbmflgamogefabGreat
