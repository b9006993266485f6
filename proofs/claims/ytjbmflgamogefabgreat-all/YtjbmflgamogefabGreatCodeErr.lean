/- green's codeError. -/
import Derived.Test.YtjbmflgamogefabGreatAllSpots
import Derived.Test.YtjbmflgamogefabGreatPureA
namespace Go.Proofs.YtjbmflgamogefabGreat
open Go.RowKit

/-- A row of n + 1 integers of type T at block g. -/
def RowF (w : World) (T g n : Nat) (f : Nat → Int) : Prop := ∃ cc, w.heap[g]? = some (.cells cc T (0, 0)) ∧ cc.size = n + 1 ∧ ∀ j, j ≤ n → cc[j]? = some (.int .i64 (f j))
theorem RowF.cell {w : World} {T g n : Nat} {f : Nat → Int} (h : RowF w T g n f) {p : Nat} (hp : p ≤ n) : w.cell? ⟨g, p, none⟩ = some (.int .i64 (f p)) ∧ w.frozen? ⟨g, p, none⟩ = false ∧ g < w.heap.size := by
  obtain ⟨cc, h1, h2, h3⟩ := h
  exact ⟨by rw [cell_of_row _ _ p _ _ _ h1]; exact h3 p hp, frozen_row h1 p, heap_ltG h1⟩
theorem RowF.below {w w' : World} {T g n : Nat} {f : Nat → Int} (h : RowF w T g n f) (hb : Below w.heap.size w w') : RowF w' T g n f := by
  obtain ⟨cc, h1, h2, h3⟩ := h
  exact ⟨cc, by rw [hb.block g (heap_ltG h1)]; exact h1, h2, h3⟩
theorem RowF.other {w : World} {T g n : Nat} {f : Nat → Int} (h : RowF w T g n f) {g' o : Nat} {u : Value} (hne : g ≠ g') : RowF (w.setCell ⟨g', o, none⟩ u) T g n f := by
  obtain ⟨cc, h1, h2, h3⟩ := h
  exact ⟨cc, by rw [Below.heap_setCell _ _ _ _ hne]; exact h1, h2, h3⟩
theorem RowF.set {w : World} {T g n : Nat} {f f' : Nat → Int} (h : RowF w T g n f) {p : Nat} {y : Int} (hp : p ≤ n) (hy : f' p = y) (hf : ∀ j, j ≠ p → f' j = f j) : RowF (w.setCell ⟨g, p, none⟩ (.int .i64 y)) T g n f' := by
  obtain ⟨cc, h1, h2, h3⟩ := h
  refine ⟨_, heap_setCell_same w g p _ _ _ h1, by rw [Array.size_setIfInBounds]; exact h2, fun j hj => ?_⟩
  rw [Array.getElem?_setIfInBounds]
  by_cases e : p = j
  · subst e; rw [if_pos rfl, if_pos (by omega), hy]
  · rw [if_neg e, h3 j hj, hf j (Ne.symm e)]
theorem RowF.ne {w : World} {T T' g g' n n' : Nat} {f f' : Nat → Int} (h : RowF w T g n f) (h' : RowF w T' g' n' f') (hne : T ≠ T') : g ≠ g' := by
  obtain ⟨_, h1, _⟩ := h
  obtain ⟨_, h2, _⟩ := h'
  exact ne_type h1 h2 hne
theorem RowF.own {w : World} {T g n : Nat} {f : Nat → Int} (h : RowF w T g n f) {base e size m o : Nat} {v u : Value} {xs : List Value} (ho : w.ownsRow base e size v m xs) (hne : e ≠ T) : (w.setCell ⟨g, o, none⟩ u).ownsRow base e size v m xs := by
  obtain ⟨_, h1, _⟩ := h
  exact own_set_other ho h1 hne
theorem made_rowF {w : World} {base T g n : Nat} (h : w.ownsRow base T 1 (.slice (some ⟨g, 0, none⟩) (n + 1) (n + 1)) (n + 1) (madeCells #[.int .i64 0] ((n + 1) * 1)).toList) : RowF w T g n (fun _ => 0) := by
  obtain ⟨cur, h1, h2⟩ := made_row h
  refine ⟨cur, h1, by rw [← Array.length_toList, h2]; simp, fun j hj => ?_⟩
  rw [← Array.getElem?_toList, h2, List.getElem?_replicate, if_pos (by omega)]

def cntF (L : List Sp) (j : Nat) : Int := ((L.filter (atP j)).length : Nat)
def wrongF (I : List In) (F : List Sp) (p : Nat) : Int := match I[p]? with
  | some x => eR x.1 x.2 F
  | none => if F.length = 0 then 0 else 7
def wrnF (I : List In) (L : List Sp) (j : Nat) : Int := wrongF I (L.filter (atP j)) j
theorem atP_ne {j p : Nat} {h : Int} {r : List Int} (hne : j ≠ p) : atP j ((p : Int), h, r) = false := by
  simp only [atP, beq_eq_false_iff_ne]; omega
theorem atP_eq {p : Nat} {h : Int} {r : List Int} : atP p ((p : Int), h, r) = true := by simp [atP]
theorem cntF_step {L : List Sp} {k p : Nat} {h : Int} {r : List Int} (hx : L[k]? = some ((p : Int), h, r)) : cntF (L.take (k + 1)) p = cntF (L.take k) p + 1 ∧ ∀ j, j ≠ p → cntF (L.take (k + 1)) j = cntF (L.take k) j := by
  refine ⟨?_, fun j hj => ?_⟩
  · unfold cntF; rw [filter_take _ _ _ _ hx, atP_eq]; simp
  · unfold cntF; rw [filter_take _ _ _ _ hx, atP_ne hj]; simp
theorem wrnF_step {I : List In} {L : List Sp} {k p : Nat} {h : Int} {r : List Int} (hx : L[k]? = some ((p : Int), h, r)) :
    (∀ c a, I[p]? = some (c, a) → wrnF I (L.take (k + 1)) p = wrg c a h r) ∧ (I[p]? = none → wrnF I (L.take (k + 1)) p = 7) ∧ ∀ j, j ≠ p → wrnF I (L.take (k + 1)) j = wrnF I (L.take k) j := by
  refine ⟨fun c a hc => ?_, fun hc => ?_, fun j hj => ?_⟩
  · unfold wrnF wrongF; rw [filter_take _ _ _ _ hx, atP_eq, hc]; simp [eR_snoc]
  · unfold wrnF wrongF; rw [filter_take _ _ _ _ hx, atP_eq, hc]; simp
  · unfold wrnF; rw [filter_take _ _ _ _ hx, atP_ne hj]; simp
theorem cntF_le (L : List Sp) (k p : Nat) : 0 ≤ cntF (L.take k) p ∧ cntF (L.take k) p ≤ L.length := by
  unfold cntF
  have := filter_take_len (atP p) L k
  omega
theorem wrn_start {w : World} {g : Nat} {I : List In} {L : List Sp} (h : RowF w 34 g I.length (fun _ => 0)) : RowF w 34 g I.length (wrnF I (L.take 0)) := by
  have e : wrnF I (L.take 0) = fun _ => 0 := by
    funext j
    unfold wrnF wrongF
    cases I[j]? <;> simp [eR]
  rw [e]; exact h
/-- How the program tells the error of a place. -/
theorem fault_of {I : List In} {L : List Sp} {p : Nat} : faultF I L p = if 1 < cntF L p ∧ p < I.length then 4 else wrnF I L p := by
  unfold faultF wrnF wrongF cntF
  by_cases hp : p < I.length
  · have e : I[p]? = some I[p] := by simp [hp]
    rw [e]
    simp only
    by_cases h0 : (L.filter (atP p)).length = 0
    · have h1 : L.filter (atP p) = [] := List.eq_nil_of_length_eq_zero h0
      rw [h1]; simp [eR]
    · rw [if_neg h0]
      by_cases h1 : 1 < (L.filter (atP p)).length
      · rw [if_pos h1, if_pos ⟨by omega, hp⟩]
      · rw [if_neg h1, if_neg (by omega)]
  · have e : I[p]? = none := by simp; omega
    rw [e]
    simp only
    simp only [hp, and_false, if_false]
theorem Tryz.info34 : (Tryz.prog.info? 34).map (fun i => (i.zero, i.size, i.bytes)) = some (some (.int .i64 0), 1, 8) := by kernel_rfl

theorem ce_mid {w wr wc : World} {gc gw n q : Nat} {f f' h : Nat → Int} {v : Value} {L : List Sp} {box : Array Value} {y : Int} (hc : RowF wr 3 gc n f) (hw : RowF wr 34 gw n h) (hL : GSpots wr 0 v L) (hb : Below gc w wr) (hq : q ≤ n) (hy : f' q = y) (hf : ∀ j, j ≠ q → f' j = f j)
    (hwc : wc = (wr.setCell ⟨gc, q, none⟩ (.int .i64 y)).alloc (.cells box 112)) :
    RowF wc 3 gc n f' ∧ RowF wc 34 gw n h ∧ GSpots wc 0 v L ∧ Below gc w wc ∧ wc.heap[wr.heap.size]? = some (.cells box 112 (0, 0)) ∧ wc.heap.size = wr.heap.size + 1 := by
  subst hwc
  have hz : (wr.setCell ⟨gc, q, none⟩ (.int .i64 y)).heap.size = wr.heap.size := by simp [World.setCell]
  have hbb : ∀ W : World, Below W.heap.size W (W.alloc (.cells box 112)) := fun W => (Below.refl _ _).alloc (Nat.le_refl _) _
  have hgl := (hc.cell (Nat.zero_le n)).2.2
  refine ⟨(hc.set hq hy hf).below (hbb _), (hw.other (hc.ne hw (by decide)).symm).below (hbb _), own_below (hc.own hL (by decide)) (hbb _), (hb.setCell (Nat.le_refl _) _).alloc (by rw [hz]; omega) _, ?_, by simp [hz]⟩
  have := heap_alloc_new (wr.setCell ⟨gc, q, none⟩ (.int .i64 y)) (.cells box 112)
  rw [hz] at this; exact this

theorem ce_fin {w wc w' : World} {gc gw n q : Nat} {f h h' : Nat → Int} {v : Value} {L : List Sp} {y : Int} (hc : RowF wc 3 gc n f) (hw : RowF wc 34 gw n h) (hL : GSpots wc 0 v L) (hb : Below gc w wc) (hq : q ≤ n) (hy : h' q = y) (hf : ∀ j, j ≠ q → h' j = h j) (hgg : gc ≤ gw)
    (hb2 : Below wc.heap.size wc w') :
    RowF (w'.setCell ⟨gw, q, none⟩ (.int .i64 y)) 3 gc n f ∧ RowF (w'.setCell ⟨gw, q, none⟩ (.int .i64 y)) 34 gw n h' ∧ GSpots (w'.setCell ⟨gw, q, none⟩ (.int .i64 y)) 0 v L ∧ Below gc w (w'.setCell ⟨gw, q, none⟩ (.int .i64 y)) := by
  have hc' := hc.below hb2
  have hw' := hw.below hb2
  have hgl := (hc.cell (Nat.zero_le n)).2.2
  exact ⟨hc'.other (hc'.ne hw' (by decide)), hw'.set hq hy hf, hw'.own (own_below hL hb2) (by decide), (hb.trans (hb2.mono (by omega))).setCell hgg _⟩

set_option maxRecDepth 100000 in
set_option maxHeartbeats 4000000 in
theorem g_codeError (lv : Value) (I : List In) (w : World) (hI : GIns w lv I) (hO : OkCode I) (hn : I.length ≤ 200) :
    Calls Tryz.prog 35 #[lv] w fun e w' => ∃ L, IsAll I L ∧ e = .returned (.tuple #[.int .i64 (firstF I L (I.length + 1) 0).1, .int .i64 ((firstF I L (I.length + 1) 0).2 : Nat)]) ∧ Below w.heap.size w w' := by
  obtain ⟨ao, cap, rfl⟩ := row_slice hI
  have HI : Hid (∀ W, Below w.heap.size w W → GIns W (.slice ao I.length cap) I) := fun W hb => hI.below hb
  have HO := hide hO
  clear hI hO
  obtain ⟨i0, hi, hz0, hz1, hz2⟩ := info_parts Tryz.info3
  obtain ⟨i1, hj, hy0, hy1, hy2⟩ := info_parts Tryz.info34
  have hby : i0.bytes * (I.length + 1) ≤ 281474976710656 := by rw [hz2]; omega
  have hby1 : i1.bytes * (I.length + 1) ≤ 281474976710656 := by rw [hy2]; omega
  go_enter Tryz.func35, Tryz.ntmps35
  go_wp2_with (first
    | (at_make; refine wpList_make_full _ rfl _ _ 29 rfl w.heap.size 3 i0 (.int .i64 0) 1 Tryz.underlying29 hi hz0 hz1 _ _ _ _ (I.length + 1) rfl rfl (by first | rfl | omega) (by first | rfl | omega) hby (by unfold maxLen; omega) (Nat.le_refl _) ?_; intro w1 hm1 hg1; have hb1 := below_of_grown hg1; have hR1 := made_rowF hm1; have hzz1 := hb1.size; clear hg1 hm1)
    | (at_make; refine wpList_make_full _ rfl _ _ 108 rfl w.heap.size 34 i1 (.int .i64 0) 1 Tryz.underlying108 hj hy0 hy1 _ _ _ _ (I.length + 1) rfl rfl (by first | rfl | omega) (by first | rfl | omega) hby1 (by unfold maxLen; omega) (by omega) ?_; intro w2 hm2 hg2; have hb2 := below_of_grown hg2; have hR2 := made_rowF hm2; have hzz2 := hb2.size; clear hg2 hm2))
  have HR1 := hide (hR1.below hb2)
  have HR2 := hide hR2
  have HB2 : Hid (Below w.heap.size w w2) := hb1.trans (hb2.mono hzz1)
  clear hR1 hR2 hb1 hb2
  have HAS := hide (g_allSpots _ I w2 (HI.out w2 HB2.out) HO.out hn)
  refine HAS.out.mono ?_
  rintro e w3 ⟨v, L, rfl, hL, hA, hb3⟩
  obtain ⟨so, scap, rfl⟩ := row_slice hL
  have HV : Hid (∀ s ∈ L, Valid I.length s) := fun s hs => ((hA.2 s).1 hs).valid HO.out
  have hbd := len_bd hA.1 HV.out
  have HA := hide hA
  have HL := hide hL
  have HB3 : Hid (Below w.heap.size w w3) := HB2.out.trans (hb3.mono HB2.out.size)
  have HR1' := hide (HR1.out.below hb3)
  have HR2' := hide (HR2.out.below hb3)
  have hzz3 := hb3.size
  clear HAS hA hL hb3 HR1 HR2
  obtain ⟨gc, hgc⟩ : ∃ gc, gc = w.heap.size := ⟨_, rfl⟩
  obtain ⟨gw, hgw⟩ : ∃ gw, gw = w1.heap.size := ⟨_, rfl⟩
  rw [← hgc] at HR1'
  rw [← hgw] at HR2'
  have hgc' : w.heap.size = gc := hgc.symm
  have hgw' : w1.heap.size = gw := hgw.symm
  clear hgc hgw
  go_wp2_with fail
  go_loopw [20] (fun i wr => ∃ k : Nat, k ≤ L.length ∧ i = .int .i64 k ∧ RowF wr 3 gc I.length (cntF (L.take k)) ∧ RowF wr 34 gw I.length (wrnF I (L.take k)) ∧ GSpots wr 0 (.slice so L.length scap) L ∧ Below gc w wr) (fun i _ => L.length - (intOf i).toNat)
  case atStart => exact ⟨0, Nat.zero_le _, rfl, HR1'.out, wrn_start HR2'.out, HL.out, hgc' ▸ HB3.out⟩
  case round =>
    obtain ⟨k, hk, rfl, hc, hwn, hL, hbel⟩ := hrel
    have hzr := hbel.size
    by_cases hlt : k < L.length
    · obtain ⟨⟨sp, sh, sr⟩, hx⟩ : ∃ x, L[k]? = some x := ⟨L[k], by simp [hlt]⟩
      obtain ⟨g, rfl, _, hg, d0, d1, d2⟩ := GSpots.at hL hx
      simp only at d0 d1 d2
      obtain ⟨v1, v2, v3, v4, v5, v6⟩ := HV.out _ (List.mem_of_getElem? hx)
      simp only at v1 v2 v3 v4 v5 v6
      have hsl := length_le_four sr v5 v6
      obtain ⟨q, rfl⟩ : ∃ q : Nat, sp = q := ⟨sp.toNat, by omega⟩
      obtain ⟨k0, k1, k2⟩ := hc.cell (show q ≤ I.length by omega)
      obtain ⟨x0, x1, x2⟩ := hwn.cell (show q ≤ I.length by omega)
      have hne : gc ≠ gw := hc.ne hwn (by decide)
      have hcl := cntF_le L k q
      have hp0 : decide ((q : Int) < 0) = false := by simp
      have hq1 : (q : Int) < (I.length : Int) + 1 := by omega
      have hst := cntF_step hx
      have hws := wrnF_step (I := I) hx
      have HST := hide hst
      have HWS := hide hws
      have HC := hide hc
      have HWN := hide hwn
      have HLL := hide hL
      have HBEL := hide hbel
      clear hst hws hx hc hwn hL hbel
      generalize hcv : cntF (L.take k) q = cv at *
      generalize hwv : wrnF I (L.take k) q = wv at *
      have HCV := hide hcv
      clear hcv hwv
      by_cases hqn : q < I.length
      · obtain ⟨⟨c, a⟩, hca⟩ : ∃ x, I[q]? = some x := ⟨I[q], by simp [hqn]⟩
        have hm := HO.out _ (List.mem_of_getElem? hca)
        simp only at hm
        obtain ⟨m1, m2, m3⟩ := hm
        have hq2 : (q : Int) < (I.length : Int) := by omega
        obtain ⟨wc, hwc⟩ : ∃ wc, wc = (wr.setCell ⟨gc, q, none⟩ (.int .i64 (cv + 1))).alloc (.cells #[.int .i64 q, .int .i64 sh, .int .i64 (enc sr)] 112) := ⟨_, rfl⟩
        obtain ⟨r1, r2, r3, r4, r5, r6⟩ := ce_mid HC.out HWN.out HLL.out HBEL.out (show q ≤ I.length by omega) HST.out.1 HST.out.2 hwc
        obtain ⟨gi, rfl, hgi, e0, e1⟩ := (HI.out wc (hgc' ▸ r4)).at hca
        obtain ⟨b0, b1, b2, _, _⟩ := three r5
        obtain ⟨x3, x4, x5⟩ := r2.cell (show q ≤ I.length by omega)
        have hgwi : gw ≠ gi := by
          intro e
          subst e
          have h1 := HI.out wc (hgc' ▸ r4)
          obtain ⟨cc, h2, _⟩ := r2
          exact own_block_type h1 h2 (by decide) rfl
        have hgwx : gw ≠ wr.heap.size := by omega
        have FIN : Hid (∀ w', Below wc.heap.size wc w' → _) := fun w' hb => ce_fin r1 r2 r3 r4 (show q ≤ I.length by omega) (HWS.out.1 c a hca) HWS.out.2.2 (by omega) hb
        have HWC := hide hwc
        have hwz : wr.heap.size < wc.heap.size := by omega
        have SBB : Hid (∀ W W2 : World, (wc.heap.size ≤ W.heap.size ∧ W.cell? ⟨wr.heap.size, 0, none⟩ = some (.int .i64 q) ∧ W.cell? ⟨wr.heap.size, 1, none⟩ = some (.int .i64 sh) ∧ W.cell? ⟨wr.heap.size, 2, none⟩ = some (.int .i64 (enc sr)) ∧ W.cell? ⟨gi, q * 2, none⟩ = some (.int .u8 c) ∧ W.cell? ⟨gi, q * 2 + 1, none⟩ = some (.int .i64 a)) → Below W.heap.size W W2 → (wc.heap.size ≤ W2.heap.size ∧ W2.cell? ⟨wr.heap.size, 0, none⟩ = some (.int .i64 q) ∧ W2.cell? ⟨wr.heap.size, 1, none⟩ = some (.int .i64 sh) ∧ W2.cell? ⟨wr.heap.size, 2, none⟩ = some (.int .i64 (enc sr)) ∧ W2.cell? ⟨gi, q * 2, none⟩ = some (.int .u8 c) ∧ W2.cell? ⟨gi, q * 2 + 1, none⟩ = some (.int .i64 a))) := fun W W2 ⟨h0, h1, h2, h3, h4, h5⟩ hb =>
          ⟨Nat.le_trans h0 hb.size, (hb.cell (p := ⟨wr.heap.size, 0, none⟩) (by show wr.heap.size < _; omega)).trans h1, (hb.cell (p := ⟨wr.heap.size, 1, none⟩) (by show wr.heap.size < _; omega)).trans h2, (hb.cell (p := ⟨wr.heap.size, 2, none⟩) (by show wr.heap.size < _; omega)).trans h3,
            (hb.cell (p := ⟨gi, q * 2, none⟩) (by show gi < _; omega)).trans h4, (hb.cell (p := ⟨gi, q * 2 + 1, none⟩) (by show gi < _; omega)).trans h5⟩
        have SST : Hid (∀ (W : World) (u : Value), (wc.heap.size ≤ W.heap.size ∧ W.cell? ⟨wr.heap.size, 0, none⟩ = some (.int .i64 q) ∧ W.cell? ⟨wr.heap.size, 1, none⟩ = some (.int .i64 sh) ∧ W.cell? ⟨wr.heap.size, 2, none⟩ = some (.int .i64 (enc sr)) ∧ W.cell? ⟨gi, q * 2, none⟩ = some (.int .u8 c) ∧ W.cell? ⟨gi, q * 2 + 1, none⟩ = some (.int .i64 a)) → (wc.heap.size ≤ (W.setCell ⟨gw, q, none⟩ u).heap.size ∧ (W.setCell ⟨gw, q, none⟩ u).cell? ⟨wr.heap.size, 0, none⟩ = some (.int .i64 q) ∧ (W.setCell ⟨gw, q, none⟩ u).cell? ⟨wr.heap.size, 1, none⟩ = some (.int .i64 sh) ∧ (W.setCell ⟨gw, q, none⟩ u).cell? ⟨wr.heap.size, 2, none⟩ = some (.int .i64 (enc sr)) ∧ (W.setCell ⟨gw, q, none⟩ u).cell? ⟨gi, q * 2, none⟩ = some (.int .u8 c) ∧ (W.setCell ⟨gw, q, none⟩ u).cell? ⟨gi, q * 2 + 1, none⟩ = some (.int .i64 a))) := fun W u ⟨h0, h1, h2, h3, h4, h5⟩ =>
          ⟨by simp only [World.setCell, Array.size_modify]; exact h0, (World.cell?_setCell_far _ _ _ _ (by exact hgwx)).trans h1, (World.cell?_setCell_far _ _ _ _ (by exact hgwx)).trans h2, (World.cell?_setCell_far _ _ _ _ (by exact hgwx)).trans h3, (World.cell?_setCell_far _ _ _ _ (by exact hgwi)).trans h4, (World.cell?_setCell_far _ _ _ _ (by exact hgwi)).trans h5⟩
        have S0 : Hid (wc.heap.size ≤ wc.drew.heap.size ∧ wc.drew.cell? ⟨wr.heap.size, 0, none⟩ = some (.int .i64 q) ∧ wc.drew.cell? ⟨wr.heap.size, 1, none⟩ = some (.int .i64 sh) ∧ wc.drew.cell? ⟨wr.heap.size, 2, none⟩ = some (.int .i64 (enc sr)) ∧ wc.drew.cell? ⟨gi, q * 2, none⟩ = some (.int .u8 c) ∧ wc.drew.cell? ⟨gi, q * 2 + 1, none⟩ = some (.int .i64 a)) := ⟨Nat.le_refl _, b0, b1, b2, e0, e1⟩
        clear r1 r2 r3 r4 r5 r6
        go_wp2
        rw [← HWC.out]
        clear hwc
        go_region_held3 (fun W => wc.heap.size ≤ W.heap.size ∧ W.cell? ⟨wr.heap.size, 0, none⟩ = some (.int .i64 q) ∧ W.cell? ⟨wr.heap.size, 1, none⟩ = some (.int .i64 sh) ∧ W.cell? ⟨wr.heap.size, 2, none⟩ = some (.int .i64 (enc sr)) ∧ W.cell? ⟨gi, q * 2, none⟩ = some (.int .u8 c) ∧ W.cell? ⟨gi, q * 2 + 1, none⟩ = some (.int .i64 a))
          ((first | exact S0.out | exact SBB.out _ _ (by assumption) (by assumption) | exact SST.out _ _ (by assumption) | assumption))
          (first
            | (go_at_call 51; refine (g_wrongAt c a q sh sr _ v5 hsl m1 m2 v3 v4).mono ?_; rintro e w' ⟨rfl, hb2⟩; have y0 := (hb2.cell (p := ⟨gw, q, none⟩) x5).trans x3; have y1 := (hb2.frozen (p := ⟨gw, q, none⟩) x5).trans x4))
        all_goals
          have F := hide (FIN.out w' (keep_drew.trans hb2))
          clear SBB SST S0 FIN hb2 y0 y1
          go_wp2
          go_roundw
        case rel => exact ⟨k + 1, by omega, by go_num, F.out.1, F.out.2.1, F.out.2.2.1, F.out.2.2.2⟩
        case measure => simp [intOf]; omega
      · have hq2 : ¬ (q : Int) < (I.length : Int) := by omega
        obtain ⟨wc, hwc⟩ : ∃ wc, wc = (wr.setCell ⟨gc, q, none⟩ (.int .i64 (cv + 1))).alloc (.cells #[.int .i64 q, .int .i64 sh, .int .i64 (enc sr)] 112) := ⟨_, rfl⟩
        obtain ⟨r1, r2, r3, r4, r5, r6⟩ := ce_mid HC.out HWN.out HLL.out HBEL.out (show q ≤ I.length by omega) HST.out.1 HST.out.2 hwc
        have FIN := hide (ce_fin r1 r2 r3 r4 (show q ≤ I.length by omega) (HWS.out.2.1 (by simp; omega)) HWS.out.2.2 (by omega) (Below.refl _ _))
        clear r1 r2 r3 r4 r5 r6
        subst hwc
        rw [World.setCell_alloc_past _ _ _ _ (by simp only [World.setCell, Array.size_modify]; exact x2)] at FIN
        go_wp2
        go_roundw
        case rel => exact ⟨k + 1, by omega, by go_num, FIN.out.1, FIN.out.2.1, FIN.out.2.2.1, FIN.out.2.2.2⟩
        case measure => simp [intOf]; omega
    · have e1 : L.take k = L := List.take_of_length_le (by omega)
      rw [e1] at hc hwn
      have HC := hide hc
      have HWN := hide hwn
      have HBEL : Hid (Below w.heap.size w wr) := hgc' ▸ hbel
      clear e1 hc hwn hL hbel
      go_wp2
      go_loop [64] (fun i => ∃ j : Nat, j ≤ I.length + 1 ∧ i = .int .i64 j ∧ Hid (firstF I L (I.length + 1 - j) j = firstF I L (I.length + 1) 0)) (fun i => I.length + 1 - (intOf i).toNat)
      case atStart => exact ⟨0, by omega, rfl, rfl⟩
      case round =>
        obtain ⟨j, hj2, rfl, hf⟩ := hrel
        by_cases hlt2 : j < I.length + 1
        · obtain ⟨k0, _, _⟩ := HC.out.cell (show j ≤ I.length by omega)
          obtain ⟨x0, _, _⟩ := HWN.out.cell (show j ≤ I.length by omega)
          have HFO := hide (fault_of (I := I) (L := L) (p := j))
          have HFF : Hid (firstF I L (I.length + 1) 0 = if faultF I L j = 0 then firstF I L (I.length + 1 - (j + 1)) (j + 1) else (faultF I L j, j)) := by
            obtain ⟨m, hm⟩ : ∃ m, I.length + 1 - j = m + 1 := ⟨I.length - j, by omega⟩
            rw [Hid, ← hf.out, hm, show I.length + 1 - (j + 1) = m from by omega]
            rfl
          clear hf
          generalize cntF L j = cv at *
          generalize wrnF I L j = wv at *
          by_cases h1 : 1 < cv ∧ j < I.length
          · obtain ⟨h2, h3⟩ := h1
            have h4 : (j : Int) < (I.length : Int) := by omega
            have HR : Hid (firstF I L (I.length + 1) 0 = (4, j)) := by
              have e : faultF I L j = 4 := by rw [HFO.out, if_pos ⟨h2, h3⟩]
              rw [Hid, HFF.out, e]; rfl
            clear HFO HFF
            go_wp2
            go_ret2
            refine ⟨L, HA.out, ?_, by first | exact HBEL.out | (rw [← hgc']; exact HBEL.out)⟩
            rw [HR.out]; rfl
          · have e : faultF I L j = wv := by rw [HFO.out, if_neg h1]
            have HE := hide e
            clear e
            by_cases hwz : wv = 0
            · have hb0 : (wv != 0) = false := by simp [hwz]
              have HR : Hid (firstF I L (I.length + 1 - (j + 1)) (j + 1) = firstF I L (I.length + 1) 0) := by
                rw [Hid, HFF.out, HE.out, if_pos hwz]
              clear HFO HFF hwz
              by_cases h2 : 1 < cv
              · have h4 : ¬ (j : Int) < (I.length : Int) := by omega
                clear h1
                go_wp2
                go_round
                case rel => exact ⟨j + 1, by omega, by go_num, HR⟩
                case measure => simp [intOf]; omega
              · clear h1
                go_wp2
                go_round
                case rel => exact ⟨j + 1, by omega, by go_num, HR⟩
                case measure => simp [intOf]; omega
            · have hb0 : (wv != 0) = true := by simp [hwz]
              have HR : Hid (firstF I L (I.length + 1) 0 = (wv, j)) := by
                rw [Hid, HFF.out, HE.out, if_neg hwz]
              clear HFO HFF hwz
              by_cases h2 : 1 < cv
              · have h4 : ¬ (j : Int) < (I.length : Int) := by omega
                clear h1
                go_wp2
                go_ret2
                refine ⟨L, HA.out, ?_, by first | exact HBEL.out | (rw [← hgc']; exact HBEL.out)⟩
                rw [HR.out]; rfl
              · clear h1
                go_wp2
                go_ret2
                refine ⟨L, HA.out, ?_, by first | exact HBEL.out | (rw [← hgc']; exact HBEL.out)⟩
                rw [HR.out]; rfl
        · have HR : Hid (firstF I L (I.length + 1) 0 = (0, 0)) := by
            rw [Hid, ← hf.out, show I.length + 1 - j = 0 from by omega]; rfl
          clear hf
          go_wp2
          go_ret2
          refine ⟨L, HA.out, ?_, by first | exact HBEL.out | (rw [← hgc']; exact HBEL.out)⟩
          rw [HR.out]; rfl

end Go.Proofs.YtjbmflgamogefabGreat
