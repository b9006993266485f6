/- greenref's spots: all that comes to be. -/
import Derived.Test.YtjbmflgamogefabGreatMem
import Derived.Deep.CutRange
namespace Go.Proofs.YtjbmflgamogefabGreat
open Go.RowKit

/-- The cells of a code's instructions, the first of which stands at st. -/
def inCells : Int → List In → List Value
  | _, [] => []
  | st, x :: t => .int .u8 x.1 :: .int .i64 x.2 :: .int .i64 st :: inCells (st + 3) t
theorem inCells_len : ∀ (I : List In) (st : Int), (inCells st I).length = I.length * 3
  | [], _ => rfl
  | x :: t, st => by simp only [inCells, List.length_cons, inCells_len t]; omega
theorem inCells_get : ∀ (I : List In) (st : Int) (k : Nat) (x : In), I[k]? = some x →
    (inCells st I)[k * 3]? = some (.int .u8 x.1) ∧ (inCells st I)[k * 3 + 1]? = some (.int .i64 x.2) ∧ (inCells st I)[k * 3 + 2]? = some (.int .i64 (st + 3 * k))
  | [], _, k, x, h => by simp at h
  | y :: t, st, 0, x, h => by simp at h; subst h; exact ⟨rfl, rfl, by simp [inCells]⟩
  | y :: t, st, k + 1, x, h => by
    have := inCells_get t (st + 3) k x (by simpa using h)
    have e : (k + 1) * 3 = k * 3 + 3 := by omega
    have e2 : st + 3 * ((k + 1 : Nat) : Int) = st + 3 + 3 * (k : Int) := by omega
    rw [e, e2]; simpa [inCells] using this
theorem inCells_snoc (x : In) : ∀ (I : List In) (st : Int), inCells st (I ++ [x]) = inCells st I ++ [.int .u8 x.1, .int .i64 x.2, .int .i64 (st + 3 * I.length)]
  | [], st => by simp [inCells]
  | y :: t, st => by
    have e2 : st + 3 * ((t.length + 1 : Nat) : Int) = st + 3 + 3 * (t.length : Int) := by omega
    simp only [List.cons_append, inCells, inCells_snoc x t, List.length_cons, e2]
def InsAt (w : World) (v : Value) (st : Int) (I : List In) : Prop := w.ownsRow 0 63 3 v I.length (inCells st I)
theorem InsAt.below {w w' : World} {v : Value} {st : Int} {I : List In} (h : InsAt w v st I) (hb : Below w.heap.size w w') : InsAt w' v st I := own_below h hb
theorem InsAt.at {w : World} {ao : Option Addr} {n cap : Nat} {st : Int} {I : List In} (h : InsAt w (.slice ao n cap) st I) {k : Nat} {c a : Int} (hk : I[k]? = some (c, a)) :
    ∃ g, ao = some ⟨g, 0, none⟩ ∧ g < w.heap.size ∧ w.cell? ⟨g, k * 3, none⟩ = some (.int .u8 c) ∧ w.cell? ⟨g, k * 3 + 1, none⟩ = some (.int .i64 a) ∧ w.cell? ⟨g, k * 3 + 2, none⟩ = some (.int .i64 (st + 3 * k)) := by
  have hlt := (List.getElem?_eq_some_iff.1 hk).1
  obtain ⟨g, cap', hv, _, hg, hc⟩ := row_cell h (by omega)
  obtain ⟨g1, g2, g3⟩ := inCells_get I st k _ hk
  simp only [Value.slice.injEq] at hv
  exact ⟨g, hv.1, hg, hc _ _ g1, hc _ _ g2, hc _ _ g3⟩

theorem spots_start (w : World) (base H : Nat) (hH : w.heap.size = H) (hb : base ≤ H) : SpotsAt (w.alloc (.cells #[.int .i64 0, .int .i64 0, .slice none 0 0] 118)) base (.slice (some ⟨H, 0, none⟩) 1 1) [s0] := by
  subst hH
  exact ⟨[(s0, .slice none 0 0)], rfl, ⟨rfl, .inr ⟨w.heap.size, 1, _, rfl, hb, heap_alloc_new w _, Nat.le_refl _, by decide, rfl, rfl⟩⟩, fun m hm => by
    simp at hm; subst hm; exact World.ownsRow_nil _ _ _ _⟩

set_option maxRecDepth 100000 in
set_option maxHeartbeats 4000000 in
theorem r_spots (lv : Value) (st en : Int) (I : List In) (w : World) (hI : InsAt w lv st I) (hO : OkCode I) (hn : I.length ≤ 200) :
    Calls Tryz.prog 38 #[.agg #[lv, .int .i64 en]] w fun e w' => ∃ v' L, e = .returned v' ∧ SpotsAt w' 0 v' L ∧ IsAll I L ∧ Below w.heap.size w w' := by
  obtain ⟨ao, cap, rfl⟩ := row_slice hI
  have HI : Hid (∀ W, Below w.heap.size w W → InsAt W (.slice ao I.length cap) st I) := fun W hb => hI.below hb
  have HO := hide hO
  clear hI hO
  obtain ⟨B, hB⟩ : ∃ B, B = w.heap.size := ⟨_, rfl⟩
  have hB' : w.heap.size = B := hB.symm
  clear hB
  go_enter Tryz.func38, Tryz.ntmps38
  go_wp2
  go_loopw [3, 4] (fun v i wr => ∃ (k : Nat) (L : List Sp), i = .int .i64 k ∧ SpotsAt wr (B + 1) v L ∧ Walking I L k ∧ Below (B + 1) (w.alloc (.cells #[.slice ao I.length cap, .int .i64 en] 60)) wr) (fun _ i _ => (I.length + 1) * 625 * 7 - (intOf i).toNat)
  case atStart => exact ⟨0, [s0], rfl, by subst hB'; exact spots_start (w.alloc _) (w.heap.size + 1) (w.heap.size + 1) (by simp) (Nat.le_refl _), Walking.start I, (Below.refl _ _).alloc (by simp; omega) _⟩
  case round =>
    obtain ⟨k, L, rfl, hL, hwk, hbel⟩ := hrel
    obtain ⟨lo, lcap, rfl⟩ := hL.slice
    have hz0 := hbel.size
    have hz : B < wr.heap.size := by simp at hz0; omega
    clear hz0
    have c0 : wr.cell? ⟨B, 0, none⟩ = some (.slice ao I.length cap) := (hbel.cell (p := ⟨B, 0, none⟩) (by simp)).trans (by subst hB'; exact cell_new _ _ _ 0)
    have HW : Hid (Below w.heap.size w wr) := ((Below.refl _ w).alloc (Nat.le_refl _) _).trans (hbel.mono (by omega))
    have hbd := hwk.bd HO.out
    have hle := hwk.le
    have HWK := hide hwk
    have HLL := hide hL
    clear hwk hL
    by_cases hlt : k < L.length
    · obtain ⟨⟨sp, sh, sr⟩, hx⟩ : ∃ x, L[k]? = some x := ⟨L[k], by simp [hlt]⟩
      obtain ⟨g, gv, rfl, hgb, hg, d0, d1, d2, hgi⟩ := HLL.out.at hx
      simp only at d0 d1 d2 hgi
      obtain ⟨v1, v2, v3, v4, v5, v6⟩ := HWK.out.valid HO.out _ (List.mem_of_getElem? hx)
      simp only at v1 v2 v3 v4 v5 v6
      have hsl := length_le_four sr v5 v6
      obtain ⟨bo, bcap, rfl, _⟩ := hgi.view2
      have HGI := hide hgi
      clear hgi
      by_cases hge : (I.length : Int) ≤ sp
      · have HN : Hid (Walking I L (k + 1)) := HWK.out.next hx (fun t ht => by
          obtain ⟨c, a, hca, _⟩ := ht
          have := (List.getElem?_eq_some_iff.1 hca).1
          simp only at this; omega)
        have HLA : Hid (∀ W, Below wr.heap.size wr W → SpotsAt W (B + 1) (.slice (some ⟨g, 0, none⟩) L.length lcap) L) := fun W hb => HLL.out.below hb
        clear hx HWK HLL
        go_wp2
        go_roundw
        case rel => exact ⟨k + 1, L, by go_num, HLA.out _ ((Below.refl _ _).alloc (Nat.le_refl _) _), HN.out, hbel.alloc (by omega) _⟩
        case measure => simp [intOf]; omega
      · have hlt' : sp.toNat < I.length := by omega
        obtain ⟨⟨c, a⟩, hca⟩ : ∃ x, I[sp.toNat]? = some x := ⟨I[sp.toNat], by simp [hlt']⟩
        have hm := HO.out _ (List.mem_of_getElem? hca)
        simp only at hm
        obtain ⟨m1, m2, m3⟩ := hm
        obtain ⟨gi, rfl, hgi, e0, e1, e2⟩ := (HI.out wr HW.out).at hca
        obtain ⟨q, rfl⟩ : ∃ q : Nat, sp = q := ⟨sp.toNat, by omega⟩
        simp only [Int.toNat_natCast] at *
        have HCA := hide hca
        have HX := hide hx
        clear hca hx
        have HWR := hide (fun W hb => r_wrong c a (st + 3 * q) q sh _ sr W (HGI.out.below (w' := W) hb) hsl v3 v4)
        go_wp2_with fail
        refine (HWR.out _ ?_).mono ?_
        · exact ((Below.refl _ wr).alloc (Nat.le_refl _) _).alloc (by simp) _
        rintro e w1 ⟨rfl, hb1⟩
        have hz1 := hb1.size
        simp at hz1
        have f0 := fun j => hb1.cell (p := ⟨wr.heap.size, j, none⟩) (by simp; omega)
        have f1 := fun j => hb1.cell (p := ⟨wr.heap.size + 1, j, none⟩) (by simp)
        have f2 := hb1.cell (p := ⟨B, 0, none⟩) (by simp; omega)
        clear HWR
        by_cases hgo : goesOn c a ((q : Int), sh, sr)
        · obtain ⟨hg1, hg2⟩ := hgo
          have hw0 : (wrg c a sh sr != 0) = false := by simpa using hg1
          have hx8 : (c == 88) = false := by simpa using hg2
          clear hg1 hg2
          go_wp2_with fail
          have SB : Hid (∀ W, Below w1.heap.size w1 W → Below w1.heap.size w1 W ∧ W.cell? ⟨wr.heap.size, 0, none⟩ = some (.int .i64 q) ∧ W.cell? ⟨wr.heap.size, 1, none⟩ = some (.int .i64 sh) ∧ W.cell? ⟨wr.heap.size, 2, none⟩ = some (.slice bo sr.length bcap) ∧
              W.cell? ⟨wr.heap.size + 1, 0, none⟩ = some (.int .u8 c) ∧ W.cell? ⟨wr.heap.size + 1, 1, none⟩ = some (.int .i64 a) ∧ W.cell? ⟨wr.heap.size + 1, 2, none⟩ = some (.int .i64 (st + 3 * q))) := by
            intro W hb
            have z0 := fun j => hb.cell (p := ⟨wr.heap.size, j, none⟩) (by simp; omega)
            have z1 := fun j => hb.cell (p := ⟨wr.heap.size + 1, j, none⟩) (by simp; omega)
            refine ⟨hb, ?_, ?_, ?_, ?_, ?_, ?_⟩
            · rw [z0, f0]; simp
            · rw [z0, f0]; simp
            · rw [z0, f0]; simp
            · rw [z1, f1]; simp
            · rw [z1, f1]; simp
            · rw [z1, f1]; simp
          have HBH := hide (fun W hb => r_behind c a (st + 3 * q) _ sr W (HGI.out.below (w' := W) hb) hsl)
          have HB1 : Hid (Below wr.heap.size wr w1) := (((Below.refl _ wr).alloc (Nat.le_refl _) _).alloc (by simp) _).trans (hb1.mono (by simp; omega))
          have tk1 := tk_01 c
          have pt1 := pt_01 c
          have e1 : IntKind.i64.wrap ((q : Int) + 1) = q + 1 := wrap_small (by omega) (by omega)
          have e2 : IntKind.i64.wrap (sh - tk c) = sh - tk c := wrap_small (by omega) (by omega)
          have e3 : IntKind.i64.wrap (sh - tk c + pt c) = sh - tk c + pt c := wrap_small (by omega) (by omega)
          go_cut [8] from 11 to 80 (fun s8 W => ∃ T o2 cp2, s8 = .pointer (some ⟨T, 0, none⟩) ∧ w1.heap.size ≤ T ∧ W.heap[T]? = some (.cells #[.int .i64 (q + 1), .int .i64 (sh - tk c + pt c), .slice o2 (behindR c a sr).length cp2] 118 (0, 0)) ∧ Below w1.heap.size w1 W ∧ IntsAt W (.slice o2 (behindR c a sr).length cp2) (behindR c a sr))
          case first =>
            go_region_held3 (fun W => Below w1.heap.size w1 W ∧ W.cell? ⟨wr.heap.size, 0, none⟩ = some (.int .i64 q) ∧ W.cell? ⟨wr.heap.size, 1, none⟩ = some (.int .i64 sh) ∧ W.cell? ⟨wr.heap.size, 2, none⟩ = some (.slice bo sr.length bcap) ∧
                W.cell? ⟨wr.heap.size + 1, 0, none⟩ = some (.int .u8 c) ∧ W.cell? ⟨wr.heap.size + 1, 1, none⟩ = some (.int .i64 a) ∧ W.cell? ⟨wr.heap.size + 1, 2, none⟩ = some (.int .i64 (st + 3 * q)))
              ((refine SB.out _ ?_; first | exact keep_drew | exact keep_ad | exact keep_alloc (by assumption) | exact keep_call (by assumption) (by assumption) | exact keep_set (by assumption) (by omega) | exact keep_after (by assumption) | exact keep_set3 (by assumption) (by omega) | assumption))
              (first
                | (go_at_call 55; refine (r_takes _ _).mono ?_; rintro e w' ⟨rfl, rfl⟩)
                | (go_at_call 56; refine (r_puts _ _).mono ?_; rintro e w' ⟨rfl, rfl⟩)
                | (go_at_call 57; refine (HBH.out _ ?_).mono ?_; exact HB1.out.trans (Below.mono (And.left (by assumption)) HB1.out.size); rintro e w' ⟨v2, rfl, hi2, hb2⟩; obtain ⟨hc2, hf2⟩ := bcell hb2; obtain ⟨o2, cp2, rfl, _⟩ := hi2.view2))
            all_goals
              go_wp2
              go_meet
            all_goals first
              | exact ⟨_, _, _, rfl, cutA hb2 hi2 rfl⟩
              | exact ⟨_, _, _, rfl, cutB hb2 hi2 rfl⟩
          case rest =>
            obtain ⟨T, o2, cp2, rfl, hT1, hT, hbc, hic⟩ := hcut
            obtain ⟨t0, t1, t2, tf, hT2⟩ := three hT
            obtain ⟨_, _, _, _, i0, i1, i2⟩ := SB.out wc hbc
            have hzc := hbc.size
            have hLc : SpotsAt wc (B + 1) (.slice (some ⟨g, 0, none⟩) L.length lcap) L := HLL.out.below (HB1.out.trans (hbc.mono HB1.out.size))
            have hBc : Below (B + 1) (w.alloc (.cells #[.slice (some ⟨gi, 0, none⟩) I.length cap, .int .i64 en] 60)) wc := (hbel.trans (HB1.out.mono (by omega))).trans (hbc.mono (by omega))
            have hz1' : wr.heap.size + 2 ≤ w1.heap.size := by omega
            clear SB HBH HB1 e1 e2 e3 f0 f1 f2 hb1 hbc
            have hgoes : goesOn c a ((q : Int), sh, sr) := ⟨by simpa using hw0, by simpa using hx8⟩
            have HGO := hide hgoes
            clear hgoes
            have HMEM : Hid (((q : Int), sh, sr) ∈ L) := List.mem_of_getElem? HX.out
            have HCQ : Hid (I[(((q : Int), sh, sr) : Sp).1.toNat]? = some (c, a)) := by simpa [Hid] using HCA.out
            have hrl : (behindR c a sr).length ≤ 4 := by
              by_cases h : c = 74
              · have := ((HWK.out.reach _ HMEM.out).step ⟨c, a, HCQ.out, HGO.out, .inr ⟨.inl h, rfl⟩⟩).valid HO.out
                exact length_le_four _ this.2.2.2.2.1 this.2.2.2.2.2
              · have := ((HWK.out.reach _ HMEM.out).step ⟨c, a, HCQ.out, HGO.out, .inl ⟨h, rfl⟩⟩).valid HO.out
                exact length_le_four _ this.2.2.2.2.1 this.2.2.2.2.2
            have HLN : Hid (∀ s ∈ L, s.2.2.length ≤ 4) := fun s hs => length_le_four _ (HWK.out.valid HO.out s hs).2.2.2.2.1 (HWK.out.valid HO.out s hs).2.2.2.2.2
            by_cases h74 : c = 74
            · have hb1 : (c != 74) = false := by simp [h74]
              have hb2 : (c == 74) = true := by simp [h74]
              have HN : Hid (Walking I (addL L (a, sh - tk c + pt c, behindR c a sr)) (k + 1)) :=
                (HWK.out.add HMEM.out ⟨c, a, HCQ.out, HGO.out, .inr ⟨.inl h74, rfl⟩⟩).over (addL_get HX.out) HCQ.out (fun h => absurd h74 h) (fun _ => mem_addL.2 (.inr rfl))
              have hL2 : SpotsAt (wc.setCell ⟨T, 0, none⟩ (.int .i64 a)) (B + 1) (.slice (some ⟨g, 0, none⟩) L.length lcap) L := hLc.set hT (by simp [Value.ownBlock]; omega)
              have hI2 : IntsAt (wc.setCell ⟨T, 0, none⟩ (.int .i64 a)) (.slice o2 (behindR c a sr).length cp2) (behindR c a sr) := own_set_other hic hT (by decide)
              have hB2 : Below (B + 1) (w.alloc (.cells #[.slice (some ⟨gi, 0, none⟩) I.length cap, .int .i64 en] 60)) (wc.setCell ⟨T, 0, none⟩ (.int .i64 a)) := hBc.setCell (by show B + 1 ≤ T; omega) _
              have hz2 : (wc.setCell ⟨T, 0, none⟩ (.int .i64 a)).heap.size = wc.heap.size := by simp [World.setCell]
              have HC2 := hide (r_with _ _ L a (sh - tk c + pt c) (behindR c a sr) _ (B + 1) hL2 hI2 hrl HLN.out (by omega) (by omega))
              have HB2 := hide hB2
              have HT := hide hT
              clear hT hz2
              clear h74 hL2 hI2 hLc hic hB2 hBc HLL HWK
              go_wp2_with fail
              refine HC2.out.mono ?_
              rintro e w3 ⟨v3, rfl, hL3, hg3, _⟩
              have hB3 := HB2.out.grown hg3 (by simp only [World.setCell, Array.size_modify]; omega) (fun k hk => by simp only [Value.ownBlock, Option.some.injEq] at hk; omega)
              go_wp2_with fail
              go_roundw
              case rel => exact ⟨k + 1, _, by go_num, hL3, HN.out, hB3⟩
              case measure => simp [intOf]; omega
            · have hb1 : (c != 74) = true := by simp [h74]
              have hb2 : (c == 74) = false := by simp [h74]
              have HN3 : Hid (Walking I (addL L ((q : Int) + 1, sh - tk c + pt c, behindR c a sr)) k) := HWK.out.add HMEM.out ⟨c, a, HCQ.out, HGO.out, .inl ⟨h74, rfl⟩⟩
              have HC2 := hide (r_with _ _ L ((q : Int) + 1) (sh - tk c + pt c) (behindR c a sr) wc (B + 1) hLc hic hrl HLN.out (by omega) (by omega))
              have HBC := hide hBc
              have HT := hide hT
              have HLC := hide hLc
              have HIC := hide hic
              clear hT hLc hic hBc HLL
              go_wp2_with fail
              refine HC2.out.mono ?_
              rintro e w3 ⟨v3, rfl, hL3, hg3, hw3⟩
              obtain ⟨ao3, cap3, rfl⟩ := hL3.slice
              have hz3 := hg3.size
              have j0 := (hg3.cell_far ⟨wr.heap.size + 1, 0, none⟩ (by show wr.heap.size + 1 < wc.heap.size; omega) (by simp only [Value.ownBlock, ne_eq, Option.some.injEq]; omega)).trans i0
              have j1 := (hg3.cell_far ⟨wr.heap.size + 1, 1, none⟩ (by show wr.heap.size + 1 < wc.heap.size; omega) (by simp only [Value.ownBlock, ne_eq, Option.some.injEq]; omega)).trans i1
              have hT3 := (hg3.block T hT2 (by simp only [Value.ownBlock, ne_eq, Option.some.injEq]; omega)).trans HT.out
              have hB3 := HBC.out.grown hg3 (by omega) (fun k hk => by simp only [Value.ownBlock, Option.some.injEq] at hk; omega)
              have hbd3 := HN3.out.bd HO.out
              have hle3 : L.length ≤ (addL L ((q : Int) + 1, sh - tk c + pt c, behindR c a sr)).length := addL_len
              obtain ⟨u0, u1, u2, uf, hT4⟩ := three hT3
              have hI3 : IntsAt w3 (.slice o2 (behindR c a sr).length cp2) (behindR c a sr) := by
                obtain ⟨M, _, h2, _⟩ := HLC.out
                exact own_grown_other HIC.out h2 (by decide) hg3
              have HL3 := hide hL3
              have HB3 := hide hB3
              have HT3 := hide hT3
              have HI3 := hide hI3
              have HW3 := hide hw3
              clear hL3 hg3 hw3 hT3 hB3 hI3 HT HLC HIC HC2 HBC
              by_cases h90 : c = 90
              · have hb3 : (c == 90) = true := by simp [h90]
                have HN : Hid (Walking I (addL (addL L ((q : Int) + 1, sh - tk c + pt c, behindR c a sr)) (a, sh - tk c + pt c, behindR c a sr)) (k + 1)) :=
                  (HN3.out.add (mem_addL.2 (.inl HMEM.out)) ⟨c, a, HCQ.out, HGO.out, .inr ⟨.inr h90, rfl⟩⟩).over (addL_get (addL_get HX.out)) HCQ.out (fun _ => mem_addL.2 (.inl (mem_addL.2 (.inr rfl)))) (fun _ => mem_addL.2 (.inr rfl))
                have hL4 := HL3.out.set (o := 0) (u := .int .i64 a) HT3.out (fun h => by
                  rcases HW3.out _ h with h | h
                  · simp only [Value.ownBlock, Option.some.injEq] at h; omega
                  · omega)
                have hI4 : IntsAt (w3.setCell ⟨T, 0, none⟩ (.int .i64 a)) (.slice o2 (behindR c a sr).length cp2) (behindR c a sr) := own_set_other HI3.out HT3.out (by decide)
                have HB4 : Hid (Below (B + 1) (w.alloc (.cells #[.slice (some ⟨gi, 0, none⟩) I.length cap, .int .i64 en] 60)) (w3.setCell ⟨T, 0, none⟩ (.int .i64 a))) := HB3.out.setCell (by show B + 1 ≤ T; omega) _
                have HLN3 : ∀ s ∈ addL L ((q : Int) + 1, sh - tk c + pt c, behindR c a sr), s.2.2.length ≤ 4 := fun s hs => length_le_four _ (HN3.out.valid HO.out s hs).2.2.2.2.1 (HN3.out.valid HO.out s hs).2.2.2.2.2
                have HO4 : Hid (∀ kk, (Value.slice ao3 (addL L ((q : Int) + 1, sh - tk c + pt c, behindR c a sr)).length cap3).ownBlock = some kk → B + 1 ≤ kk) := fun kk hk => by
                  rcases HW3.out _ hk with h | h
                  · simp only [Value.ownBlock, Option.some.injEq] at h; omega
                  · omega
                have HC4 := hide (r_with _ _ _ a (sh - tk c + pt c) (behindR c a sr) _ (B + 1) hL4 hI4 hrl HLN3 (by omega) (by simp only [World.setCell, Array.size_modify]; omega))
                clear h90 hL4 hI4 HLN3 HL3 HT3 HI3 HB3 HW3 HWK HLN h74
                generalize hL' : addL L ((q : Int) + 1, sh - tk c + pt c, behindR c a sr) = L' at *
                clear hL'
                go_wp2_with fail
                refine HC4.out.mono ?_
                rintro e w5 ⟨v5, rfl, hL5, hg5, _⟩
                have hB5 := HB4.out.grown hg5 (by simp only [World.setCell, Array.size_modify]; omega) HO4.out
                go_wp2_with fail
                go_roundw
                case rel => exact ⟨k + 1, _, by go_num, hL5, HN.out, hB5⟩
                case measure => simp [intOf]; omega
              · have hb3 : (c == 90) = false := by simp [h90]
                have HN : Hid (Walking I (addL L ((q : Int) + 1, sh - tk c + pt c, behindR c a sr)) (k + 1)) :=
                  HN3.out.over (addL_get HX.out) HCQ.out (fun _ => mem_addL.2 (.inr rfl)) (fun h => absurd h (by rintro (h | h) <;> contradiction))
                clear h90 h74 HWK HLN
                generalize hL' : addL L ((q : Int) + 1, sh - tk c + pt c, behindR c a sr) = L' at *
                clear hL'
                go_wp2_with fail
                go_roundw
                case rel => exact ⟨k + 1, _, by go_num, HL3.out, HN.out, HB3.out⟩
                case measure => simp [intOf]; omega
        · have HN : Hid (Walking I L (k + 1)) := HWK.out.next HX.out (fun t ht => by
            obtain ⟨c', a', hca', hg', _⟩ := ht
            have := HCA.out
            simp only [Int.toNat_natCast] at hca'
            rw [this] at hca'
            cases hca'
            exact absurd hg' hgo)
          have HLA : Hid (SpotsAt w1 (B + 1) (.slice (some ⟨g, 0, none⟩) L.length lcap) L) := HLL.out.below ((((Below.refl _ wr).alloc (Nat.le_refl _) _).alloc (by simp) _).trans (hb1.mono (by simp; omega)))
          have HBB : Hid (Below (B + 1) (w.alloc (.cells #[.slice (some ⟨gi, 0, none⟩) I.length cap, .int .i64 en] 60)) w1) := ((hbel.alloc (by omega) _).alloc (by simp; omega) _).trans (hb1.mono (by simp; omega))
          clear HX HWK HLL HGI
          cases hw0 : (wrg c a sh sr != 0) with
          | true =>
            clear hgo
            go_wp2
            go_roundw
            case rel => exact ⟨k + 1, L, by go_num, HLA.out, HN.out, HBB.out⟩
            case measure => simp [intOf]; omega
          | false =>
            have hx8 : (c == 88) = true := by
              have hw1 : wrg c a sh sr = 0 := by simpa using hw0
              by_cases h8 : c = 88
              · simp [h8]
              · exact absurd ⟨hw1, h8⟩ hgo
            clear hgo
            go_wp2
            go_roundw
            case rel => exact ⟨k + 1, L, by go_num, HLA.out, HN.out, HBB.out⟩
            case measure => simp [intOf]; omega
    · have e : k = L.length := by omega
      have HA : Hid (IsAll I L) := by
        have := HWK.out
        rw [e] at this
        exact this.all
      clear e HWK
      have HWW : Hid (SpotsAt wr 0 (.slice lo L.length lcap) L) := by
        obtain ⟨M, h1, h2, h3⟩ := HLL.out
        exact ⟨M, h1, own_mono h2 (Nat.zero_le _), h3⟩
      clear HLL
      go_wp2
      go_ret
      exact ⟨_, L, rfl, HWW.out, HA.out, HW.out⟩

end Go.Proofs.YtjbmflgamogefabGreat
