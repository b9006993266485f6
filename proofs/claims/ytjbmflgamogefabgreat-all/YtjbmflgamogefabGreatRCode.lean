/- greenref's code and Read. -/
import Derived.Test.YtjbmflgamogefabGreatBytes
import Derived.Test.YtjbmflgamogefabGreatSpots
import Derived.Deep.RegionLaw
namespace Go.Proofs.YtjbmflgamogefabGreat
open Go.RowKit

theorem two {w : World} {g : Nat} {x y : Value} {t : TypeId} (h : w.heap[g]? = some (.cells #[x, y] t (0, 0))) : w.cell? ⟨g, 0, none⟩ = some x ∧ w.cell? ⟨g, 1, none⟩ = some y :=
  ⟨by rw [cell_of_row _ _ 0 _ _ _ h]; rfl, by rw [cell_of_row _ _ 1 _ _ _ h]; rfl⟩
theorem set2 {w : World} {g : Nat} {a b x y : Value} {t : TypeId} (h : w.heap[g]? = some (.cells #[a, b] t (0, 0))) : ((w.setCell ⟨g, 0, none⟩ x).setCell ⟨g, 1, none⟩ y).heap[g]? = some (.cells #[x, y] t (0, 0)) := by
  have h1 := heap_setCell_same w g 0 _ t x h
  have h2 := heap_setCell_same _ g 1 _ t y h1
  rw [h2]; rfl
theorem wrap_u8 {n : Int} (h : 0 ≤ n) (h' : n < 256) : IntKind.u8.wrap n = n := by
  have e1 : ((2 : Int) ^ IntKind.u8.bits) = 256 := by decide
  have e3 : IntKind.u8.signed = false := rfl
  unfold IntKind.wrap
  simp only [e1, e3, Bool.false_and, Bool.false_eq_true, if_false]
  omega
theorem heap_lt {w : World} {k : Nat} {o : Obj} (h : w.heap[k]? = some o) : k < w.heap.size := (Array.getElem?_eq_some_iff.1 h).1
theorem Tryz.info63 : (Tryz.prog.info? 63).map (fun i => (i.zero, i.size, i.bytes)) = some (some (.agg #[.int .u8 0, .int .i64 0, .int .i64 0]), 3, 24) := by kernel_rfl

/-- What 'code' answers. -/
def CodeTold (w' : World) (e : Ending) (i : Nat) (R : Nat ⊕ (List In × Nat)) : Prop := match R with
  | .inl j => ∃ lo n cap, e = .returned (.tuple #[.agg #[.slice lo n cap, .int .i64 0], .int .i64 j, .bool false])
  | .inr x => ∃ lv, e = .returned (.tuple #[.agg #[lv, .int .i64 x.2], .int .i64 x.2, .bool true]) ∧ InsAt w' lv i x.1 ∧ x.2 = i + 3 * x.1.length

set_option maxRecDepth 100000 in
set_option maxHeartbeats 4000000 in
theorem r_code (s : ByteArray) (i0 : Nat) (w : World) (hs : s.size ≤ 400) (hi0 : i0 ≤ s.size) :
    Calls Tryz.prog 37 #[.string s, .int .i64 i0] w fun e w' => CodeTold w' e i0 (pcode ((bytesOf s).drop i0) [] i0) ∧ Below w.heap.size w w' := by
  have HT := hide (bytesOf_len s)
  obtain ⟨n0, hi, hz0, hz1, hz2⟩ := info_parts Tryz.info63
  obtain ⟨B, hB⟩ : ∃ B, B = w.heap.size := ⟨_, rfl⟩
  have hB' : w.heap.size = B := hB.symm
  clear hB
  obtain ⟨R, hR⟩ : ∃ R, pcode ((bytesOf s).drop i0) [] i0 = R := ⟨_, rfl⟩
  rw [hR]
  have HR := hide hR
  clear hR
  go_enter Tryz.func37, Tryz.ntmps37
  go_wp2
  go_loopw [1] (fun i wr => ∃ (k : Nat) (cur : List In) (lv : Value), k ≤ s.size ∧ i = .int .i64 k ∧ k = i0 + 3 * cur.length ∧ pcode ((bytesOf s).drop k) cur k = R ∧ wr.heap[B + 1]? = some (.cells #[lv, .int .i64 0] 60 (0, 0)) ∧ wr.heap[B]? = some (.cells #[.slice none 0 0, .int .i64 0] 60 (0, 0)) ∧ wr.ownsRow (B + 2) 63 3 lv cur.length (inCells i0 cur) ∧ Below B w wr) (fun i _ => s.size - (intOf i).toNat)
  case atStart =>
    subst hB'
    refine ⟨i0, [], .slice none 0 0, hi0, rfl, by simp, HR.out, ?_, ?_, World.ownsRow_nil _ _ _ _, ((Below.refl _ _).alloc (Nat.le_refl _) _).alloc (by simp) _⟩
    · have := heap_alloc_new (w.alloc (.cells #[.slice none 0 0, .int .i64 0] 60)) (.cells #[.slice none 0 0, .int .i64 0] 60)
      rw [World.size_alloc] at this; exact this
    · rw [Below.heap_alloc _ _ _ (by simp)]; exact heap_alloc_new w _
  case round =>
    obtain ⟨k, cur, lv, hk, rfl, hkc, hp, hc1, hc0, hown, hbel⟩ := hrel
    obtain ⟨lo, lcap, rfl⟩ := row_slice hown
    obtain ⟨f0, f1⟩ := two hc1
    obtain ⟨g0, g1⟩ := two hc0
    have fz1 := frozen_row hc1 1
    have fz0 := frozen_row hc1 0
    have gz0 := frozen_row hc0 0
    have gz1 := frozen_row hc0 1
    have hlt1 := heap_lt hc1
    have HP := hide hp
    have HC1 := hide hc1
    have HC0 := hide hc0
    have HOWN := hide hown
    have HBEL := hide hbel
    have HKC := hide hkc
    have hcl : cur.length ≤ 400 := by omega
    clear hp hc1 hc0 hown hbel hkc
    by_cases hlt : k < s.size
    · have hg := bytesOf_get s k hlt
      obtain ⟨q4, q5⟩ := bytesOf_lt s k hlt
      obtain ⟨x, hx⟩ : ∃ x : Int, x = ((s[k]).toNat : Int) := ⟨_, rfl⟩
      have hxe : ((s[k]).toNat : Int) = x := hx.symm
      rw [hxe] at hg q4 q5
      have HG := hide hg
      clear hg hx
      by_cases hbar : x = 124 ∧ ¬ cur = []
      · obtain ⟨hx1, hcn⟩ := hbar
        have hR : R = .inr (cur, k) := by rw [← HP.out]; exact pcode_bar (by rw [HG.out, hx1]) hcn
        have hx2 : (x != 124) = false := by simp [hx1]
        have hl0 : ((cur.length : Int) == 0) = false := by simpa using hcn
        have HRR := hide hR
        clear hR hx1 hcn
        go_wp2
        have hnb : B ≠ B + 1 := by omega
        have hc5 : (wr.setCell ⟨B + 1, 1, none⟩ (.int .i64 k)).heap[B]? = some (.cells #[.slice none 0 0, .int .i64 0] 60 (0, 0)) := by rw [Below.heap_setCell _ _ _ _ hnb]; exact HC0.out
        have hw2 := two (set2 (x := .slice lo cur.length lcap) (y := .int .i64 k) hc5)
        refine bodyPost_ret (v := .tuple #[.agg #[.slice lo cur.length lcap, .int .i64 k], .int .i64 k, .bool true]) (by simp [results, Tryz.results37, go_sem, hw2.1, hw2.2]) rfl ⟨?_, ?_⟩
        · rw [HRR.out]
          have o1 := own_set_other (o := 1) (u := .int .i64 k) HOWN.out HC1.out (by decide)
          have o2 := own_set_other (o := 0) (u := .slice lo cur.length lcap) o1 hc5 (by decide)
          have o3 := own_set_other (o := 1) (u := .int .i64 k) o2 (heap_setCell_same _ B 0 _ _ _ hc5) (by decide)
          exact ⟨_, rfl, own_mono o3 (Nat.zero_le _), HKC.out⟩
        · rw [hB']; exact ((HBEL.out.setCell (by show B ≤ B + 1; omega) _).setCell (Nat.le_refl _) _).setCell (Nat.le_refl _) _
      · cases hl : isLet x with
        | false =>
          have hR : R = .inl k := by rw [← HP.out]; exact pcode_no HG.out hbar hl
          have HRR := hide hR
          clear hR
          by_cases hcn : cur = []
          · have hl0 : ((cur.length : Int) == 0) = true := by simp [hcn]
            clear hcn hbar
            cases hx2 : (x != 124) with
            | true =>
              go_wp2_with (go_at_call 52; refine (r_isOp _ _).mono ?_; rintro e w' ⟨rfl, hw9⟩; replace hw9 := hw9.symm; subst hw9)
              have hw2 := two (set2 (x := .slice lo cur.length lcap) (y := .int .i64 0) HC0.out)
              refine bodyPost_ret (v := .tuple #[.agg #[.slice lo cur.length lcap, .int .i64 0], .int .i64 (k), .bool false]) (by simp [results, Tryz.results37, go_sem, hw2.1, hw2.2]) rfl ⟨?_, ?_⟩
              · rw [HRR.out]; exact ⟨_, _, _, rfl⟩
              · rw [hB']; exact (HBEL.out.setCell (Nat.le_refl _) _).setCell (Nat.le_refl _) _
            | false =>
              go_wp2_with (go_at_call 52; refine (r_isOp _ _).mono ?_; rintro e w' ⟨rfl, hw9⟩; replace hw9 := hw9.symm; subst hw9)
              have hw2 := two (set2 (x := .slice lo cur.length lcap) (y := .int .i64 0) HC0.out)
              refine bodyPost_ret (v := .tuple #[.agg #[.slice lo cur.length lcap, .int .i64 0], .int .i64 (k), .bool false]) (by simp [results, Tryz.results37, go_sem, hw2.1, hw2.2]) rfl ⟨?_, ?_⟩
              · rw [HRR.out]; exact ⟨_, _, _, rfl⟩
              · rw [hB']; exact (HBEL.out.setCell (Nat.le_refl _) _).setCell (Nat.le_refl _) _
          · have hx2 : (x != 124) = true := by
              have : ¬ x = 124 := fun e => hbar ⟨e, hcn⟩
              simpa using this
            clear hcn hbar
            go_wp2_with (go_at_call 52; refine (r_isOp _ _).mono ?_; rintro e w' ⟨rfl, hw9⟩; replace hw9 := hw9.symm; subst hw9)
            have hw2 := two (set2 (x := .slice lo cur.length lcap) (y := .int .i64 0) HC0.out)
            refine bodyPost_ret (v := .tuple #[.agg #[.slice lo cur.length lcap, .int .i64 0], .int .i64 (k), .bool false]) (by simp [results, Tryz.results37, go_sem, hw2.1, hw2.2]) rfl ⟨?_, ?_⟩
            · rw [HRR.out]; exact ⟨_, _, _, rfl⟩
            · rw [hB']; exact (HBEL.out.setCell (Nat.le_refl _) _).setCell (Nat.le_refl _) _
        | true =>
          have hx2 : (x != 124) = true := by simpa using let_bar hl
          have hsz : decide (s.size ≤ k) = false := by simpa using hlt
          clear hbar
          go_wp2_with (go_at_call 52; refine (r_isOp _ _).mono ?_; rintro e w' ⟨rfl, hw9⟩; replace hw9 := hw9.symm; subst hw9)
          obtain ⟨wq, hwq⟩ : ∃ wq : World, wq = wr := ⟨_, rfl⟩
          subst hwq
          go_loopw [8] (fun m wx => wq = wx ∧ ∃ d : Nat, 1 ≤ d ∧ d ≤ 3 ∧ m = .int .i64 d ∧ Hid (2 ≤ d → ∃ y, (bytesOf s)[k + 1]? = some y ∧ isDig y = true) ∧ Hid (3 ≤ d → ∃ y, (bytesOf s)[k + 2]? = some y ∧ isDig y = true)) (fun m _ => 3 - (intOf m).toNat)
          case atStart => exact ⟨rfl, 1, by omega, by omega, rfl, fun h => by omega, fun h => by omega⟩
          case round =>
            obtain ⟨hww, d, hd1, hd3, rfl, hy1, hy2⟩ := hrel
            subst hww
            by_cases hd : d ≤ 2
            · by_cases hkd : k + d < s.size
              · have hgd := bytesOf_get s (k + d) hkd
                obtain ⟨y, hy⟩ : ∃ y : Int, y = ((s[k + d]).toNat : Int) := ⟨_, rfl⟩
                have hye : ((s[k + d]).toNat : Int) = y := hy.symm
                rw [hye] at hgd
                have HGD := hide hgd
                clear hgd hy
                cases hdy : isDig y with
                | false =>
                  have HRR : Hid (R = .inl (k + d)) := by
                    rw [Hid, ← HP.out]
                    rcases (show d = 1 ∨ d = 2 from by omega) with rfl | rfl
                    · exact pcode_d1 HG.out hl (fun z hz => by rw [HGD.out] at hz; cases hz; exact hdy)
                    · obtain ⟨y1, h1, h2⟩ := hy1.out (by omega)
                      exact pcode_d2 HG.out hl h1 h2 (fun z hz => by rw [HGD.out] at hz; cases hz; exact hdy)
                  go_wp2_with (go_at_call 53; refine (r_isDigit _ _).mono ?_; rintro e w' ⟨rfl, hw9⟩; replace hw9 := hw9.symm; subst hw9)
                  have hw2 := two (set2 (x := .slice lo cur.length lcap) (y := .int .i64 0) HC0.out)
                  refine bodyPost_ret (v := .tuple #[.agg #[.slice lo cur.length lcap, .int .i64 0], .int .i64 ((k : Int) + (d : Int)), .bool false]) (by simp [results, Tryz.results37, go_sem, hw2.1, hw2.2]) rfl ⟨?_, ?_⟩
                  · rw [HRR.out]; exact ⟨_, _, _, by rw [Int.natCast_add]⟩
                  · first | exact (HBEL.out.setCell (Nat.le_refl _) _).setCell (Nat.le_refl _) _ | (rw [hB']; exact (HBEL.out.setCell (Nat.le_refl _) _).setCell (Nat.le_refl _) _)
                | true =>
                  go_wp2_with (go_at_call 53; refine (r_isDigit _ _).mono ?_; rintro e w' ⟨rfl, hw9⟩; replace hw9 := hw9.symm; subst hw9)
                  go_roundw
                  case rel =>
                    refine ⟨by trivial, d + 1, by omega, by omega, by go_num, fun h => ?_, fun h => ?_⟩
                    · rcases (show d = 1 ∨ d = 2 from by omega) with rfl | rfl
                      · exact ⟨y, HGD.out, hdy⟩
                      · exact hy1.out (by omega)
                    · rcases (show d = 1 ∨ d = 2 from by omega) with rfl | rfl
                      · omega
                      · exact ⟨y, HGD.out, hdy⟩
                  case measure => simp [intOf]; omega
              · have HRR : Hid (R = .inl (k + d)) := by
                  rw [Hid, ← HP.out]
                  rcases (show d = 1 ∨ d = 2 from by omega) with rfl | rfl
                  · exact pcode_d1 HG.out hl (fun z hz => by have := (List.getElem?_eq_some_iff.1 hz).1; have := HT.out; omega)
                  · obtain ⟨y1, h1, h2⟩ := hy1.out (by omega)
                    exact pcode_d2 HG.out hl h1 h2 (fun z hz => by have := (List.getElem?_eq_some_iff.1 hz).1; have := HT.out; omega)
                go_wp2_with (go_at_call 53; refine (r_isDigit _ _).mono ?_; rintro e w' ⟨rfl, hw9⟩; replace hw9 := hw9.symm; subst hw9)
                have hw2 := two (set2 (x := .slice lo cur.length lcap) (y := .int .i64 0) HC0.out)
                refine bodyPost_ret (v := .tuple #[.agg #[.slice lo cur.length lcap, .int .i64 0], .int .i64 ((k : Int) + (d : Int)), .bool false]) (by simp [results, Tryz.results37, go_sem, hw2.1, hw2.2]) rfl ⟨?_, ?_⟩
                · rw [HRR.out]; exact ⟨_, _, _, by rw [Int.natCast_add]⟩
                · first | exact (HBEL.out.setCell (Nat.le_refl _) _).setCell (Nat.le_refl _) _ | (rw [hB']; exact (HBEL.out.setCell (Nat.le_refl _) _).setCell (Nat.le_refl _) _)
            · have hd3' : d = 3 := by omega
              subst hd3'
              obtain ⟨y1, h1, h2⟩ := hy1.out (by omega)
              obtain ⟨y2, h3, h4⟩ := hy2.out (by omega)
              have hk2 : k + 2 < s.size := by have := (List.getElem?_eq_some_iff.1 h3).1; have := HT.out; omega
              have hk1 : k + 1 < s.size := by omega
              have hb1 := bytesOf_get s (k + 1) hk1
              have hb2 := bytesOf_get s (k + 2) hk2
              have hye1 : ((s[k + 1]).toNat : Int) = y1 := by rw [h1] at hb1; exact (Option.some.inj hb1).symm
              have hye2 : ((s[k + 2]).toNat : Int) = y2 := by rw [h3] at hb2; exact (Option.some.inj hb2).symm
              have hd1' := dig_bd h2
              have hd2' := dig_bd h4
              have HRR : Hid (pcode ((bytesOf s).drop (k + 3)) (cur ++ [(x, 10 * (y1 - 48) + (y2 - 48))]) (k + 3) = R) := by
                rw [Hid, ← HP.out]; exact (pcode_ok HG.out hl h1 h2 h3 h4).symm
              have hye3 : ∀ h, ((s[((k : Int) + 2).toNat]'h).toNat : Int) = y2 := by
                intro h
                have e : ((k : Int) + 2).toNat = k + 2 := by omega
                simp only [e]; exact hye2
              clear h1 h2 h3 h4 hb1 hb2 hy1 hy2
              go_wp2
              have hkb : (k : Int) + 2 < (s.size : Int) := by omega
              have t1 : (0 : Int) ≤ (k : Int) + 1 := by omega
              have t2 : (k : Int) + 1 < (s.size : Int) := by omega
              have t3 : (0 : Int) ≤ (k : Int) + 2 := by omega
              have z1 : IntKind.i64.wrap ((k : Int) + 1) = (k : Int) + 1 := wrap_small (by omega) (by omega)
              have z2 : IntKind.i64.wrap ((k : Int) + 2) = (k : Int) + 2 := wrap_small (by omega) (by omega)
              have z3 : IntKind.u8.wrap (y1 - 48) = y1 - 48 := wrap_u8 (by omega) (by omega)
              have z4 : IntKind.u8.wrap (y2 - 48) = y2 - 48 := wrap_u8 (by omega) (by omega)
              have z5 : IntKind.i64.wrap (y1 - 48) = y1 - 48 := wrap_small (by omega) (by omega)
              have z6 : IntKind.i64.wrap (y2 - 48) = y2 - 48 := wrap_small (by omega) (by omega)
              have z7 : IntKind.i64.wrap (10 * (y1 - 48)) = 10 * (y1 - 48) := wrap_small (by omega) (by omega)
              have z8 : IntKind.i64.wrap (10 * (y1 - 48) + (y2 - 48)) = 10 * (y1 - 48) + (y2 - 48) := wrap_small (by omega) (by omega)
              have FIN : Hid (∀ (W w1 : World) (g cp : Nat), Below wq.heap.size wq W → w1.ownsRow (B + 2) 63 3 (.slice (some ⟨g, 0, none⟩) (cur.length + 1) cp) (cur.length + 1) (inCells i0 cur ++ [.int .u8 x, .int .i64 (10 * (y1 - 48) + (y2 - 48)), .int .i64 k]) → W.grownBy w1 (Value.slice lo cur.length lcap).ownBlock →
                  (w1.setCell ⟨B + 1, 0, none⟩ (.slice (some ⟨g, 0, none⟩) (cur.length + 1) cp)).heap[B + 1]? = some (.cells #[.slice (some ⟨g, 0, none⟩) (cur.length + 1) cp, .int .i64 0] 60 (0, 0)) ∧
                  (w1.setCell ⟨B + 1, 0, none⟩ (.slice (some ⟨g, 0, none⟩) (cur.length + 1) cp)).heap[B]? = some (.cells #[.slice none 0 0, .int .i64 0] 60 (0, 0)) ∧
                  (w1.setCell ⟨B + 1, 0, none⟩ (.slice (some ⟨g, 0, none⟩) (cur.length + 1) cp)).ownsRow (B + 2) 63 3 (.slice (some ⟨g, 0, none⟩) (cur.length + 1) cp) (cur ++ [(x, 10 * (y1 - 48) + (y2 - 48))]).length (inCells i0 (cur ++ [(x, 10 * (y1 - 48) + (y2 - 48))])) ∧
                  Below B w (w1.setCell ⟨B + 1, 0, none⟩ (.slice (some ⟨g, 0, none⟩) (cur.length + 1) cp)) ∧ w1.cell? ⟨B + 1, 0, none⟩ = some (.slice lo cur.length lcap) ∧ w1.frozen? ⟨B + 1, 0, none⟩ = false) := by
                intro W w1 g cp hbW ho hg
                have hzW := hbW.size
                have n1 : some (B + 1) ≠ (Value.slice lo cur.length lcap).ownBlock := fun e => by have := (HOWN.out.lt _ e.symm).1; omega
                have n0 : some B ≠ (Value.slice lo cur.length lcap).ownBlock := fun e => by have := (HOWN.out.lt _ e.symm).1; omega
                have j1 : w1.heap[B + 1]? = some (.cells #[.slice lo cur.length lcap, .int .i64 0] 60 (0, 0)) := by
                  rw [hg.block (B + 1) (by omega) n1, hbW.block (B + 1) (by omega)]; exact HC1.out
                have j0 : w1.heap[B]? = some (.cells #[.slice none 0 0, .int .i64 0] 60 (0, 0)) := by
                  rw [hg.block B (by omega) n0, hbW.block B (by omega)]; exact HC0.out
                refine ⟨heap_setCell_same w1 (B + 1) 0 _ _ _ j1, ?_, ?_, ?_, (two j1).1, frozen_row j1 0⟩
                · rw [Below.heap_setCell _ _ _ _ (by show B ≠ B + 1; omega)]; exact j0
                · rw [inCells_snoc, List.length_append]
                  have ek : (i0 : Int) + 3 * (cur.length : Int) = (k : Int) := by have := HKC.out; omega
                  rw [ek]
                  exact own_set_other ho j1 (by decide)
                · exact ((HBEL.out.trans (hbW.mono (by omega))).grown hg (by omega) (fun j hj => by have := (HOWN.out.lt _ hj).1; omega)).setCell (by show B ≤ B + 1; omega) _
              have HOW : Hid (∀ W, Below wq.heap.size wq W → W.ownsRow (B + 2) 63 3 (.slice lo cur.length lcap) cur.length (inCells i0 cur)) := fun W h => own_below HOWN.out h
              go_region_law
                (first
                  | (refine step_append_lies _ rfl (.tmp 63) (.tmp 83) 58 rfl (B + 2) 63 n0 _ 3 24 Tryz.underlying58 hi hz0 hz1 hz2 rfl (by decide) _ _ _ rfl (HOW.out _ (by first | exact keep_ad | exact keep_drew)) ⟨wq.heap.size, 0, none⟩ 1 1 [.int .u8 x, .int .i64 (10 * (y1 - 48) + (y2 - 48)), .int .i64 k] rfl rfl (by exact news3 wq _ _ _ _) (by intro u hu; simp at hu; rcases hu with rfl | rfl | rfl <;> rfl) (by decide) (by unfold maxLen; omega) (by omega) (by simp; omega) (wq.heap.size + 1) (by simp) ?_; intro g cp w1 ha hgr _ _; have RR := hide (FIN.out _ w1 g cp keep_ad ha hgr); have p0 := RR.out.2.2.2.2.1; have p1 := RR.out.2.2.2.2.2; clear ha hgr))
              all_goals
                clear FIN HOW
                go_wp2
                go_roundw
                case rel => exact ⟨k + 3, cur ++ [(x, 10 * (y1 - 48) + (y2 - 48))], _, by omega, by go_num, by have := HKC.out; rw [List.length_append, List.length_singleton]; omega, HRR.out, RR.out.1, RR.out.2.1, RR.out.2.2.1, RR.out.2.2.2.1⟩
                case measure => simp [intOf]; omega
    · have hke : k = (bytesOf s).length := by rw [HT.out]; omega
      have hpe := pcode_end (T := bytesOf s) (cur := cur) (i := k) (by omega)
      by_cases hcn : cur = []
      · have hR : R = .inl k := by rw [← HP.out, hpe, if_pos hcn]
        have HRR := hide hR
        have hl0 : ((cur.length : Int) == 0) = true := by simp [hcn]
        clear hR hcn hke hpe
        go_wp2_with (go_at_call 52; refine (r_isOp _ _).mono ?_; rintro e w' ⟨rfl, hw9⟩; replace hw9 := hw9.symm; subst hw9)
        have hw2 := two (set2 (x := .slice lo cur.length lcap) (y := .int .i64 0) HC0.out)
        refine bodyPost_ret (v := .tuple #[.agg #[.slice lo cur.length lcap, .int .i64 0], .int .i64 (k), .bool false]) (by simp [results, Tryz.results37, go_sem, hw2.1, hw2.2]) rfl ⟨?_, ?_⟩
        · rw [HRR.out]; exact ⟨_, _, _, rfl⟩
        · rw [hB']; exact (HBEL.out.setCell (Nat.le_refl _) _).setCell (Nat.le_refl _) _
      · have hR : R = .inr (cur, k) := by rw [← HP.out, hpe, if_neg hcn]
        have hl0 : ((cur.length : Int) == 0) = false := by simpa using hcn
        have HRR := hide hR
        clear hR hcn hke hpe
        go_wp2
        have hnb : B ≠ B + 1 := by omega
        have hc5 : (wr.setCell ⟨B + 1, 1, none⟩ (.int .i64 k)).heap[B]? = some (.cells #[.slice none 0 0, .int .i64 0] 60 (0, 0)) := by rw [Below.heap_setCell _ _ _ _ hnb]; exact HC0.out
        have hw2 := two (set2 (x := .slice lo cur.length lcap) (y := .int .i64 k) hc5)
        refine bodyPost_ret (v := .tuple #[.agg #[.slice lo cur.length lcap, .int .i64 k], .int .i64 k, .bool true]) (by simp [results, Tryz.results37, go_sem, hw2.1, hw2.2]) rfl ⟨?_, ?_⟩
        · rw [HRR.out]
          have o1 := own_set_other (o := 1) (u := .int .i64 k) HOWN.out HC1.out (by decide)
          have o2 := own_set_other (o := 0) (u := .slice lo cur.length lcap) o1 hc5 (by decide)
          have o3 := own_set_other (o := 1) (u := .int .i64 k) o2 (heap_setCell_same _ B 0 _ _ _ hc5) (by decide)
          exact ⟨_, rfl, own_mono o3 (Nat.zero_le _), HKC.out⟩
        · rw [hB']; exact ((HBEL.out.setCell (by show B ≤ B + 1; omega) _).setCell (Nat.le_refl _) _).setCell (Nat.le_refl _) _

end Go.Proofs.YtjbmflgamogefabGreat
