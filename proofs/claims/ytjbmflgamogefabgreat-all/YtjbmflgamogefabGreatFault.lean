/- greenref's fault and checked. -/
import Derived.Test.YtjbmflgamogefabGreatSpots
import Derived.Test.YtjbmflgamogefabGreatPureA
namespace Go.Proofs.YtjbmflgamogefabGreat
open Go.RowKit

theorem atP_of {p : Nat} {s : Sp} : atP p s = (s.1 == (p : Int)) := rfl

set_option maxRecDepth 100000 in
set_option maxHeartbeats 4000000 in
theorem r_fault (lv v : Value) (st en : Int) (I : List In) (L : List Sp) (p : Nat) (w : World) (hI : InsAt w lv st I) (hL : SpotsAt w 0 v L) (hv : ∀ s ∈ L, Valid I.length s) (_hn : I.length ≤ 200) (hp : p ≤ I.length) (hbd : L.length ≤ 1000000) :
    Calls Tryz.prog 39 #[.agg #[lv, .int .i64 en], v, .int .i64 p] w fun e w' => e = .returned (.int .i64 (faultF I L p)) ∧ Below w.heap.size w w' := by
  obtain ⟨ao, cap, rfl⟩ := row_slice hI
  obtain ⟨lo, lcap, rfl⟩ := hL.slice
  have HI : Hid (∀ W, Below w.heap.size w W → InsAt W (.slice ao I.length cap) st I) := fun W hb => hI.below hb
  have HL : Hid (∀ W, Below w.heap.size w W → SpotsAt W 0 (.slice lo L.length lcap) L) := fun W hb => hL.below hb
  have HV := hide hv
  clear hI hL hv
  obtain ⟨B, hB⟩ : ∃ B, B = w.heap.size := ⟨_, rfl⟩
  have hB' : w.heap.size = B := hB.symm
  clear hB
  by_cases hpn : p < I.length
  · obtain ⟨⟨c, a⟩, hca⟩ : ∃ x, I[p]? = some x := ⟨I[p], by simp [hpn]⟩
    obtain ⟨gi, rfl, hgi, _⟩ := (HI.out w (Below.refl _ _)).at hca
    have HF : Hid (faultF I L p = if (L.filter (atP p)).length = 0 then 0 else if 1 < (L.filter (atP p)).length then 4 else eR c a (L.filter (atP p))) := by simp [Hid, faultF, hca]
    have HCA := hide hca
    clear hca
    go_enter Tryz.func39, Tryz.ntmps39
    go_wp2
    go_loopw [7, 8, 9] (fun n e i wr => ∃ k : Nat, k ≤ L.length ∧ i = .int .i64 k ∧ n = .int .i64 (((L.take k).filter (atP p)).length : Nat) ∧ e = .int .i64 (eR c a ((L.take k).filter (atP p))) ∧ Below (B + 1) (w.alloc (.cells #[.slice (some ⟨gi, 0, none⟩) I.length cap, .int .i64 en] 60)) wr) (fun _ _ i _ => L.length - (intOf i).toNat)
    case atStart => exact ⟨0, by omega, rfl, rfl, rfl, Below.refl _ _⟩
    case round =>
      obtain ⟨k, hk, rfl, rfl, rfl, hbel⟩ := hrel
      have hz0 := hbel.size
      have hz : B < wr.heap.size := by simp at hz0; omega
      clear hz0
      have c0 : wr.cell? ⟨B, 0, none⟩ = some (.slice (some ⟨gi, 0, none⟩) I.length cap) := (hbel.cell (p := ⟨B, 0, none⟩) (by simp)).trans (by subst hB'; exact cell_new _ _ _ 0)
      have HW : Hid (Below w.heap.size w wr) := ((Below.refl _ w).alloc (Nat.le_refl _) _).trans (hbel.mono (by omega))
      have hfl := filter_take_len (atP p) L k
      by_cases hlt : k < L.length
      · obtain ⟨⟨sp, sh, sr⟩, hx⟩ : ∃ x, L[k]? = some x := ⟨L[k], by simp [hlt]⟩
        obtain ⟨g, gv, rfl, _, hg, d0, d1, d2, hgi'⟩ := (HL.out wr HW.out).at hx
        simp only at d0 d1 d2 hgi'
        obtain ⟨v1, v2, v3, v4, v5, v6⟩ := HV.out _ (List.mem_of_getElem? hx)
        simp only at v1 v2 v3 v4 v5 v6
        have hsl := length_le_four sr v5 v6
        obtain ⟨bo, bcap, rfl, _⟩ := hgi'.view2
        have HGI := hide hgi'
        clear hgi'
        have HT := hide (filter_take (atP p) L k _ hx)
        clear hx
        cases he : (sp == (p : Int)) with
        | false =>
          have HT' : Hid ((L.take (k + 1)).filter (atP p) = (L.take k).filter (atP p)) := by
            rw [Hid, HT.out, if_neg (by rw [atP_of]; simp [he])]; simp
          clear HT
          go_wp2
          go_roundw
          case rel => exact ⟨k + 1, by omega, by go_num, by rw [HT'.out], by rw [HT'.out], hbel⟩
          case measure => simp [intOf]; omega
        | true =>
          have HT' : Hid ((L.take (k + 1)).filter (atP p) = (L.take k).filter (atP p) ++ [(sp, sh, sr)]) := by
            rw [Hid, HT.out, if_pos (by rw [atP_of]; exact he)]
          clear HT
          obtain ⟨gi2, hgi2, _, e0, e1, e2⟩ := (HI.out wr HW.out).at HCA.out
          have hgi3 : gi2 = gi := by simpa using hgi2.symm
          subst hgi3
          clear hgi2
          have HWR := hide (fun W hb => r_wrong c a (st + 3 * p) sp sh _ sr W (HGI.out.below (w' := W) hb) hsl v3 v4)
          have hb1 : (p : Int) < (I.length : Int) := by omega
          have hb2 : (k : Int) < (L.length : Int) := by omega
          have SB : Hid (∀ W, Below wr.heap.size wr W → Below wr.heap.size wr W ∧ W.cell? ⟨B, 0, none⟩ = some (.slice (some ⟨gi2, 0, none⟩) I.length cap) ∧ W.cell? ⟨gi2, p * 3, none⟩ = some (.int .u8 c) ∧ W.cell? ⟨gi2, p * 3 + 1, none⟩ = some (.int .i64 a) ∧ W.cell? ⟨gi2, p * 3 + 2, none⟩ = some (.int .i64 (st + 3 * p)) ∧
              W.cell? ⟨g, k * 3, none⟩ = some (.int .i64 sp) ∧ W.cell? ⟨g, k * 3 + 1, none⟩ = some (.int .i64 sh) ∧ W.cell? ⟨g, k * 3 + 2, none⟩ = some (.slice bo sr.length bcap)) := by
            intro W hb
            have hgw : gi2 < wr.heap.size := World.block_lt_of_cell? wr _ e0
            have z0 := fun j => hb.cell (p := ⟨gi2, j, none⟩) (by exact hgw)
            have z1 := fun j => hb.cell (p := ⟨g, j, none⟩) (by exact hg)
            exact ⟨hb, (hb.cell (p := ⟨B, 0, none⟩) (by exact hz)).trans c0, (z0 _).trans e0, (z0 _).trans e1, (z0 _).trans e2, (z1 _).trans d0, (z1 _).trans d1, (z1 _).trans d2⟩
          go_wp2
          go_region_held3 (fun W => Below wr.heap.size wr W ∧ W.cell? ⟨B, 0, none⟩ = some (.slice (some ⟨gi2, 0, none⟩) I.length cap) ∧ W.cell? ⟨gi2, p * 3, none⟩ = some (.int .u8 c) ∧ W.cell? ⟨gi2, p * 3 + 1, none⟩ = some (.int .i64 a) ∧ W.cell? ⟨gi2, p * 3 + 2, none⟩ = some (.int .i64 (st + 3 * p)) ∧
              W.cell? ⟨g, k * 3, none⟩ = some (.int .i64 sp) ∧ W.cell? ⟨g, k * 3 + 1, none⟩ = some (.int .i64 sh) ∧ W.cell? ⟨g, k * 3 + 2, none⟩ = some (.slice bo sr.length bcap))
            ((refine SB.out _ ?_; first | exact keep_drew | exact keep_call (by assumption) (by assumption) | assumption))
            (first
              | (go_at_call 54; refine (HWR.out _ ?_).mono ?_; exact And.left (by assumption); rintro e w' ⟨rfl, hb2⟩))
          all_goals
            have hb5 : Below wr.heap.size wr w' := keep_call (by assumption) (X := True) ⟨keep_drew, trivial⟩
            have HB5 : Hid (Below (B + 1) (w.alloc (.cells #[.slice (some ⟨gi2, 0, none⟩) I.length cap, .int .i64 en] 60)) w') := hbel.trans (hb5.mono (by omega))
            clear hb5 SB HWR HGI
            go_wp2
            go_roundw
          case rel => exact ⟨k + 1, by omega, by go_num, by rw [HT'.out, List.length_append]; go_num, by rw [HT'.out, eR_snoc], HB5.out⟩
          case measure => simp [intOf]; omega
      · have e1 : L.take k = L := List.take_of_length_le (by omega)
        rw [e1]
        clear e1 hfl
        have hfl : (L.filter (atP p)).length ≤ L.length := List.length_filter_le _ _
        have hb1 : ((p : Int) == (I.length : Int)) = false := by simp; omega
        by_cases h0 : (L.filter (atP p)).length = 0
        · have hb2 : (((L.filter (atP p)).length : Int) == 0) = true := by simp [h0]
          have HR : Hid (faultF I L p = 0) := by rw [Hid, HF.out, if_pos h0]
          clear h0 HF
          generalize (L.filter (atP p)) = F at *
          go_wp2
          go_ret
          exact ⟨ret_int HR.out.symm, by first | exact HW.out | (rw [← hB']; exact HW.out)⟩
        · have hb2 : (((L.filter (atP p)).length : Int) == 0) = false := by simp; simpa using h0
          by_cases h1 : 1 < (L.filter (atP p)).length
          · have HR : Hid (faultF I L p = 4) := by rw [Hid, HF.out, if_neg h0, if_pos h1]
            clear h0 HF
            generalize (L.filter (atP p)) = F at *
            go_wp2
            go_ret
            exact ⟨ret_int HR.out.symm, by first | exact HW.out | (rw [← hB']; exact HW.out)⟩
          · have HR : Hid (faultF I L p = eR c a (L.filter (atP p))) := by rw [Hid, HF.out, if_neg h0, if_neg h1]
            clear h0 HF
            generalize (L.filter (atP p)) = F at *
            go_wp2
            go_ret
            exact ⟨ret_int HR.out.symm, by first | exact HW.out | (rw [← hB']; exact HW.out)⟩
  · have hpe : p = I.length := by omega
    have HF : Hid (faultF I L p = if (L.filter (atP p)).length = 0 then 0 else 7) := by
      have : I[p]? = none := by simp; omega
      simp [Hid, faultF, this]
    go_enter Tryz.func39, Tryz.ntmps39
    go_wp2
    go_loopw [7, 8, 9] (fun n e i wr => ∃ k : Nat, k ≤ L.length ∧ i = .int .i64 k ∧ n = .int .i64 (((L.take k).filter (atP p)).length : Nat) ∧ e = .int .i64 0 ∧ Below (B + 1) (w.alloc (.cells #[.slice ao I.length cap, .int .i64 en] 60)) wr) (fun _ _ i _ => L.length - (intOf i).toNat)
    case atStart => exact ⟨0, by omega, rfl, rfl, rfl, Below.refl _ _⟩
    case round =>
      obtain ⟨k, hk, rfl, rfl, rfl, hbel⟩ := hrel
      have hz0 := hbel.size
      have hz : B < wr.heap.size := by simp at hz0; omega
      clear hz0
      have c0 : wr.cell? ⟨B, 0, none⟩ = some (.slice ao I.length cap) := (hbel.cell (p := ⟨B, 0, none⟩) (by simp)).trans (by subst hB'; exact cell_new _ _ _ 0)
      have HW : Hid (Below w.heap.size w wr) := ((Below.refl _ w).alloc (Nat.le_refl _) _).trans (hbel.mono (by omega))
      have hfl := filter_take_len (atP p) L k
      have hb0 : ¬ (p : Int) < (I.length : Int) := by omega
      by_cases hlt : k < L.length
      · obtain ⟨⟨sp, sh, sr⟩, hx⟩ : ∃ x, L[k]? = some x := ⟨L[k], by simp [hlt]⟩
        obtain ⟨g, gv, rfl, _, hg, d0, d1, d2, hgi'⟩ := (HL.out wr HW.out).at hx
        simp only at d0 d1 d2 hgi'
        clear hgi'
        have HT := hide (filter_take (atP p) L k _ hx)
        clear hx hpe
        cases he : (sp == (p : Int)) with
        | false =>
          have HT' : Hid ((L.take (k + 1)).filter (atP p) = (L.take k).filter (atP p)) := by
            rw [Hid, HT.out, if_neg (by rw [atP_of]; simp [he])]; simp
          clear HT
          go_wp2
          go_roundw
          case rel => exact ⟨k + 1, by omega, by go_num, by rw [HT'.out], rfl, hbel⟩
          case measure => simp [intOf]; omega
        | true =>
          have HT' : Hid ((L.take (k + 1)).filter (atP p) = (L.take k).filter (atP p) ++ [(sp, sh, sr)]) := by
            rw [Hid, HT.out, if_pos (by rw [atP_of]; exact he)]
          clear HT
          go_wp2
          go_roundw
          case rel => exact ⟨k + 1, by omega, by go_num, by rw [HT'.out, List.length_append]; go_num, rfl, hbel⟩
          case measure => simp [intOf]; omega
      · have e1 : L.take k = L := List.take_of_length_le (by omega)
        rw [e1]
        clear e1 hfl
        have hfl : (L.filter (atP p)).length ≤ L.length := List.length_filter_le _ _
        have hb1 : ((p : Int) == (I.length : Int)) = true := by simp; omega
        clear hpe
        by_cases h0 : (L.filter (atP p)).length = 0
        · have hb2 : (((L.filter (atP p)).length : Int) == 0) = true := by simp [h0]
          have HR : Hid (faultF I L p = 0) := by rw [Hid, HF.out, if_pos h0]
          clear h0 HF
          generalize (L.filter (atP p)) = F at *
          go_wp2
          go_ret
          exact ⟨ret_int HR.out.symm, by first | exact HW.out | (rw [← hB']; exact HW.out)⟩
        · have hb2 : (((L.filter (atP p)).length : Int) == 0) = false := by simp; simpa using h0
          have HR : Hid (faultF I L p = 7) := by rw [Hid, HF.out, if_neg h0]
          clear h0 HF
          generalize (L.filter (atP p)) = F at *
          go_wp2
          go_ret
          exact ⟨ret_int HR.out.symm, by first | exact HW.out | (rw [← hB']; exact HW.out)⟩

theorem SpotsAt.zero {w : World} {base : Nat} {v : Value} {L : List Sp} (h : SpotsAt w base v L) : SpotsAt w 0 v L := by
  obtain ⟨M, h1, h2, h3⟩ := h
  exact ⟨M, h1, own_mono h2 (Nat.zero_le _), h3⟩

set_option maxRecDepth 100000 in
set_option maxHeartbeats 4000000 in
theorem r_checked (lv : Value) (st : Int) (I : List In) (w : World) (hI : InsAt w lv st I) (hO : OkCode I) (hn : I.length ≤ 200) :
    Calls Tryz.prog 26 #[.agg #[lv, .int .i64 (st + 3 * I.length)]] w fun e w' => ∃ L, IsAll I L ∧ e = .returned (.tuple #[.int .i64 (toldF st (firstF I L (I.length + 1) 0)).1, .int .i64 (toldF st (firstF I L (I.length + 1) 0)).2]) ∧ Below w.heap.size w w' := by
  obtain ⟨ao, cap, rfl⟩ := row_slice hI
  obtain ⟨B, hB⟩ : ∃ B, B = w.heap.size := ⟨_, rfl⟩
  have hB' : w.heap.size = B := hB.symm
  have HSP := hide (r_spots _ st (st + 3 * I.length) I _ (hI.below ((Below.refl _ w).alloc (Nat.le_refl _) (.cells #[.slice ao I.length cap, .int .i64 (st + 3 * I.length)] 60))) hO hn)
  have HI : Hid (∀ W, Below w.heap.size w W → InsAt W (.slice ao I.length cap) st I) := fun W hb => hI.below hb
  have HO := hide hO
  clear hI hO hB
  go_enter Tryz.func26, Tryz.ntmps26
  go_wp2_with fail
  refine HSP.out.mono ?_
  rintro e w1 ⟨v, L, rfl, hL, hA, hb1⟩
  have hv : ∀ s ∈ L, Valid I.length s := fun s hs => ((hA.2 s).1 hs).valid HO.out
  have hbd := len_bd hA.1 hv
  have HV := hide hv
  have HA := hide hA
  have HL := hide hL
  have hz0 := hb1.size
  have hz : B < w1.heap.size := by simp at hz0; omega
  have c0 : w1.cell? ⟨B, 0, none⟩ = some (.slice ao I.length cap) := (hb1.cell (p := ⟨B, 0, none⟩) (by simp; omega)).trans (by subst hB'; exact cell_new _ _ _ 0)
  have c1 : w1.cell? ⟨B, 1, none⟩ = some (.int .i64 (st + 3 * I.length)) := (hb1.cell (p := ⟨B, 1, none⟩) (by simp; omega)).trans (by subst hB'; exact cell_new _ _ _ 1)
  have HB1 : Hid (Below w.heap.size w w1) := ((Below.refl _ w).alloc (Nat.le_refl _) _).trans (hb1.mono (by simp))
  obtain ⟨lo, lcap, rfl⟩ := hL.slice
  clear HSP hv hA hL hb1 hz0
  go_wp2_with fail
  go_loopw [5, 6] (fun p e wr => ∃ k : Nat, k ≤ I.length + 1 ∧ p = .int .i64 k ∧ Hid (firstF I L (I.length + 1 - k) k = firstF I L (I.length + 1) 0) ∧ Below w1.heap.size w1 wr) (fun p _ _ => I.length + 1 - (intOf p).toNat)
  case atStart => exact ⟨0, by omega, rfl, rfl, Below.refl _ _⟩
  case round =>
    obtain ⟨k, hk, rfl, hf, hbel⟩ := hrel
    have d0 := (hbel.cell (p := ⟨B, 0, none⟩) hz).trans c0
    have d1 := (hbel.cell (p := ⟨B, 1, none⟩) hz).trans c1
    have HW : Hid (Below w.heap.size w wr) := HB1.out.trans (hbel.mono HB1.out.size)
    by_cases hlt : k < I.length + 1
    · have HFA := hide (r_fault _ _ st (st + 3 * I.length) I L k wr (HI.out wr HW.out) (HL.out.below hbel) HV.out hn (by omega) (by omega))
      have HZ : Hid (∀ W, Below wr.heap.size wr W → W.cell? ⟨B, 0, none⟩ = some (.slice ao I.length cap) ∧ W.cell? ⟨B, 1, none⟩ = some (.int .i64 (st + 3 * I.length))) := fun W hb =>
        ⟨(hb.cell (p := ⟨B, 0, none⟩) (by have := hbel.size; show B < _; omega)).trans d0, (hb.cell (p := ⟨B, 1, none⟩) (by have := hbel.size; show B < _; omega)).trans d1⟩
      have hff : firstF I L (I.length + 1 - k) k = if faultF I L k = 0 then firstF I L (I.length + 1 - (k + 1)) (k + 1) else (faultF I L k, k) := by
        obtain ⟨m, hm⟩ : ∃ m, I.length + 1 - k = m + 1 := ⟨I.length - k, by omega⟩
        rw [hm, show I.length + 1 - (k + 1) = m from by omega]
        rfl
      have HFF : Hid (firstF I L (I.length + 1) 0 = if faultF I L k = 0 then firstF I L (I.length + 1 - (k + 1)) (k + 1) else (faultF I L k, k)) := by rw [← hf.out, hff]; rfl
      clear hff hf
      go_wp2_with fail
      refine HFA.out.mono ?_
      rintro e w2 ⟨rfl, hb2⟩
      obtain ⟨e0, e1⟩ := HZ.out w2 hb2
      have HB2 : Hid (Below w.heap.size w w2) := HW.out.trans (hb2.mono HW.out.size)
      have HB3 : Hid (Below w1.heap.size w1 w2) := hbel.trans (hb2.mono hbel.size)
      by_cases hz1 : faultF I L k = 0
      · have hb0 : (faultF I L k != 0) = false := by simp [hz1]
        have HR : Hid (firstF I L (I.length + 1 - (k + 1)) (k + 1) = firstF I L (I.length + 1) 0) := by rw [Hid, HFF.out, if_pos hz1]
        clear hz1 HFF HFA HZ hb2
        generalize faultF I L k = f at *
        go_wp2_with fail
        go_roundw
        case rel => exact ⟨k + 1, by omega, by go_num, HR, HB3.out⟩
        case measure => simp [intOf]; omega
      · have hb0 : (faultF I L k != 0) = true := by simp [hz1]
        have HR : Hid (toldF st (firstF I L (I.length + 1) 0) = (faultF I L k, st + 3 * k)) := by rw [Hid, HFF.out, if_neg hz1]; simp [toldF, hz1]
        by_cases hkn : k < I.length
        · obtain ⟨⟨c, a⟩, hca⟩ : ∃ x, I[k]? = some x := ⟨I[k], by simp [hkn]⟩
          obtain ⟨gi, rfl, hgi, q0, q1, q2⟩ := (HI.out w2 HB2.out).at hca
          have hb5 : (k : Int) < (I.length : Int) := by omega
          clear hz1 HFF HFA HZ hb2 hca
          generalize faultF I L k = f at *
          go_wp2_with fail
          go_quiet (fail)
          go_wp2_with fail
          go_ret2
          refine ⟨L, HA.out, ?_, below_drewN HB2.out _⟩
          rw [HR.out]; rfl
        · have hb5 : ¬ (k : Int) < (I.length : Int) := by omega
          have hke : Hid (k = I.length) := by show k = I.length; omega
          clear hz1 HFF HFA HZ hb2
          generalize faultF I L k = f at *
          go_wp2_with fail
          go_quiet (fail)
          go_wp2_with fail
          go_ret2
          refine ⟨L, HA.out, ?_, below_drewN HB2.out _⟩
          rw [HR.out, hke.out]; rfl
    · have hke : k = I.length + 1 := by omega
      have HR : Hid (toldF st (firstF I L (I.length + 1) 0) = (0, 0)) := by
        rw [Hid, ← hf.out, hke, Nat.sub_self]; rfl
      clear hke hf
      go_wp2_with fail
      go_ret2
      refine ⟨L, HA.out, ?_, HW.out⟩
      rw [HR.out]; rfl

end Go.Proofs.YtjbmflgamogefabGreat
