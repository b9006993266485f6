/- greenlaw's Safe. -/
import Derived.Test.YtjbmflgamogefaaGv
namespace Go.Proofs.Ytjbmflgamogefaa
open Go.RowKit

set_option maxRecDepth 100000 in
set_option maxHeartbeats 4000000 in
theorem l_Safe (s : ByteArray) (q n : Int) (w : World) (hm : s.size ≤ maxLen) :
    Calls Try.prog 4 #[.string s, .int .i64 q, .int .i64 n] w fun e w' => e = .returned (.bool true) ∧ Below w.heap.size w w' := by
  have HV := hide (l_view s q n w hm)
  have HM := hide (fun W => l_may s q n W hm)
  go_enter Try.func4, Try.ntmps4
  go_wp2_with fail
  refine HV.out.mono ?_
  rintro e w1 ⟨⟨r, lv, hg, hc⟩, hb1⟩
  have HB1 := hide hb1
  have HG := hide hg
  rcases hc with ⟨hz, rfl, g0, hs⟩ | ⟨rfl, hR, cs, h1, h2, h3, rfl, g0, hs⟩
  · have HMN : Hid (∀ b, MayRel (bytesOf s) q n b → b = false) := fun b ⟨r', a1, a2⟩ => by
      obtain rfl := hg.unique a1
      cases b with
      | false => rfl
      | true => rw [a2.1 rfl] at hz; exact absurd rfl hz
    obtain ⟨la, lc, rfl⟩ := hs.slice
    rw [List.length_nil] at *
    clear hg hz hs hb1 HV HG
    go_wp2_with fail
    refine (HM.out _).mono ?_
    rintro e w2 ⟨⟨b, rfl, hb⟩, hb2⟩
    obtain rfl := HMN.out b hb
    have HB2 := hide (below_view HB1.out hb2)
    obtain ⟨c0, c1, c2, c3, c4, c5, c6, c7⟩ := view_cells hb2
    clear hb hb2 HM HMN HB1
    go_wp2_with fail
    go_ret
    exact ⟨rfl, HB2.out⟩
  · have HMN : Hid (∀ b, MayRel (bytesOf s) q n b → b = true) := fun b ⟨r', a1, a2⟩ => by
      obtain rfl := hg.unique a1
      exact a2.2 rfl
    have h400 : s.size ≤ 400 := by
      obtain ⟨c, e1, e2⟩ := hg
      have hl := bytesOf_len s
      unfold CheckRel at e1
      split at e1
      · subst e1; rcases e2 with ⟨x, y⟩ | ⟨x, _⟩ | ⟨x, _⟩
        · simp at y
        · simp at x
        · simp at x
      · omega
    have HTH := hide (fun W => l_threads s W cs h400 h1)
    have hF := fine_of h1 h2 h3
    obtain ⟨q0, q1, n0, n1⟩ := hR
    have hlen := parse_lenG h1
    have hpos := parse_ne h1
    have f1 := play_trc_len hF q.toNat n.toNat
    obtain ⟨f2, f3⟩ := play_out_len hF q.toNat n.toNat
    have HCL : Hid (∀ j, j < 8 → 0 ≤ (playM (codesOf cs) cs.length q.toNat n.toNat).cells j ∧ (playM (codesOf cs) cs.length q.toNat n.toNat).cells j < 1000) := fun j _ => play_cells hF q.toNat n.toNat j
    have HKN := hide (sts_known hF q.toNat n.toNat)
    have HSB := hide (bytes_strOf (sts_bytes hF q.toNat n.toNat))
    have e1 := strOf_size (playM (codesOf cs) cs.length q.toNat n.toNat).out
    have e2 := strOf_size (playM (codesOf cs) cs.length q.toNat n.toNat).trc
    have e3 := strOf_size (stsL cs.length (playM (codesOf cs) cs.length q.toNat n.toNat))
    have e4 := strOf_size (ownL (playM (codesOf cs) cs.length q.toNat n.toNat))
    rw [stsL_len] at e3
    rw [ownL_len] at e4
    rw [f1] at e2
    have HSL : Hid (∀ j, j < 8 → (celsL (playM (codesOf cs) cs.length q.toNat n.toNat))[j]? = some ((playM (codesOf cs) cs.length q.toNat n.toNat).cells j)) := fun j hj => by simp [celsL, hj]
    have HLL := hide (celsL_len (playM (codesOf cs) cs.length q.toNat n.toNat))
    have HS := hide hs
    obtain ⟨la, lc, rfl⟩ := hs.slice
    rw [celsL_len] at HS ⊢
    generalize (playM (codesOf cs) cs.length q.toNat n.toNat) = m at *
    obtain ⟨nn, rfl⟩ : ∃ nn : Nat, n = nn := ⟨n.toNat, by omega⟩
    obtain ⟨qq, rfl⟩ : ∃ qq : Nat, q = qq := ⟨q.toNat, by omega⟩
    simp only [Int.toNat_natCast] at *
    generalize strOf m.out = x1 at *
    generalize strOf m.trc = x2 at *
    generalize strOf (stsL cs.length m) = x3 at *
    generalize strOf (ownL m) = x4 at *
    generalize strOf m.log = x5 at *
    have hnq : nn * qq ≤ 60 * 9 := Nat.mul_le_mul (by omega) (by omega)
    clear hg hs hb1 HV HG h1 h2 h3 hF f1
    go_wp2_with fail
    refine (HM.out _).mono ?_
    rintro e w2 ⟨⟨b, rfl, hb⟩, hb2⟩
    obtain rfl := HMN.out b hb
    have HB2 := hide (below_view HB1.out hb2)
    have HBV := hide hb2
    clear hb hb2 HM HMN
    go_wp2_with fail
    refine (HTH.out _).mono ?_
    rintro e w3 ⟨rfl, hb3⟩
    have HBV3 := hide (HBV.out.trans (hb3.mono HBV.out.size))
    have HB3 := hide (HB2.out.trans (hb3.mono HB2.out.size))
    obtain ⟨c0, c1, c2, c3, c4, c5, c6, c7⟩ := view_cells HBV3.out
    have hbl : Below w1.heap.size w1 w3 := ((Below.refl _ _).alloc (Nat.le_refl _) _).trans (HBV3.out.mono (by simp))
    obtain ⟨g1, hs1⟩ := (show ∃ g1, SlAt w3 (.slice la 8 lc) (celsL m) g1 from ⟨g0, HS.out.kept (fun x hx => hbl.block x (HS.out.lt x hx))⟩)
    have HS3 := hide hs1
    clear hb3 hbl hs1 HBV HBV3 HB2 HB1 HS HTH
    rw [← e1] at f2 f3
    have g1' : ((x1.size : Int)).tmod 3 = 0 := by rw [Int.tmod_eq_emod_of_nonneg (by omega)]; omega
    have g2 : (3 * (nn : Int)) * (qq : Int) = ((3 * (nn * qq) : Nat) : Int) := by push_cast; rw [Int.mul_assoc]
    generalize nn * qq = P at *
    generalize hkk : cs.length = kk at *
    have hnq2 : P ≤ 540 := hnq
    have hk0 : ((kk : Int) == 0) = false := by simp; omega
    clear e1 hnq
    obtain ⟨B, O, rfl, HCE⟩ : ∃ B O, la = some ⟨B, O, none⟩ ∧ Hid (∀ j, j < 8 → w3.cell? ⟨B, O + j, none⟩ = some (.int .i64 (m.cells j))) := by
      obtain ⟨B, O, e, _, _, _⟩ := HS3.out.cell (HSL.out 0 (by decide))
      refine ⟨B, O, e, fun j hj => ?_⟩
      obtain ⟨B', O', e', _, _, x4⟩ := HS3.out.cell (HSL.out j hj)
      rw [e] at e'
      simp only [Option.some.injEq, Addr.mk.injEq] at e'
      obtain ⟨rfl, rfl, _⟩ := e'
      exact x4
    rw [HSB.out.symm] at HKN
    have HCO := hide (fun c W => l_count x3 c W (by unfold maxLen; omega))
    have HCT : Hid (∀ c, (cnt (bytesOf x3) c : Int) ≤ 400) := fun c => by have h1 := cnt_le (bytesOf x3) c; have h2 := bytesOf_len x3; omega
    generalize bytesOf x3 = T3 at *
    clear HS3 HSL HSB HLL
    go_wp2_with fail
    go_loopw [10] (fun s wr => ∃ j : Nat, j ≤ 8 ∧ s = .int .i64 j ∧ wr = w3) (fun s _ => 8 - (intOf s).toNat)
    case atStart => exact ⟨0, Nat.zero_le _, rfl, rfl⟩
    case round =>
      obtain ⟨j, hj, rfl, rfl⟩ := hrel
      by_cases hlt : j < 8
      · have hlt1 : (j : Int) < 8 := by omega
        have z0 := HCE.out j hlt
        obtain ⟨y0, y1⟩ := HCL.out j hlt
        generalize m.cells j = y at *
        clear HCE HCL HKN HCO
        go_wp2_with fail
        go_roundw
        case rel => exact ⟨j + 1, by omega, by go_num, by trivial⟩
        case measure => simp [intOf]; omega
      · obtain rfl : j = 8 := by omega
        have hT : ∀ c, (cnt T3 c : Int) ≤ 400 := HCT.out
        have hA := HKN.out
        have t1 := hT 82
        have t2 := hT 66
        have t3 := hT 87
        have t4 := hT 83
        have t5 := hT 68
        generalize hc1 : cnt T3 82 = k1 at *
        generalize hc2 : cnt T3 66 = k2 at *
        generalize hc3 : cnt T3 87 = k3 at *
        generalize hc4 : cnt T3 83 = k4 at *
        generalize hc5 : cnt T3 68 = k5 at *
        have C1 := hide (fun W => HCO.out 82 W)
        have C2 := hide (fun W => HCO.out 66 W)
        have C3 := hide (fun W => HCO.out 87 W)
        have C4 := hide (fun W => HCO.out 83 W)
        have C5 := hide (fun W => HCO.out 68 W)
        rw [hc1] at C1
        rw [hc2] at C2
        rw [hc3] at C3
        rw [hc4] at C4
        rw [hc5] at C5
        clear HCE HCL HKN HCO hT HCT hc1 hc2 hc3 hc4 hc5
        go_wp2_with fail
        go_quiet (first
          | (go_at_call_of 16 (Value.int IntKind.u8 82); exact Calls.quiet_of_same (C1.out _))
          | (go_at_call_of 16 (Value.int IntKind.u8 66); exact Calls.quiet_of_same (C2.out _))
          | (go_at_call_of 16 (Value.int IntKind.u8 87); exact Calls.quiet_of_same (C3.out _))
          | (go_at_call_of 16 (Value.int IntKind.u8 83); exact Calls.quiet_of_same (C4.out _))
          | (go_at_call_of 16 (Value.int IntKind.u8 68); exact Calls.quiet_of_same (C5.out _)))
        go_wp2_with fail
        go_ret
        exact ⟨ret_bool (by simp; omega), HB3.out.trans ⟨rfl, rfl, rfl, Nat.le_refl _, fun _ _ => rfl⟩⟩

end Go.Proofs.Ytjbmflgamogefaa
