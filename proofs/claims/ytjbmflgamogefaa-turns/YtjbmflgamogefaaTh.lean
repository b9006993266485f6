/- greenlaw's Held. -/
import Derived.Test.YtjbmflgamogefaaTg
namespace Go.Proofs.Ytjbmflgamogefaa
open Go.RowKit

theorem byte_at {l : List Int} (h : ∀ x ∈ l, 0 ≤ x ∧ x < 256) {k : Nat} {x : Int} (hk : l[k]? = some x) (hlt : k < (strOf l).size) : (((strOf l)[k]'hlt).toNat : Int) = x := by
  have h1 := bytesOf_get (strOf l) k hlt
  rw [bytes_strOf h, hk] at h1
  simp at h1
  exact h1.symm
theorem own_bytes {C : Nat → List In} {n : Nat} (hF : Fine C n) (hn : n ≤ 4) (q i : Nat) : ∀ x ∈ ownL (playM C n q i), 0 ≤ x ∧ x < 256 := by
  intro x hx
  simp only [ownL, List.mem_map, List.mem_range] at hx
  obtain ⟨l, _, rfl⟩ := hx
  unfold nameI
  rcases play_who hF q i l with e | ⟨k, hk, e, _⟩
  · rw [e]; simp
  · rw [e, if_neg (by omega)]; omega
theorem ownL_at (m : Mac) {l : Nat} (h : l < 4) : (ownL m)[l]? = some (nameI (m.own l)) := by simp [ownL, h]
theorem stsL_at (m : Mac) {n k : Nat} (h : k < n) : (stsL n m)[k]? = some (m.th k).sta := by simp [stsL, h]
/-- A member that is neither of two. -/
theorem cnt_two : ∀ (l : List Int) (a b : Int), ¬ a = b → cnt l a + cnt l b ≤ l.length
  | [], _, _, _ => by simp [cnt]
  | x :: t, a, b, h => by
    have ih := cnt_two t a b h
    unfold cnt at *
    simp only [List.filter_cons, List.length_cons]
    by_cases h1 : x = a
    · subst h1; simp [h]; omega
    · by_cases h2 : x = b
      · subst h2; simp [h1]; omega
      · simp [h1, h2]; omega
theorem cnt_third : ∀ (l : List Int) (a b c : Int), ¬ a = b → c ∈ l → ¬ c = a → ¬ c = b → cnt l a + cnt l b < l.length
  | [], _, _, _, _, hc, _, _ => by simp at hc
  | x :: t, a, b, c, h, hc, ha, hb => by
    by_cases hx : x = c
    · subst hx
      have := cnt_two t a b h
      unfold cnt at *
      simp only [List.filter_cons, List.length_cons]
      simp [ha, hb]; omega
    · have hc : c ∈ t := by
        rcases List.mem_cons.1 hc with e | e
        · exact absurd e.symm hx
        · exact e
      have ih := cnt_third t a b c h hc ha hb
      unfold cnt at *
      simp only [List.filter_cons, List.length_cons]
      by_cases h1 : x = a
      · subst h1; simp [h]; omega
      · by_cases h2 : x = b
        · subst h2; simp [h1]; omega
        · simp [h1, h2]; omega
theorem held_blocked {C : Nat → List In} {n : Nat} (hF : Fine C n) (_hn : n ≤ 4) (q i k : Nat) (hk : k < n) (hb : ((playM C n q i).th k).sta = 66) : cnt (ownL (playM C n q i)) 45 + cnt (ownL (playM C n q i)) (48 + k) < 4 := by
  obtain ⟨l, hl, _, j, hj, hjk, e⟩ := play_blocked hF q i k hk hb
  have := cnt_third (ownL (playM C n q i)) 45 (48 + k) (48 + j) (by omega) (by
    simp only [ownL, List.mem_map, List.mem_range]
    exact ⟨l, hl, by rw [e]; unfold nameI; rw [if_neg (by omega)]⟩) (by omega) (by omega)
  rw [ownL_len] at this
  exact this

set_option maxRecDepth 100000 in
set_option maxHeartbeats 4000000 in
theorem l_Held (s : ByteArray) (q n : Int) (w : World) (hm : s.size ≤ maxLen) :
    Calls Try.prog 8 #[.string s, .int .i64 q, .int .i64 n] w fun e w' => e = .returned (.bool true) ∧ Below w.heap.size w w' := by
  have HM := hide (l_may s q n w hm)
  go_enter Try.func8, Try.ntmps8
  go_wp2_with fail
  refine HM.out.mono ?_
  rintro e w1 ⟨⟨b1, rfl, hm1⟩, hb1⟩
  have B1 := hide hb1
  cases b1 with
  | false =>
    clear hm1 hb1 HM
    go_wp2_with fail
    go_ret
    exact ⟨rfl, B1.out⟩
  | true =>
    obtain ⟨r1, g1, e1⟩ := hm1
    have e1 := e1.1 rfl
    subst e1
    obtain ⟨⟨i1, i2, i3, i4⟩, hT, cs, p1, p2, p3⟩ := given_ok g1
    have hF := fine_of p1 p2 p3
    have hlen := parse_lenG p1
    have hl := bytesOf_len s
    have HTH := hide (fun W => l_threads s W cs (by omega) p1)
    have HV := hide (fun (W : World) => view_ok (w := W) hm g1 p1)
    have hob := own_bytes hF hlen q.toNat n.toNat
    have hsb := sts_bytes hF q.toNat n.toNat
    have HOB := hide (bytes_strOf hob)
    have HO : Hid (∀ l, l < 4 → (playM (codesOf cs) cs.length q.toNat n.toNat).own l = -1 ∨ ∃ k : Nat, k < cs.length ∧ (playM (codesOf cs) cs.length q.toNat n.toNat).own l = (k : Int) ∧ ¬ ((playM (codesOf cs) cs.length q.toNat n.toNat).th k).sta = 68) := fun l _ => play_who hF q.toNat n.toNat l
    have HA : Hid (∀ l, l < 4 → ∀ hlt, (((strOf (ownL (playM (codesOf cs) cs.length q.toNat n.toNat)))[l]'hlt).toNat : Int) = nameI ((playM (codesOf cs) cs.length q.toNat n.toNat).own l)) := fun l h hlt => byte_at hob (ownL_at _ h) hlt
    have HS : Hid (∀ k, k < cs.length → ∀ hlt, (((strOf (stsL cs.length (playM (codesOf cs) cs.length q.toNat n.toNat)))[k]'hlt).toNat : Int) = ((playM (codesOf cs) cs.length q.toNat n.toNat).th k).sta) := fun k h hlt => byte_at hsb (stsL_at _ h) hlt
    have HBK : Hid (∀ k, k < cs.length → ((playM (codesOf cs) cs.length q.toNat n.toNat).th k).sta = 66 → cnt (ownL (playM (codesOf cs) cs.length q.toNat n.toNat)) 45 + cnt (ownL (playM (codesOf cs) cs.length q.toNat n.toNat)) (48 + k) < 4) := fun k hk hb => held_blocked hF hlen q.toNat n.toNat k hk hb
    have e3 := strOf_size (stsL cs.length (playM (codesOf cs) cs.length q.toNat n.toNat))
    have e4 := strOf_size (ownL (playM (codesOf cs) cs.length q.toNat n.toNat))
    rw [stsL_len] at e3
    rw [ownL_len] at e4
    generalize playM (codesOf cs) cs.length q.toNat n.toNat = m at *
    have hCL : ∀ c, cnt (ownL m) c ≤ 4 := fun c => by have := cnt_le (ownL m) c; rw [ownL_len] at this; exact this
    have HCL := hide hCL
    generalize ownL m = OL at *
    generalize strOf OL = x4 at *
    generalize strOf (stsL cs.length m) = x3 at *
    generalize strOf m.out = x1 at *
    generalize strOf m.trc = x2 at *
    generalize strOf m.log = x5 at *
    generalize cs.length = kk at *
    clear g1 p1 p2 p3 hF hob hsb hb1 HM hT hl hCL
    go_wp2_with fail
    refine (HTH.out _).mono ?_
    rintro e w2 ⟨rfl, hb2⟩
    have B2 := hide (B1.out.trans (hb2.mono B1.out.size))
    clear hb2 HTH B1
    go_wp2_with fail
    refine (HV.out _).mono ?_
    rintro e w3 ⟨la, lc, rfl, _, hb3⟩
    have B3 : Hid (∀ o, Below w.heap.size w (w3.alloc o)) := fun o => (B2.out.trans (hb3.mono B2.out.size)).alloc (B2.out.trans (hb3.mono B2.out.size)).size o
    clear hb3 HV B2
    have HCO := hide (fun c W => l_count x4 c W (by unfold maxLen; omega))
    rw [HOB.out] at HCO
    go_wp2_with fail
    obtain ⟨wV, hwV⟩ : ∃ wV, wV = w3.alloc (.cells #[.string x1, .string x2, .string x3, .string x4, .string x5, .slice la 8 lc, .bool true] 31) := ⟨_, rfl⟩
    have BV : Hid (Below w.heap.size w wV) := by rw [hwV]; exact B3.out _
    have v2 : wV.cell? ⟨w3.heap.size, 2, none⟩ = some (.string x3) := by rw [hwV, cell_of_row _ _ 2 _ _ _ (heap_alloc_new w3 _)]; rfl
    have v3 : wV.cell? ⟨w3.heap.size, 3, none⟩ = some (.string x4) := by rw [hwV, cell_of_row _ _ 3 _ _ _ (heap_alloc_new w3 _)]; rfl
    rw [← hwV]
    clear hwV B3
    go_loopw [10] (fun s wr => ∃ l : Nat, l ≤ 4 ∧ s = .int .i64 l ∧ wr = wV) (fun s _ => 4 - (intOf s).toNat)
    case atStart => exact ⟨0, Nat.zero_le _, rfl, rfl⟩
    case round =>
      obtain ⟨l, hl4, rfl, rfl⟩ := hrel
      by_cases hlt : l < 4
      · have hlt1 : (l : Int) < 4 := by omega
        have hls : l < x4.size := by omega
        have hxe := HA.out l hlt hls
        rcases HO.out l hlt with e | ⟨k, hk, e, hst⟩
        · have hn : nameI (m.own l) = 45 := by rw [e]; rfl
          rw [hn] at hxe
          clear HA HO HS HBK HCL HCO HOB e
          go_wp2_with fail
          go_roundw
          case rel => exact ⟨l + 1, by omega, by go_num, by trivial⟩
          case measure => simp [intOf]; omega
        · have hn : nameI (m.own l) = 48 + k := by rw [e]; unfold nameI; rw [if_neg (by omega)]
          rw [hn] at hxe
          have hks : k < x3.size := by omega
          have hxs := HS.out k hk hks
          have hd : ((m.th k).sta == 68) = false := by simp [hst]
          generalize (m.th k).sta = st at *
          clear HA HO HS HBK HCL HCO HOB e
          go_wp2_with fail
          go_roundw
          case rel => exact ⟨l + 1, by omega, by go_num, by trivial⟩
          case measure => simp [intOf]; omega
      · obtain rfl : l = 4 := by omega
        rw [show ((4 : Nat) : Int) = 4 from rfl]
        clear HA HO hlt hl4
        go_wp2_with fail
        go_loopw [12] (fun s wx => ∃ i : Nat, i ≤ kk ∧ s = .int .i64 i ∧ wx.cell? ⟨w3.heap.size, 2, none⟩ = some (.string x3) ∧ wx.cell? ⟨w3.heap.size, 3, none⟩ = some (.string x4) ∧ Below w.heap.size w wx) (fun s _ => kk - (intOf s).toNat)
        case atStart => exact ⟨0, Nat.zero_le _, rfl, v2, v3, BV.out⟩
        case round =>
          rename_i wx
          obtain ⟨i, hi4, rfl, y2, y3, hbx⟩ := hrel
          have BX := hide hbx
          clear hbx v2 v3 BV
          by_cases hlt : i < kk
          · have hlt1 : (i : Int) < (kk : Int) := by omega
            have his : i < x3.size := by omega
            have hxs := HS.out i hlt his
            have C1 := hide (fun W => HCO.out 45 W)
            have C2 := hide (fun W => HCO.out (48 + (i : Int)) W)
            have k1 := HCL.out 45
            have k2 := HCL.out (48 + (i : Int))
            have hbk := HBK.out i hlt
            generalize cnt OL 45 = A1 at *
            generalize cnt OL (48 + (i : Int)) = A2 at *
            generalize (m.th i).sta = st at *
            clear HS HBK HCL HCO HOB
            by_cases hs66 : st = 66
            · subst hs66
              have hbk := hbk rfl
              go_wp2_with fail
              go_quiet (first
                | (go_at_call_of 16 (Value.int IntKind.u8 45); exact Calls.quiet_of_same (C1.out _))
                | (go_at_call 16; exact Calls.quiet_of_same (C2.out _)))
              go_wp2_with fail
              go_roundw
              case rel => exact ⟨i + 1, by omega, by go_num, y2, y3, BX.out.trans ⟨rfl, rfl, rfl, Nat.le_refl _, fun _ _ => rfl⟩⟩
              case measure => simp [intOf]; omega
            · have hs0 : (st == 66) = false := by simp [hs66]
              clear hbk hs66
              go_wp2_with fail
              go_quiet (first
                | (go_at_call_of 16 (Value.int IntKind.u8 45); exact Calls.quiet_of_same (C1.out _))
                | (go_at_call 16; exact Calls.quiet_of_same (C2.out _)))
              go_wp2_with fail
              go_roundw
              case rel => exact ⟨i + 1, by omega, by go_num, y2, y3, BX.out.trans ⟨rfl, rfl, rfl, Nat.le_refl _, fun _ _ => rfl⟩⟩
              case measure => simp [intOf]; omega
          · have hlt1 : ¬ (i : Int) < (kk : Int) := by omega
            clear HS HBK HCL HCO HOB
            go_wp2_with fail
            go_ret
            exact ⟨rfl, BX.out⟩

end Go.Proofs.Ytjbmflgamogefaa
