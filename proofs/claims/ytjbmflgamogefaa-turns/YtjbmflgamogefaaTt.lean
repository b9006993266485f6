/- greenlaw's Turns. -/
import Derived.Test.YtjbmflgamogefaaTh
namespace Go.Proofs.Ytjbmflgamogefaa
open Go.RowKit

theorem trc_bytes {C : Nat → List In} {n : Nat} (hF : Fine C n) (hn : n ≤ 4) (q : Nat) : ∀ i, ∀ x ∈ (playM C n q i).trc, 0 ≤ x ∧ x < 256
  | 0 => fun x hx => by simp [playM, beginM] at hx
  | i + 1 => fun x hx => by
    rcases (play_turned hF q i).who with ⟨h, _⟩ | ⟨k, hk, h, _⟩
    · rw [h] at hx
      rcases List.mem_append.1 hx with e | e
      · exact trc_bytes hF hn q i x e
      · simp at e; omega
    · rw [h] at hx
      rcases List.mem_append.1 hx with e | e
      · exact trc_bytes hF hn q i x e
      · simp at e; omega
theorem cnt_none : ∀ (l : List Int) (c : Int), (∀ x ∈ l, ¬ x = c) → cnt l c = 0
  | [], _, _ => rfl
  | x :: t, c, h => by
    have ih := cnt_none t c (fun y hy => h y (List.mem_cons_of_mem _ hy))
    have := h x (List.mem_cons_self ..)
    unfold cnt at *
    simp only [List.filter_cons]
    simp [this]; simpa using ih
theorem idle {C : Nat → List In} {n : Nat} (hF : Fine C n) (q i : Nat) (hq : (playM C n q i).q = []) : cnt (stsL n (playM C n q i)) 82 = 0 := by
  obtain ⟨ρ, hI⟩ := Inv.plays hF q i
  refine cnt_none _ _ (fun x hx => ?_)
  simp only [stsL, List.mem_map, List.mem_range] at hx
  obtain ⟨k, hk, rfl⟩ := hx
  intro e
  have := (hI.que k).2 ⟨hk, e, by simp⟩
  rw [hq] at this
  cases this

set_option maxRecDepth 100000 in
set_option maxHeartbeats 4000000 in
theorem l_Turns (s : ByteArray) (q n : Int) (w : World) (hm : s.size ≤ maxLen) :
    Calls Try.prog 7 #[.string s, .int .i64 q, .int .i64 n] w fun e w' => e = .returned (.bool true) ∧ Below w.heap.size w w' := by
  have HM := hide (fun n W => l_may s q n W hm)
  have HV := hide (fun n (W : World) cs hg hp => view_ok (w := W) (n := n) (q := q) (cs := cs) hm hg hp)
  go_enter Try.func7, Try.ntmps7
  go_wp2_with fail
  refine (HM.out n _).mono ?_
  rintro e w1 ⟨⟨b1, rfl, hm1⟩, hb1⟩
  have M1 := hide hm1
  have B1 := hide hb1
  clear hm1 hb1
  go_wp2_with fail
  refine (HM.out _ _).mono ?_
  rintro e w2 ⟨⟨b2, rfl, hm2⟩, hb2⟩
  have M2 := hide hm2
  have B2 := hide (B1.out.trans (hb2.mono B1.out.size))
  clear hm2 hb2 HM B1
  cases b1 with
  | false =>
    go_wp2_with fail
    go_ret
    exact ⟨rfl, B2.out⟩
  | true =>
    cases b2 with
    | false =>
      go_wp2_with fail
      go_ret
      exact ⟨rfl, B2.out⟩
    | true =>
      obtain ⟨r1, g1, e1⟩ := M1.out
      obtain ⟨r2, g2, e2⟩ := M2.out
      have e1 := e1.1 rfl
      have e2 := e2.1 rfl
      subst e1
      subst e2
      obtain ⟨⟨i1, i2, i3, i4⟩, hT, cs, p1, p2, p3⟩ := given_ok g1
      have hF := fine_of p1 p2 p3
      have hlen := parse_lenG p1
      have hl := bytesOf_len s
      have HTH := hide (fun W => l_threads s W cs (by omega) p1)
      obtain ⟨nn, rfl⟩ : ∃ nn : Nat, n = nn := ⟨n.toNat, by omega⟩
      have hw1 : wrap64 ((nn : Int) + 1) = ((nn + 1 : Nat) : Int) := by unfold wrap64; omega
      rw [hw1] at g2
      have V1 := hide (fun W => HV.out nn W cs g1 p1)
      have V2 := hide (fun W => HV.out ((nn + 1 : Nat) : Int) W cs g2 p1)
      simp only [Int.toNat_natCast] at V1 V2
      have t1 := play_trc_len hF q.toNat nn
      have hT := play_turned hF q.toNat nn
      have hI := idle hF q.toNat nn
      have hIL := play_idle_log hF q.toNat nn
      have htb := trc_bytes hF hlen q.toNat (nn + 1)
      have hsb1 := sts_bytes hF q.toNat nn
      have hsb2 := sts_bytes hF q.toNat (nn + 1)
      have z1 := strOf_size (stsL cs.length (playM (codesOf cs) cs.length q.toNat nn))
      have z2 := strOf_size (stsL cs.length (playM (codesOf cs) cs.length q.toNat (nn + 1)))
      rw [stsL_len] at z1 z2
      have S1 : Hid (∀ k, k < cs.length → ∀ hlt, (((strOf (stsL cs.length (playM (codesOf cs) cs.length q.toNat nn)))[k]'hlt).toNat : Int) = ((playM (codesOf cs) cs.length q.toNat nn).th k).sta) := fun k h hlt => byte_at hsb1 (stsL_at _ h) hlt
      have S2 : Hid (∀ k, k < cs.length → ∀ hlt, (((strOf (stsL cs.length (playM (codesOf cs) cs.length q.toNat (nn + 1))))[k]'hlt).toNat : Int) = ((playM (codesOf cs) cs.length q.toNat (nn + 1)).th k).sta) := fun k h hlt => byte_at hsb2 (stsL_at _ h) hlt
      have HSB := hide (bytes_strOf hsb1)
      generalize (playM (codesOf cs) cs.length q.toNat nn) = m1 at *
      generalize (playM (codesOf cs) cs.length q.toNat (nn + 1)) = m2 at *
      have C0 := hide (fun W => l_count (strOf (stsL cs.length m1)) 82 W (by unfold maxLen; rw [z1]; omega))
      rw [HSB.out] at C0
      rcases hT.who with ⟨h1, h2, h3, h4, h5, _⟩ | ⟨k, hk, h1, h2, h3, _⟩
      · have hs : stsL cs.length m2 = stsL cs.length m1 := by unfold stsL; exact List.map_congr_left (fun k _ => by rw [h3 k])
        have ho : ownL m2 = ownL m1 := by unfold ownL; rw [h5]
        rw [hs, ho, h4, hIL h1] at V2
        rw [hI h2] at C0
        have hx := strOf_size m2.trc
        rw [h1, List.length_append, t1, List.length_singleton] at hx
        have hby : ∀ hlt, (((strOf m2.trc)[nn]'hlt).toNat : Int) = 45 := fun hlt => byte_at htb (by rw [h1, List.getElem?_append_right (by omega)]; simp [t1]) hlt
        rw [← h1] at hx
        generalize strOf m2.trc = x2 at *
        generalize strOf m1.trc = x1 at *
        generalize strOf (stsL cs.length m1) = x3 at *
        generalize strOf (ownL m1) = x4 at *
        generalize strOf m1.out = x5 at *
        generalize strOf m1.log = x6 at *
        generalize cs.length = kk at *
        have hxx : nn < x2.size := by omega
        have hbn := hby hxx
        clear hIL hT h1 h2 h3 h4 h5 hs ho hI htb hsb1 hsb2 S1 S2 HSB g1 g2 p1 p2 p3 hF M1 M2 HV hw1 t1 hl hby z2
        go_wp2_with fail
        refine (HTH.out _).mono ?_
        rintro e w3 ⟨rfl, hb3⟩
        have B3 := hide (B2.out.trans (hb3.mono B2.out.size))
        clear hb3 B2 HTH
        go_wp2_with fail
        refine (V1.out _).mono ?_
        rintro e w4 ⟨la, lc, rfl, _, hb4⟩
        have B4 := hide (B3.out.trans (hb4.mono B3.out.size))
        clear hb4 B3 V1
        go_wp2_with fail
        refine (V2.out _).mono ?_
        rintro e w5 ⟨la2, lc2, rfl, _, hb5⟩
        have B5 := hide (below_view B4.out hb5)
        obtain ⟨c0, c1, c2, c3, c4, c5, c6, c7⟩ := view_cells hb5
        have B6 : Hid (∀ o, Below w.heap.size w (w5.alloc o)) := fun o => B5.out.alloc B5.out.size o
        clear hb5 B4 V2 B5
        go_wp2_with (go_at_call 16; refine (C0.out _).mono ?_; rintro e w' ⟨rfl, h'⟩; replace h' := h'.symm; subst h')
        go_ret
        exact ⟨rfl, B6.out _⟩
      · have hx := strOf_size m2.trc
        rw [h1, List.length_append, t1, List.length_singleton] at hx
        have hby : ∀ hlt, (((strOf m2.trc)[nn]'hlt).toNat : Int) = 48 + (k : Int) := fun hlt => byte_at htb (by rw [h1, List.getElem?_append_right (by omega)]; simp [t1]) hlt
        rw [← h1] at hx
        have HCH := hide h3
        generalize strOf m2.trc = x2 at *
        generalize strOf m1.trc = x1 at *
        generalize strOf (stsL cs.length m1) = x3 at *
        generalize strOf (stsL cs.length m2) = y3 at *
        generalize strOf (ownL m1) = x4 at *
        generalize strOf (ownL m2) = y4 at *
        generalize strOf m1.out = x5 at *
        generalize strOf m2.out = y5 at *
        generalize strOf m1.log = x6 at *
        generalize strOf m2.log = y6 at *
        generalize cs.length = kk at *
        have hxx : nn < x2.size := by omega
        have hbn := hby hxx
        have hk3 : k < x3.size := by omega
        have hsk := S1.out k hk hk3
        have hs82 : (m1.th k).sta = 82 ∨ (m1.th k).sta = 83 := h2
        clear hIL hT h1 h2 h3 hI htb hsb1 hsb2 HSB g1 g2 p1 p2 p3 hF M1 M2 HV hw1 t1 hl hby C0
        go_wp2_with fail
        refine (HTH.out _).mono ?_
        rintro e w3 ⟨rfl, hb3⟩
        have B3 := hide (B2.out.trans (hb3.mono B2.out.size))
        clear hb3 B2 HTH
        go_wp2_with fail
        refine (V1.out _).mono ?_
        rintro e w4 ⟨la, lc, rfl, _, hb4⟩
        have B4 := hide (B3.out.trans (hb4.mono B3.out.size))
        clear hb4 B3 V1
        go_wp2_with fail
        refine (V2.out _).mono ?_
        rintro e w5 ⟨la2, lc2, rfl, _, hb5⟩
        have B5 := hide (below_view B4.out hb5)
        obtain ⟨c0, c1, c2, c3, c4, c5, c6, c7⟩ := view_cells hb5
        have B6 : Hid (∀ o, Below w.heap.size w (w5.alloc o)) := fun o => B5.out.alloc B5.out.size o
        clear hb5 B4 V2 B5
        have hkt : (48 + (k : Int) - 48) = (k : Int) := by omega
        have hSK := hide hs82
        generalize (m1.th k).sta = sk at *
        have q0 : decide ((k : Int) < 0) = false := by simp
        have q1 : decide ((kk : Int) ≤ (k : Int)) = false := by simp; omega
        have hb82 : (sk != 82) = false ∨ ((sk != 82) = true ∧ (sk != 83) = false) := by
          rcases hs82 with e | e
          · left; simp [e]
          · right; simp [e]
        clear hs82 hSK
        rcases hb82 with hb82 | ⟨hb82, hb83⟩
        all_goals
          go_upto_region 14 with fail
          have HLN := hide hlen
          clear hkt hbn hx hlen i1 i2 i3 i4 q0 q1
          have q2 : ((k : Int) < 0) = False := by simp
          have q3 : ((kk : Int) ≤ (k : Int)) = False := by simp; omega
          go_upto_if 133 with fail
          clear q2 q3 hb82
          go_wp2_with fail
          obtain ⟨wV, hwV⟩ : ∃ wV, wV = w5.alloc (.cells #[.string y5, .string x2, .string y3, .string y4, .string y6, .slice la2 8 lc2, .bool true] 31) := ⟨_, rfl⟩
          have BV : Hid (Below w.heap.size w wV) := by rw [hwV]; exact B6.out _
          have v2 : wV.cell? ⟨w4.heap.size, 2, none⟩ = some (.string x3) := by rw [hwV, ((Below.refl w5.heap.size w5).alloc (Nat.le_refl _) _).cell (p := ⟨w4.heap.size, 2, none⟩) c7]; exact c2
          have v3 : wV.cell? ⟨w5.heap.size, 2, none⟩ = some (.string y3) := by rw [hwV, cell_of_row _ _ 2 _ _ _ (heap_alloc_new w5 _)]; rfl
          rw [← hwV]
          clear hwV B6 c0 c1 c2 c3 c4 c5 c6 c7
          go_loopw [14] (fun s wr => ∃ i : Nat, i ≤ kk ∧ s = .int .i64 i ∧ wr = wV) (fun s _ => kk - (intOf s).toNat)
          case atStart => exact ⟨0, Nat.zero_le _, rfl, rfl⟩
          case round =>
            obtain ⟨i, hi4, rfl, rfl⟩ := hrel
            have hln := HLN.out
            by_cases hlt : i < kk
            · have hlt1 : (i : Int) < (kk : Int) := by omega
              have his : i < x3.size := by omega
              have hiy : i < y3.size := by omega
              have a1 := S1.out i hlt his
              have a2 := S2.out i hlt hiy
              have hch := HCH.out i
              generalize (m1.th i).sta = A at *
              generalize (m2.th i).sta = D at *
              clear S1 S2 HCH
              by_cases hik : i = k
              · subst hik
                have hb : ((i : Int) != (i : Int)) = false := by simp
                clear hch
                go_wp2_with fail
                go_roundw
                case rel => exact ⟨i + 1, by omega, by go_num, by trivial⟩
                case measure => simp [intOf]; omega
              · have hb : ((i : Int) != (k : Int)) = true := by simp; omega
                rcases hch hik with rfl | rfl | ⟨rfl, rfl⟩
                · have hb2 : (D != D) = false := by simp
                  clear hch
                  go_wp2_with fail
                  go_roundw
                  case rel => exact ⟨i + 1, by omega, by go_num, by trivial⟩
                  case measure => simp [intOf]; omega
                · clear hch
                  cases hb2 : ((82 : Int) != A) with
                  | true =>
                    go_wp2_with fail
                    go_roundw
                    case rel => exact ⟨i + 1, by omega, by go_num, by trivial⟩
                    case measure => simp [intOf]; omega
                  | false =>
                    go_wp2_with fail
                    go_roundw
                    case rel => exact ⟨i + 1, by omega, by go_num, by trivial⟩
                    case measure => simp [intOf]; omega
                · clear hch
                  go_wp2_with fail
                  go_roundw
                  case rel => exact ⟨i + 1, by omega, by go_num, by trivial⟩
                  case measure => simp [intOf]; omega
            · have hlt1 : ¬ (i : Int) < (kk : Int) := by omega
              clear S1 S2 HCH
              go_wp2_with fail
              go_ret
              exact ⟨rfl, BV.out⟩

end Go.Proofs.Ytjbmflgamogefaa
