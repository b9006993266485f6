/- greenlaw's Stuck. -/
import Derived.Test.YtjbmflgamogefabTg
import Derived.Test.YtjbmflgamogefabMach8
namespace Go.Proofs.Ytjbmflgamogefab
open Go.RowKit

theorem cnt_zero : ∀ (l : List Int) (c : Int), cnt l c = 0 → ∀ x ∈ l, ¬ x = c
  | [], _, _, x, hx => by cases hx
  | y :: t, c, h, x, hx => by
    unfold cnt at *
    simp only [List.filter_cons] at h
    by_cases hy : y = c
    · subst hy; simp at h
    · rcases List.mem_cons.1 hx with e | e
      · rw [e]; exact hy
      · exact cnt_zero t c (by unfold cnt; simpa [hy] using h) x e
theorem cnt_some (l : List Int) (c : Int) (h : 0 < cnt l c) : c ∈ l := by
  unfold cnt at h
  obtain ⟨x, hx⟩ := List.exists_mem_of_length_pos h
  rw [List.mem_filter] at hx
  have : x = c := by simpa using hx.2
  rw [← this]; exact hx.1
theorem cnt_rep (c : Int) : ∀ d, cnt (List.replicate d c) c = d
  | 0 => rfl
  | d + 1 => by
    have := cnt_rep c d
    unfold cnt at *
    simp [List.replicate_succ] at this ⊢
theorem strOf_drop (a b : List Int) : (strOf (a ++ b)).extract a.length (strOf (a ++ b)).size = strOf b := by
  have h : ((strOf (a ++ b)).extract a.length (strOf (a ++ b)).size).data = (strOf b).data := by
    simp [strOf, ByteArray.data_extract, ByteArray.size]
    rw [List.take_of_length_le (by simp)]
  cases h1 : (strOf (a ++ b)).extract a.length (strOf (a ++ b)).size
  cases h2 : strOf b
  rw [h1, h2] at h
  simp only at h
  rw [h]
/-- P11: all that Stuck asks of the play. -/
theorem stuck_all {C : Nat → List In} {n : Nat} (hF : Fine C n) (hn : n ≤ 4) (q i d : Nat) (h : cnt (stsL n (playM C n q i)) 82 + cnt (stsL n (playM C n q i)) 83 = 0) :
    stsL n (playM C n q (i + d)) = stsL n (playM C n q i) ∧ (playM C n q (i + d)).out = (playM C n q i).out ∧ ownL (playM C n q (i + d)) = ownL (playM C n q i) ∧ (playM C n q (i + d)).log = (playM C n q i).log ∧ (playM C n q (i + d)).trc = (playM C n q i).trc ++ List.replicate d 45 ∧
    (cnt (stsL n (playM C n q i)) 87 = 0 → cnt (stsL n (playM C n q i)) 68 < n → ¬ (playM C n q i).log = []) := by
  have hs : ∀ k, k < n → ¬ ((playM C n q i).th k).sta = 82 ∧ ¬ ((playM C n q i).th k).sta = 83 := fun k hk => by
    have hm : ((playM C n q i).th k).sta ∈ stsL n (playM C n q i) := by
      simp only [stsL, List.mem_map, List.mem_range]; exact ⟨k, hk, rfl⟩
    exact ⟨cnt_zero _ _ (by omega) _ hm, cnt_zero _ _ (by omega) _ hm⟩
  obtain ⟨a1, a2, a3, a4, a5⟩ := play_still hF q i hs d
  refine ⟨?_, a2, ?_, a4, a5, fun h1 h2 => ?_⟩
  · unfold stsL; rw [a1]
  · unfold ownL; rw [a3]
  · have hk := sts_known hF q i
    have hb := cnt_some (stsL n (playM C n q i)) 66 (by omega)
    simp only [stsL, List.mem_map, List.mem_range] at hb
    obtain ⟨k, hk2, hk3⟩ := hb
    refine play_stuck hF hn q i (fun j hj => ?_) k hk2 hk3
    have hm : ((playM C n q i).th j).sta ∈ stsL n (playM C n q i) := by
      simp only [stsL, List.mem_map, List.mem_range]; exact ⟨j, hj, rfl⟩
    have c1 := hs j hj
    have c2 := cnt_zero _ _ h1 _ hm
    have c3 := play_states hF q i j hj
    simp only at c3
    omega

set_option maxRecDepth 100000 in
set_option maxHeartbeats 4000000 in
theorem l_Stuck (s : ByteArray) (q n m : Int) (w : World) (hm : s.size ≤ maxLen) :
    Calls Try.prog 5 #[.string s, .int .i64 q, .int .i64 n, .int .i64 m] w fun e w' => e = .returned (.bool true) ∧ Below w.heap.size w w' := by
  have HM := hide (fun n W => l_may s q n W hm)
  have HV := hide (fun n (W : World) cs hg hp => view_ok (w := W) (n := n) (q := q) (cs := cs) hm hg hp)
  go_enter Try.func5, Try.ntmps5
  go_wp2_with fail
  refine (HM.out n _).mono ?_
  rintro e w1 ⟨⟨b1, rfl, hm1⟩, hb1⟩
  have M1 := hide hm1
  have B1 := hide hb1
  clear hm1 hb1
  go_wp2_with fail
  refine (HM.out m _).mono ?_
  rintro e w2 ⟨⟨b2, rfl, hm2⟩, hb2⟩
  have M2 := hide hm2
  have B2 := hide (B1.out.trans (hb2.mono B1.out.size))
  clear hm2 hb2 HM B1
  cases b1 with
  | false =>
    go_wp2_with fail
    go_ret
    exact ⟨rfl, B2.out⟩
  | true =>
    cases b2 with
    | false =>
      go_wp2_with fail
      go_ret
      exact ⟨rfl, B2.out⟩
    | true =>
      by_cases hnm : m < n
      · go_wp2_with fail
        go_ret
        exact ⟨rfl, B2.out⟩
      · obtain ⟨r1, g1, e1⟩ := M1.out
        obtain ⟨r2, g2, e2⟩ := M2.out
        have e1 := e1.1 rfl
        have e2 := e2.1 rfl
        subst e1
        subst e2
        obtain ⟨⟨i1, i2, i3, i4⟩, hT, cs, p1, p2, p3⟩ := given_ok g1
        obtain ⟨⟨_, _, i5, i6⟩, _⟩ := given_ok g2
        have hF := fine_of p1 p2 p3
        have hlen := parse_lenG p1
        have hl := bytesOf_len s
        have HTH := hide (fun W => l_threads s W cs (by omega) p1)
        obtain ⟨nn, rfl⟩ : ∃ nn : Nat, n = nn := ⟨n.toNat, by omega⟩
        obtain ⟨dd, rfl⟩ : ∃ dd : Nat, m = ((nn + dd : Nat) : Int) := ⟨(m - nn).toNat, by omega⟩
        have V1 := hide (fun W => HV.out nn W cs g1 p1)
        have V2 := hide (fun W => HV.out ((nn + dd : Nat) : Int) W cs g2 p1)
        simp only [Int.toNat_natCast] at V1 V2
        have t1 := play_trc_len hF q.toNat nn
        have t2 := play_trc_len hF q.toNat (nn + dd)
        have hsb := sts_bytes hF q.toNat nn
        have HSB := hide (bytes_strOf hsb)
        have hst := stuck_all hF hlen q.toNat nn dd
        have z1 := strOf_size (stsL cs.length (playM (codesOf cs) cs.length q.toNat nn))
        rw [stsL_len] at z1
        have s2 := strOf_size (playM (codesOf cs) cs.length q.toNat (nn + dd)).trc
        rw [t2] at s2
        generalize (playM (codesOf cs) cs.length q.toNat nn) = m1 at *
        generalize (playM (codesOf cs) cs.length q.toNat (nn + dd)) = m2 at *
        have HCO := hide (fun c W => l_count (strOf (stsL cs.length m1)) c W (by unfold maxLen; rw [z1]; omega))
        rw [HSB.out] at HCO
        have C1 := hide (fun W => HCO.out 82 W)
        have C2 := hide (fun W => HCO.out 83 W)
        have C3 := hide (fun W => HCO.out 87 W)
        have C4 := hide (fun W => HCO.out 68 W)
        have k1 := cnt_le (stsL cs.length m1) 82
        have k2 := cnt_le (stsL cs.length m1) 83
        have k3 := cnt_le (stsL cs.length m1) 87
        have k4 := cnt_le (stsL cs.length m1) 68
        rw [stsL_len] at k1 k2 k3 k4
        have hLE : ∀ L : List Int, ¬ L = [] → (strOf L).toList.isEmpty = false := fun L h1 => by
          rw [ByteArray.toList_eq]
          cases L with
          | nil => exact absurd rfl h1
          | cons a t => rfl
        generalize cnt (stsL cs.length m1) 82 = a82 at *
        generalize cnt (stsL cs.length m1) 83 = a83 at *
        generalize cnt (stsL cs.length m1) 87 = a87 at *
        generalize cnt (stsL cs.length m1) 68 = a68 at *
        by_cases hz : a82 + a83 = 0
        · obtain ⟨e1, e2, e3, e4, e5, e6⟩ := hst hz
          rw [e1, e2, e3, e4] at V2
          have hdr := strOf_drop m1.trc (List.replicate dd (45 : Int))
          rw [← e5, t1, s2] at hdr
          have C5 := hide (fun W => l_count (strOf (List.replicate dd (45 : Int))) 45 W (by rw [strOf_size, List.length_replicate]; unfold maxLen; omega))
          rw [bytes_strOf (fun x hx => by rw [List.eq_of_mem_replicate hx]; omega), cnt_rep] at C5
          have e6 : a87 = 0 → a68 < cs.length → (strOf m1.log).toList.isEmpty = false := fun h1 h2 => hLE _ (e6 h1 h2)
          generalize strOf (List.replicate dd (45 : Int)) = xd at *
          generalize strOf m2.trc = x2 at *
          generalize strOf m1.trc = x1 at *
          generalize strOf (stsL cs.length m1) = x3 at *
          generalize strOf (ownL m1) = x4 at *
          generalize strOf m1.out = x5 at *
          generalize strOf m1.log = x6 at *
          generalize cs.length = kk at *
          clear hst e1 e2 e3 e4 e5 hsb HSB g1 g2 p1 p2 p3 hF M1 M2 HV t1 t2 hl HCO hLE hT
          go_wp2_with fail
          refine (HTH.out _).mono ?_
          rintro e w3 ⟨rfl, hb3⟩
          have B3 := hide (B2.out.trans (hb3.mono B2.out.size))
          clear hb3 B2 HTH
          go_wp2_with fail
          refine (V1.out _).mono ?_
          rintro e w4 ⟨la, lc, rfl, _, hb4⟩
          have B4 := hide (B3.out.trans (hb4.mono B3.out.size))
          clear hb4 B3 V1
          go_wp2_with fail
          refine (V2.out _).mono ?_
          rintro e w5 ⟨la2, lc2, rfl, _, hb5⟩
          have B5 := hide (below_view B4.out hb5)
          obtain ⟨c0, c1, c2, c3, c4, c5, c6, c7⟩ := view_cells hb5
          have B6 : Hid (∀ o, Below w.heap.size w (w5.alloc o)) := fun o => B5.out.alloc B5.out.size o
          clear hb5 B4 V2 B5
          go_wp2_with fail
          obtain ⟨rfl, rfl⟩ : a82 = 0 ∧ a83 = 0 := by omega
          go_quiet (first
            | (go_at_call_of 12 (Value.int IntKind.u8 82); exact Calls.quiet_of_same (C1.out _))
            | (go_at_call_of 12 (Value.int IntKind.u8 83); exact Calls.quiet_of_same (C2.out _)))
          have hdr2 : x2.extract nn x2.size = xd := by rw [s2]; exact hdr
          rcases (show (a87 = 0 ∧ a68 < kk ∧ x6.toList.isEmpty = false) ∨ (a87 = 0 ∧ ¬ a68 < kk) ∨ ¬ a87 = 0 by
            by_cases h1 : a87 = 0
            · by_cases h2 : a68 < kk
              · exact .inl ⟨h1, h2, e6 h1 h2⟩
              · exact .inr (.inl ⟨h1, h2⟩)
            · exact .inr (.inr h1)) with ⟨rfl, hk1, hk2⟩ | ⟨rfl, hk1⟩ | hk1
          all_goals
            clear e6
            go_wp2_with (first
              | (go_at_call_of 12 (Value.int IntKind.u8 87); refine (C3.out _).mono ?_; rintro e w' ⟨rfl, h'⟩; replace h' := h'.symm; subst h')
              | (go_at_call_of 12 (Value.int IntKind.u8 68); refine (C4.out _).mono ?_; rintro e w' ⟨rfl, h'⟩; replace h' := h'.symm; subst h')
              | (go_at_call_of 12 (Value.int IntKind.u8 45); refine (C5.out _).mono ?_; rintro e w' ⟨rfl, h'⟩; replace h' := h'.symm; subst h'))
            go_ret
            exact ⟨ret_bool (by simp; omega), (B6.out _).trans ⟨rfl, rfl, rfl, Nat.le_refl _, fun _ _ => rfl⟩⟩
        · generalize strOf m2.trc = x2 at *
          generalize strOf m1.trc = x1 at *
          generalize strOf (stsL cs.length m1) = x3 at *
          generalize strOf (stsL cs.length m2) = y3 at *
          generalize strOf (ownL m1) = x4 at *
          generalize strOf (ownL m2) = y4 at *
          generalize strOf m1.out = x5 at *
          generalize strOf m2.out = y5 at *
          generalize strOf m1.log = x6 at *
          generalize strOf m2.log = y6 at *
          generalize cs.length = kk at *
          clear hst hsb HSB g1 g2 p1 p2 p3 hF M1 M2 HV t1 t2 hl HCO hLE hT
          go_wp2_with fail
          refine (HTH.out _).mono ?_
          rintro e w3 ⟨rfl, hb3⟩
          have B3 := hide (B2.out.trans (hb3.mono B2.out.size))
          clear hb3 B2 HTH
          go_wp2_with fail
          refine (V1.out _).mono ?_
          rintro e w4 ⟨la, lc, rfl, _, hb4⟩
          have B4 := hide (B3.out.trans (hb4.mono B3.out.size))
          clear hb4 B3 V1
          go_wp2_with fail
          refine (V2.out _).mono ?_
          rintro e w5 ⟨la2, lc2, rfl, _, hb5⟩
          have B5 := hide (below_view B4.out hb5)
          obtain ⟨c0, c1, c2, c3, c4, c5, c6, c7⟩ := view_cells hb5
          have B6 : Hid (∀ o, Below w.heap.size w (w5.alloc o)) := fun o => B5.out.alloc B5.out.size o
          clear hb5 B4 V2 B5
          go_wp2_with fail
          go_quiet (first
            | (go_at_call_of 12 (Value.int IntKind.u8 82); exact Calls.quiet_of_same (C1.out _))
            | (go_at_call_of 12 (Value.int IntKind.u8 83); exact Calls.quiet_of_same (C2.out _)))
          go_wp2_with fail
          go_ret
          exact ⟨rfl, (B6.out _).trans ⟨rfl, rfl, rfl, Nat.le_refl _, fun _ _ => rfl⟩⟩

end Go.Proofs.Ytjbmflgamogefab
