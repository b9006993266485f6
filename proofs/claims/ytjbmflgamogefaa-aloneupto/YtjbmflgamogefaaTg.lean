/- greenlaw's Grows. -/
import Derived.Test.YtjbmflgamogefaaGv
namespace Go.Proofs.Ytjbmflgamogefaa
open Go.RowKit

theorem strOf_extract (a b : List Int) : (strOf (a ++ b)).extract 0 a.length = strOf a := by
  have h : ((strOf (a ++ b)).extract 0 a.length).data = (strOf a).data := by
    simp [strOf, ByteArray.data_extract]
  cases h1 : (strOf (a ++ b)).extract 0 a.length
  cases h2 : strOf a
  rw [h1, h2] at h
  simp only at h
  rw [h]
set_option maxHeartbeats 1000000 in
theorem l_begins (x y : ByteArray) (w : World) (_hx : x.size ≤ 1000000) (hl : y.size ≤ x.size) (he : x.extract 0 y.size = y) :
    Calls Try.prog 19 #[.string x, .string y] w fun e w' => e = .returned (.bool true) ∧ w' = w := by
  go_enter Try.func19, Try.ntmps19
  go_wp2
  go_ret
  exact ⟨rfl, rfl⟩

theorem chk_zero : ∀ {cs : Cods} {r : Int × Int}, ChkCods cs r → r.1 = 0 → r = (0, 0)
  | [], r, h, _ => h
  | x :: t, r, h, h0 => by
    obtain ⟨q, _, h2⟩ := h
    rcases h2 with ⟨_, h3⟩ | ⟨h3, h4⟩
    · exact chk_zero h3 h0
    · rw [h4] at h0; exact absurd h0 h3
/-- What OK means. -/
theorem given_ok {T : List Int} {q n : Int} (h : GivenRel T q n (0, 0)) : inR q n ∧ T.length ≤ 400 ∧ ∃ cs, parse T = .inr cs ∧ badCods cs = none ∧ ChkCods cs (0, 0) := by
  obtain ⟨c, h1, h2⟩ := h
  have hi : c.1 = 0 ∧ inR q n := by
    rcases h2 with ⟨a, b⟩ | ⟨a, _, b⟩ | ⟨a, b, _⟩
    · rw [← b] at a; exact absurd rfl a
    · simp at b
    · exact ⟨a, b⟩
  unfold CheckRel at h1
  split at h1
  · rw [h1] at hi; simp at hi
  · refine ⟨hi.2, by omega, ?_⟩
    cases hp : parse T with
    | inl j => rw [hp] at h1; simp only at h1; rw [h1] at hi; simp at hi
    | inr cs =>
      rw [hp] at h1
      simp only at h1
      cases hb : badCods cs with
      | some p => rw [hb] at h1; simp only at h1; rw [h1] at hi; simp at hi
      | none =>
        rw [hb] at h1
        simp only at h1
        obtain rfl := chk_zero h1 hi.1
        exact ⟨cs, rfl, hb, h1⟩
/-- The view of a program that is admitted. -/
theorem view_ok {s : ByteArray} {q n : Int} {w : World} {cs : Cods} (hm : s.size ≤ maxLen) (hg : GivenRel (bytesOf s) q n (0, 0)) (hp : parse (bytesOf s) = .inr cs) :
    Calls Try.prog 13 #[.string s, .int .i64 q, .int .i64 n] w fun e w' => ∃ la lc, e = .returned (.agg #[.string (strOf (playM (codesOf cs) cs.length q.toNat n.toNat).out), .string (strOf (playM (codesOf cs) cs.length q.toNat n.toNat).trc), .string (strOf (stsL cs.length (playM (codesOf cs) cs.length q.toNat n.toNat))), .string (strOf (ownL (playM (codesOf cs) cs.length q.toNat n.toNat))), .string (strOf (playM (codesOf cs) cs.length q.toNat n.toNat).log), .slice la 8 lc, .bool true]) ∧ (∃ g, SlAt w' (.slice la 8 lc) (celsL (playM (codesOf cs) cs.length q.toNat n.toNat)) g) ∧ Below w.heap.size w w' := by
  refine (l_view s q n w hm).mono ?_
  rintro e w' ⟨⟨r, lv, h1, h2⟩, hb⟩
  obtain rfl := hg.unique h1
  rcases h2 with ⟨h3, _⟩ | ⟨_, _, cs', h4, _, _, h5, g, h6⟩
  · exact absurd rfl h3
  · rw [hp] at h4
    cases h4
    obtain ⟨la, lc, rfl⟩ := h6.slice
    rw [celsL_len] at h5 h6
    exact ⟨la, lc, h5, ⟨g, h6⟩, hb⟩

set_option maxRecDepth 100000 in
set_option maxHeartbeats 4000000 in
theorem l_Grows (s : ByteArray) (q n m : Int) (w : World) (hm : s.size ≤ maxLen) :
    Calls Try.prog 6 #[.string s, .int .i64 q, .int .i64 n, .int .i64 m] w fun e w' => e = .returned (.bool true) ∧ Below w.heap.size w w' := by
  have HM := hide (fun n W => l_may s q n W hm)
  have HV := hide (fun n (W : World) cs hg hp => view_ok (w := W) (n := n) (q := q) (cs := cs) hm hg hp)
  go_enter Try.func6, Try.ntmps6
  go_wp2_with fail
  refine (HM.out n _).mono ?_
  rintro e w1 ⟨⟨b1, rfl, hm1⟩, hb1⟩
  have M1 := hide hm1
  have B1 := hide hb1
  clear hm1 hb1
  go_wp2_with fail
  refine (HM.out m _).mono ?_
  rintro e w2 ⟨⟨b2, rfl, hm2⟩, hb2⟩
  have M2 := hide hm2
  have B2 := hide (B1.out.trans (hb2.mono B1.out.size))
  clear hm2 hb2 HM B1
  cases b1 with
  | false =>
    go_wp2_with fail
    go_ret
    exact ⟨rfl, B2.out⟩
  | true =>
    cases b2 with
    | false =>
      go_wp2_with fail
      go_ret
      exact ⟨rfl, B2.out⟩
    | true =>
      by_cases hnm : m < n
      · go_wp2_with fail
        go_ret
        exact ⟨rfl, B2.out⟩
      · obtain ⟨r1, g1, e1⟩ := M1.out
        obtain ⟨r2, g2, e2⟩ := M2.out
        have e1 := e1.1 rfl
        have e2 := e2.1 rfl
        subst e1
        subst e2
        obtain ⟨⟨i1, i2, i3, i4⟩, _, cs, p1, p2, p3⟩ := given_ok g1
        obtain ⟨⟨_, _, i5, i6⟩, _⟩ := given_ok g2
        have hF := fine_of p1 p2 p3
        obtain ⟨nn, rfl⟩ : ∃ nn : Nat, n = nn := ⟨n.toNat, by omega⟩
        obtain ⟨dd, rfl⟩ : ∃ dd : Nat, m = ((nn + dd : Nat) : Int) := ⟨(m - nn).toNat, by omega⟩
        obtain ⟨ex, fx, hex, hfx⟩ := play_grows hF q.toNat nn dd
        obtain ⟨gx, hgx⟩ := play_log_grows (codesOf cs) cs.length q.toNat nn dd
        have l1 := play_log_len (codesOf cs) cs.length q.toNat (nn + dd)
        rw [hgx] at l1
        have V1 := hide (fun W => HV.out nn W cs g1 p1)
        have V2 := hide (fun W => HV.out ((nn + dd : Nat) : Int) W cs g2 p1)
        simp only [Int.toNat_natCast] at V1 V2
        rw [hex, hfx, hgx] at V2
        have t1 := play_trc_len hF q.toNat nn
        have t2 := play_trc_len hF q.toNat (nn + dd)
        rw [hfx] at t2
        have o1 := (play_out_len hF q.toNat (nn + dd)).2
        rw [hex] at o1
        have hqq : (nn + dd) * q.toNat ≤ 60 * 9 := Nat.mul_le_mul (by omega) (by omega)
        generalize playM (codesOf cs) cs.length q.toNat nn = m1 at *
        generalize playM (codesOf cs) cs.length q.toNat (nn + dd) = m2 at *
        have E1 := hide (l_begins (strOf (m1.out ++ ex)) (strOf m1.out) · (by rw [strOf_size]; omega) (by rw [strOf_size, strOf_size, List.length_append]; omega) (by rw [strOf_size]; exact strOf_extract _ _))
        have E2 := hide (l_begins (strOf (m1.trc ++ fx)) (strOf m1.trc) · (by rw [strOf_size]; omega) (by rw [strOf_size, strOf_size, List.length_append]; omega) (by rw [strOf_size]; exact strOf_extract _ _))
        have E3 := hide (l_begins (strOf (m1.log ++ gx)) (strOf m1.log) · (by rw [strOf_size]; omega) (by rw [strOf_size, strOf_size, List.length_append]; omega) (by rw [strOf_size]; exact strOf_extract _ _))
        have s1 := strOf_size m1.trc
        have s2 := strOf_size (m1.trc ++ fx)
        rw [t1] at s1
        rw [t2] at s2
        generalize strOf (m1.out ++ ex) = x1 at *
        generalize strOf m1.out = x2 at *
        generalize strOf (m1.trc ++ fx) = x3 at *
        generalize strOf m1.trc = x4 at *
        generalize strOf (m1.log ++ gx) = x5 at *
        generalize strOf m1.log = x6 at *
        clear l1 hgx g1 g2 p1 p2 p3 hF hex hfx t1 t2 o1 hqq HV M1 M2
        go_wp2_with fail
        refine (V1.out _).mono ?_
        rintro e w3 ⟨la, lc, rfl, _, hb3⟩
        have B3 := hide (B2.out.trans (hb3.mono B2.out.size))
        clear hb3 B2 V1
        go_wp2_with fail
        refine (V2.out _).mono ?_
        rintro e w4 ⟨la2, lc2, rfl, _, hb4⟩
        have B4 := hide (below_view B3.out hb4)
        obtain ⟨c0, c1, c2, c3, c4, c5, c6, c7⟩ := view_cells hb4
        have B5 : Hid (∀ o, Below w.heap.size w (w4.alloc o)) := fun o => B4.out.alloc B4.out.size o
        have hk2 : ((x4.size : Int) == (nn : Int)) = true := by simp; omega
        have hk3 : ((x3.size : Int) == (nn : Int) + (dd : Int)) = true := by simp; omega
        clear hb4 V2 B3
        generalize strOf (stsL cs.length m2) = y1 at *
        generalize strOf (ownL m2) = y2 at *
        generalize strOf (stsL cs.length m1) = y3 at *
        generalize strOf (ownL m1) = y4 at *
        go_wp2_with (first
          | (go_at_call_of 19 (Value.string x1); refine (E1.out _).mono ?_; rintro e w' ⟨rfl, h'⟩; replace h' := h'.symm; subst h')
          | (go_at_call_of 19 (Value.string x3); refine (E2.out _).mono ?_; rintro e w' ⟨rfl, h'⟩; replace h' := h'.symm; subst h')
          | (go_at_call 19; refine (E3.out _).mono ?_; rintro e w' ⟨rfl, h'⟩; replace h' := h'.symm; subst h'))
        go_ret
        exact ⟨rfl, B5.out _⟩

end Go.Proofs.Ytjbmflgamogefaa
