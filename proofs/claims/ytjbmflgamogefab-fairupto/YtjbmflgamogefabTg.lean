/- greenlaw's Grows. -/
import Derived.Test.YtjbmflgamogefabGv
namespace Go.Proofs.Ytjbmflgamogefab
open Go.RowKit

theorem strOf_extract (a b : List Int) : (strOf (a ++ b)).extract 0 a.length = strOf a := by
  have h : ((strOf (a ++ b)).extract 0 a.length).data = (strOf a).data := by
    simp [strOf, ByteArray.data_extract]
  cases h1 : (strOf (a ++ b)).extract 0 a.length
  cases h2 : strOf a
  rw [h1, h2] at h
  simp only at h
  rw [h]
set_option maxHeartbeats 1000000 in
theorem l_begins (x y : ByteArray) (w : World) (_hx : x.size ≤ 1000000) (hl : y.size ≤ x.size) (he : x.extract 0 y.size = y) :
    Calls Try.prog 13 #[.string x, .string y] w fun e w' => e = .returned (.bool true) ∧ w' = w := by
  go_enter Try.func13, Try.ntmps13
  go_wp2
  go_ret
  exact ⟨rfl, rfl⟩

theorem chk_zero : ∀ {cs : Cods} {r : Int × Int}, ChkCods cs r → r.1 = 0 → r = (0, 0)
  | [], r, h, _ => h
  | x :: t, r, h, h0 => by
    obtain ⟨q, _, h2⟩ := h
    rcases h2 with ⟨_, h3⟩ | ⟨h3, h4⟩
    · exact chk_zero h3 h0
    · rw [h4] at h0; exact absurd h0 h3
/-- What OK means. -/
theorem given_ok {T : List Int} {q n : Int} (h : GivenRel T q n (0, 0)) : inR q n ∧ T.length ≤ 400 ∧ ∃ cs, parse T = .inr cs ∧ badCods cs = none ∧ ChkCods cs (0, 0) := by
  obtain ⟨c, h1, h2⟩ := h
  have hi : c.1 = 0 ∧ inR q n := by
    rcases h2 with ⟨a, b⟩ | ⟨a, _, b⟩ | ⟨a, b, _⟩
    · rw [← b] at a; exact absurd rfl a
    · simp at b
    · exact ⟨a, b⟩
  unfold CheckRel at h1
  split at h1
  · rw [h1] at hi; simp at hi
  · refine ⟨hi.2, by omega, ?_⟩
    cases hp : parse T with
    | inl j => rw [hp] at h1; simp only at h1; rw [h1] at hi; simp at hi
    | inr cs =>
      rw [hp] at h1
      simp only at h1
      cases hb : badCods cs with
      | some p => rw [hb] at h1; simp only at h1; rw [h1] at hi; simp at hi
      | none =>
        rw [hb] at h1
        simp only at h1
        obtain rfl := chk_zero h1 hi.1
        exact ⟨cs, rfl, hb, h1⟩
/-- The view of a program that is admitted. -/
theorem view_ok {s : ByteArray} {q n : Int} {w : World} {cs : Cods} (hm : s.size ≤ maxLen) (hg : GivenRel (bytesOf s) q n (0, 0)) (hp : parse (bytesOf s) = .inr cs) :
    Calls Try.prog 11 #[.string s, .int .i64 q, .int .i64 n] w fun e w' => ∃ la lc, e = .returned (.agg #[.string (strOf (playM (codesOf cs) cs.length q.toNat n.toNat).out), .string (strOf (playM (codesOf cs) cs.length q.toNat n.toNat).trc), .string (strOf (stsL cs.length (playM (codesOf cs) cs.length q.toNat n.toNat))), .string (strOf (ownL (playM (codesOf cs) cs.length q.toNat n.toNat))), .string (strOf (playM (codesOf cs) cs.length q.toNat n.toNat).log), .slice la 8 lc, .bool true]) ∧ (∃ g, SlAt w' (.slice la 8 lc) (celsL (playM (codesOf cs) cs.length q.toNat n.toNat)) g) ∧ Below w.heap.size w w' := by
  refine (l_view s q n w hm).mono ?_
  rintro e w' ⟨⟨r, lv, h1, h2⟩, hb⟩
  obtain rfl := hg.unique h1
  rcases h2 with ⟨h3, _⟩ | ⟨_, _, cs', h4, _, _, h5, g, h6⟩
  · exact absurd rfl h3
  · rw [hp] at h4
    cases h4
    obtain ⟨la, lc, rfl⟩ := h6.slice
    rw [celsL_len] at h5 h6
    exact ⟨la, lc, h5, ⟨g, h6⟩, hb⟩

end Go.Proofs.Ytjbmflgamogefab
