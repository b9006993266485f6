/- greenlaw's Ring. -/
import Derived.Test.YtjbmflgamogefabTg
import Derived.Test.YtjbmflgamogefabTrW
namespace Go.Proofs.Ytjbmflgamogefab
open Go.RowKit

theorem byte_ofR {l : List Int} (h : ∀ x ∈ l, 0 ≤ x ∧ x < 256) {k : Nat} {x : Int} (hk : l[k]? = some x) (hlt : k < (strOf l).size) : (((strOf l)[k]'hlt).toNat : Int) = x := by
  have h1 := bytesOf_get (strOf l) k hlt
  rw [bytes_strOf h, hk] at h1
  simp at h1
  exact h1.symm
theorem in_fours {x : Nat} (h : x < 4) : (x : Int) ∈ fours := by
  simp only [fours, List.mem_cons, List.not_mem_nil, or_false]
  omega
theorem ring_bytes {x y : Nat} (hx : x < 4) (hy : y < 4) : ∀ b ∈ ringT x y, 0 ≤ b ∧ b < 256 := by
  intro b hb
  simp only [ringT, List.mem_cons, List.not_mem_nil, or_false] at hb
  omega
theorem one_bytes {x : Nat} (hx : x < 4) : ∀ b ∈ oneT x, 0 ≤ b ∧ b < 256 := by
  intro b hb
  simp only [oneT, List.mem_cons, List.not_mem_nil, or_false] at hb
  omega
/-- The machine of the two, told. -/
theorem ring_told1 : ∀ x ∈ fours, ∀ y ∈ fours, ¬ x = y → (playM (ringI x y) 2 1 20).trc.length = 20 ∧ ((ownL (playM (ringI x y) 2 1 20)).all fun z => decide (0 ≤ z) && decide (z < 256)) = true ∧ stsL 2 (playM (ringI x y) 2 1 20) = [66, 66] ∧ (playM (ringI x y) 2 1 20).log = [48, 51, 58, 48, 49, 32] ∧ (playM (ringI x y) 2 1 20).trc.take 8 = [48, 49, 48, 49, 45, 45, 45, 45] ∧ (ownL (playM (ringI x y) 2 1 20))[x.toNat]? = some 48 ∧ (ownL (playM (ringI x y) 2 1 20))[y.toNat]? = some 49 := by decide +kernel
theorem ring_told4 : ∀ x ∈ fours, ∀ y ∈ fours, ¬ x = y → ∀ q ∈ [4, 5, 6, 7, 8, 9], stsL 2 (playM (ringI x y) 2 q 20) = [68, 68] ∧ (playM (ringI x y) 2 q 20).log = [] ∧ ownL (playM (ringI x y) 2 q 20) = [45, 45, 45, 45] := by decide +kernel
theorem ring_given {x y : Nat} (hx : x < 4) (hy : y < 4) (h : ¬ x = y) : CheckRel (bytesOf (strOf (ringT x y))) (0, 0) ∧ parse (bytesOf (strOf (ringT x y))) = .inr (ringC x y) := by
  rw [bytes_strOf (ring_bytes hx hy)]
  exact ⟨ring_check (in_fours hx) (in_fours hy) (by omega), (ring_parse _ (in_fours hx) _ (in_fours hy)).1⟩
theorem one_given {x : Nat} (hx : x < 4) : CheckRel (bytesOf (strOf (oneT x))) (6, 3) := by
  rw [bytes_strOf (one_bytes hx)]
  exact one_check (in_fours hx)
theorem ring_view1 {x y : Nat} (hx : x < 4) (hy : y < 4) (h : ¬ x = y) (W : World) : Calls Try.prog 11 #[.string (strOf (ringT x y)), .int .i64 1, .int .i64 20] W fun e w' => ∃ la lc v0 TR OW, e = .returned (.agg #[.string v0, .string TR, .string (strOf [66, 66]), .string OW, .string (strOf [48, 51, 58, 48, 49, 32]), .slice la 8 lc, .bool true]) ∧ View1 x y TR OW ∧ Below W.heap.size W w' := by
  obtain ⟨k1, k2⟩ := ring_given hx hy h
  have m1 : (strOf (ringT x y)).size ≤ maxLen := by rw [strOf_size]; simp [ringT, maxLen]
  refine (view_ok (w := W) (n := 20) (q := 1) (cs := ringC x y) m1 ⟨(0, 0), k1, .inr (.inr ⟨rfl, ⟨by decide, by decide, by decide, by decide⟩, rfl⟩)⟩ k2).mono ?_
  rintro e w' ⟨la, lc, he, _, hb⟩
  have e0 : playM (codesOf (ringC x y)) (ringC x y).length (1 : Int).toNat (20 : Int).toNat = playM (ringI x y) 2 1 20 := rfl
  rw [e0] at he
  obtain ⟨p1, p2, p3, p4, p5, p6, p7⟩ := ring_told1 x (in_fours hx) y (in_fours hy) (by omega)
  have p3' : stsL (ringC x y).length (playM (ringI x y) 2 1 20) = [66, 66] := p3
  rw [p3', p4] at he
  have hob : ∀ z ∈ ownL (playM (ringI x y) 2 1 20), 0 ≤ z ∧ z < 256 := by
    intro z hz
    have := List.all_eq_true.1 p2 z hz
    simp only [Bool.and_eq_true, decide_eq_true_eq] at this
    exact this
  refine ⟨la, lc, _, _, _, he, ⟨?_, ?_, ?_, ?_, ?_⟩, hb⟩
  · rw [strOf_size, p1]
  · have hx := strOf_extract ((playM (ringI x y) 2 1 20).trc.take 8) ((playM (ringI x y) 2 1 20).trc.drop 8)
    rw [List.take_append_drop, p5] at hx
    exact hx
  · rw [strOf_size, ownL_len]
  · intro hlt; exact byte_ofR hob (by rw [Int.toNat_natCast] at p6; exact p6) hlt
  · intro hlt; exact byte_ofR hob (by rw [Int.toNat_natCast] at p7; exact p7) hlt
theorem ring_view4 {x y : Nat} (hx : x < 4) (hy : y < 4) (h : ¬ x = y) {q : Int} (h4 : 4 ≤ q) (h9 : q ≤ 9) (W : World) : Calls Try.prog 11 #[.string (strOf (ringT x y)), .int .i64 q, .int .i64 20] W fun e w' => ∃ la lc v0 TR, e = .returned (.agg #[.string v0, .string TR, .string (strOf [68, 68]), .string (strOf [45, 45, 45, 45]), .string (strOf []), .slice la 8 lc, .bool true]) ∧ Below W.heap.size W w' := by
  obtain ⟨k1, k2⟩ := ring_given hx hy h
  have m1 : (strOf (ringT x y)).size ≤ maxLen := by rw [strOf_size]; simp [ringT, maxLen]
  refine (view_ok (w := W) (n := 20) (q := q) (cs := ringC x y) m1 ⟨(0, 0), k1, .inr (.inr ⟨rfl, ⟨by omega, h9, by decide, by decide⟩, rfl⟩)⟩ k2).mono ?_
  rintro e w' ⟨la, lc, he, _, hb⟩
  have e0 : playM (codesOf (ringC x y)) (ringC x y).length q.toNat (20 : Int).toNat = playM (ringI x y) 2 q.toNat 20 := rfl
  rw [e0] at he
  obtain ⟨p1, p2, p3⟩ := ring_told4 x (in_fours hx) y (in_fours hy) (by omega) q.toNat (by simp; omega)
  have p1' : stsL (ringC x y).length (playM (ringI x y) 2 q.toNat 20) = [68, 68] := p1
  rw [p1', p2, p3] at he
  exact ⟨la, lc, _, _, he, hb⟩
theorem ring_view2 {x y : Nat} (hx : x < 4) (hy : y < 4) (h : ¬ x = y) {q : Int} (h4 : 1 ≤ q) (h9 : q ≤ 9) (W : World) : Calls Try.prog 11 #[.string (strOf (ringT x y)), .int .i64 q, .int .i64 20] W fun e w' => ∃ la lc v0 v1 v2 v3 v4, e = .returned (.agg #[.string v0, .string v1, .string v2, .string v3, .string v4, .slice la 8 lc, .bool true]) ∧ Below W.heap.size W w' := by
  obtain ⟨k1, k2⟩ := ring_given hx hy h
  have m1 : (strOf (ringT x y)).size ≤ maxLen := by rw [strOf_size]; simp [ringT, maxLen]
  refine (view_ok (w := W) (n := 20) (q := q) (cs := ringC x y) m1 ⟨(0, 0), k1, .inr (.inr ⟨rfl, ⟨h4, h9, by decide, by decide⟩, rfl⟩)⟩ k2).mono ?_
  rintro e w' ⟨la, lc, he, _, hb⟩
  exact ⟨la, lc, _, _, _, _, _, he, hb⟩
theorem ring_view0 {x y : Nat} (hx : x < 4) (hy : y < 4) (h : ¬ x = y) {q : Int} (hq : ¬ (1 ≤ q ∧ q ≤ 9)) (W : World) : Calls Try.prog 11 #[.string (strOf (ringT x y)), .int .i64 q, .int .i64 20] W fun e w' => ∃ la ln lc, e = .returned (.agg #[.string ByteArray.empty, .string ByteArray.empty, .string ByteArray.empty, .string ByteArray.empty, .string ByteArray.empty, .slice la ln lc, .bool false]) ∧ Below W.heap.size W w' := by
  obtain ⟨k1, k2⟩ := ring_given hx hy h
  have m1 : (strOf (ringT x y)).size ≤ maxLen := by rw [strOf_size]; simp [ringT, maxLen]
  refine (l_view _ q 20 W m1).mono ?_
  rintro e w' ⟨⟨r, lv, h1, h2⟩, hb⟩
  have hr : GivenRel (bytesOf (strOf (ringT x y))) q 20 (8, 0) := ⟨(0, 0), k1, .inr (.inl ⟨rfl, fun hi => hq ⟨hi.1, hi.2.1⟩, rfl⟩)⟩
  obtain rfl := hr.unique h1
  rcases h2 with ⟨_, h4, g, h5⟩ | ⟨h3, _⟩
  · obtain ⟨la, ln, lc, rfl⟩ := h5.slice'
    exact ⟨la, ln, lc, h4, hb⟩
  · simp at h3

theorem ring_rc (q : Int) : RingC q where
  check := fun x hx W => by
    have m1 : (strOf (oneT x)).size ≤ maxLen := by rw [strOf_size]; simp [oneT, maxLen]
    refine (g_Check _ W m1).mono ?_
    rintro e w' ⟨r, hr, rfl, hb⟩
    have := hr.unique (one_given hx)
    subst this
    exact ⟨rfl, hb⟩
  num := fun e W => l_num0 e W
  begins := fun x y W h1 h2 h3 => l_begins x y W h1 h2 h3
  view1 := fun _ x hx y hy h W => ring_view1 hx hy h W
  view4 := fun h4 h9 x hx y hy h W => ring_view4 hx hy h h4 h9 W
  view2 := fun h1 h9 x hx y hy h W => ring_view2 hx hy h h1 h9 W
  view0 := fun hq x hx y hy h W => ring_view0 hx hy h hq W
theorem l_Ring (a b q : Int) (w : World) :
    Calls Try.prog 6 #[.int .i64 a, .int .i64 b, .int .i64 q] w fun e w' => e = .returned (.bool true) ∧ Below w.heap.size w w' := ring_walk a b q w (hide (ring_rc q))

end Go.Proofs.Ytjbmflgamogefab
