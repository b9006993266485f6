/- greenlaw's may, threads, count. -/
import Derived.Test.YtijcoafpbgnomaaGv
import Derived.Test.YtijcoafpbgnomaaRRead
namespace Go.Proofs.Ytijcoafpbgnomaa
open Go.RowKit

def MayRel (T : List Int) (q n : Int) (b : Bool) : Prop := ∃ r, GivenRel T q n r ∧ (b = true ↔ r = (0, 0))
def MayAns (e : Ending) (T : List Int) (q n : Int) : Prop := ∃ b, e = .returned (.bool b) ∧ MayRel T q n b
set_option maxHeartbeats 1000000 in
theorem l_may (s : ByteArray) (q n : Int) (w : World) (hm : s.size ≤ maxLen) :
    Calls Try.prog 19 #[.string s, .int .i64 q, .int .i64 n] w fun e w' => MayAns e (bytesOf s) q n ∧ Below w.heap.size w w' := by
  have HC := hide (g_Check s w hm)
  go_enter Try.func19, Try.ntmps19
  go_wp2_with fail
  refine HC.out.mono ?_
  rintro e w1 ⟨⟨r1, r2⟩, hr, rfl, hb⟩
  have HB := hide hb
  have HN : Hid (¬ r1 = 0 → MayRel (bytesOf s) q n false) := fun h => ⟨_, ⟨_, hr, .inl ⟨h, rfl⟩⟩, by
    constructor
    · intro e; cases e
    · intro e; simp at e; exact absurd e.1 h⟩
  have HX : Hid (r1 = 0 → ¬ inR q n → MayRel (bytesOf s) q n false) := fun h hi => ⟨_, ⟨_, hr, .inr (.inl ⟨h, hi, rfl⟩)⟩, by
    constructor
    · intro e; cases e
    · intro e; simp at e⟩
  have HY : Hid (r1 = 0 → inR q n → MayRel (bytesOf s) q n true) := fun h hi => ⟨_, ⟨_, hr, .inr (.inr ⟨h, hi, rfl⟩)⟩, by simp⟩
  clear hr hb HC
  by_cases hz : r1 = 0
  · have hz0 : (r1 == 0) = true := by simp [hz]
    by_cases h1 : 1 ≤ q
    · by_cases h2 : q ≤ 9
      · by_cases h3 : 0 ≤ n
        · by_cases h4 : n ≤ 60
          · have X := hide (HY.out hz ⟨h1, h2, h3, h4⟩)
            clear HN HX HY hz
            go_wp2_with (go_at_call 17; refine (l_num0 _ _).mono ?_; rintro e w' ⟨rfl, rfl⟩)
            go_ret
            exact ⟨⟨_, rfl, by first | exact X.out | (rw [show decide (n ≤ 60) = false by simp; omega]; exact X.out) | (rw [show decide (n ≤ 60) = true by simp; omega]; exact X.out)⟩, HB.out⟩
          · have X := hide (HX.out hz (fun hi => h4 hi.2.2.2))
            clear HN HX HY hz
            go_wp2_with (go_at_call 17; refine (l_num0 _ _).mono ?_; rintro e w' ⟨rfl, rfl⟩)
            go_ret
            exact ⟨⟨_, rfl, by first | exact X.out | (rw [show decide (n ≤ 60) = false by simp; omega]; exact X.out) | (rw [show decide (n ≤ 60) = true by simp; omega]; exact X.out)⟩, HB.out⟩
        · have X := hide (HX.out hz (fun hi => h3 hi.2.2.1))
          clear HN HX HY hz
          go_wp2_with (go_at_call 17; refine (l_num0 _ _).mono ?_; rintro e w' ⟨rfl, rfl⟩)
          go_ret
          exact ⟨⟨_, rfl, by first | exact X.out | (rw [show decide (n ≤ 60) = false by simp; omega]; exact X.out) | (rw [show decide (n ≤ 60) = true by simp; omega]; exact X.out)⟩, HB.out⟩
      · have X := hide (HX.out hz (fun hi => h2 hi.2.1))
        clear HN HX HY hz
        go_wp2_with (go_at_call 17; refine (l_num0 _ _).mono ?_; rintro e w' ⟨rfl, rfl⟩)
        go_ret
        exact ⟨⟨_, rfl, by first | exact X.out | (rw [show decide (n ≤ 60) = false by simp; omega]; exact X.out) | (rw [show decide (n ≤ 60) = true by simp; omega]; exact X.out)⟩, HB.out⟩
    · have X := hide (HX.out hz (fun hi => h1 hi.1))
      clear HN HX HY hz
      go_wp2_with (go_at_call 17; refine (l_num0 _ _).mono ?_; rintro e w' ⟨rfl, rfl⟩)
      go_ret
      exact ⟨⟨_, rfl, by first | exact X.out | (rw [show decide (n ≤ 60) = false by simp; omega]; exact X.out) | (rw [show decide (n ≤ 60) = true by simp; omega]; exact X.out)⟩, HB.out⟩
  · have hz0 : (r1 == 0) = false := by simp [hz]
    have X := hide (HN.out hz)
    clear HN HX HY hz
    go_wp2_with (go_at_call 17; refine (l_num0 _ _).mono ?_; rintro e w' ⟨rfl, rfl⟩)
    go_ret
    exact ⟨⟨_, rfl, by first | exact X.out | (rw [show decide (n ≤ 60) = false by simp; omega]; exact X.out) | (rw [show decide (n ≤ 60) = true by simp; omega]; exact X.out)⟩, HB.out⟩

set_option maxHeartbeats 1000000 in
theorem l_threads (s : ByteArray) (w : World) (cs : Cods) (hs : s.size ≤ 400) (hp : parse (bytesOf s) = .inr cs) :
    Calls Try.prog 20 #[.string s] w fun e w' => e = .returned (.int .i64 (cs.length : Nat)) ∧ Below w.heap.size w w' := by
  have HC := hide (r_Read s w hs)
  rw [hp] at HC
  go_enter Try.func20, Try.ntmps20
  go_wp2_with fail
  refine HC.out.mono ?_
  rintro e w1 ⟨⟨v, rfl, hv⟩, hb⟩
  have HB := hide hb
  obtain ⟨va, vc, rfl⟩ := hv.slice
  clear hv hb HC
  go_wp2_with fail
  go_ret
  exact ⟨rfl, HB.out⟩

def cnt (l : List Int) (c : Int) : Nat := (l.filter (· == c)).length
theorem cnt_snoc (l : List Int) (x c : Int) : cnt (l ++ [x]) c = cnt l c + if x == c then 1 else 0 := by
  unfold cnt; rw [List.filter_append, List.length_append]; simp [List.filter_cons]; split <;> rfl
theorem cnt_take {l : List Int} {k : Nat} {x : Int} (h : l[k]? = some x) (c : Int) : cnt (l.take (k + 1)) c = cnt (l.take k) c + if x == c then 1 else 0 := by
  rw [List.take_add_one, h]; exact cnt_snoc _ _ _
theorem cnt_le (l : List Int) (c : Int) : cnt l c ≤ l.length := List.length_filter_le _ _
set_option maxHeartbeats 1000000 in
theorem l_count (s : ByteArray) (c : Int) (w : World) (hm : s.size ≤ maxLen) :
    Calls Try.prog 21 #[.string s, .int .u8 c] w fun e w' => e = .returned (.int .i64 (cnt (bytesOf s) c : Nat)) ∧ w' = w := by
  have HT := hide (bytesOf_len s)
  unfold maxLen at hm
  go_enter Try.func21, Try.ntmps21
  go_wp2
  go_loop [5, 6] (fun a i => ∃ k : Nat, k ≤ s.size ∧ i = .int .i64 k ∧ a = .int .i64 (cnt ((bytesOf s).take k) c : Nat)) (fun _ i => s.size - (intOf i).toNat)
  case atStart => exact ⟨0, Nat.zero_le _, rfl, rfl⟩
  case round =>
    obtain ⟨k, hk, rfl, rfl⟩ := hrel
    have hle := cnt_le ((bytesOf s).take k) c
    have hle2 : ((bytesOf s).take k).length ≤ k := List.length_take_le _ _
    by_cases hlt : k < s.size
    · have hg := bytesOf_get s k hlt
      obtain ⟨x, hx⟩ : ∃ x : Int, x = ((s[k]).toNat : Int) := ⟨_, rfl⟩
      have hxe : ((s[k]).toNat : Int) = x := hx.symm
      rw [hxe] at hg
      have HC := hide (cnt_take hg c)
      clear hg hx
      generalize cnt ((bytesOf s).take k) c = A at *
      cases hxc : (x == c) with
      | true =>
        rw [hxc] at HC
        go_wp2
        go_round
        case rel => exact ⟨k + 1, by omega, by go_num, by rw [HC.out, if_pos rfl]; go_num⟩
        case measure => simp [intOf]; omega
      | false =>
        rw [hxc] at HC
        go_wp2
        go_round
        case rel => exact ⟨k + 1, by omega, by go_num, by rw [HC.out]; simp⟩
        case measure => simp [intOf]; omega
    · have HE : Hid (cnt ((bytesOf s).take k) c = cnt (bytesOf s) c) := by unfold Hid; rw [List.take_of_length_le (by rw [HT.out]; omega)]
      go_wp2
      go_ret
      rw [HE.out]
      exact ⟨rfl, rfl⟩

end Go.Proofs.Ytijcoafpbgnomaa
