/- The small functions of package green, walked. -/
import Derived.Test.YtjbmflgamogefabGreatBase
namespace Go.Proofs.YtjbmflgamogefabGreat
open Go.RowKit

set_option maxHeartbeats 400000 in
theorem g_isDigit (c : Int) (w : World) :
    Calls Tryz.prog 68 #[.int .u8 c] w fun e w' => e = .returned (.bool (isDig c)) ∧ w' = w := by
  go_enter Tryz.func68, Tryz.ntmps68
  go_wp2
  all_goals
    go_ret
    exact ⟨ret_bool (by simp [isDig, *] <;> omega), rfl⟩

set_option maxHeartbeats 400000 in
theorem g_taken (c : Int) (w : World) :
    Calls Tryz.prog 84 #[.int .u8 c] w fun e w' => e = .returned (.int .i64 (tk c)) ∧ w' = w := by
  go_enter Tryz.func84, Tryz.ntmps84
  go_wp2
  all_goals
    go_ret
    exact ⟨ret_int (by simp_all [tk]), rfl⟩

set_option maxHeartbeats 400000 in
theorem g_pushed (c : Int) (w : World) :
    Calls Tryz.prog 85 #[.int .u8 c] w fun e w' => e = .returned (.int .i64 (pt c)) ∧ w' = w := by
  go_enter Tryz.func85, Tryz.ntmps85
  go_wp2
  all_goals
    go_ret
    exact ⟨ret_int (by simp_all [pt]), rfl⟩

set_option maxHeartbeats 1000000 in
theorem g_isLetter (c : Int) (w : World) :
    Calls Tryz.prog 69 #[.int .u8 c] w fun e w' => e = .returned (.bool (isLet c)) ∧ w' = w := by
  go_enter Tryz.func69, Tryz.ntmps69
  go_wp2
  all_goals
    go_ret
    exact ⟨ret_bool (by simp_all [isLet]), rfl⟩

set_option maxHeartbeats 1000000 in
theorem g_argAllowed (c a n : Int) (w : World) :
    Calls Tryz.prog 70 #[.agg #[.int .u8 c, .int .i64 a], .int .i64 n] w fun e w' => e = .returned (.bool (argOkG c a n)) ∧ Below w.heap.size w w' := by
  go_enter Tryz.func70, Tryz.ntmps70
  go_wp2
  all_goals
    go_ret
    exact ⟨ret_bool (by simp_all [argOkG]), (Below.refl _ _).alloc (Nat.le_refl _) _⟩

set_option maxHeartbeats 400000 in
theorem g_stackWrong (c a h : Int) (w : World) (h0 : 0 ≤ h) (h1 : h ≤ 6) :
    Calls Tryz.prog 73 #[.agg #[.int .u8 c, .int .i64 a], .int .i64 h] w fun e w' => e = .returned (.bool (stkBad c h)) ∧ Below w.heap.size w w' := by
  have ht := tk_01 c
  have hp := pt_01 c
  go_enter Tryz.func73, Tryz.ntmps73
  go_wp2_with (first
    | (go_at_call 84; refine (g_taken _ _).mono ?_; rintro e w' ⟨rfl, rfl⟩)
    | (go_at_call 85; refine (g_pushed _ _).mono ?_; rintro e w' ⟨rfl, rfl⟩))
  all_goals
    go_ret
    refine ⟨ret_bool ?_, (Below.refl _ _).alloc (Nat.le_refl _) _⟩
    simp [stkBad]; omega

set_option maxHeartbeats 400000 in
theorem g_withLock (r l : Int) (w : World) (h0 : 0 ≤ r) (h1 : r < 625) (h2 : 0 ≤ l) (h3 : l < 100) :
    Calls Tryz.prog 86 #[.int .i64 r, .int .i64 l] w fun e w' => e = .returned (.int .i64 (r * 5 + l + 1)) ∧ w' = w := by
  go_enter Tryz.func86, Tryz.ntmps86
  go_wp2
  go_ret
  exact ⟨rfl, rfl⟩
set_option maxHeartbeats 400000 in
theorem g_withoutLast (r : Int) (w : World) (h0 : 0 ≤ r) (h1 : r < 625) :
    Calls Tryz.prog 87 #[.int .i64 r] w fun e w' => e = .returned (.int .i64 (r / 5)) ∧ w' = w := by
  go_enter Tryz.func87, Tryz.ntmps87
  go_wp2
  go_ret
  exact ⟨rfl, rfl⟩
set_option maxHeartbeats 400000 in
theorem g_isLast (r l : Int) (w : World) (h0 : 0 ≤ r) (h1 : r < 625) (h2 : 0 ≤ l) (h3 : l < 100) :
    Calls Tryz.prog 89 #[.int .i64 r, .int .i64 l] w fun e w' => e = .returned (.bool (r % 5 == l + 1)) ∧ w' = w := by
  go_enter Tryz.func89, Tryz.ntmps89
  go_wp2
  go_ret
  exact ⟨rfl, rfl⟩

theorem enc_bd (r : List Int) (h : OkRow r) (hl : r.length ≤ 4) : 0 ≤ enc r ∧ enc r < 625 := by
  refine ⟨enc_nonneg r h, ?_⟩
  have h1 := enc_lt r h
  have h3 : (5 : Int) ^ r.length ≤ 5 ^ 4 := by
    have : (5 : Nat) ^ r.length ≤ 5 ^ 4 := Nat.pow_le_pow_right (by omega) hl
    exact_mod_cast this
  have h4 : (5 : Int) ^ 4 = 625 := by decide
  omega

theorem held_step (r : List Int) (l a : Int) (h : OkRow (r ++ [l])) (h1 : (enc (r ++ [l]) % 5 == a + 1) = false) (ha : 0 ≤ a) : hasL (r ++ [l]) a = hasL r a := by
  rw [last_enc _ _ h ha, lastIs_snoc] at h1
  have : l ≠ a := by simpa using h1
  simp [hasL, List.contains_eq_mem, Ne.symm this]
theorem held_hit (r : List Int) (l a : Int) (h : OkRow (r ++ [l])) (h1 : (enc (r ++ [l]) % 5 == a + 1) = true) (ha : 0 ≤ a) : hasL (r ++ [l]) a = true := by
  rw [last_enc _ _ h ha, lastIs_snoc] at h1
  have : l = a := by simpa using h1
  simp [hasL, List.contains_eq_mem, this]

set_option maxHeartbeats 400000 in
theorem g_isHeld (r : List Int) (a : Int) (w : World) (hr : OkRow r) (hl : r.length ≤ 4) (h0 : 0 ≤ a) (h1 : a < 100) :
    Calls Tryz.prog 88 #[.int .i64 (enc r), .int .i64 a] w fun e w' => e = .returned (.bool (hasL r a)) ∧ w' = w := by
  go_enter Tryz.func88, Tryz.ntmps88
  go_wp2
  go_loop [0] (fun t => ∃ s : List Int, OkRow s ∧ s.length ≤ 4 ∧ Hid (hasL r a = hasL s a) ∧ t = .int .i64 (enc s)) (fun t => (intOf t).toNat)
  case atStart => exact ⟨r, hr, hl, rfl, rfl⟩
  case round =>
    obtain ⟨s, hs, hsl, hc, rfl⟩ := hrel
    have hb := enc_bd s hs hsl
    rcases snoc_or s with rfl | ⟨s', l, rfl⟩
    · have hz : enc [] = 0 := rfl
      go_wp2
      go_ret
      exact ⟨ret_bool (by rw [hc.out]; rfl), rfl⟩
    · have hpos := enc_pos _ hs (by simp)
      have hd := enc_div s' l hs
      have hb' := enc_bd s' hs.snoc.1 (by simp at hsl; omega)
      have HD : Hid (enc (s' ++ [l]) / 5 = enc s') := hd
      clear hd
      cases ht : (enc (s' ++ [l]) % 5 == a + 1) with
      | true =>
        have hh := held_hit s' l a hs ht h0
        have HH : Hid (hasL r a = true) := by rw [hc.out]; exact hh
        clear hh hc
        generalize hq : enc (s' ++ [l]) = q at *
        go_wp2_with (first
          | (go_at_call 89; refine (g_isLast _ _ _ (by omega) (by omega) (by omega) (by omega)).mono ?_; rintro e w' ⟨rfl, rfl⟩)
          | (go_at_call 87; refine (g_withoutLast _ _ (by omega) (by omega)).mono ?_; rintro e w' ⟨rfl, rfl⟩))
        go_ret
        exact ⟨ret_bool HH.out.symm, rfl⟩
      | false =>
        have hh := held_step s' l a hs ht h0
        have HH : Hid (hasL r a = hasL s' a) := by rw [hc.out]; exact hh
        clear hh hc
        have hsl' : s'.length ≤ 4 := by simp at hsl; omega
        have hs' := hs.snoc.1
        clear hs hsl
        generalize hq : enc (s' ++ [l]) = q at *
        clear hq
        go_wp2_with (first
          | (go_at_call 89; refine (g_isLast _ _ _ (by omega) (by omega) (by omega) (by omega)).mono ?_; rintro e w' ⟨rfl, rfl⟩)
          | (go_at_call 87; refine (g_withoutLast _ _ (by omega) (by omega)).mono ?_; rintro e w' ⟨rfl, rfl⟩))
        go_round
        case rel => exact ⟨s', hs', hsl', HH, by rw [HD.out]⟩
        case measure => simp [intOf]; have := HD.out; omega

set_option maxHeartbeats 400000 in
theorem g_isLastR (r : List Int) (a : Int) (w : World) (hr : OkRow r) (hl : r.length ≤ 4) (h0 : 0 ≤ a) (h1 : a < 100) :
    Calls Tryz.prog 89 #[.int .i64 (enc r), .int .i64 a] w fun e w' => e = .returned (.bool (lastIs r a)) ∧ w' = w := by
  have hb := enc_bd r hr hl
  refine (g_isLast _ _ _ hb.1 hb.2 h0 h1).mono ?_
  rintro e w' ⟨rfl, rfl⟩
  exact ⟨by rw [last_enc r a hr h0], rfl⟩

set_option maxHeartbeats 1000000 in
theorem g_lockWrong (c a : Int) (r : List Int) (w : World) (hr : OkRow r) (hl : r.length ≤ 4) (h0 : 0 ≤ a) (h1 : a < 100) :
    Calls Tryz.prog 74 #[.agg #[.int .u8 c, .int .i64 a], .int .i64 (enc r)] w fun e w' => e = .returned (.bool (lckBad c a r)) ∧ Below w.heap.size w w' := by
  have hz := enc_zero r hr
  have HZ : Hid ((enc r == 0) = r.isEmpty) := hz
  clear hz
  go_enter Tryz.func74, Tryz.ntmps74
  go_wp2_with (first
    | (go_at_call 88; refine (g_isHeld _ _ _ hr hl h0 h1).mono ?_; rintro e w' ⟨rfl, rfl⟩)
    | (go_at_call 89; refine (g_isLastR _ _ _ hr hl h0 h1).mono ?_; rintro e w' ⟨rfl, rfl⟩))
  all_goals
    go_ret
    refine ⟨ret_bool ?_, (Below.refl _ _).alloc (Nat.le_refl _) _⟩
    first
      | (simp_all [lckBad]; done)
      | (have hx := HZ.out; simp_all [lckBad, bne])

theorem wr_of (c a h : Int) (r : List Int) : (stkBad c h = true → wrg c a h r = 5) ∧ (stkBad c h = false → lckBad c a r = true → wrg c a h r = 6) ∧ (stkBad c h = false → lckBad c a r = false → wrg c a h r = 0) := by
  unfold wrg
  refine ⟨fun h1 => by simp [h1], fun h1 h2 => by simp [h1, h2], fun h1 h2 => by simp [h1, h2]⟩

set_option maxHeartbeats 400000 in
theorem g_wrongAt (c a p h : Int) (r : List Int) (w : World) (hr : OkRow r) (hl : r.length ≤ 4) (h0 : 0 ≤ a) (h1 : a < 100) (h2 : 0 ≤ h) (h3 : h ≤ 6) :
    Calls Tryz.prog 51 #[.agg #[.int .u8 c, .int .i64 a], .agg #[.int .i64 p, .int .i64 h, .int .i64 (enc r)]] w fun e w' => e = .returned (.int .i64 (wrg c a h r)) ∧ Below w.heap.size w w' := by
  obtain ⟨k1, k2, k3⟩ := wr_of c a h r
  have K1 : Hid (stkBad c h = true → wrg c a h r = 5) := k1
  have K2 : Hid (stkBad c h = false → lckBad c a r = true → wrg c a h r = 6) := k2
  have K3 : Hid (stkBad c h = false → lckBad c a r = false → wrg c a h r = 0) := k3
  clear k1 k2 k3
  go_enter Tryz.func51, Tryz.ntmps51
  go_wp2_with fail
  refine (g_stackWrong _ _ _ _ h2 h3).mono ?_
  rintro e w1 ⟨rfl, hb⟩
  have hbb : Below w.heap.size w w1 := (((Below.refl _ w).alloc (Nat.le_refl _) _).alloc (by simp) _).trans (hb.mono (by simp; omega))
  have hz : w.heap.size + 2 ≤ w1.heap.size := by have := hb.size; simp at this; omega
  obtain ⟨hc, hf⟩ := (show (∀ b o, b < w.heap.size + 2 → w1.cell? ⟨b, o, none⟩ = _) ∧ (∀ b o, b < w.heap.size + 2 → w1.frozen? ⟨b, o, none⟩ = _) from ⟨fun b o h => hb.cell (p := ⟨b, o, none⟩) (by simpa using h), fun b o h => hb.frozen (p := ⟨b, o, none⟩) (by simpa using h)⟩)
  clear hb
  cases hs : stkBad c h with
  | true =>
    go_wp2_with fail
    go_ret
    exact ⟨ret_int (K1.out hs).symm, hbb⟩
  | false =>
    go_wp2_with fail
    refine (g_lockWrong _ _ _ _ hr hl h0 h1).mono ?_
    rintro e w2 ⟨rfl, hb2⟩
    have hb3 : Below w.heap.size w w2 := hbb.trans (hb2.mono (by omega))
    clear hb2 hbb hc hf
    cases hk : lckBad c a r with
    | true =>
      go_wp2_with fail
      go_ret
      exact ⟨ret_int (K2.out hs hk).symm, hb3⟩
    | false =>
      go_wp2_with fail
      go_ret
      exact ⟨ret_int (K3.out hs hk).symm, hb3⟩

end Go.Proofs.YtjbmflgamogefabGreat
