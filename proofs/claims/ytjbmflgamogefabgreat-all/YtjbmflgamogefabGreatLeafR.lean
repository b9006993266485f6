/- The small functions of package greenref, walked. -/
import Derived.Test.YtjbmflgamogefabGreatBase
namespace Go.Proofs.YtjbmflgamogefabGreat
open Go.RowKit

set_option maxHeartbeats 400000 in
theorem r_isDigit (c : Int) (w : World) :
    Calls Tryz.prog 53 #[.int .u8 c] w fun e w' => e = .returned (.bool (isDig c)) ∧ w' = w := by
  go_enter Tryz.func53, Tryz.ntmps53
  go_wp2
  all_goals
    go_ret
    exact ⟨ret_bool (by simp [isDig, *] <;> omega), rfl⟩

set_option maxHeartbeats 400000 in
theorem r_takes (c : Int) (w : World) :
    Calls Tryz.prog 55 #[.int .u8 c] w fun e w' => e = .returned (.int .i64 (tk c)) ∧ w' = w := by
  go_enter Tryz.func55, Tryz.ntmps55
  go_wp2
  all_goals
    go_ret
    exact ⟨ret_int (by simp_all [tk]), rfl⟩

set_option maxHeartbeats 400000 in
theorem r_puts (c : Int) (w : World) :
    Calls Tryz.prog 56 #[.int .u8 c] w fun e w' => e = .returned (.int .i64 (pt c)) ∧ w' = w := by
  go_enter Tryz.func56, Tryz.ntmps56
  go_wp2
  all_goals
    go_ret
    exact ⟨ret_int (by simp_all [pt]), rfl⟩

set_option maxHeartbeats 1000000 in
theorem r_allowed (c a p n : Int) (w : World) :
    Calls Tryz.prog 25 #[.agg #[.int .u8 c, .int .i64 a, .int .i64 p], .int .i64 n] w fun e w' => e = .returned (.bool (argOk c a n)) ∧ Below w.heap.size w w' := by
  go_enter Tryz.func25, Tryz.ntmps25
  go_wp2
  all_goals
    go_ret
    exact ⟨ret_bool (by simp_all [argOk]), (Below.refl _ _).alloc (Nat.le_refl _) _⟩

def opsList : List Int := [107, 103, 115, 43, 45, 112, 74, 90, 65, 82, 87, 78, 84, 89, 88]
theorem isLet_ops (c : Int) : isLet c = opsList.any (fun x => x == c) := by
  simp only [isLet, opsList, List.any_cons, List.any_nil, Bool.or_false, Bool.or_assoc]
  simp only [Bool.beq_comm]

theorem ops_next (k : Nat) (x c : Int) (h : opsList[k]? = some x) (hx : ¬ x = c) (hc : isLet c = (opsList.drop k).any (fun x => x == c)) : isLet c = (opsList.drop (k + 1)).any (fun x => x == c) := by
  obtain ⟨hk, rfl⟩ := List.getElem?_eq_some_iff.1 h
  rw [hc, List.drop_eq_getElem_cons hk, List.any_cons]
  have : (opsList[k] == c) = false := by simpa using hx
  rw [this]; rfl

set_option maxHeartbeats 1000000 in
theorem r_isOp (c : Int) (w : World) :
    Calls Tryz.prog 52 #[.int .u8 c] w fun e w' => e = .returned (.bool (isLet c)) ∧ w' = w := by
  go_enter Tryz.func52, Tryz.ntmps52
  go_wp2
  go_loop [4] (fun i => ∃ k : Nat, k ≤ 15 ∧ i = .int .i64 k ∧ Hid (isLet c = (opsList.drop k).any (fun x => x == c))) (fun i => 15 - (intOf i).toNat)
  case atStart => exact ⟨0, by omega, rfl, by rw [isLet_ops]; rfl⟩
  case round =>
    obtain ⟨k, hk, rfl, hc⟩ := hrel
    rcases (show k = 0 ∨ k = 1 ∨ k = 2 ∨ k = 3 ∨ k = 4 ∨ k = 5 ∨ k = 6 ∨ k = 7 ∨ k = 8 ∨ k = 9 ∨ k = 10 ∨ k = 11 ∨ k = 12 ∨ k = 13 ∨ k = 14 ∨ k = 15 from by omega) with rfl | rfl | rfl | rfl | rfl | rfl | rfl | rfl | rfl | rfl | rfl | rfl | rfl | rfl | rfl | rfl
    · by_cases hx : (107 : Int) = c
      · have hy : ((⟨#[107, 103, 115, 43, 45, 112, 74, 90, 65, 82, 87, 78, 84, 89, 88]⟩ : ByteArray)[0].toNat : Int) = c := hx
        have HX : Hid ((107 : Int) = c) := hx
        clear hx
        go_wp2
        go_ret
        exact ⟨ret_bool (by rw [hc.out, ← HX.out]; rfl), rfl⟩
      · have hy : ¬ ((⟨#[107, 103, 115, 43, 45, 112, 74, 90, 65, 82, 87, 78, 84, 89, 88]⟩ : ByteArray)[0].toNat : Int) = c := hx
        have HX : Hid (¬ (107 : Int) = c) := hx
        clear hx
        go_wp2
        go_round
        case rel => exact ⟨1, by omega, by go_num, ops_next 0 107 c rfl HX.out hc.out⟩
        case measure => simp [intOf]
    · by_cases hx : (103 : Int) = c
      · have hy : ((⟨#[107, 103, 115, 43, 45, 112, 74, 90, 65, 82, 87, 78, 84, 89, 88]⟩ : ByteArray)[1].toNat : Int) = c := hx
        have HX : Hid ((103 : Int) = c) := hx
        clear hx
        go_wp2
        go_ret
        exact ⟨ret_bool (by rw [hc.out, ← HX.out]; rfl), rfl⟩
      · have hy : ¬ ((⟨#[107, 103, 115, 43, 45, 112, 74, 90, 65, 82, 87, 78, 84, 89, 88]⟩ : ByteArray)[1].toNat : Int) = c := hx
        have HX : Hid (¬ (103 : Int) = c) := hx
        clear hx
        go_wp2
        go_round
        case rel => exact ⟨2, by omega, by go_num, ops_next 1 103 c rfl HX.out hc.out⟩
        case measure => simp [intOf]
    · by_cases hx : (115 : Int) = c
      · have hy : ((⟨#[107, 103, 115, 43, 45, 112, 74, 90, 65, 82, 87, 78, 84, 89, 88]⟩ : ByteArray)[2].toNat : Int) = c := hx
        have HX : Hid ((115 : Int) = c) := hx
        clear hx
        go_wp2
        go_ret
        exact ⟨ret_bool (by rw [hc.out, ← HX.out]; rfl), rfl⟩
      · have hy : ¬ ((⟨#[107, 103, 115, 43, 45, 112, 74, 90, 65, 82, 87, 78, 84, 89, 88]⟩ : ByteArray)[2].toNat : Int) = c := hx
        have HX : Hid (¬ (115 : Int) = c) := hx
        clear hx
        go_wp2
        go_round
        case rel => exact ⟨3, by omega, by go_num, ops_next 2 115 c rfl HX.out hc.out⟩
        case measure => simp [intOf]
    · by_cases hx : (43 : Int) = c
      · have hy : ((⟨#[107, 103, 115, 43, 45, 112, 74, 90, 65, 82, 87, 78, 84, 89, 88]⟩ : ByteArray)[3].toNat : Int) = c := hx
        have HX : Hid ((43 : Int) = c) := hx
        clear hx
        go_wp2
        go_ret
        exact ⟨ret_bool (by rw [hc.out, ← HX.out]; rfl), rfl⟩
      · have hy : ¬ ((⟨#[107, 103, 115, 43, 45, 112, 74, 90, 65, 82, 87, 78, 84, 89, 88]⟩ : ByteArray)[3].toNat : Int) = c := hx
        have HX : Hid (¬ (43 : Int) = c) := hx
        clear hx
        go_wp2
        go_round
        case rel => exact ⟨4, by omega, by go_num, ops_next 3 43 c rfl HX.out hc.out⟩
        case measure => simp [intOf]
    · by_cases hx : (45 : Int) = c
      · have hy : ((⟨#[107, 103, 115, 43, 45, 112, 74, 90, 65, 82, 87, 78, 84, 89, 88]⟩ : ByteArray)[4].toNat : Int) = c := hx
        have HX : Hid ((45 : Int) = c) := hx
        clear hx
        go_wp2
        go_ret
        exact ⟨ret_bool (by rw [hc.out, ← HX.out]; rfl), rfl⟩
      · have hy : ¬ ((⟨#[107, 103, 115, 43, 45, 112, 74, 90, 65, 82, 87, 78, 84, 89, 88]⟩ : ByteArray)[4].toNat : Int) = c := hx
        have HX : Hid (¬ (45 : Int) = c) := hx
        clear hx
        go_wp2
        go_round
        case rel => exact ⟨5, by omega, by go_num, ops_next 4 45 c rfl HX.out hc.out⟩
        case measure => simp [intOf]
    · by_cases hx : (112 : Int) = c
      · have hy : ((⟨#[107, 103, 115, 43, 45, 112, 74, 90, 65, 82, 87, 78, 84, 89, 88]⟩ : ByteArray)[5].toNat : Int) = c := hx
        have HX : Hid ((112 : Int) = c) := hx
        clear hx
        go_wp2
        go_ret
        exact ⟨ret_bool (by rw [hc.out, ← HX.out]; rfl), rfl⟩
      · have hy : ¬ ((⟨#[107, 103, 115, 43, 45, 112, 74, 90, 65, 82, 87, 78, 84, 89, 88]⟩ : ByteArray)[5].toNat : Int) = c := hx
        have HX : Hid (¬ (112 : Int) = c) := hx
        clear hx
        go_wp2
        go_round
        case rel => exact ⟨6, by omega, by go_num, ops_next 5 112 c rfl HX.out hc.out⟩
        case measure => simp [intOf]
    · by_cases hx : (74 : Int) = c
      · have hy : ((⟨#[107, 103, 115, 43, 45, 112, 74, 90, 65, 82, 87, 78, 84, 89, 88]⟩ : ByteArray)[6].toNat : Int) = c := hx
        have HX : Hid ((74 : Int) = c) := hx
        clear hx
        go_wp2
        go_ret
        exact ⟨ret_bool (by rw [hc.out, ← HX.out]; rfl), rfl⟩
      · have hy : ¬ ((⟨#[107, 103, 115, 43, 45, 112, 74, 90, 65, 82, 87, 78, 84, 89, 88]⟩ : ByteArray)[6].toNat : Int) = c := hx
        have HX : Hid (¬ (74 : Int) = c) := hx
        clear hx
        go_wp2
        go_round
        case rel => exact ⟨7, by omega, by go_num, ops_next 6 74 c rfl HX.out hc.out⟩
        case measure => simp [intOf]
    · by_cases hx : (90 : Int) = c
      · have hy : ((⟨#[107, 103, 115, 43, 45, 112, 74, 90, 65, 82, 87, 78, 84, 89, 88]⟩ : ByteArray)[7].toNat : Int) = c := hx
        have HX : Hid ((90 : Int) = c) := hx
        clear hx
        go_wp2
        go_ret
        exact ⟨ret_bool (by rw [hc.out, ← HX.out]; rfl), rfl⟩
      · have hy : ¬ ((⟨#[107, 103, 115, 43, 45, 112, 74, 90, 65, 82, 87, 78, 84, 89, 88]⟩ : ByteArray)[7].toNat : Int) = c := hx
        have HX : Hid (¬ (90 : Int) = c) := hx
        clear hx
        go_wp2
        go_round
        case rel => exact ⟨8, by omega, by go_num, ops_next 7 90 c rfl HX.out hc.out⟩
        case measure => simp [intOf]
    · by_cases hx : (65 : Int) = c
      · have hy : ((⟨#[107, 103, 115, 43, 45, 112, 74, 90, 65, 82, 87, 78, 84, 89, 88]⟩ : ByteArray)[8].toNat : Int) = c := hx
        have HX : Hid ((65 : Int) = c) := hx
        clear hx
        go_wp2
        go_ret
        exact ⟨ret_bool (by rw [hc.out, ← HX.out]; rfl), rfl⟩
      · have hy : ¬ ((⟨#[107, 103, 115, 43, 45, 112, 74, 90, 65, 82, 87, 78, 84, 89, 88]⟩ : ByteArray)[8].toNat : Int) = c := hx
        have HX : Hid (¬ (65 : Int) = c) := hx
        clear hx
        go_wp2
        go_round
        case rel => exact ⟨9, by omega, by go_num, ops_next 8 65 c rfl HX.out hc.out⟩
        case measure => simp [intOf]
    · by_cases hx : (82 : Int) = c
      · have hy : ((⟨#[107, 103, 115, 43, 45, 112, 74, 90, 65, 82, 87, 78, 84, 89, 88]⟩ : ByteArray)[9].toNat : Int) = c := hx
        have HX : Hid ((82 : Int) = c) := hx
        clear hx
        go_wp2
        go_ret
        exact ⟨ret_bool (by rw [hc.out, ← HX.out]; rfl), rfl⟩
      · have hy : ¬ ((⟨#[107, 103, 115, 43, 45, 112, 74, 90, 65, 82, 87, 78, 84, 89, 88]⟩ : ByteArray)[9].toNat : Int) = c := hx
        have HX : Hid (¬ (82 : Int) = c) := hx
        clear hx
        go_wp2
        go_round
        case rel => exact ⟨10, by omega, by go_num, ops_next 9 82 c rfl HX.out hc.out⟩
        case measure => simp [intOf]
    · by_cases hx : (87 : Int) = c
      · have hy : ((⟨#[107, 103, 115, 43, 45, 112, 74, 90, 65, 82, 87, 78, 84, 89, 88]⟩ : ByteArray)[10].toNat : Int) = c := hx
        have HX : Hid ((87 : Int) = c) := hx
        clear hx
        go_wp2
        go_ret
        exact ⟨ret_bool (by rw [hc.out, ← HX.out]; rfl), rfl⟩
      · have hy : ¬ ((⟨#[107, 103, 115, 43, 45, 112, 74, 90, 65, 82, 87, 78, 84, 89, 88]⟩ : ByteArray)[10].toNat : Int) = c := hx
        have HX : Hid (¬ (87 : Int) = c) := hx
        clear hx
        go_wp2
        go_round
        case rel => exact ⟨11, by omega, by go_num, ops_next 10 87 c rfl HX.out hc.out⟩
        case measure => simp [intOf]
    · by_cases hx : (78 : Int) = c
      · have hy : ((⟨#[107, 103, 115, 43, 45, 112, 74, 90, 65, 82, 87, 78, 84, 89, 88]⟩ : ByteArray)[11].toNat : Int) = c := hx
        have HX : Hid ((78 : Int) = c) := hx
        clear hx
        go_wp2
        go_ret
        exact ⟨ret_bool (by rw [hc.out, ← HX.out]; rfl), rfl⟩
      · have hy : ¬ ((⟨#[107, 103, 115, 43, 45, 112, 74, 90, 65, 82, 87, 78, 84, 89, 88]⟩ : ByteArray)[11].toNat : Int) = c := hx
        have HX : Hid (¬ (78 : Int) = c) := hx
        clear hx
        go_wp2
        go_round
        case rel => exact ⟨12, by omega, by go_num, ops_next 11 78 c rfl HX.out hc.out⟩
        case measure => simp [intOf]
    · by_cases hx : (84 : Int) = c
      · have hy : ((⟨#[107, 103, 115, 43, 45, 112, 74, 90, 65, 82, 87, 78, 84, 89, 88]⟩ : ByteArray)[12].toNat : Int) = c := hx
        have HX : Hid ((84 : Int) = c) := hx
        clear hx
        go_wp2
        go_ret
        exact ⟨ret_bool (by rw [hc.out, ← HX.out]; rfl), rfl⟩
      · have hy : ¬ ((⟨#[107, 103, 115, 43, 45, 112, 74, 90, 65, 82, 87, 78, 84, 89, 88]⟩ : ByteArray)[12].toNat : Int) = c := hx
        have HX : Hid (¬ (84 : Int) = c) := hx
        clear hx
        go_wp2
        go_round
        case rel => exact ⟨13, by omega, by go_num, ops_next 12 84 c rfl HX.out hc.out⟩
        case measure => simp [intOf]
    · by_cases hx : (89 : Int) = c
      · have hy : ((⟨#[107, 103, 115, 43, 45, 112, 74, 90, 65, 82, 87, 78, 84, 89, 88]⟩ : ByteArray)[13].toNat : Int) = c := hx
        have HX : Hid ((89 : Int) = c) := hx
        clear hx
        go_wp2
        go_ret
        exact ⟨ret_bool (by rw [hc.out, ← HX.out]; rfl), rfl⟩
      · have hy : ¬ ((⟨#[107, 103, 115, 43, 45, 112, 74, 90, 65, 82, 87, 78, 84, 89, 88]⟩ : ByteArray)[13].toNat : Int) = c := hx
        have HX : Hid (¬ (89 : Int) = c) := hx
        clear hx
        go_wp2
        go_round
        case rel => exact ⟨14, by omega, by go_num, ops_next 13 89 c rfl HX.out hc.out⟩
        case measure => simp [intOf]
    · by_cases hx : (88 : Int) = c
      · have hy : ((⟨#[107, 103, 115, 43, 45, 112, 74, 90, 65, 82, 87, 78, 84, 89, 88]⟩ : ByteArray)[14].toNat : Int) = c := hx
        have HX : Hid ((88 : Int) = c) := hx
        clear hx
        go_wp2
        go_ret
        exact ⟨ret_bool (by rw [hc.out, ← HX.out]; rfl), rfl⟩
      · have hy : ¬ ((⟨#[107, 103, 115, 43, 45, 112, 74, 90, 65, 82, 87, 78, 84, 89, 88]⟩ : ByteArray)[14].toNat : Int) = c := hx
        have HX : Hid (¬ (88 : Int) = c) := hx
        clear hx
        go_wp2
        go_round
        case rel => exact ⟨15, by omega, by go_num, ops_next 14 88 c rfl HX.out hc.out⟩
        case measure => simp [intOf]
    · go_wp2
      go_ret
      exact ⟨ret_bool (by rw [hc.out]; rfl), rfl⟩

/-- A row of integers, owned. -/
def IntsAt (w : World) (v : Value) (r : List Int) : Prop := w.ownsRow 0 3 1 v r.length (r.map (Value.int .i64))
theorem IntsAt.view {w : World} {v : Value} {r : List Int} (h : IntsAt w v r) : (v = .slice none 0 0 ∧ r = []) ∨
    ∃ g cap, v = .slice (some ⟨g, 0, none⟩) r.length cap ∧ g < w.heap.size ∧ ∀ k x, r[k]? = some x → w.cell? ⟨g, k, none⟩ = some (.int .i64 x) := by
  rcases h.2 with ⟨rfl, h0⟩ | ⟨g, cap, cur, hv, _, hg, _, _, hs, ht⟩
  · exact .inl ⟨rfl, List.eq_nil_of_length_eq_zero h0⟩
  · refine .inr ⟨g, cap, hv, (Array.getElem?_eq_some_iff.1 hg).1, fun k x hk => ?_⟩
    rw [cell_of_row w g k cur _ (0, 0) hg]
    have h1 : (r.map (Value.int .i64))[k]? = some (.int .i64 x) := by simp [hk]
    rw [← ht, List.getElem?_take] at h1
    split at h1
    · simpa using h1
    · cases h1
theorem IntsAt.below {w w' : World} {v : Value} {r : List Int} (h : IntsAt w v r) (hb : Below w.heap.size w w') : IntsAt w' v r := by
  refine ⟨h.1, ?_⟩
  rcases h.2 with h2 | ⟨g, cap, cur, hv, hb0, hg, rest⟩
  · exact .inl h2
  · exact .inr ⟨g, cap, cur, hv, hb0, by rw [hb.block g (Array.getElem?_eq_some_iff.1 hg).1]; exact hg, rest⟩
theorem IntsAt.drewN {w : World} {v : Value} {r : List Int} (h : IntsAt w v r) (n : Nat) : IntsAt (w.drewN n) v r := h

theorem hasL_drop {r : List Int} {a : Int} {k : Nat} {x : Int} (h : r[k]? = some x) : hasL (r.drop k) a = (x == a || hasL (r.drop (k + 1)) a) := by
  obtain ⟨hk, rfl⟩ := List.getElem?_eq_some_iff.1 h
  rw [List.drop_eq_getElem_cons hk]
  simp only [hasL, List.contains_cons, BEq.comm]

set_option maxHeartbeats 400000 in
theorem r_holds (v : Value) (r : List Int) (a : Int) (w : World) (hv : IntsAt w v r) (hl : r.length ≤ 4) :
    Calls Tryz.prog 75 #[v, .int .i64 a] w fun e w' => e = .returned (.bool (hasL r a)) ∧ w' = w := by
  rcases hv.view with ⟨rfl, rfl⟩ | ⟨g, cap, rfl, hg, hc⟩
  · clear hv
    go_enter Tryz.func75, Tryz.ntmps75
    go_wp2
    refine wp_loop_rounds 1 ?_; rw [rounds_succ]
    go_wp2
    go_ret
    exact ⟨rfl, rfl⟩
  · clear hv
    have HC : Hid (∀ k x, r[k]? = some x → w.cell? ⟨g, k, none⟩ = some (.int .i64 x)) := hc
    clear hc
    go_enter Tryz.func75, Tryz.ntmps75
    go_wp2
    go_loop [5] (fun i => ∃ k : Nat, k ≤ r.length ∧ i = .int .i64 k ∧ Hid (hasL r a = hasL (r.drop k) a)) (fun i => r.length - (intOf i).toNat)
    case atStart => exact ⟨0, by omega, rfl, rfl⟩
    case round =>
      obtain ⟨k, hk, rfl, hh⟩ := hrel
      by_cases hlt : k < r.length
      · obtain ⟨x, hx⟩ : ∃ x, r[k]? = some x := ⟨r[k], by simp [hlt]⟩
        have hcell := HC.out k x hx
        have hs := hasL_drop (a := a) hx
        have HS : Hid (hasL r a = (x == a || hasL (r.drop (k + 1)) a)) := by rw [hh.out]; exact hs
        clear hs hx hh
        cases hxa : (x == a) with
        | true =>
          go_wp2
          go_ret
          exact ⟨ret_bool (by rw [HS.out, hxa]; rfl), rfl⟩
        | false =>
          go_wp2
          go_round
          case rel => exact ⟨k + 1, by omega, by go_num, by rw [HS.out, hxa]; rfl⟩
          case measure => simp [intOf]; omega
      · go_wp2
        go_ret
        exact ⟨ret_bool (by rw [hh.out, List.drop_of_length_le (by omega)]; rfl), rfl⟩

end Go.Proofs.YtjbmflgamogefabGreat
