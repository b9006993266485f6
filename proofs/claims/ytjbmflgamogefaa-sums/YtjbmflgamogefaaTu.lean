/- greenlaw's two, three and Sums. -/
import Derived.Test.YtjbmflgamogefaaTg
import Derived.Test.YtjbmflgamogefaaCr
import Derived.Laws.BytesArg
import Derived.Laws.Strings
namespace Go.Proofs.Ytjbmflgamogefaa
open Go.RowKit

theorem news_cellU {w : World} {cs : Array Value} {t : TypeId} (i : Nat) : (w.alloc (.cells cs t)).cell? ⟨w.heap.size, i, none⟩ = cs[i]? := cell_of_row _ _ i _ _ _ (heap_alloc_new w _)
set_option maxHeartbeats 1000000 in
theorem l_three (v : Int) (w : World) (h0 : 0 ≤ v) (h1 : v < 1000) :
    Calls Try.prog 18 #[.int .i64 v] w fun e w' => e = .returned (.string (strOf (dig3 v))) ∧ Below w.heap.size w w' := by
  have d1 : v.tdiv 100 = v / 100 := Int.tdiv_eq_ediv_of_nonneg h0
  have d2 : v.tdiv 10 = v / 10 := Int.tdiv_eq_ediv_of_nonneg h0
  have d3 : v.tmod 10 = v % 10 := Int.tmod_eq_emod_of_nonneg h0
  have d4 : (v / 10).tmod 10 = v / 10 % 10 := Int.tmod_eq_emod_of_nonneg (by omega)
  have hc := run_convert_bytes_arg (P := Try.prog) (w.alloc (.cells #[.int .u8 (48 + v / 100), .int .u8 (48 + v / 10 % 10), .int .u8 (48 + v % 10)] 5)) 60 5 Try.underlying60 Try.underlying5 w.heap.size 0 3 3 (dig3 v) rfl (fun i hi => by
    rw [Nat.zero_add, news_cellU]
    match i, hi with
    | 0, _ => rfl
    | 1, _ => rfl
    | 2, _ => rfl) 9 Try.underlying9
  rw [show strOfNums (dig3 v) = strOf (dig3 v) from rfl] at hc
  go_enter Try.func18, Try.ntmps18
  go_wp2
  go_ret
  exact ⟨rfl, (Below.refl _ _).alloc (Nat.le_refl _) _⟩
def dig2 (v : Int) : List Int := [48 + v / 10, 48 + v % 10]
set_option maxHeartbeats 1000000 in
theorem l_two (a : Int) (w : World) :
    Calls Try.prog 17 #[.int .i64 a] w fun e w' => ∃ v, 0 ≤ v ∧ v < 100 ∧ e = .returned (.tuple #[.string (strOf (dig2 v)), .int .i64 v]) ∧ Below w.heap.size w w' := by
  have hb : -100 < a.tmod 100 ∧ a.tmod 100 < 100 := by
    rcases Int.lt_or_le a 0 with h | h
    · have e : a.tmod 100 = -((-a).tmod 100) := by rw [Int.neg_tmod, Int.neg_neg]
      have := Int.tmod_eq_emod_of_nonneg (a := -a) (b := 100) (by omega)
      omega
    · have := Int.tmod_eq_emod_of_nonneg (a := a) (b := 100) h
      omega
  generalize hv : a.tmod 100 = t at *
  have HC : Hid (∀ v : Int, 0 ≤ v → v < 100 → _) := fun v _ _ => run_convert_bytes_arg (P := Try.prog) (w.alloc (.cells #[.int .u8 (48 + v / 10), .int .u8 (48 + v % 10)] 5)) 60 5 Try.underlying60 Try.underlying5 w.heap.size 0 2 2 (dig2 v) rfl (fun i hi => by
    rw [Nat.zero_add, news_cellU]
    match i, hi with
    | 0, _ => rfl
    | 1, _ => rfl) 9 Try.underlying9
  by_cases hn : t < 0
  · have hc := HC.out (-t) (by omega) (by omega)
    rw [show strOfNums (dig2 (-t)) = strOf (dig2 (-t)) from rfl] at hc
    have d1 : (-t).tdiv 10 = -t / 10 := Int.tdiv_eq_ediv_of_nonneg (by omega)
    have d2 : (-t).tmod 10 = -t % 10 := Int.tmod_eq_emod_of_nonneg (by omega)
    clear HC
    go_enter Try.func17, Try.ntmps17
    go_wp2
    go_ret2
    exact ⟨-t, by omega, by omega, rfl, (Below.refl _ _).alloc (Nat.le_refl _) _⟩
  · have hc := HC.out t (by omega) (by omega)
    rw [show strOfNums (dig2 t) = strOf (dig2 t) from rfl] at hc
    have d1 : t.tdiv 10 = t / 10 := Int.tdiv_eq_ediv_of_nonneg (by omega)
    have d2 : t.tmod 10 = t % 10 := Int.tmod_eq_emod_of_nonneg (by omega)
    clear HC
    go_enter Try.func17, Try.ntmps17
    go_wp2
    go_ret2
    exact ⟨t, by omega, by omega, rfl, (Below.refl _ _).alloc (Nat.le_refl _) _⟩

theorem strOf_app (a b : List Int) : strOf a ++ strOf b = strOf (a ++ b) := by
  have h : (strOf a ++ strOf b).data = (strOf (a ++ b)).data := by
    simp [strOf, ByteArray.data_append]
  cases h1 : strOf a ++ strOf b
  cases h2 : strOf (a ++ b)
  rw [h1, h2] at h
  simp only at h
  rw [h]
theorem dig2_ok {v : Int} (h0 : 0 ≤ v) (h1 : v < 100) : isDig (48 + v / 10) = true ∧ isDig (48 + v % 10) = true ∧ 10 * (48 + v / 10 - 48) + (48 + v % 10 - 48) = v := by
  simp only [isDig, Bool.and_eq_true, decide_eq_true_eq]
  omega
def sumTx (x y z : Int) : List Int := sumT (48 + x / 10) (48 + x % 10) (48 + y / 10) (48 + y % 10) z
theorem sumTx_bytes {x y z : Int} (hx : 0 ≤ x ∧ x < 100) (hy : 0 ≤ y ∧ y < 100) (hz : 0 ≤ z ∧ z < 256) : ∀ b ∈ sumTx x y z, 0 ≤ b ∧ b < 256 := by
  intro b hb
  simp only [sumTx, sumT, List.mem_cons, List.not_mem_nil, or_false] at hb
  omega
/-- The text, piece by piece. -/
theorem sum_text (x y : Int) : ∃ B1 B2 B3 B4 B5 B6 B7 B8 : ByteArray,
    (⟨#[107]⟩ : ByteArray) ++ strOf (dig2 x) = B1 ∧ B1 ++ ⟨#[107]⟩ = B2 ∧ B2 ++ strOf (dig2 y) = B3 ∧ B3 ++ ⟨#[43, 48, 48, 112, 48, 48, 107]⟩ = B4 ∧ B4 ++ strOf (dig2 x) = B5 ∧ B5 ++ ⟨#[107]⟩ = B6 ∧ B6 ++ strOf (dig2 y) = B7 ∧ B7 ++ ⟨#[45, 48, 48, 115, 48, 51, 103, 48, 51, 112, 48, 48, 90, 48, 48]⟩ = strOf (sumTx x y 90) ∧ (strOf (sumTx x y 90)).extract 0 30 = B8 ∧ B8 ++ ⟨#[88, 48, 48]⟩ = strOf (sumTx x y 88) ∧ B1.size = 3 ∧ B2.size = 4 ∧ B3.size = 6 ∧ B4.size = 13 ∧ B5.size = 15 ∧ B6.size = 16 ∧ B7.size = 18 ∧ B8.size = 30 := by
  refine ⟨strOf ([107] ++ dig2 x), strOf ([107] ++ dig2 x ++ [107]), strOf ([107] ++ dig2 x ++ [107] ++ dig2 y), strOf ([107] ++ dig2 x ++ [107] ++ dig2 y ++ [43, 48, 48, 112, 48, 48, 107]), strOf ([107] ++ dig2 x ++ [107] ++ dig2 y ++ [43, 48, 48, 112, 48, 48, 107] ++ dig2 x), strOf ([107] ++ dig2 x ++ [107] ++ dig2 y ++ [43, 48, 48, 112, 48, 48, 107] ++ dig2 x ++ [107]), strOf ([107] ++ dig2 x ++ [107] ++ dig2 y ++ [43, 48, 48, 112, 48, 48, 107] ++ dig2 x ++ [107] ++ dig2 y), strOf ((sumTx x y 90).take 30), ?_, ?_, ?_, ?_, ?_, ?_, ?_, ?_, ?_, ?_, ?_, ?_, ?_, ?_, ?_, ?_, ?_, ?_⟩
  · exact strOf_app [107] _
  · exact strOf_app _ [107]
  · exact strOf_app _ _
  · exact strOf_app _ [43, 48, 48, 112, 48, 48, 107]
  · exact strOf_app _ _
  · exact strOf_app _ [107]
  · exact strOf_app _ _
  · exact (strOf_app _ [45, 48, 48, 115, 48, 51, 103, 48, 51, 112, 48, 48, 90, 48, 48]).trans rfl
  · have h := strOf_extract ((sumTx x y 90).take 30) ((sumTx x y 90).drop 30)
    rw [List.take_append_drop] at h
    exact h
  · exact (strOf_app _ [88, 48, 48]).trans rfl
  all_goals rw [strOf_size]; simp [dig2, sumTx, sumT]
theorem sum_given {x y : Int} (hx : 0 ≤ x ∧ x < 100) (hy : 0 ≤ y ∧ y < 100) : CheckRel (bytesOf (strOf (sumTx x y 90))) (5, 30) ∧ CheckRel (bytesOf (strOf (sumTx x y 88))) (0, 0) ∧ parse (bytesOf (strOf (sumTx x y 88))) = .inr [(0, sumI x y 88)] := by
  obtain ⟨a1, a2, a3⟩ := dig2_ok hx.1 hx.2
  obtain ⟨b1, b2, b3⟩ := dig2_ok hy.1 hy.2
  rw [bytes_strOf (sumTx_bytes hx hy (by decide)), bytes_strOf (sumTx_bytes hx hy (by decide))]
  refine ⟨sum_checkZ a1 a2 b1 b2, sum_checkX a1 a2 b1 b2, ?_⟩
  have h := sum_parse (z := 88) a1 a2 b1 b2 rfl
  rw [a3, b3] at h
  exact h

set_option maxRecDepth 100000 in
set_option maxHeartbeats 4000000 in
theorem l_Sums (a b q : Int) (w : World) :
    Calls Try.prog 5 #[.int .i64 a, .int .i64 b, .int .i64 q] w fun e w' => e = .returned (.bool true) ∧ Below w.heap.size w w' := by
  have HTW := hide (fun a W => l_two a W)
  go_enter Try.func5, Try.ntmps5
  go_wp2_with fail
  refine (HTW.out a _).mono ?_
  rintro e w1 ⟨x, hx0, hx1, rfl, hb1⟩
  have B1 := hide hb1
  clear hb1
  go_wp2_with fail
  refine (HTW.out b _).mono ?_
  rintro e w2 ⟨y, hy0, hy1, rfl, hb2⟩
  have B2 := hide (B1.out.trans (hb2.mono B1.out.size))
  clear hb2 B1 HTW
  obtain ⟨A1, A2, A3, A4, A5, A6, A7, A8, c1, c2, c3, c4, c5, c6, c7, c8, c9, c10, z1, z2, z3, z4, z5, z6, z7, z8⟩ := sum_text x y
  obtain ⟨k1, k2, k3⟩ := sum_given ⟨hx0, hx1⟩ ⟨hy0, hy1⟩
  have zd1 : (strOf (dig2 x)).size = 2 := by rw [strOf_size]; rfl
  have zd2 : (strOf (dig2 y)).size = 2 := by rw [strOf_size]; rfl
  have s1 : (strOf (sumTx x y 90)).size = 33 := by rw [strOf_size]; rfl
  have s2 : (strOf (sumTx x y 88)).size = 33 := by rw [strOf_size]; rfl
  have m1 : (strOf (sumTx x y 90)).size ≤ maxLen := by rw [s1]; decide
  have m2 : (strOf (sumTx x y 88)).size ≤ maxLen := by rw [s2]; decide
  have HCK : Hid (∀ W, Calls Try.prog 10 #[.string (strOf (sumTx x y 90))] W fun e w' => e = .returned (.tuple #[.int .i64 5, .int .i64 30]) ∧ Below W.heap.size W w') := fun W => (g_Check _ W m1).mono (by
    rintro e w' ⟨r, hr, rfl, hb⟩
    have := hr.unique k1
    subst this
    exact ⟨rfl, hb⟩)
  have HIN : Hid (1 ≤ q → q ≤ 9 → ∀ W, Calls Try.prog 13 #[.string (strOf (sumTx x y 88)), .int .i64 q, .int .i64 11] W fun e w' => ∃ la lc x2 x4 x5, e = .returned (.agg #[.string (strOf (dig3 ((x + y) % 1000) ++ dig3 ((x - y + 1000) % 1000))), .string x2, .string (strOf [68]), .string x4, .string x5, .slice la 8 lc, .bool true]) ∧ (∃ b o, la = some ⟨b, o, none⟩ ∧ b < w'.heap.size ∧ w'.cell? ⟨b, o + 3, none⟩ = some (.int .i64 ((x - y + 1000) % 1000))) ∧ Below W.heap.size W w') := fun h1 h9 W => by
    refine (view_ok (w := W) (n := 11) (q := q) (cs := [(0, sumI x y 88)]) m2 ⟨(0, 0), k2, .inr (.inr ⟨rfl, ⟨h1, h9, by decide, by decide⟩, rfl⟩)⟩ k3).mono ?_
    rintro e w' ⟨la, lc, he, ⟨g, hs⟩, hb⟩
    have e0 : playM (codesOf [(0, sumI x y 88)]) ([(0, sumI x y 88)] : Cods).length q.toNat (11 : Int).toNat = playM (sumJ x y) 1 q.toNat 11 := rfl
    rw [e0] at he hs
    obtain ⟨p1, p2, p3⟩ := sum_play x y q.toNat (by omega) (by omega)
    have p4 : stsL ([(0, sumI x y 88)] : Cods).length (playM (sumJ x y) 1 q.toNat 11) = [68] := by
      show [((playM (sumJ x y) 1 q.toNat 11).th 0).sta] = [68]
      rw [p2]
    rw [p1, p4] at he
    obtain ⟨b, o, h2, _, h4, h5⟩ := hs.cell (j := 3) (x := (playM (sumJ x y) 1 q.toNat 11).cells 3) rfl
    rw [p3] at h5
    exact ⟨la, lc, _, _, _, he, ⟨b, o, h2, h4, h5⟩, hb⟩
  have HOUT : Hid (¬ (1 ≤ q ∧ q ≤ 9) → ∀ W, Calls Try.prog 13 #[.string (strOf (sumTx x y 88)), .int .i64 q, .int .i64 11] W fun e w' => ∃ la ln lc, e = .returned (.agg #[.string ByteArray.empty, .string ByteArray.empty, .string ByteArray.empty, .string ByteArray.empty, .string ByteArray.empty, .slice la ln lc, .bool false]) ∧ Below W.heap.size W w') := fun hn W => by
    refine (l_view _ q 11 W m2).mono ?_
    rintro e w' ⟨⟨r, lv, h1, h2⟩, hb⟩
    have hr : GivenRel (bytesOf (strOf (sumTx x y 88))) q 11 (8, 0) := ⟨(0, 0), k2, .inr (.inl ⟨rfl, fun hi => hn ⟨hi.1, hi.2.1⟩, rfl⟩)⟩
    obtain rfl := hr.unique h1
    rcases h2 with ⟨_, h4, g, h5⟩ | ⟨h3, _⟩
    · obtain ⟨la, ln, lc, rfl⟩ := h5.slice'
      exact ⟨la, ln, lc, h4, hb⟩
    · simp at h3
  have HD := hide (And.intro (strOf_app (dig3 ((x + y) % 1000)) (dig3 ((x - y + 1000) % 1000))) (show (x + y) % 1000 = x + y by omega))
  have HT3 := hide (fun v h0 h1 W => l_three v W h0 h1)
  generalize strOf (sumTx x y 90) = S90 at *
  generalize strOf (sumTx x y 88) = S88 at *
  generalize strOf (dig2 x) = D1 at *
  generalize strOf (dig2 y) = D2 at *
  clear k1 k2 k3 m1 m2
  go_wp2_with fail
  refine (HCK.out _).mono ?_
  rintro e w3 ⟨rfl, hb3⟩
  have B3 := hide (B2.out.trans (hb3.mono B2.out.size))
  clear hb3 B2 HCK
  go_wp2_with (go_at_call 12; refine (l_num0 _ _).mono ?_; rintro e w' ⟨rfl, rfl⟩)
  by_cases hq : 1 ≤ q ∧ q ≤ 9
  · obtain ⟨q1, q9⟩ := hq
    have V1 := hide (HIN.out q1 q9)
    have hd1 := (show 0 ≤ (x - y + 1000) % 1000 ∧ (x - y + 1000) % 1000 < 1000 by omega)
    have hm1 : (x - y + 1000).tmod 1000 = (x - y + 1000) % 1000 := Int.tmod_eq_emod_of_nonneg (by omega)
    have T1 := hide (HT3.out (x + y) (by omega) (by omega))
    have T2 := hide (HT3.out ((x - y + 1000) % 1000) hd1.1 hd1.2)
    obtain ⟨hc, hxy⟩ := HD.out
    rw [hxy] at V1 hc
    clear HIN HOUT HT3 HD hxy
    generalize (x - y + 1000) % 1000 = d at *
    have hz3 : (strOf (dig3 (x + y))).size = 3 := by rw [strOf_size]; rfl
    have hz4 : (strOf (dig3 d)).size = 3 := by rw [strOf_size]; rfl
    generalize strOf (dig3 (x + y) ++ dig3 d) = OU at *
    generalize strOf (dig3 (x + y)) = O1 at *
    generalize strOf (dig3 d) = O2 at *
    refine (V1.out _).mono ?_
    rintro e w4 ⟨la, lc, x2, x4, x5, rfl, ⟨gb, go, rfl, hgl, hgc⟩, hb4⟩
    have B4 := hide (B3.out.trans (hb4.mono B3.out.size))
    clear hb4 B3 V1
    obtain ⟨wV, hwV⟩ : ∃ wV, wV = w4.alloc (.cells #[.string OU, .string x2, .string (strOf [68]), .string x4, .string x5, .slice (some ⟨gb, go, none⟩) 8 lc, .bool true] 31) := ⟨_, rfl⟩
    have BV : Hid (Below w.heap.size w wV) := by rw [hwV]; exact B4.out.alloc B4.out.size _
    have b5 : Below w4.heap.size w4 wV := by rw [hwV]; exact (Below.refl w4.heap.size w4).alloc (Nat.le_refl _) _
    have SB : Hid (∀ W, Below wV.heap.size wV W → Below wV.heap.size wV W ∧ W.cell? ⟨w4.heap.size, 0, none⟩ = some (.string OU) ∧ W.cell? ⟨w4.heap.size, 2, none⟩ = some (.string (strOf [68])) ∧ W.cell? ⟨w4.heap.size, 5, none⟩ = some (.slice (some ⟨gb, go, none⟩) 8 lc) ∧ W.cell? ⟨w4.heap.size, 6, none⟩ = some (.bool true) ∧ W.cell? ⟨gb, go + 3, none⟩ = some (.int .i64 d)) := fun W hb => by
      have hl : w4.heap.size < wV.heap.size := by rw [hwV]; simp
      refine ⟨hb, ?_, ?_, ?_, ?_, ?_⟩
      · rw [hb.cell (p := ⟨w4.heap.size, 0, none⟩) hl, hwV, cell_of_row _ _ 0 _ _ _ (heap_alloc_new w4 _)]; rfl
      · rw [hb.cell (p := ⟨w4.heap.size, 2, none⟩) hl, hwV, cell_of_row _ _ 2 _ _ _ (heap_alloc_new w4 _)]; rfl
      · rw [hb.cell (p := ⟨w4.heap.size, 5, none⟩) hl, hwV, cell_of_row _ _ 5 _ _ _ (heap_alloc_new w4 _)]; rfl
      · rw [hb.cell (p := ⟨w4.heap.size, 6, none⟩) hl, hwV, cell_of_row _ _ 6 _ _ _ (heap_alloc_new w4 _)]; rfl
      · rw [hb.cell (p := ⟨gb, go + 3, none⟩) (by show gb < wV.heap.size; omega), b5.cell (p := ⟨gb, go + 3, none⟩) hgl]; exact hgc
    go_wp2_with fail
    rw [← hwV]
    have hw : IntKind.i64.wrap (x + y) = x + y := wrap_small (by omega) (by omega)
    generalize hSX : x + y = SX at hw T1
    clear c1 c2 c3 c4 c5 c6 c7 c8 c9 c10 z1 z2 z3 z4 z5 z6 z7 z8 zd1 zd2 s1 s2 hx0 hx1 hy0 hy1 q1 q9 hm1 hgc hgl b5 hwV hd1
    go_region_held3 (fun W => Below wV.heap.size wV W ∧ W.cell? ⟨w4.heap.size, 0, none⟩ = some (.string OU) ∧ W.cell? ⟨w4.heap.size, 2, none⟩ = some (.string (strOf [68])) ∧ W.cell? ⟨w4.heap.size, 5, none⟩ = some (.slice (some ⟨gb, go, none⟩) 8 lc) ∧ W.cell? ⟨w4.heap.size, 6, none⟩ = some (.bool true) ∧ W.cell? ⟨gb, go + 3, none⟩ = some (.int .i64 d))
      ((refine SB.out _ ?_; first | exact keep_drew | exact keep_call (by assumption) (by assumption) | assumption))
      (first
        | (go_at_call_of 18 (Value.int IntKind.i64 d); refine (T2.out _).mono ?_; rintro e w' ⟨rfl, hb2⟩)
        | (go_at_call_of 18 (Value.int IntKind.i64 SX); refine (T1.out _).mono ?_; rintro e w' ⟨rfl, hb2⟩)
        | (go_at_call 18; rw [hSX, hw]; refine (T1.out _).mono ?_; rintro e w' ⟨rfl, hb2⟩))
    all_goals
      rename_i hheld
      have HBF := hide (BV.out.trans (hheld.1.mono BV.out.size))
      have e68 : ((strOf [68]).toList == [68]) = true := by rw [Go.ByteArray.toList_eq]; rfl
      clear hheld SB T1 T2
      go_wp2_with fail
      go_ret
      exact ⟨ret_bool e68, HBF.out⟩
  · have V1 := hide (HOUT.out hq)
    clear HIN HOUT HT3 HD
    refine (V1.out _).mono ?_
    rintro e w4 ⟨la, ln, lc, rfl, hb4⟩
    have B4 := hide (B3.out.trans (hb4.mono B3.out.size))
    have B5 : Hid (∀ o, Below w.heap.size w (w4.alloc o)) := fun o => B4.out.alloc B4.out.size o
    clear hb4 B3 V1 B4
    by_cases h1 : q < 1
    · go_wp2_with fail
      go_ret
      exact ⟨rfl, B5.out _⟩
    · have h9 : 9 < q := by omega
      go_wp2_with fail
      go_ret
      exact ⟨rfl, B5.out _⟩

end Go.Proofs.Ytjbmflgamogefaa
