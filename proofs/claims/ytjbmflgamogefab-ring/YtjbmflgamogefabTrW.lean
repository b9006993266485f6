/- greenlaw's Ring, walked over its callees' contracts. -/
import Derived.Test.YtjbmflgamogefabMm
import Derived.Test.YtjbmflgamogefabCr
import Derived.Test.YtjbmflgamogefabMem
import Derived.Laws.BytesArg
import Derived.Laws.Strings
import Derived.Laws.BitsLemmas
import Derived.Deep.Cut
namespace Go.Proofs.Ytjbmflgamogefab
open Go.RowKit

theorem news_cellR {w : World} {cs : Array Value} {t : TypeId} (i : Nat) : (w.alloc (.cells cs t)).cell? ⟨w.heap.size, i, none⟩ = cs[i]? := cell_of_row _ _ i _ _ _ (heap_alloc_new w _)
theorem and3 (n : Int) : bits .and .i64 n 3 = n % 4 := by
  have h3 : (BitVec.ofInt 64 3).toNat = 2 ^ 2 - 1 := by decide
  have key : (BitVec.ofInt 64 n &&& BitVec.ofInt 64 3).toNat = (n % ((2 ^ 64 : Nat) : Int)).toNat % 2 ^ 2 := by
    rw [BitVec.toNat_and, BitVec.toNat_ofInt, h3, Nat.and_two_pow_sub_one_eq_mod]
  show IntKind.i64.wrap ((BitVec.ofInt 64 n &&& BitVec.ofInt 64 3).toNat : Nat) = n % 4
  rw [key, IntKind.wrap_i64]
  omega
theorem wrap_u8R {n : Int} (h : 0 ≤ n) (h' : n < 256) : IntKind.u8.wrap n = n := by
  simp only [IntKind.wrap_u8]; omega
def dgR (x : Nat) : List Int := [48, 48 + (x : Int)]
theorem strOf_appR (a b : List Int) : strOf a ++ strOf b = strOf (a ++ b) := by
  have h : (strOf a ++ strOf b).data = (strOf (a ++ b)).data := by
    simp [strOf, ByteArray.data_append]
  cases h1 : strOf a ++ strOf b
  cases h2 : strOf (a ++ b)
  rw [h1, h2] at h
  simp only at h
  rw [h]
theorem strOf_sizeR (l : List Int) : (strOf l).size = l.length := by simp [strOf, ByteArray.size]
/-- The texts, piece by piece. -/
theorem ring_text (x y : Nat) : ∃ B1 B2 B3 B4 B5 B6 B7 B8 B9 BA BB BC BD BE BF : ByteArray,
    (⟨#[65]⟩ : ByteArray) ++ strOf (dgR x) = B1 ∧ B1 ++ ⟨#[65]⟩ = B2 ∧ B2 ++ strOf (dgR y) = B3 ∧ B3 ++ ⟨#[82]⟩ = B4 ∧ B4 ++ strOf (dgR y) = B5 ∧ B5 ++ ⟨#[82]⟩ = B6 ∧ B6 ++ strOf (dgR x) = B7 ∧ B7 ++ ⟨#[88, 48, 48, 124, 65]⟩ = B8 ∧ B8 ++ strOf (dgR y) = B9 ∧ B9 ++ ⟨#[65]⟩ = BA ∧ BA ++ strOf (dgR x) = BB ∧ BB ++ ⟨#[82]⟩ = BC ∧ BC ++ strOf (dgR x) = BD ∧ BD ++ ⟨#[82]⟩ = BE ∧ BE ++ strOf (dgR y) = BF ∧ BF ++ ⟨#[88, 48, 48]⟩ = strOf (ringT x y) ∧ B1.size = 3 ∧ B2.size = 4 ∧ B3.size = 6 ∧ B4.size = 7 ∧ B5.size = 9 ∧ B6.size = 10 ∧ B7.size = 12 ∧ B8.size = 17 ∧ B9.size = 19 ∧ BA.size = 20 ∧ BB.size = 22 ∧ BC.size = 23 ∧ BD.size = 25 ∧ BE.size = 26 ∧ BF.size = 28 ∧ (strOf (ringT x y)).size = 31 := by
  refine ⟨strOf ((ringT x y).take 3), strOf ((ringT x y).take 4), strOf ((ringT x y).take 6), strOf ((ringT x y).take 7), strOf ((ringT x y).take 9), strOf ((ringT x y).take 10), strOf ((ringT x y).take 12), strOf ((ringT x y).take 17), strOf ((ringT x y).take 19), strOf ((ringT x y).take 20), strOf ((ringT x y).take 22), strOf ((ringT x y).take 23), strOf ((ringT x y).take 25), strOf ((ringT x y).take 26), strOf ((ringT x y).take 28), ?_, ?_, ?_, ?_, ?_, ?_, ?_, ?_, ?_, ?_, ?_, ?_, ?_, ?_, ?_, ?_, ?_, ?_, ?_, ?_, ?_, ?_, ?_, ?_, ?_, ?_, ?_, ?_, ?_, ?_, ?_, ?_⟩
  · exact (strOf_appR [65] _).trans rfl
  · exact (strOf_appR _ [65]).trans rfl
  · exact (strOf_appR _ _).trans rfl
  · exact (strOf_appR _ [82]).trans rfl
  · exact (strOf_appR _ _).trans rfl
  · exact (strOf_appR _ [82]).trans rfl
  · exact (strOf_appR _ _).trans rfl
  · exact (strOf_appR _ [88, 48, 48, 124, 65]).trans rfl
  · exact (strOf_appR _ _).trans rfl
  · exact (strOf_appR _ [65]).trans rfl
  · exact (strOf_appR _ _).trans rfl
  · exact (strOf_appR _ [82]).trans rfl
  · exact (strOf_appR _ _).trans rfl
  · exact (strOf_appR _ [82]).trans rfl
  · exact (strOf_appR _ _).trans rfl
  · exact (strOf_appR _ [88, 48, 48]).trans rfl
  all_goals rw [strOf_sizeR]; simp [ringT]
theorem one_text (x : Nat) : ∃ B1 B2 B3 B4 B5 B6 B7 : ByteArray,
    (⟨#[65]⟩ : ByteArray) ++ strOf (dgR x) = B1 ∧ B1 ++ ⟨#[65]⟩ = B2 ∧ B2 ++ strOf (dgR x) = B3 ∧ B3 ++ ⟨#[82]⟩ = B4 ∧ B4 ++ strOf (dgR x) = B5 ∧ B5 ++ ⟨#[82]⟩ = B6 ∧ B6 ++ strOf (dgR x) = B7 ∧ B7 ++ ⟨#[88, 48, 48]⟩ = strOf (oneT x) ∧ B1.size = 3 ∧ B2.size = 4 ∧ B3.size = 6 ∧ B4.size = 7 ∧ B5.size = 9 ∧ B6.size = 10 ∧ B7.size = 12 ∧ (strOf (oneT x)).size = 15 := by
  refine ⟨strOf ((oneT x).take 3), strOf ((oneT x).take 4), strOf ((oneT x).take 6), strOf ((oneT x).take 7), strOf ((oneT x).take 9), strOf ((oneT x).take 10), strOf ((oneT x).take 12), ?_, ?_, ?_, ?_, ?_, ?_, ?_, ?_, ?_, ?_, ?_, ?_, ?_, ?_, ?_, ?_⟩
  · exact (strOf_appR [65] _).trans rfl
  · exact (strOf_appR _ [65]).trans rfl
  · exact (strOf_appR _ _).trans rfl
  · exact (strOf_appR _ [82]).trans rfl
  · exact (strOf_appR _ _).trans rfl
  · exact (strOf_appR _ [82]).trans rfl
  · exact (strOf_appR _ _).trans rfl
  · exact (strOf_appR _ [88, 48, 48]).trans rfl
  all_goals rw [strOf_sizeR]; simp [oneT]
/-- What the view of the two tells with quantum 1. -/
def View1 (x y : Nat) (TR OW : ByteArray) : Prop := TR.size = 20 ∧ TR.extract 0 8 = ⟨#[48, 49, 48, 49, 45, 45, 45, 45]⟩ ∧ OW.size = 4 ∧ (∀ h : x < OW.size, ((OW[x]'h).toNat : Int) = 48) ∧ (∀ h : y < OW.size, ((OW[y]'h).toNat : Int) = 49)
/-- The callees' contracts. -/
structure RingC (q : Int) : Prop where
  check : ∀ x < 4, ∀ W, Calls Try.prog 9 #[.string (strOf (oneT (x : Nat)))] W fun e w' => e = .returned (.tuple #[.int .i64 6, .int .i64 3]) ∧ Below W.heap.size W w'
  num : ∀ (e : Int) W, Calls Try.prog 10 #[.int .i64 e] W fun x w' => x = .returned (.int .i64 e) ∧ w' = W
  begins : ∀ (x y : ByteArray) W, x.size ≤ 1000000 → y.size ≤ x.size → x.extract 0 y.size = y → Calls Try.prog 13 #[.string x, .string y] W fun e w' => e = .returned (.bool true) ∧ w' = W
  view1 : q = 1 → ∀ x < 4, ∀ y < 4, ¬ x = y → ∀ W, Calls Try.prog 11 #[.string (strOf (ringT (x : Nat) (y : Nat))), .int .i64 1, .int .i64 20] W fun e w' => ∃ la lc v0 TR OW, e = .returned (.agg #[.string v0, .string TR, .string (strOf [66, 66]), .string OW, .string (strOf [48, 51, 58, 48, 49, 32]), .slice la 8 lc, .bool true]) ∧ View1 x y TR OW ∧ Below W.heap.size W w'
  view4 : 4 ≤ q → q ≤ 9 → ∀ x < 4, ∀ y < 4, ¬ x = y → ∀ W, Calls Try.prog 11 #[.string (strOf (ringT (x : Nat) (y : Nat))), .int .i64 q, .int .i64 20] W fun e w' => ∃ la lc v0 TR, e = .returned (.agg #[.string v0, .string TR, .string (strOf [68, 68]), .string (strOf [45, 45, 45, 45]), .string (strOf []), .slice la 8 lc, .bool true]) ∧ Below W.heap.size W w'
  view2 : 1 ≤ q → q ≤ 9 → ∀ x < 4, ∀ y < 4, ¬ x = y → ∀ W, Calls Try.prog 11 #[.string (strOf (ringT (x : Nat) (y : Nat))), .int .i64 q, .int .i64 20] W fun e w' => ∃ la lc v0 v1 v2 v3 v4, e = .returned (.agg #[.string v0, .string v1, .string v2, .string v3, .string v4, .slice la 8 lc, .bool true]) ∧ Below W.heap.size W w'
  view0 : ¬ (1 ≤ q ∧ q ≤ 9) → ∀ x < 4, ∀ y < 4, ¬ x = y → ∀ W, Calls Try.prog 11 #[.string (strOf (ringT (x : Nat) (y : Nat))), .int .i64 q, .int .i64 20] W fun e w' => ∃ la ln lc, e = .returned (.agg #[.string ByteArray.empty, .string ByteArray.empty, .string ByteArray.empty, .string ByteArray.empty, .string ByteArray.empty, .slice la ln lc, .bool false]) ∧ Below W.heap.size W w'

set_option maxRecDepth 100000 in
set_option maxHeartbeats 4000000 in
theorem ring_walk (a b q : Int) (w : World) (HC : Hid (RingC q)) :
    Calls Try.prog 6 #[.int .i64 a, .int .i64 b, .int .i64 q] w fun e w' => e = .returned (.bool true) ∧ Below w.heap.size w w' := by
  obtain ⟨x, hx, hxa⟩ : ∃ x : Nat, x < 4 ∧ bits .and .i64 a 3 = (x : Int) := ⟨(a % 4).toNat, by omega, by rw [and3]; omega⟩
  obtain ⟨y, hy, hyb⟩ : ∃ y : Nat, y < 4 ∧ bits .and .i64 b 3 = (y : Int) := ⟨(b % 4).toNat, by omega, by rw [and3]; omega⟩
  have HCV : Hid (∀ (x : Nat) (w : World), _) := fun x w => run_convert_bytes_arg (P := Try.prog) (w.alloc (.cells #[.int .u8 48, .int .u8 (48 + (x : Int))] 5)) 34 5 Try.underlying34 Try.underlying5 w.heap.size 0 2 2 (dgR x) rfl (fun i hi => by
    rw [Nat.zero_add, news_cellR]
    match i, hi with
    | 0, _ => rfl
    | 1, _ => rfl) 9 Try.underlying9
  have hc1 := HCV.out x w
  rw [show strOfNums (dgR x) = strOf (dgR x) from rfl] at hc1
  go_enter Try.func6, Try.ntmps6
  go_upto_region 2 with fail
  obtain ⟨w1, hw1⟩ : ∃ w1, w1 = w.alloc (.cells #[.int .u8 48, .int .u8 (48 + (x : Int))] 5) := ⟨_, rfl⟩
  have B1 : Hid (Below w.heap.size w w1) := by rw [hw1]; exact (Below.refl _ _).alloc (Nat.le_refl _) _
  rw [← hw1]
  clear hw1 hc1
  have hc2 := HCV.out y w1
  rw [show strOfNums (dgR y) = strOf (dgR y) from rfl] at hc2
  clear HCV
  go_upto_region 3 with fail
  obtain ⟨w2, hw2⟩ : ∃ w2, w2 = w1.alloc (.cells #[.int .u8 48, .int .u8 (48 + (y : Int))] 5) := ⟨_, rfl⟩
  have B2 : Hid (Below w.heap.size w w2) := by rw [hw2]; exact B1.out.alloc B1.out.size _
  rw [← hw2]
  clear hw2 hc2 B1
  have zx : (strOf (dgR x)).size = 2 := by rw [strOf_sizeR]; rfl
  have zy : (strOf (dgR y)).size = 2 := by rw [strOf_sizeR]; rfl
  by_cases hxy : x = y
  · subst hxy
    have V := hide (HC.out.check x hx)
    have HN := hide HC.out.num
    obtain ⟨A1, A2, A3, A4, A5, A6, A7, c1, c2, c3, c4, c5, c6, c7, c8, z1, z2, z3, z4, z5, z6, z7, z8⟩ := one_text x
    generalize strOf (oneT x) = S at *
    generalize strOf (dgR x) = D1 at *
    clear HC
    go_wp2_with fail
    refine (V.out _).mono ?_
    rintro e w3 ⟨rfl, hb3⟩
    have B3 := hide (B2.out.trans (hb3.mono B2.out.size))
    clear hb3 B2 V
    go_wp2_with (go_at_call 10; refine (HN.out _ _).mono ?_; rintro e w' ⟨rfl, rfl⟩)
    go_ret
    exact ⟨rfl, B3.out⟩
  · have hxy1 : ((x : Int) == (y : Int)) = false := by simp; omega
    obtain ⟨A1, A2, A3, A4, A5, A6, A7, A8, A9, AA, AB, AC, AD, AE, AF, c1, c2, c3, c4, c5, c6, c7, c8, c9, ca, cb, cc, cd, ce, cf, cg, z1, z2, z3, z4, z5, z6, z7, z8, z9, za, zb, zc, zd, ze, zf, zg⟩ := ring_text x y
    have HV1 := hide (fun h => HC.out.view1 h x hx y hy hxy)
    have HV4 := hide (fun h h' => HC.out.view4 h h' x hx y hy hxy)
    have HV2 := hide (fun h h' => HC.out.view2 h h' x hx y hy hxy)
    have HV0 := hide (fun h => HC.out.view0 h x hx y hy hxy)
    have HBG := hide HC.out.begins
    generalize strOf (ringT x y) = S at *
    generalize strOf (dgR x) = D1 at *
    generalize strOf (dgR y) = D2 at *
    clear HC
    go_upto_region 7 with fail
    clear c1 c2 c3 c4 c5 c6 c7 c8 c9 ca cb cc cd ce cf cg z1 z2 z3 z4 z5 z6 z7 z8 z9 za zb zc zd ze zf zg zx zy hxy1
    by_cases hq : 1 ≤ q ∧ q ≤ 9
    · by_cases h1 : q = 1
      · subst h1
        have V := hide (HV1.out rfl)
        clear HV1 HV4 HV2 HV0
        go_wp2_with fail
        refine (V.out _).mono ?_
        rintro e w3 ⟨la, lc, v0, TR, OW, rfl, ⟨t1, t2, t3, t4, t5⟩, hb3⟩
        have B3 := hide (B2.out.trans (hb3.mono B2.out.size))
        clear hb3 B2 V
        have BG := hide (fun W => HBG.out TR ⟨#[48, 49, 48, 49, 45, 45, 45, 45]⟩ W (by omega) (by rw [t1]; decide) t2)
        clear HBG t1 t2
        obtain ⟨wV, hwV⟩ : ∃ wV, wV = w3.alloc (.cells #[.string v0, .string TR, .string (strOf [66, 66]), .string OW, .string (strOf [48, 51, 58, 48, 49, 32]), .slice la 8 lc, .bool true] 30) := ⟨_, rfl⟩
        have BV : Hid (Below w.heap.size w wV) := by rw [hwV]; exact B3.out.alloc B3.out.size _
        go_upto_region 11 with fail
        rw [← hwV]
        have v6 : wV.cell? ⟨w3.heap.size, 6, none⟩ = some (.bool true) := by rw [hwV, news_cellR]; rfl
        have v4 : wV.cell? ⟨w3.heap.size, 4, none⟩ = some (.string (strOf [48, 51, 58, 48, 49, 32])) := by rw [hwV, news_cellR]; rfl
        have v3 : wV.cell? ⟨w3.heap.size, 3, none⟩ = some (.string OW) := by rw [hwV, news_cellR]; rfl
        have v2 : wV.cell? ⟨w3.heap.size, 2, none⟩ = some (.string (strOf [66, 66])) := by rw [hwV, news_cellR]; rfl
        have v1 : wV.cell? ⟨w3.heap.size, 1, none⟩ = some (.string TR) := by rw [hwV, news_cellR]; rfl
        have e1 : ((strOf [48, 51, 58, 48, 49, 32]).toList == [48, 51, 58, 48, 49, 32]) = true := by rw [Go.ByteArray.toList_eq]; rfl
        have e2 : ((strOf [66, 66]).toList == [66, 66]) = true := by rw [Go.ByteArray.toList_eq]; rfl
        have hx' : x < OW.size := by omega
        have hy' : y < OW.size := by omega
        have a1 := t4 hx'
        have a2 := t5 hy'
        clear hwV t4 t5 hq hxy B3
        generalize strOf [48, 51, 58, 48, 49, 32] = L1 at *
        generalize strOf [66, 66] = L2 at *
        go_wp2_with (go_at_call 13; refine (BG.out _).mono ?_; rintro e w' ⟨rfl, h'⟩; replace h' := h'.symm; subst h')
        go_ret
        exact ⟨rfl, BV.out⟩
      · by_cases h4 : 4 ≤ q
        · have V := hide (HV4.out h4 hq.2)
          obtain ⟨q1, q9⟩ := hq
          have hq1 : (q == 1) = false := by simp [h1]
          clear HV1 HV4 HV2 HV0 HBG
          go_wp2_with fail
          refine (V.out _).mono ?_
          rintro e w3 ⟨la, lc, v0, TR, rfl, hb3⟩
          have B3 := hide (B2.out.trans (hb3.mono B2.out.size))
          clear hb3 B2 V
          obtain ⟨wV, hwV⟩ : ∃ wV, wV = w3.alloc (.cells #[.string v0, .string TR, .string (strOf [68, 68]), .string (strOf [45, 45, 45, 45]), .string (strOf []), .slice la 8 lc, .bool true] 30) := ⟨_, rfl⟩
          have BV : Hid (Below w.heap.size w wV) := by rw [hwV]; exact B3.out.alloc B3.out.size _
          go_upto_region 13 with fail
          rw [← hwV]
          have v6 : wV.cell? ⟨w3.heap.size, 6, none⟩ = some (.bool true) := by rw [hwV, news_cellR]; rfl
          have v4 : wV.cell? ⟨w3.heap.size, 4, none⟩ = some (.string (strOf [])) := by rw [hwV, news_cellR]; rfl
          have v3 : wV.cell? ⟨w3.heap.size, 3, none⟩ = some (.string (strOf [45, 45, 45, 45])) := by rw [hwV, news_cellR]; rfl
          have v2 : wV.cell? ⟨w3.heap.size, 2, none⟩ = some (.string (strOf [68, 68])) := by rw [hwV, news_cellR]; rfl
          have e1 : ((strOf []).toList == []) = true := by rw [Go.ByteArray.toList_eq]; rfl
          have e2 : ((strOf [68, 68]).toList == [68, 68]) = true := by rw [Go.ByteArray.toList_eq]; rfl
          have e3 : ((strOf [45, 45, 45, 45]).toList == [45, 45, 45, 45]) = true := by rw [Go.ByteArray.toList_eq]; rfl
          clear hwV hxy B3
          generalize strOf [] = L1 at *
          generalize strOf [68, 68] = L2 at *
          generalize strOf [45, 45, 45, 45] = L3 at *
          go_wp2_with fail
          go_ret
          exact ⟨rfl, BV.out⟩
        · have V := hide (HV2.out hq.1 hq.2)
          obtain ⟨q1, q9⟩ := hq
          have hq1 : (q == 1) = false := by simp [h1]
          clear HV1 HV4 HV2 HV0 HBG
          go_wp2_with fail
          refine (V.out _).mono ?_
          rintro e w3 ⟨la, lc, v0, v1, v2, v3, v4, rfl, hb3⟩
          have B3 := hide (B2.out.trans (hb3.mono B2.out.size))
          have B4 : Hid (∀ o, Below w.heap.size w (w3.alloc o)) := fun o => B3.out.alloc B3.out.size o
          clear hb3 B2 B3 V
          go_wp2_with fail
          go_ret
          exact ⟨rfl, B4.out _⟩
    · have V := hide (HV0.out hq)
      clear HV1 HV4 HV2 HV0 HBG
      go_wp2_with fail
      refine (V.out _).mono ?_
      rintro e w3 ⟨la, ln, lc, rfl, hb3⟩
      have B3 := hide (B2.out.trans (hb3.mono B2.out.size))
      have B4 : Hid (∀ o, Below w.heap.size w (w3.alloc o)) := fun o => B3.out.alloc B3.out.size o
      clear hb3 B2 B3 V
      by_cases h1 : q < 1
      · go_wp2_with fail
        go_ret
        exact ⟨rfl, B4.out _⟩
      · have h9 : 9 < q := by omega
        go_wp2_with fail
        go_ret
        exact ⟨rfl, B4.out _⟩

end Go.Proofs.Ytjbmflgamogefab
