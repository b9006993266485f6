/- greenlaw's Celled, Logs and All (Te, Lt, Ao, Ta in one). -/
import Derived.Test.YtjbmflgamogefabGreatTl
import Derived.Test.YtjbmflgamogefabGreatLg
import Derived.Test.YtjbmflgamogefabGreatBase
import Derived.Deep.Slices
import Derived.Deep.MidRow
import Derived.Carry
import Derived.ProofKit
import Derived.OpenShut
import Derived.ShutString
import Derived.Test.YtjbmflgamogefabGreatGCheck
import Derived.Test.YtjbmflgamogefabGreatRCheck
namespace Go.Proofs.YtjbmflgamogefabGreat
open Go.RowKit

/-- What the call that tells the cells answers. -/
def LstRel (T : List Int) (q n : Int) (r : Int × Int) (xs : List Int) : Prop :=
  GivenRel T q n r ∧ ((¬ r.1 = 0 ∧ xs = []) ∨ (r = (0, 0) ∧ inR q n ∧ ∃ cs, parse T = .inr cs ∧ badCods cs = none ∧ ChkCods cs (0, 0) ∧ xs = (List.range 8).map (playM (codesOf cs) cs.length q.toNat n.toNat).cells))
theorem LstRel.unique {T : List Int} {q n : Int} {r r' : Int × Int} {x y : List Int} (h : LstRel T q n r x) (k : LstRel T q n r' y) : r = r' ∧ x = y := by
  obtain ⟨h1, h2⟩ := h
  obtain ⟨k1, k2⟩ := k
  obtain rfl := h1.unique k1
  refine ⟨rfl, ?_⟩
  rcases h2 with ⟨a, b⟩ | ⟨a, _, cs, p1, p2, p3, b⟩ <;> rcases k2 with ⟨a', b'⟩ | ⟨a', _, cs', p1', p2', p3', b'⟩
  · rw [b, b']
  · rw [a'] at a; exact absurd rfl a
  · rw [a] at a'; exact absurd rfl a'
  · rw [p1] at p1'; cases p1'
    rw [b, b']
theorem LstRel.len {T : List Int} {q n : Int} {r : Int × Int} {x : List Int} (h : LstRel T q n r x) : x.length ≤ 8 := by
  obtain ⟨_, h2⟩ := h
  rcases h2 with ⟨_, b⟩ | ⟨_, _, cs, _, _, _, b⟩ <;> rw [b] <;> simp
theorem call_lst {f : FuncId} {args : Array Value} {w : World} {T : List Int} {q n : Int} (h : Calls Tryz.prog f args w fun e w' => CallAns w' e T q n noL celL ∧ Below w.heap.size w w') :
    Calls Tryz.prog f args w fun e w' => ∃ r xs ao cap g, e = .returned (.tuple #[.slice ao xs.length cap, .int .i64 r.1, .int .i64 r.2]) ∧ LstRel T q n r xs ∧ SlAt w' (.slice ao xs.length cap) xs g ∧ Below w.heap.size w w' := by
  refine h.mono ?_
  rintro e w' ⟨⟨r, v, h1, rfl, h3⟩, hb⟩
  rcases h3 with ⟨a, g, b⟩ | ⟨a, b, cs, p1, p2, p3, g, c⟩
  · obtain ⟨ao, cap, rfl⟩ := b.slice
    exact ⟨r, [], ao, cap, g, rfl, ⟨h1, .inl ⟨a, rfl⟩⟩, b, hb⟩
  · obtain ⟨ao, cap, rfl⟩ := c.slice
    exact ⟨r, _, ao, cap, g, rfl, ⟨h1, .inr ⟨a, b, cs, p1, p2, p3, rfl⟩⟩, c, hb⟩
theorem SlAt.below {w w' : World} {v : Value} {xs : List Int} {g : Option Nat} (h : SlAt w v xs g) (hb : Below w.heap.size w w') : SlAt w' v xs g := h.kept (fun x hx => hb.block x (h.lt x hx))

set_option maxRecDepth 100000 in
set_option maxHeartbeats 2000000 in
theorem asked_Cells (s t : ByteArray) (q n : Int) (w : World) (hm : s.size ≤ maxLen) :
    Calls Tryz.prog 7 #[.agg #[.int .i64 4, .int .i64 q, .int .i64 n, .string s, .string t]] w fun e w' => ∃ r xs ao cap g, e = .returned (.agg #[.string ⟨#[]⟩, .slice ao xs.length cap, .int .i64 r.1, .int .i64 r.2]) ∧ LstRel (bytesOf s) q n r xs ∧ SlAt w' (.slice ao xs.length cap) xs g ∧ Below w.heap.size w w' := by
  have HX := hide (fun n W => call_lst (g_Cells s q n W hm))
  go_enter Tryz.func7, Tryz.ntmps7
  go_wp2_with fail
  refine (HX.out _ _).mono ?_
  rintro e w1 ⟨⟨r1, r2⟩, xs, ao, cap, g, rfl, hA, hS, hb⟩
  obtain ⟨h0, h1, hB⟩ := two_first hb
  have k1 : w1.cell? ⟨w.heap.size, 1, none⟩ = some (.int .i64 q) := by rw [cell_of_row _ _ 1 _ _ _ h0]; rfl
  have k3 : w1.cell? ⟨w.heap.size, 3, none⟩ = some (.string s) := by rw [cell_of_row _ _ 3 _ _ _ h0]; rfl
  have kb : w.heap.size < w1.heap.size := (Array.getElem?_eq_some_iff.1 h0).1
  have HA := hide hA
  have HS := hide hS
  have H1 := hide h1
  have H0 := hide h0
  have HB := hide hB
  generalize hgl : xs.length = xl at *
  have HG := hide hgl
  clear hA hb h0 h1 hB hS hgl
  go_wp2_with fail
  refine (HX.out _ _).mono ?_
  rintro e w2 ⟨⟨r3, r4⟩, xs2, ao2, cap2, g2, rfl, _, _, hb2⟩
  have j1 := (hb2.cell (p := ⟨w.heap.size, 1, none⟩) kb).trans k1
  have j3 := (hb2.cell (p := ⟨w.heap.size, 3, none⟩) kb).trans k3
  have jb : w.heap.size < w2.heap.size := Nat.lt_of_lt_of_le kb hb2.size
  have HB2 := hide hb2
  generalize xs2.length = xl2 at *
  clear hb2 k1 k3
  go_wp2_with fail
  refine (HX.out _ _).mono ?_
  rintro e w3 ⟨⟨r5, r6⟩, xs3, ao3, cap3, g3, rfl, _, _, hb3⟩
  have hb13 : Below w1.heap.size w1 w3 := HB2.out.trans (hb3.mono HB2.out.size)
  have h13 := (hb13.block (w.heap.size + 1) (Array.getElem?_eq_some_iff.1 H1.out).1).trans H1.out
  have hS3 := HS.out.below hb13
  have HE := hide (ans_end (c := #[.string ⟨#[]⟩, .slice ao xl cap, .int .i64 r1, .int .i64 r2]) h13 rfl rfl)
  have HB3 := hide (HE.out.2.2.2 w.heap.size w (by omega) (HB.out.trans (hb13.mono HB.out.size)))
  have HS3 := hide (HE.out.2.2.1 _ _ _ hS3)
  generalize xs3.length = xl3 at *
  clear hb13 h13 hS3 hb3 HX HB HB2 H1 H0 HS j1 j3
  go_wp2_with (first
    | (go_at_call 12; refine (l_num0 _ _).mono ?_; rintro e w' ⟨rfl, rfl⟩)
    | (refine wpList_store_mid rfl 31 (.tmp 2) _ rfl (w.heap.size + 1) 0 _ rfl rfl HE.out.1 size_a (one4 _ _ _ _ _ _) ?_))
  refine bodyPost_ret (ret_cell Tryz.results7 rfl HE.out.2.1) rfl ?_
  obtain rfl := HG.out
  exact ⟨(r1, r2), xs, ao, cap, g, rfl, HA.out, HS3.out, HB3.out⟩

set_option maxRecDepth 100000 in
set_option maxHeartbeats 2000000 in
theorem owed_Cells (s t : ByteArray) (q n : Int) (w : World) (hm : s.size ≤ maxLen) :
    Calls Tryz.prog 8 #[.agg #[.int .i64 4, .int .i64 q, .int .i64 n, .string s, .string t]] w fun e w' => ∃ r xs ao cap g, e = .returned (.agg #[.string ⟨#[]⟩, .slice ao xs.length cap, .int .i64 r.1, .int .i64 r.2]) ∧ LstRel (bytesOf s) q n r xs ∧ SlAt w' (.slice ao xs.length cap) xs g ∧ Below w.heap.size w w' := by
  have HX := hide (fun W => r_Given s q n W hm)
  go_enter Tryz.func8, Tryz.ntmps8
  go_wp2_with fail
  refine (HX.out _).mono ?_
  rintro e w1 ⟨⟨r1, r2⟩, hr, rfl, hb⟩
  obtain ⟨h0, h1, hB⟩ := two_first hb
  by_cases hz : r1 = 0
  · obtain ⟨hr0, hR, hT, cs, p1, p2, p3⟩ := given_okR hr hz
    simp only [Prod.mk.injEq] at hr0
    obtain ⟨rfl, rfl⟩ := hr0
    have hl := bytesOf_len s
    obtain ⟨q1, q2, n1, n2⟩ := hR
    obtain ⟨qq, rfl⟩ : ∃ qq : Nat, q = qq := ⟨q.toNat, by omega⟩
    obtain ⟨nn, rfl⟩ : ∃ nn : Nat, n = nn := ⟨n.toNat, by omega⟩
    have HPL := hide (r_Play s cs qq nn w1 (by omega) p1 (good_of hT p1 p2 p3) (parse_ne p1) (by omega) (by omega))
    have HA : Hid (LstRel (bytesOf s) (qq : Int) (nn : Int) (0, 0) ((List.range 8).map (playM (codesOf cs) cs.length qq nn).cells)) := ⟨hr, .inr ⟨rfl, ⟨q1, q2, n1, n2⟩, cs, p1, p2, p3, rfl⟩⟩
    have k0 : w1.cell? ⟨w.heap.size, 0, none⟩ = some (.int .i64 4) := by rw [cell_of_row _ _ 0 _ _ _ h0]; rfl
    have k1 : w1.cell? ⟨w.heap.size, 1, none⟩ = some (.int .i64 (qq : Int)) := by rw [cell_of_row _ _ 1 _ _ _ h0]; rfl
    have k2 : w1.cell? ⟨w.heap.size, 2, none⟩ = some (.int .i64 (nn : Int)) := by rw [cell_of_row _ _ 2 _ _ _ h0]; rfl
    have k3 : w1.cell? ⟨w.heap.size, 3, none⟩ = some (.string s) := by rw [cell_of_row _ _ 3 _ _ _ h0]; rfl
    have kb : w.heap.size < w1.heap.size := (Array.getElem?_eq_some_iff.1 h0).1
    have kb1 : w.heap.size + 1 < w1.heap.size := (Array.getElem?_eq_some_iff.1 h1).1
    have H1 := hide h1
    have HB := hide hB
    clear hr hb h0 h1 hB HX p1 p2 p3 hT hl
    go_wp2_with fail
    refine HPL.out.mono ?_
    rintro e w2 ⟨base, Y, rfl, m, hb2⟩
    have k0b := (hb2.cell (p := ⟨w.heap.size, 0, none⟩) kb).trans k0
    have kb2 : w.heap.size < w2.heap.size := Nat.lt_of_lt_of_le kb hb2.size
    have H12 := hide ((hb2.block _ kb1).trans H1.out)
    have HB2 := hide (HB.out.trans (hb2.mono HB.out.size))
    have fo := m.at_.fields.2.2.2.1
    have fb := m.at_.lt (.inl rfl)
    have hsl := m.at_.sl 0 (by decide)
    rw [cont_cells] at hsl
    obtain ⟨ao, cap, hv⟩ := hsl.slice
    rw [hv] at fo hsl
    generalize hgx : (List.range 8).map (playM (codesOf cs) cs.length qq nn).cells = X at *
    have HSL := hide hsl
    generalize hgl : X.length = xl at *
    have HE : Hid (∀ W, Below w2.heap.size w2 W → W.there (w.heap.size + 1) 0 4 ∧ (loadVar 31 ⟨w.heap.size + 1, 0, none⟩).run Tryz.prog (W.setCells (w.heap.size + 1) 0 [.string ⟨#[]⟩, .slice ao xl cap, .int .i64 0, .int .i64 0]) = .ok (.agg #[.string ⟨#[]⟩, .slice ao xl cap, .int .i64 0, .int .i64 0]) (W.setCells (w.heap.size + 1) 0 [.string ⟨#[]⟩, .slice ao xl cap, .int .i64 0, .int .i64 0]) ∧ Below w.heap.size w (W.setCells (w.heap.size + 1) 0 [.string ⟨#[]⟩, .slice ao xl cap, .int .i64 0, .int .i64 0]) ∧ SlAt (W.setCells (w.heap.size + 1) 0 [.string ⟨#[]⟩, .slice ao xl cap, .int .i64 0, .int .i64 0]) (.slice ao xl cap) X (Y.blk 0)) := fun W hW => by
      have h6 := (hW.block (w.heap.size + 1) (Array.getElem?_eq_some_iff.1 H12.out).1).trans H12.out
      obtain ⟨a1, a2, a3, a4⟩ := ans_end (c := #[.string ⟨#[]⟩, .slice ao xl cap, .int .i64 0, .int .i64 0]) h6 rfl rfl
      exact ⟨a1, a2, a4 _ _ (by omega) (HB2.out.trans (hW.mono HB2.out.size)), a3 _ _ _ (HSL.out.below hW)⟩
    have hfo : w2.cell? ⟨Y.b, 3, none⟩ = some (.slice ao xl cap) := fo
    have HG := hide hgl
    clear m hb2 fo HPL H1 HB k0 k1 k2 k3 kb kb1 hsl hv hgl hgx HSL
    go_wp2_with (refine wpList_store_mid rfl 31 (.tmp 2) _ rfl (w.heap.size + 1) 0 _ rfl rfl (HE.out _ ((Below.refl _ _).alloc (Nat.le_refl _) _)).1 size_a (one4 _ _ _ _ _ _) ?_)
    refine bodyPost_ret (ret_cell Tryz.results8 rfl (HE.out _ ((Below.refl _ _).alloc (Nat.le_refl _) _)).2.1) rfl ?_
    obtain ⟨_, _, e3, e4⟩ := HE.out _ ((Below.refl _ _).alloc (Nat.le_refl _) _)
    obtain rfl := HG.out
    exact ⟨(0, 0), X, ao, cap, _, rfl, HA.out, e4, e3⟩
  · have HZ : Hid (LstRel (bytesOf s) q n (r1, r2) []) := ⟨hr, .inl ⟨hz, rfl⟩⟩
    have hz0 : (r1 != 0) = true := by simp [hz]
    have HE := hide (ans_end (c := #[.string ⟨#[]⟩, .slice none 0 0, .int .i64 r1, .int .i64 r2]) h1 rfl rfl)
    have HB := hide (HE.out.2.2.2 w.heap.size w (by omega) hB)
    clear hr hb h0 h1 hB HX hz
    go_wp2_with (refine wpList_store_mid rfl 31 (.tmp 2) _ rfl (w.heap.size + 1) 0 _ rfl rfl HE.out.1 size_a (one4 _ _ _ _ _ _) ?_)
    refine bodyPost_ret (ret_cell Tryz.results8 rfl HE.out.2.1) rfl ?_
    exact ⟨(r1, r2), [], none, 0, none, rfl, HZ.out, SlAt.nil _, HB.out⟩

set_option maxRecDepth 100000 in
set_option maxHeartbeats 2000000 in
theorem l_sameL (xs : List Int) (ao bo : Option Addr) (ca cb : Nat) (ga gb : Option Nat) (a b : Int) (w : World) (hx : xs.length ≤ 8) (ha : SlAt w (.slice ao xs.length ca) xs ga) (hb : SlAt w (.slice bo xs.length cb) xs gb) :
    Calls Tryz.prog 9 #[.agg #[.string ⟨#[]⟩, .slice ao xs.length ca, .int .i64 a, .int .i64 b], .agg #[.string ⟨#[]⟩, .slice bo xs.length cb, .int .i64 a, .int .i64 b]] w fun e w' => e = .returned (.bool true) ∧ Below w.heap.size w w' := by
  have hB : Below w.heap.size w ((w.alloc (.cells #[.string ⟨#[]⟩, .slice ao xs.length ca, .int .i64 a, .int .i64 b] 31)).alloc (.cells #[.string ⟨#[]⟩, .slice bo xs.length cb, .int .i64 a, .int .i64 b] 31)) := ((Below.refl _ _).alloc (Nat.le_refl _) _).alloc (by simp) _
  have HB := hide hB
  have HS1 := hide (ha.below hB)
  have HS2 := hide (hb.below hB)
  have HC : Hid (∀ j, j < xs.length → ∃ x B1 O1 B2 O2, ao = some ⟨B1, O1, none⟩ ∧ bo = some ⟨B2, O2, none⟩ ∧ B1 < w.heap.size ∧ B2 < w.heap.size ∧ w.cell? ⟨B1, O1 + j, none⟩ = some (.int .i64 x) ∧ w.cell? ⟨B2, O2 + j, none⟩ = some (.int .i64 x)) := fun j hj => by
    obtain ⟨B1, O1, e1, _, l1, c1⟩ := ha.cell (List.getElem?_eq_getElem hj)
    obtain ⟨B2, O2, e2, _, l2, c2⟩ := hb.cell (List.getElem?_eq_getElem hj)
    exact ⟨_, B1, O1, B2, O2, e1, e2, l1, l2, c1, c2⟩
  have e1 : (a != a) = false := by simp
  have e2 : (b != b) = false := by simp
  clear ha hb hB HS1 HS2
  generalize xs.length = xl at *
  have e3 : ((xl : Int) != (xl : Int)) = false := by simp
  go_enter Tryz.func9, Tryz.ntmps9
  go_wp2_with fail
  obtain ⟨wA, hwA⟩ : ∃ wA, wA = (w.alloc (.cells #[.string ⟨#[]⟩, .slice ao xl ca, .int .i64 a, .int .i64 b] 31)).alloc (.cells #[.string ⟨#[]⟩, .slice bo xl cb, .int .i64 a, .int .i64 b] 31) := ⟨_, rfl⟩
  have bA : Below w.heap.size w wA := by rw [hwA]; exact HB.out
  have HBA := hide bA
  have n0 : (w.alloc (.cells #[.string ⟨#[]⟩, .slice ao xl ca, .int .i64 a, .int .i64 b] 31)).heap.size = w.heap.size + 1 := by simp
  have z1 : wA.cell? ⟨w.heap.size, 1, none⟩ = some (.slice ao xl ca) := by
    rw [hwA, ((Below.refl (w.alloc (.cells #[.string ⟨#[]⟩, .slice ao xl ca, .int .i64 a, .int .i64 b] 31)).heap.size _).alloc (Nat.le_refl _) _).cell (p := ⟨w.heap.size, 1, none⟩) (by simp), cell_of_row _ _ 1 _ _ _ (heap_alloc_new w _)]; rfl
  have z2 : wA.cell? ⟨w.heap.size + 1, 1, none⟩ = some (.slice bo xl cb) := by
    have hn1 := heap_alloc_new (w.alloc (.cells #[.string ⟨#[]⟩, .slice ao xl ca, .int .i64 a, .int .i64 b] 31)) (.cells #[.string ⟨#[]⟩, .slice bo xl cb, .int .i64 a, .int .i64 b] 31)
    rw [n0] at hn1
    rw [hwA, cell_of_row _ _ 1 _ _ _ hn1]; rfl
  rw [← hwA]
  have HC2 : Hid (∀ j, j < xl → ∃ x B1 O1 B2 O2, ao = some ⟨B1, O1, none⟩ ∧ bo = some ⟨B2, O2, none⟩ ∧ wA.cell? ⟨B1, O1 + j, none⟩ = some (.int .i64 x) ∧ wA.cell? ⟨B2, O2 + j, none⟩ = some (.int .i64 x)) := fun j hj => by
    obtain ⟨x, B1, O1, B2, O2, q1, q2, l1, l2, c1, c2⟩ := HC.out j hj
    exact ⟨x, B1, O1, B2, O2, q1, q2, (bA.cell (p := ⟨B1, O1 + j, none⟩) l1).trans c1, (bA.cell (p := ⟨B2, O2 + j, none⟩) l2).trans c2⟩
  clear hwA bA HC HB n0
  go_loopw [5] (fun s wr => ∃ j n : Nat, j ≤ xl ∧ s = .int .i64 j ∧ wr = wA.drewN n) (fun s _ => xl - (intOf s).toNat)
  case atStart => exact ⟨0, 0, Nat.zero_le _, rfl, rfl⟩
  case round =>
    obtain ⟨j, n, hj, rfl, rfl⟩ := hrel
    by_cases hlt : j < xl
    · obtain ⟨x, B1, O1, B2, O2, rfl, rfl, c1, c2⟩ := HC2.out j hlt
      have hlt1 : (j : Int) < (xl : Int) := by omega
      have e4 : (x != x) = false := by simp
      have q0 : decide ((j : Int) < 0) = false := by simp
      have q1 : decide ((xl : Int) ≤ (j : Int)) = false := by simp; omega
      clear HC2
      go_wp2_with fail
      go_quiet (fail)
      go_wp2_with fail
      go_roundw
      case rel => exact ⟨j + 1, _, by omega, by go_num, by first | rfl | trivial | simp⟩
      case measure => simp [intOf]; omega
    · obtain rfl : j = xl := by omega
      go_wp2_with fail
      go_ret
      exact ⟨rfl, below_drewN HBA.out _⟩

set_option maxRecDepth 100000 in
set_option maxHeartbeats 2000000 in
theorem tells_Cells (s t : ByteArray) (q n : Int) (w : World) (hm : s.size ≤ maxLen) :
    Calls Tryz.prog 5 #[.agg #[.int .i64 4, .int .i64 q, .int .i64 n, .string s, .string t]] w fun e w' => e = .returned (.bool true) ∧ Below w.heap.size w w' := by
  have HA := hide (fun W => asked_Cells s t q n W hm)
  have HO := hide (fun W => owed_Cells s t q n W hm)
  go_enter Tryz.func5, Tryz.ntmps5
  go_wp2_with fail
  refine (HA.out _).mono ?_
  rintro e w1 ⟨⟨r1, r2⟩, xs, ao, ca, g1, rfl, hA, hS1, hb1⟩
  have h0 : w1.heap[w.heap.size]? = some (.cells #[.int .i64 4, .int .i64 q, .int .i64 n, .string s, .string t] 24 (0, 0)) := (hb1.block _ (by simp)).trans (heap_alloc_new w _)
  have k0 : w1.cell? ⟨w.heap.size, 0, none⟩ = some (.int .i64 4) := by rw [cell_of_row _ _ 0 _ _ _ h0]; rfl
  have k1 : w1.cell? ⟨w.heap.size, 1, none⟩ = some (.int .i64 q) := by rw [cell_of_row _ _ 1 _ _ _ h0]; rfl
  have k2 : w1.cell? ⟨w.heap.size, 2, none⟩ = some (.int .i64 n) := by rw [cell_of_row _ _ 2 _ _ _ h0]; rfl
  have k3 : w1.cell? ⟨w.heap.size, 3, none⟩ = some (.string s) := by rw [cell_of_row _ _ 3 _ _ _ h0]; rfl
  have k4 : w1.cell? ⟨w.heap.size, 4, none⟩ = some (.string t) := by rw [cell_of_row _ _ 4 _ _ _ h0]; rfl
  have kb : w.heap.size < w1.heap.size := (Array.getElem?_eq_some_iff.1 h0).1
  have HB1 : Hid (Below w.heap.size w w1) := ((Below.refl _ _).alloc (Nat.le_refl _) _).trans (hb1.mono (by simp))
  have H1 := hide hA
  have HS1 := hide hS1
  have HL := hide hA.len
  generalize hxl : xs.length = xl at *
  have HXL := hide hxl
  clear hA hb1 h0 HA hS1 hxl
  go_wp2_with fail
  refine (HO.out _).mono ?_
  rintro e w2 ⟨⟨r3, r4⟩, ys, bo, cb, g2, rfl, hO, hS2, hb2⟩
  obtain ⟨he, hxy⟩ := H1.out.unique hO
  simp only [Prod.mk.injEq] at he
  obtain ⟨rfl, rfl⟩ := he
  subst hxy
  obtain rfl := HXL.out
  have h3 : w2.heap[w1.heap.size]? = some (.cells #[.string ⟨#[]⟩, .slice ao xs.length ca, .int .i64 r1, .int .i64 r2] 31 (0, 0)) := (hb2.block _ (by simp)).trans (heap_alloc_new w1 _)
  have j0 : w2.cell? ⟨w1.heap.size, 0, none⟩ = some (.string ⟨#[]⟩) := by rw [cell_of_row _ _ 0 _ _ _ h3]; rfl
  have j1 : w2.cell? ⟨w1.heap.size, 1, none⟩ = some (.slice ao xs.length ca) := by rw [cell_of_row _ _ 1 _ _ _ h3]; rfl
  have j2 : w2.cell? ⟨w1.heap.size, 2, none⟩ = some (.int .i64 r1) := by rw [cell_of_row _ _ 2 _ _ _ h3]; rfl
  have j3 : w2.cell? ⟨w1.heap.size, 3, none⟩ = some (.int .i64 r2) := by rw [cell_of_row _ _ 3 _ _ _ h3]; rfl
  have jb : w1.heap.size < w2.heap.size := (Array.getElem?_eq_some_iff.1 h3).1
  have HB2 : Hid (Below w.heap.size w w2) := (HB1.out.alloc HB1.out.size _).trans (hb2.mono (by have := HB1.out.size; simp; omega))
  have hS12 := HS1.out.below (((Below.refl w1.heap.size w1).alloc (Nat.le_refl _) _).trans (hb2.mono (by simp)))
  have HSM : Hid (∀ W, Below w2.heap.size w2 W → Calls Tryz.prog 9 #[.agg #[.string ⟨#[]⟩, .slice ao xs.length ca, .int .i64 r1, .int .i64 r2], .agg #[.string ⟨#[]⟩, .slice bo xs.length cb, .int .i64 r1, .int .i64 r2]] W fun e w' => e = .returned (.bool true) ∧ Below W.heap.size W w') := fun W hW => l_sameL xs ao bo ca cb g1 g2 r1 r2 W HL.out (hS12.below hW) (hS2.below hW)
  generalize xs.length = xl at *
  clear hO hb2 h3 HO H1 HS1 hS12 hS2 HL HXL
  go_wp2_with fail
  refine (HSM.out _ ((Below.refl _ _).alloc (Nat.le_refl _) _)).mono ?_
  rintro e w3 ⟨rfl, hb3⟩
  have HB3 := hide ((HB2.out.alloc HB2.out.size _).trans (hb3.mono (by have := HB2.out.size; simp; omega)))
  clear hb3 HSM
  go_wp2_with fail
  go_ret
  exact ⟨rfl, HB3.out⟩

end Go.Proofs.YtjbmflgamogefabGreat

namespace Go.Proofs.YtjbmflgamogefabGreat
open Go.RowKit
theorem log_refs {T : List Int} {cs : Cods} (p1 : parse T = .inr cs) (p2 : badCods cs = none) (p3 : ChkCods cs (0, 0)) (q n : Nat) : fLog cs q n = fLogR cs q n := by
  show strOf _ = strOf _
  rw [(log_same (fine_of p1 p2 p3) (parse_lenG p1) q n).1]
theorem l_LogsT (s : ByteArray) (q n : Int) (w : World) (hm : s.size ≤ maxLen) :
    Calls Tryz.prog 3 #[.string s, .int .i64 q, .int .i64 n] w fun e w' => e = .returned (.bool true) ∧ Below w.heap.size w w' :=
  l_Logs s q n w hm (fun _ p1 p2 p3 => log_refs p1 p2 p3 _ _)

end Go.Proofs.YtjbmflgamogefabGreat

namespace Go.Proofs.YtjbmflgamogefabGreat
open Go.ChangeShapes Go.WideShapes Go.ChangeAt Go.RowKit

theorem size_o5 : Tryz.prog.cellsOf 24 = 5 := by kernel_rfl
theorem cells_int : Tryz.prog.cellsOf 3 = 1 := by kernel_rfl
theorem cells_str : Tryz.prog.cellsOf 9 = 1 := by kernel_rfl
theorem op_fields : ∃ f0 f1 f2 f3 f4 : Field, Tryz.prog.underlying 24 = some (.struct #[f0, f1, f2, f3, f4]) ∧ f0.type = 3 ∧ f1.type = 3 ∧ f2.type = 3 ∧ f3.type = 9 ∧ f4.type = 9 ∧ f0.offset = 0 ∧ f1.offset = 1 ∧ f2.offset = 2 ∧ f3.offset = 3 ∧ f4.offset = 4 := by
  exact ⟨_, _, _, _, _, Tryz.underlying24, rfl, rfl, rfl, rfl, rfl, rfl, rfl, rfl, rfl, rfl⟩
theorem list5 {α : Type} {l : List α} (h : l.length = 5) : ∃ a b c d e, l = [a, b, c, d, e] := by
  match l, h with
  | [a, b, c, d, e], _ => exact ⟨a, b, c, d, e, rfl⟩
theorem op_open {H : Type} {enc : TypeId × Value → H} {W : World} {base : Nat} {sp : Nat → Bool} {hd : Bool} {fuel : Nat} {cs : List Value} {x : DataW H × List MemPlace} (h : DataW.trod enc Tryz.prog W base sp hd fuel 24 cs = some x) :
    ∃ k q n s t, cs = [.int .i64 k, .int .i64 q, .int .i64 n, .string s, .string t] ∧ s.size ≤ maxLen := by
  obtain ⟨f0, f1, f2, f3, f4, hu, t0, t1, t2, t3, t4, o0, o1, o2, o3, o4⟩ := op_fields
  obtain ⟨xs, m, _, _, hlen, hxl, hf⟩ := DataW.trod_struct hu h
  rw [size_o5] at hlen
  obtain ⟨a, b, c, d, e, rfl⟩ := list5 hlen
  obtain ⟨y0, y1, y2, y3, y4, rfl⟩ := list5 (l := xs) (by simpa using hxl)
  have g0 := hf 0 f0 rfl
  have g1 := hf 1 f1 rfl
  have g2 := hf 2 f2 rfl
  have g3 := hf 3 f3 rfl
  have g4 := hf 4 f4 rfl
  rw [t0, o0, cells_int] at g0
  rw [t1, o1, cells_int] at g1
  rw [t2, o2, cells_int] at g2
  rw [t3, o3, cells_str] at g3
  rw [t4, o4, cells_str] at g4
  obtain ⟨k, e0, _⟩ := DataW.trod_int Tryz.underlying3 g0
  obtain ⟨q, e1, _⟩ := DataW.trod_int Tryz.underlying3 g1
  obtain ⟨n, e2, _⟩ := DataW.trod_int Tryz.underlying3 g2
  obtain ⟨s, e3, _, hs⟩ := DataW.trod_string Tryz.underlying9 g3
  obtain ⟨t, e4, _⟩ := DataW.trod_string Tryz.underlying9 g4
  simp at e0 e1 e2 e3 e4
  exact ⟨k, q, n, s, t, by rw [e0, e1, e2, e3, e4], hs⟩
theorem cell_lt {w : World} {p : Addr} {v : Value} (h : w.cell? p = some v) : p.block < w.heap.size := by
  unfold World.cell? at h
  by_cases hp : p.block < w.heap.size
  · exact hp
  · rw [Array.getElem?_eq_none (by omega)] at h; cases h
/-- A script's steps lie in the memory. -/
def ScrAt (w : World) (ao : Option Addr) (len : Nat) : Prop := ∀ i, i < len → ∃ b off k q n s t, ao = some ⟨b, off, none⟩ ∧ b < w.heap.size ∧ s.size ≤ maxLen ∧ w.rangeAt b (off + i * 5) [.int .i64 k, .int .i64 q, .int .i64 n, .string s, .string t]
theorem scr_open {H : Type} {enc : TypeId × Value → H} {W : World} {base : Nat} {sp : Nat → Bool} {hd : Bool} {fuel : Nat} {ao : Option Addr} {len cap : Nat} {x : DataW H × List MemPlace} (h : DataW.trod enc Tryz.prog W base sp hd fuel 26 [.slice ao len cap] = some x) : len ≤ maxLen ∧ ScrAt W ao len := by
  rcases Go.Deep.open_slice Tryz.underlying26 h with ⟨h0, _⟩ | ⟨a, len', cap', m, n, D, Pl, h0, _, hl, hm, hmm, _, hel⟩
  · simp only [List.cons.injEq, Value.slice.injEq] at h0
    obtain ⟨⟨rfl, rfl, _⟩, _⟩ := h0
    exact ⟨Nat.zero_le _, fun i hi => absurd hi (Nat.not_lt_zero _)⟩
  · simp only [List.cons.injEq, Value.slice.injEq] at h0
    obtain ⟨⟨rfl, rfl, rfl⟩, _⟩ := h0
    have hlm : len ≤ m := by rw [hmm]; split <;> omega
    refine ⟨by omega, fun i hi => ?_⟩
    have hsp : a.spot = none := by
      obtain ⟨cs0, e1, e2⟩ := hel 0 (by omega)
      obtain ⟨k, q, n', s, t, rfl, _⟩ := op_open e2
      obtain ⟨_, _, hc⟩ := World.cells?_some e1
      have := hc 0 (by rw [size_o5]; omega)
      simp [Addr.add] at this
      exact World.cell?_spot this
    obtain ⟨cs, e1, e2⟩ := hel i (by omega)
    obtain ⟨k, q, n', s, t, rfl, hs⟩ := op_open e2
    obtain ⟨_, _, hc⟩ := World.cells?_some e1
    rw [size_o5] at hc
    obtain ⟨b, off, spot⟩ := a
    simp only at hsp
    subst hsp
    have hc' : ∀ j, j < 5 → W.cell? ⟨b, off + i * 5 + j, none⟩ = [Value.int .i64 k, .int .i64 q, .int .i64 n', .string s, .string t][j]? := fun j hj => by
      have := hc j hj
      rw [Go.Addr.add_mid, Go.Addr.add_mid] at this
      exact this
    refine ⟨b, off, k, q, n', s, t, rfl, cell_lt (hc' 0 (by omega)), hs, fun j v hj => ?_⟩
    have hj5 : j < 5 := by have := (List.getElem?_eq_some_iff.1 hj).1; simpa using this
    rw [hc' j hj5, hj]

end Go.Proofs.YtjbmflgamogefabGreat

namespace Go.Proofs.YtjbmflgamogefabGreat
open Go.RowKit

set_option maxHeartbeats 1000000 in
theorem l_ChecksA (s : ByteArray) (w : World) (hm : s.size ≤ maxLen) :
    Calls Tryz.prog 6 #[.string s] w fun e w' => e = .returned (.bool true) ∧ Below w.heap.size w w' := by
  have HG := hide (g_Check s w hm)
  have HR := hide (fun W => r_Check s W hm)
  go_enter Tryz.func6, Tryz.ntmps6
  go_wp2_with fail
  refine HG.out.mono ?_
  rintro e w1 ⟨r, hr, rfl, hb1⟩
  have HR1 := hide hr
  have HB1 := hide hb1
  clear hr hb1 HG
  go_wp2_with fail
  refine (HR.out _).mono ?_
  rintro e w2 ⟨r', hr', rfl, hb2⟩
  have er := HR1.out.unique hr'
  subst er
  have HB2 : Hid (Below w.heap.size w w2) := HB1.out.trans (hb2.mono HB1.out.size)
  clear hr' hb2 HR
  obtain ⟨r1, r2⟩ := r
  have b1 : (r1 == r1) = true := by simp
  have b2 : (r2 == r2) = true := by simp
  go_wp2_with (go_at_call 12; refine (l_num0 _ _).mono ?_; rintro e w' ⟨rfl, rfl⟩)
  go_ret
  exact ⟨rfl, HB2.out⟩
/-- Every kind that is answered. -/
theorem tells_any (k : Int) (s t : ByteArray) (q n : Int) (w : World) (hm : s.size ≤ maxLen) (h2 : 2 ≤ k) (h7 : k ≤ 7) :
    Calls Tryz.prog 5 #[.agg #[.int .i64 k, .int .i64 q, .int .i64 n, .string s, .string t]] w fun e w' => e = .returned (.bool true) ∧ Below w.heap.size w w' := by
  rcases (show k = 2 ∨ k = 3 ∨ k = 4 ∨ k = 5 ∨ k = 6 ∨ k = 7 by omega) with rfl | rfl | rfl | rfl | rfl | rfl
  · exact tells_Out s t q n w hm
  · exact tells_Trace s t q n w hm
  · exact tells_Cells s t q n w hm
  · exact tells_States s t q n w hm
  · exact tells_Owners s t q n w hm
  · exact tells_Log s t q n w hm (fun _ p1 p2 p3 => log_refs p1 p2 p3 _ _)
theorem size_o : (Tryz.prog.info? 24).map (·.size) = some 5 := by kernel_rfl
theorem under_o : ∃ d, Tryz.prog.underlying 24 = some d ∧ d.isRow = true := by
  have h : (Tryz.prog.underlying 24).map (·.isRow) = some true := by kernel_rfl
  obtain ⟨d, h1, h2⟩ := Option.map_eq_some_iff.1 h
  exact ⟨d, h1, h2⟩
theorem one5 (k q n : Int) (s t : ByteArray) : (#[.int .i64 k, .int .i64 q, .int .i64 n, .string s, .string t] : Array Value).all (·.oneCell') = true := by
  rw [← Array.all_toList]; rfl

set_option maxRecDepth 100000 in
set_option maxHeartbeats 4000000 in
theorem l_All (ao : Option Addr) (len cap : Nat) (w : World) (hl : len ≤ maxLen) (hs : ScrAt w ao len) :
    Calls Tryz.prog 4 #[.slice ao len cap] w fun e w' => e = .returned (.bool true) ∧ Below w.heap.size w w' := by
  have HS := hide hs
  unfold maxLen at hl
  clear hs
  go_enter Tryz.func4, Tryz.ntmps4
  go_wp2_with fail
  go_loopw [3] (fun s wr => ∃ i : Nat, i ≤ len ∧ i ≤ 1152921504606846976 ∧ s = .int .i64 i ∧ Below w.heap.size w wr) (fun s _ => len - (intOf s).toNat)
  case atStart => exact ⟨0, Nat.zero_le _, Nat.zero_le _, rfl, Below.refl _ _⟩
  case round =>
    obtain ⟨i, hi, hi6, rfl, hb⟩ := hrel
    have HB := hide hb
    clear hb
    by_cases hlt : i < len ∧ i < 1152921504606846976
    · obtain ⟨hlt, hlt6⟩ := hlt
      obtain ⟨b, off, k, q, n, s, t, rfl, hbl, hm, hr⟩ := HS.out i hlt
      have hlt1 : (i : Int) < (len : Int) := by omega
      have hlt2 : (i : Int) < 1152921504606846976 := by omega
      obtain ⟨d, hd1, hd2⟩ := under_o
      have HR : Hid (wr.rangeAt b (off + i * 5) [.int .i64 k, .int .i64 q, .int .i64 n, .string s, .string t]) := fun j v hj => by
        rw [HB.out.cell (p := ⟨b, off + i * 5 + j, none⟩) hbl]; exact hr j v hj
      have HD1 := hide hd1
      have HD2 := hide hd2
      have HBN : Hid (Below w.heap.size w (wr.alloc (.cells #[.int .i64 k, .int .i64 q, .int .i64 n, .string s, .string t] 24))) := HB.out.alloc HB.out.size _
      have HCH := hide (fun W => l_ChecksA s W hm)
      have HTE := hide (fun h2 h7 W => tells_any k s t q n W hm h2 h7)
      have hrow : (wr.alloc (.cells #[.int .i64 k, .int .i64 q, .int .i64 n, .string s, .string t] 24)).heap[wr.heap.size]? = some (.cells #[.int .i64 k, .int .i64 q, .int .i64 n, .string s, .string t] 24 (0, 0)) := heap_alloc_new wr _
      have HRN : Hid ((wr.alloc (.cells #[.int .i64 k, .int .i64 q, .int .i64 n, .string s, .string t] 24)).rangeAt wr.heap.size 0 [.int .i64 k, .int .i64 q, .int .i64 n, .string s, .string t]) := fun j v hj => by
        rw [Nat.zero_add, cell_of_row _ _ j _ _ _ hrow]; simpa using hj
      have k0 : (wr.alloc (.cells #[.int .i64 k, .int .i64 q, .int .i64 n, .string s, .string t] 24)).cell? ⟨wr.heap.size, 0, none⟩ = some (.int .i64 k) := by rw [cell_of_row _ _ 0 _ _ _ hrow]; rfl
      have k3 : (wr.alloc (.cells #[.int .i64 k, .int .i64 q, .int .i64 n, .string s, .string t] 24)).cell? ⟨wr.heap.size, 3, none⟩ = some (.string s) := by rw [cell_of_row _ _ 3 _ _ _ hrow]; rfl
      have HL6 := hide hlt6
      have HLL := hide hl
      clear hr hd1 hd2 HS hbl hrow hlt6 hi6 hl
      go_upto_region 4 with fail
      go_upto_region 5 with (first
        | (refine wpList_load_mid rfl 24 _ rfl b (off + i * 5) rfl _ d HR.out HD1.out HD2.out size_o ?_)
        | (refine wpList_store_new rfl 24 _ _ rfl _ #[.int .i64 k, .int .i64 q, .int .i64 n, .string s, .string t] rfl rfl rfl size_o rfl (one5 _ _ _ _ _) ?_))
      by_cases h1 : k = 1
      · have c1 : (k == 1) = true := by simp [h1]
        clear HTE HRN HR h1
        go_wp2_with fail
        refine (HCH.out _).mono ?_
        rintro e w2 ⟨rfl, hb2⟩
        have HB2 : Hid (Below w.heap.size w w2) := HBN.out.trans (hb2.mono HBN.out.size)
        clear hb2 HCH HBN HB
        go_wp2_with fail
        go_roundw
        case rel => exact ⟨i + 1, by omega, by have := HL6.out; omega, by go_num, HB2.out⟩
        case measure => simp [intOf]; omega
      · have c1 : (k == 1) = false := by simp [h1]
        by_cases h2 : 2 ≤ k
        · by_cases h7 : k ≤ 7
          · have HT2 := hide (HTE.out h2 h7)
            clear HTE HR h1 HCH k3
            go_wp2_with (refine wpList_load_mid rfl 24 _ rfl wr.heap.size 0 rfl _ d HRN.out HD1.out HD2.out size_o ?_)
            refine (HT2.out _).mono ?_
            rintro e w2 ⟨rfl, hb2⟩
            have HB2 : Hid (Below w.heap.size w w2) := HBN.out.trans (hb2.mono HBN.out.size)
            clear hb2 HT2 HBN HB HRN
            go_wp2_with fail
            go_roundw
            case rel => exact ⟨i + 1, by omega, by have := HL6.out; omega, by go_num, HB2.out⟩
            case measure => simp [intOf]; omega
          · clear HTE HR h1 HCH k3 HRN
            go_wp2_with fail
            go_roundw
            case rel => exact ⟨i + 1, by omega, by have := HL6.out; omega, by go_num, HBN.out⟩
            case measure => simp [intOf]; omega
        · clear HTE HR h1 HCH k3 HRN
          go_wp2_with fail
          go_roundw
          case rel => exact ⟨i + 1, by omega, by have := HL6.out; omega, by go_num, HBN.out⟩
          case measure => simp [intOf]; omega
    · by_cases hl2 : i < len
      · have hlt1 : (i : Int) < (len : Int) := by omega
        have hlt2 : ¬ (i : Int) < 1152921504606846976 := by omega
        go_wp2_with fail
        go_ret
        exact ⟨rfl, HB.out⟩
      · have hlt1 : ¬ (i : Int) < (len : Int) := by omega
        go_wp2_with fail
        go_ret
        exact ⟨rfl, HB.out⟩

end Go.Proofs.YtjbmflgamogefabGreat
