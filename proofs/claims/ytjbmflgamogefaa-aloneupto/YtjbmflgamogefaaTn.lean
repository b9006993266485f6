/- greenlaw's steady and Alone. -/
import Derived.Test.YtjbmflgamogefaaTg
import Derived.Test.YtjbmflgamogefaaMachA
namespace Go.Proofs.Ytjbmflgamogefaa
open Go.RowKit

theorem steady_snoc {I : List In} {m : Nat} {c a : Int} (h : Steady (I.take m)) (hy : I[m]? = some (c, a)) (h1 : ¬ c = 89) (h2 : ¬ c = 84) (h3 : ¬ c = 87) : Steady (I.take (m + 1)) := by
  rw [List.take_add_one, hy]
  intro x hx
  rcases List.mem_append.1 hx with hx | hx
  · exact h x hx
  · simp at hx; subst hx; exact ⟨h1, h2, h3⟩
/-- What steady answers. -/
def SteadyAns (e : Ending) (T : List Int) : Prop := ∃ sb, e = .returned (.bool sb) ∧ (sb = true → ∃ st I, parse T = .inr [(st, I)] ∧ Steady I)
set_option maxHeartbeats 2000000 in
theorem l_steady (s : ByteArray) (w : World) (hs : s.size ≤ 1048576) :
    Calls Try.prog 20 #[.string s] w fun e w' => SteadyAns e (bytesOf s) ∧ Below w.heap.size w w' := by
  have HC := hide (r_Read s w hs)
  go_enter Try.func20, Try.ntmps20
  go_wp2_with fail
  refine HC.out.mono ?_
  rintro e w1 ⟨htold, hb⟩
  have HB := hide hb
  have HF0 : Hid (SteadyAns (.returned (.bool false)) (bytesOf s)) := ⟨_, rfl, fun h => by cases h⟩
  cases hp : parse (bytesOf s) with
  | inl j =>
    rw [hp] at htold
    have he : e = .returned (.tuple #[.slice none 0 0, .int .i64 j, .bool false]) := htold
    subst he
    clear htold hb hp HC
    go_wp2_with fail
    go_ret
    exact ⟨HF0.out, HB.out⟩
  | inr cs =>
    rw [hp] at htold
    obtain ⟨v, rfl, hcs⟩ := htold
    obtain ⟨ao, cap, rfl⟩ := hcs.slice
    by_cases h1 : cs.length = 1
    · obtain ⟨⟨st, I⟩, rfl⟩ : ∃ x, cs = [x] := List.length_eq_one_iff.1 h1
      have hgood := (parse_good hp (st, I) (by simp)).1
      have hl := bytesOf_len s
      have hI3 : I.length ≤ 1048576 := by simp only at hgood; omega
      obtain ⟨g, lv, rfl, hg, d0, d1, hI⟩ := hcs.at (k := 0) (st := st) (I := I) rfl
      obtain ⟨lo, lcap, rfl⟩ := row_slice hI
      have HI := hide hI
      have HFIN : Hid (Steady I → SteadyAns (.returned (.bool true)) (bytesOf s)) := fun h => ⟨_, rfl, fun _ => ⟨st, I, hp, h⟩⟩
      simp only [Nat.zero_mul, Nat.zero_add] at d0 d1
      simp only [List.length_singleton]
      clear hcs hgood hl hb hp HC h1 hI
      go_wp2_with fail
      go_loopw [6] (fun i wx => ∃ m : Nat, m ≤ I.length ∧ i = .int .i64 m ∧ w1 = wx ∧ Hid (Steady (I.take m))) (fun i _ => I.length - (intOf i).toNat)
      case atStart => exact ⟨0, Nat.zero_le _, rfl, rfl, fun x hx => by simp at hx⟩
      case round =>
        obtain ⟨m, hm, rfl, hww, hst⟩ := hrel
        subst hww
        by_cases hlt : m < I.length
        · obtain ⟨⟨c, a⟩, hy⟩ : ∃ x, I[m]? = some x := ⟨I[m], by simp [hlt]⟩
          obtain ⟨gi, rfl, hgi, e0, e1, e2⟩ := HI.out.at hy
          have hlt1 : (m : Int) < (I.length : Int) := by omega
          have HN : Hid (¬ c = 89 → ¬ c = 84 → ¬ c = 87 → Steady (I.take (m + 1))) := fun a1 a2 a3 => steady_snoc hst.out hy a1 a2 a3
          clear hst hy HI HFIN
          by_cases h89 : c = 89
          · have b1 : (c == 89) = true := by simp [h89]
            clear h89 HN
            go_wp2_with fail
            go_ret
            exact ⟨HF0.out, HB.out⟩
          · have b1 : (c == 89) = false := by simp [h89]
            by_cases h84 : c = 84
            · have b2 : (c == 84) = true := by simp [h84]
              clear h84 h89 HN
              go_wp2_with fail
              go_ret
              exact ⟨HF0.out, HB.out⟩
            · have b2 : (c == 84) = false := by simp [h84]
              by_cases h87 : c = 87
              · have b3 : (c == 87) = true := by simp [h87]
                clear h84 h89 h87 HN
                go_wp2_with fail
                go_ret
                exact ⟨HF0.out, HB.out⟩
              · have b3 : (c == 87) = false := by simp [h87]
                have HN2 := hide (HN.out h89 h84 h87)
                clear h84 h89 h87 HN
                go_wp2_with fail
                go_roundw
                case rel => exact ⟨m + 1, by omega, by go_num, by trivial, HN2.out⟩
                case measure => simp [intOf]; omega
        · obtain rfl : m = I.length := by omega
          have HT : Hid (Steady I) := by have := hst.out; rw [List.take_length] at this; exact this
          have hlt1 : ¬ (I.length : Int) < (I.length : Int) := by omega
          clear hst HI
          go_wp2_with fail
          go_ret
          exact ⟨HFIN.out HT.out, HB.out⟩
    · have hcl := parse_lenG hp
      have h2 : ((cs.length : Int) != 1) = true := by simp; omega
      generalize cs.length = cl at *
      clear hcs hb hp HC h1
      go_wp2_with fail
      go_ret
      exact ⟨HF0.out, HB.out⟩

set_option maxRecDepth 100000 in
set_option maxHeartbeats 4000000 in
theorem l_Alone (s : ByteArray) (q n r m : Int) (w : World) (hm : s.size ≤ maxLen) (hs : s.size ≤ 1048576) :
    Calls Try.prog 9 #[.string s, .int .i64 q, .int .i64 n, .int .i64 r, .int .i64 m] w fun e w' => e = .returned (.bool true) ∧ Below w.heap.size w w' := by
  have HM := hide (fun q n W => l_may s q n W hm)
  have HST := hide (fun W => l_steady s W hs)
  have HV := hide (fun q n (W : World) cs hg hp => view_ok (w := W) (n := n) (q := q) (cs := cs) hm hg hp)
  go_enter Try.func9, Try.ntmps9
  go_wp2_with fail
  refine (HM.out q n _).mono ?_
  rintro e w1 ⟨⟨b1, rfl, hm1⟩, hb1⟩
  have M1 := hide hm1
  have B1 := hide hb1
  clear hm1 hb1
  go_wp2_with fail
  refine (HM.out r m _).mono ?_
  rintro e w2 ⟨⟨b2, rfl, hm2⟩, hb2⟩
  have M2 := hide hm2
  have B2 := hide (B1.out.trans (hb2.mono B1.out.size))
  clear hm2 hb2 HM B1
  go_wp2_with fail
  refine (HST.out _).mono ?_
  rintro e w3 ⟨⟨b3, rfl, hm3⟩, hb3⟩
  have M3 := hide hm3
  have B3 := hide (B2.out.trans (hb3.mono B2.out.size))
  clear hm3 hb3 HST B2
  cases b1 with
  | false =>
    go_wp2_with fail
    go_ret
    exact ⟨rfl, B3.out⟩
  | true =>
    cases b2 with
    | false =>
      go_wp2_with fail
      go_ret
      exact ⟨rfl, B3.out⟩
    | true =>
      cases b3 with
      | false =>
        go_wp2_with fail
        go_ret
        exact ⟨rfl, B3.out⟩
      | true =>
        obtain ⟨r1, g1, e1⟩ := M1.out
        obtain ⟨r2, g2, e2⟩ := M2.out
        obtain ⟨st, I, pI, hSt⟩ := M3.out rfl
        have e1 := e1.1 rfl
        have e2 := e2.1 rfl
        subst e1
        subst e2
        obtain ⟨⟨i1, i2, i3, i4⟩, _, cs, p1, p2, p3⟩ := given_ok g1
        obtain ⟨⟨i5, i6, i7, i8⟩, _⟩ := given_ok g2
        rw [pI] at p1
        cases p1
        have hF := fine_of pI p2 p3
        obtain ⟨nn, rfl⟩ : ∃ nn : Nat, n = nn := ⟨n.toNat, by omega⟩
        obtain ⟨mm, rfl⟩ : ∃ mm : Nat, m = mm := ⟨m.toNat, by omega⟩
        obtain ⟨qq, rfl⟩ : ∃ qq : Nat, q = qq := ⟨q.toNat, by omega⟩
        obtain ⟨rr, rfl⟩ : ∃ rr : Nat, r = rr := ⟨r.toNat, by omega⟩
        have x1 : (qq : Int) * (nn : Int) = ((qq * nn : Nat) : Int) := by push_cast; rfl
        have x2 : (rr : Int) * (mm : Int) = ((rr * mm : Nat) : Int) := by push_cast; rfl
        have u1 : qq * nn ≤ 9 * 60 := Nat.mul_le_mul (by omega) (by omega)
        have u2 : rr * mm ≤ 9 * 60 := Nat.mul_le_mul (by omega) (by omega)
        have HL : Hid (qq * nn = rr * mm → Like (playM (codesOf [(st, I)]) 1 qq nn) (playM (codesOf [(st, I)]) 1 rr mm)) := fun h => alone_same hF hSt qq nn rr mm h
        have V1 := hide (fun W => HV.out qq nn W _ g1 pI)
        have V2 := hide (fun W => HV.out rr mm W _ g2 pI)
        simp only [Int.toNat_natCast, List.length_singleton] at V1 V2
        generalize qq * nn = P1 at *
        generalize rr * mm = P2 at *
        by_cases hPP : P1 = P2
        · have hl := HL.out hPP
          subst hPP
          have a1 := hl.out
          have a2 : ownL (playM (codesOf [(st, I)]) 1 rr mm) = ownL (playM (codesOf [(st, I)]) 1 qq nn) := by unfold ownL; rw [hl.own]
          have a3 : stsL 1 (playM (codesOf [(st, I)]) 1 rr mm) = stsL 1 (playM (codesOf [(st, I)]) 1 qq nn) := by unfold stsL; rw [hl.th]
          have a4 : celsL (playM (codesOf [(st, I)]) 1 rr mm) = celsL (playM (codesOf [(st, I)]) 1 qq nn) := by unfold celsL; rw [hl.cells]
          rw [a1, a2, a3, a4] at V2
          have zs := strOf_size (stsL 1 (playM (codesOf [(st, I)]) 1 qq nn))
          rw [stsL_len] at zs
          have HCL := hide (celsL_len (playM (codesOf [(st, I)]) 1 qq nn))
          generalize (playM (codesOf [(st, I)]) 1 qq nn) = m1 at *
          generalize (playM (codesOf [(st, I)]) 1 rr mm) = m2 at *
          generalize celsL m1 = CL at *
          generalize strOf m1.out = y1 at *
          generalize strOf m1.trc = y2 at *
          generalize strOf (stsL 1 m1) = y3 at *
          generalize strOf (ownL m1) = y4 at *
          generalize strOf m1.log = y5 at *
          generalize strOf m2.trc = z2 at *
          generalize strOf m2.log = z5 at *
          have ey : ((P1 : Int) != (P1 : Int)) = false := by simp
          have ez : ((y3.size : Int) != 1) = false := by simp; omega
          clear a1 a2 a3 a4 hl HL hF g1 g2 pI p2 p3 HV M1 M2 M3 hSt u2
          go_wp2_with fail
          refine (V1.out _).mono ?_
          rintro e w4 ⟨la, lc, rfl, ⟨ga, hsa⟩, hb4⟩
          have B4 := hide (B3.out.trans (hb4.mono B3.out.size))
          have HSA := hide hsa
          clear hb4 B3 V1 hsa
          go_wp2_with fail
          refine (V2.out _).mono ?_
          rintro e w5 ⟨la2, lc2, rfl, ⟨gb, hsb⟩, hb5⟩
          have B5 := hide (below_view B4.out hb5)
          have HSB := hide hsb
          obtain ⟨c0, c1, c2, c3, c4, c5, c6, c7⟩ := view_cells hb5
          have B6 : Hid (∀ o, Below w.heap.size w (w5.alloc o)) := fun o => B5.out.alloc B5.out.size o
          have HSA5 : Hid (SlAt w5 (.slice la 8 lc) CL ga) := HSA.out.kept (fun x hx => (hb5.block x (by have := HSA.out.lt x hx; simp; omega)).trans (((Below.refl w4.heap.size w4).alloc (Nat.le_refl _) _).block x (HSA.out.lt x hx)))
          clear hb5 B4 V2 B5 hsb HSA
          go_wp2_with fail
          obtain ⟨wV, hwV⟩ : ∃ wV, wV = w5.alloc (.cells #[.string y1, .string z2, .string y3, .string y4, .string z5, .slice la2 8 lc2, .bool true] 31) := ⟨_, rfl⟩
          have BV : Hid (Below w.heap.size w wV) := by rw [hwV]; exact B6.out _
          have b5 : Below w5.heap.size w5 wV := by rw [hwV]; exact (Below.refl w5.heap.size w5).alloc (Nat.le_refl _) _
          have HA := hide (HSA5.out.kept (w' := wV) (fun x hx => b5.block x (HSA5.out.lt x hx)))
          have HBB := hide (HSB.out.kept (w' := wV) (fun x hx => b5.block x (HSB.out.lt x hx)))
          have f0 : wV.cell? ⟨w4.heap.size, 0, none⟩ = some (.string y1) := by rw [b5.cell (p := ⟨w4.heap.size, 0, none⟩) c7]; exact c0
          have f2 : wV.cell? ⟨w4.heap.size, 2, none⟩ = some (.string y3) := by rw [b5.cell (p := ⟨w4.heap.size, 2, none⟩) c7]; exact c2
          have f3 : wV.cell? ⟨w4.heap.size, 3, none⟩ = some (.string y4) := by rw [b5.cell (p := ⟨w4.heap.size, 3, none⟩) c7]; exact c3
          have f5 : wV.cell? ⟨w4.heap.size, 5, none⟩ = some (.slice la 8 lc) := by rw [b5.cell (p := ⟨w4.heap.size, 5, none⟩) c7]; exact c5
          have h0 : wV.cell? ⟨w5.heap.size, 0, none⟩ = some (.string y1) := by rw [hwV, cell_of_row _ _ 0 _ _ _ (heap_alloc_new w5 _)]; rfl
          have h2 : wV.cell? ⟨w5.heap.size, 2, none⟩ = some (.string y3) := by rw [hwV, cell_of_row _ _ 2 _ _ _ (heap_alloc_new w5 _)]; rfl
          have h3 : wV.cell? ⟨w5.heap.size, 3, none⟩ = some (.string y4) := by rw [hwV, cell_of_row _ _ 3 _ _ _ (heap_alloc_new w5 _)]; rfl
          have h5 : wV.cell? ⟨w5.heap.size, 5, none⟩ = some (.slice la2 8 lc2) := by rw [hwV, cell_of_row _ _ 5 _ _ _ (heap_alloc_new w5 _)]; rfl
          rw [← hwV]
          have HC : Hid (∀ j, j < 8 → ∃ x A1 O1 A2 O2, la = some ⟨A1, O1, none⟩ ∧ la2 = some ⟨A2, O2, none⟩ ∧ wV.cell? ⟨A1, O1 + j, none⟩ = some (.int .i64 x) ∧ wV.cell? ⟨A2, O2 + j, none⟩ = some (.int .i64 x)) := fun j hj => by
            have hj' : j < CL.length := by rw [HCL.out]; exact hj
            obtain ⟨A1, O1, q1, _, _, q4⟩ := HA.out.cell (List.getElem?_eq_getElem hj')
            obtain ⟨A2, O2, p1, _, _, p4⟩ := HBB.out.cell (List.getElem?_eq_getElem hj')
            exact ⟨_, A1, O1, A2, O2, q1, p1, q4, p4⟩
          clear hwV B6 c0 c1 c2 c3 c4 c5 c6 c7 HA HBB b5 HSA5 HSB HCL
          go_loopw [16] (fun s wr => ∃ j nd : Nat, j ≤ 8 ∧ s = .int .i64 j ∧ wr = wV.drewN nd) (fun s _ => 8 - (intOf s).toNat)
          case atStart => exact ⟨0, 0, Nat.zero_le _, rfl, rfl⟩
          case round =>
            obtain ⟨j, nd, hj, rfl, rfl⟩ := hrel
            by_cases hlt : j < 8
            · obtain ⟨x, A1, O1, A2, O2, rfl, rfl, z1, zz2⟩ := HC.out j hlt
              have hlt1 : (j : Int) < 8 := by omega
              have ex : (x != x) = false := by simp
              have q0 : decide ((j : Int) < 0) = false := by simp
              have q1 : decide ((8 : Int) ≤ (j : Int)) = false := by simp; omega
              clear HC
              go_wp2_with fail
              go_quiet (fail)
              go_wp2_with fail
              go_roundw
              case rel => exact ⟨j + 1, _, by omega, by go_num, by first | rfl | trivial | simp⟩
              case measure => simp [intOf]; omega
            · obtain rfl : j = 8 := by omega
              go_wp2_with fail
              go_ret
              exact ⟨by simp, below_drewN BV.out _⟩
        · have ey : ((P1 : Int) != (P2 : Int)) = true := by simp; omega
          clear HL hF g1 g2 pI p2 p3 HV M1 M2 M3 V1 V2 hPP
          go_wp2_with fail
          go_ret
          exact ⟨rfl, B3.out⟩

end Go.Proofs.Ytjbmflgamogefaa
