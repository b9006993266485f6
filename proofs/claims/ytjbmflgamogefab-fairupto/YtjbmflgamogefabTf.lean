/- greenlaw's Fair. -/
import Derived.Test.YtjbmflgamogefabTc
namespace Go.Proofs.Ytjbmflgamogefab
open Go.RowKit

/-- How many threads a text has. -/
def thrOf (T : List Int) : Nat := match parse T with | .inl _ => 0 | .inr cs => cs.length
set_option maxHeartbeats 1000000 in
theorem l_threadsB (s : ByteArray) (w : World) (hs : s.size ≤ 1048576) :
    Calls Try.prog 7 #[.string s] w fun e w' => e = .returned (.int .i64 (thrOf (bytesOf s) : Nat)) ∧ Below w.heap.size w w' := by
  have HC := hide (r_Read s w hs)
  unfold thrOf
  cases hp : parse (bytesOf s) with
  | inl j =>
    rw [hp] at HC
    go_enter Try.func7, Try.ntmps7
    go_wp2_with fail
    refine HC.out.mono ?_
    rintro e w1 ⟨htold, hb⟩
    have he : e = .returned (.tuple #[.slice none 0 0, .int .i64 j, .bool false]) := htold
    subst he
    have HB := hide hb
    clear htold hb HC
    go_wp2_with fail
    go_ret
    exact ⟨rfl, HB.out⟩
  | inr cs =>
    rw [hp] at HC
    go_enter Try.func7, Try.ntmps7
    go_wp2_with fail
    refine HC.out.mono ?_
    rintro e w1 ⟨⟨v, rfl, hv⟩, hb⟩
    have HB := hide hb
    obtain ⟨va, vc, rfl⟩ := hv.slice
    clear hv hb HC
    go_wp2_with fail
    go_ret
    exact ⟨rfl, HB.out⟩
theorem check_ok {T : List Int} {r : Int × Int} (h : CheckRel T r) (h0 : r.1 = 0) : 0 < thrOf T := by
  unfold CheckRel at h
  split at h
  · rw [h] at h0; simp at h0
  · unfold thrOf
    cases hp : parse T with
    | inl j => rw [hp] at h; simp only at h; rw [h] at h0; simp at h0
    | inr cs => exact parse_ne hp
theorem thr_le (T : List Int) : thrOf T ≤ 4 := by
  unfold thrOf
  cases hp : parse T with
  | inl j => simp
  | inr cs => exact parse_lenG hp
theorem cnt_pos : ∀ {l : List Int} {c : Int}, c ∈ l → 0 < cnt l c := fun {l c} h => by
  unfold cnt
  exact List.length_pos_of_mem (List.mem_filter.2 ⟨h, by simp⟩)

/-- All that Fair meets of the machine, by the number of quanta behind n. -/
structure FairD where
  xo : Nat → ByteArray
  xt : Nat → ByteArray
  xs : Nat → ByteArray
  xw : Nat → ByteArray
  xl : Nat → ByteArray
  st : Nat → Nat → Int
  fx : List Int
  xd : ByteArray
structure FairOk (D : FairD) (s : ByteArray) (q : Int) (nn kk : Nat) : Prop where
  view : ∀ j, j ≤ kk → ∀ W, Calls Try.prog 11 #[.string s, .int .i64 q, .int .i64 ((nn : Int) + (j : Int))] W fun e w' => ∃ la lc, e = .returned (.agg #[.string (D.xo j), .string (D.xt j), .string (D.xs j), .string (D.xw j), .string (D.xl j), .slice la 8 lc, .bool true]) ∧ Below W.heap.size W w'
  slen : ∀ j, j ≤ kk → (D.xs j).size = kk
  sbyte : ∀ j, j ≤ kk → ∀ i, i < kk → ∀ hlt, (((D.xs j)[i]'hlt).toNat : Int) = D.st j i
  tlen : (D.xt kk).size = nn + kk
  drp : (D.xt kk).extract nn (nn + kk) = D.xd
  count : ∀ c W, Calls Try.prog 12 #[.string D.xd, .int .u8 c] W fun e w' => e = .returned (.int .i64 (cnt D.fx c : Nat)) ∧ w' = W
  cle : ∀ c, cnt D.fx c ≤ kk
  fair : ∀ i, i < kk → D.st 0 i = 82 → 0 < cnt D.fx (48 + (i : Int))
theorem given_move {T : List Int} {q n n' : Int} (h : GivenRel T q n (0, 0)) (hn : 0 ≤ n' ∧ n' ≤ 60) : GivenRel T q n' (0, 0) := by
  obtain ⟨⟨h1, h2, _, _⟩, _⟩ := given_ok h
  obtain ⟨c, h3, h4⟩ := h
  rcases h4 with ⟨a, b⟩ | ⟨_, _, b⟩ | ⟨a, _, _⟩
  · rw [← b] at a; exact absurd rfl a
  · simp at b
  · exact ⟨c, h3, .inr (.inr ⟨a, ⟨h1, h2, hn.1, hn.2⟩, rfl⟩)⟩
theorem fair_data {s : ByteArray} {q : Int} {nn kk : Nat} {cs : Cods} (hkk : cs.length = kk) (hm : s.size ≤ maxLen) (hg : GivenRel (bytesOf s) q nn (0, 0)) (hp : parse (bytesOf s) = .inr cs) (hF : Fine (codesOf cs) cs.length) (hlen : cs.length ≤ 4) (h60 : (nn : Int) + (kk : Int) ≤ 60) : ∃ D : FairD, FairOk D s q nn kk := by
  subst hkk
  obtain ⟨_, fx, _, hfx⟩ := play_grows hF q.toNat nn cs.length
  have t1 := play_trc_len hF q.toNat nn
  have t2 := play_trc_len hF q.toNat (nn + cs.length)
  have hfl : fx.length = cs.length := by rw [hfx, List.length_append, t1] at t2; omega
  have htb := trc_of hF hlen q.toNat (nn + cs.length)
  have hbd : bytesOf (strOf fx) = fx := bytes_strOf (fun x hx => htb x (by rw [hfx]; exact List.mem_append.2 (.inr hx)))
  refine ⟨⟨fun j => strOf (playM (codesOf cs) cs.length q.toNat (nn + j)).out, fun j => strOf (playM (codesOf cs) cs.length q.toNat (nn + j)).trc, fun j => strOf (stsL cs.length (playM (codesOf cs) cs.length q.toNat (nn + j))), fun j => strOf (ownL (playM (codesOf cs) cs.length q.toNat (nn + j))), fun j => strOf (playM (codesOf cs) cs.length q.toNat (nn + j)).log, fun j i => ((playM (codesOf cs) cs.length q.toNat (nn + j)).th i).sta, fx, strOf fx⟩, ?_⟩
  constructor
  · intro j hj W
    refine (view_ok (w := W) (n := (nn : Int) + (j : Int)) hm (given_move hg ⟨by omega, by omega⟩) hp).mono ?_
    rintro e w' ⟨la, lc, h1, _, hb⟩
    have e1 : ((nn : Int) + (j : Int)).toNat = nn + j := by omega
    rw [e1] at h1
    exact ⟨la, lc, h1, hb⟩
  · intro j _
    rw [strOf_size, stsL_len]
  · intro j _ i hi hlt
    exact byte_of (sts_bytes hF q.toNat (nn + j)) (stsL_of _ hi) hlt
  · rw [strOf_size, t2]
  · have hdr := drop_str (playM (codesOf cs) cs.length q.toNat nn).trc fx
    rw [← hfx, t1, strOf_size, t2] at hdr
    exact hdr
  · intro c W
    have h := l_count (strOf fx) c W (by rw [strOf_size, hfl]; unfold maxLen; omega)
    rw [hbd] at h
    exact h
  · intro c
    have := cnt_le fx c
    show cnt fx c ≤ _
    omega
  · intro i hi hs
    have h := play_fair hF q.toNat nn i hi hs
    rw [drop_mid hfx t1] at h
    exact cnt_pos h

set_option maxRecDepth 100000 in
set_option maxHeartbeats 4000000 in
theorem l_Fair (s : ByteArray) (q n : Int) (w : World) (hm : s.size ≤ maxLen) (hs : s.size ≤ 1048576) :
    Calls Try.prog 3 #[.string s, .int .i64 q, .int .i64 n] w fun e w' => e = .returned (.bool true) ∧ Below w.heap.size w w' := by
  have HM := hide (fun n W => l_may s q n W hm)
  have HTH := hide (fun W => l_threadsB s W hs)
  have HCK := hide (fun W => g_Check s W hm)
  have HV := hide (fun n (W : World) cs hg hp => view_ok (w := W) (n := n) (q := q) (cs := cs) hm hg hp)
  have HOK : Hid (∀ r, CheckRel (bytesOf s) r → r.1 = 0 → 0 < thrOf (bytesOf s)) := fun r h h0 => check_ok h h0
  have HTO : Hid (∀ cs, parse (bytesOf s) = .inr cs → thrOf (bytesOf s) = cs.length) := fun cs h => by unfold thrOf; rw [h]
  have hk4 := thr_le (bytesOf s)
  generalize thrOf (bytesOf s) = kk at *
  go_enter Try.func3, Try.ntmps3
  go_wp2_with fail
  refine (HTH.out _).mono ?_
  rintro e w0 ⟨rfl, hb0⟩
  have B0 := hide hb0
  clear hb0 HTH
  go_wp2_with fail
  refine (HM.out n _).mono ?_
  rintro e w1 ⟨⟨b1, rfl, hm1⟩, hb1⟩
  have M1 := hide hm1
  have B1 := hide (B0.out.trans (hb1.mono B0.out.size))
  clear hm1 hb1 B0
  cases b1 with
  | false =>
    go_wp2_with fail
    refine (HM.out _ _).mono ?_
    rintro e w2 ⟨⟨b2, rfl, hm2⟩, hb2⟩
    have B2 := hide (B1.out.trans (hb2.mono B1.out.size))
    clear hm2 hb2 HM B1
    go_wp2_with fail
    refine (HCK.out _).mono ?_
    rintro e w3 ⟨⟨r1, r2⟩, hr, rfl, hb3⟩
    have B3 := hide (B2.out.trans (hb3.mono B2.out.size))
    have HR : Hid (r1 = 0 → 0 < kk) := fun h => HOK.out _ hr h
    clear hr hb3 HCK B2 HOK
    by_cases hz : r1 = 0
    · have hk := HR.out hz
      have hz1 : (r1 != 0) = false := by simp [hz]
      have hk1 : decide ((0 : Int) < (kk : Int)) = true := by simp; omega
      clear hz HR
      go_wp2_with (go_at_call 10; refine (l_num0 _ _).mono ?_; rintro e w' ⟨rfl, rfl⟩)
      go_ret
      exact ⟨by first | rfl | (simp; done) | (simp; omega), B3.out⟩
    · have hz1 : (r1 != 0) = true := by simp [hz]
      clear hz HR
      go_wp2_with (go_at_call 10; refine (l_num0 _ _).mono ?_; rintro e w' ⟨rfl, rfl⟩)
      go_ret
      exact ⟨rfl, B3.out⟩
  | true =>
    obtain ⟨ra, g1, e1⟩ := M1.out
    have e1 := e1.1 rfl
    subst e1
    obtain ⟨⟨i1, i2, i3, i4⟩, hT, cs, p1, p2, p3⟩ := given_ok g1
    have hkc := HTO.out cs p1
    subst hkc
    have hk0 : 0 < cs.length := parse_ne p1
    obtain ⟨nn, rfl⟩ : ∃ nn : Nat, n = nn := ⟨n.toNat, by omega⟩
    have P1 := hide p1
    have P2 := hide p2
    have P3 := hide p3
    have G1 := hide g1
    clear p1 p2 p3 g1 HTO M1
    generalize hkk : cs.length = kk at *
    have HKK := hide hkk
    clear hkk
    go_wp2_with fail
    refine (HM.out _ _).mono ?_
    rintro e w2 ⟨⟨b2, rfl, hm2⟩, hb2⟩
    have B2 := hide (B1.out.trans (hb2.mono B1.out.size))
    have M2 := hide hm2
    clear hm2 hb2 HM B1
    cases b2 with
    | false =>
      go_wp2_with fail
      refine (HCK.out _).mono ?_
      rintro e w3 ⟨⟨r1, r2⟩, hr, rfl, hb3⟩
      have B3 := hide (B2.out.trans (hb3.mono B2.out.size))
      clear hr hb3 HCK B2 HOK
      by_cases hz : r1 = 0
      · have hz1 : (r1 != 0) = false := by simp [hz]
        have hk1 : decide ((0 : Int) < (kk : Int)) = true := by simp; omega
        clear hz
        go_wp2_with (go_at_call 10; refine (l_num0 _ _).mono ?_; rintro e w' ⟨rfl, rfl⟩)
        go_ret
        exact ⟨by first | rfl | (simp; done) | (simp; omega), B3.out⟩
      · have hz1 : (r1 != 0) = true := by simp [hz]
        clear hz
        go_wp2_with (go_at_call 10; refine (l_num0 _ _).mono ?_; rintro e w' ⟨rfl, rfl⟩)
        go_ret
        exact ⟨rfl, B3.out⟩
    | true =>
      obtain ⟨rb, g2, e2⟩ := M2.out
      have e2 := e2.1 rfl
      subst e2
      obtain ⟨⟨_, _, _, i6⟩, _⟩ := given_ok g2
      have hF := fine_of P1.out P2.out P3.out
      have hlen := parse_lenG P1.out
      obtain ⟨D, hD⟩ := fair_data HKK.out hm G1.out P1.out hF hlen i6
      have HD := hide hD
      clear HV HCK HOK g2 hF hlen hD P1 P2 P3 G1 M2 HKK
      have hT1 : (((D.xt kk).size : Int) != (nn : Int) + (kk : Int)) = false := by have := HD.out.tlen; simp; omega
      have VL := hide (fun W => HD.out.view kk (Nat.le_refl _) W)
      have HTL := hide HD.out.tlen
      have HDR := hide HD.out.drp
      generalize hXT : D.xt kk = XT at *
      clear hXT
      have htl := HTL.out
      go_wp2_with fail
      refine (VL.out _).mono ?_
      rintro e w3 ⟨la, lc, rfl, hb3⟩
      have B3 := hide (B2.out.trans (hb3.mono B2.out.size))
      clear hb3 B2 VL
      go_wp2_with fail
      obtain ⟨wV, hwV⟩ : ∃ wV, wV = w3.alloc (.cells #[.string (D.xo kk), .string XT, .string (D.xs kk), .string (D.xw kk), .string (D.xl kk), .slice la 8 lc, .bool true] 30) := ⟨_, rfl⟩
      have BV : Hid (Below w.heap.size w wV) := by rw [hwV]; exact B3.out.alloc B3.out.size _
      have v1 : wV.cell? ⟨w3.heap.size, 1, none⟩ = some (.string XT) := by rw [hwV, cell_of_row _ _ 1 _ _ _ (heap_alloc_new w3 _)]; rfl
      have vb : w3.heap.size < wV.heap.size := by rw [hwV]; simp
      rw [← hwV]
      clear hwV B3
      go_loopw [13] (fun s wr => ∃ i : Nat, i ≤ kk ∧ s = .int .i64 i ∧ Below wV.heap.size wV wr) (fun s _ => kk - (intOf s).toNat)
      case atStart => exact ⟨0, Nat.zero_le _, rfl, Below.refl _ _⟩
      case round =>
        obtain ⟨i, hi, rfl, hbo⟩ := hrel
        have HBO := hide hbo
        clear hbo
        by_cases hlt : i < kk
        · have hlt1 : (i : Int) < (kk : Int) := by omega
          go_wp2_with fail
          go_loopw [14, 15] (fun a s wx => ∃ (j : Nat) (b : Bool), j ≤ kk + 1 ∧ a = .bool b ∧ s = .int .i64 j ∧ Below wV.heap.size wV wx ∧ Hid (b = true → 1 ≤ j → D.st 0 i = 82)) (fun _ s _ => kk + 1 - (intOf s).toNat)
          case atStart => exact ⟨0, true, Nat.zero_le _, rfl, rfl, HBO.out, fun _ h => by omega⟩
          case round =>
            obtain ⟨j, b, hj, rfl, rfl, hbj, hst⟩ := hrel
            have HBJ := hide hbj
            clear hbj
            by_cases hjk : j ≤ kk
            · have hjk1 : (j : Int) ≤ (kk : Int) := by omega
              have VJ := hide (fun W => HD.out.view j hjk W)
              have hsz := HD.out.slen j hjk
              have his : i < (D.xs j).size := by omega
              have a1 := HD.out.sbyte j hjk i hlt his
              have HJ0 : Hid (j = 0 → D.st j i = D.st 0 i) := fun e => by rw [e]
              generalize D.st j i = y at *
              generalize D.xs j = xs at *
              generalize D.xt j = xt at *
              have hsz1 : ((xs.size : Int) != (kk : Int)) = false := by simp; omega
              have hsx : (i : Int) < (xs.size : Int) := by omega
              clear HD HTL HDR
              go_wp2_with fail
              refine (VJ.out _).mono ?_
              rintro e w4 ⟨la2, lc2, rfl, hb4⟩
              have HB4 : Hid (∀ o, Below wV.heap.size wV (w4.alloc o)) := fun o => (HBJ.out.trans (hb4.mono HBJ.out.size)).alloc (HBJ.out.trans (hb4.mono HBJ.out.size)).size o
              clear hb4 VJ
              by_cases hy : y = 82
              · have hy1 : (y != 82) = false := by simp [hy]
                have HN : Hid (b = true → 1 ≤ j + 1 → D.st 0 i = 82) := fun hb _ => by
                  by_cases h0 : j = 0
                  · rw [← HJ0.out h0]; exact hy
                  · exact hst.out hb (by omega)
                clear hy hst HJ0
                go_wp2_with fail
                go_roundw
                case rel => exact ⟨j + 1, b, by omega, rfl, by go_num, HB4.out _, HN.out⟩
                case measure => simp [intOf]; omega
              · have hy1 : (y != 82) = true := by simp [hy]
                clear hy hst HJ0
                go_wp2_with fail
                go_roundw
                case rel => exact ⟨j + 1, false, by omega, rfl, by go_num, HB4.out _, fun h => by cases h⟩
                case measure => simp [intOf]; omega
            · obtain rfl : j = kk + 1 := by omega
              have hjk1 : ¬ ((kk + 1 : Nat) : Int) ≤ (kk : Int) := by omega
              cases b with
              | false =>
                clear hst HD HDR
                go_wp2_with fail
                go_roundw
                case rel => exact ⟨i + 1, by omega, by go_num, HBJ.out⟩
                case measure => simp [intOf]; omega
              | true =>
                have hpos := HD.out.fair i hlt (hst.out rfl (by omega))
                have hle := HD.out.cle (48 + (i : Int))
                have C1 := hide (fun W => HD.out.count (48 + (i : Int)) W)
                have hdr := HDR.out
                have v1r : wr.cell? ⟨w3.heap.size, 1, none⟩ = some (.string XT) := by rw [HBJ.out.cell (p := ⟨w3.heap.size, 1, none⟩) vb]; exact v1
                have vbr : w3.heap.size < wr.heap.size := Nat.lt_of_lt_of_le vb HBJ.out.size
                generalize cnt D.fx (48 + (i : Int)) = cc at *
                generalize D.xd = xd at *
                have hc0 : ((cc : Int) == 0) = false := by simp; omega
                have hw8 : IntKind.u8.wrap (48 + (i : Int)) = 48 + (i : Int) := wrap_u8 (by omega) (by omega)
                clear hst HD HDR
                go_wp2_with (go_at_call 12; refine (C1.out _).mono ?_; rintro e w' ⟨rfl, h'⟩; replace h' := h'.symm; subst h')
                go_roundw
                case rel => exact ⟨i + 1, by omega, by go_num, HBJ.out⟩
                case measure => simp [intOf]; omega
        · obtain rfl : i = kk := by omega
          have hlt1 : ¬ (i : Int) < (i : Int) := by omega
          have HBW := hide (BV.out.trans (HBO.out.mono BV.out.size))
          clear HD HTL HDR
          go_wp2_with fail
          go_ret
          exact ⟨rfl, HBW.out⟩

end Go.Proofs.Ytjbmflgamogefab
