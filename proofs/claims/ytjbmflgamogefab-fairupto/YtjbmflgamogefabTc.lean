/- greenlaw's Caught. -/
import Derived.Test.YtjbmflgamogefabTg
import Derived.Test.YtjbmflgamogefabMachA
namespace Go.Proofs.Ytjbmflgamogefab
open Go.RowKit

theorem drop_str (a b : List Int) : (strOf (a ++ b)).extract a.length (strOf (a ++ b)).size = strOf b := by
  have h : ((strOf (a ++ b)).extract a.length (strOf (a ++ b)).size).data = (strOf b).data := by
    simp [strOf, ByteArray.data_extract, ByteArray.size]
    rw [List.take_of_length_le (by simp)]
  cases h1 : (strOf (a ++ b)).extract a.length (strOf (a ++ b)).size
  cases h2 : strOf b
  rw [h1, h2] at h
  simp only at h
  rw [h]
theorem byte_of {l : List Int} (h : ∀ x ∈ l, 0 ≤ x ∧ x < 256) {k : Nat} {x : Int} (hk : l[k]? = some x) (hlt : k < (strOf l).size) : (((strOf l)[k]'hlt).toNat : Int) = x := by
  have h1 := bytesOf_get (strOf l) k hlt
  rw [bytes_strOf h, hk] at h1
  simp at h1
  exact h1.symm
theorem stsL_of (m : Mac) {n k : Nat} (h : k < n) : (stsL n m)[k]? = some (m.th k).sta := by simp [stsL, h]
theorem trc_of {C : Nat → List In} {n : Nat} (hF : Fine C n) (hn : n ≤ 4) (q : Nat) : ∀ i, ∀ x ∈ (playM C n q i).trc, 0 ≤ x ∧ x < 256
  | 0 => fun x hx => by simp [playM, beginM] at hx
  | i + 1 => fun x hx => by
    rcases (play_turned hF q i).who with ⟨h, _⟩ | ⟨k, hk, h, _⟩
    · rw [h] at hx
      rcases List.mem_append.1 hx with e | e
      · exact trc_of hF hn q i x e
      · simp at e; omega
    · rw [h] at hx
      rcases List.mem_append.1 hx with e | e
      · exact trc_of hF hn q i x e
      · simp at e; omega
theorem cnt_no : ∀ (l : List Int) (c : Int), ¬ c ∈ l → cnt l c = 0
  | [], _, _ => rfl
  | x :: t, c, h => by
    have ih := cnt_no t c (fun hy => h (List.mem_cons_of_mem _ hy))
    have : ¬ x = c := fun e => h (by rw [e]; exact List.mem_cons_self ..)
    unfold cnt at *
    simp only [List.filter_cons]
    simp [this]; simpa using ih
/-- What the loop over the log asks of its next sign. -/
theorem okL_at {P : Int → Prop} {l : List Int} {i : Nat} {b : Bool} {x : Int} (h : okL P b (l.drop i)) (hx : l[i]? = some x) : (b = true → ¬ x = 32 → P x) ∧ okL P (if x = 58 then true else if x = 32 then false else b) (l.drop (i + 1)) := by
  have hlt := (List.getElem?_eq_some_iff.1 hx).1
  have e : l.drop i = x :: l.drop (i + 1) := by
    rw [List.drop_eq_getElem_cons hlt]
    congr 1
    have := (List.getElem?_eq_some_iff.1 hx).2
    exact this
  rw [e] at h
  exact h
theorem okL_end {P : Int → Prop} {l : List Int} {i : Nat} {b : Bool} (h : okL P b (l.drop i)) (hi : l.length ≤ i) : b = false := by
  rw [List.drop_eq_nil_of_le hi] at h
  exact h

set_option maxRecDepth 100000 in
set_option maxHeartbeats 4000000 in
theorem l_Caught (s : ByteArray) (q n m : Int) (w : World) (hm : s.size ≤ maxLen) :
    Calls Try.prog 4 #[.string s, .int .i64 q, .int .i64 n, .int .i64 m] w fun e w' => e = .returned (.bool true) ∧ Below w.heap.size w w' := by
  have HM := hide (fun n W => l_may s q n W hm)
  have HV := hide (fun n (W : World) cs hg hp => view_ok (w := W) (n := n) (q := q) (cs := cs) hm hg hp)
  go_enter Try.func4, Try.ntmps4
  go_wp2_with fail
  refine (HM.out n _).mono ?_
  rintro e w1 ⟨⟨b1, rfl, hm1⟩, hb1⟩
  have M1 := hide hm1
  have B1 := hide hb1
  clear hm1 hb1
  go_wp2_with fail
  refine (HM.out m _).mono ?_
  rintro e w2 ⟨⟨b2, rfl, hm2⟩, hb2⟩
  have M2 := hide hm2
  have B2 := hide (B1.out.trans (hb2.mono B1.out.size))
  clear hm2 hb2 HM B1
  cases b1 with
  | false =>
    go_wp2_with fail
    go_ret
    exact ⟨rfl, B2.out⟩
  | true =>
    cases b2 with
    | false =>
      go_wp2_with fail
      go_ret
      exact ⟨rfl, B2.out⟩
    | true =>
      by_cases hnm : m < n
      · go_wp2_with fail
        go_ret
        exact ⟨rfl, B2.out⟩
      · obtain ⟨r1, g1, e1⟩ := M1.out
        obtain ⟨r2, g2, e2⟩ := M2.out
        have e1 := e1.1 rfl
        have e2 := e2.1 rfl
        subst e1
        subst e2
        obtain ⟨⟨i1, i2, i3, i4⟩, hT, cs, p1, p2, p3⟩ := given_ok g1
        obtain ⟨⟨_, _, i5, i6⟩, _⟩ := given_ok g2
        have hF := fine_of p1 p2 p3
        have hlen := parse_lenG p1
        have hl := bytesOf_len s
        have HTH := hide (fun W => l_threads s W cs (by omega) p1)
        obtain ⟨nn, rfl⟩ : ∃ nn : Nat, n = nn := ⟨n.toNat, by omega⟩
        obtain ⟨dd, rfl⟩ : ∃ dd : Nat, m = ((nn + dd : Nat) : Int) := ⟨(m - nn).toNat, by omega⟩
        have V1 := hide (fun W => HV.out nn W cs g1 p1)
        have V2 := hide (fun W => HV.out ((nn + dd : Nat) : Int) W cs g2 p1)
        simp only [Int.toNat_natCast] at V1 V2
        have t1 := play_trc_len hF q.toNat nn
        have t2 := play_trc_len hF q.toNat (nn + dd)
        obtain ⟨_, fx, _, hfx⟩ := play_grows hF q.toNat nn dd
        have hok := play_log_ok hF q.toNat nn dd nn (Nat.le_refl _)
        have hsb1 := sts_bytes hF q.toNat nn
        have hsb2 := sts_bytes hF q.toNat (nn + dd)
        have htb := trc_of hF hlen q.toNat (nn + dd)
        have hlb := play_log_bytes (codesOf cs) cs.length q.toNat nn
        have hll := play_log_len (codesOf cs) cs.length q.toNat nn
        have hdr := drop_str (playM (codesOf cs) cs.length q.toNat nn).trc fx
        rw [← hfx, t1, strOf_size, t2] at hdr
        have hbd : bytesOf (strOf fx) = fx := bytes_strOf (fun x hx => htb x (by rw [hfx]; exact List.mem_append.2 (.inr hx)))
        have hfl : fx.length = dd := by rw [hfx, List.length_append, t1] at t2; omega
        have HP : Hid (∀ c, CaughtAt (codesOf cs) cs.length q.toNat nn (nn + dd) c → ∃ t : Nat, c = 48 + (t : Int) ∧ t < cs.length ∧ ((playM (codesOf cs) cs.length q.toNat nn).th t).sta = 66 ∧ ((playM (codesOf cs) cs.length q.toNat (nn + dd)).th t).sta = 66 ∧ cnt fx c = 0) := fun c ⟨t, a1, a2, a3, a4, a5⟩ => ⟨t, a1, a2, a3, a4, cnt_no _ _ (by
          rw [drop_mid hfx t1] at a5
          exact a5)⟩
        generalize CaughtAt (codesOf cs) cs.length q.toNat nn (nn + dd) = P at *
        have z1 := strOf_size (stsL cs.length (playM (codesOf cs) cs.length q.toNat nn))
        have z2 := strOf_size (stsL cs.length (playM (codesOf cs) cs.length q.toNat (nn + dd)))
        rw [stsL_len] at z1 z2
        have s2 := strOf_size (playM (codesOf cs) cs.length q.toNat (nn + dd)).trc
        rw [t2] at s2
        have s3 := strOf_size (playM (codesOf cs) cs.length q.toNat nn).log
        generalize (playM (codesOf cs) cs.length q.toNat nn) = m1 at *
        generalize (playM (codesOf cs) cs.length q.toNat (nn + dd)) = m2 at *
        have S1 : Hid (∀ k, k < cs.length → ∀ hlt, (((strOf (stsL cs.length m1))[k]'hlt).toNat : Int) = (m1.th k).sta) := fun k h hlt => byte_of hsb1 (stsL_of _ h) hlt
        have S2 : Hid (∀ k, k < cs.length → ∀ hlt, (((strOf (stsL cs.length m2))[k]'hlt).toNat : Int) = (m2.th k).sta) := fun k h hlt => byte_of hsb2 (stsL_of _ h) hlt
        have S3 : Hid (∀ (k : Nat) (x : Int), m1.log[k]? = some x → ∀ hlt : k < (strOf m1.log).size, (((strOf m1.log)[k]'hlt).toNat : Int) = x) := fun k x h hlt => byte_of hlb h hlt
        have HCO := hide (fun c W => l_count (strOf fx) c W (by rw [strOf_size, hfl]; unfold maxLen; omega))
        rw [hbd] at HCO
        have HOK := hide hok
        have HLG := hide s3
        generalize hLG : m1.log = LG at *
        generalize strOf LG = x6 at *
        generalize strOf fx = xd at *
        generalize strOf m2.trc = x2 at *
        generalize strOf m1.trc = x1 at *
        generalize strOf (stsL cs.length m1) = x3 at *
        generalize strOf (stsL cs.length m2) = y3 at *
        generalize strOf (ownL m1) = x4 at *
        generalize strOf (ownL m2) = y4 at *
        generalize strOf m1.out = x5 at *
        generalize strOf m2.out = y5 at *
        generalize strOf m2.log = y6 at *
        generalize cs.length = kk at *
        clear hok hsb1 hsb2 htb hlb hbd g1 g2 p1 p2 p3 hF M1 M2 HV t1 t2 hl hT hLG hfx hfl
        go_wp2_with fail
        refine (HTH.out _).mono ?_
        rintro e w3 ⟨rfl, hb3⟩
        have B3 := hide (B2.out.trans (hb3.mono B2.out.size))
        clear hb3 B2 HTH
        go_wp2_with fail
        refine (V1.out _).mono ?_
        rintro e w4 ⟨la, lc, rfl, _, hb4⟩
        have B4 := hide (B3.out.trans (hb4.mono B3.out.size))
        clear hb4 B3 V1
        go_wp2_with fail
        refine (V2.out _).mono ?_
        rintro e w5 ⟨la2, lc2, rfl, _, hb5⟩
        have B5 := hide (below_view B4.out hb5)
        obtain ⟨c0, c1, c2, c3, c4, c5, c6, c7⟩ := view_cells hb5
        have B6 : Hid (∀ o, Below w.heap.size w (w5.alloc o)) := fun o => B5.out.alloc B5.out.size o
        clear hb5 B4 V2 B5
        go_wp2_with fail
        obtain ⟨wV, hwV⟩ : ∃ wV, wV = w5.alloc (.cells #[.string y5, .string x2, .string y3, .string y4, .string y6, .slice la2 8 lc2, .bool true] 30) := ⟨_, rfl⟩
        have BV : Hid (Below w.heap.size w wV) := by rw [hwV]; exact B6.out _
        have v2 : wV.cell? ⟨w4.heap.size, 2, none⟩ = some (.string x3) := by rw [hwV, ((Below.refl w5.heap.size w5).alloc (Nat.le_refl _) _).cell (p := ⟨w4.heap.size, 2, none⟩) c7]; exact c2
        have v4 : wV.cell? ⟨w4.heap.size, 4, none⟩ = some (.string x6) := by rw [hwV, ((Below.refl w5.heap.size w5).alloc (Nat.le_refl _) _).cell (p := ⟨w4.heap.size, 4, none⟩) c7]; exact c4
        have v3 : wV.cell? ⟨w5.heap.size, 2, none⟩ = some (.string y3) := by rw [hwV, cell_of_row _ _ 2 _ _ _ (heap_alloc_new w5 _)]; rfl
        have v1 : wV.cell? ⟨w5.heap.size, 1, none⟩ = some (.string x2) := by rw [hwV, cell_of_row _ _ 1 _ _ _ (heap_alloc_new w5 _)]; rfl
        rw [← hwV]
        clear hwV B6 c0 c1 c2 c3 c4 c5 c6 c7
        go_loopw [14, 15] (fun l s wr => ∃ (i : Nat) (b : Bool), i ≤ LG.length ∧ l = .bool b ∧ s = .int .i64 i ∧ wr = wV ∧ okL P b (LG.drop i)) (fun _ s _ => LG.length - (intOf s).toNat)
        case atStart => exact ⟨0, false, Nat.zero_le _, rfl, rfl, rfl, HOK.out⟩
        case round =>
          obtain ⟨i, b, hi, rfl, rfl, rfl, hokk⟩ := hrel
          have hlg := HLG.out
          by_cases hlt : i < LG.length
          · obtain ⟨x, hx⟩ : ∃ x, LG[i]? = some x := ⟨LG[i], by simp [hlt]⟩
            have his : i < x6.size := by omega
            have a1 := S3.out i x hx his
            obtain ⟨k1, k2⟩ := okL_at hokk hx
            have K2 := hide k2
            have HPX := hide k1
            clear k1 k2 hokk hx S3 HOK
            have hlt1 : (i : Int) < (x6.size : Int) := by omega
            cases b with
            | false =>
              clear HPX HP S1 S2 HCO
              by_cases h58 : x = 58
              · subst h58
                go_wp2_with fail
                go_roundw
                case rel => exact ⟨i + 1, true, by omega, rfl, by go_num, by trivial, K2.out⟩
                case measure => simp [intOf]; omega
              · have h58b : (x == 58) = false := by simp [h58]
                by_cases h32 : x = 32
                · subst h32
                  go_wp2_with fail
                  go_roundw
                  case rel => exact ⟨i + 1, false, by omega, rfl, by go_num, by trivial, K2.out⟩
                  case measure => simp [intOf]; omega
                · have h32b : (x == 32) = false := by simp [h32]
                  rw [if_neg h58, if_neg h32] at K2
                  go_wp2_with fail
                  go_roundw
                  case rel => exact ⟨i + 1, false, by omega, rfl, by go_num, by trivial, K2.out⟩
                  case measure => simp [intOf]; omega
            | true =>
              by_cases h32 : x = 32
              · subst h32
                clear HPX HP S1 S2 HCO
                go_wp2_with fail
                go_roundw
                case rel => exact ⟨i + 1, false, by omega, rfl, by go_num, by trivial, K2.out⟩
                case measure => simp [intOf]; omega
              · obtain ⟨t, rfl, ht, q1, q2, q3⟩ := HP.out x (HPX.out rfl h32)
                have hts : t < x3.size := by omega
                have hty : t < y3.size := by omega
                have a2 := S1.out t ht hts
                have a3 := S2.out t ht hty
                rw [q1] at a2
                rw [q2] at a3
                have C1 := hide (fun W => HCO.out (48 + (t : Int)) W)
                rw [q3] at C1
                rw [if_neg (by omega), if_neg h32] at K2
                clear HPX HP S1 S2 HCO q1 q2 q3
                have hkt : (48 + (t : Int) - 48) = (t : Int) := by omega
                have h32b : (48 + (t : Int) != 32) = true := by simp; omega
                have h58b : (48 + (t : Int) == 58) = false := by simp; omega
                have h32c : (48 + (t : Int) == 32) = false := by simp; omega
                have q0 : decide ((t : Int) < 0) = false := by simp
                have q1 : decide ((kk : Int) ≤ (t : Int)) = false := by simp; omega
                have hdr2 : x2.extract nn x2.size = xd := by rw [s2]; exact hdr
                go_upto_region 17 with fail
                have HH := hide (And.intro hi (And.intro hlt (And.intro hlg (And.intro h32 (And.intro h58b h32c)))))
                have q2 : ((t : Int) < 0) = False := by simp
                have q3 : ((kk : Int) ≤ (t : Int)) = False := by simp; omega
                clear hkt h32 h32b q0 q1 i1 i2 hi hlt hlt1 hlg h58b h32c
                go_upto_region 19 with (go_at_call 12; refine (C1.out _).mono ?_; rintro e w' ⟨rfl, h'⟩; replace h' := h'.symm; subst h')
                obtain ⟨hi, hlt, hlg, h32, h58b, h32c⟩ := HH.out
                clear q2 q3
                go_wp2_with fail
                go_roundw
                case rel => exact ⟨i + 1, true, by omega, rfl, by go_num, by trivial, K2.out⟩
                case measure => simp [intOf]; omega
          · have hlt1 : ¬ (i : Int) < (x6.size : Int) := by omega
            have hbf := okL_end hokk (by omega)
            subst hbf
            clear HP S1 S2 HCO S3 HOK
            go_wp2_with fail
            go_ret
            exact ⟨rfl, BV.out⟩

end Go.Proofs.Ytjbmflgamogefab
