/- greenref's Check. -/
import Derived.Test.YtjbmflgamogefabGreatRRead
import Derived.Test.YtjbmflgamogefabGreatFault
namespace Go.Proofs.YtjbmflgamogefabGreat
open Go.RowKit

theorem good_bd {n st : Nat} {I : List In} (h : GoodCode n st I) (hn : n ≤ 400) : I.length ≤ 200 ∧ st ≤ 400 := by
  have := h.1
  omega

theorem pread_len (T : List Int) : ∀ (k : Nat) (acc cs : Cods) (i : Nat), pread T k acc i = .inr cs → cs.length ≤ acc.length + k + 1 := by
  intro k
  induction k with
  | zero =>
    intro acc cs i h
    rw [pread] at h
    split at h
    · cases h
    · split at h
      · cases h; simp
      · cases h
  | succ k ih =>
    intro acc cs i h
    rw [pread] at h
    split at h
    · cases h
    · split at h
      · cases h; simp
      · have := ih _ _ _ h
        simp at this; omega
theorem parse_len {T : List Int} {cs : Cods} (h : parse T = .inr cs) : cs.length ≤ 4 := by
  have := pread_len T 3 [] cs 0 h
  simpa using this

set_option maxRecDepth 100000 in
set_option maxHeartbeats 8000000 in
theorem r_Check (s : ByteArray) (w : World) (hm : s.size ≤ maxLen) :
    Calls Tryz.prog 11 #[.string s] w fun e w' => ∃ r : Int × Int, CheckRel (bytesOf s) r ∧ e = .returned (.tuple #[.int .i64 r.1, .int .i64 r.2]) ∧ Below w.heap.size w w' := by
  have HT := hide (bytesOf_len s)
  unfold maxLen at hm
  by_cases h400 : 400 < s.size
  · have HR : Hid (CheckRel (bytesOf s) (1, 0)) := by simp [Hid, CheckRel, HT.out, h400]
    go_enter Tryz.func11, Tryz.ntmps11
    go_wp2
    go_ret2
    exact ⟨(1, 0), HR.out, rfl, Below.refl _ _⟩
  · have hs : s.size ≤ 400 := by omega
    have HREL : Hid (∀ r, CheckRel (bytesOf s) r ↔ match parse (bytesOf s) with
        | .inl j => r = (2, (j : Int))
        | .inr cs => match badCods cs with
          | some p => r = (3, p)
          | none => ChkCods cs r) := by
      intro r
      unfold CheckRel
      rw [HT.out, if_neg h400]
      exact Iff.rfl
    have HC := hide (r_Read s w (by omega))
    clear h400
    go_enter Tryz.func11, Tryz.ntmps11
    go_wp2_with fail
    refine HC.out.mono ?_
    rintro e w1 ⟨htold, hb1⟩
    clear HC
    cases hp : parse (bytesOf s) with
    | inl j =>
      rw [hp] at htold
      have he : e = .returned (.tuple #[.slice none 0 0, .int .i64 j, .bool false]) := htold
      subst he
      have HR : Hid (CheckRel (bytesOf s) (2, (j : Int))) := (HREL.out _).2 (by rw [hp])
      have HB1 := hide hb1
      clear hp hb1 htold
      go_wp2_with fail
      go_ret2
      exact ⟨(2, (j : Int)), HR.out, rfl, HB1.out⟩
    | inr cs =>
      rw [hp] at htold
      obtain ⟨v, rfl, hcs⟩ := htold
      obtain ⟨ao, cap, rfl⟩ := hcs.slice
      have hgood := parse_good hp
      rw [HT.out] at hgood
      have HG := hide hgood
      have HOK := hide (fun hb => ok_of hp hb)
      have HREL2 : Hid (∀ r, (match badCods cs with
          | some p => r = (3, p)
          | none => ChkCods cs r) → CheckRel (bytesOf s) r) := fun r hr => (HREL.out r).2 (by rw [hp]; exact hr)
      have HCS : Hid (∀ W, Below w1.heap.size w1 W → CodsAt W 0 (.slice ao cs.length cap) cs) := fun W hb => hcs.below hb
      have HB1 := hide hb1
      have hcl : cs.length ≤ 4 := parse_len hp
      clear hp hb1 hgood hcs HREL
      go_wp2_with fail
      go_loopw [7] (fun k wr => ∃ j : Nat, j ≤ cs.length ∧ k = .int .i64 j ∧ Hid (badCods (cs.drop j) = badCods cs) ∧ Below w1.heap.size w1 wr) (fun k _ => cs.length - (intOf k).toNat)
      case atStart => exact ⟨0, Nat.zero_le _, rfl, rfl, Below.refl _ _⟩
      case round =>
        obtain ⟨j, hj, rfl, hbad, hbel⟩ := hrel
        by_cases hlt : j < cs.length
        · obtain ⟨⟨st, I⟩, hx⟩ : ∃ x, cs[j]? = some x := ⟨cs[j], by simp [hlt]⟩
          have hbd := good_bd (HG.out _ (List.mem_of_getElem? hx)) hs
          simp only at hbd
          have HBAD : Hid (badCods cs = match badIn I.length I st with
              | some p => some p
              | none => badCods (cs.drop (j + 1))) := by rw [Hid, ← hbad.out]; exact badCods_drop hx
          obtain ⟨wq, hwq⟩ : ∃ wq : World, wq = wr := ⟨_, rfl⟩
          subst hwq
          have HBEL := hide hbel
          have HX := hide hx
          clear hbad hx hbel
          go_wp2_with fail
          go_loopw [8] (fun i wx => ∃ m : Nat, m ≤ I.length ∧ i = .int .i64 m ∧ Hid (badIn I.length (I.drop m) (st + 3 * m) = badIn I.length I st) ∧ Below w1.heap.size w1 wx) (fun i _ => I.length - (intOf i).toNat)
          case atStart => exact ⟨0, Nat.zero_le _, rfl, by simp [Hid], HBEL.out⟩
          case round =>
            obtain ⟨m, hm2, rfl, hin, hbel⟩ := hrel
            obtain ⟨g, lv, rfl, hg, d0, d1, hI⟩ := (HCS.out wr hbel).at HX.out
            obtain ⟨lo, lcap, rfl⟩ := row_slice hI
            have HII := hide hI
            have hj1 : (j : Int) < (cs.length : Int) := by omega
            clear hI
            by_cases hmn : m < I.length
            · obtain ⟨⟨c, a⟩, hy⟩ : ∃ x, I[m]? = some x := ⟨I[m], by simp [hmn]⟩
              obtain ⟨gi, rfl, hgi, e0, e1, e2⟩ := HII.out.at hy
              have HBI : Hid (badIn I.length I st = if argOk c a I.length = true then badIn I.length (I.drop (m + 1)) (st + 3 * (m + 1 : Nat)) else some (st + 3 * m)) := by rw [Hid, ← hin.out]; exact badIn_drop hy
              have hm1 : (m : Int) < (I.length : Int) := by omega
              have SB : Hid (∀ W, Below wr.heap.size wr W → Below wr.heap.size wr W ∧ W.cell? ⟨g, j * 2, none⟩ = some (.slice (some ⟨gi, 0, none⟩) I.length lcap) ∧ W.cell? ⟨gi, m * 3, none⟩ = some (.int .u8 c) ∧ W.cell? ⟨gi, m * 3 + 1, none⟩ = some (.int .i64 a) ∧ W.cell? ⟨gi, m * 3 + 2, none⟩ = some (.int .i64 ((st : Int) + 3 * m))) := fun W hb =>
                ⟨hb, (hb.cell (p := ⟨g, j * 2, none⟩) hg).trans d0, (hb.cell (p := ⟨gi, m * 3, none⟩) hgi).trans e0, (hb.cell (p := ⟨gi, m * 3 + 1, none⟩) hgi).trans e1, (hb.cell (p := ⟨gi, m * 3 + 2, none⟩) hgi).trans e2⟩
              have HBEL2 := hide hbel
              clear hy hin hbel
              go_wp2_with fail
              go_region_held3 (fun W => Below wr.heap.size wr W ∧ W.cell? ⟨g, j * 2, none⟩ = some (.slice (some ⟨gi, 0, none⟩) I.length lcap) ∧ W.cell? ⟨gi, m * 3, none⟩ = some (.int .u8 c) ∧ W.cell? ⟨gi, m * 3 + 1, none⟩ = some (.int .i64 a) ∧ W.cell? ⟨gi, m * 3 + 2, none⟩ = some (.int .i64 ((st : Int) + 3 * m)))
                ((refine SB.out _ ?_; first | exact keep_drew | exact keep_call (by assumption) (by assumption) | assumption))
                (first
                  | (go_at_call 25; refine (r_allowed c a _ _ _).mono ?_; rintro e w' ⟨rfl, hb2⟩))
              all_goals
                have hb5 : Below wr.heap.size wr w' := keep_drew.trans hb2
                obtain ⟨_, y0, y1, y2, y3⟩ := SB.out w' hb5
                have HB5 : Hid (Below w1.heap.size w1 w') := HBEL2.out.trans (hb5.mono HBEL2.out.size)
                clear hb5 hb2 SB
              cases hok : argOk c a (I.length : Int) with
              | true =>
                have HN : Hid (badIn I.length (I.drop (m + 1)) (st + 3 * (m + 1 : Nat)) = badIn I.length I st) := by rw [Hid, HBI.out, if_pos hok]
                clear HBI
                go_wp2_with fail
                go_roundw
                case rel => exact ⟨m + 1, by omega, by go_num, HN, HB5.out⟩
                case measure => simp [intOf]; omega
              | false =>
                have HR : Hid (CheckRel (bytesOf s) (3, (st : Int) + 3 * m)) := HREL2.out _ (by
                  have h1 : badIn I.length I st = some ((st : Int) + 3 * (m : Int)) := by rw [HBI.out, if_neg (by rw [hok]; simp)]
                  have h2 := HBAD.out
                  rw [h1] at h2
                  simp only at h2
                  rw [h2])
                clear HBI
                go_wp2_with fail
                go_quiet (fail)
                go_wp2_with fail
                go_ret2
                exact ⟨_, HR.out, rfl, below_drewN (HB1.out.trans (HB5.out.mono HB1.out.size)) _⟩
            · have hme : m = I.length := by omega
              have HN : Hid (badCods (cs.drop (j + 1)) = badCods cs) := by
                have h1 : badIn I.length I st = none := by
                  rw [← hin.out, hme, List.drop_of_length_le (Nat.le_refl _)]; rfl
                have h2 := HBAD.out
                rw [h1] at h2
                exact h2.symm
              have HBEL2 := hide hbel
              clear hin hbel hme
              go_wp2_with fail
              go_roundw
              case rel => exact ⟨j + 1, by omega, by go_num, HN, HBEL2.out⟩
              case measure => simp [intOf]; omega
        · have HNB : Hid (badCods cs = none) := by
            rw [Hid, ← hbad.out, List.drop_of_length_le (by omega)]; rfl
          have HOKK := hide (HOK.out HNB.out)
          have HREL3 : Hid (∀ r, ChkCods cs r → CheckRel (bytesOf s) r) := fun r hr => HREL2.out r (by rw [HNB.out]; exact hr)
          obtain ⟨w2, hw2⟩ : ∃ w2 : World, w2 = wr := ⟨_, rfl⟩
          subst hw2
          have HBEL := hide hbel
          have HB2 : Hid (Below w.heap.size w w2) := HB1.out.trans (hbel.mono HB1.out.size)
          clear hbad hbel HREL2 HNB HOK
          go_wp2_with fail
          go_loopw [10] (fun k wr => ∃ j : Nat, j ≤ cs.length ∧ k = .int .i64 j ∧ Hid (∀ r, ChkCods (cs.drop j) r → ChkCods cs r) ∧ Below w1.heap.size w1 wr) (fun k _ => cs.length - (intOf k).toNat)
          case atStart => exact ⟨0, Nat.zero_le _, rfl, fun r h => h, HBEL.out⟩
          case round =>
            obtain ⟨j2, hj2, rfl, hck, hbel⟩ := hrel
            by_cases hlt2 : j2 < cs.length
            · obtain ⟨⟨st, I⟩, hx⟩ : ∃ x, cs[j2]? = some x := ⟨cs[j2], by simp [hlt2]⟩
              have hbd := good_bd (HG.out _ (List.mem_of_getElem? hx)) hs
              simp only at hbd
              obtain ⟨g, lv, rfl, hg, d0, d1, hI⟩ := (HCS.out wr hbel).at hx
              obtain ⟨lo, lcap, rfl⟩ := row_slice hI
              have HCK : Hid (∀ r q, Told st I q → ((q.1 = 0 ∧ ChkCods (cs.drop (j2 + 1)) r) ∨ (¬ q.1 = 0 ∧ r = q)) → ChkCods cs r) := fun r q h1 h2 => hck.out r ((chk_drop hx).2 ⟨q, h1, h2⟩)
              have HCC := hide (r_checked _ st I wr hI (HOKK.out _ (List.mem_of_getElem? hx)) hbd.1)
              have hst : ((st + 3 * I.length : Nat) : Int) = (st : Int) + 3 * (I.length : Int) := by omega
              rw [hst] at d1
              have HBEL2 := hide hbel
              have hj1 : (j2 : Int) < (cs.length : Int) := by omega
              clear hx hI hck hst hbel
              go_wp2_with fail
              refine HCC.out.mono ?_
              rintro e w3 ⟨L, hA, rfl, hb3⟩
              have HTO : Hid (Told st I (toldF st (firstF I L (I.length + 1) 0))) := ⟨L, hA, rfl⟩
              have HB3 : Hid (Below w1.heap.size w1 w3) := HBEL2.out.trans (hb3.mono HBEL2.out.size)
              clear hA hb3 HCC
              generalize toldF st (firstF I L (I.length + 1) 0) = q at *
              obtain ⟨q1, q2⟩ := q
              simp only at *
              by_cases hq : q1 = 0
              · have hb0 : (q1 != 0) = false := by simp [hq]
                have HN : Hid (∀ r, ChkCods (cs.drop (j2 + 1)) r → ChkCods cs r) := fun r h => HCK.out r _ HTO.out (.inl ⟨hq, h⟩)
                clear hq HCK
                go_wp2_with fail
                go_roundw
                case rel => exact ⟨j2 + 1, by omega, by go_num, HN, HB3.out⟩
                case measure => simp [intOf]; omega
              · have hb0 : (q1 != 0) = true := by simp [hq]
                have HR : Hid (CheckRel (bytesOf s) (q1, q2)) := HREL3.out _ (HCK.out _ _ HTO.out (.inr ⟨hq, rfl⟩))
                clear hq HCK
                go_wp2_with fail
                go_ret2
                exact ⟨_, HR.out, rfl, HB1.out.trans (HB3.out.mono HB1.out.size)⟩
            · have HR : Hid (CheckRel (bytesOf s) (0, 0)) := HREL3.out _ (hck.out _ (by rw [List.drop_of_length_le (by omega)]; rfl))
              have HBEL2 := hide hbel
              clear hck hbel
              go_wp2_with fail
              go_ret2
              exact ⟨_, HR.out, rfl, HB1.out.trans (HBEL2.out.mono HB1.out.size)⟩

end Go.Proofs.YtjbmflgamogefabGreat
