/- green's read and Check; greenlaw's Checks. -/
import Derived.Test.YtjbmflgamogefabGreatBadArg
namespace Go.Proofs.YtjbmflgamogefabGreat
open Go.RowKit

/-- What 'read' answers. -/
def ReadG (w' : World) (e : Ending) (T : List Int) : Prop := if 400 < T.length then e = .returned (.tuple #[.slice none 0 0, .int .i64 1, .int .i64 0]) else match parse T with
  | .inl j => e = .returned (.tuple #[.slice none 0 0, .int .i64 2, .int .i64 (j : Int)])
  | .inr cs => match badCods cs with
    | some p => e = .returned (.tuple #[.slice none 0 0, .int .i64 3, .int .i64 p])
    | none => ∃ v, e = .returned (.tuple #[v, .int .i64 0, .int .i64 0]) ∧ GCods w' 0 v cs

theorem pread_lenG (T : List Int) : ∀ (k : Nat) (acc cs : Cods) (i : Nat), pread T k acc i = .inr cs → cs.length ≤ acc.length + k + 1 := by
  intro k
  induction k with
  | zero =>
    intro acc cs i h
    rw [pread] at h
    split at h
    · cases h
    · split at h
      · cases h; simp
      · cases h
  | succ k ih =>
    intro acc cs i h
    rw [pread] at h
    split at h
    · cases h
    · split at h
      · cases h; simp
      · have := ih _ _ _ h
        simp at this; omega
theorem parse_lenG {T : List Int} {cs : Cods} (h : parse T = .inr cs) : cs.length ≤ 4 := by
  have := pread_lenG T 3 [] cs 0 h
  simpa using this
theorem GoodCode.mono {n n' st : Nat} {I : List In} (h : GoodCode n st I) (hn : n ≤ n') : GoodCode n' st I := ⟨Nat.le_trans h.1 hn, h.2⟩

set_option maxHeartbeats 1000000 in
theorem g_read (s : ByteArray) (w : World) (hm : s.size ≤ maxLen) :
    Calls Tryz.prog 34 #[.string s] w fun e w' => ReadG w' e (bytesOf s) ∧ Below w.heap.size w w' := by
  have HT := hide (bytesOf_len s)
  unfold maxLen at hm
  by_cases h400 : 400 < s.size
  · have HR : Hid (∀ (w' : World) (e : Ending), e = .returned (.tuple #[.slice none 0 0, .int .i64 1, .int .i64 0]) → ReadG w' e (bytesOf s)) := fun w' e he => by
      unfold ReadG; rw [HT.out, if_pos h400]; exact he
    go_enter Tryz.func34, Tryz.ntmps34
    go_wp2
    go_ret3
    exact ⟨HR.out _ _ rfl, Below.refl _ _⟩
  · have hs : s.size ≤ 400 := by omega
    have HR : Hid (∀ (w' : World) (e : Ending), (match parse (bytesOf s) with
      | .inl j => e = .returned (.tuple #[.slice none 0 0, .int .i64 2, .int .i64 (j : Int)])
      | .inr cs => match badCods cs with
        | some p => e = .returned (.tuple #[.slice none 0 0, .int .i64 3, .int .i64 p])
        | none => ∃ v, e = .returned (.tuple #[v, .int .i64 0, .int .i64 0]) ∧ GCods w' 0 v cs) → ReadG w' e (bytesOf s)) := fun w' e he => by
      unfold ReadG; rw [HT.out, if_neg h400]; exact he
    clear h400
    have HC := hide (g_isProgram s w hs)
    cases hp : parse (bytesOf s) with
    | inl j =>
      rw [hp] at HC HR
      have hgo : goodOf (.inl j) = false := rfl
      have hpl : placeOf (.inl j) = j := rfl
      rw [hgo, hpl] at HC
      clear hp hgo hpl
      go_enter Tryz.func34, Tryz.ntmps34
      go_wp2_with fail
      refine HC.out.mono ?_
      rintro e w' ⟨rfl, hw⟩
      replace hw := hw.symm
      subst hw
      go_wp2_with fail
      go_ret3
      exact ⟨HR.out _ _ rfl, Below.refl _ _⟩
    | inr cs =>
      have HRC := hide (g_readCodes s w cs hs hp)
      have hgood := parse_good hp
      rw [HT.out] at hgood
      have HGD : Hid (∀ x ∈ cs, GoodCode 400 x.1 x.2) := fun x hx => (hgood x hx).mono hs
      have hcl := parse_lenG hp
      rw [hp] at HC HR
      have hgo : goodOf (.inr cs) = true := rfl
      have hpl : placeOf (.inr cs) = 0 := rfl
      rw [hgo, hpl] at HC
      clear hp hgo hpl hgood
      go_enter Tryz.func34, Tryz.ntmps34
      go_wp2_with fail
      refine HC.out.mono ?_
      rintro e w' ⟨rfl, hw⟩
      replace hw := hw.symm
      subst hw
      go_wp2_with fail
      refine HRC.out.mono ?_
      rintro e w1 ⟨v, rfl, hcs, hb1⟩
      have HCS := hide hcs
      have HB1 := hide hb1
      have HBA := hide (g_badArg v cs w1 hcs HGD.out hcl)
      clear HC HRC hcs hb1
      go_wp2_with fail
      refine HBA.out.mono ?_
      rintro e w2 ⟨rfl, hb2⟩
      have HB2 : Hid (Below w.heap.size w w2) := HB1.out.trans (hb2.mono HB1.out.size)
      have HCS2 := hide (HCS.out.below hb2)
      clear hb2 HBA
      cases hbc : badCods cs with
      | some p =>
        simp only [hbc] at HR
        rw [show badTold (some p) = .returned (.tuple #[.bool true, .int .i64 p]) from rfl]
        clear hbc
        go_wp2_with fail
        go_ret3
        exact ⟨HR.out _ _ rfl, HB2.out⟩
      | none =>
        simp only [hbc] at HR
        rw [show badTold none = .returned (.tuple #[.bool false, .int .i64 0]) from rfl]
        clear hbc
        go_wp2_with fail
        go_ret3
        exact ⟨HR.out _ _ ⟨_, rfl, HCS2.out⟩, HB2.out⟩

theorem firstF_le (I : List In) (L : List Sp) : ∀ f p, (firstF I L f p).2 ≤ p + f
  | 0, p => by simp [firstF]
  | f + 1, p => by
    simp only [firstF]
    split
    · have := firstF_le I L f (p + 1); omega
    · simp only; omega

/-- What comes with OK: the codes. -/
def Adm (w : World) (v : Value) (T : List Int) (r : Int × Int) : Prop := r.1 = 0 → ∃ cs, parse T = .inr cs ∧ badCods cs = none ∧ ChkCods cs (0, 0) ∧ GCods w 0 v cs ∧ r = (0, 0)
theorem adm_no {w : World} {v : Value} {T : List Int} {a b : Int} (h : ¬ a = 0) : Adm w v T (a, b) := fun h0 => absurd h0 h

set_option maxRecDepth 100000 in
set_option maxHeartbeats 4000000 in
theorem g_checked (s : ByteArray) (w : World) (hm : s.size ≤ maxLen) :
    Calls Tryz.prog 23 #[.string s] w fun e w' => ∃ (r : Int × Int) (v : Value), CheckRel (bytesOf s) r ∧ e = .returned (.tuple #[v, .int .i64 r.1, .int .i64 r.2]) ∧ Below w.heap.size w w' ∧ Adm w' v (bytesOf s) r := by
  have HT := hide (bytesOf_len s)
  have HC := hide (g_read s w hm)
  go_enter Tryz.func23, Tryz.ntmps23
  go_wp2_with fail
  refine HC.out.mono ?_
  rintro e w1 ⟨hread, hb1⟩
  have HB1 := hide hb1
  clear HC hb1
  unfold ReadG at hread
  by_cases h400 : 400 < (bytesOf s).length
  · rw [if_pos h400] at hread
    subst hread
    have HR : Hid (CheckRel (bytesOf s) (1, 0)) := by simp [Hid, CheckRel, h400]
    clear h400
    go_wp2_with fail
    go_ret3
    exact ⟨_, _, HR.out, rfl, HB1.out, adm_no (by decide)⟩
  · rw [if_neg h400] at hread
    have HREL : Hid (∀ r, (match parse (bytesOf s) with
        | .inl j => r = (2, (j : Int))
        | .inr cs => match badCods cs with
          | some p => r = (3, p)
          | none => ChkCods cs r) → CheckRel (bytesOf s) r) := by
      intro r hr
      unfold CheckRel
      rw [if_neg h400]
      exact hr
    have hs : s.size ≤ 400 := by have := HT.out; omega
    clear h400
    cases hp : parse (bytesOf s) with
    | inl j =>
      rw [hp] at hread HREL
      simp only at hread
      subst hread
      have HR : Hid (CheckRel (bytesOf s) (2, (j : Int))) := HREL.out _ rfl
      clear hp HREL
      go_wp2_with fail
      go_ret3
      exact ⟨_, _, HR.out, rfl, HB1.out, adm_no (by decide)⟩
    | inr cs =>
      rw [hp] at hread
      simp only at hread
      cases hbc : badCods cs with
      | some p =>
        rw [hbc] at hread
        simp only at hread
        subst hread
        have HR : Hid (CheckRel (bytesOf s) (3, p)) := HREL.out _ (by rw [hp]; simp only; rw [hbc])
        clear hp hbc HREL
        go_wp2_with fail
        go_ret3
        exact ⟨_, _, HR.out, rfl, HB1.out, adm_no (by decide)⟩
      | none =>
        rw [hbc] at hread
        simp only at hread
        obtain ⟨v, rfl, hcs⟩ := hread
        obtain ⟨ao, cap, rfl⟩ := hcs.slice
        have HOK := hide (ok_of hp hbc)
        have hgood := parse_good hp
        rw [HT.out] at hgood
        have HG := hide hgood
        have hcl := parse_lenG hp
        have HREL3 : Hid (∀ r, ChkCods cs r → CheckRel (bytesOf s) r) := fun r hr => HREL.out r (by rw [hp]; simp only; rw [hbc]; exact hr)
        have HADM : Hid (∀ W, Below w1.heap.size w1 W → ChkCods cs (0, 0) → Adm W (.slice ao cs.length cap) (bytesOf s) (0, 0)) := fun W hb h0 _ => ⟨cs, hp, hbc, h0, hcs.below hb, rfl⟩
        have HCS : Hid (∀ W, Below w1.heap.size w1 W → GCods W 0 (.slice ao cs.length cap) cs) := fun W hb => hcs.below hb
        clear hp hbc hgood hcs HREL
        go_wp2_with fail
        go_loopw [24] (fun k wr => ∃ j : Nat, j ≤ cs.length ∧ k = .int .i64 j ∧ Hid (∀ r, ChkCods (cs.drop j) r → ChkCods cs r) ∧ Below w1.heap.size w1 wr) (fun k _ => cs.length - (intOf k).toNat)
        case atStart => exact ⟨0, Nat.zero_le _, rfl, fun r h => h, Below.refl _ _⟩
        case round =>
          obtain ⟨j2, hj2, rfl, hck, hbel⟩ := hrel
          by_cases hlt2 : j2 < cs.length
          · obtain ⟨⟨st, I⟩, hx⟩ : ∃ x, cs[j2]? = some x := ⟨cs[j2], by simp [hlt2]⟩
            have hgx := (HG.out _ (List.mem_of_getElem? hx)).1
            simp only at hgx
            obtain ⟨g, lv, rfl, hg, d0, d1, hI⟩ := (HCS.out wr hbel).at hx
            obtain ⟨lo, lcap, rfl⟩ := row_slice hI
            have HCK : Hid (∀ r q, Told st I q → ((q.1 = 0 ∧ ChkCods (cs.drop (j2 + 1)) r) ∨ (¬ q.1 = 0 ∧ r = q)) → ChkCods cs r) := fun r q h1 h2 => hck.out r ((chk_drop hx).2 ⟨q, h1, h2⟩)
            have hbx : Below wr.heap.size wr (wr.alloc (.cells #[.int .i64 (st : Nat), .slice lo I.length lcap] 91)) := (Below.refl _ _).alloc (Nat.le_refl _) _
            have HCC := hide (g_codeError _ I _ (hI.below hbx) (HOK.out _ (List.mem_of_getElem? hx)) (by omega))
            have HBEL2 := hide hbel
            have hj1 : (j2 : Int) < (cs.length : Int) := by omega
            clear hx hI hck hbel hbx
            go_wp2_with fail
            refine HCC.out.mono ?_
            rintro e w3 ⟨L, hA, rfl, hb3⟩
            have HTO : Hid (Told st I (toldF st (firstF I L (I.length + 1) 0))) := ⟨L, hA, rfl⟩
            have hfl := firstF_le I L (I.length + 1) 0
            have hzw := hb3.size
            simp at hzw
            have b0 := (hb3.cell (p := ⟨wr.heap.size, 0, none⟩) (by simp)).trans (cell_new wr _ _ 0)
            have b1 := (hb3.cell (p := ⟨wr.heap.size, 1, none⟩) (by simp)).trans (cell_new wr _ _ 1)
            simp at b0 b1
            have HB3 : Hid (Below w1.heap.size w1 w3) := (HBEL2.out.alloc HBEL2.out.size _).trans (hb3.mono (by have := HBEL2.out.size; simp; omega))
            clear hA hb3 HCC
            generalize firstF I L (I.length + 1) 0 = q at *
            obtain ⟨q1, q2⟩ := q
            simp only at *
            by_cases hq : q1 = 0
            · have hb0 : (q1 != 0) = false := by simp [hq]
              have HN : Hid (∀ r, ChkCods (cs.drop (j2 + 1)) r → ChkCods cs r) := fun r h => HCK.out r _ HTO.out (.inl ⟨by simp [toldF, hq], h⟩)
              clear hq HCK HTO
              go_wp2_with fail
              go_roundw
              case rel => exact ⟨j2 + 1, by omega, by go_num, HN, HB3.out⟩
              case measure => simp [intOf]; omega
            · have hb0 : (q1 != 0) = true := by simp [hq]
              have HQ := hide hq
              have HR : Hid (CheckRel (bytesOf s) (q1, (st : Int) + 3 * q2)) := HREL3.out _ (HCK.out _ _ HTO.out (.inr ⟨by simp [toldF, hq], by simp [toldF, hq]⟩))
              clear hq HCK HTO
              go_wp2_with fail
              refine (g_place _ _ _ _ ⟨_, _, _, rfl⟩ (by omega) (by omega) (by omega) (by omega)).mono ?_
              rintro e w5 ⟨rfl, hb5⟩
              have HB5 : Hid (Below w1.heap.size w1 w5) := HB3.out.trans (hb5.mono HB3.out.size)
              clear hb5
              go_wp2_with fail
              go_ret3
              exact ⟨_, _, HR.out, rfl, HB1.out.trans (HB5.out.mono HB1.out.size), adm_no HQ.out⟩
          · have HCK0 : Hid (ChkCods cs (0, 0)) := hck.out _ (by rw [List.drop_of_length_le (by omega)]; rfl)
            have HR : Hid (CheckRel (bytesOf s) (0, 0)) := HREL3.out _ HCK0.out
            have HBEL2 := hide hbel
            clear hck hbel
            go_wp2_with fail
            go_ret3
            exact ⟨_, _, HR.out, rfl, HB1.out.trans (HBEL2.out.mono HB1.out.size), HADM.out _ HBEL2.out HCK0.out⟩

set_option maxHeartbeats 1000000 in
theorem g_Check (s : ByteArray) (w : World) (hm : s.size ≤ maxLen) :
    Calls Tryz.prog 10 #[.string s] w fun e w' => ∃ r : Int × Int, CheckRel (bytesOf s) r ∧ e = .returned (.tuple #[.int .i64 r.1, .int .i64 r.2]) ∧ Below w.heap.size w w' := by
  have HC := hide (g_checked s w hm)
  go_enter Tryz.func10, Tryz.ntmps10
  go_wp2_with fail
  refine HC.out.mono ?_
  rintro e w1 ⟨r, v, hr, rfl, hb1, _⟩
  have HR := hide hr
  have HB := hide hb1
  clear hr hb1 HC
  obtain ⟨r1, r2⟩ := r
  go_wp2_with fail
  go_ret2
  exact ⟨_, HR.out, rfl, HB.out⟩

end Go.Proofs.YtjbmflgamogefabGreat
