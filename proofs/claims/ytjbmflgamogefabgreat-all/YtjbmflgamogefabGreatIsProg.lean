/- green's isProgram. -/
import Derived.Test.YtjbmflgamogefabGreatLeafG
import Derived.Test.YtjbmflgamogefabGreatBytes
namespace Go.Proofs.YtjbmflgamogefabGreat
open Go.RowKit

/-- What isProgram answers. -/
def goodOf (R : Nat ⊕ Cods) : Bool := match R with
  | .inl _ => false
  | .inr _ => true
def placeOf (R : Nat ⊕ Cods) : Nat := match R with
  | .inl j => j
  | .inr _ => 0
/-- Where the loop of isProgram stands. -/
def Stand (T : List Int) (R : Nat ⊕ Cods) (codes : Nat) (empty : Bool) (part i : Nat) : Prop :=
  ∃ k acc st cur j, pfrom T k acc st cur j = R ∧ codes = acc.length + 1 ∧ k + acc.length = 3 ∧ empty = cur.isEmpty ∧ j + part = i ∧ i ≤ T.length ∧
    (part = 0 ∨ (part = 1 ∧ ∃ c, T[j]? = some c ∧ isLet c = true) ∨ (part = 2 ∧ ∃ c d, T[j]? = some c ∧ isLet c = true ∧ T[j + 1]? = some d ∧ isDig d = true))

theorem stand_start (T : List Int) : Stand T (parse T) 1 true 0 0 := ⟨3, [], 0, [], 0, (pread_eq T 3 [] 0).symm, rfl, rfl, rfl, rfl, Nat.zero_le _, .inl rfl⟩
theorem stand_digit_no {T : List Int} {R : Nat ⊕ Cods} {codes part i : Nat} {empty : Bool} {d : Int} (h : Stand T R codes empty part i) (hp : 0 < part) (hd : T[i]? = some d) (hn : isDig d = false) : R = .inl i := by
  obtain ⟨k, acc, st, cur, j, hR, _, _, _, hj, _, h0 | ⟨rfl, c, hc, hl⟩ | ⟨rfl, c, d', hc, hl, hd', hdd⟩⟩ := h
  · omega
  · subst hj; rw [← hR]; exact pfrom_inl (pcode_d1 hc hl (fun x hx => by rw [hd] at hx; cases hx; exact hn))
  · subst hj; rw [← hR]; exact pfrom_inl (pcode_d2 hc hl hd' hdd (fun x hx => by rw [hd] at hx; cases hx; exact hn))
theorem stand_digit_one {T : List Int} {R : Nat ⊕ Cods} {codes i : Nat} {empty : Bool} {d : Int} (h : Stand T R codes empty 1 i) (hd : T[i]? = some d) (hn : isDig d = true) : Stand T R codes empty 2 (i + 1) := by
  have hlt := (List.getElem?_eq_some_iff.1 hd).1
  obtain ⟨k, acc, st, cur, j, hR, h1, h2, h3, hj, _, h0 | ⟨_, c, hc, hl⟩ | ⟨h0, _⟩⟩ := h
  · omega
  · subst hj; exact ⟨k, acc, st, cur, j, hR, h1, h2, h3, by omega, by omega, .inr (.inr ⟨rfl, c, d, hc, hl, hd, hn⟩)⟩
  · omega
theorem stand_digit_two {T : List Int} {R : Nat ⊕ Cods} {codes i : Nat} {empty : Bool} {d : Int} (h : Stand T R codes empty 2 i) (hd : T[i]? = some d) (hn : isDig d = true) : Stand T R codes false 0 (i + 1) := by
  have hlt := (List.getElem?_eq_some_iff.1 hd).1
  obtain ⟨k, acc, st, cur, j, hR, h1, h2, h3, hj, _, h0 | ⟨h0, _⟩ | ⟨_, c, d', hc, hl, hd', hdd⟩⟩ := h
  · omega
  · omega
  · subst hj
    refine ⟨k, acc, st, cur ++ [(c, 10 * (d' - 48) + (d - 48))], j + 3, ?_, h1, h2, by simp, by omega, by omega, .inl rfl⟩
    rw [← hR]; exact (pfrom_go (pcode_ok hc hl hd' hdd hd hn)).symm
theorem stand_letter {T : List Int} {R : Nat ⊕ Cods} {codes i : Nat} {empty : Bool} {c : Int} (h : Stand T R codes empty 0 i) (hc : T[i]? = some c) (hl : isLet c = true) : Stand T R codes empty 1 (i + 1) := by
  have hlt := (List.getElem?_eq_some_iff.1 hc).1
  obtain ⟨k, acc, st, cur, j, hR, h1, h2, h3, hj, _, _⟩ := h
  have hj' : j = i := by omega
  subst hj'
  exact ⟨k, acc, st, cur, j, hR, h1, h2, h3, by omega, by omega, .inr (.inl ⟨rfl, c, hc, hl⟩)⟩
theorem stand_bar {T : List Int} {R : Nat ⊕ Cods} {codes i : Nat} (h : Stand T R codes false 0 i) (hc : T[i]? = some 124) (hk : codes < 4) : Stand T R (codes + 1) true 0 (i + 1) := by
  have hlt := (List.getElem?_eq_some_iff.1 hc).1
  obtain ⟨k, acc, st, cur, j, hR, h1, h2, h3, hj, _, _⟩ := h
  have hj' : j = i := by omega
  subst hj'
  have hcur : ¬ cur = [] := by intro e; subst e; simp at h3
  obtain ⟨k', rfl⟩ : ∃ k', k = k' + 1 := ⟨k - 1, by omega⟩
  refine ⟨k', acc ++ [(st, cur)], j + 1, [], j + 1, ?_, by simp; omega, by simp; omega, rfl, by omega, by omega, .inl rfl⟩
  rw [← hR, pfrom_over (pcode_bar hc hcur) (by omega)]
theorem stand_bar_full {T : List Int} {R : Nat ⊕ Cods} {codes i : Nat} (h : Stand T R codes false 0 i) (hc : T[i]? = some 124) (hk : ¬ codes < 4) : R = .inl i := by
  have hlt := (List.getElem?_eq_some_iff.1 hc).1
  obtain ⟨k, acc, st, cur, j, hR, h1, h2, h3, hj, _, _⟩ := h
  have hj' : j = i := by omega
  subst hj'
  have hcur : ¬ cur = [] := by intro e; subst e; simp at h3
  have hk0 : k = 0 := by omega
  subst hk0
  rw [← hR, pfrom_full (pcode_bar hc hcur) (by omega)]
theorem stand_no {T : List Int} {R : Nat ⊕ Cods} {codes i : Nat} {empty : Bool} {c : Int} (h : Stand T R codes empty 0 i) (hc : T[i]? = some c) (hl : isLet c = false) (hn : ¬ (c = 124 ∧ empty = false)) : R = .inl i := by
  obtain ⟨k, acc, st, cur, j, hR, h1, h2, h3, hj, _, _⟩ := h
  have hj' : j = i := by omega
  subst hj'
  rw [← hR]
  exact pfrom_inl (pcode_no hc (fun ⟨e1, e2⟩ => hn ⟨e1, by rw [h3]; simpa using e2⟩) hl)
theorem stand_end_bad {T : List Int} {R : Nat ⊕ Cods} {codes part i : Nat} {empty : Bool} (h : Stand T R codes empty part i) (hi : i = T.length) (hb : 0 < part ∨ empty = true) : R = .inl T.length := by
  obtain ⟨k, acc, st, cur, j, hR, h1, h2, h3, hj, _, h0 | ⟨rfl, c, hc, hl⟩ | ⟨rfl, c, d', hc, hl, hd', hdd⟩⟩ := h
  · subst h0
    have he : empty = true := by rcases hb with h | h; omega; exact h
    have hcur : cur = [] := by rw [he] at h3; simpa using h3.symm
    have hj' : j = T.length := by omega
    rw [← hR]
    have := pcode_end (T := T) (cur := cur) (i := j) (by omega)
    rw [if_pos hcur] at this
    rw [pfrom_inl this, hj']
  · rw [← hR, pfrom_inl (pcode_d1 hc hl (fun x hx => by have := (List.getElem?_eq_some_iff.1 hx).1; omega))]
    congr 1; omega
  · rw [← hR, pfrom_inl (pcode_d2 hc hl hd' hdd (fun x hx => by have := (List.getElem?_eq_some_iff.1 hx).1; omega))]
    congr 1; omega
theorem stand_end_good {T : List Int} {R : Nat ⊕ Cods} {codes i : Nat} (h : Stand T R codes false 0 i) (hi : i = T.length) : goodOf R = true ∧ placeOf R = 0 := by
  obtain ⟨k, acc, st, cur, j, hR, h1, h2, h3, hj, _, _⟩ := h
  have hcur : ¬ cur = [] := by intro e; subst e; simp at h3
  have := pcode_end (T := T) (cur := cur) (i := j) (by omega)
  rw [if_neg hcur] at this
  rw [← hR, pfrom_end this (by omega)]
  exact ⟨rfl, rfl⟩
theorem told_inl {R : Nat ⊕ Cods} {i : Nat} (h : R = .inl i) : goodOf R = false ∧ placeOf R = i := by subst h; exact ⟨rfl, rfl⟩
theorem stand_codes {T : List Int} {R : Nat ⊕ Cods} {codes part i : Nat} {empty : Bool} (h : Stand T R codes empty part i) : 1 ≤ codes ∧ codes ≤ 4 ∧ part ≤ 2 := by
  obtain ⟨k, acc, st, cur, j, hR, h1, h2, h3, hj, _, h0 | ⟨h0, _⟩ | ⟨h0, _⟩⟩ := h <;> omega

set_option maxHeartbeats 2000000 in
theorem g_isProgram (s : ByteArray) (w : World) (hs : s.size ≤ 400) :
    Calls Tryz.prog 47 #[.string s] w fun e w' => e = .returned (.tuple #[.bool (goodOf (parse (bytesOf s))), .int .i64 (placeOf (parse (bytesOf s)) : Nat)]) ∧ w' = w := by
  have hT := bytesOf_len s
  have HT := hide hT
  clear hT
  go_enter Tryz.func47, Tryz.ntmps47
  go_wp2
  go_loop [4, 5, 6, 7] (fun c e p i => ∃ (codes part k : Nat) (empty : Bool), k ≤ s.size ∧ i = .int .i64 k ∧ c = .int .i64 codes ∧ e = .bool empty ∧ p = .int .i64 part ∧ Stand (bytesOf s) (parse (bytesOf s)) codes empty part k) (fun _ _ _ i => s.size - (intOf i).toNat)
  case atStart => exact ⟨1, 0, 0, true, Nat.zero_le _, rfl, rfl, rfl, rfl, stand_start _⟩
  case round =>
    obtain ⟨codes, part, k, empty, hk, rfl, rfl, rfl, rfl, hst⟩ := hrel
    obtain ⟨q1, q2, q3⟩ := stand_codes hst
    have HST := hide hst
    clear hst
    by_cases hlt : k < s.size
    · have hg := bytesOf_get s k hlt
      obtain ⟨q4, q5⟩ := bytesOf_lt s k hlt
      obtain ⟨x, hx⟩ : ∃ x : Int, x = ((s[k]).toNat : Int) := ⟨_, rfl⟩
      have hxe : ((s[k]).toNat : Int) = x := hx.symm
      rw [hxe] at hg q4 q5
      have HG := hide hg
      clear hg hx
      by_cases hp : 0 < part
      · cases hd : isDig x with
        | false =>
          have HR := hide (told_inl (stand_digit_no HST.out hp HG.out hd))
          go_wp2_with (go_at_call 68; refine (g_isDigit _ _).mono ?_; rintro e w' ⟨rfl, rfl⟩)
          go_ret2
          refine ⟨?_, rfl⟩
          rw [HR.out.1, HR.out.2]; rfl
        | true =>
          rcases (show part = 1 ∨ part = 2 from by omega) with rfl | rfl
          · have HN := hide (stand_digit_one HST.out HG.out hd)
            go_wp2_with (go_at_call 68; refine (g_isDigit _ _).mono ?_; rintro e w' ⟨rfl, rfl⟩)
            go_round
            case rel => exact ⟨codes, 2, k + 1, empty, by omega, by go_num, rfl, rfl, by go_num, HN.out⟩
            case measure => simp [intOf]; omega
          · have HN := hide (stand_digit_two HST.out HG.out hd)
            go_wp2_with (go_at_call 68; refine (g_isDigit _ _).mono ?_; rintro e w' ⟨rfl, rfl⟩)
            go_round
            case rel => exact ⟨codes, 0, k + 1, false, by omega, by go_num, rfl, rfl, by go_num, HN.out⟩
            case measure => simp [intOf]; omega
      · have hp0 : part = 0 := by omega
        subst hp0
        cases hl : isLet x with
        | true =>
          have HN := hide (stand_letter HST.out HG.out hl)
          go_wp2_with (go_at_call 69; refine (g_isLetter _ _).mono ?_; rintro e w' ⟨rfl, rfl⟩)
          go_round
          case rel => exact ⟨codes, 1, k + 1, empty, by omega, by go_num, rfl, rfl, by go_num, HN.out⟩
          case measure => simp [intOf]; omega
        | false =>
          cases hb : (x == 124) with
          | false =>
            have HR := hide (told_inl (stand_no HST.out HG.out hl (fun ⟨e, _⟩ => by rw [e] at hb; simp at hb)))
            go_wp2_with (go_at_call 69; refine (g_isLetter _ _).mono ?_; rintro e w' ⟨rfl, rfl⟩)
            go_ret2
            refine ⟨?_, rfl⟩
            rw [HR.out.1, HR.out.2]; rfl
          | true =>
            have hx124 : x = 124 := by simpa using hb
            have HX := hide hx124
            clear hx124
            cases empty with
            | true =>
              have HR := hide (told_inl (stand_no HST.out HG.out hl (fun ⟨_, e⟩ => by cases e)))
              go_wp2_with (go_at_call 69; refine (g_isLetter _ _).mono ?_; rintro e w' ⟨rfl, rfl⟩)
              go_ret2
              refine ⟨?_, rfl⟩
              rw [HR.out.1, HR.out.2]; rfl
            | false =>
              by_cases hc4 : codes < 4
              · have hc4' : (codes : Int) < 4 := by omega
                have HN := hide (stand_bar HST.out (by rw [HG.out, HX.out]) hc4)
                go_wp2_with (go_at_call 69; refine (g_isLetter _ _).mono ?_; rintro e w' ⟨rfl, rfl⟩)
                go_round
                case rel => exact ⟨codes + 1, 0, k + 1, true, by omega, by go_num, by go_num, rfl, by go_num, HN.out⟩
                case measure => simp [intOf]; omega
              · have hc4' : ¬ (codes : Int) < 4 := by omega
                have HR := hide (told_inl (stand_bar_full HST.out (by rw [HG.out, HX.out]) hc4))
                go_wp2_with (go_at_call 69; refine (g_isLetter _ _).mono ?_; rintro e w' ⟨rfl, rfl⟩)
                go_ret2
                refine ⟨?_, rfl⟩
                rw [HR.out.1, HR.out.2]; rfl
    · have hke : k = (bytesOf s).length := by rw [HT.out]; omega
      by_cases hp : 0 < part
      · have HR := hide (told_inl (stand_end_bad HST.out hke (.inl hp)))
        clear hke
        go_wp2
        go_ret2
        refine ⟨?_, rfl⟩
        rw [HR.out.1, HR.out.2, HT.out]; rfl
      · have hp0 : part = 0 := by omega
        subst hp0
        cases empty with
        | true =>
          have HR := hide (told_inl (stand_end_bad HST.out hke (.inr rfl)))
          clear hke
          go_wp2
          go_ret2
          refine ⟨?_, rfl⟩
          rw [HR.out.1, HR.out.2, HT.out]; rfl
        | false =>
          have HR := hide (stand_end_good HST.out hke)
          clear hke
          go_wp2
          go_ret2
          refine ⟨?_, rfl⟩
          rw [HR.out.1, HR.out.2]; rfl

end Go.Proofs.YtjbmflgamogefabGreat
