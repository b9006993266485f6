/- greenref's Read. -/
import Derived.Test.YtjbmflgamogefabGreatRCode
namespace Go.Proofs.YtjbmflgamogefabGreat
open Go.RowKit

def rcCells : List ((Nat × List In) × Value) → List Value
  | [] => []
  | m :: t => m.2 :: .int .i64 ((m.1.1 + 3 * m.1.2.length : Nat) : Int) :: rcCells t
theorem rcCells_get : ∀ (M : List ((Nat × List In) × Value)) (k : Nat) (m), M[k]? = some m → (rcCells M)[k * 2]? = some m.2 ∧ (rcCells M)[k * 2 + 1]? = some (.int .i64 ((m.1.1 + 3 * m.1.2.length : Nat) : Int))
  | [], k, m, h => by simp at h
  | m' :: t, 0, m, h => by simp at h; subst h; exact ⟨rfl, rfl⟩
  | m' :: t, k + 1, m, h => by
    have := rcCells_get t k m (by simpa using h)
    have e : (k + 1) * 2 = k * 2 + 2 := by omega
    rw [e]; simpa [rcCells] using this
theorem rcCells_snoc (m : (Nat × List In) × Value) : ∀ M, rcCells (M ++ [m]) = rcCells M ++ [m.2, .int .i64 ((m.1.1 + 3 * m.1.2.length : Nat) : Int)]
  | [] => rfl
  | m' :: t => by simp [rcCells, rcCells_snoc m t]
/-- The slice value v holds the codes. -/
def CodsAt (w : World) (base : Nat) (v : Value) (cs : Cods) : Prop :=
  ∃ M : List ((Nat × List In) × Value), M.map (·.1) = cs ∧ w.ownsRow base 60 2 v M.length (rcCells M) ∧ ∀ m ∈ M, InsAt w m.2 m.1.1 m.1.2
theorem CodsAt.below {w w' : World} {base : Nat} {v : Value} {cs : Cods} (h : CodsAt w base v cs) (hb : Below w.heap.size w w') : CodsAt w' base v cs := by
  obtain ⟨M, h1, h2, h3⟩ := h
  exact ⟨M, h1, own_below h2 hb, fun m hm => (h3 m hm).below hb⟩
theorem CodsAt.slice {w : World} {base : Nat} {v : Value} {cs : Cods} (h : CodsAt w base v cs) : ∃ ao cap, v = .slice ao cs.length cap := by
  obtain ⟨M, rfl, h2, _⟩ := h
  obtain ⟨ao, cap, rfl⟩ := row_slice h2
  exact ⟨ao, cap, by simp⟩
theorem CodsAt.at {w : World} {base : Nat} {ao : Option Addr} {n cap : Nat} {cs : Cods} (h : CodsAt w base (.slice ao n cap) cs) {k : Nat} {st : Nat} {I : List In} (hk : cs[k]? = some (st, I)) :
    ∃ g lv, ao = some ⟨g, 0, none⟩ ∧ g < w.heap.size ∧ w.cell? ⟨g, k * 2, none⟩ = some lv ∧ w.cell? ⟨g, k * 2 + 1, none⟩ = some (.int .i64 ((st + 3 * I.length : Nat) : Int)) ∧ InsAt w lv st I := by
  obtain ⟨M, rfl, h2, h3⟩ := h
  obtain ⟨m, hm, hmk⟩ : ∃ m, M[k]? = some m ∧ m.1 = (st, I) := by simpa using hk
  have hlt := (List.getElem?_eq_some_iff.1 hm).1
  obtain ⟨g, cap', hv, _, hg, hc⟩ := row_cell h2 (by omega)
  obtain ⟨g1, g2⟩ := rcCells_get M k m hm
  have h4 := h3 m (List.mem_of_getElem? hm)
  rw [hmk] at g2 h4
  simp only [Value.slice.injEq] at hv
  exact ⟨g, m.2, hv.1, hg, hc _ _ g1, hc _ _ g2, h4⟩
theorem CodsAt.snoc {w w' : World} {base : Nat} {v v' lv : Value} {cs : Cods} {st : Nat} {I : List In} {M : List ((Nat × List In) × Value)} (hM : M.map (·.1) = cs) (h2 : w.ownsRow base 60 2 v M.length (rcCells M)) (h3 : ∀ m ∈ M, InsAt w m.2 m.1.1 m.1.2)
    (hI : InsAt w lv st I) (hown : w'.ownsRow base 60 2 v' (M.length + 1) (rcCells M ++ [lv, .int .i64 ((st + 3 * I.length : Nat) : Int)])) (hg : w.grownBy w' v.ownBlock) : CodsAt w' base v' (cs ++ [(st, I)]) := by
  refine ⟨M ++ [((st, I), lv)], by simp [hM], by rw [rcCells_snoc, List.length_append]; exact hown, fun m hm => ?_⟩
  rcases List.mem_append.1 hm with hm | hm
  · exact own_grown_other (h3 m hm) h2 (by decide) hg
  · simp at hm; subst hm; exact own_grown_other hI h2 (by decide) hg
theorem news2H (w : World) (a b : Value) (t : TypeId) (H : Nat) (hH : w.heap.size = H) : ∀ j u, [a, b][j]? = some u → (w.alloc (.cells #[a, b] t)).cell? ((⟨H, 0, none⟩ : Addr).add j) = some u := by
  subst hH; exact news2 w a b t
theorem two_new (w : World) (a b : Obj) : Below w.heap.size w ((w.alloc a).alloc b) := ((Below.refl _ _).alloc (Nat.le_refl _) _).alloc (by simp) _
theorem Tryz.info60 : (Tryz.prog.info? 60).map (fun i => (i.zero, i.size, i.bytes)) = some (some (.agg #[.slice none 0 0, .int .i64 0]), 2, 32) := by kernel_rfl

/-- What 'Read' answers. -/
def ReadTold (w' : World) (e : Ending) (n : Nat) (R : Nat ⊕ Cods) : Prop := match R with
  | .inl j => e = .returned (.tuple #[.slice none 0 0, .int .i64 j, .bool false])
  | .inr cs => ∃ v, e = .returned (.tuple #[v, .int .i64 n, .bool true]) ∧ CodsAt w' 0 v cs

theorem pread_inl {T : List Int} {k i j : Nat} {acc : Cods} (h : pcode (T.drop i) [] i = .inl j) : pread T k acc i = .inl j := by
  rw [pread_eq]; exact pfrom_inl h
theorem pread_end {T : List Int} {k i j : Nat} {acc : Cods} {cur : List In} (h : pcode (T.drop i) [] i = .inr (cur, j)) (hj : j = T.length) : pread T k acc i = .inr (acc ++ [(i, cur)]) := by
  rw [pread_eq, pfrom, h]; simp [hj]
theorem pread_full {T : List Int} {i j : Nat} {acc : Cods} {cur : List In} (h : pcode (T.drop i) [] i = .inr (cur, j)) (hj : ¬ j = T.length) : pread T 0 acc i = .inl j := by
  rw [pread_eq, pfrom, h]; simp [hj]
theorem pread_next {T : List Int} {k i j : Nat} {acc : Cods} {cur : List In} (h : pcode (T.drop i) [] i = .inr (cur, j)) (hj : ¬ j = T.length) : pread T (k + 1) acc i = pread T k (acc ++ [(i, cur)]) (j + 1) := by
  rw [pread_eq, pfrom, h]; simp [hj]
theorem pcode_le : ∀ (n : Nat) (t : List Int) (cur cur' : List In) (i j : Nat), t.length ≤ n → pcode t cur i = .inr (cur', j) → j ≤ i + t.length
  | 0, t, cur, cur', i, j, hn, h => by
    have : t = [] := List.eq_nil_of_length_eq_zero (by omega)
    subst this
    simp only [pcode] at h
    split at h
    · cases h
    · cases h; simp
  | n + 1, [], cur, cur', i, j, hn, h => by
    simp only [pcode] at h
    split at h
    · cases h
    · cases h; simp
  | n + 1, c :: [], cur, cur', i, j, hn, h => by
    simp only [pcode] at h
    split at h
    · cases h; simp
    · split at h <;> cases h
  | n + 1, c :: d :: [], cur, cur', i, j, hn, h => by
    simp only [pcode] at h
    split at h
    · cases h; simp
    · split at h
      · cases h
      · split at h <;> cases h
  | n + 1, c :: d :: e :: t, cur, cur', i, j, hn, h => by
    simp only [pcode] at h
    split at h
    · cases h; simp
    · split at h
      · cases h
      · split at h
        · cases h
        · split at h
          · cases h
          · have := pcode_le n t _ _ _ _ (by simp at hn; omega) h
            simp only [List.length_cons]; omega

set_option maxRecDepth 100000 in
set_option maxHeartbeats 4000000 in
theorem r_Read (s : ByteArray) (w : World) (hs : s.size ≤ 400) :
    Calls Tryz.prog 24 #[.string s] w fun e w' => ReadTold w' e s.size (parse (bytesOf s)) ∧ Below w.heap.size w w' := by
  have HT := hide (bytesOf_len s)
  obtain ⟨i0, hi, hz0, hz1, hz2⟩ := info_parts Tryz.info60
  obtain ⟨R, hR⟩ : ∃ R, parse (bytesOf s) = R := ⟨_, rfl⟩
  rw [hR]
  have HR := hide hR
  clear hR
  go_enter Tryz.func24, Tryz.ntmps24
  go_wp2
  go_loopw [5, 6, 7] (fun l i k wr => ∃ (j m : Nat) (acc : Cods), m ≤ 3 ∧ k = .int .i64 m ∧ acc.length = m ∧ j ≤ s.size ∧ i = .int .i64 j ∧ pread (bytesOf s) (3 - m) acc j = R ∧ CodsAt wr w.heap.size l acc ∧ Below w.heap.size w wr) (fun _ _ k _ => 4 - (intOf k).toNat)
  case atStart => exact ⟨0, 0, [], by omega, rfl, rfl, Nat.zero_le _, rfl, HR.out, ⟨[], rfl, World.ownsRow_nil _ _ _ _, fun m hm => by cases hm⟩, Below.refl _ _⟩
  case round =>
    obtain ⟨j, m, acc, hm, rfl, hal, hj, rfl, hp, hL, hbel⟩ := hrel
    obtain ⟨lo, lcap, rfl⟩ := hL.slice
    have HP := hide hp
    have HL := hide hL
    have HBEL := hide hbel
    have hzr := hbel.size
    have HAL := hide hal
    have hal4 : acc.length ≤ 3 := by omega
    clear hp hL hbel hal
    have HC := hide (r_code s j wr hs hj)
    go_wp2_with fail
    refine HC.out.mono ?_
    rintro e w1 ⟨htold, hb1⟩
    clear HC
    cases hpc : pcode ((bytesOf s).drop j) [] j with
    | inl q =>
      rw [hpc] at htold
      obtain ⟨xo, xn, xc, rfl⟩ := htold
      have HRR : Hid (R = .inl q) := by rw [Hid, ← HP.out]; exact pread_inl hpc
      have HB1 : Hid (Below w.heap.size w w1) := HBEL.out.trans (hb1.mono hzr)
      clear hpc hb1
      go_wp2_with fail
      go_ret3
      rw [HRR.out]
      exact ⟨rfl, HB1.out.alloc HB1.out.size _⟩
    | inr x =>
      obtain ⟨cur, q⟩ := x
      rw [hpc] at htold
      obtain ⟨lv, rfl, hI, hq⟩ := htold
      simp only at hI hq ⊢
      obtain ⟨co, ccap, rfl⟩ := row_slice hI
      have hq2 : q ≤ s.size := by
        have := pcode_le _ _ _ _ _ _ (Nat.le_refl _) hpc
        rw [List.length_drop, HT.out] at this; omega
      have HQ := hide hq
      obtain ⟨M, hM, h2, h3⟩ := HL.out.below hb1
      have hb2 : Below w1.heap.size w1 (w1.alloc (.cells #[.slice co cur.length ccap, .int .i64 q] 60)) := (Below.refl _ _).alloc (Nat.le_refl _) _
      have HB1 : Hid (Below w.heap.size w w1) := HBEL.out.trans (hb1.mono hzr)
      have hMl : M.length ≤ 3 := by have : M.length = acc.length := by rw [← hM]; simp
                                    omega
      have h2' := own_below h2 hb2
      have FIN : Hid (∀ W v' w', Below w1.heap.size w1 W → w'.ownsRow w.heap.size 60 2 v' (M.length + 1) (rcCells M ++ [.slice co cur.length ccap, .int .i64 q]) → W.grownBy w' (Value.slice lo acc.length lcap).ownBlock → CodsAt w' w.heap.size v' (acc ++ [(j, cur)]) ∧ Below w.heap.size w w') := by
        intro W v' w' hbW ho hg
        have e : (q : Int) = ((j + 3 * cur.length : Nat) : Int) := by rw [HQ.out]
        rw [e] at ho
        refine ⟨CodsAt.snoc hM (own_below h2 hbW) (fun m hm => (h3 m hm).below hbW) (hI.below hbW) ho hg, ?_⟩
        exact (HB1.out.trans (hbW.mono HB1.out.size)).grown hg (Nat.le_trans HB1.out.size hbW.size) (fun k hk => (h2.lt k hk).1)
      have H2 := hide h2
      have hzz := HB1.out.size
      clear hM h3 hI hb1 hb2 hq h2
      by_cases hend : q = s.size
      · have HRR : Hid (R = .inr (acc ++ [(j, cur)])) := by rw [Hid, ← HP.out]; exact pread_end hpc (by rw [HT.out]; exact hend)
        have he1 : ((q : Int) == (s.size : Int)) = true := by simp [hend]
        have HE := hide hend
        clear hend hpc
        go_wp2_with (at_builtin; refine wpList_append_own _ rfl _ _ 47 rfl w.heap.size 60 i0 _ 2 32 Tryz.underlying47 hi hz0 hz1 hz2 rfl (by decide) _ _ _ rfl (h2'.alloc _) ⟨w1.heap.size + 1, 0, none⟩ 1 1 [.slice co cur.length ccap, .int .i64 q] rfl rfl (news2H _ _ _ _ _ (by simp)) (by intro u hu; simp at hu; rcases hu with rfl | rfl <;> rfl) (by unfold maxLen; omega) (by omega) (by simp; omega) ?_; intro v' w2 ha hgr _; have R2 := hide (FIN.out _ v' w2 (two_new _ _ _) ha hgr); clear ha hgr)
        go_ret3
        rw [HRR.out]
        refine ⟨⟨v', by rw [HE.out]; rfl, ?_⟩, R2.out.2⟩
        obtain ⟨M', k1, k2, k3⟩ := R2.out.1
        exact ⟨M', k1, own_mono k2 (Nat.zero_le _), k3⟩
      · have he1 : ((q : Int) == (s.size : Int)) = false := by simp; omega
        by_cases hm3 : m = 3
        · have HRR : Hid (R = .inl q) := by
            rw [Hid, ← HP.out, hm3]; exact pread_full hpc (by rw [HT.out]; exact hend)
          subst hm3
          clear hend hpc
          go_wp2_with (at_builtin; refine wpList_append_own _ rfl _ _ 47 rfl w.heap.size 60 i0 _ 2 32 Tryz.underlying47 hi hz0 hz1 hz2 rfl (by decide) _ _ _ rfl (h2'.alloc _) ⟨w1.heap.size + 1, 0, none⟩ 1 1 [.slice co cur.length ccap, .int .i64 q] rfl rfl (news2H _ _ _ _ _ (by simp)) (by intro u hu; simp at hu; rcases hu with rfl | rfl <;> rfl) (by unfold maxLen; omega) (by omega) (by simp; omega) ?_; intro v' w2 ha hgr _; have R2 := hide (FIN.out _ v' w2 (two_new _ _ _) ha hgr); clear ha hgr)
          go_ret3
          rw [HRR.out]
          exact ⟨rfl, R2.out.2⟩
        · have HRR : Hid (pread (bytesOf s) (3 - (m + 1)) (acc ++ [(j, cur)]) (q + 1) = R) := by
            rw [Hid, ← HP.out, show 3 - m = (3 - (m + 1)) + 1 from by omega, pread_next hpc (by rw [HT.out]; exact hend)]
          have he2 : ((m : Int) + 1 == 4) = false := by simp; omega
          have hlt : m < 4 := by omega
          have hq3 : q + 1 ≤ s.size := by omega
          have hm4 : m + 1 ≤ 3 := by omega
          clear hend hpc hm3
          go_wp2_with (at_builtin; refine wpList_append_own _ rfl _ _ 47 rfl w.heap.size 60 i0 _ 2 32 Tryz.underlying47 hi hz0 hz1 hz2 rfl (by decide) _ _ _ rfl (h2'.alloc _) ⟨w1.heap.size + 1, 0, none⟩ 1 1 [.slice co cur.length ccap, .int .i64 q] rfl rfl (news2H _ _ _ _ _ (by simp)) (by intro u hu; simp at hu; rcases hu with rfl | rfl <;> rfl) (by unfold maxLen; omega) (by omega) (by simp; omega) ?_; intro v' w2 ha hgr _; have R2 := hide (FIN.out _ v' w2 (two_new _ _ _) ha hgr); clear ha hgr)
          go_roundw
          case rel => exact ⟨q + 1, m + 1, acc ++ [(j, cur)], hm4, by go_num, by rw [List.length_append, HAL.out]; rfl, hq3, by go_num, HRR.out, R2.out.1, R2.out.2⟩
          case measure => simp [intOf]; omega

end Go.Proofs.YtjbmflgamogefabGreat
