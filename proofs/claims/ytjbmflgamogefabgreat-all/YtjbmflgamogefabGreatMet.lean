/- Lists of spots in package greenref: met, with. -/
import Derived.Test.YtjbmflgamogefabGreatLeafS
namespace Go.Proofs.YtjbmflgamogefabGreat
open Go.RowKit

def spCells : List (Sp × Value) → List Value
  | [] => []
  | m :: t => .int .i64 m.1.1 :: .int .i64 m.1.2.1 :: m.2 :: spCells t
theorem spCells_len : ∀ M : List (Sp × Value), (spCells M).length = M.length * 3
  | [] => rfl
  | m :: t => by simp only [spCells, List.length_cons, spCells_len t]; omega
theorem spCells_get : ∀ (M : List (Sp × Value)) (k : Nat) (m : Sp × Value), M[k]? = some m →
    (spCells M)[k * 3]? = some (.int .i64 m.1.1) ∧ (spCells M)[k * 3 + 1]? = some (.int .i64 m.1.2.1) ∧ (spCells M)[k * 3 + 2]? = some m.2
  | [], k, m, h => by simp at h
  | m' :: t, 0, m, h => by simp at h; subst h; exact ⟨rfl, rfl, rfl⟩
  | m' :: t, k + 1, m, h => by
    have := spCells_get t k m (by simpa using h)
    have e : (k + 1) * 3 = k * 3 + 3 := by omega
    rw [e]; simpa [spCells] using this
theorem spCells_snoc (m : Sp × Value) : ∀ M : List (Sp × Value), spCells (M ++ [m]) = spCells M ++ [.int .i64 m.1.1, .int .i64 m.1.2.1, m.2]
  | [] => rfl
  | m' :: t => by simp [spCells, spCells_snoc m t]

/-- The slice value v holds the spots L, from block 'base' on; the rows of locks lie anywhere. -/
def SpotsAt (w : World) (base : Nat) (v : Value) (L : List Sp) : Prop :=
  ∃ M : List (Sp × Value), M.map (·.1) = L ∧ w.ownsRow base 118 3 v M.length (spCells M) ∧ ∀ m ∈ M, IntsAt w m.2 m.1.2.2

theorem row_cell {w : World} {base e size n : Nat} {v : Value} {xs : List Value} (h : w.ownsRow base e size v n xs) (hn : 0 < n) :
    ∃ g cap, v = .slice (some ⟨g, 0, none⟩) n cap ∧ base ≤ g ∧ g < w.heap.size ∧ ∀ k x, xs[k]? = some x → w.cell? ⟨g, k, none⟩ = some x := by
  rcases h.2 with ⟨rfl, h0⟩ | ⟨g, cap, cur, hv, hb, hg, _, _, hs, ht⟩
  · omega
  · refine ⟨g, cap, hv, hb, (Array.getElem?_eq_some_iff.1 hg).1, fun k x hk => ?_⟩
    rw [cell_of_row w g k cur _ (0, 0) hg]
    rw [← ht, List.getElem?_take] at hk
    split at hk
    · simpa using hk
    · cases hk
theorem row_slice {w : World} {base e size n : Nat} {v : Value} {xs : List Value} (h : w.ownsRow base e size v n xs) : ∃ ao cap, v = .slice ao n cap := by
  rcases h.2 with ⟨rfl, rfl⟩ | ⟨g, cap, cur, hv, _⟩
  · exact ⟨none, 0, rfl⟩
  · exact ⟨_, cap, hv⟩
theorem own_below {w w' : World} {base e size n : Nat} {v : Value} {xs : List Value} (h : w.ownsRow base e size v n xs) (hb : Below w.heap.size w w') : w'.ownsRow base e size v n xs := by
  refine ⟨h.1, ?_⟩
  rcases h.2 with h2 | ⟨g, cap, cur, hv, hb0, hg, rest⟩
  · exact .inl h2
  · exact .inr ⟨g, cap, cur, hv, hb0, by rw [hb.block g (Array.getElem?_eq_some_iff.1 hg).1]; exact hg, rest⟩
theorem SpotsAt.below {w w' : World} {base : Nat} {v : Value} {L : List Sp} (h : SpotsAt w base v L) (hb : Below w.heap.size w w') : SpotsAt w' base v L := by
  obtain ⟨M, h1, h2, h3⟩ := h
  exact ⟨M, h1, own_below h2 hb, fun m hm => (h3 m hm).below hb⟩
theorem SpotsAt.slice {w : World} {base : Nat} {v : Value} {L : List Sp} (h : SpotsAt w base v L) : ∃ ao cap, v = .slice ao L.length cap := by
  obtain ⟨M, rfl, h2, _⟩ := h
  obtain ⟨ao, cap, rfl⟩ := row_slice h2
  exact ⟨ao, cap, by simp⟩
theorem SpotsAt.at {w : World} {base : Nat} {ao : Option Addr} {n cap : Nat} {L : List Sp} (h : SpotsAt w base (.slice ao n cap) L) {k : Nat} {s : Sp} (hk : L[k]? = some s) :
    ∃ g hv, ao = some ⟨g, 0, none⟩ ∧ base ≤ g ∧ g < w.heap.size ∧ w.cell? ⟨g, k * 3, none⟩ = some (.int .i64 s.1) ∧ w.cell? ⟨g, k * 3 + 1, none⟩ = some (.int .i64 s.2.1) ∧ w.cell? ⟨g, k * 3 + 2, none⟩ = some hv ∧ IntsAt w hv s.2.2 := by
  obtain ⟨M, rfl, h2, h3⟩ := h
  obtain ⟨m, hm, rfl⟩ : ∃ m, M[k]? = some m ∧ m.1 = s := by simpa using hk
  have hlt := (List.getElem?_eq_some_iff.1 hm).1
  obtain ⟨g, cap', hv, hb, hg, hc⟩ := row_cell h2 (by omega)
  obtain ⟨g1, g2, g3⟩ := spCells_get M k m hm
  simp only [Value.slice.injEq] at hv
  exact ⟨g, m.2, hv.1, hb, hg, hc _ _ g1, hc _ _ g2, hc _ _ g3, h3 m (List.mem_of_getElem? hm)⟩

theorem metL_drop {L : List Sp} {s x : Sp} {k : Nat} (h : L[k]? = some x) : metL (L.drop k) s = (s == x || metL (L.drop (k + 1)) s) := by
  obtain ⟨hk, rfl⟩ := List.getElem?_eq_some_iff.1 h
  rw [List.drop_eq_getElem_cons hk]
  simp only [metL, List.contains_cons]

theorem sp_eq (s : Sp) (b : Bool) : (s == s || b) = true := by simp
theorem sp_ne {s x : Sp} (b : Bool) (h : ¬ s = x) : (s == x || b) = b := by simp [h]

set_option maxHeartbeats 1000000 in
theorem r_met (v hv : Value) (L : List Sp) (p h : Int) (r : List Int) (w : World) (base : Nat) (hL : SpotsAt w base v L) (hI : IntsAt w hv r) (hl : r.length ≤ 4) (hLl : ∀ s ∈ L, s.2.2.length ≤ 4) (hbd : L.length ≤ 1000000) :
    Calls Tryz.prog 77 #[v, .agg #[.int .i64 p, .int .i64 h, hv]] w fun e w' => e = .returned (.bool (metL L (p, h, r))) ∧ Below w.heap.size w w' := by
  obtain ⟨ao, cap, rfl⟩ := hL.slice
  have HL : Hid (∀ W, Below w.heap.size w W → SpotsAt W base (.slice ao L.length cap) L) := fun W hb => hL.below hb
  have HI : Hid (∀ W, Below w.heap.size w W → IntsAt W hv r) := fun W hb => hI.below hb
  have HLl := hide hLl
  clear hL hI hLl
  obtain ⟨B, hB⟩ : ∃ B, B = w.heap.size := ⟨_, rfl⟩
  have hB' : w.heap.size = B := hB.symm
  clear hB
  go_enter Tryz.func77, Tryz.ntmps77
  go_wp2
  go_loopw [5] (fun i wr => ∃ k : Nat, k ≤ L.length ∧ i = .int .i64 k ∧ Below (B + 1) (w.alloc (.cells #[.int .i64 p, .int .i64 h, hv] 118)) wr ∧ Hid (metL L (p, h, r) = metL (L.drop k) (p, h, r))) (fun i _ => L.length - (intOf i).toNat)
  case atStart => exact ⟨0, by omega, rfl, Below.refl _ _, rfl⟩
  case round =>
    obtain ⟨k, hk, rfl, hbel, hh⟩ := hrel
    have hz := hbel.size
    simp at hz
    have c0 : wr.cell? ⟨B, 0, none⟩ = some (.int .i64 p) := (hbel.cell (p := ⟨B, 0, none⟩) (by simp)).trans (by subst hB'; exact cell_new _ _ _ 0)
    have c1 : wr.cell? ⟨B, 1, none⟩ = some (.int .i64 h) := (hbel.cell (p := ⟨B, 1, none⟩) (by simp)).trans (by subst hB'; exact cell_new _ _ _ 1)
    have c2 : wr.cell? ⟨B, 2, none⟩ = some hv := (hbel.cell (p := ⟨B, 2, none⟩) (by simp)).trans (by subst hB'; exact cell_new _ _ _ 2)
    have HW : Hid (Below w.heap.size w wr) := ((Below.refl _ w).alloc (Nat.le_refl _) _).trans (hbel.mono (by omega))
    by_cases hlt : k < L.length
    · obtain ⟨x, hx⟩ : ∃ x, L[k]? = some x := ⟨L[k], by simp [hlt]⟩
      obtain ⟨g, gv, rfl, _, hg, d0, d1, d2, hgi⟩ := (HL.out wr HW.out).at hx
      obtain ⟨xp, xh, xr⟩ := x
      simp only at d0 d1 d2 hgi
      have HGI := hide hgi
      clear hgi
      have HS : Hid (metL L (p, h, r) = ((p, h, r) == (xp, xh, xr) || metL (L.drop (k + 1)) (p, h, r))) := by rw [hh.out]; exact metL_drop hx
      have hxl : xr.length ≤ 4 := HLl.out _ (List.mem_of_getElem? hx)
      have HCALL : Hid (∀ n, Calls Tryz.prog 90 #[gv, hv] (wr.drewN n) fun e w' => e = .returned (.bool (sameR xr r)) ∧ ∃ m, w' = (wr.drewN n).drewN m) := fun n => r_sameRow gv hv xr r _ (HGI.out.drewN n) ((HI.out _ HW.out).drewN n) hxl hl
      clear hx hh HGI
      go_wp2
      go_quiet ((go_at_call 90; exact Calls.quiet_of (HCALL.out _)))
      clear HCALL
      cases h1 : (xp == p) with
      | false =>
        have HM : Hid (metL L (p, h, r) = metL (L.drop (k + 1)) (p, h, r)) := by rw [HS.out]; exact sp_ne _ (by intro e; cases e; simp at h1)
        clear HS
        go_wp2
        go_quiet (fail)
        go_wp2
        go_roundw
        case rel => exact ⟨k + 1, by omega, by go_num, below_drewN hbel _, HM⟩
        case measure => simp [intOf]; omega
      | true =>
        cases h2 : (xh == h) with
        | false =>
          have HM : Hid (metL L (p, h, r) = metL (L.drop (k + 1)) (p, h, r)) := by rw [HS.out]; exact sp_ne _ (by intro e; cases e; simp at h2)
          clear HS
          go_wp2
          go_quiet (fail)
          go_wp2
          go_roundw
          case rel => exact ⟨k + 1, by omega, by go_num, below_drewN hbel _, HM⟩
          case measure => simp [intOf]; omega
        | true =>
          cases h3 : sameR xr r with
          | false =>
            have HM : Hid (metL L (p, h, r) = metL (L.drop (k + 1)) (p, h, r)) := by rw [HS.out]; exact sp_ne _ (by intro e; cases e; simp [sameR] at h3)
            clear HS
            go_wp2
            go_quiet (fail)
            go_wp2
            go_roundw
            case rel => exact ⟨k + 1, by omega, by go_num, below_drewN hbel _, HM⟩
            case measure => simp [intOf]; omega
          | true =>
            have HM : Hid (metL L (p, h, r) = true) := by
              rw [HS.out]
              have e1 : xp = p := by simpa using h1
              have e2 : xh = h := by simpa using h2
              have e3 : xr = r := by simpa [sameR] using h3
              rw [e1, e2, e3]; exact sp_eq _ _
            clear HS
            go_wp2
            go_quiet (fail)
            go_wp2
            go_ret
            exact ⟨ret_bool HM.out.symm, below_drewN (below_drewN HW.out _) _⟩
    · have HM : Hid (metL L (p, h, r) = false) := by rw [hh.out, List.drop_of_length_le (by omega)]; rfl
      clear hh
      go_wp2
      go_ret
      exact ⟨ret_bool HM.out.symm, HW.out⟩

theorem grown_of_below {w w' : World} (row : Option Nat) (h : Below w.heap.size w w') : w.grownBy w' row := ⟨h.os, h.tape, h.output, h.size, fun k hk _ => h.block k hk⟩
theorem grown_trans {a b c : World} {row : Option Nat} (h : a.grownBy b row) (k : b.grownBy c row) : a.grownBy c row :=
  ⟨k.os.trans h.os, k.tape.trans h.tape, k.output.trans h.output, Nat.le_trans h.size k.size, fun i hi hr => (k.block i (Nat.lt_of_lt_of_le hi h.size) hr).trans (h.block i hi hr)⟩
/-- A row of another element type than the row that is written stays. -/
theorem own_grown_other {w w' : World} {base base' e e' size size' n n' : Nat} {v v' : Value} {xs xs' : List Value} (h : w.ownsRow base e size v n xs) (h' : w.ownsRow base' e' size' v' n' xs') (hne : e ≠ e') (hg : w.grownBy w' v'.ownBlock) : w'.ownsRow base e size v n xs := by
  refine ⟨h.1, ?_⟩
  rcases h.2 with h2 | ⟨g, cap, cur, hv, hb0, hgg, rest⟩
  · exact .inl h2
  · refine .inr ⟨g, cap, cur, hv, hb0, ?_, rest⟩
    rw [hg.block g (Array.getElem?_eq_some_iff.1 hgg).1 ?_]; exact hgg
    intro hx
    rcases h'.2 with ⟨rfl, _⟩ | ⟨g', cap', cur', rfl, _, hgg', _⟩
    · simp [Value.ownBlock] at hx
    · simp only [Value.ownBlock, Option.some.injEq] at hx
      subst hx
      rw [hgg] at hgg'
      simp only [Option.some.injEq, Obj.cells.injEq] at hgg'
      exact hne hgg'.2.1
theorem Tryz.info118 : (Tryz.prog.info? 118).map (fun i => (i.zero, i.size, i.bytes)) = some (some (.agg #[.int .i64 0, .int .i64 0, .slice none 0 0]), 3, 40) := by kernel_rfl
theorem SpotsAt.snoc {w w' : World} {base : Nat} {v v' hv : Value} {L : List Sp} {M : List (Sp × Value)} {p h : Int} {r : List Int} (hM : M.map (·.1) = L) (h2 : w.ownsRow base 118 3 v M.length (spCells M)) (h3 : ∀ m ∈ M, IntsAt w m.2 m.1.2.2)
    (hI : IntsAt w hv r) (hown : w'.ownsRow base 118 3 v' (M.length + 1) (spCells M ++ [.int .i64 p, .int .i64 h, hv])) (hg : w.grownBy w' v.ownBlock) : SpotsAt w' base v' (L ++ [(p, h, r)]) := by
  refine ⟨M ++ [((p, h, r), hv)], by simp [hM], by rw [spCells_snoc, List.length_append]; exact hown, fun m hm => ?_⟩
  rcases List.mem_append.1 hm with hm | hm
  · exact own_grown_other (h3 m hm) h2 (by decide) hg
  · simp at hm; subst hm; exact own_grown_other hI h2 (by decide) hg

theorem news3 (w : World) (a b c : Value) (t : TypeId) : ∀ j u, [a, b, c][j]? = some u → (w.alloc (.cells #[a, b, c] t)).cell? ((⟨w.heap.size, 0, none⟩ : Addr).add j) = some u :=
  World.news_of_block (cs := #[a, b, c]) (heap_alloc_new w _)
theorem news2 (w : World) (a b : Value) (t : TypeId) : ∀ j u, [a, b][j]? = some u → (w.alloc (.cells #[a, b] t)).cell? ((⟨w.heap.size, 0, none⟩ : Addr).add j) = some u :=
  World.news_of_block (cs := #[a, b]) (heap_alloc_new w _)

set_option maxHeartbeats 1000000 in
theorem r_with (v hv : Value) (L : List Sp) (p h : Int) (r : List Int) (w : World) (base : Nat) (hL : SpotsAt w base v L) (hI : IntsAt w hv r) (hl : r.length ≤ 4) (hLl : ∀ s ∈ L, s.2.2.length ≤ 4) (hbd : L.length ≤ 1000000) (hb : base ≤ w.heap.size) :
    Calls Tryz.prog 58 #[v, .agg #[.int .i64 p, .int .i64 h, hv]] w fun e w' => ∃ v', e = .returned v' ∧ SpotsAt w' base v' (addL L (p, h, r)) ∧ w.grownBy w' v.ownBlock ∧ ∀ b, v'.ownBlock = some b → v.ownBlock = some b ∨ w.heap.size ≤ b := by
  have hb0 : Below w.heap.size w (w.alloc (.cells #[.int .i64 p, .int .i64 h, hv] 118)) := (Below.refl _ w).alloc (Nat.le_refl _) _
  have hmet := r_met v hv L p h r _ base (hL.below hb0) (hI.below hb0) hl hLl hbd
  obtain ⟨i0, hi, hz0, hz1, hzz⟩ := info_parts Tryz.info118
  obtain ⟨B, hB⟩ : ∃ B, B = w.heap.size := ⟨_, rfl⟩
  have hB' : w.heap.size = B := hB.symm
  clear hB
  have HMET := hide hmet
  clear hmet
  obtain ⟨ao, cap, rfl⟩ := hL.slice
  obtain ⟨bo, cap', rfl, _⟩ := hI.view2
  go_enter Tryz.func58, Tryz.ntmps58
  go_wp2_with fail
  refine HMET.out.mono ?_
  rintro e w1 ⟨rfl, hb1⟩
  have hb2 : Below w.heap.size w w1 := hb0.trans (hb1.mono (by simp))
  have hz := hb1.size
  simp at hz
  have k0 : w1.cell? ⟨B, 0, none⟩ = some (.int .i64 p) := (hb1.cell (p := ⟨B, 0, none⟩) (by simp; omega)).trans (by subst hB'; exact cell_new _ _ _ 0)
  have k1 : w1.cell? ⟨B, 1, none⟩ = some (.int .i64 h) := (hb1.cell (p := ⟨B, 1, none⟩) (by simp; omega)).trans (by subst hB'; exact cell_new _ _ _ 1)
  have k2 : w1.cell? ⟨B, 2, none⟩ = some (.slice bo r.length cap') := (hb1.cell (p := ⟨B, 2, none⟩) (by simp; omega)).trans (by subst hB'; exact cell_new _ _ _ 2)
  have hL1 := hL.below hb2
  have hI1 := hI.below hb2
  clear HMET hb0 hL hI hb1
  cases hm : metL L (p, h, r) with
  | true =>
    have HL1 := hide hL1
    have HB2 := hide hb2
    clear hL1 hI1 hb2
    go_wp2_with fail
    go_ret
    exact ⟨_, rfl, by rw [addL, hm]; exact HL1.out, grown_of_below _ HB2.out, fun _ h => .inl h⟩
  | false =>
    obtain ⟨M, hM, h2, h3⟩ := hL1
    have hML : M.length = L.length := by rw [← hM]; simp
    have hMl : M.length ≤ 1000000 := by omega
    have FIN : Hid (∀ v' w', w'.ownsRow base 118 3 v' (M.length + 1) (spCells M ++ [.int .i64 p, .int .i64 h, .slice bo r.length cap']) → (w1.alloc (.cells #[.int .i64 p, .int .i64 h, .slice bo r.length cap'] 118)).grownBy w' (Value.slice ao L.length cap).ownBlock → SpotsAt w' base v' (addL L (p, h, r)) ∧ w.grownBy w' (Value.slice ao L.length cap).ownBlock) := by
      intro v' w' ha hgr
      have hg1 := grown_trans (World.grownBy_alloc w1 _ _) hgr
      refine ⟨?_, grown_trans (grown_of_below _ hb2) hg1⟩
      rw [addL, hm]
      exact SpotsAt.snoc hM h2 h3 hI1 ha hg1
    have H2 := hide h2
    clear hM h3 hI1 hb2 h2 hML
    have h2 := H2.out
    have hz2 : w.heap.size ≤ w1.heap.size + 1 := by omega
    go_wp2_with (at_builtin; refine wpList_append_lies _ rfl _ _ 96 rfl base 118 i0 _ 3 40 Tryz.underlying96 hi hz0 hz1 hzz rfl (by decide) _ _ _ rfl (h2.alloc _) ⟨w1.heap.size, 0, none⟩ 1 1 [.int .i64 p, .int .i64 h, .slice bo r.length cap'] rfl rfl (news3 _ _ _ _ _) (by intro u hu; simp at hu; rcases hu with rfl | rfl | rfl <;> rfl) (by decide) (by unfold maxLen; omega) (by omega) (by simp; omega) (w1.heap.size + 1) (by simp) ?_; intro g' cap'' w' ha hgr hat _; have R := FIN.out _ w' ha hgr; clear ha hgr; have HAT := hide hat; clear hat)
    go_ret
    refine ⟨_, rfl, R.1, R.2, fun b hb => ?_⟩
    have hb' : some g' = some b := hb
    cases hb'
    rcases HAT.out with h | h
    · exact .inl h
    · exact .inr (by omega)

end Go.Proofs.YtjbmflgamogefabGreat
