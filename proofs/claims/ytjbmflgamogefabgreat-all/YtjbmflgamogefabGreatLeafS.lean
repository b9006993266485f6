/- Rows of locks in package greenref: last, sameRow, wrong, behind. -/
import Derived.Test.YtjbmflgamogefabGreatLeafR
namespace Go.Proofs.YtjbmflgamogefabGreat
open Go.RowKit

theorem IntsAt.view2 {w : World} {v : Value} {r : List Int} (h : IntsAt w v r) :
    ∃ ao cap, v = .slice ao r.length cap ∧ ∀ k x, r[k]? = some x → ∃ g, ao = some ⟨g, 0, none⟩ ∧ g < w.heap.size ∧ w.cell? ⟨g, k, none⟩ = some (.int .i64 x) := by
  rcases h.view with ⟨rfl, rfl⟩ | ⟨g, cap, rfl, hg, hc⟩
  · exact ⟨none, 0, rfl, fun k x hk => by simp at hk⟩
  · exact ⟨some ⟨g, 0, none⟩, cap, rfl, fun k x hk => ⟨g, rfl, hg, hc k x hk⟩⟩

set_option maxHeartbeats 400000 in
theorem r_last (v : Value) (r : List Int) (a : Int) (w : World) (hv : IntsAt w v r) (hl : r.length ≤ 4) :
    Calls Tryz.prog 76 #[v, .int .i64 a] w fun e w' => e = .returned (.bool (lastIs r a)) ∧ w' = w := by
  obtain ⟨ao, cap, rfl, hc⟩ := hv.view2
  clear hv
  rcases snoc_or r with rfl | ⟨s, l, rfl⟩
  · clear hc
    go_enter Tryz.func76, Tryz.ntmps76
    go_wp2
    go_ret
    exact ⟨rfl, rfl⟩
  · obtain ⟨g, rfl, hg, hcell⟩ := hc s.length l (by simp)
    clear hc
    have hr : ∀ b : Bool, lastIs (s ++ [l]) a = b → Hid (lastIs (s ++ [l]) a = b) := fun _ h => h
    have H := lastIs_snoc s l a
    have H' := hr _ H
    clear H hr
    rw [List.length_append, List.length_singleton] at *
    generalize s.length = n at *
    go_enter Tryz.func76, Tryz.ntmps76
    go_wp2
    go_ret
    exact ⟨ret_bool (by rw [H'.out]), rfl⟩

theorem beq_drop {r s : List Int} {k : Nat} {x y : Int} (h : r[k]? = some x) (h' : s[k]? = some y) : (r.drop k == s.drop k) = (x == y && r.drop (k + 1) == s.drop (k + 1)) := by
  obtain ⟨hk, rfl⟩ := List.getElem?_eq_some_iff.1 h
  obtain ⟨hk', rfl⟩ := List.getElem?_eq_some_iff.1 h'
  rw [List.drop_eq_getElem_cons hk, List.drop_eq_getElem_cons hk']
  rfl
def sameR (r s : List Int) : Bool := r == s

set_option maxHeartbeats 400000 in
theorem r_sameRow (u v : Value) (r s : List Int) (w : World) (hu : IntsAt w u r) (hv : IntsAt w v s) (hl : r.length ≤ 4) (_hl' : s.length ≤ 4) :
    Calls Tryz.prog 90 #[u, v] w fun e w' => e = .returned (.bool (sameR r s)) ∧ ∃ n, w' = w.drewN n := by
  obtain ⟨ao, cap, rfl, hc⟩ := hu.view2
  obtain ⟨bo, cap', rfl, hd⟩ := hv.view2
  have HC : Hid (∀ k x, r[k]? = some x → ∃ g, ao = some ⟨g, 0, none⟩ ∧ g < w.heap.size ∧ w.cell? ⟨g, k, none⟩ = some (.int .i64 x)) := hc
  have HD : Hid (∀ k x, s[k]? = some x → ∃ g, bo = some ⟨g, 0, none⟩ ∧ g < w.heap.size ∧ w.cell? ⟨g, k, none⟩ = some (.int .i64 x)) := hd
  clear hu hv hc hd
  by_cases hlen : r.length = s.length
  · have HL : Hid (r.length = s.length) := hlen
    have hne : ((r.length : Int) != (s.length : Int)) = false := by simp [hlen]
    clear hlen
    go_enter Tryz.func90, Tryz.ntmps90
    go_wp2
    go_loopw [5] (fun i wr => ∃ k : Nat, k ≤ r.length ∧ i = .int .i64 k ∧ (∃ n, wr = w.drewN n) ∧ Hid (sameR r s = sameR (r.drop k) (s.drop k))) (fun i _ => r.length - (intOf i).toNat)
    case atStart => exact ⟨0, by omega, rfl, ⟨0, rfl⟩, rfl⟩
    case round =>
      obtain ⟨k, hk, rfl, ⟨nq, rfl⟩, hh⟩ := hrel
      by_cases hlt : k < r.length
      · have hlt' : k < s.length := by have := HL.out; omega
        obtain ⟨x, hx⟩ : ∃ x, r[k]? = some x := ⟨r[k], by simp [hlt]⟩
        obtain ⟨y, hy⟩ : ∃ y, s[k]? = some y := ⟨s[k], by simp [hlt']⟩
        obtain ⟨g, rfl, hg, hcell⟩ := HC.out k x hx
        obtain ⟨g', rfl, hg', hcell'⟩ := HD.out k y hy
        have HS : Hid (sameR r s = (x == y && sameR (r.drop (k + 1)) (s.drop (k + 1)))) := by rw [hh.out]; exact beq_drop hx hy
        clear hx hy hh
        by_cases hxy : x = y
        · have h1 : (x != y) = false := by simp [hxy]
          have HX : Hid (x = y) := hxy
          clear hxy
          go_wp2
          go_quiet (fail)
          go_wp2
          go_roundw
          case rel => exact ⟨k + 1, by omega, by go_num, (by first | exact ⟨_, rfl⟩ | (rw [World.drewN_drewN]; exact ⟨_, rfl⟩)), by rw [HS.out, HX.out]; simp [Hid]⟩
          case measure => simp [intOf]; omega
        · have h1 : (x != y) = true := by simp [hxy]
          have HX : Hid (¬ x = y) := hxy
          clear hxy
          go_wp2
          go_quiet (fail)
          go_wp2
          go_ret
          exact ⟨ret_bool (by rw [HS.out, beq_eq_false_iff_ne.2 HX.out]; rfl), (by first | exact ⟨_, rfl⟩ | (rw [World.drewN_drewN]; exact ⟨_, rfl⟩))⟩
      · have := HL.out
        have HE : Hid (sameR r s = true) := by
          rw [hh.out, List.drop_of_length_le (by omega), List.drop_of_length_le (by omega)]; rfl
        clear this
        go_wp2
        go_ret
        exact ⟨ret_bool HE.out.symm, _, rfl⟩
  · have hne : ((r.length : Int) != (s.length : Int)) = true := by simp; omega
    have HE : Hid (sameR r s = false) := by
      show (r == s) = false
      rw [beq_eq_false_iff_ne]; intro h; exact hlen (by rw [h])
    clear hlen
    go_enter Tryz.func90, Tryz.ntmps90
    go_wp2
    go_ret
    exact ⟨ret_bool HE.out.symm, 0, rfl⟩

set_option maxHeartbeats 1000000 in
theorem r_wrong (c a p q h : Int) (hv : Value) (r : List Int) (w : World) (hI : IntsAt w hv r) (hl : r.length ≤ 4) (h0 : 0 ≤ h) (h1 : h ≤ 6) :
    Calls Tryz.prog 54 #[.agg #[.int .u8 c, .int .i64 a, .int .i64 p], .agg #[.int .i64 q, .int .i64 h, hv]] w fun e w' => e = .returned (.int .i64 (wrg c a h r)) ∧ Below w.heap.size w w' := by
  obtain ⟨ao, cap, rfl, _⟩ := hI.view2
  have HI : Hid (∀ W, Below w.heap.size w W → IntsAt W (.slice ao r.length cap) r) := fun W hb => hI.below hb
  clear hI
  have ht := tk_01 c
  have hp := pt_01 c
  by_cases hs : h < tk c
  · have HR : Hid (wrg c a h r = 5) := by simp [Hid, wrg, stkBad, hs]
    go_enter Tryz.func54, Tryz.ntmps54
    go_wp2_with fail
    go_quiet (first | (go_at_call 55; exact Calls.quiet_of_same (r_takes _ _)) | (go_at_call 56; exact Calls.quiet_of_same (r_puts _ _)))
    go_wp2_with fail
    go_ret
    exact ⟨ret_int HR.out.symm, below_drewN (((Below.refl _ w).alloc (Nat.le_refl _) _).alloc (by simp) _) _⟩
  · have hd : decide (h < tk c) = false := by simpa using hs
    by_cases hs2 : 6 < h - tk c + pt c
    · have HR : Hid (wrg c a h r = 5) := by simp [Hid, wrg, stkBad, hs2]
      go_enter Tryz.func54, Tryz.ntmps54
      go_wp2_with fail
      go_quiet (first | (go_at_call 55; exact Calls.quiet_of_same (r_takes _ _)) | (go_at_call 56; exact Calls.quiet_of_same (r_puts _ _)))
      go_wp2_with fail
      go_ret
      exact ⟨ret_int HR.out.symm, below_drewN (((Below.refl _ w).alloc (Nat.le_refl _) _).alloc (by simp) _) _⟩
    · have HR : Hid (wrg c a h r = if lckBad c a r then 6 else 0) := by simp [Hid, wrg, stkBad, hs, hs2]
      go_enter Tryz.func54, Tryz.ntmps54
      go_wp2_with fail
      go_quiet (first | (go_at_call 55; exact Calls.quiet_of_same (r_takes _ _)) | (go_at_call 56; exact Calls.quiet_of_same (r_puts _ _)))
      go_wp2_with (first
        | (go_at_call 75; refine (r_holds _ _ _ _ (HI.out _ (below_drewN (((Below.refl _ w).alloc (Nat.le_refl _) _).alloc (by simp) _) _)) hl).mono ?_; rintro e w' ⟨rfl, rfl⟩)
        | (go_at_call 76; refine (r_last _ _ _ _ (HI.out _ (below_drewN (((Below.refl _ w).alloc (Nat.le_refl _) _).alloc (by simp) _) _)) hl).mono ?_; rintro e w' ⟨rfl, rfl⟩))
      all_goals
        go_ret
        refine ⟨ret_int ?_, below_drewN (((Below.refl _ w).alloc (Nat.le_refl _) _).alloc (by simp) _) _⟩
        rw [HR.out]
        clear HI
        cases r <;> simp_all [lckBad]

theorem own_mono {w : World} {base base' : Nat} {e : TypeId} {size : Nat} {v : Value} {n : Nat} {xs : List Value} (h : w.ownsRow base e size v n xs) (hb : base' ≤ base) : w.ownsRow base' e size v n xs := by
  refine ⟨h.1, ?_⟩
  rcases h.2 with h2 | ⟨g, cap, cur, hv, hb0, rest⟩
  · exact .inl h2
  · exact .inr ⟨g, cap, cur, hv, by omega, rest⟩

theorem cell_new (w : World) (cs : Array Value) (t : TypeId) (j : Nat) : (w.alloc (.cells cs t)).cell? ⟨w.heap.size, j, none⟩ = cs[j]? := by
  rw [cell_of_row _ w.heap.size j cs t (0, 0) (heap_alloc_new w _)]
theorem behind_step {w wr w1 : World} {B : Nat} {t : List Int} {o v' : Value} {u x : Value} {y : Int} {e : TypeId} (hown' : w1.ownsRow (B + 1) 3 1 v' (t.length + 1) (t.map (Value.int .i64) ++ [.int .i64 y]))
    (hown : wr.ownsRow (B + 1) 3 1 o t.length (t.map (Value.int .i64)))
    (hgrow : (wr.alloc (.cells #[x] e)).grownBy w1 o.ownBlock) (hbel : Below (B + 1) w wr) (hB : B + 1 ≤ wr.heap.size) (_hu : u = x) :
    w1.ownsRow (B + 1) 3 1 v' (t ++ [y]).length ((t ++ [y]).map (Value.int .i64)) ∧ Below (B + 1) w w1 :=
  ⟨by simpa using hown', (hbel.alloc hB _).grown hgrow (by simp; omega) (fun k hk => (hown.lt k hk).1)⟩

theorem keptR_len (c : Int) (r : List Int) : (keptR c r).length ≤ r.length := by unfold keptR; split <;> simp
theorem keptR_get (c : Int) (r : List Int) (k : Nat) (x : Int) (h : r[k]? = some x) (hk : k < (keptR c r).length) : (keptR c r)[k]? = some x := by
  unfold keptR at *
  split at hk
  · rename_i hc
    rw [if_pos hc]
    rw [List.getElem?_dropLast, if_pos (by simpa using hk)]
    exact h
  · rename_i hc
    rw [if_neg hc]; exact h
theorem keptR_take (c : Int) (r : List Int) (k : Nat) (x : Int) (h : r[k]? = some x) (hk : k < (keptR c r).length) : (keptR c r).take (k + 1) = (keptR c r).take k ++ [x] := by
  have := keptR_get c r k x h hk
  rw [List.take_add_one, this]; rfl
theorem keptR_over (c : Int) (r : List Int) (k : Nat) (hk : (keptR c r).length ≤ k) : (keptR c r).take (k + 1) = (keptR c r).take k := by
  rw [List.take_of_length_le (by omega), List.take_of_length_le hk]

theorem Tryz.info3 : (Tryz.prog.info? 3).map (fun i => (i.zero, i.size, i.bytes)) = some (some (.int .i64 0), 1, 8) := by kernel_rfl

set_option maxHeartbeats 1000000 in
theorem r_behind (c a p : Int) (v : Value) (r : List Int) (w : World) (hI : IntsAt w v r) (hl : r.length ≤ 4) :
    Calls Tryz.prog 57 #[.agg #[.int .u8 c, .int .i64 a, .int .i64 p], v] w fun e w' => ∃ v', e = .returned v' ∧ IntsAt w' v' (behindR c a r) ∧ Below w.heap.size w w' := by
  obtain ⟨ao, cap, rfl, hc⟩ := hI.view2
  have HC : Hid (∀ k x, r[k]? = some x → ∃ g, ao = some ⟨g, 0, none⟩ ∧ g < w.heap.size ∧ w.cell? ⟨g, k, none⟩ = some (.int .i64 x)) := hc
  clear hI hc
  obtain ⟨i0, hi, hz0, hz1, hz2⟩ := info_parts Tryz.info3
  have hkl := keptR_len c r
  have HK : Hid (c = 82 → (keptR c r).length = r.length - 1) := fun h => by simp [keptR, h]
  have HK' : Hid (¬ c = 82 → (keptR c r).length = r.length) := fun h => by simp [keptR, h]
  obtain ⟨B, hB⟩ : ∃ B, B = w.heap.size := ⟨_, rfl⟩
  have hB' : w.heap.size = B := hB.symm
  clear hB
  go_enter Tryz.func57, Tryz.ntmps57
  go_wp2
  go_loopw [5, 6] (fun o i wr => ∃ k : Nat, k ≤ r.length ∧ i = .int .i64 k ∧ wr.ownsRow (B + 1) 3 1 o ((keptR c r).take k).length (((keptR c r).take k).map (Value.int .i64)) ∧ Below (B + 1) (w.alloc (.cells #[.int .u8 c, .int .i64 a, .int .i64 p] 63)) wr) (fun _ i _ => r.length - (intOf i).toNat)
  case atStart => exact ⟨0, by omega, rfl, World.ownsRow_nil _ _ _ _, Below.refl _ _⟩
  case round =>
    obtain ⟨k, hk, rfl, hown, hbel⟩ := hrel
    have hz := hbel.size
    simp at hz
    have c0 : wr.cell? ⟨B, 0, none⟩ = some (.int .u8 c) := (hbel.cell (p := ⟨B, 0, none⟩) (by simp)).trans (by subst hB'; exact cell_new _ _ _ 0)
    have c1 : wr.cell? ⟨B, 1, none⟩ = some (.int .i64 a) := (hbel.cell (p := ⟨B, 1, none⟩) (by simp)).trans (by subst hB'; exact cell_new _ _ _ 1)
    have HW : Hid (Below w.heap.size w wr) := ((Below.refl _ w).alloc (Nat.le_refl _) _).trans (hbel.mono (by omega))
    by_cases hlt : k < r.length
    · obtain ⟨x, hx⟩ : ∃ x, r[k]? = some x := ⟨r[k], by simp [hlt]⟩
      obtain ⟨g, rfl, hg, hcell0⟩ := HC.out k x hx
      have hcell : wr.cell? ⟨g, k, none⟩ = some (.int .i64 x) := (HW.out.cell (p := ⟨g, k, none⟩) hg).trans hcell0
      clear hcell0
      by_cases hin : k < (keptR c r).length
      · have HT : Hid ((keptR c r).take (k + 1) = (keptR c r).take k ++ [x]) := keptR_take c r k x hx hin
        clear hx
        have hle : ((keptR c r).take k).length ≤ 4 := by rw [List.length_take]; omega
        have fin : ∀ (v' : Value) (w1 : World), w1.ownsRow (B + 1) 3 1 v' (((keptR c r).take k).length + 1) (((keptR c r).take k).map (Value.int .i64) ++ [.int .i64 x]) → (wr.alloc (.cells #[.int .i64 x] 3)).grownBy w1 u5.ownBlock →
            (w1.ownsRow (B + 1) 3 1 v' ((keptR c r).take (k + 1)).length (((keptR c r).take (k + 1)).map (Value.int .i64)) ∧ Below (B + 1) (w.alloc (.cells #[.int .u8 c, .int .i64 a, .int .i64 p] 63)) w1) := by
          intro v' w1 h1 h2
          have := behind_step (u := .int .i64 x) h1 hown h2 hbel (by omega) rfl
          rw [HT.out]; exact this
        have FIN := hide fin
        clear fin
        generalize ht : (keptR c r).take k = t at *
        clear ht
        by_cases h82 : c = 82
        · have hb1 : (c != 82) = false := by simp [h82]
          have hb2 : (k : Int) < (r.length : Int) - 1 := by have := HK.out h82; omega
          clear h82
          go_wp2_with (at_builtin; refine wpList_append_own _ rfl _ _ 29 rfl (B + 1) 3 i0 (.int .i64 0) 1 8 Tryz.underlying29 hi hz0 hz1 hz2 rfl (by decide) _ _ _ rfl (hown.alloc _) ⟨wr.heap.size, 0, none⟩ 1 1 [.int .i64 x] rfl rfl (cell_one_new _ _ _) (by intro u hu; simp at hu; subst hu; rfl) (by unfold maxLen; omega) (by omega) (by simp; omega) ?_; intro v' w1 hown' hgrow _; have R := unhide FIN v' w1 hown' hgrow; clear hown' hgrow)
          go_roundw
          case rel => exact ⟨k + 1, by omega, by go_num, R.1, R.2⟩
          case measure => simp [intOf]; omega
        · have hb1 : (c != 82) = true := by simp [h82]
          clear h82
          go_wp2_with (at_builtin; refine wpList_append_own _ rfl _ _ 29 rfl (B + 1) 3 i0 (.int .i64 0) 1 8 Tryz.underlying29 hi hz0 hz1 hz2 rfl (by decide) _ _ _ rfl (hown.alloc _) ⟨wr.heap.size, 0, none⟩ 1 1 [.int .i64 x] rfl rfl (cell_one_new _ _ _) (by intro u hu; simp at hu; subst hu; rfl) (by unfold maxLen; omega) (by omega) (by simp; omega) ?_; intro v' w1 hown' hgrow _; have R := unhide FIN v' w1 hown' hgrow; clear hown' hgrow)
          go_roundw
          case rel => exact ⟨k + 1, by omega, by go_num, R.1, R.2⟩
          case measure => simp [intOf]; omega
      · have HT : Hid ((keptR c r).take (k + 1) = (keptR c r).take k) := keptR_over c r k (by omega)
        have h82 : c = 82 := by
          by_cases h : c = 82
          · exact h
          · have := HK'.out h; omega
        have hb1 : (c != 82) = false := by simp [h82]
        have hb2 : ¬ (k : Int) < (r.length : Int) - 1 := by have := HK.out h82; omega
        clear h82 hx
        go_wp2
        go_roundw
        case rel => exact ⟨k + 1, by omega, by go_num, by rw [HT.out]; exact hown, hbel⟩
        case measure => simp [intOf]; omega
    · have HT : Hid ((keptR c r).take k = keptR c r) := List.take_of_length_le (by omega)
      rw [HT.out] at hown
      have hle : (keptR c r).length ≤ 4 := by omega
      have HWW : Hid (∀ W, Below (B + 1) (w.alloc (.cells #[.int .u8 c, .int .i64 a, .int .i64 p] 63)) W → Below w.heap.size w W) := fun W hb => ((Below.refl _ w).alloc (Nat.le_refl _) _).trans (hb.mono (by omega))
      by_cases h65 : c = 65
      · have HE : Hid (behindR c a r = keptR c r ++ [a]) := by simp [Hid, behindR, h65]
        have hb1 : (c == 65) = true := by simp [h65]
        have FIN := hide (fun (v' : Value) (w1 : World) h1 h2 => behind_step (u := .int .i64 a) (x := .int .i64 a) (y := a) (e := 3) (v' := v') (w1 := w1) h1 hown h2 hbel (by omega) rfl)
        clear h65
        generalize keptR c r = t at *
        go_wp2_with (at_builtin; refine wpList_append_own _ rfl _ _ 29 rfl (B + 1) 3 i0 (.int .i64 0) 1 8 Tryz.underlying29 hi hz0 hz1 hz2 rfl (by decide) _ _ _ rfl (hown.alloc _) ⟨wr.heap.size, 0, none⟩ 1 1 [.int .i64 a] rfl rfl (cell_one_new _ _ _) (by intro u hu; simp at hu; subst hu; rfl) (by unfold maxLen; omega) (by omega) (by simp; omega) ?_; intro v' w1 hown' hgrow _; have R := unhide FIN v' w1 hown' hgrow; clear hown' hgrow)
        go_ret
        exact ⟨_, rfl, by rw [HE.out]; exact own_mono R.1 (by omega), HWW.out _ R.2⟩
      · have HE : Hid (behindR c a r = keptR c r) := by simp [Hid, behindR, h65]
        have hb1 : (c == 65) = false := by simp [h65]
        clear h65
        go_wp2
        go_ret
        exact ⟨_, rfl, by rw [HE.out]; exact own_mono hown (by omega), HWW.out _ hbel⟩

end Go.Proofs.YtjbmflgamogefabGreat
