/- green's goOn. -/
import Derived.Test.YtjbmflgamogefabGreatReach
import Derived.BigRegion
namespace Go.Proofs.YtjbmflgamogefabGreat
open Go.RowKit

theorem WalkAt.below {w w' : World} {D b gs n : Nat} {lv sv : Value} {L : List Sp} (h : WalkAt w D b gs lv sv n L) (hb : Below w.heap.size w w') : WalkAt w' D b gs lv sv n L := by
  obtain ⟨cur, hc, hm⟩ := h.marks
  exact ⟨by rw [hb.block b (heap_ltG h.self)]; exact h.self, ⟨cur, by rw [hb.block gs (heap_ltG hc)]; exact hc, hm⟩, own_below h.spots hb, h.Db, h.Dg⟩

theorem goOn_fin {w W1 w2 : World} {b gs : Nat} {sv sv2 : Value} (hb : Below w.heap.size w W1) (hk : Kept W1 w2 b gs sv.ownBlock) (ho : ∀ j, sv2.ownBlock = some j → sv.ownBlock = some j ∨ W1.heap.size ≤ j) :
    Kept w w2 b gs sv.ownBlock ∧ ∀ j, sv2.ownBlock = some j → sv.ownBlock = some j ∨ w.heap.size ≤ j :=
  ⟨(kept_of_below b gs sv.ownBlock hb).trans hk (fun _ _ h => h), fun j hj => (ho j hj).imp id (fun h => Nat.le_trans hb.size h)⟩
theorem goOn_fin2 {w w2 w3 : World} {b gs : Nat} {sv sv2 sv3 : Value} (h1 : Kept w w2 b gs sv.ownBlock) (h2 : ∀ j, sv2.ownBlock = some j → sv.ownBlock = some j ∨ w.heap.size ≤ j) (hk : Kept w2 w3 b gs sv2.ownBlock) (ho : ∀ j, sv3.ownBlock = some j → sv2.ownBlock = some j ∨ w2.heap.size ≤ j) :
    Kept w w3 b gs sv.ownBlock ∧ ∀ j, sv3.ownBlock = some j → sv.ownBlock = some j ∨ w.heap.size ≤ j := by
  refine ⟨h1.trans hk (fun j hj h => ?_), fun j hj => ?_⟩
  · rcases h2 j h with h | h
    · exact h
    · omega
  · rcases ho j hj with h | h
    · exact h2 j h
    · exact .inr (Nat.le_trans h1.size h)
theorem two_boxes {w w1 : World} {A B : Array Value} {t t' : TypeId} {m : Nat} (hb : Below (((w.alloc (.cells A t)).drewN m).alloc (.cells B t')).heap.size (((w.alloc (.cells A t)).drewN m).alloc (.cells B t')) w1) :
    Below w.heap.size w w1 ∧ w1.heap[w.heap.size]? = some (.cells A t (0, 0)) ∧ w1.heap[w.heap.size + 1]? = some (.cells B t' (0, 0)) ∧ w.heap.size + 2 ≤ w1.heap.size := by
  have hz : (((w.alloc (.cells A t)).drewN m).alloc (.cells B t')).heap.size = w.heap.size + 2 := by simp
  have h0 : Below w.heap.size w (((w.alloc (.cells A t)).drewN m).alloc (.cells B t')) := (below_drewN ((Below.refl _ _).alloc (Nat.le_refl _) _) _).alloc (by simp) _
  refine ⟨h0.trans (hb.mono (by omega)), ?_, ?_, by have := hb.size; omega⟩
  · rw [hb.block w.heap.size (by omega), Below.heap_alloc _ _ _ (by simp)]
    exact heap_alloc_new w _
  · rw [hb.block (w.heap.size + 1) (by omega)]
    have := heap_alloc_new ((w.alloc (.cells A t)).drewN m) (.cells B t')
    have e : ((w.alloc (.cells A t)).drewN m).heap.size = w.heap.size + 1 := by simp
    rw [e] at this; exact this
theorem enc_drop (r : List Int) (h : OkRow r) : enc r / 5 = enc r.dropLast := by
  rcases snoc_or r with rfl | ⟨s, l, rfl⟩
  · rfl
  · rw [enc_div s l h]; simp

set_option maxRecDepth 100000 in
set_option maxHeartbeats 4000000 in
theorem g_goOn (D b gs k : Nat) (lv sv : Value) (I : List In) (L : List Sp) (p h : Int) (r : List Int) (w : World) (hW : WalkAt w D b gs lv sv I.length L) (hI : GIns w lv I) (hO : OkCode I) (hwk : Walking I L k) (hs : L[k]? = some (p, h, r)) (hn : I.length ≤ 200) (hD : D ≤ w.heap.size) :
    Calls Tryz.prog 72 #[.pointer (some ⟨b, 0, none⟩), .agg #[.int .i64 p, .int .i64 h, .int .i64 (enc r)]] w fun e w' => e = .returned (.tuple #[]) ∧ ∃ sv' L', WalkAt w' D b gs lv sv' I.length L' ∧ Walking I L' (k + 1) ∧ Kept w w' b gs sv.ownBlock ∧ ∀ j, sv'.ownBlock = some j → sv.ownBlock = some j ∨ w.heap.size ≤ j := by
  obtain ⟨ao, cap, rfl⟩ := row_slice hI
  have hmem := List.mem_of_getElem? hs
  have hval := hwk.valid hO
  obtain ⟨v1, v2, v3, v4, v5, v6⟩ := hval _ hmem
  simp only at v1 v2 v3 v4 v5 v6
  have hsl := length_le_four r v5 v6
  have henc := enc_625 r v5 v6
  obtain ⟨c0, c1, c2, cf, hb⟩ := three hW.self
  have HW := hide hW
  have HI := hide hI
  have HO := hide hO
  have HWK := hide hwk
  have HS := hide hs
  have HVAL := hide hval
  clear hW hI hO hwk hs hval hmem
  have hp0 : decide (p < 0) = false := by simpa using v1
  by_cases hge : (I.length : Int) ≤ p
  · have HN : Hid (Walking I L (k + 1)) := HWK.out.next HS.out (fun t ht => by
      obtain ⟨c, a, hca, _⟩ := ht
      have := (List.getElem?_eq_some_iff.1 hca).1
      simp only at this; omega)
    go_enter Tryz.func72, Tryz.ntmps72
    go_wp2
    go_quiet (fail)
    go_wp2
    refine bodyPost_ret (results_none (by rfl) _ _ _) rfl ?_
    have hbb := below_drewN ((Below.refl w.heap.size w).alloc (Nat.le_refl _) (.cells #[.int .i64 p, .int .i64 h, .int .i64 (enc r)] 112)) 
    exact ⟨rfl, _, L, HW.out.below (hbb _), HN.out, kept_of_below _ _ _ (hbb _), fun j hj => .inl hj⟩
  · obtain ⟨q, rfl⟩ : ∃ q : Nat, p = q := ⟨p.toNat, by omega⟩
    have hlt' : q < I.length := by omega
    obtain ⟨⟨c, a⟩, hca⟩ : ∃ x, I[q]? = some x := ⟨I[q], by simp [hlt']⟩
    have hm := HO.out _ (List.mem_of_getElem? hca)
    simp only at hm
    obtain ⟨m1, m2, m3⟩ := hm
    obtain ⟨gi, rfl, hgi, e0, e1⟩ := HI.out.at hca
    have HCA := hide hca
    clear hca
    go_enter Tryz.func72, Tryz.ntmps72
    go_wp2
    go_quiet (fail)
    go_wp2
    go_region
    go_wp2_with fail
    refine (g_wrongAt c a q h r _ v5 hsl m1 m2 v3 v4).mono ?_
    rintro e w1 ⟨rfl, hb1⟩
    obtain ⟨hB1, hx0, hx1, hz1⟩ := two_boxes hb1
    have HB1 := hide hB1
    have HX0 := hide hx0
    have HX1 := hide hx1
    obtain ⟨a0, a1, a2, _, _⟩ := three hx0
    obtain ⟨i0, i1⟩ := twoG hx1
    clear hb1 hB1 hx0 hx1
    have HCQ : Hid (I[(((q : Int), h, r) : Sp).1.toNat]? = some (c, a)) := by simpa [Hid] using HCA.out
    have HMEM : Hid (((q : Int), h, r) ∈ L) := List.mem_of_getElem? HS.out
    have HWB : Hid (WalkAt w1 D b gs (.slice (some ⟨gi, 0, none⟩) I.length cap) sv I.length L) := HW.out.below HB1.out
    have hbd := HWK.out.bd HO.out
    have tk1 := tk_01 c
    have pt1 := pt_01 c
    by_cases hgo : goesOn c a ((q : Int), h, r)
    · have HGO := hide hgo
      obtain ⟨hg1, hg2⟩ := hgo
      simp only at hg1
      have hw0 : (wrg c a h r != 0) = false := by simpa using hg1
      have hx8 : (c == 88) = false := by simpa using hg2
      have hx8' : (c != 88) = true := by simpa using hg2
      have hst : tk c ≤ h ∧ h - tk c + pt c ≤ 6 := by
        have := (wr_ok hg1).1
        simp only [stkBad, Bool.or_eq_false_iff, decide_eq_false_iff_not] at this
        omega
      clear hg1 hg2
      have HSN : Hid (¬ c = 74 → Step I ((q : Int), h, r) (nxt c a ((q : Int), h, r))) := fun h1 => ⟨c, a, HCQ.out, HGO.out, .inl ⟨h1, rfl⟩⟩
      have HSJ : Hid ((c = 74 ∨ c = 90) → Step I ((q : Int), h, r) (jmp c a ((q : Int), h, r))) := fun h1 => ⟨c, a, HCQ.out, HGO.out, .inr ⟨h1, rfl⟩⟩
      have HV : Hid (∀ t, Step I ((q : Int), h, r) t → Valid I.length t) := fun t ht => (HVAL.out _ HMEM.out).step HO.out ht
      have HD1 : Hid (D ≤ w1.heap.size) := by show D ≤ _; have := HB1.out.size; omega
      rcases (show c = 65 ∨ c = 82 ∨ c = 74 ∨ c = 90 ∨ (¬ c = 65 ∧ ¬ c = 82 ∧ ¬ c = 74 ∧ ¬ c = 90) from by omega) with hc | hc | hc | hc | hc
      · have hj1 : (c == 74) = false := by simp [hc]
        have hj2 : (c == 90) = false := by simp [hc]
        have hj3 : (c != 74) = true := by simp [hc]
        have hr1 : (c == 65) = true := by simp [hc]
        have hrow : enc r * 5 + a + 1 = enc (behindR c a r) := by simp [behindR, keptR, hc, enc_snoc]
        have h74 : ¬ c = 74 := by simpa using hj1
        have h90 : ¬ c = 90 := by simpa using hj2
        have HN : Hid (Walking I (addL L ((q : Int) + 1, h - tk c + pt c, behindR c a r)) (k + 1)) :=
          (HWK.out.add HMEM.out (HSN.out h74)).over (addL_get HS.out) HCQ.out (fun _ => mem_addL.2 (.inr rfl)) (fun h => absurd h (by rintro (h | h) <;> contradiction))
        have HC := hide (fun m => g_reach D b gs I.length _ sv L ((q : Int) + 1) (h - tk c + pt c) (behindR c a r) (w1.drewN m) (HWB.out.below (below_drewN (Below.refl _ _) m)) (HV.out _ (HSN.out h74)) HVAL.out (by omega) hn HD1.out)
        clear HSN HSJ HV HWB HWK HVAL HO h74 h90 hc
        go_wp2_with fail
        go_quiet ((go_at_call 84; exact Calls.quiet_of_same (g_taken _ _)))
        go_wp2_with (first
          | (go_at_call 85; refine (g_pushed _ _).mono ?_; rintro e w' ⟨rfl, rfl⟩)
          | (go_at_call 86; refine (g_withLock _ _ _ (by omega) (by omega) (by omega) (by omega)).mono ?_; rintro e w' ⟨rfl, rfl⟩)
          | (go_at_call 87; refine (g_withoutLast _ _ (by omega) (by omega)).mono ?_; rintro e w' ⟨rfl, rfl⟩))
        refine (HC.out _).mono ?_
        rintro e w2 ⟨rfl, sv2, hW2, hK2, ho2⟩
        have FINAL := hide (goOn_fin (below_drewN HB1.out _) hK2 ho2)
        clear hK2 ho2 HC
        go_wp2_with fail
        go_end0
        exact ⟨rfl, sv2, _, hW2, HN.out, FINAL.out.1, FINAL.out.2⟩
      · have hj1 : (c == 74) = false := by simp [hc]
        have hj2 : (c == 90) = false := by simp [hc]
        have hj3 : (c != 74) = true := by simp [hc]
        have hr1 : (c == 65) = false := by simp [hc]
        have hr2 : (c == 82) = true := by simp [hc]
        have hrow : enc r / 5 = enc (behindR c a r) := by rw [enc_drop r v5]; simp [behindR, keptR, hc]
        have h74 : ¬ c = 74 := by simpa using hj1
        have h90 : ¬ c = 90 := by simpa using hj2
        have HN : Hid (Walking I (addL L ((q : Int) + 1, h - tk c + pt c, behindR c a r)) (k + 1)) :=
          (HWK.out.add HMEM.out (HSN.out h74)).over (addL_get HS.out) HCQ.out (fun _ => mem_addL.2 (.inr rfl)) (fun h => absurd h (by rintro (h | h) <;> contradiction))
        have HC := hide (fun m => g_reach D b gs I.length _ sv L ((q : Int) + 1) (h - tk c + pt c) (behindR c a r) (w1.drewN m) (HWB.out.below (below_drewN (Below.refl _ _) m)) (HV.out _ (HSN.out h74)) HVAL.out (by omega) hn HD1.out)
        clear HSN HSJ HV HWB HWK HVAL HO h74 h90 hc
        go_wp2_with fail
        go_quiet ((go_at_call 84; exact Calls.quiet_of_same (g_taken _ _)))
        go_wp2_with (first
          | (go_at_call 85; refine (g_pushed _ _).mono ?_; rintro e w' ⟨rfl, rfl⟩)
          | (go_at_call 86; refine (g_withLock _ _ _ (by omega) (by omega) (by omega) (by omega)).mono ?_; rintro e w' ⟨rfl, rfl⟩)
          | (go_at_call 87; refine (g_withoutLast _ _ (by omega) (by omega)).mono ?_; rintro e w' ⟨rfl, rfl⟩))
        refine (HC.out _).mono ?_
        rintro e w2 ⟨rfl, sv2, hW2, hK2, ho2⟩
        have FINAL := hide (goOn_fin (below_drewN HB1.out _) hK2 ho2)
        clear hK2 ho2 HC
        go_wp2_with fail
        go_end0
        exact ⟨rfl, sv2, _, hW2, HN.out, FINAL.out.1, FINAL.out.2⟩
      · have hr1 : (c == 65) = false := by simp [hc]
        have hr2 : (c == 82) = false := by simp [hc]
        have hj1 : (c == 74) = true := by simp [hc]
        have hj3 : (c != 74) = false := by simp [hc]
        have HROW : Hid (behindR c a r = r) := by simp [Hid, behindR, keptR, hc]
        have HN : Hid (Walking I (addL L (a, h - tk c + pt c, r)) (k + 1)) := by
          have := (HWK.out.add HMEM.out (HSJ.out (.inl hc))).over (addL_get HS.out) HCQ.out (fun h => absurd hc h) (fun _ => mem_addL.2 (.inr rfl))
          simp only [jmp, HROW.out] at this
          exact this
        have hvj := HV.out _ (HSJ.out (.inl hc))
        simp only [jmp, HROW.out] at hvj
        have HC := hide (fun m => g_reach D b gs I.length _ sv L a (h - tk c + pt c) r (w1.drewN m) (HWB.out.below (below_drewN (Below.refl _ _) m)) hvj HVAL.out (by omega) hn HD1.out)
        clear HSN HSJ HV HWB HWK HVAL HO hc hvj
        go_wp2_with fail
        go_quiet ((go_at_call 84; exact Calls.quiet_of_same (g_taken _ _)))
        go_wp2_with (first
          | (go_at_call 85; refine (g_pushed _ _).mono ?_; rintro e w' ⟨rfl, rfl⟩)
          | (go_at_call 86; refine (g_withLock _ _ _ (by omega) (by omega) (by omega) (by omega)).mono ?_; rintro e w' ⟨rfl, rfl⟩)
          | (go_at_call 87; refine (g_withoutLast _ _ (by omega) (by omega)).mono ?_; rintro e w' ⟨rfl, rfl⟩))
        refine (HC.out _).mono ?_
        rintro e w2 ⟨rfl, sv2, hW2, hK2, ho2⟩
        have FINAL := hide (goOn_fin (below_drewN HB1.out _) hK2 ho2)
        have i2 : w2.cell? ⟨w.heap.size + 1, 0, none⟩ = some (.int .u8 c) := (twoG ((hK2.block (w.heap.size + 1) (by simp; omega) (by omega) (by have := heap_ltG HW.out.marks.choose_spec.1; omega) (fun e => by have := (HW.out.spots.lt _ e.symm).2; omega)).trans HX1.out)).1
        clear hK2 ho2 HC
        go_wp2_with fail
        go_end0
        exact ⟨rfl, sv2, _, hW2, HN.out, FINAL.out.1, FINAL.out.2⟩
      · have hr1 : (c == 65) = false := by simp [hc]
        have hr2 : (c == 82) = false := by simp [hc]
        have hj1 : (c == 74) = false := by simp [hc]
        have hj2 : (c == 90) = true := by simp [hc]
        have hj3 : (c != 74) = true := by simp [hc]
        have h74 : ¬ c = 74 := by simpa using hj1
        have HROW : Hid (behindR c a r = r) := by simp [Hid, behindR, keptR, hc]
        have HM1 : Hid (Walking I (addL L (a, h - tk c + pt c, r)) k) := by
          have := HWK.out.add HMEM.out (HSJ.out (.inr hc))
          simp only [jmp, HROW.out] at this
          exact this
        have HN : Hid (Walking I (addL (addL L (a, h - tk c + pt c, r)) ((q : Int) + 1, h - tk c + pt c, r)) (k + 1)) := by
          have h2 := HM1.out.add (mem_addL.2 (.inl HMEM.out)) (HSN.out h74)
          simp only [nxt, HROW.out] at h2
          refine h2.over (addL_get (addL_get HS.out)) HCQ.out (fun _ => ?_) (fun _ => ?_)
          · simp only [nxt, HROW.out]; exact mem_addL.2 (.inr rfl)
          · simp only [jmp, HROW.out]; exact mem_addL.2 (.inl (mem_addL.2 (.inr rfl)))
        have hvj := HV.out _ (HSJ.out (.inr hc))
        simp only [jmp, HROW.out] at hvj
        have hvn := HV.out _ (HSN.out h74)
        simp only [nxt, HROW.out] at hvn
        have HC := hide (fun m => g_reach D b gs I.length _ sv L a (h - tk c + pt c) r (w1.drewN m) (HWB.out.below (below_drewN (Below.refl _ _) m)) hvj HVAL.out (by omega) hn HD1.out)
        have hbd1 := HM1.out.bd HO.out
        have HC2 := hide (fun sv2 w2 hW2 hD2 => g_reach D b gs I.length (.slice (some ⟨gi, 0, none⟩) I.length cap) sv2 (addL L (a, h - tk c + pt c, r)) ((q : Int) + 1) (h - tk c + pt c) r w2 hW2 hvn (HM1.out.valid HO.out) (by omega) hn hD2)
        clear HSN HSJ HV HWB HWK HVAL HO hc hvj hvn h74
        go_wp2_with fail
        go_quiet ((go_at_call 84; exact Calls.quiet_of_same (g_taken _ _)))
        go_wp2_with (first
          | (go_at_call 85; refine (g_pushed _ _).mono ?_; rintro e w' ⟨rfl, rfl⟩)
          | (go_at_call 86; refine (g_withLock _ _ _ (by omega) (by omega) (by omega) (by omega)).mono ?_; rintro e w' ⟨rfl, rfl⟩)
          | (go_at_call 87; refine (g_withoutLast _ _ (by omega) (by omega)).mono ?_; rintro e w' ⟨rfl, rfl⟩))
        refine (HC.out _).mono ?_
        rintro e w2 ⟨rfl, sv2, hW2, hK2, ho2⟩
        have FINAL := hide (goOn_fin (below_drewN HB1.out _) hK2 ho2)
        have hz2 := hK2.size
        simp at hz2
        have i2 : w2.cell? ⟨w.heap.size + 1, 0, none⟩ = some (.int .u8 c) := (twoG ((hK2.block (w.heap.size + 1) (by simp; omega) (by omega) (by have := heap_ltG HW.out.marks.choose_spec.1; omega) (fun e => by have := (HW.out.spots.lt _ e.symm).2; omega)).trans HX1.out)).1
        have a3 : w2.cell? ⟨w.heap.size, 0, none⟩ = some (.int .i64 q) := (three ((hK2.block w.heap.size (by simp; omega) (by omega) (by have := heap_ltG HW.out.marks.choose_spec.1; omega) (fun e => by have := (HW.out.spots.lt _ e.symm).2; omega)).trans HX0.out)).1
        have HC3 := hide (HC2.out sv2 w2 hW2 (by omega))
        clear hK2 ho2 HC HC2 hW2
        go_wp2_with fail
        refine HC3.out.mono ?_
        rintro e w3 ⟨rfl, sv3, hW3, hK3, ho3⟩
        have FINAL2 := hide (goOn_fin2 FINAL.out.1 FINAL.out.2 hK3 ho3)
        clear hK3 ho3 HC3
        go_wp2_with fail
        go_end0
        exact ⟨rfl, sv3, _, hW3, HN.out, FINAL2.out.1, FINAL2.out.2⟩
      · have hj1 : (c == 74) = false := by simp [hc]
        have hj2 : (c == 90) = false := by simp [hc]
        have hj3 : (c != 74) = true := by simp [hc]
        have hr1 : (c == 65) = false := by simp [hc]
        have hr2 : (c == 82) = false := by simp [hc]
        have hrow : enc (behindR c a r) = enc r := by simp [behindR, keptR, hc]
        have h74 : ¬ c = 74 := by simpa using hj1
        have h90 : ¬ c = 90 := by simpa using hj2
        have HN : Hid (Walking I (addL L ((q : Int) + 1, h - tk c + pt c, behindR c a r)) (k + 1)) :=
          (HWK.out.add HMEM.out (HSN.out h74)).over (addL_get HS.out) HCQ.out (fun _ => mem_addL.2 (.inr rfl)) (fun h => absurd h (by rintro (h | h) <;> contradiction))
        have HC := hide (fun m => g_reach D b gs I.length _ sv L ((q : Int) + 1) (h - tk c + pt c) (behindR c a r) (w1.drewN m) (HWB.out.below (below_drewN (Below.refl _ _) m)) (HV.out _ (HSN.out h74)) HVAL.out (by omega) hn HD1.out)
        rw [hrow] at HC
        clear HSN HSJ HV HWB HWK HVAL HO h74 h90 hc hrow
        go_wp2_with fail
        go_quiet ((go_at_call 84; exact Calls.quiet_of_same (g_taken _ _)))
        go_wp2_with (first
          | (go_at_call 85; refine (g_pushed _ _).mono ?_; rintro e w' ⟨rfl, rfl⟩)
          | (go_at_call 86; refine (g_withLock _ _ _ (by omega) (by omega) (by omega) (by omega)).mono ?_; rintro e w' ⟨rfl, rfl⟩)
          | (go_at_call 87; refine (g_withoutLast _ _ (by omega) (by omega)).mono ?_; rintro e w' ⟨rfl, rfl⟩))
        refine (HC.out _).mono ?_
        rintro e w2 ⟨rfl, sv2, hW2, hK2, ho2⟩
        have FINAL := hide (goOn_fin (below_drewN HB1.out _) hK2 ho2)
        clear hK2 ho2 HC
        go_wp2_with fail
        go_end0
        exact ⟨rfl, sv2, _, hW2, HN.out, FINAL.out.1, FINAL.out.2⟩
    · have HN : Hid (Walking I L (k + 1)) := HWK.out.next HS.out (fun t ht => by
        obtain ⟨c', a', hca', hg', _⟩ := ht
        have := HCQ.out
        rw [this] at hca'
        cases hca'
        exact absurd hg' hgo)
      have FINAL := hide (kept_of_below b gs sv.ownBlock HB1.out)
      cases hw0 : (wrg c a h r != 0) with
      | true =>
        clear hgo
        go_wp2_with fail
        refine bodyPost_ret (results_none (by rfl) _ _ _) rfl ?_
        exact ⟨rfl, sv, L, HWB.out, HN.out, FINAL.out, fun j hj => .inl hj⟩
      | false =>
        have h88 : c = 88 := by
          have hw1 : wrg c a h r = 0 := by simpa using hw0
          by_cases h8 : c = 88
          · exact h8
          · exact absurd ⟨hw1, h8⟩ hgo
        have hst : tk c = 0 ∧ pt c = 0 := by simp [tk, pt, h88]
        have hr1 : (c == 65) = false := by simp [h88]
        have hr2 : (c == 82) = false := by simp [h88]
        have hj1 : (c == 74) = false := by simp [h88]
        have hj2 : (c == 90) = false := by simp [h88]
        have hj3 : (c != 74) = true := by simp [h88]
        have hj4 : (c != 88) = false := by simp [h88]
        have FINAL2 : Hid (∀ m, WalkAt (w1.drewN m) D b gs (.slice (some ⟨gi, 0, none⟩) I.length cap) sv I.length L ∧ Kept w (w1.drewN m) b gs sv.ownBlock) := fun m => ⟨HWB.out.below (below_drewN (Below.refl _ _) m), kept_of_below b gs sv.ownBlock (below_drewN HB1.out m)⟩
        obtain ⟨t1, t2⟩ := hst
        have HT1 := hide t1
        have HT2 := hide t2
        clear hgo h88 t1 t2
        go_wp2_with fail
        go_quiet ((go_at_call 84; exact Calls.quiet_of_same (g_taken _ _)))
        go_wp2_with (first
          | (go_at_call 85; refine (g_pushed _ _).mono ?_; rintro e w' ⟨rfl, rfl⟩)
          | (go_at_call 86; refine (g_withLock _ _ _ (by omega) (by omega) (by omega) (by omega)).mono ?_; rintro e w' ⟨rfl, rfl⟩)
          | (go_at_call 87; refine (g_withoutLast _ _ (by omega) (by omega)).mono ?_; rintro e w' ⟨rfl, rfl⟩))
        go_end0
        exact ⟨rfl, sv, L, (FINAL2.out _).1, HN.out, (FINAL2.out _).2, fun j hj => .inl hj⟩

end Go.Proofs.YtjbmflgamogefabGreat
