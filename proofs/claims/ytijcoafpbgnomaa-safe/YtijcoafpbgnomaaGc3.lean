/- The code's calls: Owners, Cells. -/
import Derived.Test.YtijcoafpbgnomaaGc2
namespace Go.Proofs.Ytijcoafpbgnomaa
open Go.RowKit

def nameI (x : Int) : Int := if x < 0 then 45 else 48 + x
theorem g_nameI (x : Int) (w : World) (hx : x = -1 ∨ ∃ k : Nat, k < 4 ∧ x = k) : Calls Try.prog 47 #[.int .i64 x] w fun e w' => e = .returned (.int .u8 (nameI x)) ∧ w' = w := by
  rcases hx with rfl | ⟨k, hk, rfl⟩
  · exact g_nameOf0 w
  · have : nameI (k : Int) = 48 + k := by unfold nameI; rw [if_neg (by omega)]
    rw [this]; exact g_nameOf k w hk
def ownS (_ : World) (_ : Nat) (m : Mac) (v : Value) : Prop := v = .string (strOf ((List.range 4).map (fun l => nameI (m.own l))))
theorem size_l : (Try.prog.info? 84).map (·.size) = some 12 := by kernel_rfl
theorem under_l : ∃ d, Try.prog.underlying 84 = some d ∧ d.isRow = true := by
  have h : (Try.prog.underlying 84).map (·.isRow) = some true := by kernel_rfl
  obtain ⟨d, h1, h2⟩ := Option.map_eq_some_iff.1 h
  exact ⟨d, h1, h2⟩
theorem size_lk : (Try.prog.info? 83).map (·.size) = some 3 := by kernel_rfl
theorem one3 {x y z : Value} (hx : x.oneCell' = true) (hy : y.oneCell' = true) (hz : z.oneCell' = true) : (#[x, y, z] : Array Value).all (·.oneCell') = true := by simp [hx, hy, hz]
theorem index_l (cs : Array Value) (j : Nat) (w : World) (h : j < 4) : (Instr.index 84 (.agg cs) (.int .i64 j)).run Try.prog w = .ok (.agg (cs.extract (j * 3) (j * 3 + 3))) w := by
  unfold Instr.index
  simp [go_sem]
  intro h4; omega
theorem wpList_index_l {ops : Array Oper} {rest : List Oper} {op : Oper} {a : Act} {w : World} {Q : Exit → Act → World → Prop} (hgd : op.guard = none) (x ix : Operand) (ho : op.op = .index 84 x ix) (cs v' : Array Value) (j : Nat) (hx : a.eval x = .agg cs) (hi : a.eval ix = .int .i64 (j : Nat)) (hj : j < 4) (hv : cs.extract (j * 3) (j * 3 + 3) = v') (h : wpList Try.prog ops Q rest (a.put op.dst (.agg v')) w) : wpList Try.prog ops Q (op :: rest) a w :=
  wpList_val hgd _ _ (by simp only [execOp, ho, hx, hi, Sem.run_bind, index_l cs j w hj, Result.andThen_ok, Sem.run_pure, hv]) h
theorem GSee.locks {K : GK} {w : World} {Y : GY} {m : Mac} {c : Array Value} (h : GSee K w Y m c) {W : World} {b : Nat} (hb : W.heap[b]? = some (.cells c 86 (0, 0))) : W.rangeAt b 9 [.int .i64 (m.own 0), Y.val 1, Y.val 5, .int .i64 (m.own 1), Y.val 2, Y.val 6, .int .i64 (m.own 2), Y.val 3, Y.val 7, .int .i64 (m.own 3), Y.val 4, Y.val 8] := by
  obtain ⟨_, _, h2, h3⟩ := h.head
  intro j v hj
  rw [cell_of_row _ _ _ _ _ _ hb]
  match j, hj with
  | 0, hj => simp at hj; subst hj; exact h2 0 (by decide)
  | 1, hj => simp at hj; subst hj; exact h3 1 (by decide)
  | 2, hj => simp at hj; subst hj; exact h3 5 (by decide)
  | 3, hj => simp at hj; subst hj; exact h2 1 (by decide)
  | 4, hj => simp at hj; subst hj; exact h3 2 (by decide)
  | 5, hj => simp at hj; subst hj; exact h3 6 (by decide)
  | 6, hj => simp at hj; subst hj; exact h2 2 (by decide)
  | 7, hj => simp at hj; subst hj; exact h3 3 (by decide)
  | 8, hj => simp at hj; subst hj; exact h3 7 (by decide)
  | 9, hj => simp at hj; subst hj; exact h2 3 (by decide)
  | 10, hj => simp at hj; subst hj; exact h3 4 (by decide)
  | 11, hj => simp at hj; subst hj; exact h3 8 (by decide)
  | j + 12, hj => simp at hj

set_option maxRecDepth 100000 in
set_option maxHeartbeats 1000000 in
theorem g_Owners (s : ByteArray) (q n : Int) (w : World) (hm : s.size ≤ maxLen) :
    Calls Try.prog 34 #[.string s, .int .i64 q, .int .i64 n] w fun e w' => CallAns w' e (bytesOf s) q n noS ownS ∧ Below w.heap.size w w' := by
  have HP := hide (g_run s q n w hm)
  go_enter Try.func34, Try.ntmps34
  go_wp2_with fail
  refine HP.out.mono ?_
  rintro e w1 ⟨r, hg, ha, hb⟩
  have HB : Hid (∀ o, Below w.heap.size w (w1.alloc o)) := fun o => hb.alloc hb.size o
  rcases ha with ⟨hz, rfl⟩ | ⟨rfl, hR, cs, c, h1, h2, h3, rfl, K, Y, k1, hs⟩
  · obtain ⟨r1, r2⟩ := r
    have hz0 : (r1 != 0) = true := by simp only at hz; simp [hz]
    have HG := hide hg
    have HZ := hide hz
    clear hg hb hz HP
    go_wp2_with (first
      | (refine wpList_alloc_m rfl rfl ?_)
      | (refine wpList_store_new rfl 86 _ _ rfl Zm Zm rfl rfl rfl size_m rfl Zm_one ?_))
    go_ret3
    exact ⟨⟨_, _, HG.out, rfl, .inl ⟨HZ.out, rfl⟩⟩, HB.out _⟩
  · have HS := hide hs
    have HB2 : Hid (Below w1.heap.size w1 ((w1.alloc (.cells c 86)).alloc (.cells #[] 5))) := ((Below.refl _ _).alloc (Nat.le_refl _) _).alloc (by simp) _
    have HE := hide (sb_empty ((w1.alloc (.cells c 86))) (n := w1.heap.size + 1) (by simp))
    have HL := hide (hs.locks (W := (w1.alloc (.cells c 86)).alloc (.cells #[] 5)) (b := w1.heap.size) (by rw [((Below.refl (w1.alloc (.cells c 86)).heap.size _).alloc (Nat.le_refl _) _).block w1.heap.size (by simp)]; exact heap_alloc_new w1 _))
    have FIN : Hid (∀ w', CallAns w' (.returned (.tuple #[.string (strOf ((List.range 4).map (fun l => nameI ((playM (codesOf cs) cs.length q.toNat n.toNat).own l)))), .int .i64 0, .int .i64 0])) (bytesOf s) q n noS ownS) := fun w' => ⟨(0, 0), _, hg, rfl, .inr ⟨rfl, hR, cs, h1, h2, h3, rfl⟩⟩
    have HO : Hid (∀ l, (playM (codesOf cs) cs.length q.toNat n.toNat).own l = -1 ∨ ∃ k : Nat, k < 4 ∧ (playM (codesOf cs) cs.length q.toNat n.toNat).own l = k) := fun l => by
      rcases play_who (fine_of h1 h2 h3) q.toNat n.toNat l with e | ⟨k, hk, e, _⟩
      · exact .inl e
      · exact .inr ⟨k, by have := parse_lenG h1; omega, e⟩
    generalize playM (codesOf cs) cs.length q.toNat n.toNat = m at *
    have HBW := hide hb
    obtain ⟨d, hd1, hd2⟩ := under_l
    clear hb hs HP h1 h2 h3 hg hR k1
    go_wp2_with (first
      | (refine wpList_alloc_m rfl rfl ?_)
      | (refine wpList_store_new rfl 86 _ _ rfl Zm c rfl rfl rfl (by rw [size_m, HS.out.size]) HS.out.size.symm HS.out.one ?_)
      | (refine wpList_load_mid rfl 84 _ rfl w1.heap.size 9 rfl _ d HL.out hd1 hd2 size_l ?_))
    obtain ⟨i0, hi0, hz0, hz1, hz2⟩ := info_parts info_u8
    have hw1 : w1.heap.size + 1 < ((w1.alloc (.cells c 86)).alloc (.cells #[] 5)).heap.size := by simp
    have HVV : Hid (∀ i, i < 11 → (Y.val i).oneCell' = true) := fun i hi => by
      rcases HS.out.sl i hi with ⟨e, _⟩ | ⟨_, _, _, _, e, _⟩ <;> rw [e] <;> rfl
    generalize (w1.alloc (.cells c 86)).alloc (.cells #[] 5) = wB at *
    go_loopw [30, 12] (fun s v wr => ∃ (j : Nat) (g : Option Nat), j ≤ 4 ∧ s = .int .i64 j ∧ SbAt wr v ((List.range j).map (fun l => nameI (m.own l))) g ∧ (∀ x, g = some x → w1.heap.size ≤ x) ∧ Below w1.heap.size w1 wr) (fun s _ _ => 4 - (intOf s).toNat)
    case atStart => exact ⟨0, _, Nat.zero_le _, rfl, HE.out, fun x hx => by cases hx; omega, HB2.out⟩
    case round =>
      obtain ⟨j, g, hj, rfl, hv, hgl, hbl⟩ := hrel
      rcases (show j = 0 ∨ j = 1 ∨ j = 2 ∨ j = 3 ∨ j = 4 by omega) with rfl | rfl | rfl | rfl | rfl
      · have HX := hide (HO.out 0)
        have HAPP : Hid ((List.range 0).map (fun l => nameI (m.own l)) ++ [nameI (m.own 0)] = (List.range 1).map (fun l => nameI (m.own l))) := by rw [Hid, List.range_succ (n := 0), List.map_append]; rfl
        have HLE : Hid (((List.range 0).map (fun l => nameI (m.own l))).length ≤ 1000000) := by unfold Hid; simp
        have HV := hide hv
        have HGL := hide hgl
        have HBL := hide hbl
        clear hv hgl hbl HE HL hj
        go_wp2_with (first
          | (refine wpList_index_l rfl _ _ rfl _ #[.int .i64 (m.own 0), Y.val 1, Y.val 5] 0 rfl rfl (by decide) rfl ?_)
          | (refine wpList_store_new rfl 83 _ _ rfl _ _ rfl rfl rfl size_lk rfl (one3 rfl (HVV.out _ (by decide)) (HVV.out _ (by decide))) ?_)
          | (go_at_call 47; refine (g_nameI (m.own 0) _ HX.out).mono ?_; rintro e w5 ⟨rfl, h5⟩; replace h5 := h5.symm; subst h5)
          | (at_builtin; refine wpList_append_sb _ rfl _ _ 63 rfl i0 under_u8 hi0 hz0 hz1 hz2 _ ((List.range 0).map (fun l => nameI (m.own l))) g rfl (HV.out.kept (fun x hx => (two_newG _ _ _).block x (HV.out.lt x hx))) ⟨_, 0, none⟩ 1 (nameI (m.own 0)) rfl (one_atG (by simp)) HLE.out ?_; intro v' w3 g' ha hgr hfr; have HN := hide ha; have HB3 : Hid (Below w1.heap.size w1 w3) := grown_low HBL.out (two_newG _ _ _) hgr HGL.out; have HG3 : Hid (∀ x, g' = some x → w1.heap.size ≤ x) := fresh_low HBL.out (two_newG _ _ _) hfr HGL.out; obtain ⟨va, vn, vc, rfl⟩ := ha.slice'; clear ha hgr hfr))
        go_roundw
        case rel => exact ⟨1, g', by decide, by go_num, by rw [← HAPP.out]; exact HN.out, HG3.out, HB3.out⟩
        case measure => simp [intOf]
      · have HX := hide (HO.out 1)
        have HAPP : Hid ((List.range 1).map (fun l => nameI (m.own l)) ++ [nameI (m.own 1)] = (List.range 2).map (fun l => nameI (m.own l))) := by rw [Hid, List.range_succ (n := 1), List.map_append]; rfl
        have HLE : Hid (((List.range 1).map (fun l => nameI (m.own l))).length ≤ 1000000) := by unfold Hid; simp
        have HV := hide hv
        have HGL := hide hgl
        have HBL := hide hbl
        clear hv hgl hbl HE HL hj
        go_wp2_with (first
          | (refine wpList_index_l rfl _ _ rfl _ #[.int .i64 (m.own 1), Y.val 2, Y.val 6] 1 rfl rfl (by decide) rfl ?_)
          | (refine wpList_store_new rfl 83 _ _ rfl _ _ rfl rfl rfl size_lk rfl (one3 rfl (HVV.out _ (by decide)) (HVV.out _ (by decide))) ?_)
          | (go_at_call 47; refine (g_nameI (m.own 1) _ HX.out).mono ?_; rintro e w5 ⟨rfl, h5⟩; replace h5 := h5.symm; subst h5)
          | (at_builtin; refine wpList_append_sb _ rfl _ _ 63 rfl i0 under_u8 hi0 hz0 hz1 hz2 _ ((List.range 1).map (fun l => nameI (m.own l))) g rfl (HV.out.kept (fun x hx => (two_newG _ _ _).block x (HV.out.lt x hx))) ⟨_, 0, none⟩ 1 (nameI (m.own 1)) rfl (one_atG (by simp)) HLE.out ?_; intro v' w3 g' ha hgr hfr; have HN := hide ha; have HB3 : Hid (Below w1.heap.size w1 w3) := grown_low HBL.out (two_newG _ _ _) hgr HGL.out; have HG3 : Hid (∀ x, g' = some x → w1.heap.size ≤ x) := fresh_low HBL.out (two_newG _ _ _) hfr HGL.out; obtain ⟨va, vn, vc, rfl⟩ := ha.slice'; clear ha hgr hfr))
        go_roundw
        case rel => exact ⟨2, g', by decide, by go_num, by rw [← HAPP.out]; exact HN.out, HG3.out, HB3.out⟩
        case measure => simp [intOf]
      · have HX := hide (HO.out 2)
        have HAPP : Hid ((List.range 2).map (fun l => nameI (m.own l)) ++ [nameI (m.own 2)] = (List.range 3).map (fun l => nameI (m.own l))) := by rw [Hid, List.range_succ (n := 2), List.map_append]; rfl
        have HLE : Hid (((List.range 2).map (fun l => nameI (m.own l))).length ≤ 1000000) := by unfold Hid; simp
        have HV := hide hv
        have HGL := hide hgl
        have HBL := hide hbl
        clear hv hgl hbl HE HL hj
        go_wp2_with (first
          | (refine wpList_index_l rfl _ _ rfl _ #[.int .i64 (m.own 2), Y.val 3, Y.val 7] 2 rfl rfl (by decide) rfl ?_)
          | (refine wpList_store_new rfl 83 _ _ rfl _ _ rfl rfl rfl size_lk rfl (one3 rfl (HVV.out _ (by decide)) (HVV.out _ (by decide))) ?_)
          | (go_at_call 47; refine (g_nameI (m.own 2) _ HX.out).mono ?_; rintro e w5 ⟨rfl, h5⟩; replace h5 := h5.symm; subst h5)
          | (at_builtin; refine wpList_append_sb _ rfl _ _ 63 rfl i0 under_u8 hi0 hz0 hz1 hz2 _ ((List.range 2).map (fun l => nameI (m.own l))) g rfl (HV.out.kept (fun x hx => (two_newG _ _ _).block x (HV.out.lt x hx))) ⟨_, 0, none⟩ 1 (nameI (m.own 2)) rfl (one_atG (by simp)) HLE.out ?_; intro v' w3 g' ha hgr hfr; have HN := hide ha; have HB3 : Hid (Below w1.heap.size w1 w3) := grown_low HBL.out (two_newG _ _ _) hgr HGL.out; have HG3 : Hid (∀ x, g' = some x → w1.heap.size ≤ x) := fresh_low HBL.out (two_newG _ _ _) hfr HGL.out; obtain ⟨va, vn, vc, rfl⟩ := ha.slice'; clear ha hgr hfr))
        go_roundw
        case rel => exact ⟨3, g', by decide, by go_num, by rw [← HAPP.out]; exact HN.out, HG3.out, HB3.out⟩
        case measure => simp [intOf]
      · have HX := hide (HO.out 3)
        have HAPP : Hid ((List.range 3).map (fun l => nameI (m.own l)) ++ [nameI (m.own 3)] = (List.range 4).map (fun l => nameI (m.own l))) := by rw [Hid, List.range_succ (n := 3), List.map_append]; rfl
        have HLE : Hid (((List.range 3).map (fun l => nameI (m.own l))).length ≤ 1000000) := by unfold Hid; simp
        have HV := hide hv
        have HGL := hide hgl
        have HBL := hide hbl
        clear hv hgl hbl HE HL hj
        go_wp2_with (first
          | (refine wpList_index_l rfl _ _ rfl _ #[.int .i64 (m.own 3), Y.val 4, Y.val 8] 3 rfl rfl (by decide) rfl ?_)
          | (refine wpList_store_new rfl 83 _ _ rfl _ _ rfl rfl rfl size_lk rfl (one3 rfl (HVV.out _ (by decide)) (HVV.out _ (by decide))) ?_)
          | (go_at_call 47; refine (g_nameI (m.own 3) _ HX.out).mono ?_; rintro e w5 ⟨rfl, h5⟩; replace h5 := h5.symm; subst h5)
          | (at_builtin; refine wpList_append_sb _ rfl _ _ 63 rfl i0 under_u8 hi0 hz0 hz1 hz2 _ ((List.range 3).map (fun l => nameI (m.own l))) g rfl (HV.out.kept (fun x hx => (two_newG _ _ _).block x (HV.out.lt x hx))) ⟨_, 0, none⟩ 1 (nameI (m.own 3)) rfl (one_atG (by simp)) HLE.out ?_; intro v' w3 g' ha hgr hfr; have HN := hide ha; have HB3 : Hid (Below w1.heap.size w1 w3) := grown_low HBL.out (two_newG _ _ _) hgr HGL.out; have HG3 : Hid (∀ x, g' = some x → w1.heap.size ≤ x) := fresh_low HBL.out (two_newG _ _ _) hfr HGL.out; obtain ⟨va, vn, vc, rfl⟩ := ha.slice'; clear ha hgr hfr))
        go_roundw
        case rel => exact ⟨4, g', by decide, by go_num, by rw [← HAPP.out]; exact HN.out, HG3.out, HB3.out⟩
        case measure => simp [intOf]
      · have hcv := conv_sb hv
        have HBL : Hid (Below w.heap.size w wr) := HBW.out.trans (hbl.mono HBW.out.size)
        obtain ⟨va, vn, vc, rfl⟩ := hv.slice'
        clear hv hgl hbl
        go_wp2_with fail
        go_ret3
        exact ⟨FIN.out _, HBL.out⟩

end Go.Proofs.Ytijcoafpbgnomaa
