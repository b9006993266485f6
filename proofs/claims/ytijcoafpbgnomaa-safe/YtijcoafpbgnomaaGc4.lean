/- The code's calls: Cells. -/
import Derived.Test.YtijcoafpbgnomaaGc3
namespace Go.Proofs.Ytijcoafpbgnomaa
open Go.RowKit

def noL (w : World) (v : Value) : Prop := ∃ g, SlAt w v [] g
def celL (w : World) (_ : Nat) (m : Mac) (v : Value) : Prop := ∃ g, SlAt w v ((List.range 8).map m.cells) g
theorem size_c : (Try.prog.info? 79).map (·.size) = some 8 := by kernel_rfl
theorem under_c : ∃ d, Try.prog.underlying 79 = some d ∧ d.isRow = true := by
  have h : (Try.prog.underlying 79).map (·.isRow) = some true := by kernel_rfl
  obtain ⟨d, h1, h2⟩ := Option.map_eq_some_iff.1 h
  exact ⟨d, h1, h2⟩
theorem GSee.cells8 {K : GK} {w : World} {Y : GY} {m : Mac} {c : Array Value} (h : GSee K w Y m c) {W : World} {b : Nat} (hb : W.heap[b]? = some (.cells c 86 (0, 0))) : W.rangeAt b 1 [.int .i64 (m.cells 0), .int .i64 (m.cells 1), .int .i64 (m.cells 2), .int .i64 (m.cells 3), .int .i64 (m.cells 4), .int .i64 (m.cells 5), .int .i64 (m.cells 6), .int .i64 (m.cells 7)] := by
  obtain ⟨_, h1, _, _⟩ := h.head
  intro j v hj
  rw [cell_of_row _ _ _ _ _ _ hb]
  match j, hj with
  | 0, hj => simp at hj; subst hj; exact h1 0 (by decide)
  | 1, hj => simp at hj; subst hj; exact h1 1 (by decide)
  | 2, hj => simp at hj; subst hj; exact h1 2 (by decide)
  | 3, hj => simp at hj; subst hj; exact h1 3 (by decide)
  | 4, hj => simp at hj; subst hj; exact h1 4 (by decide)
  | 5, hj => simp at hj; subst hj; exact h1 5 (by decide)
  | 6, hj => simp at hj; subst hj; exact h1 6 (by decide)
  | 7, hj => simp at hj; subst hj; exact h1 7 (by decide)
  | j + 8, hj => simp at hj
theorem sl_empty (w : World) {n : Nat} (hn : n = w.heap.size) : SlAt (w.alloc (.cells #[] 3)) (.slice (some ⟨n, 0, none⟩) 0 0) [] (some n) :=
  .inr ⟨n, 0, 0, #[], rfl, rfl, by subst hn; exact heap_alloc_new w _, Nat.le_refl _, Nat.le_refl _, fun j x hj => by simp at hj⟩
theorem one_newG (w : World) (o : Obj) : Below w.heap.size w (w.alloc o) := (Below.refl _ _).alloc (Nat.le_refl _) _
theorem SlAt.slice' {w : World} {v : Value} {xs : List Int} {g : Option Nat} (h : SlAt w v xs g) : ∃ ao n cap, v = .slice ao n cap := by
  obtain ⟨ao, cap, h1⟩ := h.slice
  exact ⟨ao, _, cap, h1⟩

theorem index_c (cs : Array Value) (x : Int) (j : Nat) (w : World) (h : j < 8) (hc : cs[j]? = some (.int .i64 x)) : (Instr.index 79 (.agg cs) (.int .i64 j)).run Try.prog w = .ok (.int .i64 x) w := by
  unfold Instr.index
  simp [go_sem, hc]
  omega
theorem wpList_index_c {ops : Array Oper} {rest : List Oper} {op : Oper} {a : Act} {w : World} {Q : Exit → Act → World → Prop} (hgd : op.guard = none) (x ix : Operand) (ho : op.op = .index 79 x ix) (cs : Array Value) (v : Int) (j : Nat) (hx : a.eval x = .agg cs) (hi : a.eval ix = .int .i64 (j : Nat)) (hj : j < 8) (hv : cs[j]? = some (.int .i64 v)) (h : wpList Try.prog ops Q rest (a.put op.dst (.int .i64 v)) w) : wpList Try.prog ops Q (op :: rest) a w :=
  wpList_val hgd _ _ (by simp only [execOp, ho, hx, hi, Sem.run_bind, index_c cs v j w hj hv, Result.andThen_ok, Sem.run_pure]) h

set_option maxRecDepth 100000 in
set_option maxHeartbeats 1000000 in
theorem g_Cells (s : ByteArray) (q n : Int) (w : World) (hm : s.size ≤ maxLen) :
    Calls Try.prog 36 #[.string s, .int .i64 q, .int .i64 n] w fun e w' => CallAns w' e (bytesOf s) q n noL celL ∧ Below w.heap.size w w' := by
  have HP := hide (g_run s q n w hm)
  go_enter Try.func36, Try.ntmps36
  go_wp2_with fail
  refine HP.out.mono ?_
  rintro e w1 ⟨r, hg, ha, hb⟩
  have HB : Hid (∀ o, Below w.heap.size w (w1.alloc o)) := fun o => hb.alloc hb.size o
  rcases ha with ⟨hz, rfl⟩ | ⟨rfl, hR, cs, c, h1, h2, h3, rfl, K, Y, k1, hs⟩
  · obtain ⟨r1, r2⟩ := r
    have hz0 : (r1 != 0) = true := by simp only at hz; simp [hz]
    have HG := hide hg
    have HZ := hide hz
    have HE := hide (sl_empty (w1.alloc (.cells Zm 86)) (n := w1.heap.size + 1) (by simp))
    clear hg hb hz HP
    go_wp2_with (first
      | (refine wpList_alloc_m rfl rfl ?_)
      | (refine wpList_store_new rfl 86 _ _ rfl Zm Zm rfl rfl rfl size_m rfl Zm_one ?_))
    go_ret3
    exact ⟨⟨_, _, HG.out, rfl, .inl ⟨HZ.out, _, HE.out⟩⟩, (HB.out _).alloc (HB.out _).size _⟩
  · have HS := hide hs
    have HB2 : Hid (Below w1.heap.size w1 ((w1.alloc (.cells c 86)).alloc (.cells #[] 3))) := ((Below.refl _ _).alloc (Nat.le_refl _) _).alloc (by simp) _
    have HE := hide (sl_empty ((w1.alloc (.cells c 86))) (n := w1.heap.size + 1) (by simp))
    have HL := hide (hs.cells8 (W := (w1.alloc (.cells c 86)).alloc (.cells #[] 3)) (b := w1.heap.size) (by rw [((Below.refl (w1.alloc (.cells c 86)).heap.size _).alloc (Nat.le_refl _) _).block w1.heap.size (by simp)]; exact heap_alloc_new w1 _))
    have FIN : Hid (∀ w' v, celL w' cs.length (playM (codesOf cs) cs.length q.toNat n.toNat) v → CallAns w' (.returned (.tuple #[v, .int .i64 0, .int .i64 0])) (bytesOf s) q n noL celL) := fun w' v hv => ⟨(0, 0), _, hg, rfl, .inr ⟨rfl, hR, cs, h1, h2, h3, hv⟩⟩
    generalize playM (codesOf cs) cs.length q.toNat n.toNat = m at *
    have HBW := hide hb
    obtain ⟨d, hd1, hd2⟩ := under_c
    clear hb hs HP h1 h2 h3 hg hR k1
    go_wp2_with (first
      | (refine wpList_alloc_m rfl rfl ?_)
      | (refine wpList_store_new rfl 86 _ _ rfl Zm c rfl rfl rfl (by rw [size_m, HS.out.size]) HS.out.size.symm HS.out.one ?_)
      | (refine wpList_load_mid rfl 79 _ rfl w1.heap.size 1 rfl _ d HL.out hd1 hd2 size_c ?_))
    obtain ⟨i0, hi0, hz0, hz1, hz2⟩ := info_parts Try.info3
    have hw1 : w1.heap.size + 1 < ((w1.alloc (.cells c 86)).alloc (.cells #[] 3)).heap.size := by simp
    generalize (w1.alloc (.cells c 86)).alloc (.cells #[] 3) = wB at *
    go_loopw [31, 12] (fun s v wr => ∃ (j : Nat) (g : Option Nat), j ≤ 8 ∧ s = .int .i64 j ∧ SlAt wr v ((List.range j).map m.cells) g ∧ (∀ x, g = some x → w1.heap.size ≤ x) ∧ Below w1.heap.size w1 wr) (fun s _ _ => 8 - (intOf s).toNat)
    case atStart => exact ⟨0, _, Nat.zero_le _, rfl, HE.out, fun x hx => by cases hx; omega, HB2.out⟩
    case round =>
      obtain ⟨j, g, hj, rfl, hv, hgl, hbl⟩ := hrel
      rcases (show j = 0 ∨ j = 1 ∨ j = 2 ∨ j = 3 ∨ j = 4 ∨ j = 5 ∨ j = 6 ∨ j = 7 ∨ j = 8 by omega) with rfl | rfl | rfl | rfl | rfl | rfl | rfl | rfl | rfl
      · have HAPP : Hid ((List.range 0).map m.cells ++ [m.cells 0] = (List.range 1).map m.cells) := by rw [Hid, List.range_succ (n := 0), List.map_append]; rfl
        have HLE : Hid (((List.range 0).map m.cells).length ≤ 1000000) := by unfold Hid; simp
        have HV := hide hv
        have HGL := hide hgl
        have HBL := hide hbl
        clear hv hgl hbl HE HL hj
        go_wp2_with (first
          | (refine wpList_index_c rfl _ _ rfl _ (m.cells 0) 0 rfl rfl (by decide) rfl ?_)
          | (at_builtin; refine wpList_append_sl _ rfl _ _ 29 rfl i0 Try.underlying29 hi0 hz0 hz1 hz2 _ ((List.range 0).map m.cells) g rfl (HV.out.kept (fun x hx => (one_newG _ _).block x (HV.out.lt x hx))) ⟨_, 0, none⟩ 1 (m.cells 0) rfl (one_atG rfl) HLE.out ?_; intro v' w3 g' ha hgr hfr; have HN := hide ha; have HB3 : Hid (Below w1.heap.size w1 w3) := grown_low HBL.out (one_newG _ _) hgr HGL.out; have HG3 : Hid (∀ x, g' = some x → w1.heap.size ≤ x) := fresh_low HBL.out (one_newG _ _) hfr HGL.out; obtain ⟨va, vn, vc, rfl⟩ := ha.slice'; clear ha hgr hfr))
        go_roundw
        case rel => exact ⟨1, g', by decide, by go_num, by rw [← HAPP.out]; exact HN.out, HG3.out, HB3.out⟩
        case measure => simp [intOf]
      · have HAPP : Hid ((List.range 1).map m.cells ++ [m.cells 1] = (List.range 2).map m.cells) := by rw [Hid, List.range_succ (n := 1), List.map_append]; rfl
        have HLE : Hid (((List.range 1).map m.cells).length ≤ 1000000) := by unfold Hid; simp
        have HV := hide hv
        have HGL := hide hgl
        have HBL := hide hbl
        clear hv hgl hbl HE HL hj
        go_wp2_with (first
          | (refine wpList_index_c rfl _ _ rfl _ (m.cells 1) 1 rfl rfl (by decide) rfl ?_)
          | (at_builtin; refine wpList_append_sl _ rfl _ _ 29 rfl i0 Try.underlying29 hi0 hz0 hz1 hz2 _ ((List.range 1).map m.cells) g rfl (HV.out.kept (fun x hx => (one_newG _ _).block x (HV.out.lt x hx))) ⟨_, 0, none⟩ 1 (m.cells 1) rfl (one_atG rfl) HLE.out ?_; intro v' w3 g' ha hgr hfr; have HN := hide ha; have HB3 : Hid (Below w1.heap.size w1 w3) := grown_low HBL.out (one_newG _ _) hgr HGL.out; have HG3 : Hid (∀ x, g' = some x → w1.heap.size ≤ x) := fresh_low HBL.out (one_newG _ _) hfr HGL.out; obtain ⟨va, vn, vc, rfl⟩ := ha.slice'; clear ha hgr hfr))
        go_roundw
        case rel => exact ⟨2, g', by decide, by go_num, by rw [← HAPP.out]; exact HN.out, HG3.out, HB3.out⟩
        case measure => simp [intOf]
      · have HAPP : Hid ((List.range 2).map m.cells ++ [m.cells 2] = (List.range 3).map m.cells) := by rw [Hid, List.range_succ (n := 2), List.map_append]; rfl
        have HLE : Hid (((List.range 2).map m.cells).length ≤ 1000000) := by unfold Hid; simp
        have HV := hide hv
        have HGL := hide hgl
        have HBL := hide hbl
        clear hv hgl hbl HE HL hj
        go_wp2_with (first
          | (refine wpList_index_c rfl _ _ rfl _ (m.cells 2) 2 rfl rfl (by decide) rfl ?_)
          | (at_builtin; refine wpList_append_sl _ rfl _ _ 29 rfl i0 Try.underlying29 hi0 hz0 hz1 hz2 _ ((List.range 2).map m.cells) g rfl (HV.out.kept (fun x hx => (one_newG _ _).block x (HV.out.lt x hx))) ⟨_, 0, none⟩ 1 (m.cells 2) rfl (one_atG rfl) HLE.out ?_; intro v' w3 g' ha hgr hfr; have HN := hide ha; have HB3 : Hid (Below w1.heap.size w1 w3) := grown_low HBL.out (one_newG _ _) hgr HGL.out; have HG3 : Hid (∀ x, g' = some x → w1.heap.size ≤ x) := fresh_low HBL.out (one_newG _ _) hfr HGL.out; obtain ⟨va, vn, vc, rfl⟩ := ha.slice'; clear ha hgr hfr))
        go_roundw
        case rel => exact ⟨3, g', by decide, by go_num, by rw [← HAPP.out]; exact HN.out, HG3.out, HB3.out⟩
        case measure => simp [intOf]
      · have HAPP : Hid ((List.range 3).map m.cells ++ [m.cells 3] = (List.range 4).map m.cells) := by rw [Hid, List.range_succ (n := 3), List.map_append]; rfl
        have HLE : Hid (((List.range 3).map m.cells).length ≤ 1000000) := by unfold Hid; simp
        have HV := hide hv
        have HGL := hide hgl
        have HBL := hide hbl
        clear hv hgl hbl HE HL hj
        go_wp2_with (first
          | (refine wpList_index_c rfl _ _ rfl _ (m.cells 3) 3 rfl rfl (by decide) rfl ?_)
          | (at_builtin; refine wpList_append_sl _ rfl _ _ 29 rfl i0 Try.underlying29 hi0 hz0 hz1 hz2 _ ((List.range 3).map m.cells) g rfl (HV.out.kept (fun x hx => (one_newG _ _).block x (HV.out.lt x hx))) ⟨_, 0, none⟩ 1 (m.cells 3) rfl (one_atG rfl) HLE.out ?_; intro v' w3 g' ha hgr hfr; have HN := hide ha; have HB3 : Hid (Below w1.heap.size w1 w3) := grown_low HBL.out (one_newG _ _) hgr HGL.out; have HG3 : Hid (∀ x, g' = some x → w1.heap.size ≤ x) := fresh_low HBL.out (one_newG _ _) hfr HGL.out; obtain ⟨va, vn, vc, rfl⟩ := ha.slice'; clear ha hgr hfr))
        go_roundw
        case rel => exact ⟨4, g', by decide, by go_num, by rw [← HAPP.out]; exact HN.out, HG3.out, HB3.out⟩
        case measure => simp [intOf]
      · have HAPP : Hid ((List.range 4).map m.cells ++ [m.cells 4] = (List.range 5).map m.cells) := by rw [Hid, List.range_succ (n := 4), List.map_append]; rfl
        have HLE : Hid (((List.range 4).map m.cells).length ≤ 1000000) := by unfold Hid; simp
        have HV := hide hv
        have HGL := hide hgl
        have HBL := hide hbl
        clear hv hgl hbl HE HL hj
        go_wp2_with (first
          | (refine wpList_index_c rfl _ _ rfl _ (m.cells 4) 4 rfl rfl (by decide) rfl ?_)
          | (at_builtin; refine wpList_append_sl _ rfl _ _ 29 rfl i0 Try.underlying29 hi0 hz0 hz1 hz2 _ ((List.range 4).map m.cells) g rfl (HV.out.kept (fun x hx => (one_newG _ _).block x (HV.out.lt x hx))) ⟨_, 0, none⟩ 1 (m.cells 4) rfl (one_atG rfl) HLE.out ?_; intro v' w3 g' ha hgr hfr; have HN := hide ha; have HB3 : Hid (Below w1.heap.size w1 w3) := grown_low HBL.out (one_newG _ _) hgr HGL.out; have HG3 : Hid (∀ x, g' = some x → w1.heap.size ≤ x) := fresh_low HBL.out (one_newG _ _) hfr HGL.out; obtain ⟨va, vn, vc, rfl⟩ := ha.slice'; clear ha hgr hfr))
        go_roundw
        case rel => exact ⟨5, g', by decide, by go_num, by rw [← HAPP.out]; exact HN.out, HG3.out, HB3.out⟩
        case measure => simp [intOf]
      · have HAPP : Hid ((List.range 5).map m.cells ++ [m.cells 5] = (List.range 6).map m.cells) := by rw [Hid, List.range_succ (n := 5), List.map_append]; rfl
        have HLE : Hid (((List.range 5).map m.cells).length ≤ 1000000) := by unfold Hid; simp
        have HV := hide hv
        have HGL := hide hgl
        have HBL := hide hbl
        clear hv hgl hbl HE HL hj
        go_wp2_with (first
          | (refine wpList_index_c rfl _ _ rfl _ (m.cells 5) 5 rfl rfl (by decide) rfl ?_)
          | (at_builtin; refine wpList_append_sl _ rfl _ _ 29 rfl i0 Try.underlying29 hi0 hz0 hz1 hz2 _ ((List.range 5).map m.cells) g rfl (HV.out.kept (fun x hx => (one_newG _ _).block x (HV.out.lt x hx))) ⟨_, 0, none⟩ 1 (m.cells 5) rfl (one_atG rfl) HLE.out ?_; intro v' w3 g' ha hgr hfr; have HN := hide ha; have HB3 : Hid (Below w1.heap.size w1 w3) := grown_low HBL.out (one_newG _ _) hgr HGL.out; have HG3 : Hid (∀ x, g' = some x → w1.heap.size ≤ x) := fresh_low HBL.out (one_newG _ _) hfr HGL.out; obtain ⟨va, vn, vc, rfl⟩ := ha.slice'; clear ha hgr hfr))
        go_roundw
        case rel => exact ⟨6, g', by decide, by go_num, by rw [← HAPP.out]; exact HN.out, HG3.out, HB3.out⟩
        case measure => simp [intOf]
      · have HAPP : Hid ((List.range 6).map m.cells ++ [m.cells 6] = (List.range 7).map m.cells) := by rw [Hid, List.range_succ (n := 6), List.map_append]; rfl
        have HLE : Hid (((List.range 6).map m.cells).length ≤ 1000000) := by unfold Hid; simp
        have HV := hide hv
        have HGL := hide hgl
        have HBL := hide hbl
        clear hv hgl hbl HE HL hj
        go_wp2_with (first
          | (refine wpList_index_c rfl _ _ rfl _ (m.cells 6) 6 rfl rfl (by decide) rfl ?_)
          | (at_builtin; refine wpList_append_sl _ rfl _ _ 29 rfl i0 Try.underlying29 hi0 hz0 hz1 hz2 _ ((List.range 6).map m.cells) g rfl (HV.out.kept (fun x hx => (one_newG _ _).block x (HV.out.lt x hx))) ⟨_, 0, none⟩ 1 (m.cells 6) rfl (one_atG rfl) HLE.out ?_; intro v' w3 g' ha hgr hfr; have HN := hide ha; have HB3 : Hid (Below w1.heap.size w1 w3) := grown_low HBL.out (one_newG _ _) hgr HGL.out; have HG3 : Hid (∀ x, g' = some x → w1.heap.size ≤ x) := fresh_low HBL.out (one_newG _ _) hfr HGL.out; obtain ⟨va, vn, vc, rfl⟩ := ha.slice'; clear ha hgr hfr))
        go_roundw
        case rel => exact ⟨7, g', by decide, by go_num, by rw [← HAPP.out]; exact HN.out, HG3.out, HB3.out⟩
        case measure => simp [intOf]
      · have HAPP : Hid ((List.range 7).map m.cells ++ [m.cells 7] = (List.range 8).map m.cells) := by rw [Hid, List.range_succ (n := 7), List.map_append]; rfl
        have HLE : Hid (((List.range 7).map m.cells).length ≤ 1000000) := by unfold Hid; simp
        have HV := hide hv
        have HGL := hide hgl
        have HBL := hide hbl
        clear hv hgl hbl HE HL hj
        go_wp2_with (first
          | (refine wpList_index_c rfl _ _ rfl _ (m.cells 7) 7 rfl rfl (by decide) rfl ?_)
          | (at_builtin; refine wpList_append_sl _ rfl _ _ 29 rfl i0 Try.underlying29 hi0 hz0 hz1 hz2 _ ((List.range 7).map m.cells) g rfl (HV.out.kept (fun x hx => (one_newG _ _).block x (HV.out.lt x hx))) ⟨_, 0, none⟩ 1 (m.cells 7) rfl (one_atG rfl) HLE.out ?_; intro v' w3 g' ha hgr hfr; have HN := hide ha; have HB3 : Hid (Below w1.heap.size w1 w3) := grown_low HBL.out (one_newG _ _) hgr HGL.out; have HG3 : Hid (∀ x, g' = some x → w1.heap.size ≤ x) := fresh_low HBL.out (one_newG _ _) hfr HGL.out; obtain ⟨va, vn, vc, rfl⟩ := ha.slice'; clear ha hgr hfr))
        go_roundw
        case rel => exact ⟨8, g', by decide, by go_num, by rw [← HAPP.out]; exact HN.out, HG3.out, HB3.out⟩
        case measure => simp [intOf]
      · have HBL : Hid (Below w.heap.size w wr) := HBW.out.trans (hbl.mono HBW.out.size)
        have F := hide (FIN.out wr _ ⟨g, hv⟩)
        obtain ⟨va, vn, vc, rfl⟩ := hv.slice'
        clear hv hgl hbl
        go_wp2_with fail
        go_ret3
        exact ⟨F.out, HBL.out⟩

end Go.Proofs.Ytijcoafpbgnomaa
