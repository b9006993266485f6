/- The code's calls: States. -/
import Derived.Test.YtijcoafpbgnomaaGc
namespace Go.Proofs.Ytijcoafpbgnomaa
open Go.RowKit

def stsS (_ : World) (n : Nat) (m : Mac) (v : Value) : Prop := v = .string (strOf ((List.range n).map (fun k => (m.th k).sta)))
/-- A thread's cells, as one. -/
theorem GSee.thread {K : GK} {w : World} {Y : GY} {m : Mac} {c : Array Value} (h : GSee K w Y m c) {k : Nat} (hk : k < K.n) : ∃ tc : List Value, tc.length = 11 ∧ w.rangeAt K.gt (k * 11) tc ∧ tc.toArray[9]? = some (.int .u8 (m.th k).sta) ∧ tc.toArray.all (·.oneCell') = true ∧ K.gt < w.heap.size := by
  have hlv := h.lvs k hk
  obtain ⟨cur, t1, t2⟩ := h.thr
  obtain ⟨a0, a1, a2, a3, a4, a5⟩ := t2 k hk
  refine ⟨[K.lv k, .int .i64 ((m.th k).pc : Nat), .int .i64 (Y.jk k 0), .int .i64 (Y.jk k 1), .int .i64 (Y.jk k 2), .int .i64 (Y.jk k 3), .int .i64 (Y.jk k 4), .int .i64 (Y.jk k 5), .int .i64 ((m.th k).stk.length : Nat), .int .u8 (m.th k).sta, .int .i64 (m.th k).wake], rfl, fun j v hj => ?_, rfl, ?_, (Array.getElem?_eq_some_iff.1 t1).1⟩
  · rw [cell_of_row _ _ _ _ _ _ t1]
    match j, hj with
    | 0, hj => simp at hj; subst hj; exact a0
    | 1, hj => simp at hj; subst hj; exact a1
    | 2, hj => simp at hj; subst hj; exact a2 0 (by decide)
    | 3, hj => simp at hj; subst hj; exact a2 1 (by decide)
    | 4, hj => simp at hj; subst hj; exact a2 2 (by decide)
    | 5, hj => simp at hj; subst hj; exact a2 3 (by decide)
    | 6, hj => simp at hj; subst hj; exact a2 4 (by decide)
    | 7, hj => simp at hj; subst hj; exact a2 5 (by decide)
    | 8, hj => simp at hj; subst hj; exact a3
    | 9, hj => simp at hj; subst hj; exact a4
    | 10, hj => simp at hj; subst hj; exact a5
    | j + 11, hj => simp at hj
  · rw [← Array.all_toList]
    simp only [List.all_cons, List.all_nil, hlv, Bool.true_and]
    rfl

theorem size_t : (Try.prog.info? 91).map (·.size) = some 11 := by kernel_rfl
theorem under_t : ∃ d, Try.prog.underlying 91 = some d ∧ d.isRow = true := by
  have h : (Try.prog.underlying 91).map (·.isRow) = some true := by kernel_rfl
  obtain ⟨d, h1, h2⟩ := Option.map_eq_some_iff.1 h
  exact ⟨d, h1, h2⟩
theorem grown_low {w1 wr w0 w3 : World} {g : Option Nat} (hb : Below w1.heap.size w1 wr) (h0 : Below wr.heap.size wr w0) (hg : w0.grownBy w3 g) (hl : ∀ x, g = some x → w1.heap.size ≤ x) : Below w1.heap.size w1 w3 := by
  have h1 : Below w1.heap.size w1 w0 := hb.trans (h0.mono hb.size)
  exact ⟨hg.os.trans h1.os, hg.tape.trans h1.tape, hg.output.trans h1.output, Nat.le_trans h1.size hg.size, fun j hj => by rw [hg.block j (by have := h1.size; omega) (fun e => by have := hl j e.symm; omega), h1.block j hj]⟩
theorem fresh_low {w1 wr w0 : World} {g g' : Option Nat} (hb : Below w1.heap.size w1 wr) (h0 : Below wr.heap.size wr w0) (hf : g' = g ∨ ∃ b, g' = some b ∧ w0.heap.size ≤ b) (hl : ∀ x, g = some x → w1.heap.size ≤ x) : ∀ x, g' = some x → w1.heap.size ≤ x := fun x hx => by
  rcases hf with e | ⟨y, e, hy⟩
  · rw [e] at hx; exact hl x hx
  · rw [e] at hx; cases hx; have := hb.size; have := h0.size; omega
theorem sb_empty (w : World) {n : Nat} (hn : n = w.heap.size) : SbAt (w.alloc (.cells #[] 5)) (.slice (some ⟨n, 0, none⟩) 0 0) [] (some n) :=
  .inr ⟨n, 0, 0, #[], rfl, rfl, by subst hn; exact heap_alloc_new w _, Nat.le_refl _, Nat.le_refl _, fun j x hj => by simp at hj⟩
set_option maxRecDepth 100000 in
set_option maxHeartbeats 1000000 in
theorem g_States (s : ByteArray) (q n : Int) (w : World) (hm : s.size ≤ maxLen) :
    Calls Try.prog 33 #[.string s, .int .i64 q, .int .i64 n] w fun e w' => CallAns w' e (bytesOf s) q n noS stsS ∧ Below w.heap.size w w' := by
  have HP := hide (g_run s q n w hm)
  go_enter Try.func33, Try.ntmps33
  go_wp2_with fail
  refine HP.out.mono ?_
  rintro e w1 ⟨r, hg, ha, hb⟩
  have HB : Hid (∀ o, Below w.heap.size w (w1.alloc o)) := fun o => hb.alloc hb.size o
  rcases ha with ⟨hz, rfl⟩ | ⟨rfl, hR, cs, c, h1, h2, h3, rfl, K, Y, k1, hs⟩
  · have z0 : ((w1.alloc (.cells Zm 86)).alloc (.cells #[] 5)).cell? ⟨w1.heap.size, 0, none⟩ = some (.slice none 0 0) := by rw [((Below.refl (w1.alloc (.cells Zm 86)).heap.size _).alloc (Nat.le_refl _) _).cell (p := ⟨w1.heap.size, 0, none⟩) (by simp), cell_of_row _ _ 0 _ _ _ (heap_alloc_new w1 _)]; rfl
    have hcv := conv_sb (w := (w1.alloc (.cells Zm 86)).alloc (.cells #[] 5)) (v := .slice (some ⟨w1.heap.size + 1, 0, none⟩) 0 0) (xs := []) (g := some (w1.heap.size + 1)) (sb_empty _ (by simp))
    rw [strOf_nil] at hcv
    have HG := hide hg
    have HZ := hide hz
    obtain ⟨r1, r2⟩ := r
    have HB2 : Hid (Below w.heap.size w ((w1.alloc (.cells Zm 86)).alloc (.cells #[] 5))) := (HB.out _).alloc (HB.out _).size _
    clear hg hb hz HP
    go_wp2_with (first
      | (refine wpList_alloc_m rfl rfl ?_)
      | (refine wpList_store_new rfl 86 _ _ rfl Zm Zm rfl rfl rfl size_m rfl Zm_one ?_))
    go_loopw [27, 12] (fun s v wr => s = .int .i64 0 ∧ v = .slice (some ⟨w1.heap.size + 1, 0, none⟩) 0 0 ∧ wr = (w1.alloc (.cells Zm 86)).alloc (.cells #[] 5)) (fun _ _ _ => 0)
    case atStart => exact ⟨rfl, rfl, rfl⟩
    case round =>
      obtain ⟨rfl, rfl, rfl⟩ := hrel
      go_wp2_with fail
      go_ret3
      exact ⟨⟨_, _, HG.out, rfl, .inl ⟨HZ.out, rfl⟩⟩, HB2.out⟩
  · have z0 : ((w1.alloc (.cells c 86)).alloc (.cells #[] 5)).cell? ⟨w1.heap.size, 0, none⟩ = some (.slice (some ⟨K.gt, 0, none⟩) K.n K.tcap) := by rw [((Below.refl (w1.alloc (.cells c 86)).heap.size _).alloc (Nat.le_refl _) _).cell (p := ⟨w1.heap.size, 0, none⟩) (by simp), cell_of_row _ _ 0 _ _ _ (heap_alloc_new w1 _)]; exact hs.head.1
    have HS := hide hs
    have HB2 : Hid (Below w1.heap.size w1 ((w1.alloc (.cells c 86)).alloc (.cells #[] 5))) := ((Below.refl _ _).alloc (Nat.le_refl _) _).alloc (by simp) _
    have HE := hide (sb_empty ((w1.alloc (.cells c 86))) (n := w1.heap.size + 1) (by simp))
    have FIN : Hid (∀ w', CallAns w' (.returned (.tuple #[.string (strOf ((List.range K.n).map (fun k => ((playM (codesOf cs) cs.length q.toNat n.toNat).th k).sta))), .int .i64 0, .int .i64 0])) (bytesOf s) q n noS stsS) := fun w' => ⟨(0, 0), _, hg, rfl, .inr ⟨rfl, hR, cs, h1, h2, h3, by rw [k1]; rfl⟩⟩
    generalize playM (codesOf cs) cs.length q.toNat n.toNat = m at *
    have hK4 : K.n ≤ 4 := by rw [k1]; exact parse_lenG h1
    have HBW := hide hb
    clear hb hs HP h1 h2 h3 hg hR k1
    go_wp2_with (first
      | (refine wpList_alloc_m rfl rfl ?_)
      | (refine wpList_store_new rfl 86 _ _ rfl Zm c rfl rfl rfl (by rw [size_m, HS.out.size]) HS.out.size.symm HS.out.one ?_))
    obtain ⟨i0, hi0, hz0, hz1, hz2⟩ := info_parts info_u8
    have hw1 : w1.heap.size + 1 < ((w1.alloc (.cells c 86)).alloc (.cells #[] 5)).heap.size := by simp
    generalize (w1.alloc (.cells c 86)).alloc (.cells #[] 5) = wB at *
    go_loopw [27, 12] (fun s v wr => ∃ (j : Nat) (g : Option Nat), j ≤ K.n ∧ s = .int .i64 j ∧ SbAt wr v ((List.range j).map (fun k => (m.th k).sta)) g ∧ (∀ x, g = some x → w1.heap.size ≤ x) ∧ Below w1.heap.size w1 wr) (fun s _ _ => K.n - (intOf s).toNat)
    case atStart => exact ⟨0, _, Nat.zero_le _, rfl, HE.out, fun x hx => by cases hx; omega, HB2.out⟩
    case round =>
      obtain ⟨j, g, hj, rfl, hv, hgl, hbl⟩ := hrel
      by_cases hlt : j < K.n
      · have hlt1 : (j : Int) < (K.n : Int) := by omega
        obtain ⟨tl, t1, t2, t3, t4, t5⟩ := ((HS.out.kept (w' := wr) (fun i hi _ => hbl.block i hi)).thread hlt)
        obtain ⟨d, hd1, hd2⟩ := under_t
        have zc : (wr.alloc (.cells tl.toArray 91)).cell? ⟨wr.heap.size, 9, none⟩ = some (.int .u8 (m.th j).sta) := by rw [cell_of_row _ _ 9 _ _ _ (heap_alloc_new wr _)]; exact t3
        have HR := hide t2
        have HT1 := hide t1
        have HT4 := hide t4
        have HV := hide hv
        have HGL := hide hgl
        have HBL := hide hbl
        have HLE : Hid (((List.range j).map (fun k => (m.th k).sta)).length ≤ 1000000) := by unfold Hid; simp; omega
        have HAPP : Hid (∀ v', (((List.range j).map (fun k => (m.th k).sta)) ++ [(m.th j).sta] = v' → v' = (List.range (j + 1)).map (fun k => (m.th k).sta))) := fun v' h => by rw [← h, List.range_succ, List.map_append]; rfl
        generalize (m.th j).sta = st at *
        clear t1 t2 t3 t4 hv hgl hbl z0 HE
        go_wp2_with (first
          | (refine wpList_load_mid rfl 91 _ rfl K.gt (j * 11) rfl tl d HR.out hd1 hd2 (by rw [size_t, HT1.out]) ?_)
          | (refine wpList_store_new rfl 91 _ _ rfl _ tl.toArray rfl rfl rfl (by rw [size_t, List.size_toArray, HT1.out]) (by simp [HT1.out]) HT4.out ?_)
          | (at_builtin; refine wpList_append_sb _ rfl _ _ 63 rfl i0 under_u8 hi0 hz0 hz1 hz2 _ ((List.range j).map (fun k => (m.th k).sta)) g rfl (HV.out.kept (fun x hx => (two_newG _ _ _).block x (HV.out.lt x hx))) ⟨_, 0, none⟩ 1 st rfl (one_atG (by simp)) HLE.out ?_; intro v' w3 g' ha hgr hfr; have HN := hide ha; have HB3 : Hid (Below w1.heap.size w1 w3) := grown_low HBL.out (two_newG _ _ _) hgr HGL.out; have HG3 : Hid (∀ x, g' = some x → w1.heap.size ≤ x) := fresh_low HBL.out (two_newG _ _ _) hfr HGL.out; obtain ⟨va, vn, vc, rfl⟩ := ha.slice'; clear ha hgr hfr))
        go_roundw
        case rel => exact ⟨j + 1, g', by omega, by go_num, by rw [← HAPP.out _ rfl]; exact HN.out, HG3.out, HB3.out⟩
        case measure => simp [intOf]; omega
      · obtain rfl : j = K.n := by omega
        have hcv := conv_sb hv
        have HBL : Hid (Below w.heap.size w wr) := HBW.out.trans (hbl.mono HBW.out.size)
        have hlt1 : ¬ (K.n : Int) < (K.n : Int) := by omega
        obtain ⟨va, vn, vc, rfl⟩ := hv.slice'
        clear hv hgl hbl
        go_wp2_with fail
        go_ret3
        exact ⟨FIN.out _, HBL.out⟩

end Go.Proofs.Ytijcoafpbgnomaa
