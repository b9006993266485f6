/- The code's calls: Out, Trace. -/
import Derived.Test.YtjbmflgamogefabGreatGr
import Derived.Test.YtjbmflgamogefabGreatMm
import Derived.Laws.BytesArg
namespace Go.Proofs.YtjbmflgamogefabGreat
open Go.RowKit

theorem under_u8e : Tryz.prog.underlying 5 = some (.int .u8) := by kernel_rfl
theorem under_str : Tryz.prog.underlying 9 = some .string := by kernel_rfl
theorem conv_sb {w : World} {v : Value} {xs : List Int} {g : Option Nat} (h : SbAt w v xs g) : (convert 72 9 v).run Tryz.prog w = .ok (.string (strOf xs)) w := by
  rcases h with ⟨rfl, rfl, _⟩ | ⟨b, off, cap, cur, rfl, _, h3, _, _, h6⟩
  · exact run_convert_bytes_nil (P := Tryz.prog) w 72 5 under_u8 under_u8e 0 0 9 under_str
  · refine run_convert_bytes_arg (P := Tryz.prog) w 72 5 under_u8 under_u8e b off xs.length cap xs rfl (fun i hi => ?_) 9 under_str
    rw [cell_of_row _ _ _ _ _ _ h3]
    refine (h6 i xs[i] (by simp [hi])).trans ?_
    simp [hi]
/-- What a call answers. -/
def CallAns (w' : World) (e : Ending) (T : List Int) (q n : Int) (Z : World → Value → Prop) (F : World → Nat → Mac → Value → Prop) : Prop :=
  ∃ r v, GivenRel T q n r ∧ e = .returned (.tuple #[v, .int .i64 r.1, .int .i64 r.2]) ∧ ((¬ r.1 = 0 ∧ Z w' v) ∨ (r = (0, 0) ∧ inR q n ∧ ∃ cs, parse T = .inr cs ∧ badCods cs = none ∧ ChkCods cs (0, 0) ∧ F w' cs.length (playM (codesOf cs) cs.length q.toNat n.toNat) v))
def noS (_ : World) (v : Value) : Prop := v = .string ByteArray.empty
def outS (_ : World) (_ : Nat) (m : Mac) (v : Value) : Prop := v = .string (strOf m.out)
def trcS (_ : World) (_ : Nat) (m : Mac) (v : Value) : Prop := v = .string (strOf m.trc)
theorem GSee.bytes {K : GK} {w : World} {Y : GY} {m : Mac} {c : Array Value} (h : GSee K w Y m c) {i : Nat} (hi : 9 ≤ i ∧ i < 12) : SbAt w (Y.val i) (gcont m i) (Y.blk i) := by
  have := h.sl i hi.2
  unfold gE gI at this
  rw [if_neg (by omega), if_neg (by omega)] at this
  exact this
theorem strOf_nil : strOf [] = ByteArray.empty := rfl

set_option maxRecDepth 100000 in
set_option maxHeartbeats 1000000 in
theorem g_Out (s : ByteArray) (q n : Int) (w : World) (hm : s.size ≤ maxLen) :
    Calls Tryz.prog 13 #[.string s, .int .i64 q, .int .i64 n] w fun e w' => CallAns w' e (bytesOf s) q n noS outS ∧ Below w.heap.size w w' := by
  have HP := hide (g_run s q n w hm)
  go_enter Tryz.func13, Tryz.ntmps13
  go_wp2_with fail
  refine HP.out.mono ?_
  rintro e w1 ⟨r, hg, ha, hb⟩
  have HB : Hid (∀ o, Below w.heap.size w (w1.alloc o)) := fun o => hb.alloc hb.size o
  rcases ha with ⟨hz, rfl⟩ | ⟨rfl, hR, cs, c, h1, h2, h3, rfl, K, Y, k1, hs⟩
  · have z22 : (w1.alloc (.cells Zm 74)).cell? ⟨w1.heap.size, 22, none⟩ = some (.slice none 0 0) := by rw [cell_of_row _ _ 22 _ _ _ (heap_alloc_new w1 _)]; rfl
    have hcv := conv_sb (SbAt.nil (w1.alloc (.cells Zm 74)))
    rw [strOf_nil] at hcv
    have HG := hide hg
    have HZ := hide hz
    obtain ⟨r1, r2⟩ := r
    clear hg hb hz HP
    go_wp2_with (first
      | (refine wpList_alloc_m rfl rfl ?_)
      | (refine wpList_store_new rfl 74 _ _ rfl Zm Zm rfl rfl rfl size_m rfl Zm_one ?_))
    go_ret3
    exact ⟨⟨_, _, HG.out, rfl, .inl ⟨HZ.out, rfl⟩⟩, HB.out _⟩
  · have z22 : (w1.alloc (.cells c 74)).cell? ⟨w1.heap.size, 22, none⟩ = some (Y.val 9) := by rw [cell_of_row _ _ 22 _ _ _ (heap_alloc_new w1 _)]; exact hs.head.2.2.2 9 (by decide)
    have hcv := conv_sb ((hs.kept (w' := w1.alloc (.cells c 74)) (fun j hj _ => ((Below.refl w1.heap.size w1).alloc (Nat.le_refl _) _).block j hj)).bytes (i := 9) (by decide))
    have HS := hide hs
    have FIN : Hid (∀ w', CallAns w' (.returned (.tuple #[.string (strOf (playM (codesOf cs) cs.length q.toNat n.toNat).out), .int .i64 0, .int .i64 0])) (bytesOf s) q n noS outS) := fun w' => ⟨(0, 0), _, hg, rfl, .inr ⟨rfl, hR, cs, h1, h2, h3, rfl⟩⟩
    rw [show gcont (playM (codesOf cs) cs.length q.toNat n.toNat) 9 = (playM (codesOf cs) cs.length q.toNat n.toNat).out from rfl] at hcv
    generalize playM (codesOf cs) cs.length q.toNat n.toNat = m at *
    clear hg hb hs HP hR h1 h2 h3
    go_wp2_with (first
      | (refine wpList_alloc_m rfl rfl ?_)
      | (refine wpList_store_new rfl 74 _ _ rfl Zm c rfl rfl rfl (by rw [size_m, HS.out.size]) HS.out.size.symm HS.out.one ?_))
    go_ret3
    exact ⟨FIN.out _, HB.out _⟩

set_option maxRecDepth 100000 in
set_option maxHeartbeats 1000000 in
theorem g_Trace (s : ByteArray) (q n : Int) (w : World) (hm : s.size ≤ maxLen) :
    Calls Tryz.prog 14 #[.string s, .int .i64 q, .int .i64 n] w fun e w' => CallAns w' e (bytesOf s) q n noS trcS ∧ Below w.heap.size w w' := by
  have HP := hide (g_run s q n w hm)
  go_enter Tryz.func14, Tryz.ntmps14
  go_wp2_with fail
  refine HP.out.mono ?_
  rintro e w1 ⟨r, hg, ha, hb⟩
  have HB : Hid (∀ o, Below w.heap.size w (w1.alloc o)) := fun o => hb.alloc hb.size o
  rcases ha with ⟨hz, rfl⟩ | ⟨rfl, hR, cs, c, h1, h2, h3, rfl, K, Y, k1, hs⟩
  · have z22 : (w1.alloc (.cells Zm 74)).cell? ⟨w1.heap.size, 23, none⟩ = some (.slice none 0 0) := by rw [cell_of_row _ _ 23 _ _ _ (heap_alloc_new w1 _)]; rfl
    have hcv := conv_sb (SbAt.nil (w1.alloc (.cells Zm 74)))
    rw [strOf_nil] at hcv
    have HG := hide hg
    have HZ := hide hz
    obtain ⟨r1, r2⟩ := r
    clear hg hb hz HP
    go_wp2_with (first
      | (refine wpList_alloc_m rfl rfl ?_)
      | (refine wpList_store_new rfl 74 _ _ rfl Zm Zm rfl rfl rfl size_m rfl Zm_one ?_))
    go_ret3
    exact ⟨⟨_, _, HG.out, rfl, .inl ⟨HZ.out, rfl⟩⟩, HB.out _⟩
  · have z22 : (w1.alloc (.cells c 74)).cell? ⟨w1.heap.size, 23, none⟩ = some (Y.val 10) := by rw [cell_of_row _ _ 23 _ _ _ (heap_alloc_new w1 _)]; exact hs.head.2.2.2 10 (by decide)
    have hcv := conv_sb ((hs.kept (w' := w1.alloc (.cells c 74)) (fun j hj _ => ((Below.refl w1.heap.size w1).alloc (Nat.le_refl _) _).block j hj)).bytes (i := 10) (by decide))
    have HS := hide hs
    have FIN : Hid (∀ w', CallAns w' (.returned (.tuple #[.string (strOf (playM (codesOf cs) cs.length q.toNat n.toNat).trc), .int .i64 0, .int .i64 0])) (bytesOf s) q n noS trcS) := fun w' => ⟨(0, 0), _, hg, rfl, .inr ⟨rfl, hR, cs, h1, h2, h3, rfl⟩⟩
    rw [show gcont (playM (codesOf cs) cs.length q.toNat n.toNat) 10 = (playM (codesOf cs) cs.length q.toNat n.toNat).trc from rfl] at hcv
    generalize playM (codesOf cs) cs.length q.toNat n.toNat = m at *
    clear hg hb hs HP hR h1 h2 h3
    go_wp2_with (first
      | (refine wpList_alloc_m rfl rfl ?_)
      | (refine wpList_store_new rfl 74 _ _ rfl Zm c rfl rfl rfl (by rw [size_m, HS.out.size]) HS.out.size.symm HS.out.one ?_))
    go_ret3
    exact ⟨FIN.out _, HB.out _⟩

def logS (_ : World) (_ : Nat) (m : Mac) (v : Value) : Prop := v = .string (strOf m.log)
set_option maxRecDepth 100000 in
set_option maxHeartbeats 1000000 in
theorem g_Log (s : ByteArray) (q n : Int) (w : World) (hm : s.size ≤ maxLen) :
    Calls Tryz.prog 18 #[.string s, .int .i64 q, .int .i64 n] w fun e w' => CallAns w' e (bytesOf s) q n noS logS ∧ Below w.heap.size w w' := by
  have HP := hide (g_run s q n w hm)
  go_enter Tryz.func18, Tryz.ntmps18
  go_wp2_with fail
  refine HP.out.mono ?_
  rintro e w1 ⟨r, hg, ha, hb⟩
  have HB : Hid (∀ o, Below w.heap.size w (w1.alloc o)) := fun o => hb.alloc hb.size o
  rcases ha with ⟨hz, rfl⟩ | ⟨rfl, hR, cs, c, h1, h2, h3, rfl, K, Y, k1, hs⟩
  · have z22 : (w1.alloc (.cells Zm 74)).cell? ⟨w1.heap.size, 24, none⟩ = some (.slice none 0 0) := by rw [cell_of_row _ _ 24 _ _ _ (heap_alloc_new w1 _)]; rfl
    have hcv := conv_sb (SbAt.nil (w1.alloc (.cells Zm 74)))
    rw [strOf_nil] at hcv
    have HG := hide hg
    have HZ := hide hz
    obtain ⟨r1, r2⟩ := r
    clear hg hb hz HP
    go_wp2_with (first
      | (refine wpList_alloc_m rfl rfl ?_)
      | (refine wpList_store_new rfl 74 _ _ rfl Zm Zm rfl rfl rfl size_m rfl Zm_one ?_))
    go_ret3
    exact ⟨⟨_, _, HG.out, rfl, .inl ⟨HZ.out, rfl⟩⟩, HB.out _⟩
  · have z22 : (w1.alloc (.cells c 74)).cell? ⟨w1.heap.size, 24, none⟩ = some (Y.val 11) := by rw [cell_of_row _ _ 24 _ _ _ (heap_alloc_new w1 _)]; exact hs.head.2.2.2 11 (by decide)
    have hcv := conv_sb ((hs.kept (w' := w1.alloc (.cells c 74)) (fun j hj _ => ((Below.refl w1.heap.size w1).alloc (Nat.le_refl _) _).block j hj)).bytes (i := 11) (by decide))
    have HS := hide hs
    have FIN : Hid (∀ w', CallAns w' (.returned (.tuple #[.string (strOf (playM (codesOf cs) cs.length q.toNat n.toNat).log), .int .i64 0, .int .i64 0])) (bytesOf s) q n noS logS) := fun w' => ⟨(0, 0), _, hg, rfl, .inr ⟨rfl, hR, cs, h1, h2, h3, rfl⟩⟩
    rw [show gcont (playM (codesOf cs) cs.length q.toNat n.toNat) 11 = (playM (codesOf cs) cs.length q.toNat n.toNat).log from rfl] at hcv
    generalize playM (codesOf cs) cs.length q.toNat n.toNat = m at *
    clear hg hb hs HP hR h1 h2 h3
    go_wp2_with (first
      | (refine wpList_alloc_m rfl rfl ?_)
      | (refine wpList_store_new rfl 74 _ _ rfl Zm c rfl rfl rfl (by rw [size_m, HS.out.size]) HS.out.size.symm HS.out.one ?_))
    go_ret3
    exact ⟨FIN.out _, HB.out _⟩

def stsS (_ : World) (n : Nat) (m : Mac) (v : Value) : Prop := v = .string (strOf ((List.range n).map (fun k => (m.th k).sta)))
/-- A thread's cells, as one. -/
theorem GSee.thread {K : GK} {w : World} {Y : GY} {m : Mac} {c : Array Value} (h : GSee K w Y m c) {k : Nat} (hk : k < K.n) : ∃ tc : List Value, tc.length = 12 ∧ w.rangeAt K.gt (k * 12) tc ∧ tc.toArray[9]? = some (.int .u8 (m.th k).sta) ∧ tc.toArray.all (·.oneCell') = true ∧ K.gt < w.heap.size := by
  have hlv := h.lvs k hk
  obtain ⟨cur, t1, t2⟩ := h.thr
  obtain ⟨a0, a1, a2, a3, a4, a5, a6⟩ := t2 k hk
  refine ⟨[K.lv k, .int .i64 ((m.th k).pc : Nat), .int .i64 (Y.jk k 0), .int .i64 (Y.jk k 1), .int .i64 (Y.jk k 2), .int .i64 (Y.jk k 3), .int .i64 (Y.jk k 4), .int .i64 (Y.jk k 5), .int .i64 ((m.th k).stk.length : Nat), .int .u8 (m.th k).sta, .int .i64 (m.th k).wake, .int .i64 ((m.th k).bat : Nat)], rfl, fun j v hj => ?_, rfl, ?_, (Array.getElem?_eq_some_iff.1 t1).1⟩
  · rw [cell_of_row _ _ _ _ _ _ t1]
    match j, hj with
    | 0, hj => simp at hj; subst hj; exact a0
    | 1, hj => simp at hj; subst hj; exact a1
    | 2, hj => simp at hj; subst hj; exact a2 0 (by decide)
    | 3, hj => simp at hj; subst hj; exact a2 1 (by decide)
    | 4, hj => simp at hj; subst hj; exact a2 2 (by decide)
    | 5, hj => simp at hj; subst hj; exact a2 3 (by decide)
    | 6, hj => simp at hj; subst hj; exact a2 4 (by decide)
    | 7, hj => simp at hj; subst hj; exact a2 5 (by decide)
    | 8, hj => simp at hj; subst hj; exact a3
    | 9, hj => simp at hj; subst hj; exact a4
    | 10, hj => simp at hj; subst hj; exact a5
    | 11, hj => simp at hj; subst hj; exact a6
    | j + 12, hj => simp at hj
  · rw [← Array.all_toList]
    simp only [List.all_cons, List.all_nil, hlv, Bool.true_and]
    rfl

theorem size_t : (Tryz.prog.info? 80).map (·.size) = some 12 := by kernel_rfl
theorem under_t : ∃ d, Tryz.prog.underlying 80 = some d ∧ d.isRow = true := by
  have h : (Tryz.prog.underlying 80).map (·.isRow) = some true := by kernel_rfl
  obtain ⟨d, h1, h2⟩ := Option.map_eq_some_iff.1 h
  exact ⟨d, h1, h2⟩
theorem grown_low {w1 wr w0 w3 : World} {g : Option Nat} (hb : Below w1.heap.size w1 wr) (h0 : Below wr.heap.size wr w0) (hg : w0.grownBy w3 g) (hl : ∀ x, g = some x → w1.heap.size ≤ x) : Below w1.heap.size w1 w3 := by
  have h1 : Below w1.heap.size w1 w0 := hb.trans (h0.mono hb.size)
  exact ⟨hg.os.trans h1.os, hg.tape.trans h1.tape, hg.output.trans h1.output, Nat.le_trans h1.size hg.size, fun j hj => by rw [hg.block j (by have := h1.size; omega) (fun e => by have := hl j e.symm; omega), h1.block j hj]⟩
theorem fresh_low {w1 wr w0 : World} {g g' : Option Nat} (hb : Below w1.heap.size w1 wr) (h0 : Below wr.heap.size wr w0) (hf : g' = g ∨ ∃ b, g' = some b ∧ w0.heap.size ≤ b) (hl : ∀ x, g = some x → w1.heap.size ≤ x) : ∀ x, g' = some x → w1.heap.size ≤ x := fun x hx => by
  rcases hf with e | ⟨y, e, hy⟩
  · rw [e] at hx; exact hl x hx
  · rw [e] at hx; cases hx; have := hb.size; have := h0.size; omega
theorem sb_empty (w : World) {n : Nat} (hn : n = w.heap.size) : SbAt (w.alloc (.cells #[] 5)) (.slice (some ⟨n, 0, none⟩) 0 0) [] (some n) :=
  .inr ⟨n, 0, 0, #[], rfl, rfl, by subst hn; exact heap_alloc_new w _, Nat.le_refl _, Nat.le_refl _, fun j x hj => by simp at hj⟩
set_option maxRecDepth 100000 in
set_option maxHeartbeats 1000000 in
theorem g_States (s : ByteArray) (q n : Int) (w : World) (hm : s.size ≤ maxLen) :
    Calls Tryz.prog 16 #[.string s, .int .i64 q, .int .i64 n] w fun e w' => CallAns w' e (bytesOf s) q n noS stsS ∧ Below w.heap.size w w' := by
  have HP := hide (g_run s q n w hm)
  go_enter Tryz.func16, Tryz.ntmps16
  go_wp2_with fail
  refine HP.out.mono ?_
  rintro e w1 ⟨r, hg, ha, hb⟩
  have HB : Hid (∀ o, Below w.heap.size w (w1.alloc o)) := fun o => hb.alloc hb.size o
  rcases ha with ⟨hz, rfl⟩ | ⟨rfl, hR, cs, c, h1, h2, h3, rfl, K, Y, k1, hs⟩
  · have z0 : ((w1.alloc (.cells Zm 74)).alloc (.cells #[] 5)).cell? ⟨w1.heap.size, 0, none⟩ = some (.slice none 0 0) := by rw [((Below.refl (w1.alloc (.cells Zm 74)).heap.size _).alloc (Nat.le_refl _) _).cell (p := ⟨w1.heap.size, 0, none⟩) (by simp), cell_of_row _ _ 0 _ _ _ (heap_alloc_new w1 _)]; rfl
    have hcv := conv_sb (w := (w1.alloc (.cells Zm 74)).alloc (.cells #[] 5)) (v := .slice (some ⟨w1.heap.size + 1, 0, none⟩) 0 0) (xs := []) (g := some (w1.heap.size + 1)) (sb_empty _ (by simp))
    rw [strOf_nil] at hcv
    have HG := hide hg
    have HZ := hide hz
    obtain ⟨r1, r2⟩ := r
    have HB2 : Hid (Below w.heap.size w ((w1.alloc (.cells Zm 74)).alloc (.cells #[] 5))) := (HB.out _).alloc (HB.out _).size _
    clear hg hb hz HP
    go_wp2_with (first
      | (refine wpList_alloc_m rfl rfl ?_)
      | (refine wpList_store_new rfl 74 _ _ rfl Zm Zm rfl rfl rfl size_m rfl Zm_one ?_))
    go_loopw [27, 12] (fun s v wr => s = .int .i64 0 ∧ v = .slice (some ⟨w1.heap.size + 1, 0, none⟩) 0 0 ∧ wr = (w1.alloc (.cells Zm 74)).alloc (.cells #[] 5)) (fun _ _ _ => 0)
    case atStart => exact ⟨rfl, rfl, rfl⟩
    case round =>
      obtain ⟨rfl, rfl, rfl⟩ := hrel
      go_wp2_with fail
      go_ret3
      exact ⟨⟨_, _, HG.out, rfl, .inl ⟨HZ.out, rfl⟩⟩, HB2.out⟩
  · have z0 : ((w1.alloc (.cells c 74)).alloc (.cells #[] 5)).cell? ⟨w1.heap.size, 0, none⟩ = some (.slice (some ⟨K.gt, 0, none⟩) K.n K.tcap) := by rw [((Below.refl (w1.alloc (.cells c 74)).heap.size _).alloc (Nat.le_refl _) _).cell (p := ⟨w1.heap.size, 0, none⟩) (by simp), cell_of_row _ _ 0 _ _ _ (heap_alloc_new w1 _)]; exact hs.head.1
    have HS := hide hs
    have HB2 : Hid (Below w1.heap.size w1 ((w1.alloc (.cells c 74)).alloc (.cells #[] 5))) := ((Below.refl _ _).alloc (Nat.le_refl _) _).alloc (by simp) _
    have HE := hide (sb_empty ((w1.alloc (.cells c 74))) (n := w1.heap.size + 1) (by simp))
    have FIN : Hid (∀ w', CallAns w' (.returned (.tuple #[.string (strOf ((List.range K.n).map (fun k => ((playM (codesOf cs) cs.length q.toNat n.toNat).th k).sta))), .int .i64 0, .int .i64 0])) (bytesOf s) q n noS stsS) := fun w' => ⟨(0, 0), _, hg, rfl, .inr ⟨rfl, hR, cs, h1, h2, h3, by rw [k1]; rfl⟩⟩
    generalize playM (codesOf cs) cs.length q.toNat n.toNat = m at *
    have hK4 : K.n ≤ 4 := by rw [k1]; exact parse_lenG h1
    have HBW := hide hb
    clear hb hs HP h1 h2 h3 hg hR k1
    go_wp2_with (first
      | (refine wpList_alloc_m rfl rfl ?_)
      | (refine wpList_store_new rfl 74 _ _ rfl Zm c rfl rfl rfl (by rw [size_m, HS.out.size]) HS.out.size.symm HS.out.one ?_))
    obtain ⟨i0, hi0, hz0, hz1, hz2⟩ := info_parts info_u8
    have hw1 : w1.heap.size + 1 < ((w1.alloc (.cells c 74)).alloc (.cells #[] 5)).heap.size := by simp
    generalize (w1.alloc (.cells c 74)).alloc (.cells #[] 5) = wB at *
    go_loopw [27, 12] (fun s v wr => ∃ (j : Nat) (g : Option Nat), j ≤ K.n ∧ s = .int .i64 j ∧ SbAt wr v ((List.range j).map (fun k => (m.th k).sta)) g ∧ (∀ x, g = some x → w1.heap.size ≤ x) ∧ Below w1.heap.size w1 wr) (fun s _ _ => K.n - (intOf s).toNat)
    case atStart => exact ⟨0, _, Nat.zero_le _, rfl, HE.out, fun x hx => by cases hx; omega, HB2.out⟩
    case round =>
      obtain ⟨j, g, hj, rfl, hv, hgl, hbl⟩ := hrel
      by_cases hlt : j < K.n
      · have hlt1 : (j : Int) < (K.n : Int) := by omega
        obtain ⟨tl, t1, t2, t3, t4, t5⟩ := ((HS.out.kept (w' := wr) (fun i hi _ => hbl.block i hi)).thread hlt)
        obtain ⟨d, hd1, hd2⟩ := under_t
        have zc : (wr.alloc (.cells tl.toArray 80)).cell? ⟨wr.heap.size, 9, none⟩ = some (.int .u8 (m.th j).sta) := by rw [cell_of_row _ _ 9 _ _ _ (heap_alloc_new wr _)]; exact t3
        have HR := hide t2
        have HT1 := hide t1
        have HT4 := hide t4
        have HV := hide hv
        have HGL := hide hgl
        have HBL := hide hbl
        have HLE : Hid (((List.range j).map (fun k => (m.th k).sta)).length ≤ 1000000) := by unfold Hid; simp; omega
        have HAPP : Hid (∀ v', (((List.range j).map (fun k => (m.th k).sta)) ++ [(m.th j).sta] = v' → v' = (List.range (j + 1)).map (fun k => (m.th k).sta))) := fun v' h => by rw [← h, List.range_succ, List.map_append]; rfl
        generalize (m.th j).sta = st at *
        clear t1 t2 t3 t4 hv hgl hbl z0 HE
        go_wp2_with (first
          | (refine wpList_load_mid rfl 80 _ rfl K.gt (j * 12) rfl tl d HR.out hd1 hd2 (by rw [size_t, HT1.out]) ?_)
          | (refine wpList_store_new rfl 80 _ _ rfl _ tl.toArray rfl rfl rfl (by rw [size_t, List.size_toArray, HT1.out]) (by simp [HT1.out]) HT4.out ?_)
          | (at_builtin; refine wpList_append_sb _ rfl _ _ 72 rfl i0 under_u8 hi0 hz0 hz1 hz2 _ ((List.range j).map (fun k => (m.th k).sta)) g rfl (HV.out.kept (fun x hx => (two_newG _ _ _).block x (HV.out.lt x hx))) ⟨_, 0, none⟩ 1 st rfl (one_atG (by simp)) HLE.out ?_; intro v' w3 g' ha hgr hfr; have HN := hide ha; have HB3 : Hid (Below w1.heap.size w1 w3) := grown_low HBL.out (two_newG _ _ _) hgr HGL.out; have HG3 : Hid (∀ x, g' = some x → w1.heap.size ≤ x) := fresh_low HBL.out (two_newG _ _ _) hfr HGL.out; obtain ⟨va, vn, vc, rfl⟩ := ha.slice'; clear ha hgr hfr))
        go_roundw
        case rel => exact ⟨j + 1, g', by omega, by go_num, by rw [← HAPP.out _ rfl]; exact HN.out, HG3.out, HB3.out⟩
        case measure => simp [intOf]; omega
      · obtain rfl : j = K.n := by omega
        have hcv := conv_sb hv
        have HBL : Hid (Below w.heap.size w wr) := HBW.out.trans (hbl.mono HBW.out.size)
        have hlt1 : ¬ (K.n : Int) < (K.n : Int) := by omega
        obtain ⟨va, vn, vc, rfl⟩ := hv.slice'
        clear hv hgl hbl
        go_wp2_with fail
        go_ret3
        exact ⟨FIN.out _, HBL.out⟩

def nameI (x : Int) : Int := if x < 0 then 45 else 48 + x
theorem g_nameI (x : Int) (w : World) (hx : x = -1 ∨ ∃ k : Nat, k < 4 ∧ x = k) : Calls Tryz.prog 28 #[.int .i64 x] w fun e w' => e = .returned (.int .u8 (nameI x)) ∧ w' = w := by
  rcases hx with rfl | ⟨k, hk, rfl⟩
  · exact g_nameOf0 w
  · have : nameI (k : Int) = 48 + k := by unfold nameI; rw [if_neg (by omega)]
    rw [this]; exact g_nameOf k w hk
def ownS (_ : World) (_ : Nat) (m : Mac) (v : Value) : Prop := v = .string (strOf ((List.range 4).map (fun l => nameI (m.own l))))
theorem size_l : (Tryz.prog.info? 71).map (·.size) = some 12 := by kernel_rfl
theorem under_l : ∃ d, Tryz.prog.underlying 71 = some d ∧ d.isRow = true := by
  have h : (Tryz.prog.underlying 71).map (·.isRow) = some true := by kernel_rfl
  obtain ⟨d, h1, h2⟩ := Option.map_eq_some_iff.1 h
  exact ⟨d, h1, h2⟩
theorem size_lk : (Tryz.prog.info? 70).map (·.size) = some 3 := by kernel_rfl
theorem one3 {x y z : Value} (hx : x.oneCell' = true) (hy : y.oneCell' = true) (hz : z.oneCell' = true) : (#[x, y, z] : Array Value).all (·.oneCell') = true := by simp [hx, hy, hz]
theorem index_l (cs : Array Value) (j : Nat) (w : World) (h : j < 4) : (Instr.index 71 (.agg cs) (.int .i64 j)).run Tryz.prog w = .ok (.agg (cs.extract (j * 3) (j * 3 + 3))) w := by
  unfold Instr.index
  simp [go_sem]
  intro h4; omega
theorem wpList_index_l {ops : Array Oper} {rest : List Oper} {op : Oper} {a : Act} {w : World} {Q : Exit → Act → World → Prop} (hgd : op.guard = none) (x ix : Operand) (ho : op.op = .index 71 x ix) (cs v' : Array Value) (j : Nat) (hx : a.eval x = .agg cs) (hi : a.eval ix = .int .i64 (j : Nat)) (hj : j < 4) (hv : cs.extract (j * 3) (j * 3 + 3) = v') (h : wpList Tryz.prog ops Q rest (a.put op.dst (.agg v')) w) : wpList Tryz.prog ops Q (op :: rest) a w :=
  wpList_val hgd _ _ (by simp only [execOp, ho, hx, hi, Sem.run_bind, index_l cs j w hj, Result.andThen_ok, Sem.run_pure, hv]) h
theorem GSee.locks {K : GK} {w : World} {Y : GY} {m : Mac} {c : Array Value} (h : GSee K w Y m c) {W : World} {b : Nat} (hb : W.heap[b]? = some (.cells c 74 (0, 0))) : W.rangeAt b 9 [.int .i64 (m.own 0), Y.val 1, Y.val 5, .int .i64 (m.own 1), Y.val 2, Y.val 6, .int .i64 (m.own 2), Y.val 3, Y.val 7, .int .i64 (m.own 3), Y.val 4, Y.val 8] := by
  obtain ⟨_, _, h2, h3⟩ := h.head
  intro j v hj
  rw [cell_of_row _ _ _ _ _ _ hb]
  match j, hj with
  | 0, hj => simp at hj; subst hj; exact h2 0 (by decide)
  | 1, hj => simp at hj; subst hj; exact h3 1 (by decide)
  | 2, hj => simp at hj; subst hj; exact h3 5 (by decide)
  | 3, hj => simp at hj; subst hj; exact h2 1 (by decide)
  | 4, hj => simp at hj; subst hj; exact h3 2 (by decide)
  | 5, hj => simp at hj; subst hj; exact h3 6 (by decide)
  | 6, hj => simp at hj; subst hj; exact h2 2 (by decide)
  | 7, hj => simp at hj; subst hj; exact h3 3 (by decide)
  | 8, hj => simp at hj; subst hj; exact h3 7 (by decide)
  | 9, hj => simp at hj; subst hj; exact h2 3 (by decide)
  | 10, hj => simp at hj; subst hj; exact h3 4 (by decide)
  | 11, hj => simp at hj; subst hj; exact h3 8 (by decide)
  | j + 12, hj => simp at hj

set_option maxRecDepth 100000 in
set_option maxHeartbeats 1000000 in
theorem g_Owners (s : ByteArray) (q n : Int) (w : World) (hm : s.size ≤ maxLen) :
    Calls Tryz.prog 17 #[.string s, .int .i64 q, .int .i64 n] w fun e w' => CallAns w' e (bytesOf s) q n noS ownS ∧ Below w.heap.size w w' := by
  have HP := hide (g_run s q n w hm)
  go_enter Tryz.func17, Tryz.ntmps17
  go_wp2_with fail
  refine HP.out.mono ?_
  rintro e w1 ⟨r, hg, ha, hb⟩
  have HB : Hid (∀ o, Below w.heap.size w (w1.alloc o)) := fun o => hb.alloc hb.size o
  rcases ha with ⟨hz, rfl⟩ | ⟨rfl, hR, cs, c, h1, h2, h3, rfl, K, Y, k1, hs⟩
  · obtain ⟨r1, r2⟩ := r
    have hz0 : (r1 != 0) = true := by simp only at hz; simp [hz]
    have HG := hide hg
    have HZ := hide hz
    clear hg hb hz HP
    go_wp2_with (first
      | (refine wpList_alloc_m rfl rfl ?_)
      | (refine wpList_store_new rfl 74 _ _ rfl Zm Zm rfl rfl rfl size_m rfl Zm_one ?_))
    go_ret3
    exact ⟨⟨_, _, HG.out, rfl, .inl ⟨HZ.out, rfl⟩⟩, HB.out _⟩
  · have HS := hide hs
    have HB2 : Hid (Below w1.heap.size w1 ((w1.alloc (.cells c 74)).alloc (.cells #[] 5))) := ((Below.refl _ _).alloc (Nat.le_refl _) _).alloc (by simp) _
    have HE := hide (sb_empty ((w1.alloc (.cells c 74))) (n := w1.heap.size + 1) (by simp))
    have HL := hide (hs.locks (W := (w1.alloc (.cells c 74)).alloc (.cells #[] 5)) (b := w1.heap.size) (by rw [((Below.refl (w1.alloc (.cells c 74)).heap.size _).alloc (Nat.le_refl _) _).block w1.heap.size (by simp)]; exact heap_alloc_new w1 _))
    have FIN : Hid (∀ w', CallAns w' (.returned (.tuple #[.string (strOf ((List.range 4).map (fun l => nameI ((playM (codesOf cs) cs.length q.toNat n.toNat).own l)))), .int .i64 0, .int .i64 0])) (bytesOf s) q n noS ownS) := fun w' => ⟨(0, 0), _, hg, rfl, .inr ⟨rfl, hR, cs, h1, h2, h3, rfl⟩⟩
    have HO : Hid (∀ l, (playM (codesOf cs) cs.length q.toNat n.toNat).own l = -1 ∨ ∃ k : Nat, k < 4 ∧ (playM (codesOf cs) cs.length q.toNat n.toNat).own l = k) := fun l => by
      rcases play_who (fine_of h1 h2 h3) q.toNat n.toNat l with e | ⟨k, hk, e, _⟩
      · exact .inl e
      · exact .inr ⟨k, by have := parse_lenG h1; omega, e⟩
    generalize playM (codesOf cs) cs.length q.toNat n.toNat = m at *
    have HBW := hide hb
    obtain ⟨d, hd1, hd2⟩ := under_l
    clear hb hs HP h1 h2 h3 hg hR k1
    go_wp2_with (first
      | (refine wpList_alloc_m rfl rfl ?_)
      | (refine wpList_store_new rfl 74 _ _ rfl Zm c rfl rfl rfl (by rw [size_m, HS.out.size]) HS.out.size.symm HS.out.one ?_)
      | (refine wpList_load_mid rfl 71 _ rfl w1.heap.size 9 rfl _ d HL.out hd1 hd2 size_l ?_))
    obtain ⟨i0, hi0, hz0, hz1, hz2⟩ := info_parts info_u8
    have hw1 : w1.heap.size + 1 < ((w1.alloc (.cells c 74)).alloc (.cells #[] 5)).heap.size := by simp
    have HVV : Hid (∀ i, i < 12 → (Y.val i).oneCell' = true) := fun i hi => by
      rcases HS.out.sl i hi with ⟨e, _⟩ | ⟨_, _, _, _, e, _⟩ <;> rw [e] <;> rfl
    generalize (w1.alloc (.cells c 74)).alloc (.cells #[] 5) = wB at *
    go_loopw [30, 12] (fun s v wr => ∃ (j : Nat) (g : Option Nat), j ≤ 4 ∧ s = .int .i64 j ∧ SbAt wr v ((List.range j).map (fun l => nameI (m.own l))) g ∧ (∀ x, g = some x → w1.heap.size ≤ x) ∧ Below w1.heap.size w1 wr) (fun s _ _ => 4 - (intOf s).toNat)
    case atStart => exact ⟨0, _, Nat.zero_le _, rfl, HE.out, fun x hx => by cases hx; omega, HB2.out⟩
    case round =>
      obtain ⟨j, g, hj, rfl, hv, hgl, hbl⟩ := hrel
      rcases (show j = 0 ∨ j = 1 ∨ j = 2 ∨ j = 3 ∨ j = 4 by omega) with rfl | rfl | rfl | rfl | rfl
      · have HX := hide (HO.out 0)
        have HAPP : Hid ((List.range 0).map (fun l => nameI (m.own l)) ++ [nameI (m.own 0)] = (List.range 1).map (fun l => nameI (m.own l))) := by rw [Hid, List.range_succ (n := 0), List.map_append]; rfl
        have HLE : Hid (((List.range 0).map (fun l => nameI (m.own l))).length ≤ 1000000) := by unfold Hid; simp
        have HV := hide hv
        have HGL := hide hgl
        have HBL := hide hbl
        clear hv hgl hbl HE HL hj
        go_wp2_with (first
          | (refine wpList_index_l rfl _ _ rfl _ #[.int .i64 (m.own 0), Y.val 1, Y.val 5] 0 rfl rfl (by decide) rfl ?_)
          | (refine wpList_store_new rfl 70 _ _ rfl _ _ rfl rfl rfl size_lk rfl (one3 rfl (HVV.out _ (by decide)) (HVV.out _ (by decide))) ?_)
          | (go_at_call 28; refine (g_nameI (m.own 0) _ HX.out).mono ?_; rintro e w5 ⟨rfl, h5⟩; replace h5 := h5.symm; subst h5)
          | (at_builtin; refine wpList_append_sb _ rfl _ _ 72 rfl i0 under_u8 hi0 hz0 hz1 hz2 _ ((List.range 0).map (fun l => nameI (m.own l))) g rfl (HV.out.kept (fun x hx => (two_newG _ _ _).block x (HV.out.lt x hx))) ⟨_, 0, none⟩ 1 (nameI (m.own 0)) rfl (one_atG (by simp)) HLE.out ?_; intro v' w3 g' ha hgr hfr; have HN := hide ha; have HB3 : Hid (Below w1.heap.size w1 w3) := grown_low HBL.out (two_newG _ _ _) hgr HGL.out; have HG3 : Hid (∀ x, g' = some x → w1.heap.size ≤ x) := fresh_low HBL.out (two_newG _ _ _) hfr HGL.out; obtain ⟨va, vn, vc, rfl⟩ := ha.slice'; clear ha hgr hfr))
        go_roundw
        case rel => exact ⟨1, g', by decide, by go_num, by rw [← HAPP.out]; exact HN.out, HG3.out, HB3.out⟩
        case measure => simp [intOf]
      · have HX := hide (HO.out 1)
        have HAPP : Hid ((List.range 1).map (fun l => nameI (m.own l)) ++ [nameI (m.own 1)] = (List.range 2).map (fun l => nameI (m.own l))) := by rw [Hid, List.range_succ (n := 1), List.map_append]; rfl
        have HLE : Hid (((List.range 1).map (fun l => nameI (m.own l))).length ≤ 1000000) := by unfold Hid; simp
        have HV := hide hv
        have HGL := hide hgl
        have HBL := hide hbl
        clear hv hgl hbl HE HL hj
        go_wp2_with (first
          | (refine wpList_index_l rfl _ _ rfl _ #[.int .i64 (m.own 1), Y.val 2, Y.val 6] 1 rfl rfl (by decide) rfl ?_)
          | (refine wpList_store_new rfl 70 _ _ rfl _ _ rfl rfl rfl size_lk rfl (one3 rfl (HVV.out _ (by decide)) (HVV.out _ (by decide))) ?_)
          | (go_at_call 28; refine (g_nameI (m.own 1) _ HX.out).mono ?_; rintro e w5 ⟨rfl, h5⟩; replace h5 := h5.symm; subst h5)
          | (at_builtin; refine wpList_append_sb _ rfl _ _ 72 rfl i0 under_u8 hi0 hz0 hz1 hz2 _ ((List.range 1).map (fun l => nameI (m.own l))) g rfl (HV.out.kept (fun x hx => (two_newG _ _ _).block x (HV.out.lt x hx))) ⟨_, 0, none⟩ 1 (nameI (m.own 1)) rfl (one_atG (by simp)) HLE.out ?_; intro v' w3 g' ha hgr hfr; have HN := hide ha; have HB3 : Hid (Below w1.heap.size w1 w3) := grown_low HBL.out (two_newG _ _ _) hgr HGL.out; have HG3 : Hid (∀ x, g' = some x → w1.heap.size ≤ x) := fresh_low HBL.out (two_newG _ _ _) hfr HGL.out; obtain ⟨va, vn, vc, rfl⟩ := ha.slice'; clear ha hgr hfr))
        go_roundw
        case rel => exact ⟨2, g', by decide, by go_num, by rw [← HAPP.out]; exact HN.out, HG3.out, HB3.out⟩
        case measure => simp [intOf]
      · have HX := hide (HO.out 2)
        have HAPP : Hid ((List.range 2).map (fun l => nameI (m.own l)) ++ [nameI (m.own 2)] = (List.range 3).map (fun l => nameI (m.own l))) := by rw [Hid, List.range_succ (n := 2), List.map_append]; rfl
        have HLE : Hid (((List.range 2).map (fun l => nameI (m.own l))).length ≤ 1000000) := by unfold Hid; simp
        have HV := hide hv
        have HGL := hide hgl
        have HBL := hide hbl
        clear hv hgl hbl HE HL hj
        go_wp2_with (first
          | (refine wpList_index_l rfl _ _ rfl _ #[.int .i64 (m.own 2), Y.val 3, Y.val 7] 2 rfl rfl (by decide) rfl ?_)
          | (refine wpList_store_new rfl 70 _ _ rfl _ _ rfl rfl rfl size_lk rfl (one3 rfl (HVV.out _ (by decide)) (HVV.out _ (by decide))) ?_)
          | (go_at_call 28; refine (g_nameI (m.own 2) _ HX.out).mono ?_; rintro e w5 ⟨rfl, h5⟩; replace h5 := h5.symm; subst h5)
          | (at_builtin; refine wpList_append_sb _ rfl _ _ 72 rfl i0 under_u8 hi0 hz0 hz1 hz2 _ ((List.range 2).map (fun l => nameI (m.own l))) g rfl (HV.out.kept (fun x hx => (two_newG _ _ _).block x (HV.out.lt x hx))) ⟨_, 0, none⟩ 1 (nameI (m.own 2)) rfl (one_atG (by simp)) HLE.out ?_; intro v' w3 g' ha hgr hfr; have HN := hide ha; have HB3 : Hid (Below w1.heap.size w1 w3) := grown_low HBL.out (two_newG _ _ _) hgr HGL.out; have HG3 : Hid (∀ x, g' = some x → w1.heap.size ≤ x) := fresh_low HBL.out (two_newG _ _ _) hfr HGL.out; obtain ⟨va, vn, vc, rfl⟩ := ha.slice'; clear ha hgr hfr))
        go_roundw
        case rel => exact ⟨3, g', by decide, by go_num, by rw [← HAPP.out]; exact HN.out, HG3.out, HB3.out⟩
        case measure => simp [intOf]
      · have HX := hide (HO.out 3)
        have HAPP : Hid ((List.range 3).map (fun l => nameI (m.own l)) ++ [nameI (m.own 3)] = (List.range 4).map (fun l => nameI (m.own l))) := by rw [Hid, List.range_succ (n := 3), List.map_append]; rfl
        have HLE : Hid (((List.range 3).map (fun l => nameI (m.own l))).length ≤ 1000000) := by unfold Hid; simp
        have HV := hide hv
        have HGL := hide hgl
        have HBL := hide hbl
        clear hv hgl hbl HE HL hj
        go_wp2_with (first
          | (refine wpList_index_l rfl _ _ rfl _ #[.int .i64 (m.own 3), Y.val 4, Y.val 8] 3 rfl rfl (by decide) rfl ?_)
          | (refine wpList_store_new rfl 70 _ _ rfl _ _ rfl rfl rfl size_lk rfl (one3 rfl (HVV.out _ (by decide)) (HVV.out _ (by decide))) ?_)
          | (go_at_call 28; refine (g_nameI (m.own 3) _ HX.out).mono ?_; rintro e w5 ⟨rfl, h5⟩; replace h5 := h5.symm; subst h5)
          | (at_builtin; refine wpList_append_sb _ rfl _ _ 72 rfl i0 under_u8 hi0 hz0 hz1 hz2 _ ((List.range 3).map (fun l => nameI (m.own l))) g rfl (HV.out.kept (fun x hx => (two_newG _ _ _).block x (HV.out.lt x hx))) ⟨_, 0, none⟩ 1 (nameI (m.own 3)) rfl (one_atG (by simp)) HLE.out ?_; intro v' w3 g' ha hgr hfr; have HN := hide ha; have HB3 : Hid (Below w1.heap.size w1 w3) := grown_low HBL.out (two_newG _ _ _) hgr HGL.out; have HG3 : Hid (∀ x, g' = some x → w1.heap.size ≤ x) := fresh_low HBL.out (two_newG _ _ _) hfr HGL.out; obtain ⟨va, vn, vc, rfl⟩ := ha.slice'; clear ha hgr hfr))
        go_roundw
        case rel => exact ⟨4, g', by decide, by go_num, by rw [← HAPP.out]; exact HN.out, HG3.out, HB3.out⟩
        case measure => simp [intOf]
      · have hcv := conv_sb hv
        have HBL : Hid (Below w.heap.size w wr) := HBW.out.trans (hbl.mono HBW.out.size)
        obtain ⟨va, vn, vc, rfl⟩ := hv.slice'
        clear hv hgl hbl
        go_wp2_with fail
        go_ret3
        exact ⟨FIN.out _, HBL.out⟩

def noL (w : World) (v : Value) : Prop := ∃ g, SlAt w v [] g
def celL (w : World) (_ : Nat) (m : Mac) (v : Value) : Prop := ∃ g, SlAt w v ((List.range 8).map m.cells) g
theorem size_c : (Tryz.prog.info? 66).map (·.size) = some 8 := by kernel_rfl
theorem under_c : ∃ d, Tryz.prog.underlying 66 = some d ∧ d.isRow = true := by
  have h : (Tryz.prog.underlying 66).map (·.isRow) = some true := by kernel_rfl
  obtain ⟨d, h1, h2⟩ := Option.map_eq_some_iff.1 h
  exact ⟨d, h1, h2⟩
theorem GSee.cells8 {K : GK} {w : World} {Y : GY} {m : Mac} {c : Array Value} (h : GSee K w Y m c) {W : World} {b : Nat} (hb : W.heap[b]? = some (.cells c 74 (0, 0))) : W.rangeAt b 1 [.int .i64 (m.cells 0), .int .i64 (m.cells 1), .int .i64 (m.cells 2), .int .i64 (m.cells 3), .int .i64 (m.cells 4), .int .i64 (m.cells 5), .int .i64 (m.cells 6), .int .i64 (m.cells 7)] := by
  obtain ⟨_, h1, _, _⟩ := h.head
  intro j v hj
  rw [cell_of_row _ _ _ _ _ _ hb]
  match j, hj with
  | 0, hj => simp at hj; subst hj; exact h1 0 (by decide)
  | 1, hj => simp at hj; subst hj; exact h1 1 (by decide)
  | 2, hj => simp at hj; subst hj; exact h1 2 (by decide)
  | 3, hj => simp at hj; subst hj; exact h1 3 (by decide)
  | 4, hj => simp at hj; subst hj; exact h1 4 (by decide)
  | 5, hj => simp at hj; subst hj; exact h1 5 (by decide)
  | 6, hj => simp at hj; subst hj; exact h1 6 (by decide)
  | 7, hj => simp at hj; subst hj; exact h1 7 (by decide)
  | j + 8, hj => simp at hj
theorem sl_empty (w : World) {n : Nat} (hn : n = w.heap.size) : SlAt (w.alloc (.cells #[] 3)) (.slice (some ⟨n, 0, none⟩) 0 0) [] (some n) :=
  .inr ⟨n, 0, 0, #[], rfl, rfl, by subst hn; exact heap_alloc_new w _, Nat.le_refl _, Nat.le_refl _, fun j x hj => by simp at hj⟩
theorem one_newG (w : World) (o : Obj) : Below w.heap.size w (w.alloc o) := (Below.refl _ _).alloc (Nat.le_refl _) _
theorem SlAt.slice' {w : World} {v : Value} {xs : List Int} {g : Option Nat} (h : SlAt w v xs g) : ∃ ao n cap, v = .slice ao n cap := by
  obtain ⟨ao, cap, h1⟩ := h.slice
  exact ⟨ao, _, cap, h1⟩

theorem index_c (cs : Array Value) (x : Int) (j : Nat) (w : World) (h : j < 8) (hc : cs[j]? = some (.int .i64 x)) : (Instr.index 66 (.agg cs) (.int .i64 j)).run Tryz.prog w = .ok (.int .i64 x) w := by
  unfold Instr.index
  simp [go_sem, hc]
  omega
theorem wpList_index_c {ops : Array Oper} {rest : List Oper} {op : Oper} {a : Act} {w : World} {Q : Exit → Act → World → Prop} (hgd : op.guard = none) (x ix : Operand) (ho : op.op = .index 66 x ix) (cs : Array Value) (v : Int) (j : Nat) (hx : a.eval x = .agg cs) (hi : a.eval ix = .int .i64 (j : Nat)) (hj : j < 8) (hv : cs[j]? = some (.int .i64 v)) (h : wpList Tryz.prog ops Q rest (a.put op.dst (.int .i64 v)) w) : wpList Tryz.prog ops Q (op :: rest) a w :=
  wpList_val hgd _ _ (by simp only [execOp, ho, hx, hi, Sem.run_bind, index_c cs v j w hj hv, Result.andThen_ok, Sem.run_pure]) h

set_option maxRecDepth 100000 in
set_option maxHeartbeats 1000000 in
theorem g_Cells (s : ByteArray) (q n : Int) (w : World) (hm : s.size ≤ maxLen) :
    Calls Tryz.prog 15 #[.string s, .int .i64 q, .int .i64 n] w fun e w' => CallAns w' e (bytesOf s) q n noL celL ∧ Below w.heap.size w w' := by
  have HP := hide (g_run s q n w hm)
  go_enter Tryz.func15, Tryz.ntmps15
  go_wp2_with fail
  refine HP.out.mono ?_
  rintro e w1 ⟨r, hg, ha, hb⟩
  have HB : Hid (∀ o, Below w.heap.size w (w1.alloc o)) := fun o => hb.alloc hb.size o
  rcases ha with ⟨hz, rfl⟩ | ⟨rfl, hR, cs, c, h1, h2, h3, rfl, K, Y, k1, hs⟩
  · obtain ⟨r1, r2⟩ := r
    have hz0 : (r1 != 0) = true := by simp only at hz; simp [hz]
    have HG := hide hg
    have HZ := hide hz
    have HE := hide (sl_empty (w1.alloc (.cells Zm 74)) (n := w1.heap.size + 1) (by simp))
    clear hg hb hz HP
    go_wp2_with (first
      | (refine wpList_alloc_m rfl rfl ?_)
      | (refine wpList_store_new rfl 74 _ _ rfl Zm Zm rfl rfl rfl size_m rfl Zm_one ?_))
    go_ret3
    exact ⟨⟨_, _, HG.out, rfl, .inl ⟨HZ.out, _, HE.out⟩⟩, (HB.out _).alloc (HB.out _).size _⟩
  · have HS := hide hs
    have HB2 : Hid (Below w1.heap.size w1 ((w1.alloc (.cells c 74)).alloc (.cells #[] 3))) := ((Below.refl _ _).alloc (Nat.le_refl _) _).alloc (by simp) _
    have HE := hide (sl_empty ((w1.alloc (.cells c 74))) (n := w1.heap.size + 1) (by simp))
    have HL := hide (hs.cells8 (W := (w1.alloc (.cells c 74)).alloc (.cells #[] 3)) (b := w1.heap.size) (by rw [((Below.refl (w1.alloc (.cells c 74)).heap.size _).alloc (Nat.le_refl _) _).block w1.heap.size (by simp)]; exact heap_alloc_new w1 _))
    have FIN : Hid (∀ w' v, celL w' cs.length (playM (codesOf cs) cs.length q.toNat n.toNat) v → CallAns w' (.returned (.tuple #[v, .int .i64 0, .int .i64 0])) (bytesOf s) q n noL celL) := fun w' v hv => ⟨(0, 0), _, hg, rfl, .inr ⟨rfl, hR, cs, h1, h2, h3, hv⟩⟩
    generalize playM (codesOf cs) cs.length q.toNat n.toNat = m at *
    have HBW := hide hb
    obtain ⟨d, hd1, hd2⟩ := under_c
    clear hb hs HP h1 h2 h3 hg hR k1
    go_wp2_with (first
      | (refine wpList_alloc_m rfl rfl ?_)
      | (refine wpList_store_new rfl 74 _ _ rfl Zm c rfl rfl rfl (by rw [size_m, HS.out.size]) HS.out.size.symm HS.out.one ?_)
      | (refine wpList_load_mid rfl 66 _ rfl w1.heap.size 1 rfl _ d HL.out hd1 hd2 size_c ?_))
    obtain ⟨i0, hi0, hz0, hz1, hz2⟩ := info_parts Tryz.info3
    have hw1 : w1.heap.size + 1 < ((w1.alloc (.cells c 74)).alloc (.cells #[] 3)).heap.size := by simp
    generalize (w1.alloc (.cells c 74)).alloc (.cells #[] 3) = wB at *
    go_loopw [31, 12] (fun s v wr => ∃ (j : Nat) (g : Option Nat), j ≤ 8 ∧ s = .int .i64 j ∧ SlAt wr v ((List.range j).map m.cells) g ∧ (∀ x, g = some x → w1.heap.size ≤ x) ∧ Below w1.heap.size w1 wr) (fun s _ _ => 8 - (intOf s).toNat)
    case atStart => exact ⟨0, _, Nat.zero_le _, rfl, HE.out, fun x hx => by cases hx; omega, HB2.out⟩
    case round =>
      obtain ⟨j, g, hj, rfl, hv, hgl, hbl⟩ := hrel
      rcases (show j = 0 ∨ j = 1 ∨ j = 2 ∨ j = 3 ∨ j = 4 ∨ j = 5 ∨ j = 6 ∨ j = 7 ∨ j = 8 by omega) with rfl | rfl | rfl | rfl | rfl | rfl | rfl | rfl | rfl
      · have HAPP : Hid ((List.range 0).map m.cells ++ [m.cells 0] = (List.range 1).map m.cells) := by rw [Hid, List.range_succ (n := 0), List.map_append]; rfl
        have HLE : Hid (((List.range 0).map m.cells).length ≤ 1000000) := by unfold Hid; simp
        have HV := hide hv
        have HGL := hide hgl
        have HBL := hide hbl
        clear hv hgl hbl HE HL hj
        go_wp2_with (first
          | (refine wpList_index_c rfl _ _ rfl _ (m.cells 0) 0 rfl rfl (by decide) rfl ?_)
          | (at_builtin; refine wpList_append_sl _ rfl _ _ 29 rfl i0 Tryz.underlying29 hi0 hz0 hz1 hz2 _ ((List.range 0).map m.cells) g rfl (HV.out.kept (fun x hx => (one_newG _ _).block x (HV.out.lt x hx))) ⟨_, 0, none⟩ 1 (m.cells 0) rfl (one_atG rfl) HLE.out ?_; intro v' w3 g' ha hgr hfr; have HN := hide ha; have HB3 : Hid (Below w1.heap.size w1 w3) := grown_low HBL.out (one_newG _ _) hgr HGL.out; have HG3 : Hid (∀ x, g' = some x → w1.heap.size ≤ x) := fresh_low HBL.out (one_newG _ _) hfr HGL.out; obtain ⟨va, vn, vc, rfl⟩ := ha.slice'; clear ha hgr hfr))
        go_roundw
        case rel => exact ⟨1, g', by decide, by go_num, by rw [← HAPP.out]; exact HN.out, HG3.out, HB3.out⟩
        case measure => simp [intOf]
      · have HAPP : Hid ((List.range 1).map m.cells ++ [m.cells 1] = (List.range 2).map m.cells) := by rw [Hid, List.range_succ (n := 1), List.map_append]; rfl
        have HLE : Hid (((List.range 1).map m.cells).length ≤ 1000000) := by unfold Hid; simp
        have HV := hide hv
        have HGL := hide hgl
        have HBL := hide hbl
        clear hv hgl hbl HE HL hj
        go_wp2_with (first
          | (refine wpList_index_c rfl _ _ rfl _ (m.cells 1) 1 rfl rfl (by decide) rfl ?_)
          | (at_builtin; refine wpList_append_sl _ rfl _ _ 29 rfl i0 Tryz.underlying29 hi0 hz0 hz1 hz2 _ ((List.range 1).map m.cells) g rfl (HV.out.kept (fun x hx => (one_newG _ _).block x (HV.out.lt x hx))) ⟨_, 0, none⟩ 1 (m.cells 1) rfl (one_atG rfl) HLE.out ?_; intro v' w3 g' ha hgr hfr; have HN := hide ha; have HB3 : Hid (Below w1.heap.size w1 w3) := grown_low HBL.out (one_newG _ _) hgr HGL.out; have HG3 : Hid (∀ x, g' = some x → w1.heap.size ≤ x) := fresh_low HBL.out (one_newG _ _) hfr HGL.out; obtain ⟨va, vn, vc, rfl⟩ := ha.slice'; clear ha hgr hfr))
        go_roundw
        case rel => exact ⟨2, g', by decide, by go_num, by rw [← HAPP.out]; exact HN.out, HG3.out, HB3.out⟩
        case measure => simp [intOf]
      · have HAPP : Hid ((List.range 2).map m.cells ++ [m.cells 2] = (List.range 3).map m.cells) := by rw [Hid, List.range_succ (n := 2), List.map_append]; rfl
        have HLE : Hid (((List.range 2).map m.cells).length ≤ 1000000) := by unfold Hid; simp
        have HV := hide hv
        have HGL := hide hgl
        have HBL := hide hbl
        clear hv hgl hbl HE HL hj
        go_wp2_with (first
          | (refine wpList_index_c rfl _ _ rfl _ (m.cells 2) 2 rfl rfl (by decide) rfl ?_)
          | (at_builtin; refine wpList_append_sl _ rfl _ _ 29 rfl i0 Tryz.underlying29 hi0 hz0 hz1 hz2 _ ((List.range 2).map m.cells) g rfl (HV.out.kept (fun x hx => (one_newG _ _).block x (HV.out.lt x hx))) ⟨_, 0, none⟩ 1 (m.cells 2) rfl (one_atG rfl) HLE.out ?_; intro v' w3 g' ha hgr hfr; have HN := hide ha; have HB3 : Hid (Below w1.heap.size w1 w3) := grown_low HBL.out (one_newG _ _) hgr HGL.out; have HG3 : Hid (∀ x, g' = some x → w1.heap.size ≤ x) := fresh_low HBL.out (one_newG _ _) hfr HGL.out; obtain ⟨va, vn, vc, rfl⟩ := ha.slice'; clear ha hgr hfr))
        go_roundw
        case rel => exact ⟨3, g', by decide, by go_num, by rw [← HAPP.out]; exact HN.out, HG3.out, HB3.out⟩
        case measure => simp [intOf]
      · have HAPP : Hid ((List.range 3).map m.cells ++ [m.cells 3] = (List.range 4).map m.cells) := by rw [Hid, List.range_succ (n := 3), List.map_append]; rfl
        have HLE : Hid (((List.range 3).map m.cells).length ≤ 1000000) := by unfold Hid; simp
        have HV := hide hv
        have HGL := hide hgl
        have HBL := hide hbl
        clear hv hgl hbl HE HL hj
        go_wp2_with (first
          | (refine wpList_index_c rfl _ _ rfl _ (m.cells 3) 3 rfl rfl (by decide) rfl ?_)
          | (at_builtin; refine wpList_append_sl _ rfl _ _ 29 rfl i0 Tryz.underlying29 hi0 hz0 hz1 hz2 _ ((List.range 3).map m.cells) g rfl (HV.out.kept (fun x hx => (one_newG _ _).block x (HV.out.lt x hx))) ⟨_, 0, none⟩ 1 (m.cells 3) rfl (one_atG rfl) HLE.out ?_; intro v' w3 g' ha hgr hfr; have HN := hide ha; have HB3 : Hid (Below w1.heap.size w1 w3) := grown_low HBL.out (one_newG _ _) hgr HGL.out; have HG3 : Hid (∀ x, g' = some x → w1.heap.size ≤ x) := fresh_low HBL.out (one_newG _ _) hfr HGL.out; obtain ⟨va, vn, vc, rfl⟩ := ha.slice'; clear ha hgr hfr))
        go_roundw
        case rel => exact ⟨4, g', by decide, by go_num, by rw [← HAPP.out]; exact HN.out, HG3.out, HB3.out⟩
        case measure => simp [intOf]
      · have HAPP : Hid ((List.range 4).map m.cells ++ [m.cells 4] = (List.range 5).map m.cells) := by rw [Hid, List.range_succ (n := 4), List.map_append]; rfl
        have HLE : Hid (((List.range 4).map m.cells).length ≤ 1000000) := by unfold Hid; simp
        have HV := hide hv
        have HGL := hide hgl
        have HBL := hide hbl
        clear hv hgl hbl HE HL hj
        go_wp2_with (first
          | (refine wpList_index_c rfl _ _ rfl _ (m.cells 4) 4 rfl rfl (by decide) rfl ?_)
          | (at_builtin; refine wpList_append_sl _ rfl _ _ 29 rfl i0 Tryz.underlying29 hi0 hz0 hz1 hz2 _ ((List.range 4).map m.cells) g rfl (HV.out.kept (fun x hx => (one_newG _ _).block x (HV.out.lt x hx))) ⟨_, 0, none⟩ 1 (m.cells 4) rfl (one_atG rfl) HLE.out ?_; intro v' w3 g' ha hgr hfr; have HN := hide ha; have HB3 : Hid (Below w1.heap.size w1 w3) := grown_low HBL.out (one_newG _ _) hgr HGL.out; have HG3 : Hid (∀ x, g' = some x → w1.heap.size ≤ x) := fresh_low HBL.out (one_newG _ _) hfr HGL.out; obtain ⟨va, vn, vc, rfl⟩ := ha.slice'; clear ha hgr hfr))
        go_roundw
        case rel => exact ⟨5, g', by decide, by go_num, by rw [← HAPP.out]; exact HN.out, HG3.out, HB3.out⟩
        case measure => simp [intOf]
      · have HAPP : Hid ((List.range 5).map m.cells ++ [m.cells 5] = (List.range 6).map m.cells) := by rw [Hid, List.range_succ (n := 5), List.map_append]; rfl
        have HLE : Hid (((List.range 5).map m.cells).length ≤ 1000000) := by unfold Hid; simp
        have HV := hide hv
        have HGL := hide hgl
        have HBL := hide hbl
        clear hv hgl hbl HE HL hj
        go_wp2_with (first
          | (refine wpList_index_c rfl _ _ rfl _ (m.cells 5) 5 rfl rfl (by decide) rfl ?_)
          | (at_builtin; refine wpList_append_sl _ rfl _ _ 29 rfl i0 Tryz.underlying29 hi0 hz0 hz1 hz2 _ ((List.range 5).map m.cells) g rfl (HV.out.kept (fun x hx => (one_newG _ _).block x (HV.out.lt x hx))) ⟨_, 0, none⟩ 1 (m.cells 5) rfl (one_atG rfl) HLE.out ?_; intro v' w3 g' ha hgr hfr; have HN := hide ha; have HB3 : Hid (Below w1.heap.size w1 w3) := grown_low HBL.out (one_newG _ _) hgr HGL.out; have HG3 : Hid (∀ x, g' = some x → w1.heap.size ≤ x) := fresh_low HBL.out (one_newG _ _) hfr HGL.out; obtain ⟨va, vn, vc, rfl⟩ := ha.slice'; clear ha hgr hfr))
        go_roundw
        case rel => exact ⟨6, g', by decide, by go_num, by rw [← HAPP.out]; exact HN.out, HG3.out, HB3.out⟩
        case measure => simp [intOf]
      · have HAPP : Hid ((List.range 6).map m.cells ++ [m.cells 6] = (List.range 7).map m.cells) := by rw [Hid, List.range_succ (n := 6), List.map_append]; rfl
        have HLE : Hid (((List.range 6).map m.cells).length ≤ 1000000) := by unfold Hid; simp
        have HV := hide hv
        have HGL := hide hgl
        have HBL := hide hbl
        clear hv hgl hbl HE HL hj
        go_wp2_with (first
          | (refine wpList_index_c rfl _ _ rfl _ (m.cells 6) 6 rfl rfl (by decide) rfl ?_)
          | (at_builtin; refine wpList_append_sl _ rfl _ _ 29 rfl i0 Tryz.underlying29 hi0 hz0 hz1 hz2 _ ((List.range 6).map m.cells) g rfl (HV.out.kept (fun x hx => (one_newG _ _).block x (HV.out.lt x hx))) ⟨_, 0, none⟩ 1 (m.cells 6) rfl (one_atG rfl) HLE.out ?_; intro v' w3 g' ha hgr hfr; have HN := hide ha; have HB3 : Hid (Below w1.heap.size w1 w3) := grown_low HBL.out (one_newG _ _) hgr HGL.out; have HG3 : Hid (∀ x, g' = some x → w1.heap.size ≤ x) := fresh_low HBL.out (one_newG _ _) hfr HGL.out; obtain ⟨va, vn, vc, rfl⟩ := ha.slice'; clear ha hgr hfr))
        go_roundw
        case rel => exact ⟨7, g', by decide, by go_num, by rw [← HAPP.out]; exact HN.out, HG3.out, HB3.out⟩
        case measure => simp [intOf]
      · have HAPP : Hid ((List.range 7).map m.cells ++ [m.cells 7] = (List.range 8).map m.cells) := by rw [Hid, List.range_succ (n := 7), List.map_append]; rfl
        have HLE : Hid (((List.range 7).map m.cells).length ≤ 1000000) := by unfold Hid; simp
        have HV := hide hv
        have HGL := hide hgl
        have HBL := hide hbl
        clear hv hgl hbl HE HL hj
        go_wp2_with (first
          | (refine wpList_index_c rfl _ _ rfl _ (m.cells 7) 7 rfl rfl (by decide) rfl ?_)
          | (at_builtin; refine wpList_append_sl _ rfl _ _ 29 rfl i0 Tryz.underlying29 hi0 hz0 hz1 hz2 _ ((List.range 7).map m.cells) g rfl (HV.out.kept (fun x hx => (one_newG _ _).block x (HV.out.lt x hx))) ⟨_, 0, none⟩ 1 (m.cells 7) rfl (one_atG rfl) HLE.out ?_; intro v' w3 g' ha hgr hfr; have HN := hide ha; have HB3 : Hid (Below w1.heap.size w1 w3) := grown_low HBL.out (one_newG _ _) hgr HGL.out; have HG3 : Hid (∀ x, g' = some x → w1.heap.size ≤ x) := fresh_low HBL.out (one_newG _ _) hfr HGL.out; obtain ⟨va, vn, vc, rfl⟩ := ha.slice'; clear ha hgr hfr))
        go_roundw
        case rel => exact ⟨8, g', by decide, by go_num, by rw [← HAPP.out]; exact HN.out, HG3.out, HB3.out⟩
        case measure => simp [intOf]
      · have HBL : Hid (Below w.heap.size w wr) := HBW.out.trans (hbl.mono HBW.out.size)
        have F := hide (FIN.out wr _ ⟨g, hv⟩)
        obtain ⟨va, vn, vc, rfl⟩ := hv.slice'
        clear hv hgl hbl
        go_wp2_with fail
        go_ret3
        exact ⟨F.out, HBL.out⟩

end Go.Proofs.YtjbmflgamogefabGreat
