/- The code's calls: Out, Trace. -/
import Derived.Test.YtijcoafpbgnomaaGr2
import Derived.Test.YtijcoafpbgnomaaMm
import Derived.Laws.BytesArg
namespace Go.Proofs.Ytijcoafpbgnomaa
open Go.RowKit

theorem under_u8e : Try.prog.underlying 5 = some (.int .u8) := by kernel_rfl
theorem under_str : Try.prog.underlying 9 = some .string := by kernel_rfl
theorem conv_sb {w : World} {v : Value} {xs : List Int} {g : Option Nat} (h : SbAt w v xs g) : (convert 63 9 v).run Try.prog w = .ok (.string (strOf xs)) w := by
  rcases h with ⟨rfl, rfl, _⟩ | ⟨b, off, cap, cur, rfl, _, h3, _, _, h6⟩
  · exact run_convert_bytes_nil (P := Try.prog) w 63 5 under_u8 under_u8e 0 0 9 under_str
  · refine run_convert_bytes_arg (P := Try.prog) w 63 5 under_u8 under_u8e b off xs.length cap xs rfl (fun i hi => ?_) 9 under_str
    rw [cell_of_row _ _ _ _ _ _ h3]
    refine (h6 i xs[i] (by simp [hi])).trans ?_
    simp [hi]
/-- What a call answers. -/
def CallAns (w' : World) (e : Ending) (T : List Int) (q n : Int) (Z : World → Value → Prop) (F : World → Nat → Mac → Value → Prop) : Prop :=
  ∃ r v, GivenRel T q n r ∧ e = .returned (.tuple #[v, .int .i64 r.1, .int .i64 r.2]) ∧ ((¬ r.1 = 0 ∧ Z w' v) ∨ (r = (0, 0) ∧ inR q n ∧ ∃ cs, parse T = .inr cs ∧ badCods cs = none ∧ ChkCods cs (0, 0) ∧ F w' cs.length (playM (codesOf cs) cs.length q.toNat n.toNat) v))
def noS (_ : World) (v : Value) : Prop := v = .string ByteArray.empty
def outS (_ : World) (_ : Nat) (m : Mac) (v : Value) : Prop := v = .string (strOf m.out)
def trcS (_ : World) (_ : Nat) (m : Mac) (v : Value) : Prop := v = .string (strOf m.trc)
theorem GSee.bytes {K : GK} {w : World} {Y : GY} {m : Mac} {c : Array Value} (h : GSee K w Y m c) {i : Nat} (hi : 9 ≤ i ∧ i < 11) : SbAt w (Y.val i) (gcont m i) (Y.blk i) := by
  have := h.sl i hi.2
  unfold gE gI at this
  rw [if_neg (by omega), if_neg (by omega)] at this
  exact this
theorem strOf_nil : strOf [] = ByteArray.empty := rfl

set_option maxRecDepth 100000 in
set_option maxHeartbeats 1000000 in
theorem g_Out (s : ByteArray) (q n : Int) (w : World) (hm : s.size ≤ maxLen) :
    Calls Try.prog 31 #[.string s, .int .i64 q, .int .i64 n] w fun e w' => CallAns w' e (bytesOf s) q n noS outS ∧ Below w.heap.size w w' := by
  have HP := hide (g_run s q n w hm)
  go_enter Try.func31, Try.ntmps31
  go_wp2_with fail
  refine HP.out.mono ?_
  rintro e w1 ⟨r, hg, ha, hb⟩
  have HB : Hid (∀ o, Below w.heap.size w (w1.alloc o)) := fun o => hb.alloc hb.size o
  rcases ha with ⟨hz, rfl⟩ | ⟨rfl, hR, cs, c, h1, h2, h3, rfl, K, Y, k1, hs⟩
  · have z22 : (w1.alloc (.cells Zm 86)).cell? ⟨w1.heap.size, 22, none⟩ = some (.slice none 0 0) := by rw [cell_of_row _ _ 22 _ _ _ (heap_alloc_new w1 _)]; rfl
    have hcv := conv_sb (SbAt.nil (w1.alloc (.cells Zm 86)))
    rw [strOf_nil] at hcv
    have HG := hide hg
    have HZ := hide hz
    obtain ⟨r1, r2⟩ := r
    clear hg hb hz HP
    go_wp2_with (first
      | (refine wpList_alloc_m rfl rfl ?_)
      | (refine wpList_store_new rfl 86 _ _ rfl Zm Zm rfl rfl rfl size_m rfl Zm_one ?_))
    go_ret3
    exact ⟨⟨_, _, HG.out, rfl, .inl ⟨HZ.out, rfl⟩⟩, HB.out _⟩
  · have z22 : (w1.alloc (.cells c 86)).cell? ⟨w1.heap.size, 22, none⟩ = some (Y.val 9) := by rw [cell_of_row _ _ 22 _ _ _ (heap_alloc_new w1 _)]; exact hs.head.2.2.2 9 (by decide)
    have hcv := conv_sb ((hs.kept (w' := w1.alloc (.cells c 86)) (fun j hj _ => ((Below.refl w1.heap.size w1).alloc (Nat.le_refl _) _).block j hj)).bytes (i := 9) (by decide))
    have HS := hide hs
    have FIN : Hid (∀ w', CallAns w' (.returned (.tuple #[.string (strOf (playM (codesOf cs) cs.length q.toNat n.toNat).out), .int .i64 0, .int .i64 0])) (bytesOf s) q n noS outS) := fun w' => ⟨(0, 0), _, hg, rfl, .inr ⟨rfl, hR, cs, h1, h2, h3, rfl⟩⟩
    rw [show gcont (playM (codesOf cs) cs.length q.toNat n.toNat) 9 = (playM (codesOf cs) cs.length q.toNat n.toNat).out from rfl] at hcv
    generalize playM (codesOf cs) cs.length q.toNat n.toNat = m at *
    clear hg hb hs HP hR h1 h2 h3
    go_wp2_with (first
      | (refine wpList_alloc_m rfl rfl ?_)
      | (refine wpList_store_new rfl 86 _ _ rfl Zm c rfl rfl rfl (by rw [size_m, HS.out.size]) HS.out.size.symm HS.out.one ?_))
    go_ret3
    exact ⟨FIN.out _, HB.out _⟩

set_option maxRecDepth 100000 in
set_option maxHeartbeats 1000000 in
theorem g_Trace (s : ByteArray) (q n : Int) (w : World) (hm : s.size ≤ maxLen) :
    Calls Try.prog 32 #[.string s, .int .i64 q, .int .i64 n] w fun e w' => CallAns w' e (bytesOf s) q n noS trcS ∧ Below w.heap.size w w' := by
  have HP := hide (g_run s q n w hm)
  go_enter Try.func32, Try.ntmps32
  go_wp2_with fail
  refine HP.out.mono ?_
  rintro e w1 ⟨r, hg, ha, hb⟩
  have HB : Hid (∀ o, Below w.heap.size w (w1.alloc o)) := fun o => hb.alloc hb.size o
  rcases ha with ⟨hz, rfl⟩ | ⟨rfl, hR, cs, c, h1, h2, h3, rfl, K, Y, k1, hs⟩
  · have z22 : (w1.alloc (.cells Zm 86)).cell? ⟨w1.heap.size, 23, none⟩ = some (.slice none 0 0) := by rw [cell_of_row _ _ 23 _ _ _ (heap_alloc_new w1 _)]; rfl
    have hcv := conv_sb (SbAt.nil (w1.alloc (.cells Zm 86)))
    rw [strOf_nil] at hcv
    have HG := hide hg
    have HZ := hide hz
    obtain ⟨r1, r2⟩ := r
    clear hg hb hz HP
    go_wp2_with (first
      | (refine wpList_alloc_m rfl rfl ?_)
      | (refine wpList_store_new rfl 86 _ _ rfl Zm Zm rfl rfl rfl size_m rfl Zm_one ?_))
    go_ret3
    exact ⟨⟨_, _, HG.out, rfl, .inl ⟨HZ.out, rfl⟩⟩, HB.out _⟩
  · have z22 : (w1.alloc (.cells c 86)).cell? ⟨w1.heap.size, 23, none⟩ = some (Y.val 10) := by rw [cell_of_row _ _ 23 _ _ _ (heap_alloc_new w1 _)]; exact hs.head.2.2.2 10 (by decide)
    have hcv := conv_sb ((hs.kept (w' := w1.alloc (.cells c 86)) (fun j hj _ => ((Below.refl w1.heap.size w1).alloc (Nat.le_refl _) _).block j hj)).bytes (i := 10) (by decide))
    have HS := hide hs
    have FIN : Hid (∀ w', CallAns w' (.returned (.tuple #[.string (strOf (playM (codesOf cs) cs.length q.toNat n.toNat).trc), .int .i64 0, .int .i64 0])) (bytesOf s) q n noS trcS) := fun w' => ⟨(0, 0), _, hg, rfl, .inr ⟨rfl, hR, cs, h1, h2, h3, rfl⟩⟩
    rw [show gcont (playM (codesOf cs) cs.length q.toNat n.toNat) 10 = (playM (codesOf cs) cs.length q.toNat n.toNat).trc from rfl] at hcv
    generalize playM (codesOf cs) cs.length q.toNat n.toNat = m at *
    clear hg hb hs HP hR h1 h2 h3
    go_wp2_with (first
      | (refine wpList_alloc_m rfl rfl ?_)
      | (refine wpList_store_new rfl 86 _ _ rfl Zm c rfl rfl rfl (by rw [size_m, HS.out.size]) HS.out.size.symm HS.out.one ?_))
    go_ret3
    exact ⟨FIN.out _, HB.out _⟩

def logS (_ : World) (_ : Nat) (_ : Mac) (v : Value) : Prop := v = .string ByteArray.empty
set_option maxHeartbeats 1000000 in
theorem g_Log (s : ByteArray) (q n : Int) (w : World) (hm : s.size ≤ maxLen) :
    Calls Try.prog 35 #[.string s, .int .i64 q, .int .i64 n] w fun e w' => CallAns w' e (bytesOf s) q n noS logS ∧ Below w.heap.size w w' := by
  have HP := hide (g_prepare s q n w hm)
  go_enter Try.func35, Try.ntmps35
  go_wp2_with fail
  refine HP.out.mono ?_
  rintro e w1 ⟨⟨r1, r2⟩, v, rfl, hg, hb, ha⟩
  have FIN : Hid (CallAns w1 (.returned (.tuple #[.string ByteArray.empty, .int .i64 r1, .int .i64 r2])) (bytesOf s) q n noS logS) := by
    refine ⟨(r1, r2), _, hg, rfl, ?_⟩
    by_cases h0 : r1 = 0
    · obtain ⟨cs, a1, a2, a3, _, a5, a6⟩ := ha h0
      exact .inr ⟨a5, a6, cs, a1, a2, a3, rfl⟩
    · exact .inl ⟨h0, rfl⟩
  have HB := hide hb
  clear hg hb ha HP
  go_wp2_with fail
  go_ret3
  exact ⟨FIN.out, HB.out⟩

end Go.Proofs.Ytijcoafpbgnomaa
