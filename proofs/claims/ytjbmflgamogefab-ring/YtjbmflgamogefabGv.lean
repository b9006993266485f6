/- greenlaw's view. -/
import Derived.Test.YtjbmflgamogefabGc
import Derived.Test.YtjbmflgamogefabRRead
namespace Go.Proofs.Ytjbmflgamogefab
open Go.RowKit

set_option maxHeartbeats 400000 in
theorem l_num0 (e : Int) (w : World) : Calls Try.prog 10 #[.int .i64 e] w fun x w' => x = .returned (.int .i64 e) ∧ w' = w := by
  go_enter Try.func10, Try.ntmps10
  go_wp2
  go_ret
  exact ⟨rfl, rfl⟩
theorem call_no {f : FuncId} {args : Array Value} {w : World} {T : List Int} {q n : Int} {Z : World → Value → Prop} {F : World → Nat → Mac → Value → Prop} {r : Int × Int} (h : Calls Try.prog f args w fun e w' => CallAns w' e T q n Z F ∧ Below w.heap.size w w') (hr : GivenRel T q n r) (hz : ¬ r.1 = 0) :
    Calls Try.prog f args w fun e w' => ∃ v, Z w' v ∧ e = .returned (.tuple #[v, .int .i64 r.1, .int .i64 r.2]) ∧ Below w.heap.size w w' := by
  refine h.mono ?_
  rintro e w' ⟨⟨r', v, h1, h2, h3⟩, hb⟩
  obtain rfl := hr.unique h1
  rcases h3 with ⟨_, h4⟩ | ⟨h4, _⟩
  · exact ⟨v, h4, h2, hb⟩
  · rw [h4] at hz; exact absurd rfl hz
theorem call_ok {f : FuncId} {args : Array Value} {w : World} {T : List Int} {q n : Int} {Z : World → Value → Prop} {F : World → Nat → Mac → Value → Prop} {cs : Cods} (h : Calls Try.prog f args w fun e w' => CallAns w' e T q n Z F ∧ Below w.heap.size w w') (hr : GivenRel T q n (0, 0)) (hp : parse T = .inr cs) :
    Calls Try.prog f args w fun e w' => ∃ v, F w' cs.length (playM (codesOf cs) cs.length q.toNat n.toNat) v ∧ e = .returned (.tuple #[v, .int .i64 0, .int .i64 0]) ∧ Below w.heap.size w w' := by
  refine h.mono ?_
  rintro e w' ⟨⟨r', v, h1, h2, h3⟩, hb⟩
  obtain rfl := hr.unique h1
  rcases h3 with ⟨h4, _⟩ | ⟨_, _, cs', h5, _, _, h6⟩
  · exact absurd rfl h4
  · rw [hp] at h5; cases h5
    exact ⟨v, h6, h2, hb⟩
def stsL (n : Nat) (m : Mac) : List Int := (List.range n).map (fun k => (m.th k).sta)
def ownL (m : Mac) : List Int := (List.range 4).map (fun l => nameI (m.own l))
def celsL (m : Mac) : List Int := (List.range 8).map m.cells
theorem size_v : (Try.prog.info? 30).map (·.size) = some 7 := by kernel_rfl
theorem under_v : ∃ d, Try.prog.underlying 30 = some d ∧ d.isRow = true := by
  have h : (Try.prog.underlying 30).map (·.isRow) = some true := by kernel_rfl
  obtain ⟨d, h1, h2⟩ := Option.map_eq_some_iff.1 h
  exact ⟨d, h1, h2⟩
/-- The end of view: the answer's cells are stored and loaded again. -/
theorem view_end {w w6 : World} {R c : Array Value} {la : Option Addr} {ln lc : Nat} {xs : List Int} (hb : Below (w.alloc (.cells R 30)).heap.size (w.alloc (.cells R 30)) w6) (hR : R.size = 7) (hc : c.size = 7) (hs : ∃ g, SlAt w6 (.slice la ln lc) xs g) :
    w6.there w.heap.size 0 c.size ∧ (loadVar 30 ⟨w.heap.size, 0, none⟩).run Try.prog (w6.setCells w.heap.size 0 c.toList) = .ok (.agg c) (w6.setCells w.heap.size 0 c.toList) ∧ (∃ g, SlAt (w6.setCells w.heap.size 0 c.toList) (.slice la ln lc) xs g) ∧ Below w.heap.size w (w6.setCells w.heap.size 0 c.toList) := by
  have h6 : w6.heap[w.heap.size]? = some (.cells R 30 (0, 0)) := (hb.block _ (by simp)).trans (heap_alloc_new w _)
  have ht := there_of (n := c.size) h6 (by omega)
  obtain ⟨d, h1, h2⟩ := under_v
  have hl := run_loadVar_mid (P := Try.prog) _ w.heap.size 0 30 c.toList d (World.rangeAt_setCells_same w6 w.heap.size 0 c.toList (by rw [Array.length_toList]; exact ht)) h1 h2 (by rw [size_v, Array.length_toList, hc])
  rw [Array.toArray_toList] at hl
  obtain ⟨g, hs⟩ := hs
  refine ⟨ht, hl, ⟨g, hs.kept (fun x hx => World.heap_setCells_other w6 _ 0 _ (hs.lt x hx) (fun e => ?_))⟩, ?_⟩
  · subst e; exact slat_ne hs h6 (by decide) hx.symm
  · have b2 : Below w.heap.size w w6 := ((Below.refl _ _).alloc (Nat.le_refl _) _).trans (hb.mono (by simp))
    exact ⟨(World.os_setCells ..).trans b2.os, (setCells_size _ _ _ _).2.trans b2.tape, (World.output_setCells ..).trans b2.output, by rw [(setCells_size _ _ _ _).1]; exact b2.size, fun i hi => (World.heap_setCells_other w6 _ 0 _ (by have := b2.size; omega) (by omega)).trans (b2.block i hi)⟩
theorem one7 (a b c d e : ByteArray) (la : Option Addr) (ln lc : Nat) (x : Bool) : (#[.string a, .string b, .string c, .string d, .string e, .slice la ln lc, .bool x] : Array Value).all (·.oneCell') = true := by
  rw [← Array.all_toList]; rfl
/-- What view answers. -/
def ViewAns (w' : World) (e : Ending) (T : List Int) (q n : Int) : Prop :=
  ∃ r lv, GivenRel T q n r ∧
    ((¬ r.1 = 0 ∧ e = .returned (.agg #[.string ByteArray.empty, .string ByteArray.empty, .string ByteArray.empty, .string ByteArray.empty, .string ByteArray.empty, lv, .bool false]) ∧ ∃ g, SlAt w' lv [] g) ∨
     (r = (0, 0) ∧ inR q n ∧ ∃ cs, parse T = .inr cs ∧ badCods cs = none ∧ ChkCods cs (0, 0) ∧
        e = .returned (.agg #[.string (strOf (playM (codesOf cs) cs.length q.toNat n.toNat).out), .string (strOf (playM (codesOf cs) cs.length q.toNat n.toNat).trc), .string (strOf (stsL cs.length (playM (codesOf cs) cs.length q.toNat n.toNat))), .string (strOf (ownL (playM (codesOf cs) cs.length q.toNat n.toNat))), .string (strOf (playM (codesOf cs) cs.length q.toNat n.toNat).log), lv, .bool true]) ∧ ∃ g, SlAt w' lv (celsL (playM (codesOf cs) cs.length q.toNat n.toNat)) g))

set_option maxRecDepth 100000 in
set_option maxHeartbeats 2000000 in
theorem l_view (s : ByteArray) (q n : Int) (w : World) (hm : s.size ≤ maxLen) :
    Calls Try.prog 11 #[.string s, .int .i64 q, .int .i64 n] w fun e w' => ViewAns w' e (bytesOf s) q n ∧ Below w.heap.size w w' := by
  have H1 := hide (fun W => g_Out s q n W hm)
  have H2 := hide (fun W => g_Trace s q n W hm)
  have H3 := hide (fun W => g_States s q n W hm)
  have H4 := hide (fun W => g_Owners s q n W hm)
  have H5 := hide (fun W => g_Log s q n W hm)
  have H6 := hide (fun W => g_Cells s q n W hm)
  go_enter Try.func11, Try.ntmps11
  go_wp2_with fail
  refine (H1.out _).mono ?_
  rintro e w1 ⟨⟨⟨r1, r2⟩, v1, hg, rfl, hc⟩, hb1⟩
  have HB1 := hide hb1
  have HG := hide hg
  by_cases hz : r1 = 0
  · rcases hc with ⟨hc, _⟩ | ⟨hc, hR, cs, h1, h2, h3, hv1⟩
    · exact absurd hz hc
    have hr2 : r2 = 0 := by simpa [hz] using hc
    subst hz
    subst hr2
    obtain rfl := hv1
    have HPA := hide h1
    have FIN : Hid (∀ w' lv, (∃ g, SlAt w' lv (celsL (playM (codesOf cs) cs.length q.toNat n.toNat)) g) → ViewAns w' (.returned (.agg #[.string (strOf (playM (codesOf cs) cs.length q.toNat n.toNat).out), .string (strOf (playM (codesOf cs) cs.length q.toNat n.toNat).trc), .string (strOf (stsL cs.length (playM (codesOf cs) cs.length q.toNat n.toNat))), .string (strOf (ownL (playM (codesOf cs) cs.length q.toNat n.toNat))), .string (strOf (playM (codesOf cs) cs.length q.toNat n.toNat).log), lv, .bool true])) (bytesOf s) q n) := fun w' lv h => ⟨_, lv, HG.out, .inr ⟨rfl, hR, cs, h1, h2, h3, rfl, h⟩⟩
    clear hg hb1 hc hR h1 h2 h3 H1
    go_wp2_with fail
    refine (call_ok (H2.out _) HG.out HPA.out).mono ?_
    rintro e w2 ⟨v2, hv2, rfl, hb2⟩
    have HB2 := hide (HB1.out.trans (hb2.mono HB1.out.size))
    obtain rfl := hv2
    clear hb2 H2
    go_wp2_with fail
    refine (call_ok (H3.out _) HG.out HPA.out).mono ?_
    rintro e w3 ⟨v3, hv3, rfl, hb3⟩
    have HB3 := hide (HB2.out.trans (hb3.mono HB2.out.size))
    have hv3 : v3 = .string (strOf (stsL cs.length (playM (codesOf cs) cs.length q.toNat n.toNat))) := hv3
    subst hv3
    clear hb3 H3
    go_wp2_with fail
    refine (call_ok (H4.out _) HG.out HPA.out).mono ?_
    rintro e w4 ⟨v4, hv4, rfl, hb4⟩
    have HB4 := hide (HB3.out.trans (hb4.mono HB3.out.size))
    have hv4 : v4 = .string (strOf (ownL (playM (codesOf cs) cs.length q.toNat n.toNat))) := hv4
    subst hv4
    clear hb4 H4
    go_wp2_with fail
    refine (call_ok (H5.out _) HG.out HPA.out).mono ?_
    rintro e w5 ⟨v5, hv5, rfl, hb5⟩
    have HB5 := hide (HB4.out.trans (hb5.mono HB4.out.size))
    obtain rfl := hv5
    clear hb5 H5
    go_wp2_with fail
    refine (call_ok (H6.out _) HG.out HPA.out).mono ?_
    rintro e w6 ⟨v6, hv6, rfl, hb6⟩
    have HB6 := hide (HB5.out.trans (hb6.mono HB5.out.size))
    have HV6 := hide hv6
    obtain ⟨g6, hs6⟩ := hv6
    obtain ⟨la, ln, lc, rfl⟩ := hs6.slice'
    clear hb6 H6 hs6
    generalize (playM (codesOf cs) cs.length q.toNat n.toNat) = m at *
    generalize strOf m.out = x1 at *
    generalize strOf m.trc = x2 at *
    generalize strOf (stsL cs.length m) = x3 at *
    generalize strOf (ownL m) = x4 at *
    generalize strOf m.log = x5 at *
    have HE := hide (view_end (c := #[.string x1, .string x2, .string x3, .string x4, .string x5, .slice la ln lc, .bool true]) HB6.out rfl rfl HV6.out)
    have F := hide (FIN.out _ _ HE.out.2.2.1)
    clear FIN HV6
    go_wp2_with (first
      | (go_at_call 10; refine (l_num0 _ _).mono ?_; rintro e w' ⟨rfl, rfl⟩)
      | (refine wpList_store_mid rfl 30 (.tmp 6) _ rfl w.heap.size 0 _ rfl rfl HE.out.1 size_v (one7 _ _ _ _ _ _ _ _ _) ?_))
    refine bodyPost_ret (ret_cell Try.results11 rfl HE.out.2.1) rfl ?_
    exact ⟨F.out, HE.out.2.2.2⟩
  · rcases hc with ⟨_, hv1⟩ | ⟨hc, _⟩
    rotate_left
    · simp at hc; exact absurd hc.1 hz
    obtain rfl := hv1
    have HZ : Hid (¬ ((r1, r2) : Int × Int).1 = 0) := hz
    have hz0 : (r1 == 0) = false := by simp [hz]
    clear hg hb1 H1 hz
    go_wp2_with fail
    refine (call_no (H2.out _) HG.out HZ.out).mono ?_
    rintro e w2 ⟨v2, hv2, rfl, hb2⟩
    have HB2 := hide (HB1.out.trans (hb2.mono HB1.out.size))
    obtain rfl := hv2
    clear hb2 H2
    go_wp2_with fail
    refine (call_no (H3.out _) HG.out HZ.out).mono ?_
    rintro e w3 ⟨v3, hv3, rfl, hb3⟩
    have HB3 := hide (HB2.out.trans (hb3.mono HB2.out.size))
    obtain rfl := hv3
    clear hb3 H3
    go_wp2_with fail
    refine (call_no (H4.out _) HG.out HZ.out).mono ?_
    rintro e w4 ⟨v4, hv4, rfl, hb4⟩
    have HB4 := hide (HB3.out.trans (hb4.mono HB3.out.size))
    obtain rfl := hv4
    clear hb4 H4
    go_wp2_with fail
    refine (call_no (H5.out _) HG.out HZ.out).mono ?_
    rintro e w5 ⟨v5, hv5, rfl, hb5⟩
    have HB5 := hide (HB4.out.trans (hb5.mono HB4.out.size))
    obtain rfl := hv5
    clear hb5 H5
    go_wp2_with fail
    refine (call_no (H6.out _) HG.out HZ.out).mono ?_
    rintro e w6 ⟨v6, hv6, rfl, hb6⟩
    have HB6 := hide (HB5.out.trans (hb6.mono HB5.out.size))
    have HV6 := hide hv6
    obtain ⟨g6, hs6⟩ := hv6
    obtain ⟨la, ln, lc, rfl⟩ := hs6.slice'
    clear hb6 H6 hs6
    have HE := hide (view_end (c := #[.string ByteArray.empty, .string ByteArray.empty, .string ByteArray.empty, .string ByteArray.empty, .string ByteArray.empty, .slice la ln lc, .bool false]) HB6.out rfl rfl HV6.out)
    have F : Hid (ViewAns (w6.setCells w.heap.size 0 _) _ (bytesOf s) q n) := ⟨_, _, HG.out, .inl ⟨HZ.out, rfl, HE.out.2.2.1⟩⟩
    clear HV6
    go_wp2_with (first
      | (go_at_call 10; refine (l_num0 _ _).mono ?_; rintro e w' ⟨rfl, rfl⟩)
      | (refine wpList_store_mid rfl 30 (.tmp 6) _ rfl w.heap.size 0 _ rfl rfl HE.out.1 size_v (one7 _ _ _ _ _ _ _ _ _) ?_))
    refine bodyPost_ret (ret_cell Try.results11 rfl HE.out.2.1) rfl ?_
    exact ⟨F.out, HE.out.2.2.2⟩

def MayRel (T : List Int) (q n : Int) (b : Bool) : Prop := ∃ r, GivenRel T q n r ∧ (b = true ↔ r = (0, 0))
def MayAns (e : Ending) (T : List Int) (q n : Int) : Prop := ∃ b, e = .returned (.bool b) ∧ MayRel T q n b
set_option maxHeartbeats 1000000 in
theorem l_may (s : ByteArray) (q n : Int) (w : World) (hm : s.size ≤ maxLen) :
    Calls Try.prog 8 #[.string s, .int .i64 q, .int .i64 n] w fun e w' => MayAns e (bytesOf s) q n ∧ Below w.heap.size w w' := by
  have HC := hide (g_Check s w hm)
  go_enter Try.func8, Try.ntmps8
  go_wp2_with fail
  refine HC.out.mono ?_
  rintro e w1 ⟨⟨r1, r2⟩, hr, rfl, hb⟩
  have HB := hide hb
  have HN : Hid (¬ r1 = 0 → MayRel (bytesOf s) q n false) := fun h => ⟨_, ⟨_, hr, .inl ⟨h, rfl⟩⟩, by
    constructor
    · intro e; cases e
    · intro e; simp at e; exact absurd e.1 h⟩
  have HX : Hid (r1 = 0 → ¬ inR q n → MayRel (bytesOf s) q n false) := fun h hi => ⟨_, ⟨_, hr, .inr (.inl ⟨h, hi, rfl⟩)⟩, by
    constructor
    · intro e; cases e
    · intro e; simp at e⟩
  have HY : Hid (r1 = 0 → inR q n → MayRel (bytesOf s) q n true) := fun h hi => ⟨_, ⟨_, hr, .inr (.inr ⟨h, hi, rfl⟩)⟩, by simp⟩
  clear hr hb HC
  by_cases hz : r1 = 0
  · have hz0 : (r1 == 0) = true := by simp [hz]
    by_cases h1 : 1 ≤ q
    · by_cases h2 : q ≤ 9
      · by_cases h3 : 0 ≤ n
        · by_cases h4 : n ≤ 60
          · have X := hide (HY.out hz ⟨h1, h2, h3, h4⟩)
            clear HN HX HY hz
            go_wp2_with (go_at_call 10; refine (l_num0 _ _).mono ?_; rintro e w' ⟨rfl, rfl⟩)
            go_ret
            exact ⟨⟨_, rfl, by first | exact X.out | (rw [show decide (n ≤ 60) = false by simp; omega]; exact X.out) | (rw [show decide (n ≤ 60) = true by simp; omega]; exact X.out)⟩, HB.out⟩
          · have X := hide (HX.out hz (fun hi => h4 hi.2.2.2))
            clear HN HX HY hz
            go_wp2_with (go_at_call 10; refine (l_num0 _ _).mono ?_; rintro e w' ⟨rfl, rfl⟩)
            go_ret
            exact ⟨⟨_, rfl, by first | exact X.out | (rw [show decide (n ≤ 60) = false by simp; omega]; exact X.out) | (rw [show decide (n ≤ 60) = true by simp; omega]; exact X.out)⟩, HB.out⟩
        · have X := hide (HX.out hz (fun hi => h3 hi.2.2.1))
          clear HN HX HY hz
          go_wp2_with (go_at_call 10; refine (l_num0 _ _).mono ?_; rintro e w' ⟨rfl, rfl⟩)
          go_ret
          exact ⟨⟨_, rfl, by first | exact X.out | (rw [show decide (n ≤ 60) = false by simp; omega]; exact X.out) | (rw [show decide (n ≤ 60) = true by simp; omega]; exact X.out)⟩, HB.out⟩
      · have X := hide (HX.out hz (fun hi => h2 hi.2.1))
        clear HN HX HY hz
        go_wp2_with (go_at_call 10; refine (l_num0 _ _).mono ?_; rintro e w' ⟨rfl, rfl⟩)
        go_ret
        exact ⟨⟨_, rfl, by first | exact X.out | (rw [show decide (n ≤ 60) = false by simp; omega]; exact X.out) | (rw [show decide (n ≤ 60) = true by simp; omega]; exact X.out)⟩, HB.out⟩
    · have X := hide (HX.out hz (fun hi => h1 hi.1))
      clear HN HX HY hz
      go_wp2_with (go_at_call 10; refine (l_num0 _ _).mono ?_; rintro e w' ⟨rfl, rfl⟩)
      go_ret
      exact ⟨⟨_, rfl, by first | exact X.out | (rw [show decide (n ≤ 60) = false by simp; omega]; exact X.out) | (rw [show decide (n ≤ 60) = true by simp; omega]; exact X.out)⟩, HB.out⟩
  · have hz0 : (r1 == 0) = false := by simp [hz]
    have X := hide (HN.out hz)
    clear HN HX HY hz
    go_wp2_with (go_at_call 10; refine (l_num0 _ _).mono ?_; rintro e w' ⟨rfl, rfl⟩)
    go_ret
    exact ⟨⟨_, rfl, by first | exact X.out | (rw [show decide (n ≤ 60) = false by simp; omega]; exact X.out) | (rw [show decide (n ≤ 60) = true by simp; omega]; exact X.out)⟩, HB.out⟩

set_option maxHeartbeats 1000000 in
theorem l_threads (s : ByteArray) (w : World) (cs : Cods) (hs : s.size ≤ 400) (hp : parse (bytesOf s) = .inr cs) :
    Calls Try.prog 7 #[.string s] w fun e w' => e = .returned (.int .i64 (cs.length : Nat)) ∧ Below w.heap.size w w' := by
  have HC := hide (r_Read s w (by omega))
  rw [hp] at HC
  go_enter Try.func7, Try.ntmps7
  go_wp2_with fail
  refine HC.out.mono ?_
  rintro e w1 ⟨⟨v, rfl, hv⟩, hb⟩
  have HB := hide hb
  obtain ⟨va, vc, rfl⟩ := hv.slice
  clear hv hb HC
  go_wp2_with fail
  go_ret
  exact ⟨rfl, HB.out⟩

def cnt (l : List Int) (c : Int) : Nat := (l.filter (· == c)).length
theorem cnt_snoc (l : List Int) (x c : Int) : cnt (l ++ [x]) c = cnt l c + if x == c then 1 else 0 := by
  unfold cnt; rw [List.filter_append, List.length_append]; simp [List.filter_cons]; split <;> rfl
theorem cnt_take {l : List Int} {k : Nat} {x : Int} (h : l[k]? = some x) (c : Int) : cnt (l.take (k + 1)) c = cnt (l.take k) c + if x == c then 1 else 0 := by
  rw [List.take_add_one, h]; exact cnt_snoc _ _ _
theorem cnt_le (l : List Int) (c : Int) : cnt l c ≤ l.length := List.length_filter_le _ _
set_option maxHeartbeats 1000000 in
theorem l_count (s : ByteArray) (c : Int) (w : World) (hm : s.size ≤ maxLen) :
    Calls Try.prog 12 #[.string s, .int .u8 c] w fun e w' => e = .returned (.int .i64 (cnt (bytesOf s) c : Nat)) ∧ w' = w := by
  have HT := hide (bytesOf_len s)
  unfold maxLen at hm
  go_enter Try.func12, Try.ntmps12
  go_wp2
  go_loop [5, 6] (fun a i => ∃ k : Nat, k ≤ s.size ∧ i = .int .i64 k ∧ a = .int .i64 (cnt ((bytesOf s).take k) c : Nat)) (fun _ i => s.size - (intOf i).toNat)
  case atStart => exact ⟨0, Nat.zero_le _, rfl, rfl⟩
  case round =>
    obtain ⟨k, hk, rfl, rfl⟩ := hrel
    have hle := cnt_le ((bytesOf s).take k) c
    have hle2 : ((bytesOf s).take k).length ≤ k := List.length_take_le _ _
    by_cases hlt : k < s.size
    · have hg := bytesOf_get s k hlt
      obtain ⟨x, hx⟩ : ∃ x : Int, x = ((s[k]).toNat : Int) := ⟨_, rfl⟩
      have hxe : ((s[k]).toNat : Int) = x := hx.symm
      rw [hxe] at hg
      have HC := hide (cnt_take hg c)
      clear hg hx
      generalize cnt ((bytesOf s).take k) c = A at *
      cases hxc : (x == c) with
      | true =>
        rw [hxc] at HC
        go_wp2
        go_round
        case rel => exact ⟨k + 1, by omega, by go_num, by rw [HC.out, if_pos rfl]; go_num⟩
        case measure => simp [intOf]; omega
      | false =>
        rw [hxc] at HC
        go_wp2
        go_round
        case rel => exact ⟨k + 1, by omega, by go_num, by rw [HC.out]; simp⟩
        case measure => simp [intOf]; omega
    · have HE : Hid (cnt ((bytesOf s).take k) c = cnt (bytesOf s) c) := by unfold Hid; rw [List.take_of_length_le (by rw [HT.out]; omega)]
      go_wp2
      go_ret
      rw [HE.out]
      exact ⟨rfl, rfl⟩

theorem strOf_size (l : List Int) : (strOf l).size = l.length := by simp [strOf, ByteArray.size]
theorem bytes_strOf {l : List Int} (h : ∀ x ∈ l, 0 ≤ x ∧ x < 256) : bytesOf (strOf l) = l := by
  unfold bytesOf strOf
  simp only [List.map_map]
  conv => rhs; rw [← List.map_id l]
  refine List.map_congr_left (fun x hx => ?_)
  obtain ⟨h0, h1⟩ := h x hx
  simp [UInt8.toNat_ofNat']
  omega
theorem sts_bytes {C : Nat → List In} {n : Nat} (hF : Fine C n) (q i : Nat) : ∀ x ∈ stsL n (playM C n q i), 0 ≤ x ∧ x < 256 := by
  intro x hx
  simp only [stsL, List.mem_map, List.mem_range] at hx
  obtain ⟨k, hk, rfl⟩ := hx
  have := play_states hF q i k hk
  simp only at this
  omega
theorem stsL_len (n : Nat) (m : Mac) : (stsL n m).length = n := by simp [stsL]
theorem ownL_len (m : Mac) : (ownL m).length = 4 := by simp [ownL]
theorem celsL_len (m : Mac) : (celsL m).length = 8 := by simp [celsL]
/-- All states are known. -/
theorem all_known : ∀ (l : List Int), (∀ x ∈ l, x = 82 ∨ x = 66 ∨ x = 87 ∨ x = 83 ∨ x = 68) → cnt l 82 + cnt l 66 + cnt l 87 + cnt l 83 + cnt l 68 = l.length
  | [], _ => rfl
  | x :: t, h => by
    have ih := all_known t (fun y hy => h y (List.mem_cons_of_mem _ hy))
    have hx := h x (List.mem_cons_self ..)
    unfold cnt at *
    simp only [List.filter_cons, List.length_cons]
    rcases hx with rfl | rfl | rfl | rfl | rfl <;> simp <;> omega
theorem sts_known {C : Nat → List In} {n : Nat} (hF : Fine C n) (q i : Nat) : cnt (stsL n (playM C n q i)) 82 + cnt (stsL n (playM C n q i)) 66 + cnt (stsL n (playM C n q i)) 87 + cnt (stsL n (playM C n q i)) 83 + cnt (stsL n (playM C n q i)) 68 = n := by
  rw [all_known, stsL_len]
  intro x hx
  simp only [stsL, List.mem_map, List.mem_range] at hx
  obtain ⟨k, hk, rfl⟩ := hx
  exact play_states hF q i k hk

theorem view_cells {w1 w2 : World} {a b c d e f x : Value} (hb : Below (w1.alloc (.cells #[a, b, c, d, e, f, x] 30)).heap.size (w1.alloc (.cells #[a, b, c, d, e, f, x] 30)) w2) :
    w2.cell? ⟨w1.heap.size, 0, none⟩ = some a ∧ w2.cell? ⟨w1.heap.size, 1, none⟩ = some b ∧ w2.cell? ⟨w1.heap.size, 2, none⟩ = some c ∧ w2.cell? ⟨w1.heap.size, 3, none⟩ = some d ∧ w2.cell? ⟨w1.heap.size, 4, none⟩ = some e ∧ w2.cell? ⟨w1.heap.size, 5, none⟩ = some f ∧ w2.cell? ⟨w1.heap.size, 6, none⟩ = some x ∧ w1.heap.size < w2.heap.size := by
  have h : w2.heap[w1.heap.size]? = some (.cells #[a, b, c, d, e, f, x] 30 (0, 0)) := (hb.block _ (by simp)).trans (heap_alloc_new w1 _)
  exact ⟨by rw [cell_of_row _ _ 0 _ _ _ h]; rfl, by rw [cell_of_row _ _ 1 _ _ _ h]; rfl, by rw [cell_of_row _ _ 2 _ _ _ h]; rfl, by rw [cell_of_row _ _ 3 _ _ _ h]; rfl, by rw [cell_of_row _ _ 4 _ _ _ h]; rfl, by rw [cell_of_row _ _ 5 _ _ _ h]; rfl, by rw [cell_of_row _ _ 6 _ _ _ h]; rfl, (Array.getElem?_eq_some_iff.1 h).1⟩
theorem below_view {w w1 w2 : World} {o : Obj} (h1 : Below w.heap.size w w1) (h2 : Below (w1.alloc o).heap.size (w1.alloc o) w2) : Below w.heap.size w w2 := (h1.alloc h1.size o).trans (h2.mono (h1.alloc h1.size o).size)

end Go.Proofs.Ytjbmflgamogefab
