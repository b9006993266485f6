/- greenlaw's view. -/
import Derived.Test.YtijcoafpbgnomaaGc4
namespace Go.Proofs.Ytijcoafpbgnomaa
open Go.RowKit

set_option maxHeartbeats 400000 in
theorem l_num0 (e : Int) (w : World) : Calls Try.prog 17 #[.int .i64 e] w fun x w' => x = .returned (.int .i64 e) ∧ w' = w := by
  go_enter Try.func17, Try.ntmps17
  go_wp2
  go_ret
  exact ⟨rfl, rfl⟩
theorem call_no {f : FuncId} {args : Array Value} {w : World} {T : List Int} {q n : Int} {Z : World → Value → Prop} {F : World → Nat → Mac → Value → Prop} {r : Int × Int} (h : Calls Try.prog f args w fun e w' => CallAns w' e T q n Z F ∧ Below w.heap.size w w') (hr : GivenRel T q n r) (hz : ¬ r.1 = 0) :
    Calls Try.prog f args w fun e w' => ∃ v, Z w' v ∧ e = .returned (.tuple #[v, .int .i64 r.1, .int .i64 r.2]) ∧ Below w.heap.size w w' := by
  refine h.mono ?_
  rintro e w' ⟨⟨r', v, h1, h2, h3⟩, hb⟩
  obtain rfl := hr.unique h1
  rcases h3 with ⟨_, h4⟩ | ⟨h4, _⟩
  · exact ⟨v, h4, h2, hb⟩
  · rw [h4] at hz; exact absurd rfl hz
theorem call_ok {f : FuncId} {args : Array Value} {w : World} {T : List Int} {q n : Int} {Z : World → Value → Prop} {F : World → Nat → Mac → Value → Prop} {cs : Cods} (h : Calls Try.prog f args w fun e w' => CallAns w' e T q n Z F ∧ Below w.heap.size w w') (hr : GivenRel T q n (0, 0)) (hp : parse T = .inr cs) :
    Calls Try.prog f args w fun e w' => ∃ v, F w' cs.length (playM (codesOf cs) cs.length q.toNat n.toNat) v ∧ e = .returned (.tuple #[v, .int .i64 0, .int .i64 0]) ∧ Below w.heap.size w w' := by
  refine h.mono ?_
  rintro e w' ⟨⟨r', v, h1, h2, h3⟩, hb⟩
  obtain rfl := hr.unique h1
  rcases h3 with ⟨h4, _⟩ | ⟨_, _, cs', h5, _, _, h6⟩
  · exact absurd rfl h4
  · rw [hp] at h5; cases h5
    exact ⟨v, h6, h2, hb⟩
def stsL (n : Nat) (m : Mac) : List Int := (List.range n).map (fun k => (m.th k).sta)
def ownL (m : Mac) : List Int := (List.range 4).map (fun l => nameI (m.own l))
def celsL (m : Mac) : List Int := (List.range 8).map m.cells
theorem size_v : (Try.prog.info? 31).map (·.size) = some 7 := by kernel_rfl
theorem under_v : ∃ d, Try.prog.underlying 31 = some d ∧ d.isRow = true := by
  have h : (Try.prog.underlying 31).map (·.isRow) = some true := by kernel_rfl
  obtain ⟨d, h1, h2⟩ := Option.map_eq_some_iff.1 h
  exact ⟨d, h1, h2⟩
/-- The end of view: the answer's cells are stored and loaded again. -/
theorem view_end {w w6 : World} {R c : Array Value} {la : Option Addr} {ln lc : Nat} {xs : List Int} (hb : Below (w.alloc (.cells R 31)).heap.size (w.alloc (.cells R 31)) w6) (hR : R.size = 7) (hc : c.size = 7) (hs : ∃ g, SlAt w6 (.slice la ln lc) xs g) :
    w6.there w.heap.size 0 c.size ∧ (loadVar 31 ⟨w.heap.size, 0, none⟩).run Try.prog (w6.setCells w.heap.size 0 c.toList) = .ok (.agg c) (w6.setCells w.heap.size 0 c.toList) ∧ (∃ g, SlAt (w6.setCells w.heap.size 0 c.toList) (.slice la ln lc) xs g) ∧ Below w.heap.size w (w6.setCells w.heap.size 0 c.toList) := by
  have h6 : w6.heap[w.heap.size]? = some (.cells R 31 (0, 0)) := (hb.block _ (by simp)).trans (heap_alloc_new w _)
  have ht := there_of (n := c.size) h6 (by omega)
  obtain ⟨d, h1, h2⟩ := under_v
  have hl := run_loadVar_mid (P := Try.prog) _ w.heap.size 0 31 c.toList d (World.rangeAt_setCells_same w6 w.heap.size 0 c.toList (by rw [Array.length_toList]; exact ht)) h1 h2 (by rw [size_v, Array.length_toList, hc])
  rw [Array.toArray_toList] at hl
  obtain ⟨g, hs⟩ := hs
  refine ⟨ht, hl, ⟨g, hs.kept (fun x hx => World.heap_setCells_other w6 _ 0 _ (hs.lt x hx) (fun e => ?_))⟩, ?_⟩
  · subst e; exact slat_ne hs h6 (by decide) hx.symm
  · have b2 : Below w.heap.size w w6 := ((Below.refl _ _).alloc (Nat.le_refl _) _).trans (hb.mono (by simp))
    exact ⟨(World.os_setCells ..).trans b2.os, (setCells_size _ _ _ _).2.trans b2.tape, (World.output_setCells ..).trans b2.output, by rw [(setCells_size _ _ _ _).1]; exact b2.size, fun i hi => (World.heap_setCells_other w6 _ 0 _ (by have := b2.size; omega) (by omega)).trans (b2.block i hi)⟩
theorem one7 (a b c d e : ByteArray) (la : Option Addr) (ln lc : Nat) (x : Bool) : (#[.string a, .string b, .string c, .string d, .string e, .slice la ln lc, .bool x] : Array Value).all (·.oneCell') = true := by
  rw [← Array.all_toList]; rfl
/-- What view answers. -/
def ViewAns (w' : World) (e : Ending) (T : List Int) (q n : Int) : Prop :=
  ∃ r lv, GivenRel T q n r ∧
    ((¬ r.1 = 0 ∧ e = .returned (.agg #[.string ByteArray.empty, .string ByteArray.empty, .string ByteArray.empty, .string ByteArray.empty, .string ByteArray.empty, lv, .bool false]) ∧ ∃ g, SlAt w' lv [] g) ∨
     (r = (0, 0) ∧ inR q n ∧ ∃ cs, parse T = .inr cs ∧ badCods cs = none ∧ ChkCods cs (0, 0) ∧
        e = .returned (.agg #[.string (strOf (playM (codesOf cs) cs.length q.toNat n.toNat).out), .string (strOf (playM (codesOf cs) cs.length q.toNat n.toNat).trc), .string (strOf (stsL cs.length (playM (codesOf cs) cs.length q.toNat n.toNat))), .string (strOf (ownL (playM (codesOf cs) cs.length q.toNat n.toNat))), .string ByteArray.empty, lv, .bool true]) ∧ ∃ g, SlAt w' lv (celsL (playM (codesOf cs) cs.length q.toNat n.toNat)) g))

set_option maxRecDepth 100000 in
set_option maxHeartbeats 2000000 in
theorem l_view (s : ByteArray) (q n : Int) (w : World) (hm : s.size ≤ maxLen) :
    Calls Try.prog 18 #[.string s, .int .i64 q, .int .i64 n] w fun e w' => ViewAns w' e (bytesOf s) q n ∧ Below w.heap.size w w' := by
  have H1 := hide (fun W => g_Out s q n W hm)
  have H2 := hide (fun W => g_Trace s q n W hm)
  have H3 := hide (fun W => g_States s q n W hm)
  have H4 := hide (fun W => g_Owners s q n W hm)
  have H5 := hide (fun W => g_Log s q n W hm)
  have H6 := hide (fun W => g_Cells s q n W hm)
  go_enter Try.func18, Try.ntmps18
  go_wp2_with fail
  refine (H1.out _).mono ?_
  rintro e w1 ⟨⟨⟨r1, r2⟩, v1, hg, rfl, hc⟩, hb1⟩
  have HB1 := hide hb1
  have HG := hide hg
  by_cases hz : r1 = 0
  · rcases hc with ⟨hc, _⟩ | ⟨hc, hR, cs, h1, h2, h3, hv1⟩
    · exact absurd hz hc
    have hr2 : r2 = 0 := by simpa [hz] using hc
    subst hz
    subst hr2
    obtain rfl := hv1
    have HPA := hide h1
    have FIN : Hid (∀ w' lv, (∃ g, SlAt w' lv (celsL (playM (codesOf cs) cs.length q.toNat n.toNat)) g) → ViewAns w' (.returned (.agg #[.string (strOf (playM (codesOf cs) cs.length q.toNat n.toNat).out), .string (strOf (playM (codesOf cs) cs.length q.toNat n.toNat).trc), .string (strOf (stsL cs.length (playM (codesOf cs) cs.length q.toNat n.toNat))), .string (strOf (ownL (playM (codesOf cs) cs.length q.toNat n.toNat))), .string ByteArray.empty, lv, .bool true])) (bytesOf s) q n) := fun w' lv h => ⟨_, lv, HG.out, .inr ⟨rfl, hR, cs, h1, h2, h3, rfl, h⟩⟩
    clear hg hb1 hc hR h1 h2 h3 H1
    go_wp2_with fail
    refine (call_ok (H2.out _) HG.out HPA.out).mono ?_
    rintro e w2 ⟨v2, hv2, rfl, hb2⟩
    have HB2 := hide (HB1.out.trans (hb2.mono HB1.out.size))
    obtain rfl := hv2
    clear hb2 H2
    go_wp2_with fail
    refine (call_ok (H3.out _) HG.out HPA.out).mono ?_
    rintro e w3 ⟨v3, hv3, rfl, hb3⟩
    have HB3 := hide (HB2.out.trans (hb3.mono HB2.out.size))
    have hv3 : v3 = .string (strOf (stsL cs.length (playM (codesOf cs) cs.length q.toNat n.toNat))) := hv3
    subst hv3
    clear hb3 H3
    go_wp2_with fail
    refine (call_ok (H4.out _) HG.out HPA.out).mono ?_
    rintro e w4 ⟨v4, hv4, rfl, hb4⟩
    have HB4 := hide (HB3.out.trans (hb4.mono HB3.out.size))
    have hv4 : v4 = .string (strOf (ownL (playM (codesOf cs) cs.length q.toNat n.toNat))) := hv4
    subst hv4
    clear hb4 H4
    go_wp2_with fail
    refine (call_ok (H5.out _) HG.out HPA.out).mono ?_
    rintro e w5 ⟨v5, hv5, rfl, hb5⟩
    have HB5 := hide (HB4.out.trans (hb5.mono HB4.out.size))
    obtain rfl := hv5
    clear hb5 H5
    go_wp2_with fail
    refine (call_ok (H6.out _) HG.out HPA.out).mono ?_
    rintro e w6 ⟨v6, hv6, rfl, hb6⟩
    have HB6 := hide (HB5.out.trans (hb6.mono HB5.out.size))
    have HV6 := hide hv6
    obtain ⟨g6, hs6⟩ := hv6
    obtain ⟨la, ln, lc, rfl⟩ := hs6.slice'
    clear hb6 H6 hs6
    generalize (playM (codesOf cs) cs.length q.toNat n.toNat) = m at *
    generalize strOf m.out = x1 at *
    generalize strOf m.trc = x2 at *
    generalize strOf (stsL cs.length m) = x3 at *
    generalize strOf (ownL m) = x4 at *
    have HE := hide (view_end (c := #[.string x1, .string x2, .string x3, .string x4, .string ByteArray.empty, .slice la ln lc, .bool true]) HB6.out rfl rfl HV6.out)
    have F := hide (FIN.out _ _ HE.out.2.2.1)
    clear FIN HV6
    go_wp2_with (first
      | (go_at_call 17; refine (l_num0 _ _).mono ?_; rintro e w' ⟨rfl, rfl⟩)
      | (refine wpList_store_mid rfl 31 (.tmp 6) _ rfl w.heap.size 0 _ rfl rfl HE.out.1 size_v (one7 _ _ _ _ _ _ _ _ _) ?_))
    refine bodyPost_ret (ret_cell Try.results18 rfl HE.out.2.1) rfl ?_
    exact ⟨F.out, HE.out.2.2.2⟩
  · rcases hc with ⟨_, hv1⟩ | ⟨hc, _⟩
    rotate_left
    · simp at hc; exact absurd hc.1 hz
    obtain rfl := hv1
    have HZ : Hid (¬ ((r1, r2) : Int × Int).1 = 0) := hz
    have hz0 : (r1 == 0) = false := by simp [hz]
    clear hg hb1 H1 hz
    go_wp2_with fail
    refine (call_no (H2.out _) HG.out HZ.out).mono ?_
    rintro e w2 ⟨v2, hv2, rfl, hb2⟩
    have HB2 := hide (HB1.out.trans (hb2.mono HB1.out.size))
    obtain rfl := hv2
    clear hb2 H2
    go_wp2_with fail
    refine (call_no (H3.out _) HG.out HZ.out).mono ?_
    rintro e w3 ⟨v3, hv3, rfl, hb3⟩
    have HB3 := hide (HB2.out.trans (hb3.mono HB2.out.size))
    obtain rfl := hv3
    clear hb3 H3
    go_wp2_with fail
    refine (call_no (H4.out _) HG.out HZ.out).mono ?_
    rintro e w4 ⟨v4, hv4, rfl, hb4⟩
    have HB4 := hide (HB3.out.trans (hb4.mono HB3.out.size))
    obtain rfl := hv4
    clear hb4 H4
    go_wp2_with fail
    refine (call_no (H5.out _) HG.out HZ.out).mono ?_
    rintro e w5 ⟨v5, hv5, rfl, hb5⟩
    have HB5 := hide (HB4.out.trans (hb5.mono HB4.out.size))
    obtain rfl := hv5
    clear hb5 H5
    go_wp2_with fail
    refine (call_no (H6.out _) HG.out HZ.out).mono ?_
    rintro e w6 ⟨v6, hv6, rfl, hb6⟩
    have HB6 := hide (HB5.out.trans (hb6.mono HB5.out.size))
    have HV6 := hide hv6
    obtain ⟨g6, hs6⟩ := hv6
    obtain ⟨la, ln, lc, rfl⟩ := hs6.slice'
    clear hb6 H6 hs6
    have HE := hide (view_end (c := #[.string ByteArray.empty, .string ByteArray.empty, .string ByteArray.empty, .string ByteArray.empty, .string ByteArray.empty, .slice la ln lc, .bool false]) HB6.out rfl rfl HV6.out)
    have F : Hid (ViewAns (w6.setCells w.heap.size 0 _) _ (bytesOf s) q n) := ⟨_, _, HG.out, .inl ⟨HZ.out, rfl, HE.out.2.2.1⟩⟩
    clear HV6
    go_wp2_with (first
      | (go_at_call 17; refine (l_num0 _ _).mono ?_; rintro e w' ⟨rfl, rfl⟩)
      | (refine wpList_store_mid rfl 31 (.tmp 6) _ rfl w.heap.size 0 _ rfl rfl HE.out.1 size_v (one7 _ _ _ _ _ _ _ _ _) ?_))
    refine bodyPost_ret (ret_cell Try.results18 rfl HE.out.2.1) rfl ?_
    exact ⟨F.out, HE.out.2.2.2⟩

end Go.Proofs.Ytijcoafpbgnomaa
