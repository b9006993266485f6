/- greenlaw's asked, owed, same, tells. -/
import Derived.Test.YtjbmflgamogefabGreatMnH
namespace Go.Proofs.YtjbmflgamogefabGreat
open Go.RowKit

/-- What a call that tells a text answers. -/
def StrAns (T : List Int) (q n : Int) (f : Cods → Nat → Nat → ByteArray) (r : Int × Int) (x : ByteArray) : Prop :=
  GivenRel T q n r ∧ ((¬ r.1 = 0 ∧ x = ByteArray.empty) ∨ (r = (0, 0) ∧ inR q n ∧ ∃ cs, parse T = .inr cs ∧ badCods cs = none ∧ ChkCods cs (0, 0) ∧ x = f cs q.toNat n.toNat))
theorem StrAns.unique {T : List Int} {q n : Int} {f g : Cods → Nat → Nat → ByteArray} {r r' : Int × Int} {x y : ByteArray} (h : StrAns T q n f r x) (k : StrAns T q n g r' y) (hfg : ∀ cs, parse T = .inr cs → badCods cs = none → ChkCods cs (0, 0) → f cs q.toNat n.toNat = g cs q.toNat n.toNat) : r = r' ∧ x = y := by
  obtain ⟨h1, h2⟩ := h
  obtain ⟨k1, k2⟩ := k
  obtain rfl := h1.unique k1
  refine ⟨rfl, ?_⟩
  rcases h2 with ⟨a, b⟩ | ⟨a, _, cs, p1, p2, p3, b⟩ <;> rcases k2 with ⟨a', b'⟩ | ⟨a', _, cs', p1', p2', p3', b'⟩
  · rw [b, b']
  · rw [a'] at a; exact absurd rfl a
  · rw [a] at a'; exact absurd rfl a'
  · rw [p1] at p1'; cases p1'
    rw [b, b', hfg cs p1 p2 p3]
theorem call_str {f : FuncId} {args : Array Value} {w : World} {T : List Int} {q n : Int} {F : World → Nat → Mac → Value → Prop} {g : Cods → Nat → Nat → ByteArray} (h : Calls Tryz.prog f args w fun e w' => CallAns w' e T q n noS F ∧ Below w.heap.size w w') (hF : ∀ w' c v, F w' c.length (playM (codesOf c) c.length q.toNat n.toNat) v → v = .string (g c q.toNat n.toNat)) :
    Calls Tryz.prog f args w fun e w' => ∃ r x, e = .returned (.tuple #[.string x, .int .i64 r.1, .int .i64 r.2]) ∧ StrAns T q n g r x ∧ Below w.heap.size w w' := by
  refine h.mono ?_
  rintro e w' ⟨⟨r, v, h1, rfl, h3⟩, hb⟩
  rcases h3 with ⟨a, b⟩ | ⟨a, b, cs, p1, p2, p3, c⟩
  · obtain rfl := b
    exact ⟨r, _, rfl, ⟨h1, .inl ⟨a, rfl⟩⟩, hb⟩
  · obtain rfl := hF _ _ _ c
    exact ⟨r, _, rfl, ⟨h1, .inr ⟨a, b, cs, p1, p2, p3, rfl⟩⟩, hb⟩
theorem size_a : (Tryz.prog.info? 31).map (·.size) = some 4 := by kernel_rfl
theorem under_a : ∃ d, Tryz.prog.underlying 31 = some d ∧ d.isRow = true := by
  have h : (Tryz.prog.underlying 31).map (·.isRow) = some true := by kernel_rfl
  obtain ⟨d, h1, h2⟩ := Option.map_eq_some_iff.1 h
  exact ⟨d, h1, h2⟩
/-- The answer's cells are stored and loaded again. -/
theorem ans_end {w6 : World} {b : Nat} {R c : Array Value} (h6 : w6.heap[b]? = some (.cells R 31 (0, 0))) (hR : R.size = 4) (hc : c.size = 4) :
    w6.there b 0 c.size ∧ (loadVar 31 ⟨b, 0, none⟩).run Tryz.prog (w6.setCells b 0 c.toList) = .ok (.agg c) (w6.setCells b 0 c.toList) ∧ (∀ v xs g, SlAt w6 v xs g → SlAt (w6.setCells b 0 c.toList) v xs g) ∧ ∀ base w, base ≤ b → Below base w w6 → Below base w (w6.setCells b 0 c.toList) := by
  have ht := there_of (n := c.size) h6 (by omega)
  obtain ⟨d, h1, h2⟩ := under_a
  have hl := run_loadVar_mid (P := Tryz.prog) _ b 0 31 c.toList d (World.rangeAt_setCells_same w6 b 0 c.toList (by rw [Array.length_toList]; exact ht)) h1 h2 (by rw [size_a, Array.length_toList, hc])
  rw [Array.toArray_toList] at hl
  refine ⟨ht, hl, fun v xs g hs => hs.kept (fun x hx => World.heap_setCells_other w6 _ 0 _ (hs.lt x hx) (fun e => ?_)), fun base w hb b2 => ?_⟩
  · subst e; exact slat_ne hs h6 (by decide) hx.symm
  · have hbs := (Array.getElem?_eq_some_iff.1 h6).1
    exact ⟨(World.os_setCells ..).trans b2.os, (setCells_size _ _ _ _).2.trans b2.tape, (World.output_setCells ..).trans b2.output, by rw [(setCells_size _ _ _ _).1]; exact b2.size, fun i hi => (World.heap_setCells_other w6 _ 0 _ (by omega) (by omega)).trans (b2.block i hi)⟩
theorem one4 (a : ByteArray) (la : Option Addr) (ln lc : Nat) (x y : Int) : (#[.string a, .slice la ln lc, .int .i64 x, .int .i64 y] : Array Value).all (·.oneCell') = true := by
  rw [← Array.all_toList]; rfl
/-- The two blocks that asked and owed begin with. -/
theorem two_first {w w1 : World} {o : Obj} {R : Array Value} (hb : Below ((w.alloc o).alloc (.cells R 31)).heap.size ((w.alloc o).alloc (.cells R 31)) w1) : w1.heap[w.heap.size]? = some o ∧ w1.heap[w.heap.size + 1]? = some (.cells R 31 (0, 0)) ∧ Below w.heap.size w w1 := by
  have e1 : (w.alloc o).heap.size = w.heap.size + 1 := by simp
  have n0 : (w.alloc o).heap[w.heap.size]? = some o := heap_alloc_new w o
  have n1 : ((w.alloc o).alloc (.cells R 31)).heap[w.heap.size + 1]? = some (.cells R 31 (0, 0)) := by rw [← e1]; exact heap_alloc_new _ _
  have b1 : Below w.heap.size w ((w.alloc o).alloc (.cells R 31)) := ((Below.refl _ _).alloc (Nat.le_refl _) _).alloc (by simp) _
  have n2 : ((w.alloc o).alloc (.cells R 31)).heap[w.heap.size]? = some o := (((Below.refl (w.alloc o).heap.size (w.alloc o)).alloc (Nat.le_refl _) _).block _ (by simp)).trans n0
  exact ⟨(hb.block _ (by simp; omega)).trans n2, (hb.block _ (by simp)).trans n1, b1.trans (hb.mono (by simp; omega))⟩
def okind (k : Int) (q n : Int) (s t : ByteArray) : Value := .agg #[.int .i64 k, .int .i64 q, .int .i64 n, .string s, .string t]

def fOut : Cods → Nat → Nat → ByteArray := fun c q n => strOf (playM (codesOf c) c.length q n).out
set_option maxRecDepth 100000 in
set_option maxHeartbeats 2000000 in
theorem asked_Out (s t : ByteArray) (q n : Int) (w : World) (hm : s.size ≤ maxLen) :
    Calls Tryz.prog 7 #[.agg #[.int .i64 2, .int .i64 q, .int .i64 n, .string s, .string t]] w fun e w' => ∃ r x, e = .returned (.agg #[.string x, .slice none 0 0, .int .i64 r.1, .int .i64 r.2]) ∧ StrAns (bytesOf s) q n fOut r x ∧ Below w.heap.size w w' := by
  have HX := hide (fun W => call_str (g := fOut) (g_Out s q n W hm) (fun _ _ _ h => h))
  go_enter Tryz.func7, Tryz.ntmps7
  go_wp2_with fail
  refine (HX.out _).mono ?_
  rintro e w1 ⟨⟨r1, r2⟩, x, rfl, hA, hb⟩
  obtain ⟨h0, h1, hB⟩ := two_first hb
  have HA := hide hA
  have HE := hide (ans_end (c := #[.string x, .slice none 0 0, .int .i64 r1, .int .i64 r2]) h1 rfl rfl)
  have HB := hide (HE.out.2.2.2 w.heap.size w (by omega) hB)
  clear hA hb h0 h1 hB HX
  go_wp2_with (first
    | (go_at_call 12; refine (l_num0 _ _).mono ?_; rintro e w' ⟨rfl, rfl⟩)
    | (refine wpList_store_mid rfl 31 (.tmp 2) _ rfl (w.heap.size + 1) 0 _ rfl rfl HE.out.1 size_a (one4 _ _ _ _ _ _) ?_))
  refine bodyPost_ret (ret_cell Tryz.results7 rfl HE.out.2.1) rfl ?_
  exact ⟨(r1, r2), x, rfl, HA.out, HB.out⟩

def fTrace : Cods → Nat → Nat → ByteArray := fun c q n => strOf (playM (codesOf c) c.length q n).trc
set_option maxRecDepth 100000 in
set_option maxHeartbeats 2000000 in
theorem asked_Trace (s t : ByteArray) (q n : Int) (w : World) (hm : s.size ≤ maxLen) :
    Calls Tryz.prog 7 #[.agg #[.int .i64 3, .int .i64 q, .int .i64 n, .string s, .string t]] w fun e w' => ∃ r x, e = .returned (.agg #[.string x, .slice none 0 0, .int .i64 r.1, .int .i64 r.2]) ∧ StrAns (bytesOf s) q n fTrace r x ∧ Below w.heap.size w w' := by
  have HX := hide (fun W => call_str (g := fTrace) (g_Trace s q n W hm) (fun _ _ _ h => h))
  go_enter Tryz.func7, Tryz.ntmps7
  go_wp2_with fail
  refine (HX.out _).mono ?_
  rintro e w1 ⟨⟨r1, r2⟩, x, rfl, hA, hb⟩
  obtain ⟨h0, h1, hB⟩ := two_first hb
  have HA := hide hA
  have HE := hide (ans_end (c := #[.string x, .slice none 0 0, .int .i64 r1, .int .i64 r2]) h1 rfl rfl)
  have HB := hide (HE.out.2.2.2 w.heap.size w (by omega) hB)
  clear hA hb h0 h1 hB HX
  go_wp2_with (first
    | (go_at_call 12; refine (l_num0 _ _).mono ?_; rintro e w' ⟨rfl, rfl⟩)
    | (refine wpList_store_mid rfl 31 (.tmp 2) _ rfl (w.heap.size + 1) 0 _ rfl rfl HE.out.1 size_a (one4 _ _ _ _ _ _) ?_))
  refine bodyPost_ret (ret_cell Tryz.results7 rfl HE.out.2.1) rfl ?_
  exact ⟨(r1, r2), x, rfl, HA.out, HB.out⟩

def fStates : Cods → Nat → Nat → ByteArray := fun c q n => strOf (stsL c.length (playM (codesOf c) c.length q n))
set_option maxRecDepth 100000 in
set_option maxHeartbeats 2000000 in
theorem asked_States (s t : ByteArray) (q n : Int) (w : World) (hm : s.size ≤ maxLen) :
    Calls Tryz.prog 7 #[.agg #[.int .i64 5, .int .i64 q, .int .i64 n, .string s, .string t]] w fun e w' => ∃ r x, e = .returned (.agg #[.string x, .slice none 0 0, .int .i64 r.1, .int .i64 r.2]) ∧ StrAns (bytesOf s) q n fStates r x ∧ Below w.heap.size w w' := by
  have HX := hide (fun W => call_str (g := fStates) (g_States s q n W hm) (fun _ _ _ h => h))
  go_enter Tryz.func7, Tryz.ntmps7
  go_wp2_with fail
  refine (HX.out _).mono ?_
  rintro e w1 ⟨⟨r1, r2⟩, x, rfl, hA, hb⟩
  obtain ⟨h0, h1, hB⟩ := two_first hb
  have HA := hide hA
  have HE := hide (ans_end (c := #[.string x, .slice none 0 0, .int .i64 r1, .int .i64 r2]) h1 rfl rfl)
  have HB := hide (HE.out.2.2.2 w.heap.size w (by omega) hB)
  clear hA hb h0 h1 hB HX
  go_wp2_with (first
    | (go_at_call 12; refine (l_num0 _ _).mono ?_; rintro e w' ⟨rfl, rfl⟩)
    | (refine wpList_store_mid rfl 31 (.tmp 2) _ rfl (w.heap.size + 1) 0 _ rfl rfl HE.out.1 size_a (one4 _ _ _ _ _ _) ?_))
  refine bodyPost_ret (ret_cell Tryz.results7 rfl HE.out.2.1) rfl ?_
  exact ⟨(r1, r2), x, rfl, HA.out, HB.out⟩

def fOwners : Cods → Nat → Nat → ByteArray := fun c q n => strOf (ownL (playM (codesOf c) c.length q n))
set_option maxRecDepth 100000 in
set_option maxHeartbeats 2000000 in
theorem asked_Owners (s t : ByteArray) (q n : Int) (w : World) (hm : s.size ≤ maxLen) :
    Calls Tryz.prog 7 #[.agg #[.int .i64 6, .int .i64 q, .int .i64 n, .string s, .string t]] w fun e w' => ∃ r x, e = .returned (.agg #[.string x, .slice none 0 0, .int .i64 r.1, .int .i64 r.2]) ∧ StrAns (bytesOf s) q n fOwners r x ∧ Below w.heap.size w w' := by
  have HX := hide (fun W => call_str (g := fOwners) (g_Owners s q n W hm) (fun _ _ _ h => h))
  go_enter Tryz.func7, Tryz.ntmps7
  go_wp2_with fail
  refine (HX.out _).mono ?_
  rintro e w1 ⟨⟨r1, r2⟩, x, rfl, hA, hb⟩
  obtain ⟨h0, h1, hB⟩ := two_first hb
  have HA := hide hA
  have HE := hide (ans_end (c := #[.string x, .slice none 0 0, .int .i64 r1, .int .i64 r2]) h1 rfl rfl)
  have HB := hide (HE.out.2.2.2 w.heap.size w (by omega) hB)
  clear hA hb h0 h1 hB HX
  go_wp2_with (first
    | (go_at_call 12; refine (l_num0 _ _).mono ?_; rintro e w' ⟨rfl, rfl⟩)
    | (refine wpList_store_mid rfl 31 (.tmp 2) _ rfl (w.heap.size + 1) 0 _ rfl rfl HE.out.1 size_a (one4 _ _ _ _ _ _) ?_))
  refine bodyPost_ret (ret_cell Tryz.results7 rfl HE.out.2.1) rfl ?_
  exact ⟨(r1, r2), x, rfl, HA.out, HB.out⟩

def fLog : Cods → Nat → Nat → ByteArray := fun c q n => strOf (playM (codesOf c) c.length q n).log
set_option maxRecDepth 100000 in
set_option maxHeartbeats 2000000 in
theorem asked_Log (s t : ByteArray) (q n : Int) (w : World) (hm : s.size ≤ maxLen) :
    Calls Tryz.prog 7 #[.agg #[.int .i64 7, .int .i64 q, .int .i64 n, .string s, .string t]] w fun e w' => ∃ r x, e = .returned (.agg #[.string x, .slice none 0 0, .int .i64 r.1, .int .i64 r.2]) ∧ StrAns (bytesOf s) q n fLog r x ∧ Below w.heap.size w w' := by
  have HX := hide (fun W => call_str (g := fLog) (g_Log s q n W hm) (fun _ _ _ h => h))
  go_enter Tryz.func7, Tryz.ntmps7
  go_wp2_with fail
  refine (HX.out _).mono ?_
  rintro e w1 ⟨⟨r1, r2⟩, x, rfl, hA, hb⟩
  obtain ⟨h0, h1, hB⟩ := two_first hb
  have HA := hide hA
  have HE := hide (ans_end (c := #[.string x, .slice none 0 0, .int .i64 r1, .int .i64 r2]) h1 rfl rfl)
  have HB := hide (HE.out.2.2.2 w.heap.size w (by omega) hB)
  clear hA hb h0 h1 hB HX
  go_wp2_with (first
    | (go_at_call 12; refine (l_num0 _ _).mono ?_; rintro e w' ⟨rfl, rfl⟩)
    | (refine wpList_store_mid rfl 31 (.tmp 2) _ rfl (w.heap.size + 1) 0 _ rfl rfl HE.out.1 size_a (one4 _ _ _ _ _ _) ?_))
  refine bodyPost_ret (ret_cell Tryz.results7 rfl HE.out.2.1) rfl ?_
  exact ⟨(r1, r2), x, rfl, HA.out, HB.out⟩

theorem good_of {T : List Int} {cs : Cods} (hT : T.length ≤ 400) (h1 : parse T = .inr cs) (h2 : badCods cs = none) (h3 : ChkCods cs (0, 0)) : RGood cs cs.length where
  len := rfl
  fine := fine_of h1 h2 h3
  n4 := parse_lenG h1
  short := fun k => by
    by_cases hk : k < cs.length
    · obtain ⟨x, _, hxm, hxe⟩ := codes_mem hk
      rw [hxe]
      have := (parse_good h1 x hxm).1
      omega
    · unfold codesOf
      rw [List.getD_eq_getElem?_getD, List.getElem?_eq_none (by omega)]
      simp
  lets := fun k x hx => by
    by_cases hk : k < cs.length
    · obtain ⟨y, _, hxm, hxe⟩ := codes_mem hk
      rw [hxe] at hx
      exact ((parse_good h1 y hxm).2 x hx).1
    · unfold codesOf at hx
      rw [List.getD_eq_getElem?_getD, List.getElem?_eq_none (by omega)] at hx
      simp at hx
/-- What OK means (as in Tg). -/
theorem chk_zeroR : ∀ {cs : Cods} {r : Int × Int}, ChkCods cs r → r.1 = 0 → r = (0, 0)
  | [], r, h, _ => h
  | x :: t, r, h, h0 => by
    obtain ⟨q, _, h2⟩ := h
    rcases h2 with ⟨_, h3⟩ | ⟨h3, h4⟩
    · exact chk_zeroR h3 h0
    · rw [h4] at h0; exact absurd h0 h3
theorem given_okR {T : List Int} {q n : Int} {r : Int × Int} (h : GivenRel T q n r) (hr : r.1 = 0) : r = (0, 0) ∧ inR q n ∧ T.length ≤ 400 ∧ ∃ cs, parse T = .inr cs ∧ badCods cs = none ∧ ChkCods cs (0, 0) := by
  obtain ⟨c, h1, h2⟩ := h
  have hi : c.1 = 0 ∧ inR q n ∧ r = (0, 0) := by
    rcases h2 with ⟨a, b⟩ | ⟨a, _, b⟩ | ⟨a, b, d⟩
    · rw [← b] at a; exact absurd hr a
    · rw [b] at hr; simp at hr
    · exact ⟨a, b, d⟩
  unfold CheckRel at h1
  split at h1
  · rw [h1] at hi; simp at hi
  · refine ⟨hi.2.2, hi.2.1, by omega, ?_⟩
    cases hp : parse T with
    | inl j => rw [hp] at h1; simp only at h1; rw [h1] at hi; simp at hi
    | inr cs =>
      rw [hp] at h1
      simp only at h1
      cases hb : badCods cs with
      | some p => rw [hb] at h1; simp only at h1; rw [h1] at hi; simp at hi
      | none =>
        rw [hb] at h1
        simp only at h1
        obtain rfl := chk_zeroR h1 hi.1
        exact ⟨cs, rfl, hb, h1⟩
def fLogR : Cods → Nat → Nat → ByteArray := fun c q n => strOf (logR (codesOf c) c.length q n).2

set_option maxRecDepth 100000 in
set_option maxHeartbeats 2000000 in
theorem owed_Out (s t : ByteArray) (q n : Int) (w : World) (hm : s.size ≤ maxLen) :
    Calls Tryz.prog 8 #[.agg #[.int .i64 2, .int .i64 q, .int .i64 n, .string s, .string t]] w fun e w' => ∃ r x, e = .returned (.agg #[.string x, .slice none 0 0, .int .i64 r.1, .int .i64 r.2]) ∧ StrAns (bytesOf s) q n fOut r x ∧ Below w.heap.size w w' := by
  have HX := hide (fun W => r_Given s q n W hm)
  go_enter Tryz.func8, Tryz.ntmps8
  go_wp2_with fail
  refine (HX.out _).mono ?_
  rintro e w1 ⟨⟨r1, r2⟩, hr, rfl, hb⟩
  obtain ⟨h0, h1, hB⟩ := two_first hb
  by_cases hz : r1 = 0
  · obtain ⟨hr0, hR, hT, cs, p1, p2, p3⟩ := given_okR hr hz
    simp only [Prod.mk.injEq] at hr0
    obtain ⟨rfl, rfl⟩ := hr0
    have hl := bytesOf_len s
    obtain ⟨q1, q2, n1, n2⟩ := hR
    obtain ⟨qq, rfl⟩ : ∃ qq : Nat, q = qq := ⟨q.toNat, by omega⟩
    obtain ⟨nn, rfl⟩ : ∃ nn : Nat, n = nn := ⟨n.toNat, by omega⟩
    have HPL := hide (r_Play s cs qq nn w1 (by omega) p1 (good_of hT p1 p2 p3) (parse_ne p1) (by omega) (by omega))
    have HA : Hid (StrAns (bytesOf s) (qq : Int) (nn : Int) fOut (0, 0) (fOut cs qq nn)) := ⟨hr, .inr ⟨rfl, ⟨q1, q2, n1, n2⟩, cs, p1, p2, p3, rfl⟩⟩
    have hc4 := parse_lenG p1
    have HW : Hid (∀ l, (playM (codesOf cs) cs.length qq nn).own l = -1 ∨ ∃ k : Nat, k < 4 ∧ (playM (codesOf cs) cs.length qq nn).own l = (k : Int)) := fun l => by
      rcases play_who (fine_of p1 p2 p3) qq nn l with e | ⟨k, hk, e, _⟩
      · exact .inl e
      · exact .inr ⟨k, by omega, e⟩
    have k0 : w1.cell? ⟨w.heap.size, 0, none⟩ = some (.int .i64 2) := by rw [cell_of_row _ _ 0 _ _ _ h0]; rfl
    have k1 : w1.cell? ⟨w.heap.size, 1, none⟩ = some (.int .i64 (qq : Int)) := by rw [cell_of_row _ _ 1 _ _ _ h0]; rfl
    have k2 : w1.cell? ⟨w.heap.size, 2, none⟩ = some (.int .i64 (nn : Int)) := by rw [cell_of_row _ _ 2 _ _ _ h0]; rfl
    have k3 : w1.cell? ⟨w.heap.size, 3, none⟩ = some (.string s) := by rw [cell_of_row _ _ 3 _ _ _ h0]; rfl
    have kb : w.heap.size < w1.heap.size := (Array.getElem?_eq_some_iff.1 h0).1
    have kb1 : w.heap.size + 1 < w1.heap.size := (Array.getElem?_eq_some_iff.1 h1).1
    have H1 := hide h1
    have HB := hide hB
    clear hr hb h0 h1 hB HX p1 p2 p3 hT hl
    go_wp2_with fail
    refine HPL.out.mono ?_
    rintro e w2 ⟨base, Y, rfl, m, hb2⟩
    have k0b := (hb2.cell (p := ⟨w.heap.size, 0, none⟩) kb).trans k0
    have kb2 : w.heap.size < w2.heap.size := Nat.lt_of_lt_of_le kb hb2.size
    have H12 := hide ((hb2.block _ kb1).trans H1.out)
    have HB2 := hide (HB.out.trans (hb2.mono HB.out.size))
    have fo := m.at_.fields.2.2.2.2.2.2.2.1
    have fb := m.at_.lt (.inl rfl)
    have HE : Hid (∀ W, Below w2.heap.size w2 W → W.there (w.heap.size + 1) 0 4 ∧ (loadVar 31 ⟨w.heap.size + 1, 0, none⟩).run Tryz.prog (W.setCells (w.heap.size + 1) 0 [.string (fOut cs qq nn), .slice none 0 0, .int .i64 0, .int .i64 0]) = .ok (.agg #[.string (fOut cs qq nn), .slice none 0 0, .int .i64 0, .int .i64 0]) (W.setCells (w.heap.size + 1) 0 [.string (fOut cs qq nn), .slice none 0 0, .int .i64 0, .int .i64 0]) ∧ Below w.heap.size w (W.setCells (w.heap.size + 1) 0 [.string (fOut cs qq nn), .slice none 0 0, .int .i64 0, .int .i64 0])) := fun W hW => by
      have h6 := (hW.block (w.heap.size + 1) (Array.getElem?_eq_some_iff.1 H12.out).1).trans H12.out
      obtain ⟨a1, a2, _, a4⟩ := ans_end (c := #[.string (fOut cs qq nn), .slice none 0 0, .int .i64 0, .int .i64 0]) h6 rfl rfl
      exact ⟨a1, a2, a4 _ _ (by omega) (HB2.out.trans (hW.mono HB2.out.size))⟩
    have hfo : w2.cell? ⟨Y.b, 7, none⟩ = some (.string (fOut cs qq nn)) := fo
    clear m hb2 fo HPL H1 HB HW k0 k1 k2 k3 kb kb1
    generalize fOut cs qq nn = X at *
    go_wp2_with (refine wpList_store_mid rfl 31 (.tmp 2) _ rfl (w.heap.size + 1) 0 _ rfl rfl (HE.out _ ((Below.refl _ _).alloc (Nat.le_refl _) _)).1 size_a (one4 _ _ _ _ _ _) ?_)
    refine bodyPost_ret (ret_cell Tryz.results8 rfl (HE.out _ ((Below.refl _ _).alloc (Nat.le_refl _) _)).2.1) rfl ?_
    exact ⟨(0, 0), X, rfl, HA.out, (HE.out _ ((Below.refl _ _).alloc (Nat.le_refl _) _)).2.2⟩
  · have HZ : Hid (StrAns (bytesOf s) q n fOut (r1, r2) ByteArray.empty) := ⟨hr, .inl ⟨hz, rfl⟩⟩
    have hz0 : (r1 != 0) = true := by simp [hz]
    have HE := hide (ans_end (c := #[.string ⟨#[]⟩, .slice none 0 0, .int .i64 r1, .int .i64 r2]) h1 rfl rfl)
    have HB := hide (HE.out.2.2.2 w.heap.size w (by omega) hB)
    clear hr hb h0 h1 hB HX hz
    go_wp2_with (refine wpList_store_mid rfl 31 (.tmp 2) _ rfl (w.heap.size + 1) 0 _ rfl rfl HE.out.1 size_a (one4 _ _ _ _ _ _) ?_)
    refine bodyPost_ret (ret_cell Tryz.results8 rfl HE.out.2.1) rfl ?_
    exact ⟨(r1, r2), ByteArray.empty, rfl, HZ.out, HB.out⟩

set_option maxRecDepth 100000 in
set_option maxHeartbeats 2000000 in
theorem owed_Trace (s t : ByteArray) (q n : Int) (w : World) (hm : s.size ≤ maxLen) :
    Calls Tryz.prog 8 #[.agg #[.int .i64 3, .int .i64 q, .int .i64 n, .string s, .string t]] w fun e w' => ∃ r x, e = .returned (.agg #[.string x, .slice none 0 0, .int .i64 r.1, .int .i64 r.2]) ∧ StrAns (bytesOf s) q n fTrace r x ∧ Below w.heap.size w w' := by
  have HX := hide (fun W => r_Given s q n W hm)
  go_enter Tryz.func8, Tryz.ntmps8
  go_wp2_with fail
  refine (HX.out _).mono ?_
  rintro e w1 ⟨⟨r1, r2⟩, hr, rfl, hb⟩
  obtain ⟨h0, h1, hB⟩ := two_first hb
  by_cases hz : r1 = 0
  · obtain ⟨hr0, hR, hT, cs, p1, p2, p3⟩ := given_okR hr hz
    simp only [Prod.mk.injEq] at hr0
    obtain ⟨rfl, rfl⟩ := hr0
    have hl := bytesOf_len s
    obtain ⟨q1, q2, n1, n2⟩ := hR
    obtain ⟨qq, rfl⟩ : ∃ qq : Nat, q = qq := ⟨q.toNat, by omega⟩
    obtain ⟨nn, rfl⟩ : ∃ nn : Nat, n = nn := ⟨n.toNat, by omega⟩
    have HPL := hide (r_Play s cs qq nn w1 (by omega) p1 (good_of hT p1 p2 p3) (parse_ne p1) (by omega) (by omega))
    have HA : Hid (StrAns (bytesOf s) (qq : Int) (nn : Int) fTrace (0, 0) (fTrace cs qq nn)) := ⟨hr, .inr ⟨rfl, ⟨q1, q2, n1, n2⟩, cs, p1, p2, p3, rfl⟩⟩
    have hc4 := parse_lenG p1
    have HW : Hid (∀ l, (playM (codesOf cs) cs.length qq nn).own l = -1 ∨ ∃ k : Nat, k < 4 ∧ (playM (codesOf cs) cs.length qq nn).own l = (k : Int)) := fun l => by
      rcases play_who (fine_of p1 p2 p3) qq nn l with e | ⟨k, hk, e, _⟩
      · exact .inl e
      · exact .inr ⟨k, by omega, e⟩
    have k0 : w1.cell? ⟨w.heap.size, 0, none⟩ = some (.int .i64 3) := by rw [cell_of_row _ _ 0 _ _ _ h0]; rfl
    have k1 : w1.cell? ⟨w.heap.size, 1, none⟩ = some (.int .i64 (qq : Int)) := by rw [cell_of_row _ _ 1 _ _ _ h0]; rfl
    have k2 : w1.cell? ⟨w.heap.size, 2, none⟩ = some (.int .i64 (nn : Int)) := by rw [cell_of_row _ _ 2 _ _ _ h0]; rfl
    have k3 : w1.cell? ⟨w.heap.size, 3, none⟩ = some (.string s) := by rw [cell_of_row _ _ 3 _ _ _ h0]; rfl
    have kb : w.heap.size < w1.heap.size := (Array.getElem?_eq_some_iff.1 h0).1
    have kb1 : w.heap.size + 1 < w1.heap.size := (Array.getElem?_eq_some_iff.1 h1).1
    have H1 := hide h1
    have HB := hide hB
    clear hr hb h0 h1 hB HX p1 p2 p3 hT hl
    go_wp2_with fail
    refine HPL.out.mono ?_
    rintro e w2 ⟨base, Y, rfl, m, hb2⟩
    have k0b := (hb2.cell (p := ⟨w.heap.size, 0, none⟩) kb).trans k0
    have kb2 : w.heap.size < w2.heap.size := Nat.lt_of_lt_of_le kb hb2.size
    have H12 := hide ((hb2.block _ kb1).trans H1.out)
    have HB2 := hide (HB.out.trans (hb2.mono HB.out.size))
    have fo := m.at_.fields.2.2.2.2.2.2.2.2.1
    have fb := m.at_.lt (.inl rfl)
    have HE : Hid (∀ W, Below w2.heap.size w2 W → W.there (w.heap.size + 1) 0 4 ∧ (loadVar 31 ⟨w.heap.size + 1, 0, none⟩).run Tryz.prog (W.setCells (w.heap.size + 1) 0 [.string (fTrace cs qq nn), .slice none 0 0, .int .i64 0, .int .i64 0]) = .ok (.agg #[.string (fTrace cs qq nn), .slice none 0 0, .int .i64 0, .int .i64 0]) (W.setCells (w.heap.size + 1) 0 [.string (fTrace cs qq nn), .slice none 0 0, .int .i64 0, .int .i64 0]) ∧ Below w.heap.size w (W.setCells (w.heap.size + 1) 0 [.string (fTrace cs qq nn), .slice none 0 0, .int .i64 0, .int .i64 0])) := fun W hW => by
      have h6 := (hW.block (w.heap.size + 1) (Array.getElem?_eq_some_iff.1 H12.out).1).trans H12.out
      obtain ⟨a1, a2, _, a4⟩ := ans_end (c := #[.string (fTrace cs qq nn), .slice none 0 0, .int .i64 0, .int .i64 0]) h6 rfl rfl
      exact ⟨a1, a2, a4 _ _ (by omega) (HB2.out.trans (hW.mono HB2.out.size))⟩
    have hfo : w2.cell? ⟨Y.b, 8, none⟩ = some (.string (fTrace cs qq nn)) := fo
    clear m hb2 fo HPL H1 HB HW k0 k1 k2 k3 kb kb1
    generalize fTrace cs qq nn = X at *
    go_wp2_with (refine wpList_store_mid rfl 31 (.tmp 2) _ rfl (w.heap.size + 1) 0 _ rfl rfl (HE.out _ ((Below.refl _ _).alloc (Nat.le_refl _) _)).1 size_a (one4 _ _ _ _ _ _) ?_)
    refine bodyPost_ret (ret_cell Tryz.results8 rfl (HE.out _ ((Below.refl _ _).alloc (Nat.le_refl _) _)).2.1) rfl ?_
    exact ⟨(0, 0), X, rfl, HA.out, (HE.out _ ((Below.refl _ _).alloc (Nat.le_refl _) _)).2.2⟩
  · have HZ : Hid (StrAns (bytesOf s) q n fTrace (r1, r2) ByteArray.empty) := ⟨hr, .inl ⟨hz, rfl⟩⟩
    have hz0 : (r1 != 0) = true := by simp [hz]
    have HE := hide (ans_end (c := #[.string ⟨#[]⟩, .slice none 0 0, .int .i64 r1, .int .i64 r2]) h1 rfl rfl)
    have HB := hide (HE.out.2.2.2 w.heap.size w (by omega) hB)
    clear hr hb h0 h1 hB HX hz
    go_wp2_with (refine wpList_store_mid rfl 31 (.tmp 2) _ rfl (w.heap.size + 1) 0 _ rfl rfl HE.out.1 size_a (one4 _ _ _ _ _ _) ?_)
    refine bodyPost_ret (ret_cell Tryz.results8 rfl HE.out.2.1) rfl ?_
    exact ⟨(r1, r2), ByteArray.empty, rfl, HZ.out, HB.out⟩

set_option maxRecDepth 100000 in
set_option maxHeartbeats 2000000 in
theorem owed_States (s t : ByteArray) (q n : Int) (w : World) (hm : s.size ≤ maxLen) :
    Calls Tryz.prog 8 #[.agg #[.int .i64 5, .int .i64 q, .int .i64 n, .string s, .string t]] w fun e w' => ∃ r x, e = .returned (.agg #[.string x, .slice none 0 0, .int .i64 r.1, .int .i64 r.2]) ∧ StrAns (bytesOf s) q n fStates r x ∧ Below w.heap.size w w' := by
  have HX := hide (fun W => r_Given s q n W hm)
  go_enter Tryz.func8, Tryz.ntmps8
  go_wp2_with fail
  refine (HX.out _).mono ?_
  rintro e w1 ⟨⟨r1, r2⟩, hr, rfl, hb⟩
  obtain ⟨h0, h1, hB⟩ := two_first hb
  by_cases hz : r1 = 0
  · obtain ⟨hr0, hR, hT, cs, p1, p2, p3⟩ := given_okR hr hz
    simp only [Prod.mk.injEq] at hr0
    obtain ⟨rfl, rfl⟩ := hr0
    have hl := bytesOf_len s
    obtain ⟨q1, q2, n1, n2⟩ := hR
    obtain ⟨qq, rfl⟩ : ∃ qq : Nat, q = qq := ⟨q.toNat, by omega⟩
    obtain ⟨nn, rfl⟩ : ∃ nn : Nat, n = nn := ⟨n.toNat, by omega⟩
    have HPL := hide (r_Play s cs qq nn w1 (by omega) p1 (good_of hT p1 p2 p3) (parse_ne p1) (by omega) (by omega))
    have HA : Hid (StrAns (bytesOf s) (qq : Int) (nn : Int) fStates (0, 0) (fStates cs qq nn)) := ⟨hr, .inr ⟨rfl, ⟨q1, q2, n1, n2⟩, cs, p1, p2, p3, rfl⟩⟩
    have hc4 := parse_lenG p1
    have HW : Hid (∀ l, (playM (codesOf cs) cs.length qq nn).own l = -1 ∨ ∃ k : Nat, k < 4 ∧ (playM (codesOf cs) cs.length qq nn).own l = (k : Int)) := fun l => by
      rcases play_who (fine_of p1 p2 p3) qq nn l with e | ⟨k, hk, e, _⟩
      · exact .inl e
      · exact .inr ⟨k, by omega, e⟩
    have k0 : w1.cell? ⟨w.heap.size, 0, none⟩ = some (.int .i64 5) := by rw [cell_of_row _ _ 0 _ _ _ h0]; rfl
    have k1 : w1.cell? ⟨w.heap.size, 1, none⟩ = some (.int .i64 (qq : Int)) := by rw [cell_of_row _ _ 1 _ _ _ h0]; rfl
    have k2 : w1.cell? ⟨w.heap.size, 2, none⟩ = some (.int .i64 (nn : Int)) := by rw [cell_of_row _ _ 2 _ _ _ h0]; rfl
    have k3 : w1.cell? ⟨w.heap.size, 3, none⟩ = some (.string s) := by rw [cell_of_row _ _ 3 _ _ _ h0]; rfl
    have kb : w.heap.size < w1.heap.size := (Array.getElem?_eq_some_iff.1 h0).1
    have kb1 : w.heap.size + 1 < w1.heap.size := (Array.getElem?_eq_some_iff.1 h1).1
    have H1 := hide h1
    have HB := hide hB
    clear hr hb h0 h1 hB HX p1 p2 p3 hT hl
    go_wp2_with fail
    refine HPL.out.mono ?_
    rintro e w2 ⟨base, Y, rfl, m, hb2⟩
    have k0b := (hb2.cell (p := ⟨w.heap.size, 0, none⟩) kb).trans k0
    have kb2 : w.heap.size < w2.heap.size := Nat.lt_of_lt_of_le kb hb2.size
    have H12 := hide ((hb2.block _ kb1).trans H1.out)
    have HB2 := hide (HB.out.trans (hb2.mono HB.out.size))
    have HS : Hid (∀ W, Below w2.heap.size w2 W → Calls Tryz.prog 21 #[.pointer (some ⟨Y.b, 0, none⟩)] W fun e w' => e = .returned (.string (fStates cs qq nn)) ∧ Below W.heap.size W w') := fun W hW => r_States Y _ cs.length _ W (m.at_.below hW) hc4
    have HE : Hid (∀ W, Below w2.heap.size w2 W → W.there (w.heap.size + 1) 0 4 ∧ (loadVar 31 ⟨w.heap.size + 1, 0, none⟩).run Tryz.prog (W.setCells (w.heap.size + 1) 0 [.string (fStates cs qq nn), .slice none 0 0, .int .i64 0, .int .i64 0]) = .ok (.agg #[.string (fStates cs qq nn), .slice none 0 0, .int .i64 0, .int .i64 0]) (W.setCells (w.heap.size + 1) 0 [.string (fStates cs qq nn), .slice none 0 0, .int .i64 0, .int .i64 0]) ∧ Below w.heap.size w (W.setCells (w.heap.size + 1) 0 [.string (fStates cs qq nn), .slice none 0 0, .int .i64 0, .int .i64 0])) := fun W hW => by
      have h6 := (hW.block (w.heap.size + 1) (Array.getElem?_eq_some_iff.1 H12.out).1).trans H12.out
      obtain ⟨a1, a2, _, a4⟩ := ans_end (c := #[.string (fStates cs qq nn), .slice none 0 0, .int .i64 0, .int .i64 0]) h6 rfl rfl
      exact ⟨a1, a2, a4 _ _ (by omega) (HB2.out.trans (hW.mono HB2.out.size))⟩
    clear m hb2 HPL H1 HB HW k0 k1 k2 k3 kb kb1
    generalize fStates cs qq nn = X at *
    go_wp2_with fail
    refine (HS.out _ ((Below.refl _ _).alloc (Nat.le_refl _) _)).mono ?_
    rintro e w3 ⟨rfl, hb3⟩
    have hrow : w3.heap[w2.heap.size]? = some (.cells #[.string ⟨#[]⟩, .slice none 0 0, .int .i64 0, .int .i64 0] 31 (0, 0)) := (hb3.block _ (by simp)).trans (heap_alloc_new w2 _)
    have j0 : w3.cell? ⟨w2.heap.size, 0, none⟩ = some (.string ⟨#[]⟩) := by rw [cell_of_row _ _ 0 _ _ _ hrow]; rfl
    have j1 : w3.cell? ⟨w2.heap.size, 1, none⟩ = some (.slice none 0 0) := by rw [cell_of_row _ _ 1 _ _ _ hrow]; rfl
    have j2 : w3.cell? ⟨w2.heap.size, 2, none⟩ = some (.int .i64 0) := by rw [cell_of_row _ _ 2 _ _ _ hrow]; rfl
    have j3 : w3.cell? ⟨w2.heap.size, 3, none⟩ = some (.int .i64 0) := by rw [cell_of_row _ _ 3 _ _ _ hrow]; rfl
    have j4 : w3.frozen? ⟨w2.heap.size, 0, none⟩ = false := frozen_row hrow 0
    have j5 : w2.heap.size < w3.heap.size := (Array.getElem?_eq_some_iff.1 hrow).1
    have HW3 : Hid (Below w2.heap.size w2 (w3.setCell ⟨w2.heap.size, 0, none⟩ (.string X))) := (((Below.refl _ _).alloc (Nat.le_refl _) _).trans (hb3.mono (by simp))).setCell (Nat.le_refl _) _
    clear hb3 hrow HS
    go_wp2_with (refine wpList_store_mid rfl 31 (.tmp 2) _ rfl (w.heap.size + 1) 0 _ rfl rfl (HE.out _ HW3.out).1 size_a (one4 _ _ _ _ _ _) ?_)
    refine bodyPost_ret (ret_cell Tryz.results8 rfl (HE.out _ HW3.out).2.1) rfl ?_
    exact ⟨(0, 0), X, rfl, HA.out, (HE.out _ HW3.out).2.2⟩
  · have HZ : Hid (StrAns (bytesOf s) q n fStates (r1, r2) ByteArray.empty) := ⟨hr, .inl ⟨hz, rfl⟩⟩
    have hz0 : (r1 != 0) = true := by simp [hz]
    have HE := hide (ans_end (c := #[.string ⟨#[]⟩, .slice none 0 0, .int .i64 r1, .int .i64 r2]) h1 rfl rfl)
    have HB := hide (HE.out.2.2.2 w.heap.size w (by omega) hB)
    clear hr hb h0 h1 hB HX hz
    go_wp2_with (refine wpList_store_mid rfl 31 (.tmp 2) _ rfl (w.heap.size + 1) 0 _ rfl rfl HE.out.1 size_a (one4 _ _ _ _ _ _) ?_)
    refine bodyPost_ret (ret_cell Tryz.results8 rfl HE.out.2.1) rfl ?_
    exact ⟨(r1, r2), ByteArray.empty, rfl, HZ.out, HB.out⟩

set_option maxRecDepth 100000 in
set_option maxHeartbeats 2000000 in
theorem owed_Owners (s t : ByteArray) (q n : Int) (w : World) (hm : s.size ≤ maxLen) :
    Calls Tryz.prog 8 #[.agg #[.int .i64 6, .int .i64 q, .int .i64 n, .string s, .string t]] w fun e w' => ∃ r x, e = .returned (.agg #[.string x, .slice none 0 0, .int .i64 r.1, .int .i64 r.2]) ∧ StrAns (bytesOf s) q n fOwners r x ∧ Below w.heap.size w w' := by
  have HX := hide (fun W => r_Given s q n W hm)
  go_enter Tryz.func8, Tryz.ntmps8
  go_wp2_with fail
  refine (HX.out _).mono ?_
  rintro e w1 ⟨⟨r1, r2⟩, hr, rfl, hb⟩
  obtain ⟨h0, h1, hB⟩ := two_first hb
  by_cases hz : r1 = 0
  · obtain ⟨hr0, hR, hT, cs, p1, p2, p3⟩ := given_okR hr hz
    simp only [Prod.mk.injEq] at hr0
    obtain ⟨rfl, rfl⟩ := hr0
    have hl := bytesOf_len s
    obtain ⟨q1, q2, n1, n2⟩ := hR
    obtain ⟨qq, rfl⟩ : ∃ qq : Nat, q = qq := ⟨q.toNat, by omega⟩
    obtain ⟨nn, rfl⟩ : ∃ nn : Nat, n = nn := ⟨n.toNat, by omega⟩
    have HPL := hide (r_Play s cs qq nn w1 (by omega) p1 (good_of hT p1 p2 p3) (parse_ne p1) (by omega) (by omega))
    have HA : Hid (StrAns (bytesOf s) (qq : Int) (nn : Int) fOwners (0, 0) (fOwners cs qq nn)) := ⟨hr, .inr ⟨rfl, ⟨q1, q2, n1, n2⟩, cs, p1, p2, p3, rfl⟩⟩
    have hc4 := parse_lenG p1
    have HW : Hid (∀ l, (playM (codesOf cs) cs.length qq nn).own l = -1 ∨ ∃ k : Nat, k < 4 ∧ (playM (codesOf cs) cs.length qq nn).own l = (k : Int)) := fun l => by
      rcases play_who (fine_of p1 p2 p3) qq nn l with e | ⟨k, hk, e, _⟩
      · exact .inl e
      · exact .inr ⟨k, by omega, e⟩
    have k0 : w1.cell? ⟨w.heap.size, 0, none⟩ = some (.int .i64 6) := by rw [cell_of_row _ _ 0 _ _ _ h0]; rfl
    have k1 : w1.cell? ⟨w.heap.size, 1, none⟩ = some (.int .i64 (qq : Int)) := by rw [cell_of_row _ _ 1 _ _ _ h0]; rfl
    have k2 : w1.cell? ⟨w.heap.size, 2, none⟩ = some (.int .i64 (nn : Int)) := by rw [cell_of_row _ _ 2 _ _ _ h0]; rfl
    have k3 : w1.cell? ⟨w.heap.size, 3, none⟩ = some (.string s) := by rw [cell_of_row _ _ 3 _ _ _ h0]; rfl
    have kb : w.heap.size < w1.heap.size := (Array.getElem?_eq_some_iff.1 h0).1
    have kb1 : w.heap.size + 1 < w1.heap.size := (Array.getElem?_eq_some_iff.1 h1).1
    have H1 := hide h1
    have HB := hide hB
    clear hr hb h0 h1 hB HX p1 p2 p3 hT hl
    go_wp2_with fail
    refine HPL.out.mono ?_
    rintro e w2 ⟨base, Y, rfl, m, hb2⟩
    have k0b := (hb2.cell (p := ⟨w.heap.size, 0, none⟩) kb).trans k0
    have kb2 : w.heap.size < w2.heap.size := Nat.lt_of_lt_of_le kb hb2.size
    have H12 := hide ((hb2.block _ kb1).trans H1.out)
    have HB2 := hide (HB.out.trans (hb2.mono HB.out.size))
    have HS : Hid (∀ W, Below w2.heap.size w2 W → Calls Tryz.prog 22 #[.pointer (some ⟨Y.b, 0, none⟩)] W fun e w' => e = .returned (.string (fOwners cs qq nn)) ∧ Below W.heap.size W w') := fun W hW => r_Owners Y _ cs.length _ W (m.at_.below hW) HW.out
    have HE : Hid (∀ W, Below w2.heap.size w2 W → W.there (w.heap.size + 1) 0 4 ∧ (loadVar 31 ⟨w.heap.size + 1, 0, none⟩).run Tryz.prog (W.setCells (w.heap.size + 1) 0 [.string (fOwners cs qq nn), .slice none 0 0, .int .i64 0, .int .i64 0]) = .ok (.agg #[.string (fOwners cs qq nn), .slice none 0 0, .int .i64 0, .int .i64 0]) (W.setCells (w.heap.size + 1) 0 [.string (fOwners cs qq nn), .slice none 0 0, .int .i64 0, .int .i64 0]) ∧ Below w.heap.size w (W.setCells (w.heap.size + 1) 0 [.string (fOwners cs qq nn), .slice none 0 0, .int .i64 0, .int .i64 0])) := fun W hW => by
      have h6 := (hW.block (w.heap.size + 1) (Array.getElem?_eq_some_iff.1 H12.out).1).trans H12.out
      obtain ⟨a1, a2, _, a4⟩ := ans_end (c := #[.string (fOwners cs qq nn), .slice none 0 0, .int .i64 0, .int .i64 0]) h6 rfl rfl
      exact ⟨a1, a2, a4 _ _ (by omega) (HB2.out.trans (hW.mono HB2.out.size))⟩
    clear m hb2 HPL H1 HB HW k0 k1 k2 k3 kb kb1
    generalize fOwners cs qq nn = X at *
    go_wp2_with fail
    refine (HS.out _ ((Below.refl _ _).alloc (Nat.le_refl _) _)).mono ?_
    rintro e w3 ⟨rfl, hb3⟩
    have hrow : w3.heap[w2.heap.size]? = some (.cells #[.string ⟨#[]⟩, .slice none 0 0, .int .i64 0, .int .i64 0] 31 (0, 0)) := (hb3.block _ (by simp)).trans (heap_alloc_new w2 _)
    have j0 : w3.cell? ⟨w2.heap.size, 0, none⟩ = some (.string ⟨#[]⟩) := by rw [cell_of_row _ _ 0 _ _ _ hrow]; rfl
    have j1 : w3.cell? ⟨w2.heap.size, 1, none⟩ = some (.slice none 0 0) := by rw [cell_of_row _ _ 1 _ _ _ hrow]; rfl
    have j2 : w3.cell? ⟨w2.heap.size, 2, none⟩ = some (.int .i64 0) := by rw [cell_of_row _ _ 2 _ _ _ hrow]; rfl
    have j3 : w3.cell? ⟨w2.heap.size, 3, none⟩ = some (.int .i64 0) := by rw [cell_of_row _ _ 3 _ _ _ hrow]; rfl
    have j4 : w3.frozen? ⟨w2.heap.size, 0, none⟩ = false := frozen_row hrow 0
    have j5 : w2.heap.size < w3.heap.size := (Array.getElem?_eq_some_iff.1 hrow).1
    have HW3 : Hid (Below w2.heap.size w2 (w3.setCell ⟨w2.heap.size, 0, none⟩ (.string X))) := (((Below.refl _ _).alloc (Nat.le_refl _) _).trans (hb3.mono (by simp))).setCell (Nat.le_refl _) _
    clear hb3 hrow HS
    go_wp2_with (refine wpList_store_mid rfl 31 (.tmp 2) _ rfl (w.heap.size + 1) 0 _ rfl rfl (HE.out _ HW3.out).1 size_a (one4 _ _ _ _ _ _) ?_)
    refine bodyPost_ret (ret_cell Tryz.results8 rfl (HE.out _ HW3.out).2.1) rfl ?_
    exact ⟨(0, 0), X, rfl, HA.out, (HE.out _ HW3.out).2.2⟩
  · have HZ : Hid (StrAns (bytesOf s) q n fOwners (r1, r2) ByteArray.empty) := ⟨hr, .inl ⟨hz, rfl⟩⟩
    have hz0 : (r1 != 0) = true := by simp [hz]
    have HE := hide (ans_end (c := #[.string ⟨#[]⟩, .slice none 0 0, .int .i64 r1, .int .i64 r2]) h1 rfl rfl)
    have HB := hide (HE.out.2.2.2 w.heap.size w (by omega) hB)
    clear hr hb h0 h1 hB HX hz
    go_wp2_with (refine wpList_store_mid rfl 31 (.tmp 2) _ rfl (w.heap.size + 1) 0 _ rfl rfl HE.out.1 size_a (one4 _ _ _ _ _ _) ?_)
    refine bodyPost_ret (ret_cell Tryz.results8 rfl HE.out.2.1) rfl ?_
    exact ⟨(r1, r2), ByteArray.empty, rfl, HZ.out, HB.out⟩

set_option maxRecDepth 100000 in
set_option maxHeartbeats 2000000 in
theorem owed_Log (s t : ByteArray) (q n : Int) (w : World) (hm : s.size ≤ maxLen) :
    Calls Tryz.prog 8 #[.agg #[.int .i64 7, .int .i64 q, .int .i64 n, .string s, .string t]] w fun e w' => ∃ r x, e = .returned (.agg #[.string x, .slice none 0 0, .int .i64 r.1, .int .i64 r.2]) ∧ StrAns (bytesOf s) q n fLogR r x ∧ Below w.heap.size w w' := by
  have HX := hide (fun W => r_Given s q n W hm)
  go_enter Tryz.func8, Tryz.ntmps8
  go_wp2_with fail
  refine (HX.out _).mono ?_
  rintro e w1 ⟨⟨r1, r2⟩, hr, rfl, hb⟩
  obtain ⟨h0, h1, hB⟩ := two_first hb
  by_cases hz : r1 = 0
  · obtain ⟨hr0, hR, hT, cs, p1, p2, p3⟩ := given_okR hr hz
    simp only [Prod.mk.injEq] at hr0
    obtain ⟨rfl, rfl⟩ := hr0
    have hl := bytesOf_len s
    obtain ⟨q1, q2, n1, n2⟩ := hR
    obtain ⟨qq, rfl⟩ : ∃ qq : Nat, q = qq := ⟨q.toNat, by omega⟩
    obtain ⟨nn, rfl⟩ : ∃ nn : Nat, n = nn := ⟨n.toNat, by omega⟩
    have HPL := hide (r_Play s cs qq nn w1 (by omega) p1 (good_of hT p1 p2 p3) (parse_ne p1) (by omega) (by omega))
    have HA : Hid (StrAns (bytesOf s) (qq : Int) (nn : Int) fLogR (0, 0) (fLogR cs qq nn)) := ⟨hr, .inr ⟨rfl, ⟨q1, q2, n1, n2⟩, cs, p1, p2, p3, rfl⟩⟩
    have hc4 := parse_lenG p1
    have HW : Hid (∀ l, (playM (codesOf cs) cs.length qq nn).own l = -1 ∨ ∃ k : Nat, k < 4 ∧ (playM (codesOf cs) cs.length qq nn).own l = (k : Int)) := fun l => by
      rcases play_who (fine_of p1 p2 p3) qq nn l with e | ⟨k, hk, e, _⟩
      · exact .inl e
      · exact .inr ⟨k, by omega, e⟩
    have k0 : w1.cell? ⟨w.heap.size, 0, none⟩ = some (.int .i64 7) := by rw [cell_of_row _ _ 0 _ _ _ h0]; rfl
    have k1 : w1.cell? ⟨w.heap.size, 1, none⟩ = some (.int .i64 (qq : Int)) := by rw [cell_of_row _ _ 1 _ _ _ h0]; rfl
    have k2 : w1.cell? ⟨w.heap.size, 2, none⟩ = some (.int .i64 (nn : Int)) := by rw [cell_of_row _ _ 2 _ _ _ h0]; rfl
    have k3 : w1.cell? ⟨w.heap.size, 3, none⟩ = some (.string s) := by rw [cell_of_row _ _ 3 _ _ _ h0]; rfl
    have kb : w.heap.size < w1.heap.size := (Array.getElem?_eq_some_iff.1 h0).1
    have kb1 : w.heap.size + 1 < w1.heap.size := (Array.getElem?_eq_some_iff.1 h1).1
    have H1 := hide h1
    have HB := hide hB
    clear hr hb h0 h1 hB HX p1 p2 p3 hT hl
    go_wp2_with fail
    refine HPL.out.mono ?_
    rintro e w2 ⟨base, Y, rfl, m, hb2⟩
    have k0b := (hb2.cell (p := ⟨w.heap.size, 0, none⟩) kb).trans k0
    have kb2 : w.heap.size < w2.heap.size := Nat.lt_of_lt_of_le kb hb2.size
    have H12 := hide ((hb2.block _ kb1).trans H1.out)
    have HB2 := hide (HB.out.trans (hb2.mono HB.out.size))
    have fo := m.at_.fields.2.2.2.2.2.2.2.2.2.1
    have fb := m.at_.lt (.inl rfl)
    have HE : Hid (∀ W, Below w2.heap.size w2 W → W.there (w.heap.size + 1) 0 4 ∧ (loadVar 31 ⟨w.heap.size + 1, 0, none⟩).run Tryz.prog (W.setCells (w.heap.size + 1) 0 [.string (fLogR cs qq nn), .slice none 0 0, .int .i64 0, .int .i64 0]) = .ok (.agg #[.string (fLogR cs qq nn), .slice none 0 0, .int .i64 0, .int .i64 0]) (W.setCells (w.heap.size + 1) 0 [.string (fLogR cs qq nn), .slice none 0 0, .int .i64 0, .int .i64 0]) ∧ Below w.heap.size w (W.setCells (w.heap.size + 1) 0 [.string (fLogR cs qq nn), .slice none 0 0, .int .i64 0, .int .i64 0])) := fun W hW => by
      have h6 := (hW.block (w.heap.size + 1) (Array.getElem?_eq_some_iff.1 H12.out).1).trans H12.out
      obtain ⟨a1, a2, _, a4⟩ := ans_end (c := #[.string (fLogR cs qq nn), .slice none 0 0, .int .i64 0, .int .i64 0]) h6 rfl rfl
      exact ⟨a1, a2, a4 _ _ (by omega) (HB2.out.trans (hW.mono HB2.out.size))⟩
    have hfo : w2.cell? ⟨Y.b, 9, none⟩ = some (.string (fLogR cs qq nn)) := fo
    clear m hb2 fo HPL H1 HB HW k0 k1 k2 k3 kb kb1
    generalize fLogR cs qq nn = X at *
    go_wp2_with (refine wpList_store_mid rfl 31 (.tmp 2) _ rfl (w.heap.size + 1) 0 _ rfl rfl (HE.out _ ((Below.refl _ _).alloc (Nat.le_refl _) _)).1 size_a (one4 _ _ _ _ _ _) ?_)
    refine bodyPost_ret (ret_cell Tryz.results8 rfl (HE.out _ ((Below.refl _ _).alloc (Nat.le_refl _) _)).2.1) rfl ?_
    exact ⟨(0, 0), X, rfl, HA.out, (HE.out _ ((Below.refl _ _).alloc (Nat.le_refl _) _)).2.2⟩
  · have HZ : Hid (StrAns (bytesOf s) q n fLogR (r1, r2) ByteArray.empty) := ⟨hr, .inl ⟨hz, rfl⟩⟩
    have hz0 : (r1 != 0) = true := by simp [hz]
    have HE := hide (ans_end (c := #[.string ⟨#[]⟩, .slice none 0 0, .int .i64 r1, .int .i64 r2]) h1 rfl rfl)
    have HB := hide (HE.out.2.2.2 w.heap.size w (by omega) hB)
    clear hr hb h0 h1 hB HX hz
    go_wp2_with (refine wpList_store_mid rfl 31 (.tmp 2) _ rfl (w.heap.size + 1) 0 _ rfl rfl HE.out.1 size_a (one4 _ _ _ _ _ _) ?_)
    refine bodyPost_ret (ret_cell Tryz.results8 rfl HE.out.2.1) rfl ?_
    exact ⟨(r1, r2), ByteArray.empty, rfl, HZ.out, HB.out⟩

set_option maxRecDepth 100000 in
set_option maxHeartbeats 2000000 in
theorem l_same0 (x : ByteArray) (a b : Int) (w : World) :
    Calls Tryz.prog 9 #[.agg #[.string x, .slice none 0 0, .int .i64 a, .int .i64 b], .agg #[.string x, .slice none 0 0, .int .i64 a, .int .i64 b]] w fun e w' => e = .returned (.bool true) ∧ Below w.heap.size w w' := by
  have HB : Hid (Below w.heap.size w ((w.alloc (.cells #[.string x, .slice none 0 0, .int .i64 a, .int .i64 b] 31)).alloc (.cells #[.string x, .slice none 0 0, .int .i64 a, .int .i64 b] 31))) := ((Below.refl _ _).alloc (Nat.le_refl _) _).alloc (by simp) _
  have e1 : (a != a) = false := by simp
  have e2 : (b != b) = false := by simp
  go_enter Tryz.func9, Tryz.ntmps9
  go_wp2_with fail
  go_loopw [5] (fun s wr => s = .int .i64 0 ∧ wr = (w.alloc (.cells #[.string x, .slice none 0 0, .int .i64 a, .int .i64 b] 31)).alloc (.cells #[.string x, .slice none 0 0, .int .i64 a, .int .i64 b] 31)) (fun _ _ => 0)
  case atStart => exact ⟨rfl, rfl⟩
  case round =>
    obtain ⟨rfl, rfl⟩ := hrel
    go_wp2_with fail
    go_ret
    exact ⟨rfl, HB.out⟩

set_option maxRecDepth 100000 in
set_option maxHeartbeats 2000000 in
theorem tells_Out (s t : ByteArray) (q n : Int) (w : World) (hm : s.size ≤ maxLen) :
    Calls Tryz.prog 5 #[.agg #[.int .i64 2, .int .i64 q, .int .i64 n, .string s, .string t]] w fun e w' => e = .returned (.bool true) ∧ Below w.heap.size w w' := by
  have HA := hide (fun W => asked_Out s t q n W hm)
  have HO := hide (fun W => owed_Out s t q n W hm)
  go_enter Tryz.func5, Tryz.ntmps5
  go_wp2_with fail
  refine (HA.out _).mono ?_
  rintro e w1 ⟨⟨r1, r2⟩, x, rfl, hA, hb1⟩
  have h0 : w1.heap[w.heap.size]? = some (.cells #[.int .i64 2, .int .i64 q, .int .i64 n, .string s, .string t] 24 (0, 0)) := (hb1.block _ (by simp)).trans (heap_alloc_new w _)
  have k0 : w1.cell? ⟨w.heap.size, 0, none⟩ = some (.int .i64 2) := by rw [cell_of_row _ _ 0 _ _ _ h0]; rfl
  have k1 : w1.cell? ⟨w.heap.size, 1, none⟩ = some (.int .i64 q) := by rw [cell_of_row _ _ 1 _ _ _ h0]; rfl
  have k2 : w1.cell? ⟨w.heap.size, 2, none⟩ = some (.int .i64 n) := by rw [cell_of_row _ _ 2 _ _ _ h0]; rfl
  have k3 : w1.cell? ⟨w.heap.size, 3, none⟩ = some (.string s) := by rw [cell_of_row _ _ 3 _ _ _ h0]; rfl
  have k4 : w1.cell? ⟨w.heap.size, 4, none⟩ = some (.string t) := by rw [cell_of_row _ _ 4 _ _ _ h0]; rfl
  have kb : w.heap.size < w1.heap.size := (Array.getElem?_eq_some_iff.1 h0).1
  have HB1 : Hid (Below w.heap.size w w1) := ((Below.refl _ _).alloc (Nat.le_refl _) _).trans (hb1.mono (by simp))
  have H1 := hide hA
  clear hA hb1 h0 HA
  go_wp2_with fail
  refine (HO.out _).mono ?_
  rintro e w2 ⟨⟨r3, r4⟩, y, rfl, hO, hb2⟩
  obtain ⟨he, hxy⟩ := H1.out.unique hO (fun _ _ _ _ => rfl)
  simp only [Prod.mk.injEq] at he
  obtain ⟨rfl, rfl⟩ := he
  subst hxy
  have h3 : w2.heap[w1.heap.size]? = some (.cells #[.string x, .slice none 0 0, .int .i64 r1, .int .i64 r2] 31 (0, 0)) := (hb2.block _ (by simp)).trans (heap_alloc_new w1 _)
  have j0 : w2.cell? ⟨w1.heap.size, 0, none⟩ = some (.string x) := by rw [cell_of_row _ _ 0 _ _ _ h3]; rfl
  have j1 : w2.cell? ⟨w1.heap.size, 1, none⟩ = some (.slice none 0 0) := by rw [cell_of_row _ _ 1 _ _ _ h3]; rfl
  have j2 : w2.cell? ⟨w1.heap.size, 2, none⟩ = some (.int .i64 r1) := by rw [cell_of_row _ _ 2 _ _ _ h3]; rfl
  have j3 : w2.cell? ⟨w1.heap.size, 3, none⟩ = some (.int .i64 r2) := by rw [cell_of_row _ _ 3 _ _ _ h3]; rfl
  have jb : w1.heap.size < w2.heap.size := (Array.getElem?_eq_some_iff.1 h3).1
  have HB2 : Hid (Below w.heap.size w w2) := (HB1.out.alloc HB1.out.size _).trans (hb2.mono (by have := HB1.out.size; simp; omega))
  have HSM := hide (fun W => l_same0 x r1 r2 W)
  clear hO hb2 h3 HO H1
  go_wp2_with fail
  refine (HSM.out _).mono ?_
  rintro e w3 ⟨rfl, hb3⟩
  have HB3 := hide ((HB2.out.alloc HB2.out.size _).trans (hb3.mono (by have := HB2.out.size; simp; omega)))
  clear hb3 HSM
  go_wp2_with fail
  go_ret
  exact ⟨rfl, HB3.out⟩

set_option maxRecDepth 100000 in
set_option maxHeartbeats 2000000 in
theorem tells_Trace (s t : ByteArray) (q n : Int) (w : World) (hm : s.size ≤ maxLen) :
    Calls Tryz.prog 5 #[.agg #[.int .i64 3, .int .i64 q, .int .i64 n, .string s, .string t]] w fun e w' => e = .returned (.bool true) ∧ Below w.heap.size w w' := by
  have HA := hide (fun W => asked_Trace s t q n W hm)
  have HO := hide (fun W => owed_Trace s t q n W hm)
  go_enter Tryz.func5, Tryz.ntmps5
  go_wp2_with fail
  refine (HA.out _).mono ?_
  rintro e w1 ⟨⟨r1, r2⟩, x, rfl, hA, hb1⟩
  have h0 : w1.heap[w.heap.size]? = some (.cells #[.int .i64 3, .int .i64 q, .int .i64 n, .string s, .string t] 24 (0, 0)) := (hb1.block _ (by simp)).trans (heap_alloc_new w _)
  have k0 : w1.cell? ⟨w.heap.size, 0, none⟩ = some (.int .i64 3) := by rw [cell_of_row _ _ 0 _ _ _ h0]; rfl
  have k1 : w1.cell? ⟨w.heap.size, 1, none⟩ = some (.int .i64 q) := by rw [cell_of_row _ _ 1 _ _ _ h0]; rfl
  have k2 : w1.cell? ⟨w.heap.size, 2, none⟩ = some (.int .i64 n) := by rw [cell_of_row _ _ 2 _ _ _ h0]; rfl
  have k3 : w1.cell? ⟨w.heap.size, 3, none⟩ = some (.string s) := by rw [cell_of_row _ _ 3 _ _ _ h0]; rfl
  have k4 : w1.cell? ⟨w.heap.size, 4, none⟩ = some (.string t) := by rw [cell_of_row _ _ 4 _ _ _ h0]; rfl
  have kb : w.heap.size < w1.heap.size := (Array.getElem?_eq_some_iff.1 h0).1
  have HB1 : Hid (Below w.heap.size w w1) := ((Below.refl _ _).alloc (Nat.le_refl _) _).trans (hb1.mono (by simp))
  have H1 := hide hA
  clear hA hb1 h0 HA
  go_wp2_with fail
  refine (HO.out _).mono ?_
  rintro e w2 ⟨⟨r3, r4⟩, y, rfl, hO, hb2⟩
  obtain ⟨he, hxy⟩ := H1.out.unique hO (fun _ _ _ _ => rfl)
  simp only [Prod.mk.injEq] at he
  obtain ⟨rfl, rfl⟩ := he
  subst hxy
  have h3 : w2.heap[w1.heap.size]? = some (.cells #[.string x, .slice none 0 0, .int .i64 r1, .int .i64 r2] 31 (0, 0)) := (hb2.block _ (by simp)).trans (heap_alloc_new w1 _)
  have j0 : w2.cell? ⟨w1.heap.size, 0, none⟩ = some (.string x) := by rw [cell_of_row _ _ 0 _ _ _ h3]; rfl
  have j1 : w2.cell? ⟨w1.heap.size, 1, none⟩ = some (.slice none 0 0) := by rw [cell_of_row _ _ 1 _ _ _ h3]; rfl
  have j2 : w2.cell? ⟨w1.heap.size, 2, none⟩ = some (.int .i64 r1) := by rw [cell_of_row _ _ 2 _ _ _ h3]; rfl
  have j3 : w2.cell? ⟨w1.heap.size, 3, none⟩ = some (.int .i64 r2) := by rw [cell_of_row _ _ 3 _ _ _ h3]; rfl
  have jb : w1.heap.size < w2.heap.size := (Array.getElem?_eq_some_iff.1 h3).1
  have HB2 : Hid (Below w.heap.size w w2) := (HB1.out.alloc HB1.out.size _).trans (hb2.mono (by have := HB1.out.size; simp; omega))
  have HSM := hide (fun W => l_same0 x r1 r2 W)
  clear hO hb2 h3 HO H1
  go_wp2_with fail
  refine (HSM.out _).mono ?_
  rintro e w3 ⟨rfl, hb3⟩
  have HB3 := hide ((HB2.out.alloc HB2.out.size _).trans (hb3.mono (by have := HB2.out.size; simp; omega)))
  clear hb3 HSM
  go_wp2_with fail
  go_ret
  exact ⟨rfl, HB3.out⟩

set_option maxRecDepth 100000 in
set_option maxHeartbeats 2000000 in
theorem tells_States (s t : ByteArray) (q n : Int) (w : World) (hm : s.size ≤ maxLen) :
    Calls Tryz.prog 5 #[.agg #[.int .i64 5, .int .i64 q, .int .i64 n, .string s, .string t]] w fun e w' => e = .returned (.bool true) ∧ Below w.heap.size w w' := by
  have HA := hide (fun W => asked_States s t q n W hm)
  have HO := hide (fun W => owed_States s t q n W hm)
  go_enter Tryz.func5, Tryz.ntmps5
  go_wp2_with fail
  refine (HA.out _).mono ?_
  rintro e w1 ⟨⟨r1, r2⟩, x, rfl, hA, hb1⟩
  have h0 : w1.heap[w.heap.size]? = some (.cells #[.int .i64 5, .int .i64 q, .int .i64 n, .string s, .string t] 24 (0, 0)) := (hb1.block _ (by simp)).trans (heap_alloc_new w _)
  have k0 : w1.cell? ⟨w.heap.size, 0, none⟩ = some (.int .i64 5) := by rw [cell_of_row _ _ 0 _ _ _ h0]; rfl
  have k1 : w1.cell? ⟨w.heap.size, 1, none⟩ = some (.int .i64 q) := by rw [cell_of_row _ _ 1 _ _ _ h0]; rfl
  have k2 : w1.cell? ⟨w.heap.size, 2, none⟩ = some (.int .i64 n) := by rw [cell_of_row _ _ 2 _ _ _ h0]; rfl
  have k3 : w1.cell? ⟨w.heap.size, 3, none⟩ = some (.string s) := by rw [cell_of_row _ _ 3 _ _ _ h0]; rfl
  have k4 : w1.cell? ⟨w.heap.size, 4, none⟩ = some (.string t) := by rw [cell_of_row _ _ 4 _ _ _ h0]; rfl
  have kb : w.heap.size < w1.heap.size := (Array.getElem?_eq_some_iff.1 h0).1
  have HB1 : Hid (Below w.heap.size w w1) := ((Below.refl _ _).alloc (Nat.le_refl _) _).trans (hb1.mono (by simp))
  have H1 := hide hA
  clear hA hb1 h0 HA
  go_wp2_with fail
  refine (HO.out _).mono ?_
  rintro e w2 ⟨⟨r3, r4⟩, y, rfl, hO, hb2⟩
  obtain ⟨he, hxy⟩ := H1.out.unique hO (fun _ _ _ _ => rfl)
  simp only [Prod.mk.injEq] at he
  obtain ⟨rfl, rfl⟩ := he
  subst hxy
  have h3 : w2.heap[w1.heap.size]? = some (.cells #[.string x, .slice none 0 0, .int .i64 r1, .int .i64 r2] 31 (0, 0)) := (hb2.block _ (by simp)).trans (heap_alloc_new w1 _)
  have j0 : w2.cell? ⟨w1.heap.size, 0, none⟩ = some (.string x) := by rw [cell_of_row _ _ 0 _ _ _ h3]; rfl
  have j1 : w2.cell? ⟨w1.heap.size, 1, none⟩ = some (.slice none 0 0) := by rw [cell_of_row _ _ 1 _ _ _ h3]; rfl
  have j2 : w2.cell? ⟨w1.heap.size, 2, none⟩ = some (.int .i64 r1) := by rw [cell_of_row _ _ 2 _ _ _ h3]; rfl
  have j3 : w2.cell? ⟨w1.heap.size, 3, none⟩ = some (.int .i64 r2) := by rw [cell_of_row _ _ 3 _ _ _ h3]; rfl
  have jb : w1.heap.size < w2.heap.size := (Array.getElem?_eq_some_iff.1 h3).1
  have HB2 : Hid (Below w.heap.size w w2) := (HB1.out.alloc HB1.out.size _).trans (hb2.mono (by have := HB1.out.size; simp; omega))
  have HSM := hide (fun W => l_same0 x r1 r2 W)
  clear hO hb2 h3 HO H1
  go_wp2_with fail
  refine (HSM.out _).mono ?_
  rintro e w3 ⟨rfl, hb3⟩
  have HB3 := hide ((HB2.out.alloc HB2.out.size _).trans (hb3.mono (by have := HB2.out.size; simp; omega)))
  clear hb3 HSM
  go_wp2_with fail
  go_ret
  exact ⟨rfl, HB3.out⟩

set_option maxRecDepth 100000 in
set_option maxHeartbeats 2000000 in
theorem tells_Owners (s t : ByteArray) (q n : Int) (w : World) (hm : s.size ≤ maxLen) :
    Calls Tryz.prog 5 #[.agg #[.int .i64 6, .int .i64 q, .int .i64 n, .string s, .string t]] w fun e w' => e = .returned (.bool true) ∧ Below w.heap.size w w' := by
  have HA := hide (fun W => asked_Owners s t q n W hm)
  have HO := hide (fun W => owed_Owners s t q n W hm)
  go_enter Tryz.func5, Tryz.ntmps5
  go_wp2_with fail
  refine (HA.out _).mono ?_
  rintro e w1 ⟨⟨r1, r2⟩, x, rfl, hA, hb1⟩
  have h0 : w1.heap[w.heap.size]? = some (.cells #[.int .i64 6, .int .i64 q, .int .i64 n, .string s, .string t] 24 (0, 0)) := (hb1.block _ (by simp)).trans (heap_alloc_new w _)
  have k0 : w1.cell? ⟨w.heap.size, 0, none⟩ = some (.int .i64 6) := by rw [cell_of_row _ _ 0 _ _ _ h0]; rfl
  have k1 : w1.cell? ⟨w.heap.size, 1, none⟩ = some (.int .i64 q) := by rw [cell_of_row _ _ 1 _ _ _ h0]; rfl
  have k2 : w1.cell? ⟨w.heap.size, 2, none⟩ = some (.int .i64 n) := by rw [cell_of_row _ _ 2 _ _ _ h0]; rfl
  have k3 : w1.cell? ⟨w.heap.size, 3, none⟩ = some (.string s) := by rw [cell_of_row _ _ 3 _ _ _ h0]; rfl
  have k4 : w1.cell? ⟨w.heap.size, 4, none⟩ = some (.string t) := by rw [cell_of_row _ _ 4 _ _ _ h0]; rfl
  have kb : w.heap.size < w1.heap.size := (Array.getElem?_eq_some_iff.1 h0).1
  have HB1 : Hid (Below w.heap.size w w1) := ((Below.refl _ _).alloc (Nat.le_refl _) _).trans (hb1.mono (by simp))
  have H1 := hide hA
  clear hA hb1 h0 HA
  go_wp2_with fail
  refine (HO.out _).mono ?_
  rintro e w2 ⟨⟨r3, r4⟩, y, rfl, hO, hb2⟩
  obtain ⟨he, hxy⟩ := H1.out.unique hO (fun _ _ _ _ => rfl)
  simp only [Prod.mk.injEq] at he
  obtain ⟨rfl, rfl⟩ := he
  subst hxy
  have h3 : w2.heap[w1.heap.size]? = some (.cells #[.string x, .slice none 0 0, .int .i64 r1, .int .i64 r2] 31 (0, 0)) := (hb2.block _ (by simp)).trans (heap_alloc_new w1 _)
  have j0 : w2.cell? ⟨w1.heap.size, 0, none⟩ = some (.string x) := by rw [cell_of_row _ _ 0 _ _ _ h3]; rfl
  have j1 : w2.cell? ⟨w1.heap.size, 1, none⟩ = some (.slice none 0 0) := by rw [cell_of_row _ _ 1 _ _ _ h3]; rfl
  have j2 : w2.cell? ⟨w1.heap.size, 2, none⟩ = some (.int .i64 r1) := by rw [cell_of_row _ _ 2 _ _ _ h3]; rfl
  have j3 : w2.cell? ⟨w1.heap.size, 3, none⟩ = some (.int .i64 r2) := by rw [cell_of_row _ _ 3 _ _ _ h3]; rfl
  have jb : w1.heap.size < w2.heap.size := (Array.getElem?_eq_some_iff.1 h3).1
  have HB2 : Hid (Below w.heap.size w w2) := (HB1.out.alloc HB1.out.size _).trans (hb2.mono (by have := HB1.out.size; simp; omega))
  have HSM := hide (fun W => l_same0 x r1 r2 W)
  clear hO hb2 h3 HO H1
  go_wp2_with fail
  refine (HSM.out _).mono ?_
  rintro e w3 ⟨rfl, hb3⟩
  have HB3 := hide ((HB2.out.alloc HB2.out.size _).trans (hb3.mono (by have := HB2.out.size; simp; omega)))
  clear hb3 HSM
  go_wp2_with fail
  go_ret
  exact ⟨rfl, HB3.out⟩

set_option maxRecDepth 100000 in
set_option maxHeartbeats 2000000 in
theorem tells_Log (s t : ByteArray) (q n : Int) (w : World) (hm : s.size ≤ maxLen) (hfg : ∀ cs, parse (bytesOf s) = .inr cs → badCods cs = none → ChkCods cs (0, 0) → fLog cs q.toNat n.toNat = fLogR cs q.toNat n.toNat) :
    Calls Tryz.prog 5 #[.agg #[.int .i64 7, .int .i64 q, .int .i64 n, .string s, .string t]] w fun e w' => e = .returned (.bool true) ∧ Below w.heap.size w w' := by
  have HA := hide (fun W => asked_Log s t q n W hm)
  have HO := hide (fun W => owed_Log s t q n W hm)
  have HFG := hide hfg
  clear hfg
  go_enter Tryz.func5, Tryz.ntmps5
  go_wp2_with fail
  refine (HA.out _).mono ?_
  rintro e w1 ⟨⟨r1, r2⟩, x, rfl, hA, hb1⟩
  have h0 : w1.heap[w.heap.size]? = some (.cells #[.int .i64 7, .int .i64 q, .int .i64 n, .string s, .string t] 24 (0, 0)) := (hb1.block _ (by simp)).trans (heap_alloc_new w _)
  have k0 : w1.cell? ⟨w.heap.size, 0, none⟩ = some (.int .i64 7) := by rw [cell_of_row _ _ 0 _ _ _ h0]; rfl
  have k1 : w1.cell? ⟨w.heap.size, 1, none⟩ = some (.int .i64 q) := by rw [cell_of_row _ _ 1 _ _ _ h0]; rfl
  have k2 : w1.cell? ⟨w.heap.size, 2, none⟩ = some (.int .i64 n) := by rw [cell_of_row _ _ 2 _ _ _ h0]; rfl
  have k3 : w1.cell? ⟨w.heap.size, 3, none⟩ = some (.string s) := by rw [cell_of_row _ _ 3 _ _ _ h0]; rfl
  have k4 : w1.cell? ⟨w.heap.size, 4, none⟩ = some (.string t) := by rw [cell_of_row _ _ 4 _ _ _ h0]; rfl
  have kb : w.heap.size < w1.heap.size := (Array.getElem?_eq_some_iff.1 h0).1
  have HB1 : Hid (Below w.heap.size w w1) := ((Below.refl _ _).alloc (Nat.le_refl _) _).trans (hb1.mono (by simp))
  have H1 := hide hA
  clear hA hb1 h0 HA
  go_wp2_with fail
  refine (HO.out _).mono ?_
  rintro e w2 ⟨⟨r3, r4⟩, y, rfl, hO, hb2⟩
  obtain ⟨he, hxy⟩ := H1.out.unique hO HFG.out
  simp only [Prod.mk.injEq] at he
  obtain ⟨rfl, rfl⟩ := he
  subst hxy
  have h3 : w2.heap[w1.heap.size]? = some (.cells #[.string x, .slice none 0 0, .int .i64 r1, .int .i64 r2] 31 (0, 0)) := (hb2.block _ (by simp)).trans (heap_alloc_new w1 _)
  have j0 : w2.cell? ⟨w1.heap.size, 0, none⟩ = some (.string x) := by rw [cell_of_row _ _ 0 _ _ _ h3]; rfl
  have j1 : w2.cell? ⟨w1.heap.size, 1, none⟩ = some (.slice none 0 0) := by rw [cell_of_row _ _ 1 _ _ _ h3]; rfl
  have j2 : w2.cell? ⟨w1.heap.size, 2, none⟩ = some (.int .i64 r1) := by rw [cell_of_row _ _ 2 _ _ _ h3]; rfl
  have j3 : w2.cell? ⟨w1.heap.size, 3, none⟩ = some (.int .i64 r2) := by rw [cell_of_row _ _ 3 _ _ _ h3]; rfl
  have jb : w1.heap.size < w2.heap.size := (Array.getElem?_eq_some_iff.1 h3).1
  have HB2 : Hid (Below w.heap.size w w2) := (HB1.out.alloc HB1.out.size _).trans (hb2.mono (by have := HB1.out.size; simp; omega))
  have HSM := hide (fun W => l_same0 x r1 r2 W)
  clear hO hb2 h3 HO H1
  go_wp2_with fail
  refine (HSM.out _).mono ?_
  rintro e w3 ⟨rfl, hb3⟩
  have HB3 := hide ((HB2.out.alloc HB2.out.size _).trans (hb3.mono (by have := HB2.out.size; simp; omega)))
  clear hb3 HSM
  go_wp2_with fail
  go_ret
  exact ⟨rfl, HB3.out⟩

set_option maxHeartbeats 1000000 in
theorem l_Logs (s : ByteArray) (q n : Int) (w : World) (hm : s.size ≤ maxLen) (hfg : ∀ cs, parse (bytesOf s) = .inr cs → badCods cs = none → ChkCods cs (0, 0) → fLog cs q.toNat n.toNat = fLogR cs q.toNat n.toNat) :
    Calls Tryz.prog 3 #[.string s, .int .i64 q, .int .i64 n] w fun e w' => e = .returned (.bool true) ∧ Below w.heap.size w w' := by
  have HT := hide (fun t W => tells_Log s t q n W hm hfg)
  clear hfg
  go_enter Tryz.func3, Tryz.ntmps3
  go_wp2_with fail
  refine (HT.out _ _).mono ?_
  rintro e w1 ⟨rfl, hb1⟩
  have HB := hide hb1
  clear hb1 HT
  go_wp2_with fail
  go_ret
  exact ⟨rfl, HB.out⟩

end Go.Proofs.YtjbmflgamogefabGreat
