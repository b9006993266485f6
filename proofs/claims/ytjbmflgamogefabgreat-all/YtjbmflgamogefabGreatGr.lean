/- The code's machine begins; prepare. -/
import Derived.Test.YtjbmflgamogefabGreatGn
import Derived.Test.YtjbmflgamogefabGreatMachA
namespace Go.Proofs.YtjbmflgamogefabGreat
open Go.RowKit

def codesOf (cs : Cods) : Nat → List In := fun k => (cs.getD k (0, [])).2
theorem codesOf_at {cs : Cods} {k : Nat} {x : Nat × List In} (h : cs[k]? = some x) : codesOf cs k = x.2 := by
  unfold codesOf; rw [List.getD_eq_getElem?_getD, h]; rfl
theorem codes_mem {cs : Cods} {k : Nat} (h : k < cs.length) : ∃ x, cs[k]? = some x ∧ x ∈ cs ∧ codesOf cs k = x.2 :=
  ⟨cs[k], by simp [h], List.getElem_mem h, codesOf_at (by simp [h])⟩
theorem sound_ne {I : List In} (h : Sound I) : ¬ I = [] := by
  intro e
  have := (h _ (Reach.first I)).1
  rw [e] at this
  simp at this
theorem fine_of {T : List Int} {cs : Cods} (hp : parse T = .inr cs) (hb : badCods cs = none) (hc : ChkCods cs (0, 0)) : Fine (codesOf cs) cs.length where
  ok := fun k hk => by obtain ⟨x, _, h1, h2⟩ := codes_mem hk; rw [h2]; exact ok_of hp hb x h1
  sound := fun k hk => by obtain ⟨x, _, h1, h2⟩ := codes_mem hk; rw [h2]; exact sound_all (ok_of hp hb) hc x h1
theorem pread_ne (T : List Int) : ∀ (k : Nat) (acc cs : Cods) (i : Nat), pread T k acc i = .inr cs → ¬ cs = [] := by
  intro k
  induction k with
  | zero =>
    intro acc cs i h
    rw [pread] at h
    split at h
    · cases h
    · split at h
      · cases h; simp
      · cases h
  | succ k ih =>
    intro acc cs i h
    rw [pread] at h
    split at h
    · cases h
    · split at h
      · cases h; simp
      · exact ih _ _ _ h
theorem parse_ne {T : List Int} {cs : Cods} (h : parse T = .inr cs) : 0 < cs.length := by
  have := pread_ne T 3 [] cs 0 h
  cases cs with
  | nil => exact absurd rfl this
  | cons a t => simp

def Y0 (qv : Value) (g : Option Nat) : GY := ⟨fun _ _ => 0, fun i => if i = 0 then qv else .slice none 0 0, fun i => if i = 0 then g else none⟩
theorem NewAt.toG {b n : Nat} {w wr W : World} {tv qv : Value} {M : List Value} {cs : Cods} (h : NewAt w.heap.size b wr tv qv M n) (hM : M.length = n) (hn : 0 < n) (hcs : cs.length = n) (hL : Lists w cs M n) (hne : ∀ x ∈ cs, ¬ x.2 = []) (hb : Below w.heap.size w wr) (hW : Below wr.heap.size wr W) {b2 : Nat} (h2 : W.heap[b2]? = some (.cells (mCells tv qv) 74 (0, 0))) (hb2 : w.heap.size ≤ b2) :
    ∃ K Y, K.base = w.heap.size ∧ K.b = b2 ∧ K.n = n ∧ K.C = codesOf cs ∧ GAt K W Y (beginM n) := by
  have hl2 := h.low.2
  have hBW : Below w.heap.size w W := hb.trans (hW.mono hl2)
  obtain ⟨qg, q1, q2⟩ := h.que
  rcases h.row.2 with ⟨_, e⟩ | ⟨gt, cap, cur, e1, e2, e3, e4, e5, e6, e7⟩
  · omega
  have e3' : W.heap[gt]? = some (.cells cur 80 (0, 0)) := (hW.block _ (Array.getElem?_eq_some_iff.1 e3).1).trans e3
  have hget : ∀ (k : Nat) (v : Value), M[k]? = some v → ∀ o, o < 12 → cur[k * 12 + o]? = (thr1 v)[o]? := fun k v hk o ho => by
    have hk2 := (List.getElem?_eq_some_iff.1 hk).1
    have h1 := thCells_get M k v hk o ho
    rw [← e7, List.getElem?_take] at h1
    rw [if_pos (by omega)] at h1
    rw [← h1]; simp
  refine ⟨⟨w.heap.size, b2, gt, n, cap, fun k => M.getD k (.slice none 0 0), codesOf cs⟩, Y0 qv qg, rfl, rfl, rfl, rfl, ?_⟩
  refine ⟨⟨_, h2, rfl, ?_, fun j hj => ?_, fun l hl => ?_, fun i hi => ?_⟩, ⟨cur, e3', fun k hk => ?_⟩, fun k hk j v hv => ?_, fun i hi => ?_, fun i j g hi hj x1 x2 => ?_, fun k hk => ?_, hb2, e2, fun i g hi hg => ?_, ?_⟩
  · rw [mCells_eq, e1, hM]; rfl
  · rw [mCells_eq]
    match j, hj with
    | 0, _ | 1, _ | 2, _ | 3, _ | 4, _ | 5, _ | 6, _ | 7, _ => rfl
  · rw [mCells_eq]
    match l, hl with
    | 0, _ | 1, _ | 2, _ | 3, _ => rfl
  · rw [mCells_eq]
    match i, hi with
    | 0, _ | 1, _ | 2, _ | 3, _ | 4, _ | 5, _ | 6, _ | 7, _ | 8, _ | 9, _ | 10, _ | 11, _ => rfl
  · simp only at hk
    obtain ⟨v, hv⟩ : ∃ v, M[k]? = some v := ⟨M[k], by simp [hM, hk]⟩
    have g0 := hget k v hv
    refine ⟨?_, ?_, fun j hj => ?_, ?_, ?_, ?_, ?_⟩
    · have := g0 0 (by omega); rw [Nat.add_zero] at this; rw [this]; show _ = some (M.getD k (.slice none 0 0)); rw [List.getD_eq_getElem?_getD, hv]; rfl
    · rw [g0 1 (by omega)]; rfl
    · rw [g0 (2 + j) (by omega)]
      match j, hj with
      | 0, _ | 1, _ | 2, _ | 3, _ | 4, _ | 5, _ => rfl
    · rw [g0 8 (by omega)]; rfl
    · rw [g0 9 (by omega)]; rfl
    · rw [g0 10 (by omega)]; rfl
    · rw [g0 11 (by omega)]; rfl
  · simp [beginM] at hv
  · by_cases e : i = 0
    · subst e; exact q1.kept (fun x hx => hW.block x (q1.lt x hx))
    · have ec : gcont (beginM n) i = [] := by
        unfold gcont beginM
        simp only [e, if_false]
        repeat' split
        all_goals rfl
      rw [ec]
      simp only [Y0, e, if_false]
      exact .inl ⟨rfl, rfl, rfl⟩
  · simp only [Y0] at x1 x2
    by_cases ei : i = 0
    · by_cases ej : j = 0
      · omega
      · rw [if_neg ej] at x2; cases x2
    · rw [if_neg ei] at x1; cases x1
  · simp only at hk
    obtain ⟨x, hx, hxm, hxc⟩ := codes_mem (cs := cs) (k := k) (by omega)
    obtain ⟨lv, l1, l2⟩ := hL k x hk hx
    have hpos : 0 < x.2.length := List.length_pos_iff.2 (hne x hxm)
    obtain ⟨g, cap', v1, _, v3, v4⟩ := row_cell l2 hpos
    refine ⟨g, cap', by simp only [List.getD_eq_getElem?_getD, l1, hxc]; exact v1, v3, fun j c a hj => ?_⟩
    change (codesOf cs k)[j]? = some (c, a) at hj
    rw [hxc] at hj
    obtain ⟨g1, g2⟩ := giCells_get x.2 j _ hj
    rw [hBW.cell (p := ⟨g, j * 2, none⟩) v3, hBW.cell (p := ⟨g, j * 2 + 1, none⟩) v3]
    exact ⟨v4 _ _ g1, v4 _ _ g2⟩
  · simp only [Y0] at hg
    by_cases e : i = 0
    · rw [if_pos e] at hg; exact q2 g hg
    · rw [if_neg e] at hg; cases hg
  · have := hW.size; simp only; omega

def inR (q n : Int) : Prop := 1 ≤ q ∧ q ≤ 9 ∧ 0 ≤ n ∧ n ≤ 60
/-- The errors of the machine's calls. -/
def GivenRel (T : List Int) (q n : Int) (r : Int × Int) : Prop := ∃ c, CheckRel T c ∧ ((¬ c.1 = 0 ∧ r = c) ∨ (c.1 = 0 ∧ ¬ inR q n ∧ r = (8, 0)) ∨ (c.1 = 0 ∧ inR q n ∧ r = (0, 0)))
theorem GivenRel.unique {T : List Int} {q n : Int} {r r' : Int × Int} (h : GivenRel T q n r) (h' : GivenRel T q n r') : r = r' := by
  obtain ⟨c, h1, h2⟩ := h
  obtain ⟨c', h1', h2'⟩ := h'
  obtain rfl := h1.unique h1'
  rcases h2 with ⟨a, b⟩ | ⟨a, b, c⟩ | ⟨a, b, c⟩ <;> rcases h2' with ⟨a', b'⟩ | ⟨a', b', c'⟩ | ⟨a', b', c'⟩ <;> first | exact absurd a a' | exact absurd a' a | exact absurd b b' | exact absurd b' b | (rw [b, b']) | (rw [c, c'])
/-- What comes with OK. -/
def AdmQ (w : World) (v : Value) (T : List Int) (q n : Int) (r : Int × Int) : Prop := r.1 = 0 → ∃ cs, parse T = .inr cs ∧ badCods cs = none ∧ ChkCods cs (0, 0) ∧ GCods w 0 v cs ∧ r = (0, 0) ∧ inR q n

set_option maxHeartbeats 1000000 in
theorem g_prepare (s : ByteArray) (q n : Int) (w : World) (hm : s.size ≤ maxLen) :
    Calls Tryz.prog 40 #[.string s, .int .i64 q, .int .i64 n] w fun e w' => ∃ (r : Int × Int) (v : Value), e = .returned (.tuple #[v, .int .i64 r.1, .int .i64 r.2]) ∧ GivenRel (bytesOf s) q n r ∧ Below w.heap.size w w' ∧ AdmQ w' v (bytesOf s) q n r := by
  have HC := hide (g_checked s w hm)
  go_enter Tryz.func40, Tryz.ntmps40
  go_wp2_with fail
  refine HC.out.mono ?_
  rintro e w1 ⟨⟨r1, r2⟩, v, hr, rfl, hb1, had⟩
  have HR := hide hr
  have HB := hide hb1
  have HA := hide had
  clear hr hb1 had HC
  by_cases hz : r1 = 0
  · have hz0 : (r1 != 0) = false := by simp [hz]
    have hv : ∃ ao n c, v = .slice ao n c := by
      obtain ⟨cs, _, _, _, h4, _⟩ := HA.out hz
      obtain ⟨ao, cap, e⟩ := h4.slice
      exact ⟨ao, _, cap, e⟩
    obtain ⟨va, vn, vc, rfl⟩ := hv
    have HY : Hid (inR q n → GivenRel (bytesOf s) q n (0, 0) ∧ AdmQ w1 (.slice va vn vc) (bytesOf s) q n (0, 0)) := fun hi => ⟨⟨_, HR.out, .inr (.inr ⟨hz, hi, rfl⟩)⟩, fun _ => by
      obtain ⟨cs, h1, h2, h3, h4, _⟩ := HA.out hz
      exact ⟨cs, h1, h2, h3, h4, rfl, hi⟩⟩
    have HX : Hid (¬ inR q n → GivenRel (bytesOf s) q n (8, 0)) := fun hi => ⟨_, HR.out, .inr (.inl ⟨hz, hi, rfl⟩)⟩
    clear hz HA HR
    by_cases h1 : q < 1
    · have X := hide (HX.out (fun hi => by have := hi.1; omega))
      clear HX HY
      go_wp2_with fail
      go_ret3
      exact ⟨(8, 0), _, rfl, X.out, HB.out, fun h => absurd h (by decide)⟩
    · by_cases h2 : 9 < q
      · have X := hide (HX.out (fun hi => by have := hi.2.1; omega))
        clear HX HY
        go_wp2_with fail
        go_ret3
        exact ⟨(8, 0), _, rfl, X.out, HB.out, fun h => absurd h (by decide)⟩
      · by_cases h3 : n < 0
        · have X := hide (HX.out (fun hi => by have := hi.2.2.1; omega))
          clear HX HY
          go_wp2_with fail
          go_ret3
          exact ⟨(8, 0), _, rfl, X.out, HB.out, fun h => absurd h (by decide)⟩
        · by_cases h4 : 60 < n
          · have X := hide (HX.out (fun hi => by have := hi.2.2.2; omega))
            clear HX HY
            go_wp2_with fail
            go_ret3
            exact ⟨(8, 0), _, rfl, X.out, HB.out, fun h => absurd h (by decide)⟩
          · have X := hide (HY.out ⟨by omega, by omega, by omega, by omega⟩)
            clear HX HY
            go_wp2_with fail
            go_ret3
            exact ⟨(0, 0), _, rfl, X.out.1, HB.out, X.out.2⟩
  · have hz0 : (r1 != 0) = true := by simp [hz]
    have X : Hid (GivenRel (bytesOf s) q n (r1, r2)) := ⟨_, HR.out, .inl ⟨hz, rfl⟩⟩
    have HZ := hide hz
    clear hz HA HR
    go_wp2_with fail
    go_ret3
    exact ⟨(r1, r2), _, rfl, X.out, HB.out, fun h => absurd h HZ.out⟩

/-- What one can see of the machine. -/
structure GSee (K : GK) (w : World) (Y : GY) (m : Mac) (c : Array Value) : Prop where
  self : w.heap[K.b]? = some (.cells c 74 (0, 0))
  size : c.size = 25
  head : c[0]? = some (.slice (some ⟨K.gt, 0, none⟩) K.n K.tcap) ∧ (∀ j, j < 8 → c[1 + j]? = some (.int .i64 (m.cells j))) ∧ (∀ l, l < 4 → c[9 + l * 3]? = some (.int .i64 (m.own l))) ∧ ∀ i, i < 12 → c[gpos i]? = some (Y.val i)
  thr : ∃ cur, w.heap[K.gt]? = some (.cells cur 80 (0, 0)) ∧ ∀ k, k < K.n → cur[k * 12]? = some (K.lv k) ∧ cur[k * 12 + 1]? = some (.int .i64 ((m.th k).pc : Nat)) ∧ (∀ j, j < 6 → cur[k * 12 + (2 + j)]? = some (.int .i64 (Y.jk k j))) ∧ cur[k * 12 + 8]? = some (.int .i64 ((m.th k).stk.length : Nat)) ∧ cur[k * 12 + 9]? = some (.int .u8 (m.th k).sta) ∧ cur[k * 12 + 10]? = some (.int .i64 (m.th k).wake) ∧ cur[k * 12 + 11]? = some (.int .i64 ((m.th k).bat : Nat))
  sl : ∀ i, i < 12 → SlG (gE i) (gI i) w (Y.val i) (gcont m i) (Y.blk i)
  one : c.all (·.oneCell') = true
  lvs : ∀ k, k < K.n → (K.lv k).oneCell' = true
theorem all_cells {c : Array Value} {K : GK} {Y : GY} {m : Mac} (hs : c.size = 25) (h : c[0]? = some (.slice (some ⟨K.gt, 0, none⟩) K.n K.tcap) ∧ (∀ j, j < 8 → c[1 + j]? = some (.int .i64 (m.cells j))) ∧ (∀ l, l < 4 → c[9 + l * 3]? = some (.int .i64 (m.own l))) ∧ ∀ i, i < 12 → c[gpos i]? = some (Y.val i)) (hv : ∀ i, i < 12 → (Y.val i).oneCell' = true) : c.all (·.oneCell') = true := by
  refine all_one (fun i v hi => ?_)
  have hlt : i < 25 := by have := (Array.getElem?_eq_some_iff.1 hi).1; omega
  obtain ⟨h0, h1, h2, h3⟩ := h
  have key : ∀ k x, c[k]? = some x → k = i → x.oneCell' = true → v.oneCell' = true := fun k x hk e hx => by
    subst e; rw [hk] at hi; cases hi; exact hx
  by_cases e0 : i = 0
  · exact key 0 _ h0 e0.symm rfl
  by_cases e1 : i < 9
  · exact key _ _ (h1 (i - 1) (by omega)) (by omega) rfl
  by_cases e2 : i < 21
  · by_cases e3 : (i - 9) % 3 = 0
    · exact key _ _ (h2 ((i - 9) / 3) (by omega)) (by omega) rfl
    · by_cases e4 : (i - 9) % 3 = 1
      · exact key _ _ (h3 (1 + (i - 9) / 3) (by omega)) (by rw [gpos_blk (by omega)]; omega) (hv _ (by omega))
      · exact key _ _ (h3 (5 + (i - 9) / 3) (by omega)) (by rw [gpos_wai (by omega)]; omega) (hv _ (by omega))
  · by_cases e5 : i = 21
    · exact key _ _ (h3 0 (by omega)) (by rw [e5]; rfl) (hv _ (by omega))
    · by_cases e6 : i = 22
      · exact key _ _ (h3 9 (by omega)) (by rw [e6]; rfl) (hv _ (by omega))
      · by_cases e7 : i = 23
        · exact key _ _ (h3 10 (by omega)) (by rw [e7]; rfl) (hv _ (by omega))
        · exact key _ _ (h3 11 (by omega)) (by rw [show i = 24 by omega]; rfl) (hv _ (by omega))
theorem GAt.see {K : GK} {w : World} {Y : GY} {m : Mac} (h : GAt K w Y m) : ∃ c, GSee K w Y m c := by
  obtain ⟨c, h1, h2, h3⟩ := h.self
  refine ⟨c, h1, h2, h3, h.thr, h.sl, all_cells (m := m) (K := K) (Y := Y) h2 h3 (fun i hi => ?_), fun k hk => ?_⟩
  · rcases h.sl i hi with ⟨e, _⟩ | ⟨_, _, _, _, e, _⟩ <;> rw [e] <;> rfl
  · obtain ⟨g, cap, e, _⟩ := h.lst k hk; rw [e]; rfl
theorem GSee.kept {K : GK} {w w' : World} {Y : GY} {m : Mac} {c : Array Value} (h : GSee K w Y m c) (hk : ∀ j, j < w.heap.size → GIn K Y j → w'.heap[j]? = w.heap[j]?) : GSee K w' Y m c := by
  have lt : ∀ {j o}, w.heap[j]? = some o → j < w.heap.size := fun hj => (Array.getElem?_eq_some_iff.1 hj).1
  obtain ⟨cur, t1, t2⟩ := h.thr
  exact ⟨by rw [hk _ (lt h.self) (.inl rfl)]; exact h.self, h.size, h.head, ⟨cur, by rw [hk _ (lt t1) (.inr (.inl rfl))]; exact t1, t2⟩, fun i hi => (h.sl i hi).kept (fun b hb => hk b ((h.sl i hi).lt b hb) (.inr (.inr ⟨i, hi, hb⟩))), h.one, h.lvs⟩
/-- What run answers with OK: the machine's cells, and all that hangs on them. -/
def RunOk (w' : World) (cs : Cods) (m : Mac) (c : Array Value) : Prop := ∃ K Y, K.n = cs.length ∧ GSee K w' Y m c
theorem RunOk.below {w w' : World} {cs : Cods} {m : Mac} {c : Array Value} (h : RunOk w cs m c) (hb : Below w.heap.size w w') : RunOk w' cs m c := by
  obtain ⟨K, Y, h1, h2⟩ := h
  exact ⟨K, Y, h1, h2.kept (fun j hj _ => hb.block j hj)⟩
theorem results_cell3 {fn : Func} {p u x : Tmp} {ty : TypeId} (h : fn.results = #[.cell p ty, .tmp u, .tmp x]) (tmps : Array Value) (P : Program) (w : World) :
    (results fn tmps).run P w = ((asAddr (tmps.getD p undef)).run P w).andThen fun a w₁ => ((loadVar ty a).run P w₁).andThen fun v w₂ => .ok (.tuple #[v, tmps.getD u undef, tmps.getD x undef]) w₂ := by
  simp only [results, h]
  simp [Sem.run_bind, Result.andThen]
theorem ret_cell3 {fn : Func} {p u x : Tmp} {ty : TypeId} (h : fn.results = #[.cell p ty, .tmp u, .tmp x]) {tmps : Array Value} {P : Program} {w : World} {a : Addr} (ht : tmps.getD p undef = .pointer (some a)) {v : Value} (hl : (loadVar ty a).run P w = .ok v w) {y z : Value} (hy : tmps.getD u undef = y) (hz : tmps.getD x undef = z) : (results fn tmps).run P w = .ok (.tuple #[v, y, z]) w := by
  subst hy
  subst hz
  rw [results_cell3 h, ht]
  simp only [asAddr, Sem.run_pure, Result.andThen_ok, hl]
def RunAns (w' : World) (e : Ending) (T : List Int) (q n : Int) (r : Int × Int) : Prop :=
  (¬ r.1 = 0 ∧ e = .returned (.tuple #[.agg Zm, .int .i64 r.1, .int .i64 r.2])) ∨
  (r = (0, 0) ∧ inR q n ∧ ∃ cs c, parse T = .inr cs ∧ badCods cs = none ∧ ChkCods cs (0, 0) ∧ e = .returned (.tuple #[.agg c, .int .i64 0, .int .i64 0]) ∧ RunOk w' cs (playM (codesOf cs) cs.length q.toNat n.toNat) c)

set_option maxRecDepth 100000 in
set_option maxHeartbeats 2000000 in
theorem g_run (s : ByteArray) (q n : Int) (w : World) (hm : s.size ≤ maxLen) :
    Calls Tryz.prog 27 #[.string s, .int .i64 q, .int .i64 n] w fun e w' => ∃ r, GivenRel (bytesOf s) q n r ∧ RunAns w' e (bytesOf s) q n r ∧ Below w.heap.size w w' := by
  have HP : Hid (∀ W, Calls Tryz.prog 40 #[.string s, .int .i64 q, .int .i64 n] W fun e w' => ∃ (r : Int × Int) (v : Value), e = .returned (.tuple #[v, .int .i64 r.1, .int .i64 r.2]) ∧ GivenRel (bytesOf s) q n r ∧ Below W.heap.size W w' ∧ AdmQ w' v (bytesOf s) q n r) := fun W => g_prepare s q n W hm
  have HLEN : Hid (∀ r, GivenRel (bytesOf s) q n r → r.1 = 0 → (bytesOf s).length ≤ 400) := fun r hr h0 => by
    obtain ⟨c, h1, h2⟩ := hr
    unfold CheckRel at h1
    split at h1
    · subst h1; rcases h2 with ⟨_, e⟩ | ⟨e, _⟩ | ⟨e, _⟩
      · rw [e] at h0; simp at h0
      · simp at e
      · simp at e
    · omega
  go_enter Tryz.func27, Tryz.ntmps27
  go_upto_region 1 with fail
  rw [← Zm_def]
  obtain ⟨wA, hwA⟩ : ∃ wA, wA = w.alloc (.cells Zm 74) := ⟨_, rfl⟩
  rw [← hwA]
  have HA : Hid (wA.heap.size = w.heap.size + 1) := by rw [hwA]; simp [Hid]
  have HB0 : Hid (Below w.heap.size w wA) := by rw [hwA]; exact (Below.refl _ _).alloc (Nat.le_refl _) _
  have HR0 : Hid (wA.heap[w.heap.size]? = some (.cells Zm 74 (0, 0))) := by rw [hwA]; exact heap_alloc_new w _
  clear hwA
  go_wp2_with fail
  refine (HP.out wA).mono ?_
  rintro e w1 ⟨⟨r1, r2⟩, v, rfl, hg, hb1, had⟩
  have HG := hide hg
  have HAD := hide had
  have HB1 : Hid (Below w.heap.size w w1) := HB0.out.trans (hb1.mono HB0.out.size)
  have HR1 : Hid (w1.heap[w.heap.size]? = some (.cells Zm 74 (0, 0))) := (hb1.block _ (by have := HA.out; omega)).trans HR0.out
  have HS1 : Hid (w.heap.size + 1 ≤ w1.heap.size) := by have := HA.out; have := hb1.size; unfold Hid; omega
  clear hg had hb1 HP HB0 HR0 HA
  by_cases hz : r1 = 0
  · subst hz
    obtain ⟨cs, c1, c2, c3, c4, c5, c6⟩ := HAD.out rfl
    have c5 : r2 = 0 := by simpa using c5
    subst c5
    obtain ⟨va, vc, rfl⟩ := c4.slice
    have HN := hide (g_newMachine cs va vc w1 c4 (parse_lenG c1))
    have C1 := hide c1
    have C2 := hide c2
    have C3 := hide c3
    obtain ⟨q0, q1, n0, n1⟩ := c6
    clear c1 c2 c3 c4 HAD
    go_wp2_with fail
    refine HN.out.mono ?_
    rintro e w2 ⟨tv, qv, M, bb, rfl, hN, hB2, hM, hL⟩
    have HN2 := hide hN
    have HB2 := hide hB2
    have HM := hide hM
    have HL := hide hL
    have HO : Hid ((mCells tv qv).all (·.oneCell') = true) := by
      obtain ⟨ta, tc, htv⟩ := row_slice hN.row
      obtain ⟨qg, hq1, _⟩ := hN.que
      obtain ⟨qa, qc, hqv⟩ := hq1.slice
      rw [htv, hqv]; exact mCells_one _ _ _ _ _ _
    clear hN hB2 hM hL HN
    go_wp2_with (first
      | (refine wpList_alloc_m rfl rfl ?_)
      | (refine wpList_store_new rfl 74 (.tmp 12) (.tmp 28) rfl Zm (mCells tv qv) rfl rfl rfl size_m rfl HO.out ?_))
    have HK := hide (HN2.out.toG HM.out (parse_ne C1.out) rfl HL.out (fun x hx => sound_ne (sound_all (ok_of C1.out C2.out) C3.out x hx)) HB2.out ((Below.refl _ _).alloc (Nat.le_refl _) (.cells (mCells tv qv) 74)) (heap_alloc_new w2 _) HB2.out.size)
    have HBW : Hid (Below w1.heap.size w1 (w2.alloc (.cells (mCells tv qv) 74))) := HB2.out.alloc HB2.out.size _
    obtain ⟨K, Y, k1, k2, k3, k4, k5⟩ := HK.out
    generalize w2.alloc (.cells (mCells tv qv) 74) = wC at *
    have HGD : Hid (Good K) := ⟨by rw [k4, k3]; exact fine_of C1.out C2.out C3.out, by rw [k3]; exact parse_lenG C1.out, fun k hk => by
      rw [k3] at hk
      rw [k4]
      obtain ⟨x, _, hxm, hxe⟩ := codes_mem hk
      rw [hxe]
      have := (parse_good C1.out x hxm).1
      have := HLEN.out _ HG.out rfl
      omega⟩
    obtain ⟨nn, rfl⟩ : ∃ nn : Nat, n = nn := ⟨n.toNat, by omega⟩
    obtain ⟨qq, rfl⟩ : ∃ qq : Nat, q = qq := ⟨q.toNat, by omega⟩
    rw [← k2]
    clear k2
    have HK5 := hide k5
    have HK1 := hide k1
    have K3 := hide k3
    have K4 := hide k4
    clear k1 k3 k4 k5 HK HN2 HL HM HO
    go_wp2_with fail
    go_loopw [13] (fun s wr => ∃ j : Nat, j ≤ nn ∧ s = .int .i64 j ∧ Hid ((∃ Y', GAt K wr Y' (playM K.C K.n qq j)) ∧ Below K.base wC wr)) (fun s _ => nn - (intOf s).toNat)
    case atStart => exact ⟨0, Nat.zero_le _, rfl, ⟨Y, by rw [K3.out]; exact HK5.out⟩, Below.refl _ _⟩
    case round =>
      obtain ⟨j, hj, rfl, hrl⟩ := hrel
      obtain ⟨⟨Y1, a1⟩, b1⟩ := hrl.out
      by_cases hlt : j < nn
      · have hlt1 : (j : Int) < (nn : Int) := by omega
        obtain ⟨ρ, hI⟩ := Inv.plays HGD.out.fine qq j
        have ht := play_trc_len HGD.out.fine qq j
        have ho := (play_out_len HGD.out.fine qq j).2
        have hjq : j * qq ≤ 60 * 9 := Nat.mul_le_mul (by omega) (by omega)
        have hlg := play_log_len K.C K.n qq j
        have HQ := hide (g_quantum K Y1 _ j qq ρ wr a1 HGD.out hI (by omega) (by omega) (by omega) (by omega) (by omega))
        have HNX : Hid (∀ w3 Y3, GAt K w3 Y3 (turnM K.C K.n qq j (playM K.C K.n qq j)) → GFr K Y1 Y3 wr w3 → ((∃ Y', GAt K w3 Y' (playM K.C K.n qq (j + 1))) ∧ Below K.base wC w3)) := fun w3 Y3 a3 b3 => ⟨⟨Y3, a3⟩, b1.trans (b3.low a1)⟩
        generalize turnM K.C K.n qq j (playM K.C K.n qq j) = m2 at *
        have hlt2 : j + 1 ≤ nn := by omega
        clear a1 b1 hrl hI ht ho hlg hjq HK5 HGD
        go_wp2_with fail
        refine HQ.out.mono ?_
        rintro e w3 ⟨rfl, Y3, a3, b3⟩
        have N3 := hide (HNX.out w3 Y3 a3 b3)
        clear a3 b3 HQ HNX
        go_wp2_with fail
        go_roundw
        case rel => exact ⟨j + 1, by omega, by go_num, N3⟩
        case measure => simp [intOf]; omega
      · obtain rfl : j = nn := by omega
        obtain ⟨c, hsee⟩ := a1.see
        have hrb : w.heap.size < K.base := by rw [HK1.out]; have := HS1.out; omega
        have HRr : Hid (wr.heap[w.heap.size]? = some (.cells Zm 74 (0, 0))) := (b1.block _ hrb).trans ((HBW.out.block _ (by rw [← HK1.out]; exact hrb)).trans HR1.out)
        have HT := hide (there_of (n := c.size) HRr.out (by rw [hsee.size]; rfl))
        have HLD := hide (load_res (World.rangeAt_setCells_same wr w.heap.size 0 c.toList (by rw [Array.length_toList]; exact HT.out)) hsee.size)
        have HSE : Hid (GSee K (wr.setCells w.heap.size 0 c.toList) Y1 (playM K.C K.n qq j) c) := hsee.kept (fun i hi hin => World.heap_setCells_other wr w.heap.size 0 c.toList hi (fun e => by
          obtain ⟨l1, l2, l3, _⟩ := a1.low
          rcases hin with x | x | ⟨y, hy, x⟩
          · omega
          · omega
          · have := l3 y i hy x; omega))
        have HSS := hide hsee
        have HBL : Hid (Below w.heap.size w (wr.setCells w.heap.size 0 c.toList)) := by
          have b2 : Below w.heap.size w wr := HB1.out.trans ((HBW.out.mono (by have := HS1.out; omega)).trans (b1.mono (by omega)))
          exact ⟨(World.os_setCells ..).trans b2.os, (setCells_size _ _ _ _).2.trans b2.tape, (World.output_setCells ..).trans b2.output, by rw [(setCells_size _ _ _ _).1]; exact b2.size, fun i hi => (World.heap_setCells_other wr _ 0 _ (by have := b2.size; omega) (by omega)).trans (b2.block i hi)⟩
        have hlt1 : ¬ (j : Int) < (j : Int) := by omega
        clear a1 b1 hrl hsee hrb
        go_wp2_with (first
          | (refine wpList_load_m rfl (.tmp 12) rfl K.b rfl _ HSS.out.self HSS.out.size ?_)
          | (refine wpList_store_mid rfl 74 (.tmp 6) _ rfl w.heap.size 0 _ rfl rfl HT.out (by rw [size_m, HSS.out.size]) HSS.out.one ?_))
        refine bodyPost_ret (ret_cell3 Tryz.results27 rfl HLD.out rfl rfl) rfl ?_
        refine ⟨0, 0, HG.out, .inr ⟨rfl, ⟨by omega, by omega, by omega, by omega⟩, cs, c, C1.out, C2.out, C3.out, rfl, K, Y1, K3.out, ?_⟩, HBL.out⟩
        have := HSE.out
        rw [K4.out, K3.out] at this
        simpa using this
  · have hz0 : (r1 != 0) = true := by simp [hz]
    have HZ := hide hz
    have HT := hide (there_of (n := Zm.size) HR1.out rfl)
    have HLD := hide (load_res (World.rangeAt_setCells_same w1 w.heap.size 0 Zm.toList (by rw [Array.length_toList]; exact HT.out)) Zm_size)
    have HBE : Hid (Below w.heap.size w (w1.setCells w.heap.size 0 Zm.toList)) := ⟨(World.os_setCells ..).trans HB1.out.os, (setCells_size _ _ _ _).2.trans HB1.out.tape, (World.output_setCells ..).trans HB1.out.output, by rw [(setCells_size _ _ _ _).1]; exact HB1.out.size, fun i hi => (World.heap_setCells_other w1 _ 0 _ (by have := HB1.out.size; omega) (by omega)).trans (HB1.out.block i hi)⟩
    clear hz HAD
    go_wp2_with (first
      | (refine wpList_build_m rfl rfl ?_)
      | (refine wpList_store_mid rfl 74 (.tmp 6) _ rfl w.heap.size 0 _ rfl rfl HT.out size_m Zm_one ?_))
    refine bodyPost_ret (ret_cell3 Tryz.results27 rfl HLD.out rfl rfl) rfl ?_
    exact ⟨(r1, r2), HG.out, .inl ⟨HZ.out, rfl⟩, HBE.out⟩

end Go.Proofs.YtjbmflgamogefabGreat
