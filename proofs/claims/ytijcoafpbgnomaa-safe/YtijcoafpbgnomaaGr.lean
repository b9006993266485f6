/- The code's machine begins; prepare. -/
import Derived.Test.YtijcoafpbgnomaaGn
import Derived.Test.YtijcoafpbgnomaaMach4
namespace Go.Proofs.Ytijcoafpbgnomaa
open Go.RowKit

def codesOf (cs : Cods) : Nat → List In := fun k => (cs.getD k (0, [])).2
theorem codesOf_at {cs : Cods} {k : Nat} {x : Nat × List In} (h : cs[k]? = some x) : codesOf cs k = x.2 := by
  unfold codesOf; rw [List.getD_eq_getElem?_getD, h]; rfl
theorem codes_mem {cs : Cods} {k : Nat} (h : k < cs.length) : ∃ x, cs[k]? = some x ∧ x ∈ cs ∧ codesOf cs k = x.2 :=
  ⟨cs[k], by simp [h], List.getElem_mem h, codesOf_at (by simp [h])⟩
theorem sound_ne {I : List In} (h : Sound I) : ¬ I = [] := by
  intro e
  have := (h _ (Reach.first I)).1
  rw [e] at this
  simp at this
theorem fine_of {T : List Int} {cs : Cods} (hp : parse T = .inr cs) (hb : badCods cs = none) (hc : ChkCods cs (0, 0)) : Fine (codesOf cs) cs.length where
  ok := fun k hk => by obtain ⟨x, _, h1, h2⟩ := codes_mem hk; rw [h2]; exact ok_of hp hb x h1
  sound := fun k hk => by obtain ⟨x, _, h1, h2⟩ := codes_mem hk; rw [h2]; exact sound_all (ok_of hp hb) hc x h1
theorem pread_ne (T : List Int) : ∀ (k : Nat) (acc cs : Cods) (i : Nat), pread T k acc i = .inr cs → ¬ cs = [] := by
  intro k
  induction k with
  | zero =>
    intro acc cs i h
    rw [pread] at h
    split at h
    · cases h
    · split at h
      · cases h; simp
      · cases h
  | succ k ih =>
    intro acc cs i h
    rw [pread] at h
    split at h
    · cases h
    · split at h
      · cases h; simp
      · exact ih _ _ _ h
theorem parse_ne {T : List Int} {cs : Cods} (h : parse T = .inr cs) : 0 < cs.length := by
  have := pread_ne T 3 [] cs 0 h
  cases cs with
  | nil => exact absurd rfl this
  | cons a t => simp

def Y0 (qv : Value) (g : Option Nat) : GY := ⟨fun _ _ => 0, fun i => if i = 0 then qv else .slice none 0 0, fun i => if i = 0 then g else none⟩
theorem NewAt.toG {b n : Nat} {w wr W : World} {tv qv : Value} {M : List Value} {cs : Cods} (h : NewAt w.heap.size b wr tv qv M n) (hM : M.length = n) (hn : 0 < n) (hcs : cs.length = n) (hL : Lists w cs M n) (hne : ∀ x ∈ cs, ¬ x.2 = []) (hb : Below w.heap.size w wr) (hW : Below wr.heap.size wr W) {b2 : Nat} (h2 : W.heap[b2]? = some (.cells (mCells tv qv) 86 (0, 0))) (hb2 : w.heap.size ≤ b2) :
    ∃ K Y, K.base = w.heap.size ∧ K.b = b2 ∧ K.n = n ∧ K.C = codesOf cs ∧ GAt K W Y (beginM n) := by
  have hl2 := h.low.2
  have hBW : Below w.heap.size w W := hb.trans (hW.mono hl2)
  obtain ⟨qg, q1, q2⟩ := h.que
  rcases h.row.2 with ⟨_, e⟩ | ⟨gt, cap, cur, e1, e2, e3, e4, e5, e6, e7⟩
  · omega
  have e3' : W.heap[gt]? = some (.cells cur 91 (0, 0)) := (hW.block _ (Array.getElem?_eq_some_iff.1 e3).1).trans e3
  have hget : ∀ (k : Nat) (v : Value), M[k]? = some v → ∀ o, o < 11 → cur[k * 11 + o]? = (thr1 v)[o]? := fun k v hk o ho => by
    have hk2 := (List.getElem?_eq_some_iff.1 hk).1
    have h1 := thCells_get M k v hk o ho
    rw [← e7, List.getElem?_take] at h1
    rw [if_pos (by omega)] at h1
    rw [← h1]; simp
  refine ⟨⟨w.heap.size, b2, gt, n, cap, fun k => M.getD k (.slice none 0 0), codesOf cs⟩, Y0 qv qg, rfl, rfl, rfl, rfl, ?_⟩
  refine ⟨⟨_, h2, rfl, ?_, fun j hj => ?_, fun l hl => ?_, fun i hi => ?_⟩, ⟨cur, e3', fun k hk => ?_⟩, fun k hk j v hv => ?_, fun i hi => ?_, fun i j g hi hj x1 x2 => ?_, fun k hk => ?_, hb2, e2, fun i g hi hg => ?_, ?_⟩
  · rw [mCells_eq, e1, hM]; rfl
  · rw [mCells_eq]
    match j, hj with
    | 0, _ | 1, _ | 2, _ | 3, _ | 4, _ | 5, _ | 6, _ | 7, _ => rfl
  · rw [mCells_eq]
    match l, hl with
    | 0, _ | 1, _ | 2, _ | 3, _ => rfl
  · rw [mCells_eq]
    match i, hi with
    | 0, _ | 1, _ | 2, _ | 3, _ | 4, _ | 5, _ | 6, _ | 7, _ | 8, _ | 9, _ | 10, _ => rfl
  · simp only at hk
    obtain ⟨v, hv⟩ : ∃ v, M[k]? = some v := ⟨M[k], by simp [hM, hk]⟩
    have g0 := hget k v hv
    refine ⟨?_, ?_, fun j hj => ?_, ?_, ?_, ?_⟩
    · have := g0 0 (by omega); rw [Nat.add_zero] at this; rw [this]; show _ = some (M.getD k (.slice none 0 0)); rw [List.getD_eq_getElem?_getD, hv]; rfl
    · rw [g0 1 (by omega)]; rfl
    · rw [g0 (2 + j) (by omega)]
      match j, hj with
      | 0, _ | 1, _ | 2, _ | 3, _ | 4, _ | 5, _ => rfl
    · rw [g0 8 (by omega)]; rfl
    · rw [g0 9 (by omega)]; rfl
    · rw [g0 10 (by omega)]; rfl
  · simp [beginM] at hv
  · by_cases e : i = 0
    · subst e; exact q1.kept (fun x hx => hW.block x (q1.lt x hx))
    · have ec : gcont (beginM n) i = [] := by
        unfold gcont beginM
        simp only [e, if_false]
        repeat' split
        all_goals rfl
      rw [ec]
      simp only [Y0, e, if_false]
      exact .inl ⟨rfl, rfl, rfl⟩
  · simp only [Y0] at x1 x2
    by_cases ei : i = 0
    · by_cases ej : j = 0
      · omega
      · rw [if_neg ej] at x2; cases x2
    · rw [if_neg ei] at x1; cases x1
  · simp only at hk
    obtain ⟨x, hx, hxm, hxc⟩ := codes_mem (cs := cs) (k := k) (by omega)
    obtain ⟨lv, l1, l2⟩ := hL k x hk hx
    have hpos : 0 < x.2.length := List.length_pos_iff.2 (hne x hxm)
    obtain ⟨g, cap', v1, _, v3, v4⟩ := row_cell l2 hpos
    refine ⟨g, cap', by simp only [List.getD_eq_getElem?_getD, l1, hxc]; exact v1, v3, fun j c a hj => ?_⟩
    change (codesOf cs k)[j]? = some (c, a) at hj
    rw [hxc] at hj
    obtain ⟨g1, g2⟩ := giCells_get x.2 j _ hj
    rw [hBW.cell (p := ⟨g, j * 2, none⟩) v3, hBW.cell (p := ⟨g, j * 2 + 1, none⟩) v3]
    exact ⟨v4 _ _ g1, v4 _ _ g2⟩
  · simp only [Y0] at hg
    by_cases e : i = 0
    · rw [if_pos e] at hg; exact q2 g hg
    · rw [if_neg e] at hg; cases hg
  · have := hW.size; simp only; omega

def inR (q n : Int) : Prop := 1 ≤ q ∧ q ≤ 9 ∧ 0 ≤ n ∧ n ≤ 60
/-- The errors of the machine's calls. -/
def GivenRel (T : List Int) (q n : Int) (r : Int × Int) : Prop := ∃ c, CheckRel T c ∧ ((¬ c.1 = 0 ∧ r = c) ∨ (c.1 = 0 ∧ ¬ inR q n ∧ r = (8, 0)) ∨ (c.1 = 0 ∧ inR q n ∧ r = (0, 0)))
theorem GivenRel.unique {T : List Int} {q n : Int} {r r' : Int × Int} (h : GivenRel T q n r) (h' : GivenRel T q n r') : r = r' := by
  obtain ⟨c, h1, h2⟩ := h
  obtain ⟨c', h1', h2'⟩ := h'
  obtain rfl := h1.unique h1'
  rcases h2 with ⟨a, b⟩ | ⟨a, b, c⟩ | ⟨a, b, c⟩ <;> rcases h2' with ⟨a', b'⟩ | ⟨a', b', c'⟩ | ⟨a', b', c'⟩ <;> first | exact absurd a a' | exact absurd a' a | exact absurd b b' | exact absurd b' b | (rw [b, b']) | (rw [c, c'])
/-- What comes with OK. -/
def AdmQ (w : World) (v : Value) (T : List Int) (q n : Int) (r : Int × Int) : Prop := r.1 = 0 → ∃ cs, parse T = .inr cs ∧ badCods cs = none ∧ ChkCods cs (0, 0) ∧ GCods w 0 v cs ∧ r = (0, 0) ∧ inR q n

set_option maxHeartbeats 1000000 in
theorem g_prepare (s : ByteArray) (q n : Int) (w : World) (hm : s.size ≤ maxLen) :
    Calls Try.prog 48 #[.string s, .int .i64 q, .int .i64 n] w fun e w' => ∃ (r : Int × Int) (v : Value), e = .returned (.tuple #[v, .int .i64 r.1, .int .i64 r.2]) ∧ GivenRel (bytesOf s) q n r ∧ Below w.heap.size w w' ∧ AdmQ w' v (bytesOf s) q n r := by
  have HC := hide (g_checked s w hm)
  go_enter Try.func48, Try.ntmps48
  go_wp2_with fail
  refine HC.out.mono ?_
  rintro e w1 ⟨⟨r1, r2⟩, v, hr, rfl, hb1, had⟩
  have HR := hide hr
  have HB := hide hb1
  have HA := hide had
  clear hr hb1 had HC
  by_cases hz : r1 = 0
  · have hz0 : (r1 != 0) = false := by simp [hz]
    have hv : ∃ ao n c, v = .slice ao n c := by
      obtain ⟨cs, _, _, _, h4, _⟩ := HA.out hz
      obtain ⟨ao, cap, e⟩ := h4.slice
      exact ⟨ao, _, cap, e⟩
    obtain ⟨va, vn, vc, rfl⟩ := hv
    have HY : Hid (inR q n → GivenRel (bytesOf s) q n (0, 0) ∧ AdmQ w1 (.slice va vn vc) (bytesOf s) q n (0, 0)) := fun hi => ⟨⟨_, HR.out, .inr (.inr ⟨hz, hi, rfl⟩)⟩, fun _ => by
      obtain ⟨cs, h1, h2, h3, h4, _⟩ := HA.out hz
      exact ⟨cs, h1, h2, h3, h4, rfl, hi⟩⟩
    have HX : Hid (¬ inR q n → GivenRel (bytesOf s) q n (8, 0)) := fun hi => ⟨_, HR.out, .inr (.inl ⟨hz, hi, rfl⟩)⟩
    clear hz HA HR
    by_cases h1 : q < 1
    · have X := hide (HX.out (fun hi => by have := hi.1; omega))
      clear HX HY
      go_wp2_with fail
      go_ret3
      exact ⟨(8, 0), _, rfl, X.out, HB.out, fun h => absurd h (by decide)⟩
    · by_cases h2 : 9 < q
      · have X := hide (HX.out (fun hi => by have := hi.2.1; omega))
        clear HX HY
        go_wp2_with fail
        go_ret3
        exact ⟨(8, 0), _, rfl, X.out, HB.out, fun h => absurd h (by decide)⟩
      · by_cases h3 : n < 0
        · have X := hide (HX.out (fun hi => by have := hi.2.2.1; omega))
          clear HX HY
          go_wp2_with fail
          go_ret3
          exact ⟨(8, 0), _, rfl, X.out, HB.out, fun h => absurd h (by decide)⟩
        · by_cases h4 : 60 < n
          · have X := hide (HX.out (fun hi => by have := hi.2.2.2; omega))
            clear HX HY
            go_wp2_with fail
            go_ret3
            exact ⟨(8, 0), _, rfl, X.out, HB.out, fun h => absurd h (by decide)⟩
          · have X := hide (HY.out ⟨by omega, by omega, by omega, by omega⟩)
            clear HX HY
            go_wp2_with fail
            go_ret3
            exact ⟨(0, 0), _, rfl, X.out.1, HB.out, X.out.2⟩
  · have hz0 : (r1 != 0) = true := by simp [hz]
    have X : Hid (GivenRel (bytesOf s) q n (r1, r2)) := ⟨_, HR.out, .inl ⟨hz, rfl⟩⟩
    have HZ := hide hz
    clear hz HA HR
    go_wp2_with fail
    go_ret3
    exact ⟨(r1, r2), _, rfl, X.out, HB.out, fun h => absurd h HZ.out⟩

end Go.Proofs.Ytijcoafpbgnomaa
