/- What comes to be in a code, computed; two programs: Ring's and Sums'. -/
import Derived.Test.YtjbmflgamogefabMachA
import Derived.KernelRfl
namespace Go.Proofs.Ytjbmflgamogefab

/-- Where one comes to from s. -/
def stepsF (I : List In) (s : Sp) : List Sp := match I[s.1.toNat]? with
  | none => []
  | some x => if wrg x.1 x.2 s.2.1 s.2.2 = 0 then (if x.1 = 88 then [] else (if x.1 = 74 then [] else [nxt x.1 x.2 s]) ++ (if x.1 = 74 ∨ x.1 = 90 then [jmp x.1 x.2 s] else [])) else []
theorem steps_iff (I : List In) (s t : Sp) : Step I s t ↔ t ∈ stepsF I s := by
  unfold Step stepsF
  constructor
  · rintro ⟨c, a, h1, ⟨h2, h3⟩, h4⟩
    rw [h1]
    simp only
    rw [if_pos h2, if_neg h3]
    rcases h4 with ⟨h5, h6⟩ | ⟨h5, h6⟩
    · rw [if_neg h5, h6]; simp
    · rw [if_pos h5, h6]; simp
  · intro h
    cases hi : I[s.1.toNat]? with
    | none => rw [hi] at h; simp at h
    | some x =>
      rw [hi] at h
      simp only at h
      obtain ⟨c, a⟩ := x
      simp only at h
      split at h
      · rename_i h2
        split at h
        · simp at h
        · rename_i h3
          refine ⟨c, a, rfl, ⟨h2, h3⟩, ?_⟩
          rcases List.mem_append.1 h with h | h
          · split at h
            · simp at h
            · rename_i h5; exact .inl ⟨h5, by simpa using h⟩
          · split at h
            · rename_i h5; exact .inr ⟨h5, by simpa using h⟩
            · simp at h
      · simp at h
/-- One after another, from s on. -/
def chainF (I : List In) : Nat → Sp → List Sp
  | 0, s => [s]
  | f + 1, s => match stepsF I s with
    | t :: _ => s :: chainF I f t
    | [] => [s]
theorem chain_reach (I : List In) : ∀ f s, Reach I s → ∀ t ∈ chainF I f s, Reach I t
  | 0, s, h, t, ht => by simp [chainF] at ht; subst ht; exact h
  | f + 1, s, h, t, ht => by
    unfold chainF at ht
    cases e : stepsF I s with
    | nil => rw [e] at ht; simp at ht; subst ht; exact h
    | cons u r =>
      rw [e] at ht
      rcases List.mem_cons.1 ht with rfl | ht
      · exact h
      · exact chain_reach I f u (h.step ((steps_iff I s u).2 (by rw [e]; exact List.mem_cons_self ..))) t ht
def allB (I : List In) (f : Nat) : Bool := decide (chainF I f s0).Nodup && (chainF I f s0).all (fun s => (stepsF I s).all (fun t => (chainF I f s0).contains t))
theorem chain_head (I : List In) (f : Nat) (s : Sp) : s ∈ chainF I f s := by
  cases f with
  | zero => simp [chainF]
  | succ f =>
    unfold chainF
    cases stepsF I s with
    | nil => simp
    | cons u r => exact List.mem_cons_self ..
theorem allB_ok {I : List In} {f : Nat} (h : allB I f = true) : IsAll I (chainF I f s0) := by
  simp only [allB, Bool.and_eq_true, decide_eq_true_eq, List.all_eq_true, List.contains_iff_mem] at h
  obtain ⟨h1, h2⟩ := h
  refine ⟨h1, fun s => ⟨chain_reach I f s0 (Reach.first I) s, fun hs => ?_⟩⟩
  exact hs (· ∈ chainF I f s0) (chain_head I f s0) (fun a b ha hb => h2 a ha b ((steps_iff I a b).1 hb))
/-- What a code is told, computed. -/
def toldC (st : Int) (I : List In) (f : Nat) : Int × Int := toldF st (firstF I (chainF I f s0) (I.length + 1) 0)
theorem toldC_ok {I : List In} {f : Nat} (h : allB I f = true) (st : Int) : Told st I (toldC st I f) := ⟨_, allB_ok h, rfl⟩

/-! ### Ring -/
def ringT (x y : Int) : List Int := [65, 48, 48 + x, 65, 48, 48 + y, 82, 48, 48 + y, 82, 48, 48 + x, 88, 48, 48, 124, 65, 48, 48 + y, 65, 48, 48 + x, 82, 48, 48 + x, 82, 48, 48 + y, 88, 48, 48]
def ringC (x y : Int) : Cods := [(0, [(65, x), (65, y), (82, y), (82, x), (88, 0)]), (16, [(65, y), (65, x), (82, x), (82, y), (88, 0)])]
def oneT (x : Int) : List Int := [65, 48, 48 + x, 65, 48, 48 + x, 82, 48, 48 + x, 82, 48, 48 + x, 88, 48, 48]
def fours : List Int := [0, 1, 2, 3]
theorem ring_parse : ∀ x ∈ fours, ∀ y ∈ fours, parse (ringT x y) = .inr (ringC x y) ∧ badCods (ringC x y) = none := by decide +kernel
theorem ring_all : ∀ x ∈ fours, ∀ y ∈ fours, ¬ x = y → ∀ z ∈ ringC x y, allB z.2 10 = true ∧ toldC z.1 z.2 10 = (0, 0) := by decide +kernel
theorem ring_check {x y : Int} (hx : x ∈ fours) (hy : y ∈ fours) (h : ¬ x = y) : CheckRel (ringT x y) (0, 0) := by
  unfold CheckRel
  obtain ⟨h1, h2⟩ := ring_parse x hx y hy
  rw [if_neg (by simp [ringT]), h1]
  simp only
  rw [h2]
  have h3 := ring_all x hx y hy h
  refine ⟨(0, 0), ?_, .inl ⟨rfl, (0, 0), ?_, .inl ⟨rfl, rfl⟩⟩⟩
  · obtain ⟨a, b⟩ := h3 (0, [(65, x), (65, y), (82, y), (82, x), (88, 0)]) (by simp [ringC])
    rw [← b]; exact toldC_ok a _
  · obtain ⟨a, b⟩ := h3 (16, [(65, y), (65, x), (82, x), (82, y), (88, 0)]) (by simp [ringC])
    rw [← b]; exact toldC_ok a _
theorem one_parse : ∀ x ∈ fours, parse (oneT x) = .inr [(0, [(65, x), (65, x), (82, x), (82, x), (88, 0)])] ∧ badCods [(0, [(65, x), (65, x), (82, x), (82, x), (88, 0)])] = none ∧ allB [(65, x), (65, x), (82, x), (82, x), (88, 0)] 10 = true ∧ toldC 0 [(65, x), (65, x), (82, x), (82, x), (88, 0)] 10 = (6, 3) := by decide +kernel
theorem one_check {x : Int} (hx : x ∈ fours) : CheckRel (oneT x) (6, 3) := by
  unfold CheckRel
  obtain ⟨h1, h2, h3, h4⟩ := one_parse x hx
  rw [if_neg (by simp [oneT]), h1]
  simp only
  rw [h2]
  exact ⟨(6, 3), by rw [← h4]; exact toldC_ok h3 _, .inr ⟨by decide, rfl⟩⟩
/-- The machine of the two. -/
def ringI (x y : Int) : Nat → List In := fun k => ((ringC x y).getD k (0, [])).2
theorem ring_one : ∀ x ∈ fours, ∀ y ∈ fours, ¬ x = y → (playM (ringI x y) 2 1 20).log = [48, 51, 58, 48, 49, 32] ∧ ((playM (ringI x y) 2 1 20).th 0).sta = 66 ∧ ((playM (ringI x y) 2 1 20).th 1).sta = 66 ∧ (playM (ringI x y) 2 1 20).trc.take 8 = [48, 49, 48, 49, 45, 45, 45, 45] ∧ (playM (ringI x y) 2 1 20).own x.toNat = 0 ∧ (playM (ringI x y) 2 1 20).own y.toNat = 1 := by decide +kernel
theorem ring_more : ∀ x ∈ fours, ∀ y ∈ fours, ¬ x = y → ∀ q ∈ [4, 5, 6, 7, 8, 9], (playM (ringI x y) 2 q 20).log = [] ∧ ((playM (ringI x y) 2 q 20).th 0).sta = 68 ∧ ((playM (ringI x y) 2 q 20).th 1).sta = 68 ∧ (playM (ringI x y) 2 q 20).own 0 = -1 ∧ (playM (ringI x y) 2 q 20).own 1 = -1 ∧ (playM (ringI x y) 2 q 20).own 2 = -1 ∧ (playM (ringI x y) 2 q 20).own 3 = -1 := by decide +kernel

/-! ### Sums -/
def sumT (d1 d2 e1 e2 z : Int) : List Int := [107, d1, d2, 107, e1, e2, 43, 48, 48, 112, 48, 48, 107, d1, d2, 107, e1, e2, 45, 48, 48, 115, 48, 51, 103, 48, 51, 112, 48, 48, z, 48, 48]
def sumI (x y z : Int) : List In := [(107, x), (107, y), (43, 0), (112, 0), (107, x), (107, y), (45, 0), (115, 3), (103, 3), (112, 0), (z, 0)]
theorem sum_parse {d1 d2 e1 e2 z : Int} (h1 : isDig d1 = true) (h2 : isDig d2 = true) (h3 : isDig e1 = true) (h4 : isDig e2 = true) (hz : isLet z = true) : parse (sumT d1 d2 e1 e2 z) = .inr [(0, sumI (10 * (d1 - 48) + (d2 - 48)) (10 * (e1 - 48) + (e2 - 48)) z)] := by
  have hb := let_bar hz
  have l1 : isLet 107 = true := rfl
  have l2 : isLet 43 = true := rfl
  have l3 : isLet 112 = true := rfl
  have l4 : isLet 45 = true := rfl
  have l5 : isLet 115 = true := rfl
  have l6 : isLet 103 = true := rfl
  have k1 : isDig 48 = true := rfl
  have k2 : isDig 51 = true := rfl
  have hp : pcode (sumT d1 d2 e1 e2 z) [] 0 = .inr (sumI (10 * (d1 - 48) + (d2 - 48)) (10 * (e1 - 48) + (e2 - 48)) z, 33) := by
    simp [sumT, pcode, h1, h2, h3, h4, hz, hb, l1, l2, l3, l4, l5, l6, k1, k2, sumI]
  unfold parse
  rw [pread, List.drop_zero, hp]
  simp [sumT]
theorem sum_bad (x y z : Int) (hz : z = 90 ∨ z = 88) : badCods [(0, sumI x y z)] = none := by
  rcases hz with rfl | rfl
  · kernel_rfl
  · kernel_rfl
theorem sum_all (x y : Int) : allB (sumI x y 90) 20 = true ∧ toldC 0 (sumI x y 90) 20 = (5, 30) ∧ allB (sumI x y 88) 20 = true ∧ toldC 0 (sumI x y 88) 20 = (0, 0) := by
  refine ⟨?_, ?_, ?_, ?_⟩
  · kernel_rfl
  · kernel_rfl
  · kernel_rfl
  · kernel_rfl
theorem sum_checkZ {d1 d2 e1 e2 : Int} (h1 : isDig d1 = true) (h2 : isDig d2 = true) (h3 : isDig e1 = true) (h4 : isDig e2 = true) : CheckRel (sumT d1 d2 e1 e2 90) (5, 30) := by
  unfold CheckRel
  rw [if_neg (by simp [sumT]), sum_parse h1 h2 h3 h4 rfl]
  simp only
  rw [sum_bad _ _ _ (.inl rfl)]
  obtain ⟨a, b, _, _⟩ := sum_all (10 * (d1 - 48) + (d2 - 48)) (10 * (e1 - 48) + (e2 - 48))
  exact ⟨(5, 30), by rw [← b]; exact toldC_ok a _, .inr ⟨by decide, rfl⟩⟩
theorem sum_checkX {d1 d2 e1 e2 : Int} (h1 : isDig d1 = true) (h2 : isDig d2 = true) (h3 : isDig e1 = true) (h4 : isDig e2 = true) : CheckRel (sumT d1 d2 e1 e2 88) (0, 0) := by
  unfold CheckRel
  rw [if_neg (by simp [sumT]), sum_parse h1 h2 h3 h4 rfl]
  simp only
  rw [sum_bad _ _ _ (.inr rfl)]
  obtain ⟨_, _, a, b⟩ := sum_all (10 * (d1 - 48) + (d2 - 48)) (10 * (e1 - 48) + (e2 - 48))
  exact ⟨(0, 0), by rw [← b]; exact toldC_ok a _, .inl ⟨rfl, rfl⟩⟩
def sumJ (x y : Int) : Nat → List In := fun k => (([(0, sumI x y 88)] : Cods).getD k (0, [])).2
theorem sum_play (x y : Int) : ∀ q, 1 ≤ q → q ≤ 9 → (playM (sumJ x y) 1 q 11).out = dig3 ((x + y) % 1000) ++ dig3 ((x - y + 1000) % 1000) ∧ ((playM (sumJ x y) 1 q 11).th 0).sta = 68 ∧ (playM (sumJ x y) 1 q 11).cells 3 = (x - y + 1000) % 1000
  | 1, _, _ => ⟨by kernel_rfl, by kernel_rfl, by kernel_rfl⟩
  | 2, _, _ => ⟨by kernel_rfl, by kernel_rfl, by kernel_rfl⟩
  | 3, _, _ => ⟨by kernel_rfl, by kernel_rfl, by kernel_rfl⟩
  | 4, _, _ => ⟨by kernel_rfl, by kernel_rfl, by kernel_rfl⟩
  | 5, _, _ => ⟨by kernel_rfl, by kernel_rfl, by kernel_rfl⟩
  | 6, _, _ => ⟨by kernel_rfl, by kernel_rfl, by kernel_rfl⟩
  | 7, _, _ => ⟨by kernel_rfl, by kernel_rfl, by kernel_rfl⟩
  | 8, _, _ => ⟨by kernel_rfl, by kernel_rfl, by kernel_rfl⟩
  | 9, _, _ => ⟨by kernel_rfl, by kernel_rfl, by kernel_rfl⟩
  | 0, h, _ => absurd h (by decide)
  | q + 10, _, h => absurd h (by omega)

end Go.Proofs.Ytjbmflgamogefab
