/- The machine (P6 to P9), plainly, and what holds of it for programs that Check admits. No program is imported. -/
import Derived.Test.YtjbmflgamogefabGreatPureA
namespace Go.Proofs.YtjbmflgamogefabGreat

/-- A thread: the next instruction, the stack (its top last), the state's letter, the quantum with which its sleep ends, the lock at which it was blocked last. -/
structure Th where
  pc : Nat
  stk : List Int
  sta : Int
  wake : Int
  bat : Nat
/-- The machine. own: of each lock, -1: nobody. -/
structure Mac where
  th : Nat → Th
  q : List Nat
  cells : Nat → Int
  own : Nat → Int
  blk : Nat → List Nat
  wai : Nat → List Nat
  out : List Int
  trc : List Int
  log : List Int

def upd {α : Type} (f : Nat → α) (k : Nat) (v : α) : Nat → α := fun j => if j = k then v else f j
theorem upd_same {α : Type} (f : Nat → α) (k : Nat) (v : α) : upd f k v k = v := by simp [upd]
theorem upd_other {α : Type} (f : Nat → α) {k j : Nat} (v : α) (h : ¬ j = k) : upd f k v j = f j := by simp [upd, h]

def topOf (s : List Int) : Int := s.getLastD 0
def dig3 (v : Int) : List Int := [48 + v / 100, 48 + v / 10 % 10, 48 + v % 10]
/-- Thread k goes behind the queue. -/
def readyM (m : Mac) (k : Nat) : Mac := { m with th := upd m.th k { m.th k with sta := 82 }, q := m.q ++ [k] }
/-- The lock l is given back. -/
def giveM (m : Mac) (l : Nat) : Mac := match m.blk l with
  | [] => { m with own := upd m.own l (-1) }
  | k :: r => readyM { m with blk := upd m.blk l r, own := upd m.own l (k : Int) } k
def insAt (C : Nat → List In) (m : Mac) (k : Nat) : In := (C k).getD (m.th k).pc (88, 0)
def stepTh (m : Mac) (k : Nat) (t : Th) : Mac := { m with th := upd m.th k t }
/-- Thread k waits at the lock l. -/
def waitM (m : Mac) (k l : Nat) : Mac := { m with th := upd m.th k { m.th k with sta := 87 }, wai := upd m.wai l (m.wai l ++ [k]) }
/-- The one that has waited longest at the lock l is blocked at it. -/
def noteM (m : Mac) (l : Nat) : Mac := match m.wai l with
  | [] => m
  | x :: r => { m with th := upd m.th x { m.th x with sta := 66, bat := l }, wai := upd m.wai l r, blk := upd m.blk l (m.blk l ++ [x]) }
/-- Thread k makes the instruction c a in quantum q. -/
def actOn (m : Mac) (k : Nat) (q c a : Int) : Mac :=
  if c = 107 then stepTh m k { m.th k with pc := (m.th k).pc + 1, stk := (m.th k).stk ++ [a] }
  else if c = 103 then stepTh m k { m.th k with pc := (m.th k).pc + 1, stk := (m.th k).stk ++ [m.cells a.toNat] }
  else if c = 115 then { stepTh m k { m.th k with pc := (m.th k).pc + 1, stk := (m.th k).stk.dropLast } with cells := upd m.cells a.toNat (topOf (m.th k).stk) }
  else if c = 112 then { stepTh m k { m.th k with pc := (m.th k).pc + 1, stk := (m.th k).stk.dropLast } with out := m.out ++ dig3 (topOf (m.th k).stk) }
  else if c = 43 then stepTh m k { m.th k with pc := (m.th k).pc + 1, stk := (m.th k).stk.dropLast.dropLast ++ [(topOf (m.th k).stk.dropLast + topOf (m.th k).stk) % 1000] }
  else if c = 45 then stepTh m k { m.th k with pc := (m.th k).pc + 1, stk := (m.th k).stk.dropLast.dropLast ++ [(topOf (m.th k).stk.dropLast - topOf (m.th k).stk + 1000) % 1000] }
  else if c = 74 then stepTh m k { m.th k with pc := a.toNat }
  else if c = 90 then stepTh m k { m.th k with pc := if topOf (m.th k).stk = 0 then a.toNat else (m.th k).pc + 1, stk := (m.th k).stk.dropLast }
  else if c = 65 then
    if m.own a.toNat < 0 then { stepTh m k { m.th k with pc := (m.th k).pc + 1 } with own := upd m.own a.toNat (k : Int) }
    else { stepTh m k { m.th k with pc := (m.th k).pc + 1, sta := 66, bat := a.toNat } with blk := upd m.blk a.toNat (m.blk a.toNat ++ [k]) }
  else if c = 82 then giveM (stepTh m k { m.th k with pc := (m.th k).pc + 1 }) a.toNat
  else if c = 87 then waitM (giveM (stepTh m k { m.th k with pc := (m.th k).pc + 1 }) a.toNat) k a.toNat
  else if c = 78 then noteM (stepTh m k { m.th k with pc := (m.th k).pc + 1 }) a.toNat
  else if c = 84 then stepTh m k { m.th k with pc := (m.th k).pc + 1, sta := 83, wake := q + 1 + a }
  else if c = 88 then stepTh m k { m.th k with pc := (m.th k).pc + 1, sta := 68 }
  else stepTh m k { m.th k with pc := (m.th k).pc + 1 }
/-- Thread k makes an instruction in quantum q. -/
def actM (C : Nat → List In) (m : Mac) (k : Nat) (q : Int) : Mac := actOn m k q (insAt C m k).1 (insAt C m k).2
/-- At most so many instructions more, by the thread k, behind an instruction with the letter 'op'. -/
def runM (C : Nat → List In) (k : Nat) (q : Int) : Nat → Int → Mac → Mac
  | 0, _, m => m
  | i + 1, op, m => if (m.th k).sta = 82 ∧ ¬ op = 89 then runM C k q i (insAt C m k).1 (actM C m k q) else m
/-- Those whose sleep ends with quantum q, from thread k on, become ready. -/
def wakeM (q : Int) : Nat → Nat → Mac → Mac
  | 0, _, m => m
  | i + 1, k, m => wakeM q i (k + 1) (if (m.th k).sta = 83 ∧ (m.th k).wake = q then readyM m k else m)
/-- Quantum q, but for the log. -/
def turn0M (C : Nat → List In) (n : Nat) (quantum : Nat) (q : Nat) (m0 : Mac) : Mac :=
  let m := wakeM q n 0 m0
  match m.q with
  | [] => { m with trc := m.trc ++ [45] }
  | k :: r =>
    let m2 := runM C k q quantum 32 { m with q := r, trc := m.trc ++ [48 + (k : Int)] }
    if (m2.th k).sta = 82 then readyM m2 k else m2
/-- The thread that owns the lock at which the thread k is blocked; -1: there is none. -/
def obst (n : Nat) (m : Mac) (k : Nat) : Int := if k < n then (if (m.th k).sta = 66 then (if (m.th k).bat < 4 then m.own (m.th k).bat else -1) else -1) else -1
/-- From one to the next, at most so many steps: whom one met, and whether one came back to k. -/
def ringM (n : Nat) (m : Mac) (k : Nat) : Nat → Int → (Nat → Bool) → (Nat → Bool) × Bool
  | 0, _, s => (s, false)
  | i + 1, p, s => if p < 0 then (s, false) else if 4 ≤ p then (s, false) else if obst n m p.toNat = (k : Int) then (upd s p.toNat true, true) else ringM n m k i (obst n m p.toNat) (upd s p.toNat true)
/-- The threads that were met, by their signs. -/
def namesM (s : Nat → Bool) : Nat → List Int
  | 0 => []
  | i + 1 => namesM s i ++ (if s i then [48 + (i : Int)] else [])
/-- What is logged behind quantum q, which k had. -/
def entM (n : Nat) (m : Mac) (k q : Nat) : List Int := if (ringM n m k 4 k (fun _ => false)).2 then [48 + (q : Int) / 10 % 10, 48 + (q : Int) % 10, 58] ++ namesM (ringM n m k 4 k (fun _ => false)).1 4 ++ [32] else []
/-- Quantum q. -/
def turnM (C : Nat → List In) (n : Nat) (quantum : Nat) (q : Nat) (m0 : Mac) : Mac := match (wakeM q n 0 m0).q with
  | [] => turn0M C n quantum q m0
  | k :: _ => { turn0M C n quantum q m0 with log := (turn0M C n quantum q m0).log ++ entM n (turn0M C n quantum q m0) k q }
theorem turn_eq (C : Nat → List In) (n quantum q : Nat) (m : Mac) : ∃ L, turnM C n quantum q m = { turn0M C n quantum q m with log := L } := by
  unfold turnM
  split
  · exact ⟨(turn0M C n quantum q m).log, rfl⟩
  · exact ⟨_, rfl⟩
def beginM (n : Nat) : Mac := { th := fun _ => ⟨0, [], 82, 0, 0⟩, q := List.range n, cells := fun _ => 0, own := fun _ => -1, blk := fun _ => [], wai := fun _ => [], out := [], trc := [], log := [] }
/-- Behind n quanta. -/
def playM (C : Nat → List In) (n quantum : Nat) : Nat → Mac
  | 0 => beginM n
  | i + 1 => turnM C n quantum i (playM C n quantum i)

/-- What Check admits: no place that comes to be has an error. -/
def Sound (I : List In) : Prop := ∀ s, Reach I s → s.1.toNat < I.length ∧ (∀ c a, I[s.1.toNat]? = some (c, a) → wrg c a s.2.1 s.2.2 = 0) ∧ ∀ t, Reach I t → t.1 = s.1 → t = s

/-- The locks that a thread owns. -/
def owned (t : Th) (r : List Int) : List Int := if t.sta = 66 ∨ t.sta = 87 then r.dropLast else r
/-- What holds of the machine; run: who has the quantum; ρ: each thread's row. -/
structure Inv (C : Nat → List In) (n : Nat) (run : Option Nat) (ρ : Nat → List Int) (m : Mac) : Prop where
  sta : ∀ k, k < n → (m.th k).sta = 82 ∨ (m.th k).sta = 66 ∨ (m.th k).sta = 87 ∨ (m.th k).sta = 83 ∨ (m.th k).sta = 68
  at_ : ∀ k, k < n → ¬ (m.th k).sta = 68 → Reach (C k) ((m.th k).pc, (m.th k).stk.length, ρ k)
  done : ∀ k, k < n → (m.th k).sta = 68 → ρ k = []
  ne : ∀ k, k < n → (m.th k).sta = 66 ∨ (m.th k).sta = 87 → ¬ ρ k = []
  nums : ∀ k, k < n → ∀ v ∈ (m.th k).stk, 0 ≤ v ∧ v < 1000
  cells : ∀ j, 0 ≤ m.cells j ∧ m.cells j < 1000
  own : ∀ (l : Nat) (k : Nat), k < n → (m.own l = (k : Int) ↔ (l : Int) ∈ owned (m.th k) (ρ k))
  who : ∀ l, m.own l = -1 ∨ ∃ k : Nat, k < n ∧ m.own l = (k : Int)
  blk : ∀ l k, k ∈ m.blk l ↔ k < n ∧ (m.th k).sta = 66 ∧ (ρ k).getLast? = some (l : Int)
  wai : ∀ l k, k ∈ m.wai l ↔ k < n ∧ (m.th k).sta = 87 ∧ (ρ k).getLast? = some (l : Int)
  bnd : ∀ l, (m.blk l).Nodup
  wnd : ∀ l, (m.wai l).Nodup
  has : ∀ l, ¬ m.blk l = [] → ¬ m.own l = -1
  qnd : m.q.Nodup
  que : ∀ k, k ∈ m.q ↔ k < n ∧ (m.th k).sta = 82 ∧ ¬ run = some k

theorem inv_begin (C : Nat → List In) (n : Nat) : Inv C n none (fun _ => []) (beginM n) where
  sta := fun _ _ => .inl rfl
  at_ := fun k _ _ => Reach.first (C k)
  done := fun _ _ _ => rfl
  ne := fun _ _ h => by simp [beginM] at h
  nums := fun k _ v hv => by simp [beginM] at hv
  cells := fun _ => by simp [beginM]
  own := fun l k _ => by simp [beginM, owned]
  who := fun _ => .inl rfl
  blk := fun l k => by simp [beginM]
  wai := fun l k => by simp [beginM]
  bnd := fun _ => List.nodup_nil
  wnd := fun _ => List.nodup_nil
  has := fun _ h => absurd rfl h
  qnd := List.nodup_range
  que := fun k => by simp [beginM]

theorem owned_plain {t : Th} {r : List Int} (h : t.sta = 82 ∨ t.sta = 83 ∨ t.sta = 68) : owned t r = r := by
  unfold owned; rw [if_neg (by omega)]
/-- Thread k, which has the quantum, turns into t', its row as it was. -/
theorem Inv.turns {C : Nat → List In} {n k : Nat} {ρ : Nat → List Int} {m : Mac} (h : Inv C n (some k) ρ m) (hk : k < n) (hs : (m.th k).sta = 82) {t' : Th} (ht : t'.sta = 82 ∨ t'.sta = 83 ∨ t'.sta = 68)
    (hR : ¬ t'.sta = 68 → Reach (C k) (t'.pc, t'.stk.length, ρ k)) (hD : t'.sta = 68 → ρ k = []) (hn : ∀ v ∈ t'.stk, 0 ≤ v ∧ v < 1000) {cells' : Nat → Int} (hc : ∀ j, 0 ≤ cells' j ∧ cells' j < 1000) (out' trc' : List Int) :
    Inv C n (some k) ρ { m with th := upd m.th k t', cells := cells', out := out', trc := trc' } where
  sta := fun j hj => by
    by_cases e : j = k
    · subst e; simp only [upd_same]; omega
    · simp only [upd_other _ _ e]; exact h.sta j hj
  at_ := fun j hj => by
    by_cases e : j = k
    · subst e; simp only [upd_same]; exact hR
    · simp only [upd_other _ _ e]; exact h.at_ j hj
  done := fun j hj => by
    by_cases e : j = k
    · subst e; simp only [upd_same]; exact hD
    · simp only [upd_other _ _ e]; exact h.done j hj
  ne := fun j hj => by
    by_cases e : j = k
    · subst e; simp only [upd_same]; intro h1; omega
    · simp only [upd_other _ _ e]; exact h.ne j hj
  nums := fun j hj => by
    by_cases e : j = k
    · subst e; simp only [upd_same]; exact hn
    · simp only [upd_other _ _ e]; exact h.nums j hj
  cells := hc
  own := fun l j hj => by
    by_cases e : j = k
    · subst e; simp only [upd_same]; rw [owned_plain ht]; have := h.own l j hj; rw [owned_plain (.inl hs)] at this; exact this
    · simp only [upd_other _ _ e]; exact h.own l j hj
  who := h.who
  blk := fun l j => by
    by_cases e : j = k
    · subst e; simp only [upd_same]; rw [h.blk l j]; constructor <;> (rintro ⟨_, h1, _⟩; omega)
    · simp only [upd_other _ _ e]; exact h.blk l j
  wai := fun l j => by
    by_cases e : j = k
    · subst e; simp only [upd_same]; rw [h.wai l j]; constructor <;> (rintro ⟨_, h1, _⟩; omega)
    · simp only [upd_other _ _ e]; exact h.wai l j
  bnd := h.bnd
  wnd := h.wnd
  has := h.has
  qnd := h.qnd
  que := fun j => by
    by_cases e : j = k
    · subst e; simp only [upd_same]; rw [h.que j]; constructor <;> (rintro ⟨_, _, h1⟩; exact absurd (by trivial) h1)
    · simp only [upd_other _ _ e]; exact h.que j

/-- It takes a lock that is free. -/
theorem Inv.takes {C : Nat → List In} {n k l : Nat} {ρ : Nat → List Int} {m : Mac} (h : Inv C n (some k) ρ m) (hk : k < n) (hs : (m.th k).sta = 82) {t' : Th} (ht : t'.sta = 82) (hl : m.own l = -1)
    (hR : Reach (C k) (t'.pc, t'.stk.length, ρ k ++ [(l : Int)])) (hn : ∀ v ∈ t'.stk, 0 ≤ v ∧ v < 1000) :
    Inv C n (some k) (upd ρ k (ρ k ++ [(l : Int)])) { m with th := upd m.th k t', own := upd m.own l (k : Int) } where
  sta := fun j hj => by
    by_cases e : j = k
    · subst e; simp only [upd_same]; omega
    · simp only [upd_other _ _ e]; exact h.sta j hj
  at_ := fun j hj => by
    by_cases e : j = k
    · subst e; simp only [upd_same]; exact fun _ => hR
    · simp only [upd_other _ _ e]; exact h.at_ j hj
  done := fun j hj => by
    by_cases e : j = k
    · subst e; simp only [upd_same]; intro h1; omega
    · simp only [upd_other _ _ e]; exact h.done j hj
  ne := fun j hj => by
    by_cases e : j = k
    · subst e; simp only [upd_same]; intro h1; omega
    · simp only [upd_other _ _ e]; exact h.ne j hj
  nums := fun j hj => by
    by_cases e : j = k
    · subst e; simp only [upd_same]; exact hn
    · simp only [upd_other _ _ e]; exact h.nums j hj
  cells := h.cells
  own := fun l' j hj => by
    by_cases el : l' = l
    · subst el
      simp only [upd_same]
      by_cases e : j = k
      · subst e; simp only [upd_same]; rw [owned_plain (.inl ht)]; simp
      · simp only [upd_other _ _ e]
        have := h.own l' j hj
        rw [hl] at this
        constructor
        · intro e1; omega
        · intro e1; have := this.2 e1; omega
    · simp only [upd_other _ _ el]
      by_cases e : j = k
      · subst e; simp only [upd_same]; rw [owned_plain (.inl ht), h.own l' j hj, owned_plain (.inl hs)]
        simp; intro e1; omega
      · simp only [upd_other _ _ e]; exact h.own l' j hj
  who := fun l' => by
    by_cases el : l' = l
    · subst el; simp only [upd_same]; exact .inr ⟨k, hk, rfl⟩
    · simp only [upd_other _ _ el]; exact h.who l'
  blk := fun l' j => by
    by_cases e : j = k
    · subst e; simp only [upd_same]; rw [h.blk l' j]; constructor <;> (rintro ⟨_, h1, _⟩; omega)
    · simp only [upd_other _ _ e]; exact h.blk l' j
  wai := fun l' j => by
    by_cases e : j = k
    · subst e; simp only [upd_same]; rw [h.wai l' j]; constructor <;> (rintro ⟨_, h1, _⟩; omega)
    · simp only [upd_other _ _ e]; exact h.wai l' j
  bnd := h.bnd
  wnd := h.wnd
  has := fun l' hb => by
    by_cases el : l' = l
    · subst el; simp only [upd_same]; omega
    · simp only [upd_other _ _ el]; exact h.has l' hb
  qnd := h.qnd
  que := fun j => by
    by_cases e : j = k
    · subst e; simp only [upd_same]; rw [h.que j]; constructor <;> (rintro ⟨_, _, h1⟩; exact absurd (by trivial) h1)
    · simp only [upd_other _ _ e]; exact h.que j

/-- It is blocked at a lock that is not free. -/
theorem Inv.blocks {C : Nat → List In} {n k l : Nat} {ρ : Nat → List Int} {m : Mac} (h : Inv C n (some k) ρ m) (hk : k < n) (hs : (m.th k).sta = 82) {t' : Th} (ht : t'.sta = 66) (hl : ¬ m.own l = -1)
    (hR : Reach (C k) (t'.pc, t'.stk.length, ρ k ++ [(l : Int)])) (hn : ∀ v ∈ t'.stk, 0 ≤ v ∧ v < 1000) :
    Inv C n (some k) (upd ρ k (ρ k ++ [(l : Int)])) { m with th := upd m.th k t', blk := upd m.blk l (m.blk l ++ [k]) } where
  sta := fun j hj => by
    by_cases e : j = k
    · subst e; simp only [upd_same]; omega
    · simp only [upd_other _ _ e]; exact h.sta j hj
  at_ := fun j hj => by
    by_cases e : j = k
    · subst e; simp only [upd_same]; exact fun _ => hR
    · simp only [upd_other _ _ e]; exact h.at_ j hj
  done := fun j hj => by
    by_cases e : j = k
    · subst e; simp only [upd_same]; intro h1; omega
    · simp only [upd_other _ _ e]; exact h.done j hj
  ne := fun j hj => by
    by_cases e : j = k
    · subst e; simp only [upd_same]; intro _; simp
    · simp only [upd_other _ _ e]; exact h.ne j hj
  nums := fun j hj => by
    by_cases e : j = k
    · subst e; simp only [upd_same]; exact hn
    · simp only [upd_other _ _ e]; exact h.nums j hj
  cells := h.cells
  own := fun l' j hj => by
    by_cases e : j = k
    · subst e; simp only [upd_same]
      rw [h.own l' j hj, owned_plain (.inl hs), owned, if_pos (.inl ht), List.dropLast_concat]
    · simp only [upd_other _ _ e]; exact h.own l' j hj
  who := h.who
  blk := fun l' j => by
    by_cases el : l' = l
    · subst el
      simp only [upd_same]
      by_cases e : j = k
      · subst e; simp only [upd_same]; simp [ht, hk]
      · simp only [upd_other _ _ e]; rw [List.mem_append, h.blk l' j]; simp [e]
    · simp only [upd_other _ _ el]
      by_cases e : j = k
      · subst e; simp only [upd_same]; rw [h.blk l' j]
        constructor
        · rintro ⟨_, h1, _⟩; omega
        · rintro ⟨_, _, h1⟩; simp at h1; omega
      · simp only [upd_other _ _ e]; exact h.blk l' j
  wai := fun l' j => by
    by_cases e : j = k
    · subst e; simp only [upd_same]; rw [h.wai l' j]; constructor <;> (rintro ⟨_, h1, _⟩; omega)
    · simp only [upd_other _ _ e]; exact h.wai l' j
  bnd := fun l' => by
    by_cases el : l' = l
    · subst el; simp only [upd_same]
      rw [List.nodup_append]
      exact ⟨h.bnd l', by simp, fun x hx y hy => by simp at hy; subst hy; intro e; subst e; have := ((h.blk l' x).1 hx).2.1; omega⟩
    · simp only [upd_other _ _ el]; exact h.bnd l'
  wnd := h.wnd
  has := fun l' hb => by
    by_cases el : l' = l
    · subst el; exact hl
    · simp only [upd_other _ _ el] at hb; exact h.has l' hb
  qnd := h.qnd
  que := fun j => by
    by_cases e : j = k
    · subst e; simp only [upd_same]; rw [h.que j]; constructor <;> (rintro ⟨_, _, h1⟩; exact absurd (by trivial) h1)
    · simp only [upd_other _ _ e]; exact h.que j

/-- It gives the last lock of its row back, to nobody; it may wait at it. -/
theorem Inv.gives {C : Nat → List In} {n k l : Nat} {ρ : Nat → List Int} {m : Mac} {r r' : List Int} (h : Inv C n (some k) ρ m) (hk : k < n) (hs : (m.th k).sta = 82) (hr : ρ k = r ++ [(l : Int)]) (hrn : (ρ k).Nodup) {t' : Th} {wai' : Nat → List Nat}
    (ht : (t'.sta = 82 ∧ r' = r ∧ wai' = m.wai) ∨ (t'.sta = 87 ∧ r' = r ++ [(l : Int)] ∧ wai' = upd m.wai l (m.wai l ++ [k]))) (hb : m.blk l = [])
    (hR : Reach (C k) (t'.pc, t'.stk.length, r')) (hn : ∀ v ∈ t'.stk, 0 ≤ v ∧ v < 1000) :
    Inv C n (some k) (upd ρ k r') { m with th := upd m.th k t', own := upd m.own l (-1), wai := wai' } := by
  have ho : owned t' r' = r := by
    rcases ht with ⟨a, b, _⟩ | ⟨a, b, _⟩
    · rw [owned_plain (.inl a), b]
    · rw [owned, if_pos (.inr a), b, List.dropLast_concat]
  have hlr : ¬ (l : Int) ∈ r := by
    rw [hr, List.nodup_append] at hrn
    exact fun hm => hrn.2.2 _ hm _ (by simp) rfl
  have hlk : m.own l = (k : Int) := (h.own l k hk).2 (by rw [owned_plain (.inl hs), hr]; simp)
  have hw : ∀ l' j, j ∈ wai' l' ↔ j < n ∧ (upd m.th k t' j).sta = 87 ∧ (upd ρ k r' j).getLast? = some (l' : Int) := by
    intro l' j
    rcases ht with ⟨a, b, rfl⟩ | ⟨a, b, rfl⟩
    · by_cases e : j = k
      · subst e; simp only [upd_same]; rw [h.wai l' j]; constructor <;> (rintro ⟨_, h1, _⟩; omega)
      · simp only [upd_other _ _ e]; exact h.wai l' j
    · by_cases el : l' = l
      · subst el
        simp only [upd_same]
        by_cases e : j = k
        · subst e; simp only [upd_same]; simp [a, b, hk]
        · simp only [upd_other _ _ e]; rw [List.mem_append, h.wai l' j]; simp [e]
      · simp only [upd_other _ _ el]
        by_cases e : j = k
        · subst e; simp only [upd_same]; rw [h.wai l' j]
          constructor
          · rintro ⟨_, h1, _⟩; omega
          · rintro ⟨_, _, h1⟩; rw [b] at h1; simp at h1; omega
        · simp only [upd_other _ _ e]; exact h.wai l' j
  have hwn : ∀ l', (wai' l').Nodup := by
    intro l'
    rcases ht with ⟨_, _, rfl⟩ | ⟨_, _, rfl⟩
    · exact h.wnd l'
    · by_cases el : l' = l
      · subst el; simp only [upd_same]
        rw [List.nodup_append]
        exact ⟨h.wnd l', by simp, fun x hx y hy => by simp at hy; subst hy; intro e; subst e; have := ((h.wai l' x).1 hx).2.1; omega⟩
      · simp only [upd_other _ _ el]; exact h.wnd l'
  have h68 : ¬ t'.sta = 68 := by omega
  exact {
    sta := fun j hj => by
      by_cases e : j = k
      · subst e; simp only [upd_same]; omega
      · simp only [upd_other _ _ e]; exact h.sta j hj
    at_ := fun j hj => by
      by_cases e : j = k
      · subst e; simp only [upd_same]; exact fun _ => hR
      · simp only [upd_other _ _ e]; exact h.at_ j hj
    done := fun j hj => by
      by_cases e : j = k
      · subst e; simp only [upd_same]; intro h1; exact absurd h1 h68
      · simp only [upd_other _ _ e]; exact h.done j hj
    ne := fun j hj => by
      by_cases e : j = k
      · subst e; simp only [upd_same]
        rcases ht with ⟨a, _, _⟩ | ⟨_, b, _⟩
        · intro h1; omega
        · intro _; rw [b]; simp
      · simp only [upd_other _ _ e]; exact h.ne j hj
    nums := fun j hj => by
      by_cases e : j = k
      · subst e; simp only [upd_same]; exact hn
      · simp only [upd_other _ _ e]; exact h.nums j hj
    cells := h.cells
    own := fun l' j hj => by
      by_cases el : l' = l
      · subst el
        simp only [upd_same]
        by_cases e : j = k
        · subst e; simp only [upd_same]; rw [ho]; constructor
          · intro e1; omega
          · intro e1; exact absurd e1 hlr
        · simp only [upd_other _ _ e]
          have := h.own l' j hj
          rw [hlk] at this
          constructor
          · intro e1; omega
          · intro e1; have := this.2 e1; omega
      · simp only [upd_other _ _ el]
        by_cases e : j = k
        · subst e; simp only [upd_same]; rw [ho, h.own l' j hj, owned_plain (.inl hs), hr]
          simp; intro e1; omega
        · simp only [upd_other _ _ e]; exact h.own l' j hj
    who := fun l' => by
      by_cases el : l' = l
      · subst el; simp only [upd_same]; exact .inl (by trivial)
      · simp only [upd_other _ _ el]; exact h.who l'
    blk := fun l' j => by
      by_cases e : j = k
      · subst e; simp only [upd_same]; rw [h.blk l' j]; constructor <;> (rintro ⟨_, h1, _⟩; omega)
      · simp only [upd_other _ _ e]; exact h.blk l' j
    wai := hw
    bnd := h.bnd
    wnd := hwn
    has := fun l' hbb => by
      by_cases el : l' = l
      · subst el; exact absurd hb hbb
      · simp only [upd_other _ _ el]; exact h.has l' hbb
    qnd := h.qnd
    que := fun j => by
      by_cases e : j = k
      · subst e; simp only [upd_same]; rw [h.que j]; constructor <;> (rintro ⟨_, _, h1⟩; exact absurd (by trivial) h1)
      · simp only [upd_other _ _ e]; exact h.que j }

/-- The same to the one that has been blocked longest. -/
theorem Inv.hands {C : Nat → List In} {n k l x : Nat} {ρ : Nat → List Int} {m : Mac} {r r' : List Int} {bs : List Nat} (h : Inv C n (some k) ρ m) (hk : k < n) (hs : (m.th k).sta = 82) (hr : ρ k = r ++ [(l : Int)]) (hrn : ∀ j, j < n → (ρ j).Nodup) {t' : Th} {wai' : Nat → List Nat}
    (ht : (t'.sta = 82 ∧ r' = r ∧ wai' = m.wai) ∨ (t'.sta = 87 ∧ r' = r ++ [(l : Int)] ∧ wai' = upd m.wai l (m.wai l ++ [k]))) (hb : m.blk l = x :: bs)
    (hR : Reach (C k) (t'.pc, t'.stk.length, r')) (hn : ∀ v ∈ t'.stk, 0 ≤ v ∧ v < 1000) :
    Inv C n (some k) (upd ρ k r') { m with th := upd (upd m.th k t') x { m.th x with sta := 82 }, own := upd m.own l (x : Int), blk := upd m.blk l bs, q := m.q ++ [x], wai := wai' } := by
  have ho : owned t' r' = r := by
    rcases ht with ⟨a, b, _⟩ | ⟨a, b, _⟩
    · rw [owned_plain (.inl a), b]
    · rw [owned, if_pos (.inr a), b, List.dropLast_concat]
  have hlr : ¬ (l : Int) ∈ r := by
    have := hrn k hk
    rw [hr, List.nodup_append] at this
    exact fun hm => this.2.2 _ hm _ (by simp) rfl
  have hlk : m.own l = (k : Int) := (h.own l k hk).2 (by rw [owned_plain (.inl hs), hr]; simp)
  obtain ⟨hx, hxs, hxr⟩ := (h.blk l x).1 (by rw [hb]; simp)
  have hxk : ¬ x = k := by intro e; subst e; omega
  have hkx : ¬ k = x := fun e => hxk e.symm
  obtain ⟨rx, hrx⟩ : ∃ rx, ρ x = rx ++ [(l : Int)] := by
    rcases snoc_or (ρ x) with e | ⟨s, y, e⟩
    · rw [e] at hxr; simp at hxr
    · rw [e] at hxr; simp at hxr; exact ⟨s, by rw [e, hxr]⟩
  have hthk : upd (upd m.th k t') x { m.th x with sta := 82 } k = t' := by rw [upd_other _ _ hkx, upd_same]
  have hthx : upd (upd m.th k t') x { m.th x with sta := 82 } x = { m.th x with sta := 82 } := upd_same _ _ _
  have htho : ∀ j, ¬ j = k → ¬ j = x → upd (upd m.th k t') x { m.th x with sta := 82 } j = m.th j := fun j h1 h2 => by rw [upd_other _ _ h2, upd_other _ _ h1]
  have hρx : upd ρ k r' x = ρ x := upd_other _ _ hxk
  have hbn := h.bnd l
  rw [hb, List.nodup_cons] at hbn
  have hw : ∀ l' j, j ∈ wai' l' ↔ j < n ∧ (upd (upd m.th k t') x { m.th x with sta := 82 } j).sta = 87 ∧ (upd ρ k r' j).getLast? = some (l' : Int) := by
    intro l' j
    by_cases ex : j = x
    · subst ex
      rw [hthx, hρx]
      have hno : ¬ j ∈ m.wai l' := fun hm => by have := ((h.wai l' j).1 hm).2.1; omega
      constructor
      · intro hm
        rcases ht with ⟨_, _, rfl⟩ | ⟨_, _, rfl⟩
        · exact absurd hm hno
        · by_cases el : l' = l
          · subst el; simp only [upd_same] at hm
            rcases List.mem_append.1 hm with hm | hm
            · exact absurd hm hno
            · simp at hm; exact absurd hm hxk
          · simp only [upd_other _ _ el] at hm; exact absurd hm hno
      · rintro ⟨_, h1, _⟩; first | omega | (simp only at h1; omega)
    · rcases ht with ⟨a, b, rfl⟩ | ⟨a, b, rfl⟩
      · by_cases e : j = k
        · subst e; rw [hthk, upd_same, h.wai l' j]; constructor <;> (rintro ⟨_, h1, _⟩; omega)
        · rw [htho j e ex, upd_other _ _ e]; exact h.wai l' j
      · by_cases el : l' = l
        · subst el
          simp only [upd_same]
          by_cases e : j = k
          · subst e; rw [hthk]; simp only [upd_same]; simp [a, b, hk]
          · rw [htho j e ex, upd_other _ _ e, List.mem_append, h.wai l' j]; simp [e]
        · simp only [upd_other _ _ el]
          by_cases e : j = k
          · subst e; rw [hthk, upd_same, h.wai l' j]
            constructor
            · rintro ⟨_, h1, _⟩; omega
            · rintro ⟨_, _, h1⟩; rw [b] at h1; simp at h1; omega
          · rw [htho j e ex, upd_other _ _ e]; exact h.wai l' j
  have hwn : ∀ l', (wai' l').Nodup := by
    intro l'
    rcases ht with ⟨_, _, rfl⟩ | ⟨_, _, rfl⟩
    · exact h.wnd l'
    · by_cases el : l' = l
      · subst el; simp only [upd_same]
        rw [List.nodup_append]
        exact ⟨h.wnd l', by simp, fun x hx y hy => by simp at hy; subst hy; intro e; subst e; have := ((h.wai l' x).1 hx).2.1; omega⟩
      · simp only [upd_other _ _ el]; exact h.wnd l'
  have h68 : ¬ t'.sta = 68 := by omega
  exact {
    sta := fun j hj => by
      by_cases e : j = k
      · subst e; simp only [hthk]; omega
      · by_cases ex : j = x
        · subst ex; simp [hthx]
        · simp only [htho j e ex]; exact h.sta j hj
    at_ := fun j hj => by
      by_cases e : j = k
      · subst e; simp only [hthk, upd_same]; exact fun _ => hR
      · by_cases ex : j = x
        · subst ex; simp only [hthx, hρx]; exact fun _ => h.at_ j hj (by omega)
        · simp only [htho j e ex, upd_other _ _ e]; exact h.at_ j hj
    done := fun j hj => by
      by_cases e : j = k
      · subst e; simp only [hthk]; intro h1; exact absurd h1 h68
      · by_cases ex : j = x
        · subst ex; simp only [hthx]; intro h1; omega
        · simp only [htho j e ex, upd_other _ _ e]; exact h.done j hj
    ne := fun j hj => by
      by_cases e : j = k
      · subst e; simp only [hthk, upd_same]
        rcases ht with ⟨a, _, _⟩ | ⟨_, b, _⟩
        · intro h1; omega
        · intro _; rw [b]; simp
      · by_cases ex : j = x
        · subst ex; simp only [hthx]; intro h1; omega
        · simp only [htho j e ex, upd_other _ _ e]; exact h.ne j hj
    nums := fun j hj => by
      by_cases e : j = k
      · subst e; simp only [hthk]; exact hn
      · by_cases ex : j = x
        · subst ex; simp only [hthx]; exact h.nums j hj
        · simp only [htho j e ex]; exact h.nums j hj
    cells := h.cells
    own := fun l' j hj => by
      by_cases el : l' = l
      · subst el
        simp only [upd_same]
        by_cases ex : j = x
        · subst ex; simp only [hthx, hρx]; rw [owned_plain (.inl rfl), hrx]; simp
        · by_cases e : j = k
          · subst e; simp only [hthk, upd_same]; rw [ho]; constructor
            · intro e1; omega
            · intro e1; exact absurd e1 hlr
          · simp only [htho j e ex, upd_other _ _ e]
            have := h.own l' j hj
            rw [hlk] at this
            constructor
            · intro e1; omega
            · intro e1; have := this.2 e1; omega
      · simp only [upd_other _ _ el]
        by_cases ex : j = x
        · subst ex; simp only [hthx, hρx]
          rw [owned_plain (.inl rfl), h.own l' j hj, owned, if_pos (.inl hxs), hrx, List.dropLast_concat]
          simp; intro e1; omega
        · by_cases e : j = k
          · subst e; simp only [hthk, upd_same]; rw [ho, h.own l' j hj, owned_plain (.inl hs), hr]
            simp; intro e1; omega
          · simp only [htho j e ex, upd_other _ _ e]; exact h.own l' j hj
    who := fun l' => by
      by_cases el : l' = l
      · subst el; simp only [upd_same]; exact .inr ⟨x, hx, rfl⟩
      · simp only [upd_other _ _ el]; exact h.who l'
    blk := fun l' j => by
      by_cases ex : j = x
      · subst ex
        simp only [hthx, hρx]
        constructor
        · intro hm
          by_cases el : l' = l
          · subst el; simp only [upd_same] at hm; exact absurd hm hbn.1
          · simp only [upd_other _ _ el] at hm
            have := ((h.blk l' j).1 hm).2.2
            rw [hxr] at this; simp at this; omega
        · rintro ⟨_, h1, _⟩; first | omega | (simp only at h1; omega)
      · by_cases el : l' = l
        · subst el
          simp only [upd_same]
          have hq : j ∈ bs ↔ j ∈ m.blk l' := by rw [hb]; simp [ex]
          rw [hq, h.blk l' j]
          by_cases e : j = k
          · subst e; rw [hthk]; constructor <;> (rintro ⟨_, h1, _⟩; omega)
          · rw [htho j e ex, upd_other _ _ e]
        · simp only [upd_other _ _ el]
          rw [h.blk l' j]
          by_cases e : j = k
          · subst e; rw [hthk]; constructor <;> (rintro ⟨_, h1, _⟩; omega)
          · rw [htho j e ex, upd_other _ _ e]
    wai := hw
    bnd := fun l' => by
      by_cases el : l' = l
      · subst el; simp only [upd_same]; exact hbn.2
      · simp only [upd_other _ _ el]; exact h.bnd l'
    wnd := hwn
    has := fun l' hbb => by
      by_cases el : l' = l
      · subst el; simp only [upd_same]; omega
      · simp only [upd_other _ _ el] at hbb ⊢; exact h.has l' hbb
    qnd := by
      show (m.q ++ [x]).Nodup
      rw [List.nodup_append]
      exact ⟨h.qnd, by simp, fun y hy z hz => by simp at hz; subst hz; intro e; subst e; have := ((h.que y).1 hy).2.1; omega⟩
    que := fun j => by
      show j ∈ m.q ++ [x] ↔ _
      rw [List.mem_append, h.que j]
      by_cases ex : j = x
      · subst ex; simp only [hthx]; simp [hx, hkx]
      · by_cases e : j = k
        · subst e; simp [ex]
        · simp only [htho j e ex]; simp [ex] }

/-- It wakes the one that has waited longest at a lock that it holds. -/
theorem Inv.wakes {C : Nat → List In} {n k l x : Nat} {ρ : Nat → List Int} {m : Mac} {ws : List Nat} (h : Inv C n (some k) ρ m) (_hk : k < n) (hs : (m.th k).sta = 82) (hown : ¬ m.own l = -1) (hw : m.wai l = x :: ws) :
    Inv C n (some k) ρ { m with th := upd m.th x { m.th x with sta := 66, bat := l }, wai := upd m.wai l ws, blk := upd m.blk l (m.blk l ++ [x]) } := by
  obtain ⟨hx, hxs, hxr⟩ := (h.wai l x).1 (by rw [hw]; simp)
  have hxk : ¬ x = k := by intro e; subst e; omega
  have hwnd := h.wnd l
  rw [hw, List.nodup_cons] at hwnd
  exact {
    sta := fun j hj => by
      by_cases e : j = x
      · subst e; simp [upd_same]
      · simp only [upd_other _ _ e]; exact h.sta j hj
    at_ := fun j hj => by
      by_cases e : j = x
      · subst e; simp only [upd_same]; exact fun _ => h.at_ j hj (by omega)
      · simp only [upd_other _ _ e]; exact h.at_ j hj
    done := fun j hj => by
      by_cases e : j = x
      · subst e; simp only [upd_same]; intro h1; omega
      · simp only [upd_other _ _ e]; exact h.done j hj
    ne := fun j hj => by
      by_cases e : j = x
      · subst e; simp only [upd_same]; exact fun _ => h.ne j hj (.inr hxs)
      · simp only [upd_other _ _ e]; exact h.ne j hj
    nums := fun j hj => by
      by_cases e : j = x
      · subst e; simp only [upd_same]; exact h.nums j hj
      · simp only [upd_other _ _ e]; exact h.nums j hj
    cells := h.cells
    own := fun l' j hj => by
      by_cases e : j = x
      · subst e; simp only [upd_same]; rw [h.own l' j hj]; simp [owned, hxs]
      · simp only [upd_other _ _ e]; exact h.own l' j hj
    who := h.who
    blk := fun l' j => by
      by_cases el : l' = l
      · subst el
        simp only [upd_same]
        rw [List.mem_append, h.blk l' j]
        by_cases e : j = x
        · subst e; simp only [upd_same]; simp [hx, hxr]
        · simp only [upd_other _ _ e]; simp [e]
      · simp only [upd_other _ _ el]
        rw [h.blk l' j]
        by_cases e : j = x
        · subst e; simp only [upd_same]; rw [hxr]
          constructor
          · rintro ⟨_, h1, _⟩; omega
          · rintro ⟨_, _, h1⟩; simp at h1; omega
        · simp only [upd_other _ _ e]
    wai := fun l' j => by
      by_cases e : j = x
      · subst e; simp only [upd_same]
        constructor
        · intro hm
          by_cases el : l' = l
          · subst el; simp only [upd_same] at hm; exact absurd hm hwnd.1
          · simp only [upd_other _ _ el] at hm
            have := ((h.wai l' j).1 hm).2.2
            rw [hxr] at this; simp at this; omega
        · rintro ⟨_, h1, _⟩; first | omega | (simp only at h1; omega)
      · simp only [upd_other _ _ e]
        by_cases el : l' = l
        · subst el; simp only [upd_same]
          have hq : j ∈ ws ↔ j ∈ m.wai l' := by rw [hw]; simp [e]
          rw [hq]; exact h.wai l' j
        · simp only [upd_other _ _ el]; exact h.wai l' j
    bnd := fun l' => by
      by_cases el : l' = l
      · subst el; simp only [upd_same]
        rw [List.nodup_append]
        exact ⟨h.bnd l', by simp, fun y hy z hz => by simp at hz; subst hz; intro e; subst e; have := ((h.blk l' y).1 hy).2.1; omega⟩
      · simp only [upd_other _ _ el]; exact h.bnd l'
    wnd := fun l' => by
      by_cases el : l' = l
      · subst el; simp only [upd_same]; exact hwnd.2
      · simp only [upd_other _ _ el]; exact h.wnd l'
    has := fun l' hb => by
      by_cases el : l' = l
      · subst el; exact hown
      · simp only [upd_other _ _ el] at hb; exact h.has l' hb
    qnd := h.qnd
    que := fun j => by
      by_cases e : j = x
      · subst e; simp only [upd_same]; rw [h.que j]; constructor <;> (rintro ⟨_, h1, _⟩; omega)
      · simp only [upd_other _ _ e]; exact h.que j }

theorem firstF_zero {I : List In} {L : List Sp} : ∀ f p, (firstF I L f p).1 = 0 → ∀ j, p ≤ j → j < p + f → faultF I L j = 0
  | 0, p, _, j, h1, h2 => by omega
  | f + 1, p, h, j, h1, h2 => by
    simp only [firstF] at h
    split at h
    · rename_i h0
      by_cases e : j = p
      · subst e; exact h0
      · exact firstF_zero f (p + 1) h j (by omega) (by omega)
    · rename_i h0; exact absurd h h0
theorem sound_of {st : Int} {I : List In} {q : Int × Int} (hO : OkCode I) (h : Told st I q) (hq : q.1 = 0) : Sound I := by
  obtain ⟨L, hL, rfl⟩ := h
  have hz : (firstF I L (I.length + 1) 0).1 = 0 := by
    unfold toldF at hq
    split at hq
    · rename_i h0; exact h0
    · exact hq
  intro s hs
  have hv := hs.valid hO
  have hm := (hL.2 s).2 hs
  have hf := firstF_zero _ _ hz s.1.toNat (Nat.zero_le _) (by have := hv.2.1; omega)
  have hcast : ((s.1.toNat : Nat) : Int) = s.1 := by have := hv.1; omega
  have hmem : s ∈ L.filter (atP s.1.toNat) := List.mem_filter.2 ⟨hm, by simp [atP, hcast]⟩
  have hne : ¬ (L.filter (atP s.1.toNat)).length = 0 := by
    intro e; rw [List.eq_nil_of_length_eq_zero e] at hmem; cases hmem
  unfold faultF at hf
  rw [if_neg hne] at hf
  cases hi : I[s.1.toNat]? with
  | none => rw [hi] at hf; simp at hf
  | some x =>
    rw [hi] at hf
    simp only at hf
    by_cases h1 : 1 < (L.filter (atP s.1.toNat)).length
    · rw [if_pos h1] at hf; simp at hf
    · rw [if_neg h1] at hf
      obtain ⟨t, ht⟩ := List.length_eq_one_iff.1 (show (L.filter (atP s.1.toNat)).length = 1 by omega)
      have hst : s = t := by rw [ht] at hmem; simpa using hmem
      subst hst
      rw [ht] at hf
      refine ⟨(List.getElem?_eq_some_iff.1 hi).1, fun c a hca => ?_, fun t' ht' he => ?_⟩
      · first | (cases hca; simpa [eR] using hf) | (rw [hi] at hca; cases hca; simpa [eR] using hf)
      · have hm' := (hL.2 t').2 ht'
        have : t' ∈ L.filter (atP s.1.toNat) := List.mem_filter.2 ⟨hm', by simp [atP, hcast, he]⟩
        rw [ht] at this; simpa using this
theorem sound_all : ∀ {cs : Cods}, (∀ x ∈ cs, OkCode x.2) → ChkCods cs (0, 0) → ∀ x ∈ cs, Sound x.2
  | [], _, _, x, hx => by cases hx
  | y :: t, hO, h, x, hx => by
    obtain ⟨q, h1, h2⟩ := h
    rcases h2 with ⟨a, b⟩ | ⟨a, b⟩
    · rcases List.mem_cons.1 hx with rfl | hx
      · exact sound_of (hO x (by simp)) h1 a
      · exact sound_all (fun z hz => hO z (by simp [hz])) b x hx
    · rw [← b] at a; exact absurd rfl a

/-- The codes of a program that Check admits. -/
structure Fine (C : Nat → List In) (n : Nat) : Prop where
  ok : ∀ k, k < n → OkCode (C k)
  sound : ∀ k, k < n → Sound (C k)

theorem top_mem {s : List Int} (h : ¬ s = []) : topOf s ∈ s := by
  rcases snoc_or s with rfl | ⟨t, x, rfl⟩
  · exact absurd rfl h
  · simp [topOf]
theorem nodup_rows {C : Nat → List In} {n : Nat} {run : Option Nat} {ρ : Nat → List Int} {m : Mac} (hF : Fine C n) (h : Inv C n run ρ m) (k : Nat) (hk : k < n) : (ρ k).Nodup := by
  by_cases hd : (m.th k).sta = 68
  · rw [h.done k hk hd]; exact List.nodup_nil
  · exact ((h.at_ k hk hd).valid (hF.ok k hk)).2.2.2.2.2
/-- The instruction at hand, and what is known of it. -/
theorem at_ins {C : Nat → List In} {n k : Nat} {ρ : Nat → List Int} {m : Mac} {run : Option Nat} (hF : Fine C n) (h : Inv C n run ρ m) (hk : k < n) (hs : ¬ (m.th k).sta = 68) :
    ∃ c a, (C k)[(m.th k).pc]? = some (c, a) ∧ insAt C m k = (c, a) ∧ (m.th k).pc < (C k).length ∧ 0 ≤ a ∧ a < 100 ∧ argOk c a (C k).length = true ∧ stkBad c (m.th k).stk.length = false ∧ lckBad c a (ρ k) = false ∧
      (∀ t, (¬ c = 88 ∧ ((¬ c = 74 ∧ t = nxt c a ((m.th k).pc, (m.th k).stk.length, ρ k)) ∨ ((c = 74 ∨ c = 90) ∧ t = jmp c a ((m.th k).pc, (m.th k).stk.length, ρ k)))) → Reach (C k) t) := by
  have hR := h.at_ k hk hs
  obtain ⟨h1, h2, _⟩ := hF.sound k hk _ hR
  simp only [Int.toNat_natCast] at h1 h2
  obtain ⟨⟨c, a⟩, hca⟩ : ∃ x, (C k)[(m.th k).pc]? = some x := ⟨(C k)[(m.th k).pc], by simp [h1]⟩
  have hw := h2 c a hca
  obtain ⟨w1, w2⟩ := wr_ok hw
  have hm := hF.ok k hk _ (List.mem_of_getElem? hca)
  refine ⟨c, a, hca, ?_, h1, hm.1, hm.2.1, hm.2.2, w1, w2, fun t ht => hR.step ⟨c, a, by simpa using hca, ⟨hw, ht.1⟩, ht.2⟩⟩
  unfold insAt
  rw [List.getD_eq_getElem?_getD, hca]; rfl

theorem stk_ok {c h : Int} (hb : stkBad c h = false) : tk c ≤ h ∧ h - tk c + pt c ≤ 6 := by
  simp only [stkBad, Bool.or_eq_false_iff, decide_eq_false_iff_not] at hb
  omega
theorem nums_drop {s : List Int} (h : ∀ v ∈ s, 0 ≤ v ∧ v < 1000) : ∀ v ∈ s.dropLast, 0 ≤ v ∧ v < 1000 := fun v hv => h v ((List.dropLast_sublist s).subset hv)
theorem nums_snoc {s : List Int} {x : Int} (h : ∀ v ∈ s, 0 ≤ v ∧ v < 1000) (hx : 0 ≤ x ∧ x < 1000) : ∀ v ∈ s ++ [x], 0 ≤ v ∧ v < 1000 := fun v hv => by
  rcases List.mem_append.1 hv with hv | hv
  · exact h v hv
  · simp at hv; subst hv; exact hx
theorem upd_cells {f : Nat → Int} (h : ∀ j, 0 ≤ f j ∧ f j < 1000) (l : Nat) {x : Int} (hx : 0 ≤ x ∧ x < 1000) : ∀ j, 0 ≤ upd f l x j ∧ upd f l x j < 1000 := fun j => by
  by_cases e : j = l
  · subst e; rw [upd_same]; exact hx
  · rw [upd_other _ _ e]; exact h j
theorem keep_row {c : Int} (a : Int) (r : List Int) (h1 : ¬ c = 82) (h2 : ¬ c = 65) : behindR c a r = r := by simp [behindR, keptR, h1, h2]

theorem cast_reach {I : List In} {p p' h h' : Int} {r : List Int} (hr : Reach I (p, h, r)) (hp : p' = p) (hh : h' = h) : Reach I (p', h', r) := by subst hp; subst hh; exact hr
theorem last_row {r : List Int} {a : Int} (h : lastIs r a = true) : ∃ s, r = s ++ [a] := by
  rcases snoc_or r with rfl | ⟨s, x, rfl⟩
  · simp [lastIs_nil] at h
  · rw [lastIs_snoc] at h; exact ⟨s, by rw [show x = a by simpa using h]⟩
theorem upd_upd {α : Type} (f : Nat → α) (k : Nat) (u v : α) : upd (upd f k u) k v = upd f k v := by
  funext j; by_cases e : j = k
  · subst e; simp [upd]
  · simp [upd, e]
theorem upd_swap {α : Type} (f : Nat → α) {k x : Nat} (h : ¬ k = x) {u v w : α} : upd (upd (upd f k u) x v) k w = upd (upd f k w) x v := by
  funext j; by_cases e : j = k
  · subst e; simp [upd, h]
  · simp [upd, e]
/-- Behind an instruction it holds again. -/
theorem Inv.act {C : Nat → List In} {n k : Nat} {ρ : Nat → List Int} {m : Mac} (hF : Fine C n) (h : Inv C n (some k) ρ m) (hk : k < n) (hs : (m.th k).sta = 82) (q : Int) : ∃ ρ', Inv C n (some k) ρ' (actM C m k q) := by
  obtain ⟨c, a, hca, hins, hlt, ha0, ha1, hok, hsb, hlb, hgo⟩ := at_ins hF h hk (by omega)
  have hst := stk_ok hsb
  have hnum := h.nums k hk
  have hrn := nodup_rows hF h
  have hal : ((a.toNat : Nat) : Int) = a := by omega
  unfold actM
  rw [hins]
  unfold actOn
  by_cases c1 : c = 107
  · subst c1
    simp only [if_true]
    refine ⟨ρ, Inv.turns (t' := { m.th k with pc := (m.th k).pc + 1, stk := (m.th k).stk ++ [a] }) h hk hs (.inl hs) (fun _ => ?_) (fun e => by first | omega | (simp only at e; omega)) (nums_snoc hnum ⟨ha0, by omega⟩) h.cells _ _⟩
    have hx := hgo _ ⟨by omega, .inl ⟨by omega, rfl⟩⟩
    simp only [nxt, keep_row a (ρ k) (c := 107) (by omega) (by omega)] at hx
    refine cast_reach hx ?_ ?_
    · simp
    · simp [tk, pt]
  rw [if_neg c1]
  by_cases c2 : c = 103
  · subst c2
    simp only [if_true]
    refine ⟨ρ, Inv.turns (t' := { m.th k with pc := (m.th k).pc + 1, stk := (m.th k).stk ++ [m.cells a.toNat] }) h hk hs (.inl hs) (fun _ => ?_) (fun e => by first | omega | (simp only at e; omega)) (nums_snoc hnum (h.cells _)) h.cells _ _⟩
    have hx := hgo _ ⟨by omega, .inl ⟨by omega, rfl⟩⟩
    simp only [nxt, keep_row a (ρ k) (c := 103) (by omega) (by omega)] at hx
    refine cast_reach hx ?_ ?_
    · simp
    · simp [tk, pt]
  rw [if_neg c2]
  by_cases c3 : c = 115
  · subst c3
    simp only [if_true]
    have hne : ¬ (m.th k).stk = [] := by intro e; rw [e] at hst; simp [tk] at hst
    have htop := hnum _ (top_mem hne)
    have hlen : (m.th k).stk.dropLast.length + 1 = (m.th k).stk.length := by rw [List.length_dropLast]; have := List.length_pos_iff.2 hne; omega
    refine ⟨ρ, Inv.turns (t' := { m.th k with pc := (m.th k).pc + 1, stk := (m.th k).stk.dropLast }) h hk hs (.inl hs) (fun _ => ?_) (fun e => by first | omega | (simp only at e; omega)) (nums_drop hnum) (upd_cells h.cells a.toNat htop) _ _⟩
    have hx := hgo _ ⟨by omega, .inl ⟨by omega, rfl⟩⟩
    simp only [nxt, keep_row a (ρ k) (c := 115) (by omega) (by omega)] at hx
    refine cast_reach hx ?_ ?_
    · simp
    · simp [tk, pt]; omega
  rw [if_neg c3]
  by_cases c4 : c = 112
  · subst c4
    simp only [if_true]
    have hne : ¬ (m.th k).stk = [] := by intro e; rw [e] at hst; simp [tk] at hst
    have htop := hnum _ (top_mem hne)
    have hlen : (m.th k).stk.dropLast.length + 1 = (m.th k).stk.length := by rw [List.length_dropLast]; have := List.length_pos_iff.2 hne; omega
    refine ⟨ρ, Inv.turns (t' := { m.th k with pc := (m.th k).pc + 1, stk := (m.th k).stk.dropLast }) h hk hs (.inl hs) (fun _ => ?_) (fun e => by first | omega | (simp only at e; omega)) (nums_drop hnum) h.cells _ _⟩
    have hx := hgo _ ⟨by omega, .inl ⟨by omega, rfl⟩⟩
    simp only [nxt, keep_row a (ρ k) (c := 112) (by omega) (by omega)] at hx
    refine cast_reach hx ?_ ?_
    · simp
    · simp [tk, pt]; omega
  rw [if_neg c4]
  by_cases c5 : c = 43
  · subst c5
    simp only [if_true]
    have hne : ¬ (m.th k).stk = [] := by intro e; rw [e] at hst; simp [tk] at hst
    have htop := hnum _ (top_mem hne)
    have hlen : (m.th k).stk.dropLast.length + 1 = (m.th k).stk.length := by rw [List.length_dropLast]; have := List.length_pos_iff.2 hne; omega
    have hne2 : ¬ (m.th k).stk.dropLast = [] := by intro e; rw [e] at hlen; simp [tk] at hst; simp at hlen; omega
    have htop2 := hnum _ ((List.dropLast_sublist _).subset (top_mem hne2))
    have hlen2 : (m.th k).stk.dropLast.dropLast.length + 1 = (m.th k).stk.dropLast.length := by rw [List.length_dropLast (xs := (m.th k).stk.dropLast)]; have := List.length_pos_iff.2 hne2; omega
    refine ⟨ρ, Inv.turns (t' := { m.th k with pc := (m.th k).pc + 1, stk := (m.th k).stk.dropLast.dropLast ++ [(topOf (m.th k).stk.dropLast + topOf (m.th k).stk) % 1000] }) h hk hs (.inl hs) (fun _ => ?_) (fun e => by first | omega | (simp only at e; omega)) (nums_snoc (nums_drop (nums_drop hnum)) (by omega)) h.cells _ _⟩
    have hx := hgo _ ⟨by omega, .inl ⟨by omega, rfl⟩⟩
    simp only [nxt, keep_row a (ρ k) (c := 43) (by omega) (by omega)] at hx
    refine cast_reach hx ?_ ?_
    · simp
    · simp [tk, pt]; omega
  rw [if_neg c5]
  by_cases c6 : c = 45
  · subst c6
    simp only [if_true]
    have hne : ¬ (m.th k).stk = [] := by intro e; rw [e] at hst; simp [tk] at hst
    have htop := hnum _ (top_mem hne)
    have hlen : (m.th k).stk.dropLast.length + 1 = (m.th k).stk.length := by rw [List.length_dropLast]; have := List.length_pos_iff.2 hne; omega
    have hne2 : ¬ (m.th k).stk.dropLast = [] := by intro e; rw [e] at hlen; simp [tk] at hst; simp at hlen; omega
    have htop2 := hnum _ ((List.dropLast_sublist _).subset (top_mem hne2))
    have hlen2 : (m.th k).stk.dropLast.dropLast.length + 1 = (m.th k).stk.dropLast.length := by rw [List.length_dropLast (xs := (m.th k).stk.dropLast)]; have := List.length_pos_iff.2 hne2; omega
    refine ⟨ρ, Inv.turns (t' := { m.th k with pc := (m.th k).pc + 1, stk := (m.th k).stk.dropLast.dropLast ++ [(topOf (m.th k).stk.dropLast - topOf (m.th k).stk + 1000) % 1000] }) h hk hs (.inl hs) (fun _ => ?_) (fun e => by first | omega | (simp only at e; omega)) (nums_snoc (nums_drop (nums_drop hnum)) (by omega)) h.cells _ _⟩
    have hx := hgo _ ⟨by omega, .inl ⟨by omega, rfl⟩⟩
    simp only [nxt, keep_row a (ρ k) (c := 45) (by omega) (by omega)] at hx
    refine cast_reach hx ?_ ?_
    · simp
    · simp [tk, pt]; omega
  rw [if_neg c6]
  by_cases c7 : c = 74
  · subst c7
    simp only [if_true]
    refine ⟨ρ, Inv.turns (t' := { m.th k with pc := a.toNat }) h hk hs (.inl hs) (fun _ => ?_) (fun e => by first | omega | (simp only at e; omega)) hnum h.cells _ _⟩
    have hx := hgo _ ⟨by omega, .inr ⟨.inl rfl, rfl⟩⟩
    simp only [jmp, keep_row a (ρ k) (c := 74) (by omega) (by omega)] at hx
    refine cast_reach hx ?_ ?_
    · exact hal
    · simp [tk, pt]
  rw [if_neg c7]
  by_cases c8 : c = 90
  · subst c8
    simp only [if_true]
    have hne : ¬ (m.th k).stk = [] := by intro e; rw [e] at hst; simp [tk] at hst
    have htop := hnum _ (top_mem hne)
    have hlen : (m.th k).stk.dropLast.length + 1 = (m.th k).stk.length := by rw [List.length_dropLast]; have := List.length_pos_iff.2 hne; omega
    by_cases hz : topOf (m.th k).stk = 0
    · rw [if_pos hz]
      refine ⟨ρ, Inv.turns (t' := { m.th k with pc := a.toNat, stk := (m.th k).stk.dropLast }) h hk hs (.inl hs) (fun _ => ?_) (fun e => by first | omega | (simp only at e; omega)) (nums_drop hnum) h.cells _ _⟩
      have hx := hgo _ ⟨by omega, .inr ⟨.inr rfl, rfl⟩⟩
      simp only [jmp, keep_row a (ρ k) (c := 90) (by omega) (by omega)] at hx
      refine cast_reach hx ?_ ?_
      · exact hal
      · simp [tk, pt]; omega
    · rw [if_neg hz]
      refine ⟨ρ, Inv.turns (t' := { m.th k with pc := (m.th k).pc + 1, stk := (m.th k).stk.dropLast }) h hk hs (.inl hs) (fun _ => ?_) (fun e => by first | omega | (simp only at e; omega)) (nums_drop hnum) h.cells _ _⟩
      have hx := hgo _ ⟨by omega, .inl ⟨by omega, rfl⟩⟩
      simp only [nxt, keep_row a (ρ k) (c := 90) (by omega) (by omega)] at hx
      refine cast_reach hx ?_ ?_
      · simp
      · simp [tk, pt]; omega
  rw [if_neg c8]
  by_cases c9 : c = 65
  · subst c9
    simp only [if_true]
    have hx := hgo _ ⟨by omega, .inl ⟨by omega, rfl⟩⟩
    have hrow : behindR 65 a (ρ k) = ρ k ++ [((a.toNat : Nat) : Int)] := by rw [hal]; simp [behindR, keptR]
    simp only [nxt, hrow] at hx
    have hR := cast_reach (p' := ((m.th k).pc + 1 : Nat)) (h' := ((m.th k).stk.length : Nat)) hx (by simp) (by simp [tk, pt])
    rcases h.who a.toNat with ho | ⟨j, hj, ho⟩
    · rw [if_pos (by omega)]
      exact ⟨_, Inv.takes (t' := { m.th k with pc := (m.th k).pc + 1 }) h hk hs hs ho hR hnum⟩
    · rw [if_neg (by omega)]
      exact ⟨_, Inv.blocks (t' := { m.th k with pc := (m.th k).pc + 1, sta := 66, bat := a.toNat }) h hk hs rfl (by omega) hR hnum⟩
  rw [if_neg c9]
  by_cases c10 : c = 82
  · subst c10
    simp only [if_true]
    have hx := hgo _ ⟨by omega, .inl ⟨by omega, rfl⟩⟩
    have hla : lastIs (ρ k) a = true := by simpa [lckBad] using hlb
    obtain ⟨r, hr⟩ := last_row hla
    have hrow : behindR 82 a (ρ k) = r := by simp [behindR, keptR, hr]
    simp only [nxt, hrow] at hx
    have hR := cast_reach (p' := ((m.th k).pc + 1 : Nat)) (h' := ((m.th k).stk.length : Nat)) hx (by simp) (by simp [tk, pt])
    rw [← hal] at hr
    unfold giveM stepTh
    cases hb : m.blk a.toNat with
    | nil =>
      simp only
      exact ⟨_, Inv.gives (t' := { m.th k with pc := (m.th k).pc + 1 }) h hk hs hr (hrn k hk) (.inl ⟨hs, rfl, rfl⟩) hb hR hnum⟩
    | cons x bs =>
      simp only
      have hxk : ¬ x = k := by intro e; subst e; have := ((h.blk a.toNat x).1 (by rw [hb]; simp)).2.1; omega
      have key := Inv.hands (t' := { m.th k with pc := (m.th k).pc + 1 }) h hk hs hr hrn (.inl ⟨hs, rfl, rfl⟩) hb hR hnum
      refine ⟨upd ρ k r, ?_⟩
      unfold readyM
      simp only [upd_other _ _ hxk]
      exact key
  rw [if_neg c10]
  by_cases c11 : c = 87
  · subst c11
    simp only [if_true]
    have hx := hgo _ ⟨by omega, .inl ⟨by omega, rfl⟩⟩
    have hla : lastIs (ρ k) a = true := by simpa [lckBad] using hlb
    obtain ⟨r, hr⟩ := last_row hla
    simp only [nxt, keep_row a (ρ k) (c := 87) (by omega) (by omega)] at hx
    rw [← hal] at hr
    have hR := cast_reach (p' := ((m.th k).pc + 1 : Nat)) (h' := ((m.th k).stk.length : Nat)) hx (by simp) (by simp [tk, pt])
    rw [hr] at hR
    unfold waitM giveM stepTh
    cases hb : m.blk a.toNat with
    | nil =>
      simp only [upd_same, upd_upd]
      exact ⟨_, Inv.gives (t' := { m.th k with pc := (m.th k).pc + 1, sta := 87 }) h hk hs hr (hrn k hk) (.inr ⟨rfl, rfl, rfl⟩) hb hR hnum⟩
    | cons x bs =>
      have hxk : ¬ x = k := by intro e; subst e; have := ((h.blk a.toNat x).1 (by rw [hb]; simp)).2.1; omega
      have hkx : ¬ k = x := fun e => hxk e.symm
      have key := Inv.hands (t' := { m.th k with pc := (m.th k).pc + 1, sta := 87 }) h hk hs hr hrn (.inr ⟨rfl, rfl, rfl⟩) hb hR hnum
      refine ⟨upd ρ k (r ++ [((a.toNat : Nat) : Int)]), ?_⟩
      simp only
      unfold readyM
      simp only [upd_other _ _ hxk, upd_other _ _ hkx, upd_same]
      rw [upd_swap _ hkx]
      exact key
  rw [if_neg c11]
  by_cases c12 : c = 78
  · subst c12
    simp only [if_true]
    have hx := hgo _ ⟨by omega, .inl ⟨by omega, rfl⟩⟩
    simp only [nxt, keep_row a (ρ k) (c := 78) (by omega) (by omega)] at hx
    have hR := cast_reach (p' := ((m.th k).pc + 1 : Nat)) (h' := ((m.th k).stk.length : Nat)) hx (by simp) (by simp [tk, pt])
    have h1 := Inv.turns (t' := { m.th k with pc := (m.th k).pc + 1 }) h hk hs (.inl hs) (fun _ => hR) (fun e => by first | omega | (simp only at e; omega)) hnum h.cells m.out m.trc
    unfold noteM
    have hwe : (stepTh m k { m.th k with pc := (m.th k).pc + 1 }).wai a.toNat = m.wai a.toNat := rfl
    rw [hwe]
    cases hw : m.wai a.toNat with
    | nil => exact ⟨ρ, h1⟩
    | cons x ws =>
      have hha : hasL (ρ k) a = true := by simpa [lckBad] using hlb
      have hmem : a ∈ ρ k := by simpa [hasL] using hha
      have hown : m.own a.toNat = (k : Int) := (h.own a.toNat k hk).2 (by rw [owned_plain (.inl hs), hal]; exact hmem)
      exact ⟨ρ, Inv.wakes (l := a.toNat) h1 hk (by show (upd m.th k _ k).sta = 82; rw [upd_same]; exact hs) (by show ¬ m.own a.toNat = -1; omega) hw⟩
  rw [if_neg c12]
  by_cases c13 : c = 84
  · subst c13
    simp only [if_true]
    have hx := hgo _ ⟨by omega, .inl ⟨by omega, rfl⟩⟩
    simp only [nxt, keep_row a (ρ k) (c := 84) (by omega) (by omega)] at hx
    have hR := cast_reach (p' := ((m.th k).pc + 1 : Nat)) (h' := ((m.th k).stk.length : Nat)) hx (by simp) (by simp [tk, pt])
    exact ⟨ρ, Inv.turns (t' := { m.th k with pc := (m.th k).pc + 1, sta := 83, wake := q + 1 + a }) h hk hs (.inr (.inl rfl)) (fun _ => hR) (fun e => by first | omega | (simp only at e; omega)) hnum h.cells m.out m.trc⟩
  rw [if_neg c13]
  by_cases c14 : c = 88
  · subst c14
    simp only [if_true]
    have hrow : ρ k = [] := by
      have : (ρ k).isEmpty = true := by simpa [lckBad] using hlb
      simpa using this
    exact ⟨ρ, Inv.turns (t' := { m.th k with pc := (m.th k).pc + 1, sta := 68 }) h hk hs (.inr (.inr rfl)) (fun e => absurd rfl e) (fun _ => hrow) hnum h.cells m.out m.trc⟩
  rw [if_neg c14]
  have hx := hgo _ ⟨c14, .inl ⟨c7, rfl⟩⟩
  simp only [nxt, keep_row a (ρ k) c10 c9] at hx
  have htp : tk c = 0 ∧ pt c = 0 := by simp [tk, pt, c1, c2, c3, c4, c5, c6, c8]
  have hR := cast_reach (p' := ((m.th k).pc + 1 : Nat)) (h' := ((m.th k).stk.length : Nat)) hx (by simp) (by rw [htp.1, htp.2]; simp)
  exact ⟨ρ, Inv.turns (t' := { m.th k with pc := (m.th k).pc + 1 }) h hk hs (.inl hs) (fun _ => hR) (fun e => by first | omega | (simp only at e; omega)) hnum h.cells m.out m.trc⟩

theorem Inv.leave {C : Nat → List In} {n k : Nat} {ρ : Nat → List Int} {m : Mac} (h : Inv C n (some k) ρ m) (hs : ¬ (m.th k).sta = 82) : Inv C n none ρ m := by
  refine { h with que := fun j => ?_ }
  rw [h.que j]
  constructor
  · rintro ⟨a, b, _⟩; exact ⟨a, b, by simp⟩
  · rintro ⟨a, b, _⟩; exact ⟨a, b, fun e => hs (by cases e; exact b)⟩
/-- A thread that is ready or asleep goes behind the queue. -/
theorem Inv.ready {C : Nat → List In} {n k : Nat} {run : Option Nat} {ρ : Nat → List Int} {m : Mac} (h : Inv C n run ρ m) (hk : k < n) (hs : (run = some k ∧ (m.th k).sta = 82) ∨ (run = none ∧ (m.th k).sta = 83)) : Inv C n none ρ (readyM m k) := by
  have hno : ¬ k ∈ m.q := fun hm => by
    have := (h.que k).1 hm
    rcases hs with ⟨a, _⟩ | ⟨_, b⟩
    · exact this.2.2 a
    · omega
  have hs2 : (m.th k).sta = 82 ∨ (m.th k).sta = 83 := by rcases hs with ⟨_, b⟩ | ⟨_, b⟩ <;> simp [b]
  exact {
    sta := fun j hj => by
      by_cases e : j = k
      · subst e; simp [readyM, upd_same]
      · simp only [readyM, upd_other _ _ e]; exact h.sta j hj
    at_ := fun j hj => by
      by_cases e : j = k
      · subst e; simp only [readyM, upd_same]; exact fun _ => h.at_ j hj (by omega)
      · simp only [readyM, upd_other _ _ e]; exact h.at_ j hj
    done := fun j hj => by
      by_cases e : j = k
      · subst e; simp only [readyM, upd_same]; intro h1; omega
      · simp only [readyM, upd_other _ _ e]; exact h.done j hj
    ne := fun j hj => by
      by_cases e : j = k
      · subst e; simp only [readyM, upd_same]; intro h1; omega
      · simp only [readyM, upd_other _ _ e]; exact h.ne j hj
    nums := fun j hj => by
      by_cases e : j = k
      · subst e; simp only [readyM, upd_same]; exact h.nums j hj
      · simp only [readyM, upd_other _ _ e]; exact h.nums j hj
    cells := h.cells
    own := fun l j hj => by
      by_cases e : j = k
      · subst e; simp only [readyM, upd_same]; rw [owned_plain (.inl rfl)]; have := h.own l j hj; rw [owned_plain (by omega)] at this; exact this
      · simp only [readyM, upd_other _ _ e]; exact h.own l j hj
    who := h.who
    blk := fun l j => by
      by_cases e : j = k
      · subst e; simp only [readyM, upd_same]; rw [h.blk l j]; constructor <;> (rintro ⟨_, h1, _⟩; omega)
      · simp only [readyM, upd_other _ _ e]; exact h.blk l j
    wai := fun l j => by
      by_cases e : j = k
      · subst e; simp only [readyM, upd_same]; rw [h.wai l j]; constructor <;> (rintro ⟨_, h1, _⟩; omega)
      · simp only [readyM, upd_other _ _ e]; exact h.wai l j
    bnd := h.bnd
    wnd := h.wnd
    has := h.has
    qnd := by
      show (m.q ++ [k]).Nodup
      rw [List.nodup_append]
      exact ⟨h.qnd, by simp, fun y hy z hz => by simp at hz; subst hz; intro e; subst e; exact hno hy⟩
    que := fun j => by
      show j ∈ m.q ++ [k] ↔ _
      rw [List.mem_append, h.que j]
      by_cases e : j = k
      · subst e; simp [readyM, upd_same, hk]
      · simp only [readyM, upd_other _ _ e]
        rcases hs with ⟨a, _⟩ | ⟨a, _⟩
        · rw [a]; simp [e]; intro _ _; exact fun e2 => e e2.symm
        · rw [a]; simp [e] }
theorem Inv.start {C : Nat → List In} {n k : Nat} {ρ : Nat → List Int} {m : Mac} {r : List Nat} (h : Inv C n none ρ m) (hq : m.q = k :: r) (trc' : List Int) : Inv C n (some k) ρ { m with q := r, trc := trc' } ∧ k < n ∧ (m.th k).sta = 82 := by
  have hnd := h.qnd
  rw [hq, List.nodup_cons] at hnd
  have hk := (h.que k).1 (by rw [hq]; simp)
  refine ⟨{ h with qnd := hnd.2, que := fun j => ?_ }, hk.1, hk.2.1⟩
  show j ∈ r ↔ _
  by_cases e : j = k
  · subst e; constructor
    · intro hm; exact absurd hm hnd.1
    · rintro ⟨_, _, h1⟩; exact absurd rfl h1
  · have := h.que j
    rw [hq] at this
    simp [e] at this
    rw [this]
    constructor
    · rintro ⟨a, b⟩; exact ⟨a, b, fun e2 => e (by cases e2; rfl)⟩
    · rintro ⟨a, b, _⟩; exact ⟨a, b⟩
theorem Inv.runs {C : Nat → List In} {n k : Nat} (hF : Fine C n) (hk : k < n) (q : Int) : ∀ (i : Nat) (op : Int) (m : Mac) (ρ : Nat → List Int), Inv C n (some k) ρ m → ∃ ρ', Inv C n (some k) ρ' (runM C k q i op m)
  | 0, _, _, ρ, h => ⟨ρ, h⟩
  | i + 1, op, m, ρ, h => by
    simp only [runM]
    split
    · rename_i hc
      obtain ⟨ρ1, h1⟩ := h.act hF hk hc.1 q
      exact Inv.runs hF hk q i _ _ _ h1
    · exact ⟨ρ, h⟩
theorem Inv.wakeups {C : Nat → List In} {n : Nat} {ρ : Nat → List Int} (q : Int) : ∀ (i k : Nat) (m : Mac), i + k = n → Inv C n none ρ m → Inv C n none ρ (wakeM q i k m)
  | 0, _, _, _, h => h
  | i + 1, k, m, hik, h => by
    simp only [wakeM]
    refine Inv.wakeups q i (k + 1) _ (by omega) ?_
    split
    · rename_i hc; exact h.ready (by omega) (.inr ⟨rfl, hc.1⟩)
    · exact h
theorem Inv.told {C : Nat → List In} {n : Nat} {run : Option Nat} {ρ : Nat → List Int} {m : Mac} (h : Inv C n run ρ m) (trc' : List Int) : Inv C n run ρ { m with trc := trc' } := { h with }
theorem Inv.turn0 {C : Nat → List In} {n : Nat} (hF : Fine C n) {ρ : Nat → List Int} {m : Mac} (quantum q : Nat) (h : Inv C n none ρ m) : ∃ ρ', Inv C n none ρ' (turn0M C n quantum q m) := by
  have h1 := h.wakeups (q : Int) n 0 m (by omega)
  unfold turn0M
  cases hq : (wakeM (q : Int) n 0 m).q with
  | nil =>
    have h2 := h1.told ((wakeM (q : Int) n 0 m).trc ++ [45])
    simp only [hq] at h2 ⊢
    exact ⟨ρ, h2⟩
  | cons k r =>
    simp only [hq]
    obtain ⟨h2, hk, _⟩ := h1.start hq ((wakeM (q : Int) n 0 m).trc ++ [48 + (k : Int)])
    obtain ⟨ρ', h3⟩ := Inv.runs hF hk q quantum 32 _ _ h2
    split
    · rename_i hs; exact ⟨ρ', h3.ready hk (.inl ⟨rfl, hs⟩)⟩
    · rename_i hs; exact ⟨ρ', h3.leave hs⟩
theorem Inv.turn {C : Nat → List In} {n : Nat} (hF : Fine C n) {ρ : Nat → List Int} {m : Mac} (quantum q : Nat) (h : Inv C n none ρ m) : ∃ ρ', Inv C n none ρ' (turnM C n quantum q m) := by
  obtain ⟨L, e⟩ := turn_eq C n quantum q m
  obtain ⟨ρ', h1⟩ := h.turn0 hF quantum q
  rw [e]
  exact ⟨ρ', { h1 with }⟩
theorem Inv.plays {C : Nat → List In} {n : Nat} (hF : Fine C n) (quantum : Nat) : ∀ i, ∃ ρ, Inv C n none ρ (playM C n quantum i)
  | 0 => ⟨_, inv_begin C n⟩
  | i + 1 => by
    obtain ⟨ρ, h⟩ := Inv.plays hF quantum i
    exact h.turn hF quantum i

/-- How the state of a thread that has not the quantum may turn. -/
def Ch (s s' : Int) : Prop := s' = s ∨ s' = 82 ∨ (s = 87 ∧ s' = 66)
theorem Ch.refl (s : Int) : Ch s s := .inl rfl
theorem Ch.trans {a b c : Int} (h : Ch a b) (k : Ch b c) : Ch a c := by
  unfold Ch at *; omega
theorem upd_ne {f : Nat → Th} {k j : Nat} {t : Th} (h : ¬ j = k) : (upd f k t j).sta = (f j).sta := by rw [upd_other _ _ h]

/-- What one instruction does to what is told, to the queue and to the others. -/
structure Acts (k : Nat) (m m' : Mac) : Prop where
  trc : m'.trc = m.trc
  out : m'.out = m.out ∨ ∃ v, m'.out = m.out ++ dig3 v
  que : ∃ e, m'.q = m.q ++ e
  oth : ∀ j, ¬ j = k → Ch (m.th j).sta (m'.th j).sta ∧ (m'.th j).stk = (m.th j).stk ∧ (m'.th j).pc = (m.th j).pc ∧ (m'.th j).wake = (m.th j).wake
theorem acts_step (m : Mac) (k : Nat) (t : Th) : Acts k m (stepTh m k t) := ⟨rfl, .inl rfl, ⟨[], by simp [stepTh]⟩, fun j hj => by simp only [stepTh, upd_other _ _ hj]; exact ⟨Ch.refl _, by trivial, by trivial, by trivial⟩⟩
theorem acts_give (m : Mac) (k l : Nat) (t : Th) : Acts k m (giveM (stepTh m k t) l) := by
  unfold giveM
  split
  · exact ⟨rfl, .inl rfl, ⟨[], by simp [stepTh]⟩, fun j hj => by simp only [stepTh, upd_other _ _ hj]; exact ⟨Ch.refl _, by trivial, by trivial, by trivial⟩⟩
  · rename_i x r hb
    refine ⟨rfl, .inl rfl, ⟨[x], rfl⟩, fun j hj => ?_⟩
    by_cases e : j = x
    · subst e; simp only [readyM, stepTh, upd_same, upd_other _ _ hj]; exact ⟨.inr (.inl (by trivial)), by trivial, by trivial, by trivial⟩
    · simp only [readyM, stepTh, upd_other _ _ e, upd_other _ _ hj]; exact ⟨Ch.refl _, by trivial, by trivial, by trivial⟩
theorem acts_with {m m1 : Mac} {k : Nat} (h : Acts k m m1) {m' : Mac} (h1 : m'.trc = m1.trc) (h2 : m'.out = m1.out) (h3 : m'.q = m1.q) (h4 : ∀ j, ¬ j = k → m'.th j = m1.th j) : Acts k m m' :=
  ⟨h1.trans h.trc, by rw [h2]; exact h.out, by rw [h3]; exact h.que, fun j hj => by rw [h4 j hj]; exact h.oth j hj⟩
theorem acts_act {C : Nat → List In} {n : Nat} {ρ : Nat → List Int} {m : Mac} {k : Nat} (h : Inv C n (some k) ρ m) (q : Int) : Acts k m (actM C m k q) := by
  unfold actM
  generalize insAt C m k = x
  obtain ⟨c, a⟩ := x
  unfold actOn
  by_cases c1 : c = 107
  · rw [if_pos c1]; exact acts_step _ _ _
  rw [if_neg c1]
  by_cases c2 : c = 103
  · rw [if_pos c2]; exact acts_step _ _ _
  rw [if_neg c2]
  by_cases c3 : c = 115
  · rw [if_pos c3]; exact acts_with (acts_step m k _) rfl rfl rfl (fun _ _ => rfl)
  rw [if_neg c3]
  by_cases c4 : c = 112
  · rw [if_pos c4]
    exact ⟨rfl, .inr ⟨_, rfl⟩, ⟨[], by simp [stepTh]⟩, fun j hj => by simp only [stepTh, upd_other _ _ hj]; exact ⟨Ch.refl _, by trivial, by trivial, by trivial⟩⟩
  rw [if_neg c4]
  by_cases c5 : c = 43
  · rw [if_pos c5]; exact acts_step _ _ _
  rw [if_neg c5]
  by_cases c6 : c = 45
  · rw [if_pos c6]; exact acts_step _ _ _
  rw [if_neg c6]
  by_cases c7 : c = 74
  · rw [if_pos c7]; exact acts_step _ _ _
  rw [if_neg c7]
  by_cases c8 : c = 90
  · rw [if_pos c8]; exact acts_step _ _ _
  rw [if_neg c8]
  by_cases c9 : c = 65
  · rw [if_pos c9]
    by_cases ho : m.own a.toNat < 0
    · rw [if_pos ho]; exact acts_with (acts_step m k _) rfl rfl rfl (fun _ _ => rfl)
    · rw [if_neg ho]; exact acts_with (acts_step m k _) rfl rfl rfl (fun _ _ => rfl)
  rw [if_neg c9]
  by_cases c10 : c = 82
  · rw [if_pos c10]; exact acts_give _ _ _ _
  rw [if_neg c10]
  by_cases c11 : c = 87
  · rw [if_pos c11]; exact acts_with (acts_give m k _ _) rfl rfl rfl (fun j hj => by simp only [waitM, upd_other _ _ hj])
  rw [if_neg c11]
  by_cases c12 : c = 78
  · rw [if_pos c12]
    unfold noteM
    have hwe : (stepTh m k { m.th k with pc := (m.th k).pc + 1 }).wai a.toNat = m.wai a.toNat := rfl
    rw [hwe]
    cases hw : m.wai a.toNat with
    | nil => exact acts_step _ _ _
    | cons x r =>
      have hx := ((h.wai _ x).1 (by rw [hw]; simp)).2.1
      refine ⟨rfl, .inl rfl, ⟨[], by simp [stepTh]⟩, fun j hj => ?_⟩
      by_cases e : j = x
      · subst e; simp only [stepTh, upd_same, upd_other _ _ hj]; exact ⟨.inr (.inr ⟨hx, by trivial⟩), by trivial, by trivial, by trivial⟩
      · simp only [stepTh, upd_other _ _ e, upd_other _ _ hj]; exact ⟨Ch.refl _, by trivial, by trivial, by trivial⟩
  rw [if_neg c12]
  by_cases c13 : c = 84
  · rw [if_pos c13]; exact acts_step _ _ _
  rw [if_neg c13]
  by_cases c14 : c = 88
  · rw [if_pos c14]; exact acts_step _ _ _
  rw [if_neg c14]
  exact acts_step _ _ _

/-- The same of a whole quantum's instructions. -/
structure Runs (k i : Nat) (m m' : Mac) : Prop where
  trc : m'.trc = m.trc
  out : ∃ e, m'.out = m.out ++ e ∧ e.length % 3 = 0 ∧ e.length ≤ 3 * i
  que : ∃ e, m'.q = m.q ++ e
  oth : ∀ j, ¬ j = k → Ch (m.th j).sta (m'.th j).sta ∧ (m'.th j).stk = (m.th j).stk ∧ (m'.th j).pc = (m.th j).pc ∧ (m'.th j).wake = (m.th j).wake
theorem runs_all {C : Nat → List In} {n k : Nat} (hF : Fine C n) (hk : k < n) (q : Int) : ∀ (i : Nat) (op : Int) (m : Mac) (ρ : Nat → List Int), Inv C n (some k) ρ m → Runs k i m (runM C k q i op m)
  | 0, _, m, _, _ => ⟨rfl, ⟨[], by simp [runM], by simp, by simp⟩, ⟨[], by simp [runM]⟩, fun j _ => ⟨Ch.refl _, rfl, rfl, rfl⟩⟩
  | i + 1, op, m, ρ, h => by
    simp only [runM]
    split
    · rename_i hc
      have ha := acts_act h q
      obtain ⟨ρ1, h1⟩ := h.act hF hk hc.1 q
      have hr := runs_all hF hk q i (insAt C m k).1 _ _ h1
      refine ⟨hr.trc.trans ha.trc, ?_, ?_, fun j hj => ?_⟩
      · obtain ⟨e, he, h3, hl⟩ := hr.out
        rcases ha.out with ho | ⟨v, ho⟩
        · exact ⟨e, by rw [he, ho], h3, by omega⟩
        · refine ⟨dig3 v ++ e, by rw [he, ho, List.append_assoc], ?_, ?_⟩
          · rw [List.length_append, show (dig3 v).length = 3 from rfl]; omega
          · rw [List.length_append, show (dig3 v).length = 3 from rfl]; omega
      · obtain ⟨e, he⟩ := hr.que
        obtain ⟨e', he'⟩ := ha.que
        exact ⟨e' ++ e, by rw [he, he', List.append_assoc]⟩
      · obtain ⟨a1, a2, a3, a4⟩ := ha.oth j hj
        obtain ⟨b1, b2, b3, b4⟩ := hr.oth j hj
        exact ⟨a1.trans b1, b2.trans a2, b3.trans a3, b4.trans a4⟩
    · exact ⟨rfl, ⟨[], by simp, by simp, by simp⟩, ⟨[], by simp⟩, fun j _ => ⟨Ch.refl _, rfl, rfl, rfl⟩⟩

/-- Those who wake up go behind the queue; nothing else turns. -/
structure Woke (q : Int) (m m' : Mac) : Prop where
  trc : m'.trc = m.trc
  out : m'.out = m.out
  cells : m'.cells = m.cells
  own : m'.own = m.own
  blk : m'.blk = m.blk
  wai : m'.wai = m.wai
  que : ∃ e, m'.q = m.q ++ e ∧ ((∀ j, ¬ j ∈ e → m'.th j = m.th j) ∧ ∀ j, j ∈ e → (m.th j).sta = 83 ∧ (m.th j).wake = q ∧ m'.th j = { m.th j with sta := 82 })
theorem wokes {q : Int} : ∀ (i k : Nat) (m : Mac), Woke q m (wakeM q i k m)
  | 0, _, m => ⟨rfl, rfl, rfl, rfl, rfl, rfl, ⟨[], by simp [wakeM], fun _ _ => rfl, fun j h => by cases h⟩⟩
  | i + 1, k, m => by
    simp only [wakeM]
    split
    · rename_i hc
      have h := wokes (q := q) i (k + 1) (readyM m k)
      obtain ⟨e, he, h1, h2⟩ := h.que
      refine ⟨h.trc, h.out, h.cells, h.own, h.blk, h.wai, ⟨k :: e, by rw [he]; simp [readyM], fun j hj => ?_, fun j hj => ?_⟩⟩
      · simp at hj
        rw [h1 j hj.2]; simp only [readyM, upd_other _ _ hj.1]
      · have hke : ¬ k ∈ e := fun hm => by have := (h2 k hm).1; simp [readyM, upd_same] at this
        rcases List.mem_cons.1 hj with rfl | hj
        · refine ⟨hc.1, hc.2, ?_⟩
          rw [h1 j hke]; simp only [readyM, upd_same]
        · have hjk : ¬ j = k := fun e2 => hke (e2 ▸ hj)
          have := h2 j hj
          simp only [readyM, upd_other _ _ hjk] at this
          exact this
    · exact wokes i (k + 1) m

/-- What a quantum does. -/
structure Turned (n quantum q : Nat) (m m' : Mac) : Prop where
  out : ∃ e, m'.out = m.out ++ e ∧ e.length % 3 = 0 ∧ e.length ≤ 3 * quantum
  who : (m'.trc = m.trc ++ [45] ∧ m.q = [] ∧ (∀ j, m'.th j = m.th j) ∧ m'.out = m.out ∧ m'.own = m.own ∧ m'.cells = m.cells ∧ m'.blk = m.blk ∧ m'.wai = m.wai ∧ m'.q = []) ∨
    ∃ k, k < n ∧ m'.trc = m.trc ++ [48 + (k : Int)] ∧ ((m.th k).sta = 82 ∨ (m.th k).sta = 83) ∧ (∀ j, ¬ j = k → Ch (m.th j).sta (m'.th j).sta) ∧ (∀ x r, m.q = x :: r → x = k ∧ ∃ e, m'.q = r ++ e)
theorem turned0 {C : Nat → List In} {n : Nat} (hF : Fine C n) {ρ : Nat → List Int} {m : Mac} (quantum q : Nat) (h : Inv C n none ρ m) : Turned n quantum q m (turn0M C n quantum q m) := by
  have h1 := h.wakeups (q : Int) n 0 m (by omega)
  have hw := wokes (q := (q : Int)) n 0 m
  obtain ⟨e, he, hw1, hw2⟩ := hw.que
  have hch : ∀ j, Ch (m.th j).sta ((wakeM (q : Int) n 0 m).th j).sta := fun j => by
    by_cases hj : j ∈ e
    · rw [(hw2 j hj).2.2]; exact .inr (.inl rfl)
    · rw [hw1 j hj]; exact Ch.refl _
  unfold turn0M
  cases hq : (wakeM (q : Int) n 0 m).q with
  | nil =>
    simp only [hq]
    rw [hq] at he
    have h0 := List.append_eq_nil_iff.1 he.symm
    refine ⟨⟨[], by simp [hw.out], by simp, by simp⟩, .inl ⟨by rw [hw.trc], h0.1, fun j => hw1 j (by rw [h0.2]; simp), hw.out, hw.own, hw.cells, hw.blk, hw.wai, ?_⟩⟩
    first | rfl | exact hq
  | cons k r =>
    simp only [hq]
    obtain ⟨h2, hk, hs⟩ := h1.start hq ((wakeM (q : Int) n 0 m).trc ++ [48 + (k : Int)])
    have hr := runs_all hF hk (q : Int) quantum 32 _ _ h2
    have hsk : (m.th k).sta = 82 ∨ (m.th k).sta = 83 := by
      by_cases hj : k ∈ e
      · exact .inr (hw2 k hj).1
      · rw [hw1 k hj] at hs; exact .inl hs
    have hquex : ∀ x r', m.q = x :: r' → x = k ∧ ∃ e', r = r' ++ e' := fun x r' hx => by
      rw [hq, hx] at he
      simp at he
      exact ⟨he.1.symm, e, he.2⟩
    obtain ⟨eo, ho1, ho2, ho3⟩ := hr.out
    obtain ⟨eq, hqq⟩ := hr.que
    simp only at ho1 hqq
    have hoth : ∀ j, ¬ j = k → Ch (m.th j).sta ((runM C k q quantum 32 { wakeM (q : Int) n 0 m with q := r, trc := (wakeM (q : Int) n 0 m).trc ++ [48 + (k : Int)] }).th j).sta := fun j hj => (hch j).trans (hr.oth j hj).1
    have htrc := hr.trc
    simp only at htrc
    split
    · refine ⟨⟨eo, by rw [← hw.out]; exact ho1, ho2, ho3⟩, .inr ⟨k, hk, ?_, hsk, fun j hj => ?_, fun x r' hx => ?_⟩⟩
      · rw [← hw.trc]; exact htrc
      · simp only [readyM, upd_other _ _ hj]; exact hoth j hj
      · obtain ⟨e1, e', he'⟩ := hquex x r' hx
        refine ⟨e1, e' ++ eq ++ [k], ?_⟩
        simp only [readyM]
        rw [hqq, he']; simp
    · refine ⟨⟨eo, by rw [← hw.out]; exact ho1, ho2, ho3⟩, .inr ⟨k, hk, by rw [← hw.trc]; exact htrc, hsk, hoth, fun x r' hx => ?_⟩⟩
      obtain ⟨e1, e', he'⟩ := hquex x r' hx
      exact ⟨e1, e' ++ eq, by rw [hqq, he']; simp⟩
theorem turned {C : Nat → List In} {n : Nat} (hF : Fine C n) {ρ : Nat → List Int} {m : Mac} (quantum q : Nat) (h : Inv C n none ρ m) : Turned n quantum q m (turnM C n quantum q m) := by
  obtain ⟨L, e⟩ := turn_eq C n quantum q m
  have h1 := turned0 hF quantum q h
  rw [e]
  exact ⟨h1.out, h1.who⟩

theorem play_turned {C : Nat → List In} {n : Nat} (hF : Fine C n) (quantum : Nat) (i : Nat) : Turned n quantum i (playM C n quantum i) (playM C n quantum (i + 1)) := by
  obtain ⟨ρ, h⟩ := Inv.plays hF quantum i
  exact turned hF quantum i h
theorem play_trc_len {C : Nat → List In} {n : Nat} (hF : Fine C n) (quantum : Nat) : ∀ i, (playM C n quantum i).trc.length = i
  | 0 => rfl
  | i + 1 => by
    have ih := play_trc_len hF quantum i
    rcases (play_turned hF quantum i).who with ⟨h, _⟩ | ⟨k, _, h, _⟩ <;> rw [h] <;> simp [ih]
theorem play_out_len {C : Nat → List In} {n : Nat} (hF : Fine C n) (quantum : Nat) : ∀ i, (playM C n quantum i).out.length % 3 = 0 ∧ (playM C n quantum i).out.length ≤ 3 * (i * quantum)
  | 0 => by simp [playM, beginM]
  | i + 1 => by
    obtain ⟨h1, h2⟩ := play_out_len hF quantum i
    obtain ⟨e, he, h3, h4⟩ := (play_turned hF quantum i).out
    rw [he, List.length_append]
    have e2 : (i + 1) * quantum = i * quantum + quantum := Nat.succ_mul i quantum
    rw [e2]
    omega
theorem give_log (m : Mac) (l : Nat) : (giveM m l).log = m.log := by unfold giveM; split <;> rfl
theorem note_log (m : Mac) (l : Nat) : (noteM m l).log = m.log := by unfold noteM; split <;> rfl
theorem ite_log {p : Prop} [Decidable p] {a b : Mac} {L : List Int} (h1 : a.log = L) (h2 : b.log = L) : (if p then a else b).log = L := by
  by_cases h : p
  · rw [if_pos h]; exact h1
  · rw [if_neg h]; exact h2
theorem on_log (m : Mac) (k : Nat) (q c a : Int) : (actOn m k q c a).log = m.log := by
  unfold actOn
  repeat' apply ite_log
  all_goals first | rfl | exact give_log _ _ | exact note_log _ _
theorem run_log (C : Nat → List In) (k : Nat) (q : Int) : ∀ (i : Nat) (op : Int) (m : Mac), (runM C k q i op m).log = m.log
  | 0, _, _ => rfl
  | i + 1, op, m => by
    simp only [runM]
    split
    · rw [run_log C k q i]; exact on_log _ _ _ _ _
    · rfl
theorem wake_log (q : Int) : ∀ (i k : Nat) (m : Mac), (wakeM q i k m).log = m.log
  | 0, _, _ => rfl
  | i + 1, k, m => by
    simp only [wakeM]
    rw [wake_log q i]
    split <;> rfl
theorem turn0_log (C : Nat → List In) (n quantum q : Nat) (m : Mac) : (turn0M C n quantum q m).log = m.log := by
  unfold turn0M
  cases hq : (wakeM (q : Int) n 0 m).q with
  | nil => simp only [hq]; exact wake_log _ _ _ _
  | cons k r =>
    simp only [hq]
    split
    · exact (run_log _ _ _ _ _ _).trans (wake_log _ _ _ _)
    · exact (run_log _ _ _ _ _ _).trans (wake_log _ _ _ _)
theorem names_len (s : Nat → Bool) : ∀ i, (namesM s i).length ≤ i
  | 0 => Nat.le_refl _
  | i + 1 => by
    have := names_len s i
    simp only [namesM, List.length_append]
    split <;> simp <;> omega
theorem ent_len (n : Nat) (m : Mac) (k q : Nat) : (entM n m k q).length ≤ 8 := by
  unfold entM
  split
  · have := names_len (ringM n m k 4 k (fun _ => false)).1 4
    simp only [List.length_append, List.length_cons, List.length_nil]
    omega
  · simp
theorem names_bytes (s : Nat → Bool) : ∀ i, i ≤ 4 → ∀ x ∈ namesM s i, 0 ≤ x ∧ x < 256
  | 0, _ => by simp [namesM]
  | i + 1, h => by
    intro x hx
    simp only [namesM, List.mem_append] at hx
    rcases hx with hx | hx
    · exact names_bytes s i (by omega) x hx
    · split at hx
      · simp at hx; omega
      · simp at hx
theorem ent_bytes (n : Nat) (m : Mac) (k q : Nat) : ∀ x ∈ entM n m k q, 0 ≤ x ∧ x < 256 := by
  intro x hx
  unfold entM at hx
  split at hx
  · simp only [List.mem_append, List.mem_cons, List.not_mem_nil, or_false] at hx
    rcases hx with ((rfl | rfl | rfl) | hx) | rfl
    · omega
    · omega
    · omega
    · exact names_bytes _ 4 (Nat.le_refl _) x hx
    · omega
  · simp at hx
theorem play_log (C : Nat → List In) (n quantum i : Nat) : ∃ e, (playM C n quantum (i + 1)).log = (playM C n quantum i).log ++ e ∧ e.length ≤ 8 ∧ ∀ x ∈ e, 0 ≤ x ∧ x < 256 := by
  simp only [playM]
  unfold turnM
  split
  · exact ⟨[], by rw [turn0_log]; simp, by simp, by simp⟩
  · exact ⟨_, by rw [turn0_log], ent_len _ _ _ _, ent_bytes _ _ _ _⟩
theorem play_log_len (C : Nat → List In) (n quantum : Nat) : ∀ i, (playM C n quantum i).log.length ≤ 8 * i
  | 0 => Nat.le_refl _
  | i + 1 => by
    obtain ⟨e, h1, h2, _⟩ := play_log C n quantum i
    have := play_log_len C n quantum i
    rw [h1, List.length_append]
    omega
theorem play_log_bytes (C : Nat → List In) (n quantum : Nat) : ∀ i, ∀ x ∈ (playM C n quantum i).log, 0 ≤ x ∧ x < 256
  | 0 => by simp [playM, beginM]
  | i + 1 => by
    obtain ⟨e, h1, _, h2⟩ := play_log C n quantum i
    intro x hx
    rw [h1] at hx
    rcases List.mem_append.1 hx with hx | hx
    · exact play_log_bytes C n quantum i x hx
    · exact h2 x hx
theorem play_log_grows (C : Nat → List In) (n quantum i : Nat) : ∀ d, ∃ e, (playM C n quantum (i + d)).log = (playM C n quantum i).log ++ e
  | 0 => ⟨[], by simp⟩
  | d + 1 => by
    obtain ⟨e, h1⟩ := play_log_grows C n quantum i d
    obtain ⟨f, h2, _⟩ := play_log C n quantum (i + d)
    exact ⟨e ++ f, by rw [show i + (d + 1) = i + d + 1 from rfl, h2, h1, List.append_assoc]⟩
theorem play_idle_log {C : Nat → List In} {n : Nat} (hF : Fine C n) (quantum i : Nat) (h : (playM C n quantum (i + 1)).trc = (playM C n quantum i).trc ++ [45]) : (playM C n quantum (i + 1)).log = (playM C n quantum i).log := by
  obtain ⟨ρ, hI⟩ := Inv.plays hF quantum i
  have h1 := hI.wakeups (i : Int) n 0 _ (by omega)
  have hw := wokes (q := (i : Int)) n 0 (playM C n quantum i)
  simp only [playM] at h ⊢
  generalize playM C n quantum i = m at *
  unfold turnM at h ⊢
  cases hq : (wakeM (i : Int) n 0 m).q with
  | nil => simp only; exact turn0_log _ _ _ _ _
  | cons k r =>
    exfalso
    rw [hq] at h
    simp only at h
    obtain ⟨h2, hk, _⟩ := h1.start hq ((wakeM (i : Int) n 0 m).trc ++ [48 + (k : Int)])
    have hr := (runs_all hF hk (i : Int) quantum 32 _ _ h2).trc
    simp only at hr
    have h3 : (turn0M C n quantum i m).trc = m.trc ++ [48 + (k : Int)] := by
      unfold turn0M
      simp only [hq]
      split
      · rw [← hw.trc]; exact hr
      · rw [← hw.trc]; exact hr
    rw [h3] at h
    have := List.append_cancel_left h
    simp at this
    omega
theorem play_grows {C : Nat → List In} {n : Nat} (hF : Fine C n) (quantum : Nat) (i : Nat) : ∀ d, ∃ e f, (playM C n quantum (i + d)).out = (playM C n quantum i).out ++ e ∧ (playM C n quantum (i + d)).trc = (playM C n quantum i).trc ++ f
  | 0 => ⟨[], [], by simp, by simp⟩
  | d + 1 => by
    obtain ⟨e, f, h1, h2⟩ := play_grows hF quantum i d
    have ht := play_turned hF quantum (i + d)
    obtain ⟨e', he', _⟩ := ht.out
    have : ∃ f', (playM C n quantum (i + d + 1)).trc = (playM C n quantum (i + d)).trc ++ f' := by
      rcases ht.who with ⟨h, _⟩ | ⟨k, _, h, _⟩
      · exact ⟨_, h⟩
      · exact ⟨_, h⟩
    obtain ⟨f', hf'⟩ := this
    exact ⟨e ++ e', f ++ f', by rw [show i + (d + 1) = i + d + 1 from rfl, he', h1, List.append_assoc], by rw [show i + (d + 1) = i + d + 1 from rfl, hf', h2, List.append_assoc]⟩
theorem play_states {C : Nat → List In} {n : Nat} (hF : Fine C n) (quantum : Nat) (i k : Nat) (hk : k < n) : let s := ((playM C n quantum i).th k).sta; s = 82 ∨ s = 66 ∨ s = 87 ∨ s = 83 ∨ s = 68 := by
  obtain ⟨ρ, h⟩ := Inv.plays hF quantum i
  exact h.sta k hk
theorem play_cells {C : Nat → List In} {n : Nat} (hF : Fine C n) (quantum : Nat) (i j : Nat) : 0 ≤ (playM C n quantum i).cells j ∧ (playM C n quantum i).cells j < 1000 := by
  obtain ⟨ρ, h⟩ := Inv.plays hF quantum i
  exact h.cells j
theorem play_who {C : Nat → List In} {n : Nat} (hF : Fine C n) (quantum : Nat) (i l : Nat) : (playM C n quantum i).own l = -1 ∨ ∃ k : Nat, k < n ∧ (playM C n quantum i).own l = (k : Int) ∧ ¬ ((playM C n quantum i).th k).sta = 68 := by
  obtain ⟨ρ, h⟩ := Inv.plays hF quantum i
  rcases h.who l with h1 | ⟨k, hk, h1⟩
  · exact .inl h1
  · refine .inr ⟨k, hk, h1, fun hd => ?_⟩
    have := (h.own l k hk).1 h1
    rw [h.done k hk hd] at this
    simp [owned] at this
/-- A thread that is blocked is so at a lock that another one owns. -/
theorem play_blocked {C : Nat → List In} {n : Nat} (hF : Fine C n) (quantum : Nat) (i k : Nat) (hk : k < n) (hb : ((playM C n quantum i).th k).sta = 66) : ∃ l : Nat, l < 4 ∧ k ∈ (playM C n quantum i).blk l ∧ ∃ j : Nat, j < n ∧ ¬ j = k ∧ (playM C n quantum i).own l = (j : Int) := by
  obtain ⟨ρ, h⟩ := Inv.plays hF quantum i
  have hR := (h.at_ k hk (by omega)).valid (hF.ok k hk)
  have hnd := nodup_rows hF h k hk
  obtain ⟨r, y, hry⟩ : ∃ r y, ρ k = r ++ [y] := by
    rcases snoc_or (ρ k) with e | ⟨r, y, e⟩
    · exact absurd e (h.ne k hk (.inl hb))
    · exact ⟨r, y, e⟩
  have hy := hR.2.2.2.2.1 y (by simp only; rw [hry]; simp)
  obtain ⟨l, rfl⟩ : ∃ l : Nat, y = (l : Int) := ⟨y.toNat, by omega⟩
  have hm : k ∈ (playM C n quantum i).blk l := (h.blk l k).2 ⟨hk, hb, by rw [hry]; simp⟩
  refine ⟨l, by omega, hm, ?_⟩
  have h1 := h.has l (fun e => by rw [e] at hm; cases hm)
  rcases h.who l with h2 | ⟨j, hj, h2⟩
  · exact absurd h2 h1
  · refine ⟨j, hj, fun e => ?_, h2⟩
    subst e
    have := (h.own l j hj).1 h2
    rw [owned, if_pos (.inl hb), hry, List.dropLast_concat] at this
    rw [hry, List.nodup_append] at hnd
    exact hnd.2.2 _ this _ (by simp) rfl
/-- Who stands in the queue behind p others has the quantum behind p more. -/
theorem play_queue {C : Nat → List In} {n : Nat} (hF : Fine C n) (quantum : Nat) (k : Nat) : ∀ (p i : Nat) (a b : List Nat), (playM C n quantum i).q = a ++ k :: b → a.length = p → ∃ f, (playM C n quantum (i + p + 1)).trc = (playM C n quantum (i + p)).trc ++ [48 + (k : Int)] ∧ (playM C n quantum (i + p)).trc = (playM C n quantum i).trc ++ f
  | 0, i, a, b, hq, hp => by
    have ha : a = [] := List.eq_nil_of_length_eq_zero hp
    subst ha
    rcases (play_turned hF quantum i).who with ⟨_, h, _⟩ | ⟨j, _, h, _, _, h2⟩
    · rw [hq] at h; simp at h
    · obtain ⟨e, _⟩ := h2 k b (by simpa using hq)
      subst e
      exact ⟨[], h, by simp⟩
  | p + 1, i, a, b, hq, hp => by
    obtain ⟨x, a', rfl⟩ : ∃ x a', a = x :: a' := by
      cases a with
      | nil => simp at hp
      | cons x a' => exact ⟨x, a', rfl⟩
    rcases (play_turned hF quantum i).who with ⟨_, h, _⟩ | ⟨j, _, h, _, _, h2⟩
    · rw [hq] at h; simp at h
    · obtain ⟨e, e', hq'⟩ := h2 x (a' ++ k :: b) (by simpa using hq)
      obtain ⟨f, h3, h4⟩ := play_queue hF quantum k p (i + 1) a' (b ++ e') (by rw [hq']; simp) (by simpa using hp)
      rw [show i + (p + 1) = i + 1 + p from by omega]
      exact ⟨_, h3, by rw [h4, h, List.append_assoc]⟩
/-- P11: who is ready has a quantum within as many as there are threads. -/
theorem play_fair {C : Nat → List In} {n : Nat} (hF : Fine C n) (quantum : Nat) (i k : Nat) (hk : k < n) (hs : ((playM C n quantum i).th k).sta = 82) : (48 + (k : Int)) ∈ (playM C n quantum (i + n)).trc.drop i := by
  obtain ⟨ρ, h⟩ := Inv.plays hF quantum i
  have hm := (h.que k).2 ⟨hk, hs, by simp⟩
  obtain ⟨a, b, hq⟩ := List.append_of_mem hm
  have hlen : (playM C n quantum i).q.length ≤ n := by
    have := nodup_len _ (List.range n) h.qnd (fun x hx => List.mem_range.2 ((h.que x).1 hx).1)
    simpa using this
  have ha : a.length < n := by rw [hq] at hlen; simp at hlen; omega
  obtain ⟨f, h1, h2⟩ := play_queue hF quantum k a.length i a b hq rfl
  obtain ⟨e, g, _, h4⟩ := play_grows hF quantum (i + a.length + 1) (n - a.length - 1)
  rw [show i + a.length + 1 + (n - a.length - 1) = i + n from by omega] at h4
  rw [h4, h1, h2]
  have hl := play_trc_len hF quantum i
  have hd : ∀ (L X : List Int), L.length = i → (L ++ X).drop i = X := fun L X e => by subst e; exact List.drop_left
  rw [List.append_assoc, List.append_assoc, hd _ _ hl]
  simp

/-- The same but for the queue and the trace. -/
structure Like (m m' : Mac) : Prop where
  th : m'.th = m.th
  cells : m'.cells = m.cells
  own : m'.own = m.own
  blk : m'.blk = m.blk
  wai : m'.wai = m.wai
  out : m'.out = m.out
theorem Like.refl (m : Mac) : Like m m := ⟨rfl, rfl, rfl, rfl, rfl, rfl⟩
theorem Like.symm {m m' : Mac} (h : Like m m') : Like m' m := ⟨h.th.symm, h.cells.symm, h.own.symm, h.blk.symm, h.wai.symm, h.out.symm⟩
theorem Like.trans {a b c : Mac} (h : Like a b) (k : Like b c) : Like a c := ⟨k.th.trans h.th, k.cells.trans h.cells, k.own.trans h.own, k.blk.trans h.blk, k.wai.trans h.wai, k.out.trans h.out⟩
theorem like_eta {m m' : Mac} (h : Like m m') : m' = { m with q := m'.q, trc := m'.trc, log := m'.log } := by
  cases m; cases m'
  obtain ⟨h1, h2, h3, h4, h5, h6⟩ := h
  simp only at h1 h2 h3 h4 h5 h6
  subst h1; subst h2; subst h3; subst h4; subst h5; subst h6; rfl
theorem like_give (m : Mac) (x : List Nat) (y z : List Int) (k l : Nat) (t : Th) : Like (giveM (stepTh m k t) l) (giveM (stepTh { m with q := x, trc := y, log := z } k t) l) := by
  unfold giveM
  have e : (stepTh { m with q := x, trc := y, log := z } k t).blk l = (stepTh m k t).blk l := rfl
  rw [e]
  cases (stepTh m k t).blk l with
  | nil => exact ⟨rfl, rfl, rfl, rfl, rfl, rfl⟩
  | cons j r => exact ⟨rfl, rfl, rfl, rfl, rfl, rfl⟩
theorem like_note (m : Mac) (x : List Nat) (y z : List Int) (k l : Nat) (t : Th) : Like (noteM (stepTh m k t) l) (noteM (stepTh { m with q := x, trc := y, log := z } k t) l) := by
  unfold noteM
  have e : (stepTh { m with q := x, trc := y, log := z } k t).wai l = (stepTh m k t).wai l := rfl
  rw [e]
  cases (stepTh m k t).wai l with
  | nil => exact ⟨rfl, rfl, rfl, rfl, rfl, rfl⟩
  | cons j r => exact ⟨rfl, rfl, rfl, rfl, rfl, rfl⟩
theorem like_wait {m m' : Mac} (h : Like m m') (k l : Nat) : Like (waitM m k l) (waitM m' k l) := ⟨by simp only [waitM, h.th], h.cells, h.own, h.blk, by simp only [waitM, h.wai], h.out⟩
theorem like_on {m m' : Mac} (h : Like m m') (k : Nat) (q q' c a : Int) (hc : ¬ c = 84) : Like (actOn m k q c a) (actOn m' k q' c a) := by
  rw [like_eta h]
  generalize m'.q = x
  generalize m'.trc = y
  generalize m'.log = z
  unfold actOn
  by_cases c1 : c = 107
  · rw [if_pos c1, if_pos c1]; exact ⟨rfl, rfl, rfl, rfl, rfl, rfl⟩
  rw [if_neg c1, if_neg c1]
  by_cases c2 : c = 103
  · rw [if_pos c2, if_pos c2]; exact ⟨rfl, rfl, rfl, rfl, rfl, rfl⟩
  rw [if_neg c2, if_neg c2]
  by_cases c3 : c = 115
  · rw [if_pos c3, if_pos c3]; exact ⟨rfl, rfl, rfl, rfl, rfl, rfl⟩
  rw [if_neg c3, if_neg c3]
  by_cases c4 : c = 112
  · rw [if_pos c4, if_pos c4]; exact ⟨rfl, rfl, rfl, rfl, rfl, rfl⟩
  rw [if_neg c4, if_neg c4]
  by_cases c5 : c = 43
  · rw [if_pos c5, if_pos c5]; exact ⟨rfl, rfl, rfl, rfl, rfl, rfl⟩
  rw [if_neg c5, if_neg c5]
  by_cases c6 : c = 45
  · rw [if_pos c6, if_pos c6]; exact ⟨rfl, rfl, rfl, rfl, rfl, rfl⟩
  rw [if_neg c6, if_neg c6]
  by_cases c7 : c = 74
  · rw [if_pos c7, if_pos c7]; exact ⟨rfl, rfl, rfl, rfl, rfl, rfl⟩
  rw [if_neg c7, if_neg c7]
  by_cases c8 : c = 90
  · rw [if_pos c8, if_pos c8]; exact ⟨rfl, rfl, rfl, rfl, rfl, rfl⟩
  rw [if_neg c8, if_neg c8]
  by_cases c9 : c = 65
  · rw [if_pos c9, if_pos c9]
    by_cases ho : m.own a.toNat < 0
    · rw [if_pos ho, if_pos ho]; exact ⟨rfl, rfl, rfl, rfl, rfl, rfl⟩
    · rw [if_neg ho, if_neg ho]; exact ⟨rfl, rfl, rfl, rfl, rfl, rfl⟩
  rw [if_neg c9, if_neg c9]
  by_cases c10 : c = 82
  · rw [if_pos c10, if_pos c10]; exact like_give _ _ _ _ _ _ _
  rw [if_neg c10, if_neg c10]
  by_cases c11 : c = 87
  · rw [if_pos c11, if_pos c11]; exact like_wait (like_give _ _ _ _ _ _ _) _ _
  rw [if_neg c11, if_neg c11]
  by_cases c12 : c = 78
  · rw [if_pos c12, if_pos c12]; exact like_note _ _ _ _ _ _ _
  rw [if_neg c12, if_neg c12]
  rw [if_neg hc, if_neg hc]
  by_cases c13 : c = 88
  · rw [if_pos c13, if_pos c13]; exact ⟨rfl, rfl, rfl, rfl, rfl, rfl⟩
  rw [if_neg c13, if_neg c13]
  exact ⟨rfl, rfl, rfl, rfl, rfl, rfl⟩

/-- So many instructions of thread 0, while it is ready. -/
def iterA (C : Nat → List In) : Nat → Mac → Mac
  | 0, m => m
  | i + 1, m => if (m.th 0).sta = 82 then iterA C i (actM C m 0 0) else m
theorem iterA_stop {C : Nat → List In} {m : Mac} (h : ¬ (m.th 0).sta = 82) : ∀ i, iterA C i m = m
  | 0 => rfl
  | i + 1 => by simp only [iterA, if_neg h]
theorem iterA_add (C : Nat → List In) : ∀ (i j : Nat) (m : Mac), iterA C (i + j) m = iterA C j (iterA C i m)
  | 0, j, m => by simp [iterA]
  | i + 1, j, m => by
    rw [show i + 1 + j = i + j + 1 from by omega]
    simp only [iterA]
    split
    · exact iterA_add C i j _
    · rename_i h; exact (iterA_stop h j).symm
/-- No instruction of the code ends a quantum early but X. -/
def Steady (I : List In) : Prop := ∀ x ∈ I, ¬ x.1 = 89 ∧ ¬ x.1 = 84 ∧ ¬ x.1 = 87
theorem ins_steady {C : Nat → List In} (hS : Steady (C 0)) (m : Mac) : ¬ (insAt C m 0).1 = 89 ∧ ¬ (insAt C m 0).1 = 84 := by
  unfold insAt
  rw [List.getD_eq_getElem?_getD]
  cases h : (C 0)[(m.th 0).pc]? with
  | none => simp
  | some x => have := hS x (List.mem_of_getElem? h); exact ⟨this.1, this.2.1⟩
theorem ins_like {C : Nat → List In} {m m' : Mac} (h : Like m m') (k : Nat) : insAt C m' k = insAt C m k := by unfold insAt; rw [h.th]
theorem like_iter {C : Nat → List In} (hS : Steady (C 0)) : ∀ (i : Nat) (m m' : Mac), Like m m' → Like (iterA C i m) (iterA C i m')
  | 0, _, _, h => h
  | i + 1, m, m', h => by
    simp only [iterA]
    rw [h.th]
    split
    · refine like_iter hS i _ _ ?_
      unfold actM
      rw [ins_like h]
      exact like_on h _ _ _ _ _ (ins_steady hS m).2
    · exact h
theorem like_run {C : Nat → List In} (hS : Steady (C 0)) (q : Int) : ∀ (i : Nat) (op : Int) (m m' : Mac), ¬ op = 89 → Like m m' → Like (iterA C i m) (runM C 0 q i op m')
  | 0, _, _, _, _, h => h
  | i + 1, op, m, m', ho, h => by
    simp only [iterA, runM]
    rw [h.th]
    by_cases hs : (m.th 0).sta = 82
    · rw [if_pos hs, if_pos ⟨hs, ho⟩]
      refine like_run hS q i _ _ _ (by rw [ins_like h]; exact (ins_steady hS m).1) ?_
      unfold actM
      rw [ins_like h]
      exact like_on h _ _ _ _ _ (ins_steady hS m).2
    · rw [if_neg hs, if_neg (fun x => hs x.1)]; exact h

/-- A single thread is never blocked, asleep or waiting. -/
theorem act_alone {C : Nat → List In} {ρ : Nat → List Int} {m : Mac} (hF : Fine C 1) (hS : Steady (C 0)) (h : Inv C 1 (some 0) ρ m) (hs : (m.th 0).sta = 82) (q : Int) : ((actM C m 0 q).th 0).sta = 82 ∨ ((actM C m 0 q).th 0).sta = 68 := by
  obtain ⟨c, a, hca, hins, _, ha0, _, _, _, hlb, _⟩ := at_ins hF h (Nat.zero_lt_one) (by omega)
  have hst := hS _ (List.mem_of_getElem? hca)
  simp only at hst
  have hal : ((a.toNat : Nat) : Int) = a := by omega
  have hstep : ∀ t : Th, t.sta = 82 → ((stepTh m 0 t).th 0).sta = 82 := fun t ht => by simp only [stepTh, upd_same]; exact ht
  have hgive : ∀ (t : Th) (l : Nat), t.sta = 82 → ((giveM (stepTh m 0 t) l).th 0).sta = 82 := fun t l ht => by
    unfold giveM
    split
    · simp only [stepTh, upd_same]; exact ht
    · rename_i x r hb
      by_cases e : 0 = x
      · subst e; simp [readyM, upd_same]
      · simp only [readyM, stepTh, upd_other _ _ e, upd_same]; exact ht
  unfold actM
  rw [hins]
  unfold actOn
  by_cases c1 : c = 107
  · rw [if_pos c1]; exact .inl (hstep _ hs)
  rw [if_neg c1]
  by_cases c2 : c = 103
  · rw [if_pos c2]; exact .inl (hstep _ hs)
  rw [if_neg c2]
  by_cases c3 : c = 115
  · rw [if_pos c3]; exact .inl (hstep _ hs)
  rw [if_neg c3]
  by_cases c4 : c = 112
  · rw [if_pos c4]; exact .inl (hstep _ hs)
  rw [if_neg c4]
  by_cases c5 : c = 43
  · rw [if_pos c5]; exact .inl (hstep _ hs)
  rw [if_neg c5]
  by_cases c6 : c = 45
  · rw [if_pos c6]; exact .inl (hstep _ hs)
  rw [if_neg c6]
  by_cases c7 : c = 74
  · rw [if_pos c7]; exact .inl (hstep _ hs)
  rw [if_neg c7]
  by_cases c8 : c = 90
  · rw [if_pos c8]; exact .inl (hstep _ hs)
  rw [if_neg c8]
  by_cases c9 : c = 65
  · rw [if_pos c9]
    have ho : m.own a.toNat < 0 := by
      rcases h.who a.toNat with ho | ⟨j, hj, ho⟩
      · omega
      · have hj0 : j = 0 := by omega
        subst hj0
        have hm := (h.own a.toNat 0 hj).1 ho
        rw [owned_plain (.inl hs), hal] at hm
        have hb : hasL (ρ 0) a = false := by subst c9; simpa [lckBad] using hlb
        simp [hasL] at hb
        exact absurd hm hb
    rw [if_pos ho]; exact .inl (hstep _ hs)
  rw [if_neg c9]
  by_cases c10 : c = 82
  · rw [if_pos c10]; exact .inl (hgive _ _ hs)
  rw [if_neg c10, if_neg hst.2.2]
  by_cases c12 : c = 78
  · rw [if_pos c12]
    unfold noteM
    have hwe : (stepTh m 0 { m.th 0 with pc := (m.th 0).pc + 1 }).wai a.toNat = m.wai a.toNat := rfl
    rw [hwe]
    cases hw : m.wai a.toNat with
    | nil => exact .inl (hstep _ hs)
    | cons x r =>
      have hx := (h.wai a.toNat x).1 (by rw [hw]; simp)
      have hx0 : x = 0 := by omega
      subst hx0; omega
  rw [if_neg c12, if_neg hst.2.1]
  by_cases c14 : c = 88
  · rw [if_pos c14]; exact .inr (by simp [stepTh, upd_same])
  rw [if_neg c14]; exact .inl (hstep _ hs)
theorem run_alone {C : Nat → List In} (hF : Fine C 1) (hS : Steady (C 0)) (q : Int) : ∀ (i : Nat) (op : Int) (m : Mac) (ρ : Nat → List Int), Inv C 1 (some 0) ρ m → ((m.th 0).sta = 82 ∨ (m.th 0).sta = 68) → ((runM C 0 q i op m).th 0).sta = 82 ∨ ((runM C 0 q i op m).th 0).sta = 68
  | 0, _, _, _, _, h => h
  | i + 1, op, m, ρ, hI, h => by
    simp only [runM]
    split
    · rename_i hc
      obtain ⟨ρ1, h1⟩ := hI.act hF Nat.zero_lt_one hc.1 q
      exact run_alone hF hS q i _ _ _ h1 (act_alone hF hS hI hc.1 q)
    · exact h
theorem upd_self {f : Nat → Th} {k : Nat} {t : Th} (h : t = f k) : upd f k t = f := by
  funext j
  by_cases e : j = k
  · subst e; rw [upd_same, h]
  · rw [upd_other _ _ e]
theorem play_alone {C : Nat → List In} (hF : Fine C 1) (hS : Steady (C 0)) (quantum : Nat) : ∀ i, Like (iterA C (i * quantum) (beginM 1)) (playM C 1 quantum i) ∧ (((playM C 1 quantum i).th 0).sta = 82 ∨ ((playM C 1 quantum i).th 0).sta = 68)
  | 0 => ⟨by rw [Nat.zero_mul]; exact Like.refl _, .inl rfl⟩
  | i + 1 => by
    obtain ⟨h1, h2⟩ := play_alone hF hS quantum i
    obtain ⟨ρ, hI⟩ := Inv.plays hF quantum i
    have hwk : wakeM (i : Int) 1 0 (playM C 1 quantum i) = playM C 1 quantum i := by
      simp only [wakeM]
      rw [if_neg (by omega)]
    have e2 : (i + 1) * quantum = i * quantum + quantum := Nat.succ_mul i quantum
    rw [e2, iterA_add]
    have hq := hI.que 0
    rcases h2 with h2 | h2
    · have hm : 0 ∈ (playM C 1 quantum i).q := hq.2 ⟨Nat.zero_lt_one, h2, by simp⟩
      have hq0 : (playM C 1 quantum i).q = [0] := by
        have hlen : (playM C 1 quantum i).q.length ≤ 1 := by
          have := nodup_len _ (List.range 1) hI.qnd (fun x hx => List.mem_range.2 ((hI.que x).1 hx).1)
          simpa using this
        match hl : (playM C 1 quantum i).q, hm, hlen with
        | [x], hm, _ => simp at hm; rw [hm]
        | x :: y :: r, _, hlen => simp at hlen
      obtain ⟨hst, _, _⟩ := hI.start hq0 ((playM C 1 quantum i).trc ++ [48 + ((0 : Nat) : Int)])
      have hr := run_alone hF hS (i : Int) quantum 32 _ _ hst (.inl h2)
      have hlk : Like (iterA C quantum (iterA C (i * quantum) (beginM 1))) (runM C 0 i quantum 32 { playM C 1 quantum i with q := [], trc := (playM C 1 quantum i).trc ++ [48 + ((0 : Nat) : Int)] }) :=
        (like_iter hS quantum _ _ h1).trans (like_run hS (i : Int) quantum 32 _ _ (by omega) ⟨rfl, rfl, rfl, rfl, rfl, rfl⟩)
      simp only [playM]
      obtain ⟨L, eL⟩ := turn_eq C 1 quantum i (playM C 1 quantum i)
      rw [eL]
      simp only [turn0M]
      rw [hwk, hq0]
      simp only
      split
      · rename_i hs2
        refine ⟨⟨?_, hlk.cells, hlk.own, hlk.blk, hlk.wai, hlk.out⟩, ?_⟩
        · simp only [readyM]
          rw [upd_self (by rw [← hs2])]
          exact hlk.th
        · left; simp [readyM, upd_same]
      · exact ⟨⟨hlk.th, hlk.cells, hlk.own, hlk.blk, hlk.wai, hlk.out⟩, hr⟩
    · have hq0 : (playM C 1 quantum i).q = [] := by
        cases hl : (playM C 1 quantum i).q with
        | nil => rfl
        | cons x r =>
          have := (hI.que x).1 (by rw [hl]; simp)
          have hx0 : x = 0 := by omega
          subst hx0; omega
      simp only [playM]
      obtain ⟨L, eL⟩ := turn_eq C 1 quantum i (playM C 1 quantum i)
      rw [eL]
      simp only [turn0M]
      rw [hwk, hq0]
      simp only
      refine ⟨?_, .inr h2⟩
      rw [iterA_stop (by rw [← h1.th]; omega)]
      exact ⟨h1.th, h1.cells, h1.own, h1.blk, h1.wai, h1.out⟩
/-- P7: cut into other quanta, the same. -/
theorem alone_same {C : Nat → List In} (hF : Fine C 1) (hS : Steady (C 0)) (q n r m : Nat) (h : q * n = r * m) : Like (playM C 1 q n) (playM C 1 r m) := by
  have h1 := (play_alone hF hS q n).1
  have h2 := (play_alone hF hS r m).1
  rw [Nat.mul_comm n q, h, Nat.mul_comm r m] at h1
  exact h1.symm.trans h2

/-- Each of S is blocked at a lock that one of S owns. -/
def Closed (n : Nat) (m : Mac) (S : List Nat) : Prop := ∀ j ∈ S, j < n ∧ (m.th j).sta = 66 ∧ ∃ l i, j ∈ m.blk l ∧ i ∈ S ∧ m.own l = ((i : Nat) : Int)
/-- The state of whoever is blocked at a lock of another one than k is as it was; so is the lock's owner. -/
structure Leaves (k : Nat) (m m' : Mac) : Prop where
  own : ∀ l, ¬ m.own l = (k : Int) → ¬ m.own l = -1 → m'.own l = m.own l
  blk : ∀ l, ¬ m.own l = (k : Int) → ¬ m.own l = -1 → ∀ j, j ∈ m.blk l → j ∈ m'.blk l ∧ (¬ j = k → (m.th j).sta = 66 → (m'.th j).sta = 66)
theorem Closed.leaves {n k : Nat} {m m' : Mac} {S : List Nat} (h : Closed n m S) (hk : (m.th k).sta = 82) (hl : Leaves k m m') : Closed n m' S := by
  intro j hj
  obtain ⟨h1, h2, l, i, h3, h4, h5⟩ := h j hj
  have hik : ¬ i = k := fun e => by subst e; have := (h i h4).2.1; omega
  have hjk : ¬ j = k := fun e => by subst e; omega
  have o1 : ¬ m.own l = (k : Int) := by omega
  have o2 : ¬ m.own l = -1 := by omega
  obtain ⟨b1, b2⟩ := hl.blk l o1 o2 j h3
  exact ⟨h1, b2 hjk h2, l, i, b1, h4, by rw [hl.own l o1 o2]; exact h5⟩
theorem leaves_step (m : Mac) (k : Nat) (t : Th) : Leaves k m (stepTh m k t) := ⟨fun _ _ _ => rfl, fun l _ _ j hj => ⟨hj, fun hjk h => by simp only [stepTh, upd_other _ _ hjk]; exact h⟩⟩
theorem leaves_give {C : Nat → List In} {n : Nat} {ρ : Nat → List Int} {m : Mac} {k l : Nat} (hI : Inv C n (some k) ρ m) (t : Th) (ho : m.own l = (k : Int)) : Leaves k m (giveM (stepTh m k t) l) := by
  unfold giveM
  have e : (stepTh m k t).blk l = m.blk l := rfl
  rw [e]
  cases hb : m.blk l with
  | nil =>
    refine ⟨fun l' h1 _ => ?_, fun l' h1 _ j hj => ⟨hj, fun hjk h => by simp only [stepTh, upd_other _ _ hjk]; exact h⟩⟩
    have hne : ¬ l' = l := fun e => by subst e; exact h1 ho
    simp only [stepTh, upd_other _ _ hne]
  | cons x r =>
    refine ⟨fun l' h1 _ => ?_, fun l' h1 _ j hj => ?_⟩
    · have hne : ¬ l' = l := fun e => by subst e; exact h1 ho
      simp only [readyM, stepTh, upd_other _ _ hne]
    · have hne : ¬ l' = l := fun e => by subst e; exact h1 ho
      have hjx : ¬ j = x := fun e => by
        subst e
        have a1 := ((hI.blk l j).1 (by rw [hb]; simp)).2.2
        have a2 := ((hI.blk l' j).1 hj).2.2
        rw [a1] at a2; simp at a2; omega
      refine ⟨by simp only [readyM, stepTh, upd_other _ _ hne]; exact hj, fun hjk h => ?_⟩
      simp only [readyM, stepTh, upd_other _ _ hjx, upd_other _ _ hjk]; exact h
theorem leaves_with {k : Nat} {m m1 m' : Mac} (h : Leaves k m m1) (h1 : m'.own = m1.own) (h2 : ∀ l j, j ∈ m1.blk l → j ∈ m'.blk l) (h3 : ∀ j, ¬ j = k → (m1.th j).sta = 66 → (m'.th j).sta = 66) : Leaves k m m' :=
  ⟨fun l a b => by rw [h1]; exact h.own l a b, fun l a b j hj => ⟨h2 l j (h.blk l a b j hj).1, fun hjk hs => h3 j hjk ((h.blk l a b j hj).2 hjk hs)⟩⟩
theorem leaves_act {C : Nat → List In} {n k : Nat} {ρ : Nat → List Int} {m : Mac} (hF : Fine C n) (h : Inv C n (some k) ρ m) (hk : k < n) (hs : (m.th k).sta = 82) (q : Int) : Leaves k m (actM C m k q) := by
  obtain ⟨c, a, hca, hins, _, ha0, _, _, _, hlb, _⟩ := at_ins hF h hk (by omega)
  have hal : ((a.toNat : Nat) : Int) = a := by omega
  have hlast : lastIs (ρ k) a = true → m.own a.toNat = (k : Int) := fun hla => by
    obtain ⟨r, hr⟩ := last_row hla
    exact (h.own a.toNat k hk).2 (by rw [owned_plain (.inl hs), hal, hr]; simp)
  unfold actM
  rw [hins]
  unfold actOn
  by_cases c1 : c = 107
  · rw [if_pos c1]; exact leaves_step _ _ _
  rw [if_neg c1]
  by_cases c2 : c = 103
  · rw [if_pos c2]; exact leaves_step _ _ _
  rw [if_neg c2]
  by_cases c3 : c = 115
  · rw [if_pos c3]; exact leaves_with (leaves_step m k _) rfl (fun _ _ x => x) (fun _ _ x => x)
  rw [if_neg c3]
  by_cases c4 : c = 112
  · rw [if_pos c4]; exact leaves_with (leaves_step m k _) rfl (fun _ _ x => x) (fun _ _ x => x)
  rw [if_neg c4]
  by_cases c5 : c = 43
  · rw [if_pos c5]; exact leaves_step _ _ _
  rw [if_neg c5]
  by_cases c6 : c = 45
  · rw [if_pos c6]; exact leaves_step _ _ _
  rw [if_neg c6]
  by_cases c7 : c = 74
  · rw [if_pos c7]; exact leaves_step _ _ _
  rw [if_neg c7]
  by_cases c8 : c = 90
  · rw [if_pos c8]; exact leaves_step _ _ _
  rw [if_neg c8]
  by_cases c9 : c = 65
  · rw [if_pos c9]
    by_cases ho : m.own a.toNat < 0
    · rw [if_pos ho]
      refine ⟨fun l h1 h2 => ?_, fun l h1 h2 j hj => ⟨hj, fun hjk hx => by simp only [stepTh, upd_other _ _ hjk]; exact hx⟩⟩
      have hne : ¬ l = a.toNat := fun e => by
        subst e
        rcases h.who a.toNat with h3 | ⟨i, _, h3⟩
        · exact h2 h3
        · omega
      simp only [upd_other _ _ hne]
    · rw [if_neg ho]
      refine ⟨fun l _ _ => rfl, fun l h1 h2 j hj => ⟨?_, fun hjk hx => by simp only [stepTh, upd_other _ _ hjk]; exact hx⟩⟩
      by_cases e : l = a.toNat
      · subst e; simp only [upd_same]; exact List.mem_append.2 (.inl hj)
      · simp only [upd_other _ _ e]; exact hj
  rw [if_neg c9]
  by_cases c10 : c = 82
  · rw [if_pos c10]; exact leaves_give h _ (hlast (by subst c10; simpa [lckBad] using hlb))
  rw [if_neg c10]
  by_cases c11 : c = 87
  · rw [if_pos c11]
    refine leaves_with (leaves_give (l := a.toNat) h _ (hlast (by subst c11; simpa [lckBad] using hlb))) rfl (fun _ _ x => x) (fun j hjk x => ?_)
    simp only [waitM, upd_other _ _ hjk]; exact x
  rw [if_neg c11]
  by_cases c12 : c = 78
  · rw [if_pos c12]
    unfold noteM
    have hwe : (stepTh m k { m.th k with pc := (m.th k).pc + 1 }).wai a.toNat = m.wai a.toNat := rfl
    rw [hwe]
    cases hw : m.wai a.toNat with
    | nil => exact leaves_step _ _ _
    | cons x r =>
      refine leaves_with (leaves_step m k { m.th k with pc := (m.th k).pc + 1 }) rfl (fun l j hj => ?_) (fun j hjk hx => ?_)
      · by_cases e : l = a.toNat
        · subst e; simp only [upd_same]; exact List.mem_append.2 (.inl hj)
        · simp only [upd_other _ _ e]; exact hj
      · by_cases e : j = x
        · subst e; simp [upd_same]
        · simp only [upd_other _ _ e]; exact hx
  rw [if_neg c12]
  by_cases c13 : c = 84
  · rw [if_pos c13]; exact leaves_step _ _ _
  rw [if_neg c13]
  by_cases c14 : c = 88
  · rw [if_pos c14]; exact leaves_step _ _ _
  rw [if_neg c14]; exact leaves_step _ _ _
theorem closed_run {C : Nat → List In} {n k : Nat} {S : List Nat} (hF : Fine C n) (hk : k < n) (q : Int) : ∀ (i : Nat) (op : Int) (m : Mac) (ρ : Nat → List Int), Inv C n (some k) ρ m → Closed n m S → Closed n (runM C k q i op m) S
  | 0, _, _, _, _, h => h
  | i + 1, op, m, ρ, hI, h => by
    simp only [runM]
    split
    · rename_i hc
      obtain ⟨ρ1, h1⟩ := hI.act hF hk hc.1 q
      exact closed_run hF hk q i _ _ _ h1 (h.leaves hc.1 (leaves_act hF hI hk hc.1 q))
    · exact h
theorem closed_turn0 {C : Nat → List In} {n : Nat} {S : List Nat} (hF : Fine C n) {ρ : Nat → List Int} {m : Mac} (quantum q : Nat) (hI : Inv C n none ρ m) (h : Closed n m S) :
    Closed n (turn0M C n quantum q m) S ∧ ∃ x, (turn0M C n quantum q m).trc = m.trc ++ [x] ∧ ∀ j ∈ S, ¬ x = 48 + (j : Int) := by
  have h1 := hI.wakeups (q : Int) n 0 m (by omega)
  have hw := wokes (q := (q : Int)) n 0 m
  obtain ⟨e, he, hw1, hw2⟩ := hw.que
  have hcl : Closed n (wakeM (q : Int) n 0 m) S := fun j hj => by
    obtain ⟨a1, a2, l, i, a3, a4, a5⟩ := h j hj
    have hje : ¬ j ∈ e := fun hm => by have := (hw2 j hm).1; omega
    exact ⟨a1, by rw [hw1 j hje]; exact a2, l, i, by rw [hw.blk]; exact a3, a4, by rw [hw.own]; exact a5⟩
  have hlen : ∀ j ∈ S, ¬ (45 : Int) = 48 + (j : Int) := fun j _ => by omega
  unfold turn0M
  cases hq : (wakeM (q : Int) n 0 m).q with
  | nil =>
    simp only [hq]
    exact ⟨hcl, 45, by rw [hw.trc], hlen⟩
  | cons k r =>
    simp only [hq]
    obtain ⟨h2, hk, hs⟩ := h1.start hq ((wakeM (q : Int) n 0 m).trc ++ [48 + (k : Int)])
    have hr := runs_all hF hk (q : Int) quantum 32 _ _ h2
    have hkS : ∀ j ∈ S, ¬ j = k := fun j hj e2 => by subst e2; have := (hcl j hj).2.1; omega
    have hc2 := closed_run (S := S) hF hk (q : Int) quantum 32 _ _ h2 hcl
    have htrc := hr.trc
    simp only at htrc
    split
    · refine ⟨fun j hj => ?_, 48 + (k : Int), by rw [← hw.trc]; exact htrc, fun j hj e2 => hkS j hj (by omega)⟩
      obtain ⟨a1, a2, l, i, a3, a4, a5⟩ := hc2 j hj
      refine ⟨a1, ?_, l, i, a3, a4, a5⟩
      simp only [readyM, upd_other _ _ (hkS j hj)]; exact a2
    · exact ⟨hc2, 48 + (k : Int), by rw [← hw.trc]; exact htrc, fun j hj e2 => hkS j hj (by omega)⟩
theorem closed_turn {C : Nat → List In} {n : Nat} {S : List Nat} (hF : Fine C n) {ρ : Nat → List Int} {m : Mac} (quantum q : Nat) (hI : Inv C n none ρ m) (h : Closed n m S) :
    Closed n (turnM C n quantum q m) S ∧ ∃ x, (turnM C n quantum q m).trc = m.trc ++ [x] ∧ ∀ j ∈ S, ¬ x = 48 + (j : Int) := by
  obtain ⟨L, e⟩ := turn_eq C n quantum q m
  have h1 := closed_turn0 hF quantum q hI h
  rw [e]
  exact h1
/-- P11: the threads of a deadlock stay blocked for good and have no quantum any more. -/
theorem play_caught {C : Nat → List In} {n : Nat} {S : List Nat} (hF : Fine C n) (quantum i : Nat) (h : Closed n (playM C n quantum i) S) : ∀ d, Closed n (playM C n quantum (i + d)) S ∧ ∃ f, (playM C n quantum (i + d)).trc = (playM C n quantum i).trc ++ f ∧ ∀ j ∈ S, ¬ (48 + (j : Int)) ∈ f
  | 0 => ⟨h, [], by simp, fun _ _ => by simp⟩
  | d + 1 => by
    obtain ⟨h1, f, h2, h3⟩ := play_caught hF quantum i h d
    obtain ⟨ρ, hI⟩ := Inv.plays hF quantum (i + d)
    obtain ⟨h4, x, h5, h6⟩ := closed_turn (S := S) hF quantum (i + d) hI h1
    refine ⟨h4, f ++ [x], ?_, fun j hj => ?_⟩
    · show (turnM C n quantum (i + d) (playM C n quantum (i + d))).trc = _
      rw [h5, h2, List.append_assoc]
    · simp only [List.mem_append, List.mem_singleton]
      rintro (hm | hm)
      · exact h3 j hj hm
      · exact h6 j hj hm.symm

/-- Who is blocked is so at the lock that is noted with it. -/
def Bat (n : Nat) (m : Mac) : Prop := ∀ k, k < n → (m.th k).sta = 66 → k ∈ m.blk (m.th k).bat
theorem Bat.congr {n : Nat} {m m' : Mac} (h : Bat n m) (h1 : m'.th = m.th) (h2 : m'.blk = m.blk) : Bat n m' := by
  unfold Bat at *; rw [h1, h2]; exact h
theorem Bat.step {n k : Nat} {m : Mac} {t : Th} (h : Bat n m) (ht : t.sta = 66 → t.bat = (m.th k).bat ∧ (m.th k).sta = 66) : Bat n (stepTh m k t) := fun j hj hs => by
  simp only [stepTh] at hs ⊢
  by_cases e : j = k
  · subst e; rw [upd_same] at hs ⊢; rw [(ht hs).1]; exact h j hj (ht hs).2
  · rw [upd_other _ _ e] at hs ⊢; exact h j hj hs
theorem Bat.ready {n k : Nat} {m : Mac} (h : Bat n m) : Bat n (readyM m k) := (h.step (k := k) (t := { m.th k with sta := 82 }) (fun e => by simp at e)).congr rfl rfl
theorem Bat.give {n l : Nat} {m : Mac} (h : Bat n m) : Bat n (giveM m l) := by
  unfold giveM
  cases hb : m.blk l with
  | nil => exact h.congr rfl rfl
  | cons x r =>
    intro j hj hs
    simp only [readyM] at hs ⊢
    by_cases e : j = x
    · subst e; rw [upd_same] at hs; simp at hs
    · rw [upd_other _ _ e] at hs ⊢
      have := h j hj hs
      by_cases el : (m.th j).bat = l
      · rw [el, hb] at this
        rw [el, upd_same]
        rcases List.mem_cons.1 this with e2 | e2
        · exact absurd e2 e
        · exact e2
      · rw [upd_other _ _ el]; exact this
theorem Bat.wait {n k l : Nat} {m : Mac} (h : Bat n m) : Bat n (waitM m k l) := (h.step (k := k) (t := { m.th k with sta := 87 }) (fun e => by simp at e)).congr rfl rfl
theorem Bat.block {n k l : Nat} {m : Mac} {t : Th} (h : Bat n m) (ht : t.bat = l) : Bat n { m with th := upd m.th k t, blk := upd m.blk l (m.blk l ++ [k]) } := fun j hj hs => by
  simp only at hs ⊢
  by_cases e : j = k
  · subst e; rw [upd_same] at hs ⊢; rw [ht, upd_same]; simp
  · rw [upd_other _ _ e] at hs ⊢
    have := h j hj hs
    by_cases el : (m.th j).bat = l
    · rw [el] at this ⊢; rw [upd_same]; exact List.mem_append.2 (.inl this)
    · rw [upd_other _ _ el]; exact this
theorem Bat.note {n l : Nat} {m : Mac} (h : Bat n m) : Bat n (noteM m l) := by
  unfold noteM
  cases hb : m.wai l with
  | nil => exact h
  | cons x r => exact (h.block (k := x) (l := l) (t := { m.th x with sta := 66, bat := l }) rfl).congr rfl rfl
theorem ite_bat {n : Nat} {p : Prop} [Decidable p] {a b : Mac} (h1 : Bat n a) (h2 : Bat n b) : Bat n (if p then a else b) := by
  by_cases h : p
  · rw [if_pos h]; exact h1
  · rw [if_neg h]; exact h2
theorem Bat.on {n : Nat} {m : Mac} (h : Bat n m) (k : Nat) (q c a : Int) : Bat n (actOn m k q c a) := by
  have s1 : ∀ {t : Th}, t.sta = (m.th k).sta → t.bat = (m.th k).bat → Bat n (stepTh m k t) := fun e1 e2 => h.step (fun e => ⟨e2, by rw [← e1]; exact e⟩)
  have s2 : ∀ {t : Th}, ¬ t.sta = 66 → Bat n (stepTh m k t) := fun e1 => h.step (fun e => absurd e e1)
  unfold actOn
  refine ite_bat (s1 rfl rfl) (ite_bat (s1 rfl rfl) (ite_bat ((s1 (t := { m.th k with pc := (m.th k).pc + 1, stk := (m.th k).stk.dropLast }) rfl rfl).congr rfl rfl) (ite_bat ((s1 (t := { m.th k with pc := (m.th k).pc + 1, stk := (m.th k).stk.dropLast }) rfl rfl).congr rfl rfl) (ite_bat (s1 rfl rfl) (ite_bat (s1 rfl rfl) (ite_bat (s1 rfl rfl) (ite_bat (s1 rfl rfl) (ite_bat (ite_bat ?_ ?_) (ite_bat ?_ (ite_bat ?_ (ite_bat ?_ (ite_bat (s2 (by simp)) (ite_bat (s2 (by simp)) (s1 rfl rfl))))))))))))))
  · exact (s1 (t := { m.th k with pc := (m.th k).pc + 1 }) rfl rfl).congr rfl rfl
  · exact (h.block (k := k) (l := a.toNat) (t := { m.th k with pc := (m.th k).pc + 1, sta := 66, bat := a.toNat }) rfl).congr rfl rfl
  · exact (s1 (t := { m.th k with pc := (m.th k).pc + 1 }) rfl rfl).give
  · exact (s1 (t := { m.th k with pc := (m.th k).pc + 1 }) rfl rfl).give.wait
  · exact (s1 (t := { m.th k with pc := (m.th k).pc + 1 }) rfl rfl).note
theorem Bat.run {n : Nat} (C : Nat → List In) (k : Nat) (q : Int) : ∀ (i : Nat) (op : Int) (m : Mac), Bat n m → Bat n (runM C k q i op m)
  | 0, _, _, h => h
  | i + 1, op, m, h => by
    simp only [runM]
    split
    · exact Bat.run C k q i _ _ (h.on k q _ _)
    · exact h
theorem Bat.wake {n : Nat} (q : Int) : ∀ (i k : Nat) (m : Mac), Bat n m → Bat n (wakeM q i k m)
  | 0, _, _, h => h
  | i + 1, k, m, h => by
    simp only [wakeM]
    refine Bat.wake q i (k + 1) _ ?_
    split
    · exact h.ready
    · exact h
theorem Bat.turn {n : Nat} (C : Nat → List In) (quantum q : Nat) {m : Mac} (h : Bat n m) : Bat n (turnM C n quantum q m) := by
  obtain ⟨L, e⟩ := turn_eq C n quantum q m
  rw [e]
  refine Bat.congr (m := turn0M C n quantum q m) ?_ rfl rfl
  have h1 := Bat.wake (q : Int) n 0 m h
  unfold turn0M
  cases hq : (wakeM (q : Int) n 0 m).q with
  | nil => simp only [hq]; exact h1.congr rfl rfl
  | cons k r =>
    simp only [hq]
    have h2 := Bat.run C k (q : Int) quantum 32 { wakeM (q : Int) n 0 m with q := r, trc := (wakeM (q : Int) n 0 m).trc ++ [48 + (k : Int)] } (h1.congr rfl rfl)
    exact ite_bat h2.ready h2
theorem play_bat (C : Nat → List In) (n quantum : Nat) : ∀ i, Bat n (playM C n quantum i)
  | 0 => fun k _ h => by simp [playM, beginM] at h
  | i + 1 => (play_bat C n quantum i).turn C quantum i

theorem obst_at {n : Nat} {m : Mac} {k u : Nat} (h : obst n m k = (u : Int)) : k < n ∧ (m.th k).sta = 66 ∧ (m.th k).bat < 4 ∧ m.own (m.th k).bat = (u : Int) := by
  unfold obst at h
  split at h
  · rename_i h1
    split at h
    · rename_i h2
      split at h
      · rename_i h3; exact ⟨h1, h2, h3, h⟩
      · omega
    · omega
  · omega
/-- What one met on the way back. -/
theorem ring_met (n : Nat) (m : Mac) (k : Nat) : ∀ (i : Nat) (p : Int) (s : Nat → Bool), (ringM n m k i p s).2 = true → 0 ≤ p ∧ (ringM n m k i p s).1 p.toNat = true ∧ (∀ t, s t = true → (ringM n m k i p s).1 t = true) ∧
    ∀ t, (ringM n m k i p s).1 t = true → s t = true ∨ (t < 4 ∧ ∃ u : Nat, obst n m t = (u : Int) ∧ (u = k ∨ (ringM n m k i p s).1 u = true))
  | 0, p, s, h => by simp [ringM] at h
  | i + 1, p, s, h => by
    rw [ringM] at h ⊢
    by_cases h1 : p < 0
    · rw [if_pos h1] at h; simp at h
    rw [if_neg h1] at h ⊢
    by_cases h2 : 4 ≤ p
    · rw [if_pos h2] at h; simp at h
    rw [if_neg h2] at h ⊢
    by_cases h3 : obst n m p.toNat = (k : Int)
    · rw [if_pos h3]
      refine ⟨by omega, by simp only [upd_same], fun t ht => ?_, fun t ht => ?_⟩
      · simp only [upd]; split
        · rfl
        · exact ht
      · simp only [upd] at ht
        split at ht
        · rename_i e; subst e; exact .inr ⟨by omega, k, h3, .inl rfl⟩
        · exact .inl ht
    · rw [if_neg h3] at h ⊢
      obtain ⟨a1, a2, a3, a4⟩ := ring_met n m k i _ _ h
      refine ⟨by omega, a3 _ (by rw [upd_same]), fun t ht => a3 t ?_, fun t ht => ?_⟩
      · simp only [upd]; split
        · rfl
        · exact ht
      · rcases a4 t ht with b | b
        · simp only [upd] at b
          split at b
          · rename_i e; subst e
            exact .inr ⟨by omega, (obst n m p.toNat).toNat, by omega, .inr a2⟩
          · exact .inl b
        · exact .inr b
/-- The threads of a ring that is logged. -/
def rngL (n : Nat) (m : Mac) (k : Nat) : List Nat := (List.range 4).filter (ringM n m k 4 k (fun _ => false)).1
theorem ring_closed {n : Nat} {m : Mac} {k : Nat} (hB : Bat n m) (h : (ringM n m k 4 k (fun _ => false)).2 = true) : Closed n m (rngL n m k) := by
  obtain ⟨_, a2, _, a4⟩ := ring_met n m k 4 k (fun _ => false) h
  rw [Int.toNat_natCast] at a2
  intro j hj
  simp only [rngL, List.mem_filter, List.mem_range] at hj
  rcases a4 j hj.2 with b | ⟨b1, u, b2, b3⟩
  · simp at b
  · obtain ⟨c1, c2, c3, c4⟩ := obst_at b2
    refine ⟨c1, c2, _, u, hB j c1 c2, ?_, c4⟩
    have hu : (ringM n m k 4 k (fun _ => false)).1 u = true := by
      rcases b3 with e | e
      · rw [e]; exact a2
      · exact e
    simp only [rngL, List.mem_filter, List.mem_range]
    refine ⟨?_, hu⟩
    rcases a4 u hu with b | ⟨b, _⟩
    · simp at b
    · exact b
theorem names_mem (s : Nat → Bool) (x : Int) : ∀ i, x ∈ namesM s i → ∃ t : Nat, t < i ∧ s t = true ∧ x = 48 + (t : Int)
  | 0, h => by simp [namesM] at h
  | i + 1, h => by
    simp only [namesM, List.mem_append] at h
    rcases h with h | h
    · obtain ⟨t, h1, h2⟩ := names_mem s x i h; exact ⟨t, by omega, h2⟩
    · split at h
      · rename_i hs; simp at h; exact ⟨i, by omega, hs, h⟩
      · simp at h
/-- A log: behind each ':' and ahead of the next blank, every sign has P. -/
def okL (P : Int → Prop) : Bool → List Int → Prop
  | b, [] => b = false
  | b, c :: r => (b = true → ¬ c = 32 → P c) ∧ okL P (if c = 58 then true else if c = 32 then false else b) r
theorem okL_append {P : Int → Prop} : ∀ (l : List Int) (b : Bool) (r : List Int), okL P b l → okL P false r → okL P b (l ++ r)
  | [], b, r, h, h2 => by simp only [okL] at h; subst h; exact h2
  | c :: l, b, r, h, h2 => by
    simp only [okL, List.cons_append] at h ⊢
    exact ⟨h.1, okL_append l _ r h.2 h2⟩
theorem okL_names {P : Int → Prop} : ∀ (l : List Int), (∀ x ∈ l, P x ∧ ¬ x = 58 ∧ ¬ x = 32) → okL P true (l ++ [32])
  | [], _ => by simp [okL]
  | c :: l, h => by
    obtain ⟨h1, h2, h3⟩ := h c (List.mem_cons_self ..)
    simp only [okL, List.cons_append]
    rw [if_neg h2, if_neg h3]
    exact ⟨fun _ _ => h1, okL_names l (fun x hx => h x (List.mem_cons_of_mem _ hx))⟩
theorem okL_mono {P Q : Int → Prop} (hPQ : ∀ x, P x → Q x) : ∀ (l : List Int) (b : Bool), okL P b l → okL Q b l
  | [], _, h => h
  | c :: l, _, h => ⟨fun e1 e2 => hPQ c (h.1 e1 e2), okL_mono hPQ l _ h.2⟩
theorem ent_ok {P : Int → Prop} {n : Nat} {m : Mac} {k q : Nat} (h : (ringM n m k 4 k (fun _ => false)).2 = true → ∀ t ∈ rngL n m k, P (48 + (t : Int))) : okL P false (entM n m k q) := by
  unfold entM
  split
  · rename_i hr
    have h1 : okL P true (namesM (ringM n m k 4 k (fun _ => false)).1 4 ++ [32]) := okL_names _ (fun x hx => by
      obtain ⟨t, ht, hs, rfl⟩ := names_mem _ _ 4 hx
      exact ⟨h hr t (by simp only [rngL, List.mem_filter, List.mem_range]; exact ⟨ht, hs⟩), by omega, by omega⟩)
    simp only [List.cons_append, List.nil_append, okL]
    rw [if_neg (by omega), if_neg (by omega), if_neg (by omega), if_neg (by omega), if_pos trivial]
    exact ⟨fun e => by simp at e, fun e => by simp at e, fun e => by simp at e, h1⟩
  · rfl
/-- P11: who stands in the log is blocked for good and has no quantum any more. -/
def CaughtAt (C : Nat → List In) (n quantum i j : Nat) (c : Int) : Prop := ∃ t : Nat, c = 48 + (t : Int) ∧ t < n ∧ ((playM C n quantum i).th t).sta = 66 ∧ ((playM C n quantum j).th t).sta = 66 ∧ ¬ c ∈ (playM C n quantum j).trc.drop i
theorem drop_mid {l f g : List Int} {i : Nat} (h : l = f ++ g) (hl : f.length = i) : l.drop i = g := by
  subst hl; rw [h]; exact List.drop_left
theorem closed_caught {C : Nat → List In} {n : Nat} {S : List Nat} (hF : Fine C n) (quantum a i d : Nat) (hai : a ≤ i) (h : Closed n (playM C n quantum a) S) : ∀ t ∈ S, CaughtAt C n quantum i (i + d) (48 + (t : Int)) := by
  obtain ⟨e, rfl⟩ : ∃ e, i = a + e := ⟨i - a, by omega⟩
  obtain ⟨h1, _⟩ := play_caught hF quantum a h e
  obtain ⟨h2, f, h3, h4⟩ := play_caught hF quantum (a + e) h1 d
  intro t ht
  refine ⟨t, rfl, (h1 t ht).1, (h1 t ht).2.1, (h2 t ht).2.1, ?_⟩
  rw [drop_mid h3 (play_trc_len hF quantum (a + e))]
  exact h4 t ht
theorem play_log_ok {C : Nat → List In} {n : Nat} (hF : Fine C n) (quantum i d : Nat) : ∀ j, j ≤ i → okL (CaughtAt C n quantum i (i + d)) false (playM C n quantum j).log
  | 0, _ => rfl
  | j + 1, hj => by
    have ih := play_log_ok hF quantum i d j (by omega)
    have hB := play_bat C n quantum (j + 1)
    have hc := fun S (h : Closed n (playM C n quantum (j + 1)) S) => closed_caught hF quantum (j + 1) i d hj h
    simp only [playM] at hB hc ⊢
    unfold turnM at hB hc ⊢
    cases hq : (wakeM ((j : Nat) : Int) n 0 (playM C n quantum j)).q with
    | nil => simp only; rw [turn0_log]; exact ih
    | cons k r =>
      simp only [hq] at hB hc ⊢
      rw [turn0_log]
      refine okL_append _ _ _ ih (ent_ok (fun hr t ht => ?_))
      exact hc (rngL n (turn0M C n quantum j (playM C n quantum j)) k) (ring_closed (hB.congr rfl rfl) hr) t ht

/-- Among others than k, who is blocked, and at whose lock, was so before. -/
structure Back (k : Nat) (m m' : Mac) : Prop where
  own : ∀ (l u : Nat), ¬ u = k → m'.own l = (u : Int) → (m'.th u).sta = 66 → m.own l = (u : Int)
  blk : ∀ (l t u : Nat), ¬ t = k → ¬ u = k → m.own l = (u : Int) → t ∈ m'.blk l → (m'.th t).sta = 66 → t ∈ m.blk l ∧ (m.th t).sta = 66
theorem Closed.back {n k : Nat} {m m' : Mac} {S : List Nat} (h : Closed n m' S) (hk : ¬ k ∈ S) (hb : Back k m m') : Closed n m S := by
  intro j hj
  obtain ⟨h1, h2, l, i, h3, h4, h5⟩ := h j hj
  have hik : ¬ i = k := fun e => hk (e ▸ h4)
  have hjk : ¬ j = k := fun e => hk (e ▸ hj)
  have o1 := hb.own l i hik h5 (h i h4).2.1
  obtain ⟨b1, b2⟩ := hb.blk l j i hjk hik o1 h3 h2
  exact ⟨h1, b2, l, i, b1, h4, o1⟩
theorem back_step (m : Mac) (k : Nat) (t : Th) : Back k m (stepTh m k t) := ⟨fun _ _ _ h _ => h, fun l j u hj _ _ hm hs => ⟨hm, by simp only [stepTh, upd_other _ _ hj] at hs; exact hs⟩⟩
theorem back_with {k : Nat} {m m1 m' : Mac} (h : Back k m m1) (h1 : m'.own = m1.own) (h2 : m'.blk = m1.blk) (h3 : ∀ j, (m'.th j).sta = 66 → (m1.th j).sta = 66) : Back k m m' :=
  ⟨fun l u a b c => h.own l u a (by rw [← h1]; exact b) (h3 u c), fun l t u a b c d e => h.blk l t u a b c (by rw [← h2]; exact d) (h3 t e)⟩
theorem back_give {m : Mac} {k l : Nat} (t : Th) (ho : m.own l = (k : Int)) : Back k m (giveM (stepTh m k t) l) := by
  unfold giveM
  have e : (stepTh m k t).blk l = m.blk l := rfl
  rw [e]
  cases hb : m.blk l with
  | nil =>
    refine ⟨fun l' u h1 h2 h3 => ?_, fun l' j u hj hu h1 hm hs => ⟨hm, by simp only [stepTh, upd_other _ _ hj] at hs; exact hs⟩⟩
    simp only [stepTh, upd] at h2
    split at h2
    · omega
    · exact h2
  | cons x r =>
    refine ⟨fun l' u h1 h2 h3 => ?_, fun l' j u hj hu h1 hm hs => ?_⟩
    · simp only [readyM, stepTh, upd] at h2 h3
      split at h2
      · rename_i el
        have hux : u = x := by omega
        rw [if_pos hux] at h3
        simp at h3
      · exact h2
    · have hne : ¬ l' = l := fun e => by subst e; omega
      simp only [readyM, stepTh, upd_other _ _ hne] at hm
      simp only [readyM, stepTh] at hs
      by_cases ex : j = x
      · subst ex; rw [upd_same] at hs; simp at hs
      · rw [upd_other _ _ ex, upd_other _ _ hj] at hs
        exact ⟨hm, hs⟩
theorem back_act {C : Nat → List In} {n k : Nat} {ρ : Nat → List Int} {m : Mac} (hF : Fine C n) (h : Inv C n (some k) ρ m) (hk : k < n) (hs : (m.th k).sta = 82) (q : Int) : Back k m (actM C m k q) := by
  obtain ⟨c, a, hca, hins, _, ha0, _, _, _, hlb, _⟩ := at_ins hF h hk (by omega)
  have hal : ((a.toNat : Nat) : Int) = a := by omega
  have hlast : lastIs (ρ k) a = true → m.own a.toNat = (k : Int) := fun hla => by
    obtain ⟨r, hr⟩ := last_row hla
    exact (h.own a.toNat k hk).2 (by rw [owned_plain (.inl hs), hal, hr]; simp)
  unfold actM
  rw [hins]
  unfold actOn
  by_cases c1 : c = 107
  · rw [if_pos c1]; exact back_step _ _ _
  rw [if_neg c1]
  by_cases c2 : c = 103
  · rw [if_pos c2]; exact back_step _ _ _
  rw [if_neg c2]
  by_cases c3 : c = 115
  · rw [if_pos c3]; exact back_with (back_step m k _) rfl rfl (fun _ x => x)
  rw [if_neg c3]
  by_cases c4 : c = 112
  · rw [if_pos c4]; exact back_with (back_step m k _) rfl rfl (fun _ x => x)
  rw [if_neg c4]
  by_cases c5 : c = 43
  · rw [if_pos c5]; exact back_step _ _ _
  rw [if_neg c5]
  by_cases c6 : c = 45
  · rw [if_pos c6]; exact back_step _ _ _
  rw [if_neg c6]
  by_cases c7 : c = 74
  · rw [if_pos c7]; exact back_step _ _ _
  rw [if_neg c7]
  by_cases c8 : c = 90
  · rw [if_pos c8]; exact back_step _ _ _
  rw [if_neg c8]
  by_cases c9 : c = 65
  · rw [if_pos c9]
    by_cases ho : m.own a.toNat < 0
    · rw [if_pos ho]
      refine ⟨fun l u h1 h2 h3 => ?_, fun l j u hj hu h1 hm hs => ⟨hm, by simp only [stepTh, upd_other _ _ hj] at hs; exact hs⟩⟩
      simp only [upd] at h2
      split at h2
      · omega
      · exact h2
    · rw [if_neg ho]
      refine ⟨fun l u h1 h2 h3 => h2, fun l j u hj hu h1 hm hs => ⟨?_, by simp only [stepTh, upd_other _ _ hj] at hs; exact hs⟩⟩
      simp only [upd] at hm
      split at hm
      · rename_i el
        rcases List.mem_append.1 hm with x | x
        · rw [el]; exact x
        · simp at x; exact absurd x hj
      · exact hm
  rw [if_neg c9]
  by_cases c10 : c = 82
  · rw [if_pos c10]; exact back_give _ (hlast (by subst c10; simpa [lckBad] using hlb))
  rw [if_neg c10]
  by_cases c11 : c = 87
  · rw [if_pos c11]
    refine back_with (back_give (l := a.toNat) _ (hlast (by subst c11; simpa [lckBad] using hlb))) rfl rfl (fun j x => ?_)
    simp only [waitM, upd] at x
    split at x
    · simp at x
    · exact x
  rw [if_neg c11]
  by_cases c12 : c = 78
  · rw [if_pos c12]
    have hha : hasL (ρ k) a = true := by subst c12; simpa [lckBad] using hlb
    have hmem : a ∈ ρ k := by simpa [hasL] using hha
    have hown : m.own a.toNat = (k : Int) := (h.own a.toNat k hk).2 (by rw [owned_plain (.inl hs), hal]; exact hmem)
    unfold noteM
    have hwe : (stepTh m k { m.th k with pc := (m.th k).pc + 1 }).wai a.toNat = m.wai a.toNat := rfl
    rw [hwe]
    cases hw : m.wai a.toNat with
    | nil => exact back_step _ _ _
    | cons x r =>
      refine ⟨fun l u _ h2 _ => h2, fun l j u hj hu h1 hm hs2 => ?_⟩
      have hne : ¬ l = a.toNat := fun e => by subst e; omega
      simp only [stepTh, upd_other _ _ hne] at hm
      have h66 := ((h.blk l j).1 hm).2.1
      exact ⟨hm, h66⟩
  rw [if_neg c12]
  by_cases c13 : c = 84
  · rw [if_pos c13]; exact back_step _ _ _
  rw [if_neg c13]
  by_cases c14 : c = 88
  · rw [if_pos c14]; exact back_step _ _ _
  rw [if_neg c14]; exact back_step _ _ _
theorem run_back {C : Nat → List In} {n k : Nat} {S : List Nat} (hF : Fine C n) (hk : k < n) (hkS : ¬ k ∈ S) (q : Int) : ∀ (i : Nat) (op : Int) (m : Mac) (ρ : Nat → List Int), Inv C n (some k) ρ m → Closed n (runM C k q i op m) S → Closed n m S
  | 0, _, _, _, _, h => h
  | i + 1, op, m, ρ, hI, h => by
    simp only [runM] at h
    split at h
    · rename_i hc
      obtain ⟨ρ1, h1⟩ := hI.act hF hk hc.1 q
      exact (run_back hF hk hkS q i _ _ _ h1 h).back hkS (back_act hF hI hk hc.1 q)
    · exact h
theorem turn_back {C : Nat → List In} {n : Nat} {S : List Nat} (hF : Fine C n) {ρ : Nat → List Int} {m : Mac} (quantum q : Nat) (hI : Inv C n none ρ m) (h : Closed n (turn0M C n quantum q m) S) (hS : ∀ k r, (wakeM (q : Int) n 0 m).q = k :: r → ¬ k ∈ S) : Closed n m S := by
  have h1 := hI.wakeups (q : Int) n 0 m (by omega)
  have hw := wokes (q := (q : Int)) n 0 m
  obtain ⟨e, he, hw1, hw2⟩ := hw.que
  have hback : Closed n (wakeM (q : Int) n 0 m) S → Closed n m S := fun hc j hj => by
    obtain ⟨a1, a2, l, i, a3, a4, a5⟩ := hc j hj
    have hje : ¬ j ∈ e := fun hm => by have := (hw2 j hm).2.2; rw [this] at a2; simp at a2
    exact ⟨a1, by rw [← hw1 j hje]; exact a2, l, i, by rw [← hw.blk]; exact a3, a4, by rw [← hw.own]; exact a5⟩
  unfold turn0M at h
  cases hq : (wakeM (q : Int) n 0 m).q with
  | nil => simp only [hq] at h; exact hback h
  | cons k r =>
    simp only [hq] at h
    have hkS := hS k r hq
    obtain ⟨h2, hk, hs⟩ := h1.start hq ((wakeM (q : Int) n 0 m).trc ++ [48 + (k : Int)])
    refine hback (show Closed n { wakeM (q : Int) n 0 m with q := r, trc := (wakeM (q : Int) n 0 m).trc ++ [48 + (k : Int)] } S from run_back (S := S) hF hk hkS (q : Int) quantum 32 _ _ h2 ?_)
    split at h
    · intro j hj
      obtain ⟨a1, a2, l, i, a3, a4, a5⟩ := h j hj
      have hjk : ¬ j = k := fun e => hkS (e ▸ hj)
      exact ⟨a1, by simp only [readyM, upd_other _ _ hjk] at a2; exact a2, l, i, a3, a4, a5⟩
    · exact h

theorem least {p : Nat → Prop} (h : ∃ j, p j) : ∃ j, p j ∧ ∀ b, b < j → ¬ p b := by
  classical
  obtain ⟨j, hj⟩ := h
  induction j using Nat.strongRecOn with
  | ind j ih =>
    by_cases hb : ∃ b, b < j ∧ p b
    · obtain ⟨b, h1, h2⟩ := hb
      exact ih b h1 h2
    · exact ⟨j, hj, fun b h1 h2 => hb ⟨b, h1, h2⟩⟩
/-- From one to the next. -/
def itO (n : Nat) (m : Mac) : Nat → Nat → Nat
  | 0, p => p
  | a + 1, p => itO n m a (obst n m p).toNat
theorem itO_add (n : Nat) (m : Mac) : ∀ (a b p : Nat), itO n m (a + b) p = itO n m b (itO n m a p)
  | 0, b, p => by rw [Nat.zero_add]; rfl
  | a + 1, b, p => by
    rw [Nat.succ_add]
    exact itO_add n m a b _
theorem ring_hits (n : Nat) (m : Mac) (k : Nat) : ∀ (i p : Nat) (s : Nat → Bool) (j : Nat), j < i → itO n m (j + 1) p = k → (∀ a, a ≤ j → itO n m a p < 4 ∧ obst n m (itO n m a p) = ((itO n m (a + 1) p : Nat) : Int)) → (ringM n m k i p s).2 = true
  | 0, _, _, j, hj, _, _ => by omega
  | i + 1, p, s, j, hj, hh, ha => by
    obtain ⟨a1, a2⟩ := ha 0 (Nat.zero_le _)
    simp only [itO] at a1 a2
    rw [ringM, if_neg (by omega), if_neg (by omega), Int.toNat_natCast]
    by_cases h3 : obst n m p = (k : Int)
    · rw [if_pos h3]
    · rw [if_neg h3, a2]
      match j, hj, hh, ha with
      | 0, _, hh, _ => simp only [itO] at hh; rw [hh] at a2; exact absurd a2 h3
      | j + 1, hj, hh, ha => exact ring_hits n m k i _ _ j (by omega) hh (fun a hle => ha (a + 1) (by omega))
theorem closed_obst {C : Nat → List In} {n : Nat} {S : List Nat} {ρ : Nat → List Int} {run : Option Nat} {m : Mac} (hF : Fine C n) (hI : Inv C n run ρ m) (hB : Bat n m) (h : Closed n m S) : ∀ j ∈ S, ∃ i : Nat, i ∈ S ∧ obst n m j = (i : Int) ∧ ∃ l, j ∈ m.blk l ∧ m.own l = (i : Int) := by
  intro j hj
  obtain ⟨h1, h2, l, i, h3, h4, h5⟩ := h j hj
  have b1 := ((hI.blk l j).1 h3).2.2
  have b2 := ((hI.blk _ j).1 (hB j h1 h2)).2.2
  rw [b1] at b2
  have hl : (m.th j).bat = l := by simp at b2; omega
  have hR := (hI.at_ j h1 (by omega)).valid (hF.ok j h1)
  have hlt : (l : Int) < 4 := (hR.2.2.2.2.1 (l : Int) (List.mem_of_getLast? b1)).2
  refine ⟨i, h4, ?_, l, h3, h5⟩
  unfold obst
  rw [if_pos h1, if_pos h2, hl, if_pos (by omega), h5]
theorem ring_logged0 {C : Nat → List In} {n : Nat} {S : List Nat} (hn : n ≤ 4) {ρ : Nat → List Int} {run : Option Nat} {m : Mac} (hF : Fine C n) (hI : Inv C n run ρ m) (hB : Bat n m) (h : Closed n m S) (k : Nat) (hk : k ∈ S) : (ringM n m k 4 k (fun _ => false)).2 = true ∨ ∃ S', ¬ S' = [] ∧ ¬ k ∈ S' ∧ Closed n m S' := by
  classical
  have ho := closed_obst hF hI hB h
  have hit : ∀ a p, p ∈ S → itO n m a p ∈ S := by
    intro a
    induction a with
    | zero => intro p hp; exact hp
    | succ a ih =>
      intro p hp
      obtain ⟨i, hi, e, _⟩ := ho p hp
      have : itO n m (a + 1) p = itO n m a i := by rw [itO, e, Int.toNat_natCast]
      rw [this]; exact ih i hi
  have hnx : ∀ a p, p ∈ S → obst n m (itO n m a p) = ((itO n m (a + 1) p : Nat) : Int) := fun a p hp => by
    obtain ⟨i, _, e, _⟩ := ho _ (hit a p hp)
    rw [itO_add n m a 1 p, e]
    simp only [itO, e, Int.toNat_natCast]
  have hlt : ∀ p, p ∈ S → p < n := fun p hp => (h p hp).1
  by_cases hr : ∃ j, itO n m (j + 1) k = k
  · left
    obtain ⟨j, hj, hmin⟩ : ∃ j, itO n m (j + 1) k = k ∧ ∀ b, b < j → ¬ itO n m (b + 1) k = k := least hr
    have hnd : ((List.range (j + 1)).map (fun a => itO n m a k)).Nodup := by
      unfold List.Nodup
      rw [List.pairwise_map]
      refine List.Pairwise.imp_of_mem ?_ List.pairwise_lt_range
      intro a b ha hb hab e
      rw [List.mem_range] at ha hb
      have e1 : itO n m (j + 1 - b) (itO n m a k) = itO n m (j + 1 - b) (itO n m b k) := by rw [e]
      rw [← itO_add, ← itO_add, show b + (j + 1 - b) = j + 1 by omega, hj] at e1
      exact hmin (a + (j + 1 - b) - 1) (by omega) (by rw [show a + (j + 1 - b) - 1 + 1 = a + (j + 1 - b) by omega]; exact e1)
    have hlen := nodup_len _ (List.range n) hnd (fun x hx => by
      simp only [List.mem_map, List.mem_range] at hx
      obtain ⟨a, _, rfl⟩ := hx
      exact List.mem_range.2 (hlt _ (hit a k hk)))
    simp only [List.length_map, List.length_range] at hlen
    exact ring_hits n m k 4 k _ j (by omega) hj (fun a _ => ⟨by have := hlt _ (hit a k hk); omega, hnx a k hk⟩)
  · right
    have hr' : ∀ j, ¬ itO n m (j + 1) k = k := fun j e => hr ⟨j, e⟩
    obtain ⟨i, hi, e, _⟩ := ho k hk
    refine ⟨S.filter (fun t => decide (∀ j, ¬ itO n m j t = k)), fun hnil => ?_, fun hm => ?_, fun j hj => ?_⟩
    · have : i ∈ S.filter (fun t => decide (∀ j, ¬ itO n m j t = k)) := by
        rw [List.mem_filter]
        refine ⟨hi, decide_eq_true (fun j => ?_)⟩
        have := hr' j
        rw [itO, e, Int.toNat_natCast] at this
        exact this
      rw [hnil] at this; cases this
    · rw [List.mem_filter] at hm
      exact of_decide_eq_true hm.2 0 rfl
    · rw [List.mem_filter] at hj
      obtain ⟨hj1, hj2⟩ := hj
      have hj2 := of_decide_eq_true hj2
      obtain ⟨i', hi', e', l, hl1, hl2⟩ := ho j hj1
      refine ⟨(h j hj1).1, (h j hj1).2.1, l, i', hl1, ?_, hl2⟩
      rw [List.mem_filter]
      refine ⟨hi', decide_eq_true (fun a => ?_)⟩
      have := hj2 (a + 1)
      rw [itO, e', Int.toNat_natCast] at this
      exact this
/-- P10: where there is a ring, the log is not empty. -/
theorem ring_logged {C : Nat → List In} {n : Nat} (hF : Fine C n) (hn : n ≤ 4) (quantum : Nat) : ∀ (i : Nat) (S : List Nat), ¬ S = [] → Closed n (playM C n quantum i) S → ¬ (playM C n quantum i).log = []
  | 0, S, hS, h => by
    cases S with
    | nil => exact absurd rfl hS
    | cons x r => have := (h x (List.mem_cons_self ..)).2.1; simp [playM, beginM] at this
  | i + 1, S, hS, h => by
    obtain ⟨ρ, hI⟩ := Inv.plays hF quantum i
    obtain ⟨L, hL, _⟩ := play_log C n quantum i
    have hgrow : ∀ S', ¬ S' = [] → Closed n (playM C n quantum i) S' → ¬ (playM C n quantum (i + 1)).log = [] := fun S' h1 h2 h3 => by
      rw [hL] at h3
      exact ring_logged hF hn quantum i S' h1 h2 (List.append_eq_nil_iff.1 h3).1
    obtain ⟨ρ1, hI1⟩ := hI.turn0 hF quantum i
    have hB1 : Bat n (turn0M C n quantum i (playM C n quantum i)) := by
      have := play_bat C n quantum (i + 1)
      simp only [playM] at this
      obtain ⟨L', e⟩ := turn_eq C n quantum i (playM C n quantum i)
      rw [e] at this
      exact this.congr rfl rfl
    have h0 : Closed n (turn0M C n quantum i (playM C n quantum i)) S := by
      simp only [playM] at h
      obtain ⟨L', e⟩ := turn_eq C n quantum i (playM C n quantum i)
      rw [e] at h
      exact h
    cases hq : (wakeM ((i : Nat) : Int) n 0 (playM C n quantum i)).q with
    | nil => exact hgrow S hS (turn_back hF quantum i hI h0 (fun k r e => by rw [hq] at e; cases e))
    | cons k r =>
      have hno : ∀ (S' : List Nat), ¬ k ∈ S' → ∀ k' r', (wakeM ((i : Nat) : Int) n 0 (playM C n quantum i)).q = k' :: r' → ¬ k' ∈ S' := fun (S' : List Nat) h1 k' r' e => by
        rw [hq] at e; cases e; exact h1
      by_cases hkS : k ∈ S
      · rcases ring_logged0 hn hF hI1 hB1 h0 k hkS with hr | ⟨S', s1, s2, s3⟩
        · simp only [playM]
          unfold turnM
          rw [hq]
          simp only
          unfold entM
          rw [if_pos hr]
          intro hx
          have := congrArg List.length hx
          simp at this
        · exact hgrow S' s1 (turn_back hF quantum i hI s3 (hno S' s2))
      · exact hgrow S hS (turn_back hF quantum i hI h0 (hno S hkS))
/-- P11: where nobody is ready, asleep or waiting, all are done or the log is not empty. -/
theorem play_stuck {C : Nat → List In} {n : Nat} (hF : Fine C n) (hn : n ≤ 4) (quantum i : Nat) (h : ∀ k, k < n → ((playM C n quantum i).th k).sta = 66 ∨ ((playM C n quantum i).th k).sta = 68) (k : Nat) (hk : k < n) (hb : ((playM C n quantum i).th k).sta = 66) : ¬ (playM C n quantum i).log = [] := by
  refine ring_logged hF hn quantum i ((List.range n).filter (fun t => ((playM C n quantum i).th t).sta == 66)) (fun e => ?_) (fun j hj => ?_)
  · have : k ∈ (List.range n).filter (fun t => ((playM C n quantum i).th t).sta == 66) := by simp [hk, hb]
    rw [e] at this; cases this
  · simp only [List.mem_filter, List.mem_range, beq_iff_eq] at hj
    obtain ⟨l, hl, hm, u, hu, _, ho⟩ := play_blocked hF quantum i j hj.1 hj.2
    refine ⟨hj.1, hj.2, l, u, hm, ?_, ho⟩
    simp only [List.mem_filter, List.mem_range, beq_iff_eq]
    refine ⟨hu, ?_⟩
    rcases h u hu with e | e
    · exact e
    · rcases play_who hF quantum i l with e1 | ⟨v, _, e1, e2⟩
      · omega
      · have : v = u := by omega
        subst this; exact absurd e e2
/-- P11: where nobody is ready or asleep, nothing happens any more. -/
theorem play_still {C : Nat → List In} {n : Nat} (hF : Fine C n) (quantum i : Nat) (h : ∀ k, k < n → ¬ ((playM C n quantum i).th k).sta = 82 ∧ ¬ ((playM C n quantum i).th k).sta = 83) : ∀ d, (playM C n quantum (i + d)).th = (playM C n quantum i).th ∧ (playM C n quantum (i + d)).out = (playM C n quantum i).out ∧ (playM C n quantum (i + d)).own = (playM C n quantum i).own ∧ (playM C n quantum (i + d)).log = (playM C n quantum i).log ∧ (playM C n quantum (i + d)).trc = (playM C n quantum i).trc ++ List.replicate d 45
  | 0 => ⟨rfl, rfl, rfl, rfl, by simp⟩
  | d + 1 => by
    obtain ⟨a1, a2, a3, a4, a5⟩ := play_still hF quantum i h d
    rcases (play_turned hF quantum (i + d)).who with ⟨b1, _, b3, b4, b5, _⟩ | ⟨k, hk, _, hs, _⟩
    · have hlg := play_idle_log hF quantum (i + d) b1
      refine ⟨?_, by rw [← a2]; exact b4, by rw [← a3]; exact b5, by rw [← a4]; exact hlg, ?_⟩
      · rw [← a1]; funext j; exact b3 j
      · show (playM C n quantum (i + d + 1)).trc = _
        rw [b1, a5, List.append_assoc, List.replicate_succ']
    · rw [a1] at hs
      have := h k hk
      omega

end Go.Proofs.YtjbmflgamogefabGreat
