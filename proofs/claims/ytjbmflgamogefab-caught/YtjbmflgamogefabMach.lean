/- The machine (P6 to P9), plainly, and what holds of it for programs that Check admits. No program is imported. -/
import Derived.Test.YtjbmflgamogefabPure4
namespace Go.Proofs.Ytjbmflgamogefab

/-- A thread: the next instruction, the stack (its top last), the state's letter, the quantum with which its sleep ends, the lock at which it was blocked last. -/
structure Th where
  pc : Nat
  stk : List Int
  sta : Int
  wake : Int
  bat : Nat
/-- The machine. own: of each lock, -1: nobody. -/
structure Mac where
  th : Nat → Th
  q : List Nat
  cells : Nat → Int
  own : Nat → Int
  blk : Nat → List Nat
  wai : Nat → List Nat
  out : List Int
  trc : List Int
  log : List Int

def upd {α : Type} (f : Nat → α) (k : Nat) (v : α) : Nat → α := fun j => if j = k then v else f j
theorem upd_same {α : Type} (f : Nat → α) (k : Nat) (v : α) : upd f k v k = v := by simp [upd]
theorem upd_other {α : Type} (f : Nat → α) {k j : Nat} (v : α) (h : ¬ j = k) : upd f k v j = f j := by simp [upd, h]

def topOf (s : List Int) : Int := s.getLastD 0
def dig3 (v : Int) : List Int := [48 + v / 100, 48 + v / 10 % 10, 48 + v % 10]
/-- Thread k goes behind the queue. -/
def readyM (m : Mac) (k : Nat) : Mac := { m with th := upd m.th k { m.th k with sta := 82 }, q := m.q ++ [k] }
/-- The lock l is given back. -/
def giveM (m : Mac) (l : Nat) : Mac := match m.blk l with
  | [] => { m with own := upd m.own l (-1) }
  | k :: r => readyM { m with blk := upd m.blk l r, own := upd m.own l (k : Int) } k
def insAt (C : Nat → List In) (m : Mac) (k : Nat) : In := (C k).getD (m.th k).pc (88, 0)
def stepTh (m : Mac) (k : Nat) (t : Th) : Mac := { m with th := upd m.th k t }
/-- Thread k waits at the lock l. -/
def waitM (m : Mac) (k l : Nat) : Mac := { m with th := upd m.th k { m.th k with sta := 87 }, wai := upd m.wai l (m.wai l ++ [k]) }
/-- The one that has waited longest at the lock l is blocked at it. -/
def noteM (m : Mac) (l : Nat) : Mac := match m.wai l with
  | [] => m
  | x :: r => { m with th := upd m.th x { m.th x with sta := 66, bat := l }, wai := upd m.wai l r, blk := upd m.blk l (m.blk l ++ [x]) }
/-- Thread k makes the instruction c a in quantum q. -/
def actOn (m : Mac) (k : Nat) (q c a : Int) : Mac :=
  if c = 107 then stepTh m k { m.th k with pc := (m.th k).pc + 1, stk := (m.th k).stk ++ [a] }
  else if c = 103 then stepTh m k { m.th k with pc := (m.th k).pc + 1, stk := (m.th k).stk ++ [m.cells a.toNat] }
  else if c = 115 then { stepTh m k { m.th k with pc := (m.th k).pc + 1, stk := (m.th k).stk.dropLast } with cells := upd m.cells a.toNat (topOf (m.th k).stk) }
  else if c = 112 then { stepTh m k { m.th k with pc := (m.th k).pc + 1, stk := (m.th k).stk.dropLast } with out := m.out ++ dig3 (topOf (m.th k).stk) }
  else if c = 43 then stepTh m k { m.th k with pc := (m.th k).pc + 1, stk := (m.th k).stk.dropLast.dropLast ++ [(topOf (m.th k).stk.dropLast + topOf (m.th k).stk) % 1000] }
  else if c = 45 then stepTh m k { m.th k with pc := (m.th k).pc + 1, stk := (m.th k).stk.dropLast.dropLast ++ [(topOf (m.th k).stk.dropLast - topOf (m.th k).stk + 1000) % 1000] }
  else if c = 74 then stepTh m k { m.th k with pc := a.toNat }
  else if c = 90 then stepTh m k { m.th k with pc := if topOf (m.th k).stk = 0 then a.toNat else (m.th k).pc + 1, stk := (m.th k).stk.dropLast }
  else if c = 65 then
    if m.own a.toNat < 0 then { stepTh m k { m.th k with pc := (m.th k).pc + 1 } with own := upd m.own a.toNat (k : Int) }
    else { stepTh m k { m.th k with pc := (m.th k).pc + 1, sta := 66, bat := a.toNat } with blk := upd m.blk a.toNat (m.blk a.toNat ++ [k]) }
  else if c = 82 then giveM (stepTh m k { m.th k with pc := (m.th k).pc + 1 }) a.toNat
  else if c = 87 then waitM (giveM (stepTh m k { m.th k with pc := (m.th k).pc + 1 }) a.toNat) k a.toNat
  else if c = 78 then noteM (stepTh m k { m.th k with pc := (m.th k).pc + 1 }) a.toNat
  else if c = 84 then stepTh m k { m.th k with pc := (m.th k).pc + 1, sta := 83, wake := q + 1 + a }
  else if c = 88 then stepTh m k { m.th k with pc := (m.th k).pc + 1, sta := 68 }
  else stepTh m k { m.th k with pc := (m.th k).pc + 1 }
/-- Thread k makes an instruction in quantum q. -/
def actM (C : Nat → List In) (m : Mac) (k : Nat) (q : Int) : Mac := actOn m k q (insAt C m k).1 (insAt C m k).2
/-- At most so many instructions more, by the thread k, behind an instruction with the letter 'op'. -/
def runM (C : Nat → List In) (k : Nat) (q : Int) : Nat → Int → Mac → Mac
  | 0, _, m => m
  | i + 1, op, m => if (m.th k).sta = 82 ∧ ¬ op = 89 then runM C k q i (insAt C m k).1 (actM C m k q) else m
/-- Those whose sleep ends with quantum q, from thread k on, become ready. -/
def wakeM (q : Int) : Nat → Nat → Mac → Mac
  | 0, _, m => m
  | i + 1, k, m => wakeM q i (k + 1) (if (m.th k).sta = 83 ∧ (m.th k).wake = q then readyM m k else m)
/-- Quantum q, but for the log. -/
def turn0M (C : Nat → List In) (n : Nat) (quantum : Nat) (q : Nat) (m0 : Mac) : Mac :=
  let m := wakeM q n 0 m0
  match m.q with
  | [] => { m with trc := m.trc ++ [45] }
  | k :: r =>
    let m2 := runM C k q quantum 32 { m with q := r, trc := m.trc ++ [48 + (k : Int)] }
    if (m2.th k).sta = 82 then readyM m2 k else m2
/-- The thread that owns the lock at which the thread k is blocked; -1: there is none. -/
def obst (n : Nat) (m : Mac) (k : Nat) : Int := if k < n then (if (m.th k).sta = 66 then (if (m.th k).bat < 4 then m.own (m.th k).bat else -1) else -1) else -1
/-- From one to the next, at most so many steps: whom one met, and whether one came back to k. -/
def ringM (n : Nat) (m : Mac) (k : Nat) : Nat → Int → (Nat → Bool) → (Nat → Bool) × Bool
  | 0, _, s => (s, false)
  | i + 1, p, s => if p < 0 then (s, false) else if 4 ≤ p then (s, false) else if obst n m p.toNat = (k : Int) then (upd s p.toNat true, true) else ringM n m k i (obst n m p.toNat) (upd s p.toNat true)
/-- The threads that were met, by their signs. -/
def namesM (s : Nat → Bool) : Nat → List Int
  | 0 => []
  | i + 1 => namesM s i ++ (if s i then [48 + (i : Int)] else [])
/-- What is logged behind quantum q, which k had. -/
def entM (n : Nat) (m : Mac) (k q : Nat) : List Int := if (ringM n m k 4 k (fun _ => false)).2 then [48 + (q : Int) / 10 % 10, 48 + (q : Int) % 10, 58] ++ namesM (ringM n m k 4 k (fun _ => false)).1 4 ++ [32] else []
/-- Quantum q. -/
def turnM (C : Nat → List In) (n : Nat) (quantum : Nat) (q : Nat) (m0 : Mac) : Mac := match (wakeM q n 0 m0).q with
  | [] => turn0M C n quantum q m0
  | k :: _ => { turn0M C n quantum q m0 with log := (turn0M C n quantum q m0).log ++ entM n (turn0M C n quantum q m0) k q }
theorem turn_eq (C : Nat → List In) (n quantum q : Nat) (m : Mac) : ∃ L, turnM C n quantum q m = { turn0M C n quantum q m with log := L } := by
  unfold turnM
  split
  · exact ⟨(turn0M C n quantum q m).log, rfl⟩
  · exact ⟨_, rfl⟩
def beginM (n : Nat) : Mac := { th := fun _ => ⟨0, [], 82, 0, 0⟩, q := List.range n, cells := fun _ => 0, own := fun _ => -1, blk := fun _ => [], wai := fun _ => [], out := [], trc := [], log := [] }
/-- Behind n quanta. -/
def playM (C : Nat → List In) (n quantum : Nat) : Nat → Mac
  | 0 => beginM n
  | i + 1 => turnM C n quantum i (playM C n quantum i)

/-- What Check admits: no place that comes to be has an error. -/
def Sound (I : List In) : Prop := ∀ s, Reach I s → s.1.toNat < I.length ∧ (∀ c a, I[s.1.toNat]? = some (c, a) → wrg c a s.2.1 s.2.2 = 0) ∧ ∀ t, Reach I t → t.1 = s.1 → t = s

/-- The locks that a thread owns. -/
def owned (t : Th) (r : List Int) : List Int := if t.sta = 66 ∨ t.sta = 87 then r.dropLast else r
/-- What holds of the machine; run: who has the quantum; ρ: each thread's row. -/
structure Inv (C : Nat → List In) (n : Nat) (run : Option Nat) (ρ : Nat → List Int) (m : Mac) : Prop where
  sta : ∀ k, k < n → (m.th k).sta = 82 ∨ (m.th k).sta = 66 ∨ (m.th k).sta = 87 ∨ (m.th k).sta = 83 ∨ (m.th k).sta = 68
  at_ : ∀ k, k < n → ¬ (m.th k).sta = 68 → Reach (C k) ((m.th k).pc, (m.th k).stk.length, ρ k)
  done : ∀ k, k < n → (m.th k).sta = 68 → ρ k = []
  ne : ∀ k, k < n → (m.th k).sta = 66 ∨ (m.th k).sta = 87 → ¬ ρ k = []
  nums : ∀ k, k < n → ∀ v ∈ (m.th k).stk, 0 ≤ v ∧ v < 1000
  cells : ∀ j, 0 ≤ m.cells j ∧ m.cells j < 1000
  own : ∀ (l : Nat) (k : Nat), k < n → (m.own l = (k : Int) ↔ (l : Int) ∈ owned (m.th k) (ρ k))
  who : ∀ l, m.own l = -1 ∨ ∃ k : Nat, k < n ∧ m.own l = (k : Int)
  blk : ∀ l k, k ∈ m.blk l ↔ k < n ∧ (m.th k).sta = 66 ∧ (ρ k).getLast? = some (l : Int)
  wai : ∀ l k, k ∈ m.wai l ↔ k < n ∧ (m.th k).sta = 87 ∧ (ρ k).getLast? = some (l : Int)
  bnd : ∀ l, (m.blk l).Nodup
  wnd : ∀ l, (m.wai l).Nodup
  has : ∀ l, ¬ m.blk l = [] → ¬ m.own l = -1
  qnd : m.q.Nodup
  que : ∀ k, k ∈ m.q ↔ k < n ∧ (m.th k).sta = 82 ∧ ¬ run = some k

theorem inv_begin (C : Nat → List In) (n : Nat) : Inv C n none (fun _ => []) (beginM n) where
  sta := fun _ _ => .inl rfl
  at_ := fun k _ _ => Reach.first (C k)
  done := fun _ _ _ => rfl
  ne := fun _ _ h => by simp [beginM] at h
  nums := fun k _ v hv => by simp [beginM] at hv
  cells := fun _ => by simp [beginM]
  own := fun l k _ => by simp [beginM, owned]
  who := fun _ => .inl rfl
  blk := fun l k => by simp [beginM]
  wai := fun l k => by simp [beginM]
  bnd := fun _ => List.nodup_nil
  wnd := fun _ => List.nodup_nil
  has := fun _ h => absurd rfl h
  qnd := List.nodup_range
  que := fun k => by simp [beginM]

theorem owned_plain {t : Th} {r : List Int} (h : t.sta = 82 ∨ t.sta = 83 ∨ t.sta = 68) : owned t r = r := by
  unfold owned; rw [if_neg (by omega)]
/-- Thread k, which has the quantum, turns into t', its row as it was. -/
theorem Inv.turns {C : Nat → List In} {n k : Nat} {ρ : Nat → List Int} {m : Mac} (h : Inv C n (some k) ρ m) (hk : k < n) (hs : (m.th k).sta = 82) {t' : Th} (ht : t'.sta = 82 ∨ t'.sta = 83 ∨ t'.sta = 68)
    (hR : ¬ t'.sta = 68 → Reach (C k) (t'.pc, t'.stk.length, ρ k)) (hD : t'.sta = 68 → ρ k = []) (hn : ∀ v ∈ t'.stk, 0 ≤ v ∧ v < 1000) {cells' : Nat → Int} (hc : ∀ j, 0 ≤ cells' j ∧ cells' j < 1000) (out' trc' : List Int) :
    Inv C n (some k) ρ { m with th := upd m.th k t', cells := cells', out := out', trc := trc' } where
  sta := fun j hj => by
    by_cases e : j = k
    · subst e; simp only [upd_same]; omega
    · simp only [upd_other _ _ e]; exact h.sta j hj
  at_ := fun j hj => by
    by_cases e : j = k
    · subst e; simp only [upd_same]; exact hR
    · simp only [upd_other _ _ e]; exact h.at_ j hj
  done := fun j hj => by
    by_cases e : j = k
    · subst e; simp only [upd_same]; exact hD
    · simp only [upd_other _ _ e]; exact h.done j hj
  ne := fun j hj => by
    by_cases e : j = k
    · subst e; simp only [upd_same]; intro h1; omega
    · simp only [upd_other _ _ e]; exact h.ne j hj
  nums := fun j hj => by
    by_cases e : j = k
    · subst e; simp only [upd_same]; exact hn
    · simp only [upd_other _ _ e]; exact h.nums j hj
  cells := hc
  own := fun l j hj => by
    by_cases e : j = k
    · subst e; simp only [upd_same]; rw [owned_plain ht]; have := h.own l j hj; rw [owned_plain (.inl hs)] at this; exact this
    · simp only [upd_other _ _ e]; exact h.own l j hj
  who := h.who
  blk := fun l j => by
    by_cases e : j = k
    · subst e; simp only [upd_same]; rw [h.blk l j]; constructor <;> (rintro ⟨_, h1, _⟩; omega)
    · simp only [upd_other _ _ e]; exact h.blk l j
  wai := fun l j => by
    by_cases e : j = k
    · subst e; simp only [upd_same]; rw [h.wai l j]; constructor <;> (rintro ⟨_, h1, _⟩; omega)
    · simp only [upd_other _ _ e]; exact h.wai l j
  bnd := h.bnd
  wnd := h.wnd
  has := h.has
  qnd := h.qnd
  que := fun j => by
    by_cases e : j = k
    · subst e; simp only [upd_same]; rw [h.que j]; constructor <;> (rintro ⟨_, _, h1⟩; exact absurd (by trivial) h1)
    · simp only [upd_other _ _ e]; exact h.que j

/-- It takes a lock that is free. -/
theorem Inv.takes {C : Nat → List In} {n k l : Nat} {ρ : Nat → List Int} {m : Mac} (h : Inv C n (some k) ρ m) (hk : k < n) (hs : (m.th k).sta = 82) {t' : Th} (ht : t'.sta = 82) (hl : m.own l = -1)
    (hR : Reach (C k) (t'.pc, t'.stk.length, ρ k ++ [(l : Int)])) (hn : ∀ v ∈ t'.stk, 0 ≤ v ∧ v < 1000) :
    Inv C n (some k) (upd ρ k (ρ k ++ [(l : Int)])) { m with th := upd m.th k t', own := upd m.own l (k : Int) } where
  sta := fun j hj => by
    by_cases e : j = k
    · subst e; simp only [upd_same]; omega
    · simp only [upd_other _ _ e]; exact h.sta j hj
  at_ := fun j hj => by
    by_cases e : j = k
    · subst e; simp only [upd_same]; exact fun _ => hR
    · simp only [upd_other _ _ e]; exact h.at_ j hj
  done := fun j hj => by
    by_cases e : j = k
    · subst e; simp only [upd_same]; intro h1; omega
    · simp only [upd_other _ _ e]; exact h.done j hj
  ne := fun j hj => by
    by_cases e : j = k
    · subst e; simp only [upd_same]; intro h1; omega
    · simp only [upd_other _ _ e]; exact h.ne j hj
  nums := fun j hj => by
    by_cases e : j = k
    · subst e; simp only [upd_same]; exact hn
    · simp only [upd_other _ _ e]; exact h.nums j hj
  cells := h.cells
  own := fun l' j hj => by
    by_cases el : l' = l
    · subst el
      simp only [upd_same]
      by_cases e : j = k
      · subst e; simp only [upd_same]; rw [owned_plain (.inl ht)]; simp
      · simp only [upd_other _ _ e]
        have := h.own l' j hj
        rw [hl] at this
        constructor
        · intro e1; omega
        · intro e1; have := this.2 e1; omega
    · simp only [upd_other _ _ el]
      by_cases e : j = k
      · subst e; simp only [upd_same]; rw [owned_plain (.inl ht), h.own l' j hj, owned_plain (.inl hs)]
        simp; intro e1; omega
      · simp only [upd_other _ _ e]; exact h.own l' j hj
  who := fun l' => by
    by_cases el : l' = l
    · subst el; simp only [upd_same]; exact .inr ⟨k, hk, rfl⟩
    · simp only [upd_other _ _ el]; exact h.who l'
  blk := fun l' j => by
    by_cases e : j = k
    · subst e; simp only [upd_same]; rw [h.blk l' j]; constructor <;> (rintro ⟨_, h1, _⟩; omega)
    · simp only [upd_other _ _ e]; exact h.blk l' j
  wai := fun l' j => by
    by_cases e : j = k
    · subst e; simp only [upd_same]; rw [h.wai l' j]; constructor <;> (rintro ⟨_, h1, _⟩; omega)
    · simp only [upd_other _ _ e]; exact h.wai l' j
  bnd := h.bnd
  wnd := h.wnd
  has := fun l' hb => by
    by_cases el : l' = l
    · subst el; simp only [upd_same]; omega
    · simp only [upd_other _ _ el]; exact h.has l' hb
  qnd := h.qnd
  que := fun j => by
    by_cases e : j = k
    · subst e; simp only [upd_same]; rw [h.que j]; constructor <;> (rintro ⟨_, _, h1⟩; exact absurd (by trivial) h1)
    · simp only [upd_other _ _ e]; exact h.que j

/-- It is blocked at a lock that is not free. -/
theorem Inv.blocks {C : Nat → List In} {n k l : Nat} {ρ : Nat → List Int} {m : Mac} (h : Inv C n (some k) ρ m) (hk : k < n) (hs : (m.th k).sta = 82) {t' : Th} (ht : t'.sta = 66) (hl : ¬ m.own l = -1)
    (hR : Reach (C k) (t'.pc, t'.stk.length, ρ k ++ [(l : Int)])) (hn : ∀ v ∈ t'.stk, 0 ≤ v ∧ v < 1000) :
    Inv C n (some k) (upd ρ k (ρ k ++ [(l : Int)])) { m with th := upd m.th k t', blk := upd m.blk l (m.blk l ++ [k]) } where
  sta := fun j hj => by
    by_cases e : j = k
    · subst e; simp only [upd_same]; omega
    · simp only [upd_other _ _ e]; exact h.sta j hj
  at_ := fun j hj => by
    by_cases e : j = k
    · subst e; simp only [upd_same]; exact fun _ => hR
    · simp only [upd_other _ _ e]; exact h.at_ j hj
  done := fun j hj => by
    by_cases e : j = k
    · subst e; simp only [upd_same]; intro h1; omega
    · simp only [upd_other _ _ e]; exact h.done j hj
  ne := fun j hj => by
    by_cases e : j = k
    · subst e; simp only [upd_same]; intro _; simp
    · simp only [upd_other _ _ e]; exact h.ne j hj
  nums := fun j hj => by
    by_cases e : j = k
    · subst e; simp only [upd_same]; exact hn
    · simp only [upd_other _ _ e]; exact h.nums j hj
  cells := h.cells
  own := fun l' j hj => by
    by_cases e : j = k
    · subst e; simp only [upd_same]
      rw [h.own l' j hj, owned_plain (.inl hs), owned, if_pos (.inl ht), List.dropLast_concat]
    · simp only [upd_other _ _ e]; exact h.own l' j hj
  who := h.who
  blk := fun l' j => by
    by_cases el : l' = l
    · subst el
      simp only [upd_same]
      by_cases e : j = k
      · subst e; simp only [upd_same]; simp [ht, hk]
      · simp only [upd_other _ _ e]; rw [List.mem_append, h.blk l' j]; simp [e]
    · simp only [upd_other _ _ el]
      by_cases e : j = k
      · subst e; simp only [upd_same]; rw [h.blk l' j]
        constructor
        · rintro ⟨_, h1, _⟩; omega
        · rintro ⟨_, _, h1⟩; simp at h1; omega
      · simp only [upd_other _ _ e]; exact h.blk l' j
  wai := fun l' j => by
    by_cases e : j = k
    · subst e; simp only [upd_same]; rw [h.wai l' j]; constructor <;> (rintro ⟨_, h1, _⟩; omega)
    · simp only [upd_other _ _ e]; exact h.wai l' j
  bnd := fun l' => by
    by_cases el : l' = l
    · subst el; simp only [upd_same]
      rw [List.nodup_append]
      exact ⟨h.bnd l', by simp, fun x hx y hy => by simp at hy; subst hy; intro e; subst e; have := ((h.blk l' x).1 hx).2.1; omega⟩
    · simp only [upd_other _ _ el]; exact h.bnd l'
  wnd := h.wnd
  has := fun l' hb => by
    by_cases el : l' = l
    · subst el; exact hl
    · simp only [upd_other _ _ el] at hb; exact h.has l' hb
  qnd := h.qnd
  que := fun j => by
    by_cases e : j = k
    · subst e; simp only [upd_same]; rw [h.que j]; constructor <;> (rintro ⟨_, _, h1⟩; exact absurd (by trivial) h1)
    · simp only [upd_other _ _ e]; exact h.que j

/-- It gives the last lock of its row back, to nobody; it may wait at it. -/
theorem Inv.gives {C : Nat → List In} {n k l : Nat} {ρ : Nat → List Int} {m : Mac} {r r' : List Int} (h : Inv C n (some k) ρ m) (hk : k < n) (hs : (m.th k).sta = 82) (hr : ρ k = r ++ [(l : Int)]) (hrn : (ρ k).Nodup) {t' : Th} {wai' : Nat → List Nat}
    (ht : (t'.sta = 82 ∧ r' = r ∧ wai' = m.wai) ∨ (t'.sta = 87 ∧ r' = r ++ [(l : Int)] ∧ wai' = upd m.wai l (m.wai l ++ [k]))) (hb : m.blk l = [])
    (hR : Reach (C k) (t'.pc, t'.stk.length, r')) (hn : ∀ v ∈ t'.stk, 0 ≤ v ∧ v < 1000) :
    Inv C n (some k) (upd ρ k r') { m with th := upd m.th k t', own := upd m.own l (-1), wai := wai' } := by
  have ho : owned t' r' = r := by
    rcases ht with ⟨a, b, _⟩ | ⟨a, b, _⟩
    · rw [owned_plain (.inl a), b]
    · rw [owned, if_pos (.inr a), b, List.dropLast_concat]
  have hlr : ¬ (l : Int) ∈ r := by
    rw [hr, List.nodup_append] at hrn
    exact fun hm => hrn.2.2 _ hm _ (by simp) rfl
  have hlk : m.own l = (k : Int) := (h.own l k hk).2 (by rw [owned_plain (.inl hs), hr]; simp)
  have hw : ∀ l' j, j ∈ wai' l' ↔ j < n ∧ (upd m.th k t' j).sta = 87 ∧ (upd ρ k r' j).getLast? = some (l' : Int) := by
    intro l' j
    rcases ht with ⟨a, b, rfl⟩ | ⟨a, b, rfl⟩
    · by_cases e : j = k
      · subst e; simp only [upd_same]; rw [h.wai l' j]; constructor <;> (rintro ⟨_, h1, _⟩; omega)
      · simp only [upd_other _ _ e]; exact h.wai l' j
    · by_cases el : l' = l
      · subst el
        simp only [upd_same]
        by_cases e : j = k
        · subst e; simp only [upd_same]; simp [a, b, hk]
        · simp only [upd_other _ _ e]; rw [List.mem_append, h.wai l' j]; simp [e]
      · simp only [upd_other _ _ el]
        by_cases e : j = k
        · subst e; simp only [upd_same]; rw [h.wai l' j]
          constructor
          · rintro ⟨_, h1, _⟩; omega
          · rintro ⟨_, _, h1⟩; rw [b] at h1; simp at h1; omega
        · simp only [upd_other _ _ e]; exact h.wai l' j
  have hwn : ∀ l', (wai' l').Nodup := by
    intro l'
    rcases ht with ⟨_, _, rfl⟩ | ⟨_, _, rfl⟩
    · exact h.wnd l'
    · by_cases el : l' = l
      · subst el; simp only [upd_same]
        rw [List.nodup_append]
        exact ⟨h.wnd l', by simp, fun x hx y hy => by simp at hy; subst hy; intro e; subst e; have := ((h.wai l' x).1 hx).2.1; omega⟩
      · simp only [upd_other _ _ el]; exact h.wnd l'
  have h68 : ¬ t'.sta = 68 := by omega
  exact {
    sta := fun j hj => by
      by_cases e : j = k
      · subst e; simp only [upd_same]; omega
      · simp only [upd_other _ _ e]; exact h.sta j hj
    at_ := fun j hj => by
      by_cases e : j = k
      · subst e; simp only [upd_same]; exact fun _ => hR
      · simp only [upd_other _ _ e]; exact h.at_ j hj
    done := fun j hj => by
      by_cases e : j = k
      · subst e; simp only [upd_same]; intro h1; exact absurd h1 h68
      · simp only [upd_other _ _ e]; exact h.done j hj
    ne := fun j hj => by
      by_cases e : j = k
      · subst e; simp only [upd_same]
        rcases ht with ⟨a, _, _⟩ | ⟨_, b, _⟩
        · intro h1; omega
        · intro _; rw [b]; simp
      · simp only [upd_other _ _ e]; exact h.ne j hj
    nums := fun j hj => by
      by_cases e : j = k
      · subst e; simp only [upd_same]; exact hn
      · simp only [upd_other _ _ e]; exact h.nums j hj
    cells := h.cells
    own := fun l' j hj => by
      by_cases el : l' = l
      · subst el
        simp only [upd_same]
        by_cases e : j = k
        · subst e; simp only [upd_same]; rw [ho]; constructor
          · intro e1; omega
          · intro e1; exact absurd e1 hlr
        · simp only [upd_other _ _ e]
          have := h.own l' j hj
          rw [hlk] at this
          constructor
          · intro e1; omega
          · intro e1; have := this.2 e1; omega
      · simp only [upd_other _ _ el]
        by_cases e : j = k
        · subst e; simp only [upd_same]; rw [ho, h.own l' j hj, owned_plain (.inl hs), hr]
          simp; intro e1; omega
        · simp only [upd_other _ _ e]; exact h.own l' j hj
    who := fun l' => by
      by_cases el : l' = l
      · subst el; simp only [upd_same]; exact .inl (by trivial)
      · simp only [upd_other _ _ el]; exact h.who l'
    blk := fun l' j => by
      by_cases e : j = k
      · subst e; simp only [upd_same]; rw [h.blk l' j]; constructor <;> (rintro ⟨_, h1, _⟩; omega)
      · simp only [upd_other _ _ e]; exact h.blk l' j
    wai := hw
    bnd := h.bnd
    wnd := hwn
    has := fun l' hbb => by
      by_cases el : l' = l
      · subst el; exact absurd hb hbb
      · simp only [upd_other _ _ el]; exact h.has l' hbb
    qnd := h.qnd
    que := fun j => by
      by_cases e : j = k
      · subst e; simp only [upd_same]; rw [h.que j]; constructor <;> (rintro ⟨_, _, h1⟩; exact absurd (by trivial) h1)
      · simp only [upd_other _ _ e]; exact h.que j }

/-- The same to the one that has been blocked longest. -/
theorem Inv.hands {C : Nat → List In} {n k l x : Nat} {ρ : Nat → List Int} {m : Mac} {r r' : List Int} {bs : List Nat} (h : Inv C n (some k) ρ m) (hk : k < n) (hs : (m.th k).sta = 82) (hr : ρ k = r ++ [(l : Int)]) (hrn : ∀ j, j < n → (ρ j).Nodup) {t' : Th} {wai' : Nat → List Nat}
    (ht : (t'.sta = 82 ∧ r' = r ∧ wai' = m.wai) ∨ (t'.sta = 87 ∧ r' = r ++ [(l : Int)] ∧ wai' = upd m.wai l (m.wai l ++ [k]))) (hb : m.blk l = x :: bs)
    (hR : Reach (C k) (t'.pc, t'.stk.length, r')) (hn : ∀ v ∈ t'.stk, 0 ≤ v ∧ v < 1000) :
    Inv C n (some k) (upd ρ k r') { m with th := upd (upd m.th k t') x { m.th x with sta := 82 }, own := upd m.own l (x : Int), blk := upd m.blk l bs, q := m.q ++ [x], wai := wai' } := by
  have ho : owned t' r' = r := by
    rcases ht with ⟨a, b, _⟩ | ⟨a, b, _⟩
    · rw [owned_plain (.inl a), b]
    · rw [owned, if_pos (.inr a), b, List.dropLast_concat]
  have hlr : ¬ (l : Int) ∈ r := by
    have := hrn k hk
    rw [hr, List.nodup_append] at this
    exact fun hm => this.2.2 _ hm _ (by simp) rfl
  have hlk : m.own l = (k : Int) := (h.own l k hk).2 (by rw [owned_plain (.inl hs), hr]; simp)
  obtain ⟨hx, hxs, hxr⟩ := (h.blk l x).1 (by rw [hb]; simp)
  have hxk : ¬ x = k := by intro e; subst e; omega
  have hkx : ¬ k = x := fun e => hxk e.symm
  obtain ⟨rx, hrx⟩ : ∃ rx, ρ x = rx ++ [(l : Int)] := by
    rcases snoc_or (ρ x) with e | ⟨s, y, e⟩
    · rw [e] at hxr; simp at hxr
    · rw [e] at hxr; simp at hxr; exact ⟨s, by rw [e, hxr]⟩
  have hthk : upd (upd m.th k t') x { m.th x with sta := 82 } k = t' := by rw [upd_other _ _ hkx, upd_same]
  have hthx : upd (upd m.th k t') x { m.th x with sta := 82 } x = { m.th x with sta := 82 } := upd_same _ _ _
  have htho : ∀ j, ¬ j = k → ¬ j = x → upd (upd m.th k t') x { m.th x with sta := 82 } j = m.th j := fun j h1 h2 => by rw [upd_other _ _ h2, upd_other _ _ h1]
  have hρx : upd ρ k r' x = ρ x := upd_other _ _ hxk
  have hbn := h.bnd l
  rw [hb, List.nodup_cons] at hbn
  have hw : ∀ l' j, j ∈ wai' l' ↔ j < n ∧ (upd (upd m.th k t') x { m.th x with sta := 82 } j).sta = 87 ∧ (upd ρ k r' j).getLast? = some (l' : Int) := by
    intro l' j
    by_cases ex : j = x
    · subst ex
      rw [hthx, hρx]
      have hno : ¬ j ∈ m.wai l' := fun hm => by have := ((h.wai l' j).1 hm).2.1; omega
      constructor
      · intro hm
        rcases ht with ⟨_, _, rfl⟩ | ⟨_, _, rfl⟩
        · exact absurd hm hno
        · by_cases el : l' = l
          · subst el; simp only [upd_same] at hm
            rcases List.mem_append.1 hm with hm | hm
            · exact absurd hm hno
            · simp at hm; exact absurd hm hxk
          · simp only [upd_other _ _ el] at hm; exact absurd hm hno
      · rintro ⟨_, h1, _⟩; first | omega | (simp only at h1; omega)
    · rcases ht with ⟨a, b, rfl⟩ | ⟨a, b, rfl⟩
      · by_cases e : j = k
        · subst e; rw [hthk, upd_same, h.wai l' j]; constructor <;> (rintro ⟨_, h1, _⟩; omega)
        · rw [htho j e ex, upd_other _ _ e]; exact h.wai l' j
      · by_cases el : l' = l
        · subst el
          simp only [upd_same]
          by_cases e : j = k
          · subst e; rw [hthk]; simp only [upd_same]; simp [a, b, hk]
          · rw [htho j e ex, upd_other _ _ e, List.mem_append, h.wai l' j]; simp [e]
        · simp only [upd_other _ _ el]
          by_cases e : j = k
          · subst e; rw [hthk, upd_same, h.wai l' j]
            constructor
            · rintro ⟨_, h1, _⟩; omega
            · rintro ⟨_, _, h1⟩; rw [b] at h1; simp at h1; omega
          · rw [htho j e ex, upd_other _ _ e]; exact h.wai l' j
  have hwn : ∀ l', (wai' l').Nodup := by
    intro l'
    rcases ht with ⟨_, _, rfl⟩ | ⟨_, _, rfl⟩
    · exact h.wnd l'
    · by_cases el : l' = l
      · subst el; simp only [upd_same]
        rw [List.nodup_append]
        exact ⟨h.wnd l', by simp, fun x hx y hy => by simp at hy; subst hy; intro e; subst e; have := ((h.wai l' x).1 hx).2.1; omega⟩
      · simp only [upd_other _ _ el]; exact h.wnd l'
  have h68 : ¬ t'.sta = 68 := by omega
  exact {
    sta := fun j hj => by
      by_cases e : j = k
      · subst e; simp only [hthk]; omega
      · by_cases ex : j = x
        · subst ex; simp [hthx]
        · simp only [htho j e ex]; exact h.sta j hj
    at_ := fun j hj => by
      by_cases e : j = k
      · subst e; simp only [hthk, upd_same]; exact fun _ => hR
      · by_cases ex : j = x
        · subst ex; simp only [hthx, hρx]; exact fun _ => h.at_ j hj (by omega)
        · simp only [htho j e ex, upd_other _ _ e]; exact h.at_ j hj
    done := fun j hj => by
      by_cases e : j = k
      · subst e; simp only [hthk]; intro h1; exact absurd h1 h68
      · by_cases ex : j = x
        · subst ex; simp only [hthx]; intro h1; omega
        · simp only [htho j e ex, upd_other _ _ e]; exact h.done j hj
    ne := fun j hj => by
      by_cases e : j = k
      · subst e; simp only [hthk, upd_same]
        rcases ht with ⟨a, _, _⟩ | ⟨_, b, _⟩
        · intro h1; omega
        · intro _; rw [b]; simp
      · by_cases ex : j = x
        · subst ex; simp only [hthx]; intro h1; omega
        · simp only [htho j e ex, upd_other _ _ e]; exact h.ne j hj
    nums := fun j hj => by
      by_cases e : j = k
      · subst e; simp only [hthk]; exact hn
      · by_cases ex : j = x
        · subst ex; simp only [hthx]; exact h.nums j hj
        · simp only [htho j e ex]; exact h.nums j hj
    cells := h.cells
    own := fun l' j hj => by
      by_cases el : l' = l
      · subst el
        simp only [upd_same]
        by_cases ex : j = x
        · subst ex; simp only [hthx, hρx]; rw [owned_plain (.inl rfl), hrx]; simp
        · by_cases e : j = k
          · subst e; simp only [hthk, upd_same]; rw [ho]; constructor
            · intro e1; omega
            · intro e1; exact absurd e1 hlr
          · simp only [htho j e ex, upd_other _ _ e]
            have := h.own l' j hj
            rw [hlk] at this
            constructor
            · intro e1; omega
            · intro e1; have := this.2 e1; omega
      · simp only [upd_other _ _ el]
        by_cases ex : j = x
        · subst ex; simp only [hthx, hρx]
          rw [owned_plain (.inl rfl), h.own l' j hj, owned, if_pos (.inl hxs), hrx, List.dropLast_concat]
          simp; intro e1; omega
        · by_cases e : j = k
          · subst e; simp only [hthk, upd_same]; rw [ho, h.own l' j hj, owned_plain (.inl hs), hr]
            simp; intro e1; omega
          · simp only [htho j e ex, upd_other _ _ e]; exact h.own l' j hj
    who := fun l' => by
      by_cases el : l' = l
      · subst el; simp only [upd_same]; exact .inr ⟨x, hx, rfl⟩
      · simp only [upd_other _ _ el]; exact h.who l'
    blk := fun l' j => by
      by_cases ex : j = x
      · subst ex
        simp only [hthx, hρx]
        constructor
        · intro hm
          by_cases el : l' = l
          · subst el; simp only [upd_same] at hm; exact absurd hm hbn.1
          · simp only [upd_other _ _ el] at hm
            have := ((h.blk l' j).1 hm).2.2
            rw [hxr] at this; simp at this; omega
        · rintro ⟨_, h1, _⟩; first | omega | (simp only at h1; omega)
      · by_cases el : l' = l
        · subst el
          simp only [upd_same]
          have hq : j ∈ bs ↔ j ∈ m.blk l' := by rw [hb]; simp [ex]
          rw [hq, h.blk l' j]
          by_cases e : j = k
          · subst e; rw [hthk]; constructor <;> (rintro ⟨_, h1, _⟩; omega)
          · rw [htho j e ex, upd_other _ _ e]
        · simp only [upd_other _ _ el]
          rw [h.blk l' j]
          by_cases e : j = k
          · subst e; rw [hthk]; constructor <;> (rintro ⟨_, h1, _⟩; omega)
          · rw [htho j e ex, upd_other _ _ e]
    wai := hw
    bnd := fun l' => by
      by_cases el : l' = l
      · subst el; simp only [upd_same]; exact hbn.2
      · simp only [upd_other _ _ el]; exact h.bnd l'
    wnd := hwn
    has := fun l' hbb => by
      by_cases el : l' = l
      · subst el; simp only [upd_same]; omega
      · simp only [upd_other _ _ el] at hbb ⊢; exact h.has l' hbb
    qnd := by
      show (m.q ++ [x]).Nodup
      rw [List.nodup_append]
      exact ⟨h.qnd, by simp, fun y hy z hz => by simp at hz; subst hz; intro e; subst e; have := ((h.que y).1 hy).2.1; omega⟩
    que := fun j => by
      show j ∈ m.q ++ [x] ↔ _
      rw [List.mem_append, h.que j]
      by_cases ex : j = x
      · subst ex; simp only [hthx]; simp [hx, hkx]
      · by_cases e : j = k
        · subst e; simp [ex]
        · simp only [htho j e ex]; simp [ex] }

/-- It wakes the one that has waited longest at a lock that it holds. -/
theorem Inv.wakes {C : Nat → List In} {n k l x : Nat} {ρ : Nat → List Int} {m : Mac} {ws : List Nat} (h : Inv C n (some k) ρ m) (_hk : k < n) (hs : (m.th k).sta = 82) (hown : ¬ m.own l = -1) (hw : m.wai l = x :: ws) :
    Inv C n (some k) ρ { m with th := upd m.th x { m.th x with sta := 66, bat := l }, wai := upd m.wai l ws, blk := upd m.blk l (m.blk l ++ [x]) } := by
  obtain ⟨hx, hxs, hxr⟩ := (h.wai l x).1 (by rw [hw]; simp)
  have hxk : ¬ x = k := by intro e; subst e; omega
  have hwnd := h.wnd l
  rw [hw, List.nodup_cons] at hwnd
  exact {
    sta := fun j hj => by
      by_cases e : j = x
      · subst e; simp [upd_same]
      · simp only [upd_other _ _ e]; exact h.sta j hj
    at_ := fun j hj => by
      by_cases e : j = x
      · subst e; simp only [upd_same]; exact fun _ => h.at_ j hj (by omega)
      · simp only [upd_other _ _ e]; exact h.at_ j hj
    done := fun j hj => by
      by_cases e : j = x
      · subst e; simp only [upd_same]; intro h1; omega
      · simp only [upd_other _ _ e]; exact h.done j hj
    ne := fun j hj => by
      by_cases e : j = x
      · subst e; simp only [upd_same]; exact fun _ => h.ne j hj (.inr hxs)
      · simp only [upd_other _ _ e]; exact h.ne j hj
    nums := fun j hj => by
      by_cases e : j = x
      · subst e; simp only [upd_same]; exact h.nums j hj
      · simp only [upd_other _ _ e]; exact h.nums j hj
    cells := h.cells
    own := fun l' j hj => by
      by_cases e : j = x
      · subst e; simp only [upd_same]; rw [h.own l' j hj]; simp [owned, hxs]
      · simp only [upd_other _ _ e]; exact h.own l' j hj
    who := h.who
    blk := fun l' j => by
      by_cases el : l' = l
      · subst el
        simp only [upd_same]
        rw [List.mem_append, h.blk l' j]
        by_cases e : j = x
        · subst e; simp only [upd_same]; simp [hx, hxr]
        · simp only [upd_other _ _ e]; simp [e]
      · simp only [upd_other _ _ el]
        rw [h.blk l' j]
        by_cases e : j = x
        · subst e; simp only [upd_same]; rw [hxr]
          constructor
          · rintro ⟨_, h1, _⟩; omega
          · rintro ⟨_, _, h1⟩; simp at h1; omega
        · simp only [upd_other _ _ e]
    wai := fun l' j => by
      by_cases e : j = x
      · subst e; simp only [upd_same]
        constructor
        · intro hm
          by_cases el : l' = l
          · subst el; simp only [upd_same] at hm; exact absurd hm hwnd.1
          · simp only [upd_other _ _ el] at hm
            have := ((h.wai l' j).1 hm).2.2
            rw [hxr] at this; simp at this; omega
        · rintro ⟨_, h1, _⟩; first | omega | (simp only at h1; omega)
      · simp only [upd_other _ _ e]
        by_cases el : l' = l
        · subst el; simp only [upd_same]
          have hq : j ∈ ws ↔ j ∈ m.wai l' := by rw [hw]; simp [e]
          rw [hq]; exact h.wai l' j
        · simp only [upd_other _ _ el]; exact h.wai l' j
    bnd := fun l' => by
      by_cases el : l' = l
      · subst el; simp only [upd_same]
        rw [List.nodup_append]
        exact ⟨h.bnd l', by simp, fun y hy z hz => by simp at hz; subst hz; intro e; subst e; have := ((h.blk l' y).1 hy).2.1; omega⟩
      · simp only [upd_other _ _ el]; exact h.bnd l'
    wnd := fun l' => by
      by_cases el : l' = l
      · subst el; simp only [upd_same]; exact hwnd.2
      · simp only [upd_other _ _ el]; exact h.wnd l'
    has := fun l' hb => by
      by_cases el : l' = l
      · subst el; exact hown
      · simp only [upd_other _ _ el] at hb; exact h.has l' hb
    qnd := h.qnd
    que := fun j => by
      by_cases e : j = x
      · subst e; simp only [upd_same]; rw [h.que j]; constructor <;> (rintro ⟨_, h1, _⟩; omega)
      · simp only [upd_other _ _ e]; exact h.que j }

end Go.Proofs.Ytjbmflgamogefab
