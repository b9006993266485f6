/- The reference's act, by all letters. -/
import Derived.Test.YtjbmflgamogefabGreatMnA
import Derived.Test.YtjbmflgamogefabGreatGr
namespace Go.Proofs.YtjbmflgamogefabGreat
open Go.RowKit

/-- The same, as far as the reference's machine holds it. -/
structure Lik (m m' : Mac) : Prop where
  th : ∀ k, (m'.th k).pc = (m.th k).pc ∧ (m'.th k).stk = (m.th k).stk ∧ (m'.th k).sta = (m.th k).sta ∧ (m'.th k).wake = (m.th k).wake
  q : m'.q = m.q
  cells : m'.cells = m.cells
  own : m'.own = m.own
  blk : m'.blk = m.blk
  wai : m'.wai = m.wai
  out : m'.out = m.out
  trc : m'.trc = m.trc
theorem Lik.refl (m : Mac) : Lik m m := ⟨fun _ => ⟨rfl, rfl, rfl, rfl⟩, rfl, rfl, rfl, rfl, rfl, rfl, rfl⟩
theorem MachAt.lik {w : World} {n : Nat} {Y : Lay} {m m' : Mac} {log : ByteArray} (h : MachAt w n Y m log) (k : Lik m m') : MachAt w n Y m' log := h.like k.th k.q k.cells k.own k.blk k.wai k.out k.trc
theorem glueR {cs : Cods} {Y : Lay} {m m2 : Mac} {n k : Nat} {q c a : Int} {log : ByteArray} {w : World} (hc : Calls Tryz.prog 44 #[.pointer (some ⟨Y.b, 0, none⟩), .int .i64 k, .int .i64 q] w fun e w' => e = .returned (.int .u8 c) ∧ ∃ Y', MachAt w' n Y' m2 log ∧ Fr Y Y' w w') (hins : insAt (codesOf cs) m k = (c, a)) (hl : Lik m2 (actOn m k q c a)) :
    Calls Tryz.prog 44 #[.pointer (some ⟨Y.b, 0, none⟩), .int .i64 k, .int .i64 q] w fun e w' => e = .returned (.int .u8 (insAt (codesOf cs) m k).1) ∧ ∃ Y', MachAt w' n Y' (actM (codesOf cs) m k q) log ∧ Fr Y Y' w w' := by
  refine hc.mono ?_
  rintro e w' ⟨rfl, Y', h1, h2⟩
  rw [hins]
  refine ⟨rfl, Y', ?_, h2⟩
  unfold actM
  rw [hins]
  exact h1.lik hl
theorem nextR_th (m : Mac) (k : Nat) : (nextR m k).th k = { m.th k with pc := (m.th k).pc + 1 } := by simp only [nextR, stepTh, upd_same]

/-- What is known of the codes. -/
structure RGood (cs : Cods) (n : Nat) : Prop where
  len : cs.length = n
  fine : Fine (codesOf cs) n
  n4 : n ≤ 4
  short : ∀ k, (codesOf cs k).length ≤ 900
  lets : ∀ k x, x ∈ codesOf cs k → isLet x.1 = true
set_option maxHeartbeats 1000000 in
theorem r_act (base : Nat) (cs : Cods) (Y : Lay) (m : Mac) (n k : Nat) (q : Int) (ρ : Nat → List Int) (log : ByteArray) (w : World) (h : RM base cs w n Y m log) (hG : RGood cs n) (hk : k < n) (hI : Inv (codesOf cs) n (some k) ρ m) (hs : (m.th k).sta = 82) (ho : m.out.length ≤ 100000) (hq : 0 ≤ q ∧ q < 1000) :
    Calls Tryz.prog 44 #[.pointer (some ⟨Y.b, 0, none⟩), .int .i64 k, .int .i64 q] w fun e w' => e = .returned (.int .u8 (insAt (codesOf cs) m k).1) ∧ ∃ Y', MachAt w' n Y' (actM (codesOf cs) m k q) log ∧ Fr Y Y' w w' := by
  obtain ⟨hcl, hF, hn, hN, hLet⟩ := hG
  obtain ⟨c, a, hca, hins, hlt, ha0, ha1, hok, hsb, hlb, _⟩ := at_ins hF hI hk (by omega)
  obtain ⟨⟨st, I⟩, hx, _, hxI⟩ := codes_mem (cs := cs) (k := k) (by omega)
  rw [hxI] at hca
  have hpc : (m.th k).pc < 1000 := by have := hN k; omega
  have hst := stk_ok hsb
  have hht : ((m.th k).stk.length : Int) ≤ 6 := ((hI.at_ k hk (by omega)).valid (hF.ok k hk)).2.2.2.1
  have hnum := hI.nums k hk
  obtain ⟨lq, lb, lw⟩ := hI.lens
  have hal : ((a.toNat : Nat) : Int) = a := by omega
  have hstk : ((nextR m k).th k).stk = (m.th k).stk := by rw [nextR_th]
  have hno : ∀ x : Int, ¬ c = x → (c == x) = false := fun x hx => by simp [hx]
  by_cases c1 : c = 107
  · subst c1
    refine glueR (r_act_plain base cs Y m (pushM (nextR m k) k a) n k q 107 a st I log w h hk hx hca hpc ⟨by decide, by decide, by decide, by decide, by decide, by decide, by decide⟩ (fun Y2 w2 p e2 h2 => ?_)) hins ⟨fun j => by by_cases e : j = k <;> simp [actOn, nextR, stepTh, pushM, upd, e], rfl, rfl, rfl, rfl, rfl, rfl, rfl⟩
    have := r_plain_k Y2 _ n k a p log w2 h2 hk hn (by rw [hstk]; omega)
    rw [e2] at this; exact this
  by_cases c2 : c = 103
  · subst c2
    have h8 : a.toNat < 8 := by simp [argOk] at hok; omega
    refine glueR (r_act_plain base cs Y m (pushM (nextR m k) k (m.cells a.toNat)) n k q 103 a st I log w h hk hx hca hpc ⟨by decide, by decide, by decide, by decide, by decide, by decide, by decide⟩ (fun Y2 w2 p e2 h2 => ?_)) hins ⟨fun j => by by_cases e : j = k <;> simp [actOn, nextR, stepTh, pushM, upd, e], rfl, rfl, rfl, rfl, rfl, rfl, rfl⟩
    have := r_plain_g Y2 _ n k a.toNat p log w2 h2 hk hn h8 (by rw [hstk]; omega)
    rw [e2, hal] at this; exact this
  by_cases c3 : c = 115
  · subst c3
    have e1 : tk 115 = 1 := by decide
    rw [e1] at hst
    have h8 : a.toNat < 8 := by simp [argOk] at hok; omega
    have hne : ¬ (m.th k).stk = [] := stk_ne (by omega)
    refine glueR (r_act_plain base cs Y m { popM (nextR m k) k with cells := upd m.cells a.toNat (topOf (m.th k).stk) } n k q 115 a st I log w h hk hx hca hpc ⟨by decide, by decide, by decide, by decide, by decide, by decide, by decide⟩ (fun Y2 w2 p e2 h2 => ?_)) hins ⟨fun j => by by_cases e : j = k <;> simp [actOn, nextR, stepTh, popM, upd, e], rfl, rfl, rfl, rfl, rfl, rfl, rfl⟩
    have := r_plain_s Y2 _ n k a.toNat p log w2 h2 hk hn h8 (by rw [hstk]; exact hne) (by rw [hstk]; omega)
    rw [e2, hal, hstk] at this; exact this
  by_cases c4 : c = 112
  · subst c4
    have e1 : tk 112 = 1 := by decide
    rw [e1] at hst
    have hne : ¬ (m.th k).stk = [] := stk_ne (by omega)
    have ht := hnum _ (top_mem hne)
    refine glueR (r_act_plain base cs Y m { popM (nextR m k) k with out := m.out ++ dig3 (topOf (m.th k).stk) } n k q 112 a st I log w h hk hx hca hpc ⟨by decide, by decide, by decide, by decide, by decide, by decide, by decide⟩ (fun Y2 w2 p e2 h2 => ?_)) hins ⟨fun j => by by_cases e : j = k <;> simp [actOn, nextR, stepTh, popM, upd, e], rfl, rfl, rfl, rfl, rfl, rfl, rfl⟩
    have := r_plain_p Y2 _ n k a p log w2 h2 hk hn (by rw [hstk]; exact hne) (by rw [hstk]; exact ht.1) (by rw [hstk]; exact ht.2) (by show m.out.length ≤ 1000000; omega) (by rw [hstk]; omega)
    rw [e2, hstk] at this; exact this
  by_cases c5 : c = 43
  · subst c5
    have e1 : tk 43 = 2 := by decide
    rw [e1] at hst
    refine glueR (r_act_plain base cs Y m (pushM (popM (popM (nextR m k) k) k) k ((topOf (m.th k).stk.dropLast + topOf (m.th k).stk) % 1000)) n k q 43 a st I log w h hk hx hca hpc ⟨by decide, by decide, by decide, by decide, by decide, by decide, by decide⟩ (fun Y2 w2 p e2 h2 => ?_)) hins ⟨fun j => by by_cases e : j = k <;> simp [actOn, nextR, stepTh, popM, pushM, upd, e], rfl, rfl, rfl, rfl, rfl, rfl, rfl⟩
    have := r_plain_add Y2 _ n k a p log w2 h2 hk hn (by rw [hstk]; exact stk_ne (by omega)) (by rw [hstk]; exact stk_ne2 (by omega)) (by rw [hstk]; exact hnum) (by rw [hstk]; omega)
    rw [e2, hstk] at this; exact this
  by_cases c6 : c = 45
  · subst c6
    have e1 : tk 45 = 2 := by decide
    rw [e1] at hst
    refine glueR (r_act_plain base cs Y m (pushM (popM (popM (nextR m k) k) k) k ((topOf (m.th k).stk.dropLast - topOf (m.th k).stk + 1000) % 1000)) n k q 45 a st I log w h hk hx hca hpc ⟨by decide, by decide, by decide, by decide, by decide, by decide, by decide⟩ (fun Y2 w2 p e2 h2 => ?_)) hins ⟨fun j => by by_cases e : j = k <;> simp [actOn, nextR, stepTh, popM, pushM, upd, e], rfl, rfl, rfl, rfl, rfl, rfl, rfl⟩
    have := r_plain_sub Y2 _ n k a p log w2 h2 hk hn (by rw [hstk]; exact stk_ne (by omega)) (by rw [hstk]; exact stk_ne2 (by omega)) (by rw [hstk]; exact hnum) (by rw [hstk]; omega)
    rw [e2, hstk] at this; exact this
  by_cases c7 : c = 74
  · subst c7
    refine glueR (r_act_plain base cs Y m (stepTh (nextR m k) k { (nextR m k).th k with pc := a.toNat }) n k q 74 a st I log w h hk hx hca hpc ⟨by decide, by decide, by decide, by decide, by decide, by decide, by decide⟩ (fun Y2 w2 p e2 h2 => ?_)) hins ⟨fun j => by by_cases e : j = k <;> simp [actOn, nextR, stepTh, upd, e], rfl, rfl, rfl, rfl, rfl, rfl, rfl⟩
    have := r_plain_J Y2 _ n k a.toNat p log w2 h2 hk
    rw [e2, hal] at this; exact this
  by_cases c8 : c = 90
  · subst c8
    have e1 : tk 90 = 1 := by decide
    rw [e1] at hst
    have hne : ¬ (m.th k).stk = [] := stk_ne (by omega)
    by_cases hz : topOf (m.th k).stk = 0
    · refine glueR (r_act_plain base cs Y m (stepTh (popM (nextR m k) k) k { (popM (nextR m k) k).th k with pc := a.toNat }) n k q 90 a st I log w h hk hx hca hpc ⟨by decide, by decide, by decide, by decide, by decide, by decide, by decide⟩ (fun Y2 w2 p e2 h2 => ?_)) hins ⟨fun j => by by_cases e : j = k <;> simp [actOn, nextR, stepTh, popM, upd, e, hz], rfl, rfl, rfl, rfl, rfl, rfl, rfl⟩
      have := r_plain_Z1 Y2 _ n k a.toNat p log w2 h2 hk hn (by rw [hstk]; exact hne) (by rw [hstk]; exact hz) (by rw [hstk]; omega)
      rw [e2, hal] at this; exact this
    · refine glueR (r_act_plain base cs Y m (popM (nextR m k) k) n k q 90 a st I log w h hk hx hca hpc ⟨by decide, by decide, by decide, by decide, by decide, by decide, by decide⟩ (fun Y2 w2 p e2 h2 => ?_)) hins ⟨fun j => by by_cases e : j = k <;> simp [actOn, nextR, stepTh, popM, upd, e, hz], rfl, rfl, rfl, rfl, rfl, rfl, rfl⟩
      have := r_plain_Z0 Y2 _ n k a p log w2 h2 hk hn (by rw [hstk]; exact hne) (by rw [hstk]; exact hz) (by rw [hstk]; omega)
      rw [e2] at this; exact this
  by_cases c9 : c = 65
  · subst c9
    have h4 : a.toNat < 4 := by simp [argOk] at hok; omega
    by_cases hw : m.own a.toNat < 0
    · have e9 : actOn m k q 65 a = { stepTh m k { m.th k with pc := (m.th k).pc + 1 } with own := upd m.own a.toNat (k : Int) } := by simp [actOn, hw]
      refine glueR (r_act_lock base cs Y m { nextR m k with own := upd m.own a.toNat (k : Int) } n k q 65 a st I log w h hk hx hca hpc (.inl rfl) (fun Y2 w2 p e2 h2 => ?_)) hins (by rw [e9]; exact Lik.refl _)
      have := r_locked_A0 Y2 _ n k a.toNat p log w2 h2 h4 hw
      rw [e2, hal] at this; exact this
    · have e9 : actOn m k q 65 a = { stepTh m k { m.th k with pc := (m.th k).pc + 1, sta := 66, bat := a.toNat } with blk := upd m.blk a.toNat (m.blk a.toNat ++ [k]) } := by simp [actOn, hw]
      refine glueR (r_act_lock base cs Y m { nextR m k with th := upd (nextR m k).th k { (nextR m k).th k with sta := 66 }, blk := upd m.blk a.toNat (m.blk a.toNat ++ [k]) } n k q 65 a st I log w h hk hx hca hpc (.inl rfl) (fun Y2 w2 p e2 h2 => ?_)) hins (by rw [e9]; exact ⟨fun j => by by_cases e : j = k <;> simp [nextR, stepTh, upd, e], rfl, rfl, rfl, rfl, rfl, rfl, rfl⟩)
      have := r_locked_A1 Y2 _ n k a.toNat p log w2 h2 hk hn h4 hw (by show (m.blk a.toNat).length ≤ 1000; have := lb a.toNat; omega)
      rw [e2, hal] at this; exact this
  by_cases c10 : c = 82
  · subst c10
    have h4 : a.toNat < 4 := by simp [argOk] at hok; omega
    refine glueR (r_act_lock base cs Y m (giveM (nextR m k) a.toNat) n k q 82 a st I log w h hk hx hca hpc (.inr (.inl rfl)) (fun Y2 w2 p e2 h2 => ?_)) hins (Lik.refl _)
    have := r_locked_R Y2 _ n k a.toNat p log w2 h2 hn h4 (fun x hx => ((hI.blk a.toNat x).1 hx).1) (by show (m.blk a.toNat).length ≤ 1000; have := lb a.toNat; omega) (by show m.q.length ≤ 1000; omega)
    rw [e2, hal] at this; exact this
  by_cases c11 : c = 87
  · subst c11
    have h4 : a.toNat < 4 := by simp [argOk] at hok; omega
    refine glueR (r_act_lock base cs Y m (waitM (giveM (nextR m k) a.toNat) k a.toNat) n k q 87 a st I log w h hk hx hca hpc (.inr (.inr (.inl rfl))) (fun Y2 w2 p e2 h2 => ?_)) hins (Lik.refl _)
    have := r_locked_W Y2 _ n k a.toNat p log w2 h2 hk hn h4 (fun x hx => ((hI.blk a.toNat x).1 hx).1) (by show (m.blk a.toNat).length ≤ 1000; have := lb a.toNat; omega) (by show (m.wai a.toNat).length ≤ 1000; have := lw a.toNat; omega) (by show m.q.length ≤ 1000; omega)
    rw [e2, hal] at this; exact this
  by_cases c12 : c = 78
  · subst c12
    have h4 : a.toNat < 4 := by simp [argOk] at hok; omega
    have e12 : actOn m k q 78 a = noteM (nextR m k) a.toNat := rfl
    cases hw : m.wai a.toNat with
    | nil =>
      refine glueR (r_act_lock base cs Y m (nextR m k) n k q 78 a st I log w h hk hx hca hpc (.inr (.inr (.inr rfl))) (fun Y2 w2 p e2 h2 => ?_)) hins (by
        rw [e12]; unfold noteM; rw [show (nextR m k).wai a.toNat = [] from hw]; exact Lik.refl _)
      have := r_locked_N0 Y2 _ n k a.toNat p log w2 h2 h4 hw
      rw [e2, hal] at this; exact this
    | cons x r =>
      have hxn : x < n := ((hI.wai a.toNat x).1 (by rw [hw]; simp)).1
      have hr := lw a.toNat
      rw [hw] at hr
      simp at hr
      refine glueR (r_act_lock base cs Y m { nextR m k with th := upd (nextR m k).th x { (nextR m k).th x with sta := 66 }, wai := upd m.wai a.toNat r, blk := upd m.blk a.toNat (m.blk a.toNat ++ [x]) } n k q 78 a st I log w h hk hx hca hpc (.inr (.inr (.inr rfl))) (fun Y2 w2 p e2 h2 => ?_)) hins (by
        rw [e12]; unfold noteM; rw [show (nextR m k).wai a.toNat = x :: r from hw]; exact ⟨fun j => by by_cases e : j = x <;> simp [upd, e], rfl, rfl, rfl, rfl, rfl, rfl, rfl⟩)
      have := r_locked_N1 Y2 _ n k a.toNat x r p log w2 h2 hn h4 hw hxn (by omega) (by show (m.blk a.toNat).length ≤ 1000; have := lb a.toNat; omega)
      rw [e2, hal] at this; exact this
  by_cases c13 : c = 84
  · exact glueR (r_act_T base cs Y m n k q c a st I log w h hk hx hca hpc c13 hq ⟨ha0, ha1⟩) hins (by subst c13; exact Lik.refl _)
  by_cases c14 : c = 88
  · exact glueR (r_act_X base cs Y m n k q c a st I log w h hk hx hca hpc c14) hins (by subst c14; exact Lik.refl _)
  by_cases c15 : c = 89
  · exact glueR (r_act_Y base cs Y m n k q c a st I log w h hk hx hca hpc c15) hins (by subst c15; exact Lik.refl _)
  · exfalso
    have := hLet k (c, a) (by rw [hxI]; exact List.mem_of_getElem? hca)
    simp only [isLet, Bool.or_eq_true, beq_iff_eq] at this
    omega

end Go.Proofs.YtjbmflgamogefabGreat
