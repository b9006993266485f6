/- The reference's machine with its codes; act. -/
import Derived.Test.YtjbmflgamogefabGreatMmR
import Derived.Test.YtjbmflgamogefabGreatRRead
import Derived.Test.YtjbmflgamogefabGreatMachA
namespace Go.Proofs.YtjbmflgamogefabGreat
open Go.RowKit

/-- What the reference's machine does not hold: the noted locks, and the log as the code has it. -/
theorem MachAt.like {w : World} {n : Nat} {Y : Lay} {m m' : Mac} {log : ByteArray} (h : MachAt w n Y m log) (ht : ∀ k, (m'.th k).pc = (m.th k).pc ∧ (m'.th k).stk = (m.th k).stk ∧ (m'.th k).sta = (m.th k).sta ∧ (m'.th k).wake = (m.th k).wake)
    (hq : m'.q = m.q) (hc : m'.cells = m.cells) (ho : m'.own = m.own) (hb : m'.blk = m.blk) (hw : m'.wai = m.wai) (hu : m'.out = m.out) (hr : m'.trc = m.trc) : MachAt w n Y m' log := by
  have e : ∀ i, cont m' i = cont m i := fun i => by
    unfold cont; rw [hq, hc, ho, hb, hw, (ht (i - 3)).2.1]
  obtain ⟨c, t1, t2⟩ := h.thr
  refine ⟨by rw [hu, hr]; exact h.self, ⟨c, t1, fun k hk => ?_⟩, h.brow, h.wrow, h.gbw, fun i hi => by rw [e]; exact h.sl i hi, h.dis⟩
  obtain ⟨a1, a2, a3, a4⟩ := ht k
  rw [a1, a3, a4]; exact t2 k hk
/-- The codes lie below base. -/
def CodP (base : Nat) (w : World) (v : Value) (cs : Cods) : Prop := ∃ ao cap, v = .slice ao cs.length cap ∧ ∀ (k st : Nat) (I : List In), cs[k]? = some (st, I) → ∃ g la lcap, ao = some ⟨g, 0, none⟩ ∧ g < base ∧ w.cell? ⟨g, k * 2, none⟩ = some (.slice la I.length lcap) ∧
  ∀ (j : Nat) (c a : Int), I[j]? = some (c, a) → ∃ h, la = some ⟨h, 0, none⟩ ∧ h < base ∧ w.cell? ⟨h, j * 3, none⟩ = some (.int .u8 c) ∧ w.cell? ⟨h, j * 3 + 1, none⟩ = some (.int .i64 a) ∧ w.cell? ⟨h, j * 3 + 2, none⟩ = some (.int .i64 ((st : Int) + 3 * j))
theorem CodsAt.toP {w : World} {v : Value} {cs : Cods} (h : CodsAt w 0 v cs) : CodP w.heap.size w v cs := by
  obtain ⟨ao, cap, rfl⟩ := h.slice
  refine ⟨ao, cap, rfl, fun k st I hk => ?_⟩
  obtain ⟨g, lv, h1, h2, h3, _, h5⟩ := h.at hk
  obtain ⟨la, lcap, rfl⟩ := row_slice h5
  refine ⟨g, la, lcap, h1, h2, h3, fun j c a hj => ?_⟩
  obtain ⟨gi, e1, e2, e3, e4, e5⟩ := h5.at hj
  exact ⟨gi, e1, e2, e3, e4, e5⟩
theorem CodP.below {base : Nat} {w w' : World} {v : Value} {cs : Cods} (h : CodP base w v cs) (hb : Below base w w') : CodP base w' v cs := by
  obtain ⟨ao, cap, rfl, h1⟩ := h
  refine ⟨ao, cap, rfl, fun k st I hk => ?_⟩
  obtain ⟨g, la, lcap, a1, a2, a3, a4⟩ := h1 k st I hk
  refine ⟨g, la, lcap, a1, a2, by rw [hb.cell (p := ⟨g, k * 2, none⟩) a2]; exact a3, fun j c a hj => ?_⟩
  obtain ⟨h, b1, b2, b3, b4, b5⟩ := a4 j c a hj
  exact ⟨h, b1, b2, by rw [hb.cell (p := ⟨h, j * 3, none⟩) b2]; exact b3, by rw [hb.cell (p := ⟨h, j * 3 + 1, none⟩) b2]; exact b4, by rw [hb.cell (p := ⟨h, j * 3 + 2, none⟩) b2]; exact b5⟩
/-- The machine and its codes. -/
structure RM (base : Nat) (cs : Cods) (w : World) (n : Nat) (Y : Lay) (m : Mac) (log : ByteArray) : Prop where
  at_ : MachAt w n Y m log
  low : ∀ j, InY Y j → base ≤ j
  sz : base ≤ w.heap.size
  cod : CodP base w Y.cv cs
theorem RM.fr {base : Nat} {cs : Cods} {w w' : World} {n : Nat} {Y Y' : Lay} {m : Mac} {log : ByteArray} (h : RM base cs w n Y m log) (hf : Fr Y Y' w w') : Below base w w' :=
  ⟨hf.os, hf.tape, hf.output, hf.size, fun j hj => hf.block j (by have := h.sz; omega) (fun hi => by have := h.low j hi; omega)⟩
theorem RM.step {base : Nat} {cs : Cods} {w w' : World} {n : Nat} {Y Y' : Lay} {m m' : Mac} {log log' : ByteArray} (h : RM base cs w n Y m log) (hm : MachAt w' n Y' m' log') (hf : Fr Y Y' w w') : RM base cs w' n Y' m' log' := by
  refine ⟨hm, fun j hj => ?_, Nat.le_trans h.sz hf.size, ?_⟩
  · rcases hf.fresh j hj with h1 | h1
    · exact h.low j h1
    · have := h.sz; omega
  · rw [hf.same.2.2.2.2.2]; exact h.cod.below (h.fr hf)
/-- Where an instruction lies. -/
theorem RM.ins {base : Nat} {cs : Cods} {w : World} {n : Nat} {Y : Lay} {m : Mac} {log : ByteArray} (h : RM base cs w n Y m log) {k st : Nat} {I : List In} {j : Nat} {c a : Int} (hk : cs[k]? = some (st, I)) (hj : I[j]? = some (c, a)) :
    ∃ g cap h lcap, Y.cv = .slice (some ⟨g, 0, none⟩) cs.length cap ∧ w.cell? ⟨g, k * 2, none⟩ = some (.slice (some ⟨h, 0, none⟩) I.length lcap) ∧ w.cell? ⟨h, j * 3, none⟩ = some (.int .u8 c) ∧ w.cell? ⟨h, j * 3 + 1, none⟩ = some (.int .i64 a) ∧ w.cell? ⟨h, j * 3 + 2, none⟩ = some (.int .i64 ((st : Int) + 3 * j)) ∧ g < w.heap.size ∧ h < w.heap.size := by
  obtain ⟨ao, cap, e, h1⟩ := h.cod
  obtain ⟨g, la, lcap, rfl, a2, a3, a4⟩ := h1 k st I hk
  obtain ⟨hh, rfl, b2, b3, b4, b5⟩ := a4 j c a hj
  have := h.sz
  exact ⟨g, cap, hh, lcap, e, a3, b3, b4, b5, by omega, by omega⟩
def nextR (m : Mac) (k : Nat) : Mac := stepTh m k { m.th k with pc := (m.th k).pc + 1 }

theorem fetchR {w : World} {n k : Nat} {Y : Lay} {m : Mac} {log : ByteArray} {c a p : Int} (h : MachAt w n Y m log) (hk : k < n) :
    let W := ((w.setCell ⟨Y.gt, k * 4, none⟩ (.int .i64 (((m.th k).pc : Int) + 1))).alloc (.cells #[.int .u8 c, .int .i64 a, .int .i64 p] 63)).drew
    MachAt W n Y (nextR m k) log ∧ Fr Y Y w W ∧ Own W Y w.heap.size #[.int .u8 c, .int .i64 a, .int .i64 p] 63 := by
  obtain ⟨p1, r1⟩ := h.setTh (k := k) (o := 0) (u := .int .i64 (((m.th k).pc : Int) + 1)) (t := { m.th k with pc := (m.th k).pc + 1 }) hk (.inl rfl) (.inl ⟨rfl, by simp, rfl⟩) rfl rfl
  have hb : Below (w.setCell ⟨Y.gt, k * 4, none⟩ (.int .i64 (((m.th k).pc : Int) + 1))).heap.size (w.setCell ⟨Y.gt, k * 4, none⟩ (.int .i64 (((m.th k).pc : Int) + 1))) ((w.setCell ⟨Y.gt, k * 4, none⟩ (.int .i64 (((m.th k).pc : Int) + 1))).alloc (.cells #[.int .u8 c, .int .i64 a, .int .i64 p] 63)).drew := keep_ad
  have ho := own_new p1 #[.int .u8 c, .int .i64 a, .int .i64 p] 63
  rw [show (w.setCell ⟨Y.gt, k * 4 + 0, none⟩ (.int .i64 (((m.th k).pc : Int) + 1))).heap.size = w.heap.size by simp [World.setCell]] at ho
  exact ⟨p1.below hb, r1.trans (Fr.of_below hb), ho⟩

set_option maxRecDepth 100000 in
set_option maxHeartbeats 2000000 in
theorem r_act_lock (base : Nat) (cs : Cods) (Y : Lay) (m m2 : Mac) (n k : Nat) (q c a : Int) (st : Nat) (I : List In) (log : ByteArray) (w : World) (h : RM base cs w n Y m log) (hk : k < n) (hcs : cs[k]? = some (st, I)) (hj : I[(m.th k).pc]? = some (c, a)) (hpc : (m.th k).pc < 1000) (hc : c = 65 ∨ c = 82 ∨ c = 87 ∨ c = 78)
    (HX : Hid (∀ Y2 w2 p, Y2.b = Y.b → MachAt w2 n Y2 (nextR m k) log → Calls Tryz.prog 65 #[.pointer (some ⟨Y.b, 0, none⟩), .int .i64 k, .agg #[.int .u8 c, .int .i64 a, .int .i64 p]] w2 fun e w' => e = .returned (.tuple #[]) ∧ ∃ Y', MachAt w' n Y' m2 log ∧ Fr Y2 Y' w2 w')) :
    Calls Tryz.prog 44 #[.pointer (some ⟨Y.b, 0, none⟩), .int .i64 k, .int .i64 q] w fun e w' => e = .returned (.int .u8 c) ∧ ∃ Y', MachAt w' n Y' m2 log ∧ Fr Y Y' w w' := by
  obtain ⟨g, cap, hh, lcap, ecv, d0, d1, d2, d3, d4, d5⟩ := h.ins hcs hj
  have f0 := h.at_.fields.1
  rw [ecv] at f0
  have f1 := h.at_.fields.2.1
  have f2 := h.at_.fields.2.2.2.2.2.2.2.2.2.2
  obtain ⟨z0, _, _, _, z1⟩ := h.at_.cellT hk
  have z2 := z1 (k * 4)
  have z3 : Y.gt < w.heap.size := h.at_.lt (.inr (.inl rfl))
  have hlk : k < cs.length := (List.getElem?_eq_some_iff.1 hcs).1
  have hlj : (m.th k).pc < I.length := (List.getElem?_eq_some_iff.1 hj).1
  have HM := hide h.at_
  have F := hide (fetchR (c := c) (a := a) (p := (st : Int) + 3 * ((m.th k).pc : Int)) h.at_ hk)
  clear h z1 hcs hj ecv
  generalize hpcE : (m.th k).pc = pc at *
  go_enter Tryz.func44, Tryz.ntmps44
  go_wp2
  go_region
  obtain ⟨mA, fA, oA⟩ := F.out
  obtain ⟨x0, x1, x2⟩ := oA.in3
  have MA := hide mA
  have FA := hide fA
  have OA := hide oA
  clear mA fA oA
  rcases hc with rfl | rfl | rfl | rfl
  all_goals
    go_wp2_with fail
    refine (HX.out Y _ _ rfl MA.out).mono ?_
    rintro e w3 ⟨rfl, Y3, a3, b3⟩
    obtain ⟨y0, _, _⟩ := (OA.out.step b3).in3
    have A3 := hide a3
    have B3 := hide (FA.out.trans b3)
    clear a3 b3
    go_wp2_with fail
    go_ret
    exact ⟨rfl, Y3, A3.out, B3.out⟩


set_option maxRecDepth 100000 in
set_option maxHeartbeats 2000000 in
theorem r_act_plain (base : Nat) (cs : Cods) (Y : Lay) (m m2 : Mac) (n k : Nat) (q c a : Int) (st : Nat) (I : List In) (log : ByteArray) (w : World) (h : RM base cs w n Y m log) (hk : k < n) (hcs : cs[k]? = some (st, I)) (hj : I[(m.th k).pc]? = some (c, a)) (hpc : (m.th k).pc < 1000) (hc : (c == 65) = false ∧ (c == 82) = false ∧ (c == 87) = false ∧ (c == 78) = false ∧ (c == 84) = false ∧ (c == 88) = false ∧ (c == 89) = false)
    (HX : Hid (∀ Y2 w2 p, Y2.b = Y.b → MachAt w2 n Y2 (nextR m k) log → Calls Tryz.prog 66 #[.pointer (some ⟨Y.b, 0, none⟩), .int .i64 k, .agg #[.int .u8 c, .int .i64 a, .int .i64 p]] w2 fun e w' => e = .returned (.tuple #[]) ∧ ∃ Y', MachAt w' n Y' m2 log ∧ Fr Y2 Y' w2 w')) :
    Calls Tryz.prog 44 #[.pointer (some ⟨Y.b, 0, none⟩), .int .i64 k, .int .i64 q] w fun e w' => e = .returned (.int .u8 c) ∧ ∃ Y', MachAt w' n Y' m2 log ∧ Fr Y Y' w w' := by
  obtain ⟨g, cap, hh, lcap, ecv, d0, d1, d2, d3, d4, d5⟩ := h.ins hcs hj
  have f0 := h.at_.fields.1
  rw [ecv] at f0
  have f1 := h.at_.fields.2.1
  have f2 := h.at_.fields.2.2.2.2.2.2.2.2.2.2
  obtain ⟨z0, _, _, _, z1⟩ := h.at_.cellT hk
  have z2 := z1 (k * 4)
  have z3 : Y.gt < w.heap.size := h.at_.lt (.inr (.inl rfl))
  have hlk : k < cs.length := (List.getElem?_eq_some_iff.1 hcs).1
  have hlj : (m.th k).pc < I.length := (List.getElem?_eq_some_iff.1 hj).1
  have HM := hide h.at_
  have F := hide (fetchR (c := c) (a := a) (p := (st : Int) + 3 * ((m.th k).pc : Int)) h.at_ hk)
  clear h z1 hcs hj ecv
  generalize hpcE : (m.th k).pc = pc at *
  go_enter Tryz.func44, Tryz.ntmps44
  go_wp2
  go_region
  obtain ⟨mA, fA, oA⟩ := F.out
  obtain ⟨x0, x1, x2⟩ := oA.in3
  have MA := hide mA
  have FA := hide fA
  have OA := hide oA
  clear mA fA oA
  obtain ⟨h1, h2, h3, h4, h5, h6, h7⟩ := hc
  go_wp2_with fail
  refine (HX.out Y _ _ rfl MA.out).mono ?_
  rintro e w3 ⟨rfl, Y3, a3, b3⟩
  obtain ⟨y0, _, _⟩ := (OA.out.step b3).in3
  have A3 := hide a3
  have B3 := hide (FA.out.trans b3)
  clear a3 b3
  go_wp2_with fail
  go_ret
  exact ⟨rfl, Y3, A3.out, B3.out⟩


set_option maxRecDepth 100000 in
set_option maxHeartbeats 2000000 in
theorem r_act_Y (base : Nat) (cs : Cods) (Y : Lay) (m : Mac) (n k : Nat) (q c a : Int) (st : Nat) (I : List In) (log : ByteArray) (w : World) (h : RM base cs w n Y m log) (hk : k < n) (hcs : cs[k]? = some (st, I)) (hj : I[(m.th k).pc]? = some (c, a)) (hpc : (m.th k).pc < 1000) (hc : c = 89) :
    Calls Tryz.prog 44 #[.pointer (some ⟨Y.b, 0, none⟩), .int .i64 k, .int .i64 q] w fun e w' => e = .returned (.int .u8 c) ∧ ∃ Y', MachAt w' n Y' (nextR m k) log ∧ Fr Y Y' w w' := by
  obtain ⟨g, cap, hh, lcap, ecv, d0, d1, d2, d3, d4, d5⟩ := h.ins hcs hj
  have f0 := h.at_.fields.1
  rw [ecv] at f0
  have f1 := h.at_.fields.2.1
  have f2 := h.at_.fields.2.2.2.2.2.2.2.2.2.2
  obtain ⟨z0, _, _, _, z1⟩ := h.at_.cellT hk
  have z2 := z1 (k * 4)
  have z3 : Y.gt < w.heap.size := h.at_.lt (.inr (.inl rfl))
  have hlk : k < cs.length := (List.getElem?_eq_some_iff.1 hcs).1
  have hlj : (m.th k).pc < I.length := (List.getElem?_eq_some_iff.1 hj).1
  have HM := hide h.at_
  have F := hide (fetchR (c := c) (a := a) (p := (st : Int) + 3 * ((m.th k).pc : Int)) h.at_ hk)
  clear h z1 hcs hj ecv
  generalize hpcE : (m.th k).pc = pc at *
  go_enter Tryz.func44, Tryz.ntmps44
  go_wp2
  go_region
  obtain ⟨mA, fA, oA⟩ := F.out
  obtain ⟨x0, x1, x2⟩ := oA.in3
  have MA := hide mA
  have FA := hide fA
  have OA := hide oA
  clear mA fA oA
  subst hc
  go_wp2_with fail
  go_ret
  exact ⟨rfl, Y, MA.out, FA.out⟩


set_option maxRecDepth 100000 in
set_option maxHeartbeats 2000000 in
theorem r_act_X (base : Nat) (cs : Cods) (Y : Lay) (m : Mac) (n k : Nat) (q c a : Int) (st : Nat) (I : List In) (log : ByteArray) (w : World) (h : RM base cs w n Y m log) (hk : k < n) (hcs : cs[k]? = some (st, I)) (hj : I[(m.th k).pc]? = some (c, a)) (hpc : (m.th k).pc < 1000) (hc : c = 88) :
    Calls Tryz.prog 44 #[.pointer (some ⟨Y.b, 0, none⟩), .int .i64 k, .int .i64 q] w fun e w' => e = .returned (.int .u8 c) ∧ ∃ Y', MachAt w' n Y' (stepTh m k { m.th k with pc := (m.th k).pc + 1, sta := 68 }) log ∧ Fr Y Y' w w' := by
  obtain ⟨g, cap, hh, lcap, ecv, d0, d1, d2, d3, d4, d5⟩ := h.ins hcs hj
  have f0 := h.at_.fields.1
  rw [ecv] at f0
  have f1 := h.at_.fields.2.1
  have f2 := h.at_.fields.2.2.2.2.2.2.2.2.2.2
  obtain ⟨z0, _, s0, s3, z1⟩ := h.at_.cellT hk
  have z2 := z1 (k * 4)
  have s1 := z1 (k * 4 + 2)
  have s4 := z1 (k * 4 + 3)
  have z3 : Y.gt < w.heap.size := h.at_.lt (.inr (.inl rfl))
  have hlk : k < cs.length := (List.getElem?_eq_some_iff.1 hcs).1
  have hlj : (m.th k).pc < I.length := (List.getElem?_eq_some_iff.1 hj).1
  obtain ⟨p1, r1⟩ := h.at_.setTh (k := k) (o := 0) (u := .int .i64 (((m.th k).pc : Int) + 1)) (t := { m.th k with pc := (m.th k).pc + 1 }) hk (.inl rfl) (.inl ⟨rfl, by simp, rfl⟩) rfl rfl
  have p2 := p1.setSta (k := k) (s := 68) hk
  have r2 := r1.trans (fr_sta (o := k * 4 + 2) (u := .int .u8 68))
  have FIN : Hid (∀ o, MachAt (((w.setCell ⟨Y.gt, k * 4, none⟩ (.int .i64 (((m.th k).pc : Int) + 1))).setCell ⟨Y.gt, k * 4 + 2, none⟩ (.int .u8 68)).alloc o).drew n Y (stepTh m k { m.th k with pc := (m.th k).pc + 1, sta := 68 }) log ∧ Fr Y Y w (((w.setCell ⟨Y.gt, k * 4, none⟩ (.int .i64 (((m.th k).pc : Int) + 1))).setCell ⟨Y.gt, k * 4 + 2, none⟩ (.int .u8 68)).alloc o).drew) := fun o => by
    have := p2.below (w' := (((w.setCell ⟨Y.gt, k * 4, none⟩ (.int .i64 (((m.th k).pc : Int) + 1))).setCell ⟨Y.gt, k * 4 + 2, none⟩ (.int .u8 68)).alloc o).drew) keep_ad
    simp only [upd_same, upd_upd] at this
    exact ⟨this, r2.trans (Fr.of_below keep_ad)⟩
  clear p1 r1 p2 r2
  clear h z1 hcs hj ecv
  generalize hpcE : (m.th k).pc = pc at *
  subst hc
  go_enter Tryz.func44, Tryz.ntmps44
  go_wp2
  go_region
  go_wp2_with fail
  go_ret
  exact ⟨rfl, Y, (FIN.out _).1, (FIN.out _).2⟩


set_option maxRecDepth 100000 in
set_option maxHeartbeats 2000000 in
theorem r_act_T (base : Nat) (cs : Cods) (Y : Lay) (m : Mac) (n k : Nat) (q c a : Int) (st : Nat) (I : List In) (log : ByteArray) (w : World) (h : RM base cs w n Y m log) (hk : k < n) (hcs : cs[k]? = some (st, I)) (hj : I[(m.th k).pc]? = some (c, a)) (hpc : (m.th k).pc < 1000) (hc : c = 84) (hq : 0 ≤ q ∧ q < 1000) (ha : 0 ≤ a ∧ a < 100) :
    Calls Tryz.prog 44 #[.pointer (some ⟨Y.b, 0, none⟩), .int .i64 k, .int .i64 q] w fun e w' => e = .returned (.int .u8 c) ∧ ∃ Y', MachAt w' n Y' (stepTh m k { m.th k with pc := (m.th k).pc + 1, sta := 83, wake := q + 1 + a }) log ∧ Fr Y Y' w w' := by
  obtain ⟨g, cap, hh, lcap, ecv, d0, d1, d2, d3, d4, d5⟩ := h.ins hcs hj
  have f0 := h.at_.fields.1
  rw [ecv] at f0
  have f1 := h.at_.fields.2.1
  have f2 := h.at_.fields.2.2.2.2.2.2.2.2.2.2
  obtain ⟨z0, _, s0, s3, z1⟩ := h.at_.cellT hk
  have z2 := z1 (k * 4)
  have s1 := z1 (k * 4 + 2)
  have s4 := z1 (k * 4 + 3)
  have z3 : Y.gt < w.heap.size := h.at_.lt (.inr (.inl rfl))
  have hlk : k < cs.length := (List.getElem?_eq_some_iff.1 hcs).1
  have hlj : (m.th k).pc < I.length := (List.getElem?_eq_some_iff.1 hj).1
  obtain ⟨p1, r1⟩ := h.at_.setTh (k := k) (o := 0) (u := .int .i64 (((m.th k).pc : Int) + 1)) (t := { m.th k with pc := (m.th k).pc + 1 }) hk (.inl rfl) (.inl ⟨rfl, by simp, rfl⟩) rfl rfl
  have p2 := p1.setSta (k := k) (s := 83) hk
  have r2 := r1.trans (fr_sta (o := k * 4 + 2) (u := .int .u8 83))
  obtain ⟨p3, r3⟩ := p2.setTh (k := k) (o := 3) (u := .int .i64 (q + 1 + a)) (t := { m.th k with pc := (m.th k).pc + 1, sta := 83, wake := q + 1 + a }) hk (.inr rfl) (.inr ⟨rfl, rfl, by simp [upd_same]⟩) (by simp [upd_same]) (by simp [upd_same])
  have FIN : Hid (∀ W, Below (((w.setCell ⟨Y.gt, k * 4, none⟩ (.int .i64 (((m.th k).pc : Int) + 1))).setCell ⟨Y.gt, k * 4 + 2, none⟩ (.int .u8 83)).setCell ⟨Y.gt, k * 4 + 3, none⟩ (.int .i64 (q + 1 + a))).heap.size (((w.setCell ⟨Y.gt, k * 4, none⟩ (.int .i64 (((m.th k).pc : Int) + 1))).setCell ⟨Y.gt, k * 4 + 2, none⟩ (.int .u8 83)).setCell ⟨Y.gt, k * 4 + 3, none⟩ (.int .i64 (q + 1 + a))) W → MachAt W n Y (stepTh m k { m.th k with pc := (m.th k).pc + 1, sta := 83, wake := q + 1 + a }) log ∧ Fr Y Y w W) := fun W hW => by
    have := p3.below hW
    simp only [upd_same, upd_upd] at this
    exact ⟨this, (r2.trans r3).trans (Fr.of_below hW)⟩
  obtain ⟨q0, q1⟩ := hq
  obtain ⟨a0, a1⟩ := ha
  clear p1 r1 p2 r2 p3 r3
  clear h z1 hcs hj ecv
  generalize hpcE : (m.th k).pc = pc at *
  subst hc
  go_enter Tryz.func44, Tryz.ntmps44
  go_wp2
  go_region
  go_wp2_with fail
  go_region
  go_wp2_with fail
  go_ret
  refine ⟨rfl, Y, ?_⟩
  exact FIN.out _ (by first | exact keep_ad | exact keep_ad.drew | (exact ((Below.refl _ _).alloc (Nat.le_refl _) _).drew.drew))


end Go.Proofs.YtjbmflgamogefabGreat
