/- The reference's turn. -/
import Derived.Test.YtjbmflgamogefabGreatMnB
namespace Go.Proofs.YtjbmflgamogefabGreat
open Go.RowKit

/-- The machine has become m'. -/
def RW (base : Nat) (cs : Cods) (n : Nat) (log : ByteArray) (Y : Lay) (w w' : World) (m' : Mac) : Prop := ∃ Y', RM base cs w' n Y' m' log ∧ Fr Y Y' w w'
theorem RW.mk {base : Nat} {cs : Cods} {n : Nat} {log : ByteArray} {Y Y1 : Lay} {w w1 w' : World} {m1 m' : Mac} (h : RM base cs w1 n Y1 m1 log) (hf : Fr Y Y1 w w1) (hm : ∃ Y', MachAt w' n Y' m' log ∧ Fr Y1 Y' w1 w') : RW base cs n log Y w w' m' := by
  obtain ⟨Y', a, b⟩ := hm
  exact ⟨Y', h.step a b, hf.trans b⟩
theorem RM.below {base : Nat} {cs : Cods} {w w' : World} {n : Nat} {Y : Lay} {m : Mac} {log : ByteArray} (h : RM base cs w n Y m log) (hb : Below w.heap.size w w') : RM base cs w' n Y m log := h.step (h.at_.below hb) (Fr.of_below hb)
/-- What the walk reads of a thread, with the pointers as they were at the beginning. -/
theorem RM.look {base : Nat} {cs : Cods} {w w1 : World} {n k : Nat} {Y Y1 : Lay} {m1 : Mac} {log : ByteArray} (h : RM base cs w1 n Y1 m1 log) (hf : Fr Y Y1 w w1) (hk : k < n) :
    w1.cell? ⟨Y.b, 1, none⟩ = some (.slice (some ⟨Y.gt, 0, none⟩) n Y.tcap) ∧ w1.cell? ⟨Y.gt, k * 4 + 2, none⟩ = some (.int .u8 (m1.th k).sta) ∧ w1.cell? ⟨Y.gt, k * 4 + 3, none⟩ = some (.int .i64 (m1.th k).wake) := by
  obtain ⟨s1, s2, s3, _⟩ := hf.same
  have f1 := h.at_.fields.2.1
  obtain ⟨_, _, z2, z3, _⟩ := h.at_.cellT hk
  rw [s1, s2, s3] at f1
  rw [s2] at z2 z3
  exact ⟨f1, z2, z3⟩
def WakeR (base : Nat) (cs : Cods) (n : Nat) (log : ByteArray) (Y : Lay) (w wr : World) (ρ : Nat → List Int) (q : Int) (j : Nat) (F : Mac) : Prop :=
  ∃ Y' m', RM base cs wr n Y' m' log ∧ Fr Y Y' w wr ∧ Inv (codesOf cs) n none ρ m' ∧ wakeM q (n - j) j m' = F
theorem wakeR_yes {base : Nat} {cs : Cods} {n : Nat} {log : ByteArray} {Y Y' : Lay} {w wr w' : World} {ρ : Nat → List Int} {q : Int} {j : Nat} {F m' : Mac} (hj : j < n) (h : RM base cs wr n Y' m' log) (hf : Fr Y Y' w wr) (hI : Inv (codesOf cs) n none ρ m') (hr : wakeM q (n - j) j m' = F) (h1 : (m'.th j).sta = 83) (h2 : (m'.th j).wake = q) (hw : ∃ Y2, MachAt w' n Y2 (readyM m' j) log ∧ Fr Y' Y2 wr w') : WakeR base cs n log Y w w' ρ q (j + 1) F := by
  obtain ⟨Y2, a2, b2⟩ := hw
  rw [show n - j = (n - (j + 1)) + 1 by omega] at hr
  rw [wakeM, if_pos ⟨h1, h2⟩] at hr
  exact ⟨Y2, _, h.step a2 b2, hf.trans b2, hI.ready hj (.inr ⟨rfl, h1⟩), hr⟩
theorem wakeR_no {base : Nat} {cs : Cods} {n : Nat} {log : ByteArray} {Y Y' : Lay} {w wr : World} {ρ : Nat → List Int} {q : Int} {j : Nat} {F m' : Mac} (hj : j < n) (h : RM base cs wr n Y' m' log) (hf : Fr Y Y' w wr) (hI : Inv (codesOf cs) n none ρ m') (hr : wakeM q (n - j) j m' = F) (h1 : ¬ ((m'.th j).sta = 83 ∧ (m'.th j).wake = q)) : WakeR base cs n log Y w wr ρ q (j + 1) F := by
  rw [show n - j = (n - (j + 1)) + 1 by omega] at hr
  rw [wakeM, if_neg h1] at hr
  exact ⟨Y', m', h, hf, hI, hr⟩
def TurnR (base : Nat) (cs : Cods) (n : Nat) (log : ByteArray) (Y : Lay) (w wr : World) (k : Nat) (q : Int) (most j : Nat) (op : Int) (F : Mac) : Prop :=
  ∃ Y' m' ρ', RM base cs wr n Y' m' log ∧ Fr Y Y' w wr ∧ Inv (codesOf cs) n (some k) ρ' m' ∧ m'.out.length + 3 * (most - j) ≤ 100000 ∧ runM (codesOf cs) k q (most - j) op m' = F
theorem turnR_next {base : Nat} {cs : Cods} {n : Nat} {log : ByteArray} {Y Y' : Lay} {w wr w' : World} {k : Nat} {q op : Int} {most j : Nat} {F m' : Mac} {ρ' : Nat → List Int} (hG : RGood cs n) (hk : k < n) (hj : j < most) (h : RM base cs wr n Y' m' log) (hf : Fr Y Y' w wr) (hI : Inv (codesOf cs) n (some k) ρ' m') (hs : (m'.th k).sta = 82) (hop : ¬ op = 89) (ho : m'.out.length + 3 * (most - j) ≤ 100000) (hr : runM (codesOf cs) k q (most - j) op m' = F) (hw : ∃ Y2, MachAt w' n Y2 (actM (codesOf cs) m' k q) log ∧ Fr Y' Y2 wr w') : TurnR base cs n log Y w w' k q most (j + 1) (insAt (codesOf cs) m' k).1 F := by
  obtain ⟨Y2, a2, b2⟩ := hw
  rw [show most - j = (most - (j + 1)) + 1 by omega] at hr
  rw [runM, if_pos ⟨hs, hop⟩] at hr
  obtain ⟨ρ1, h1⟩ := hI.act hG.fine hk hs q
  have ha := acts_act hI q
  refine ⟨Y2, _, ρ1, h.step a2 b2, hf.trans b2, h1, ?_, hr⟩
  rcases ha.out with ho2 | ⟨v, ho2⟩
  · rw [ho2]; omega
  · rw [ho2, List.length_append, show (dig3 v).length = 3 from rfl]; omega
theorem turnR_over {base : Nat} {cs : Cods} {n : Nat} {log : ByteArray} {Y : Lay} {w wr : World} {k : Nat} {q : Int} {most j : Nat} {op : Int} {F m' : Mac} {Y' : Lay} (h : RM base cs wr n Y' m' log) (hf : Fr Y Y' w wr) (hr : runM (codesOf cs) k q (most - j) op m' = F) (hc : ¬ (j < most ∧ (m'.th k).sta = 82 ∧ ¬ op = 89)) : RW base cs n log Y w wr F := by
  have : runM (codesOf cs) k q (most - j) op m' = m' := by
    cases e : most - j with
    | zero => rfl
    | succ i => rw [runM, if_neg (fun h => hc ⟨by omega, h⟩)]
  rw [this] at hr
  subst hr
  exact ⟨Y', h, hf⟩
theorem dig_last (k : Nat) (h : k < 10) : (strOf (dig3 (k : Int))).extract 2 3 = strOf [48 + (k : Int)] := by
  match k, h with
  | 0, _ => rfl
  | 1, _ => rfl
  | 2, _ => rfl
  | 3, _ => rfl
  | 4, _ => rfl
  | 5, _ => rfl
  | 6, _ => rfl
  | 7, _ => rfl
  | 8, _ => rfl
  | 9, _ => rfl

set_option maxRecDepth 100000 in
set_option maxHeartbeats 4000000 in
theorem r_turn (base : Nat) (cs : Cods) (Y : Lay) (m : Mac) (n q most : Nat) (ρ : Nat → List Int) (log : ByteArray) (w : World) (h : RM base cs w n Y m log) (hG : RGood cs n) (hI : Inv (codesOf cs) n none ρ m) (ho : m.out.length + 3 * most ≤ 100000) (ht : m.trc.length ≤ 100000) (hq : q < 1000) (hmo : most < 1000) :
    Calls Tryz.prog 30 #[.pointer (some ⟨Y.b, 0, none⟩), .int .i64 q, .int .i64 most] w fun e w' => e = .returned (.tuple #[]) ∧ RW base cs n log Y w w' (turn0M (codesOf cs) n most q m) := by
  have hn4 := hG.n4
  have HG := hide hG
  have HT : Hid (WakeR base cs n log Y w w ρ q 0 (wakeM q n 0 m)) := ⟨Y, m, h, Fr.of_below (Below.refl _ _), hI, by simp⟩
  have HI1 := hide (hI.wakeups (q : Int) n 0 m (by omega))
  obtain ⟨t1, t2⟩ := wake_told (q := (q : Int)) n 0 m
  rw [← t1] at ho
  rw [← t2] at ht
  obtain ⟨R, hR⟩ : ∃ R, turn0M (codesOf cs) n most q m = R := ⟨_, rfl⟩
  rw [hR]
  unfold turn0M at hR
  generalize wakeM q n 0 m = F at *
  have HR := hide hR
  clear h hI hG hR t1 t2
  go_enter Tryz.func30, Tryz.ntmps30
  go_wp2_with fail
  go_loopw [6] (fun s wr => ∃ j : Nat, j ≤ n ∧ s = .int .i64 j ∧ Hid (WakeR base cs n log Y w wr ρ q j F)) (fun s _ => n - (intOf s).toNat)
  case atStart => exact ⟨0, Nat.zero_le _, rfl, HT⟩
  case round =>
    rename_i wr
    obtain ⟨j, hj, rfl, htt⟩ := hrel
    obtain ⟨Y1, m1, r1, r2, r3, r4⟩ := htt.out
    have f9 := r1.at_.fields.2.1
    rw [r2.same.1, r2.same.2.1, r2.same.2.2.1] at f9
    by_cases hlt : j < n
    · obtain ⟨f1, c4, c5⟩ := r1.look r2 hlt
      have hlt1 : (j : Int) < (n : Int) := by omega
      by_cases h1 : (m1.th j).sta = 83
      · by_cases h2 : (m1.th j).wake = q
        · have HRD := hide (r_ready Y1 m1 n j log wr r1.at_ hlt (by have := r3.lens.1; omega))
          rw [r2.same.1] at HRD
          have HN := hide (fun w' => wakeR_yes (w' := w') hlt r1 r2 r3 r4 h1 h2)
          rw [h1] at c4
          rw [h2] at c5
          have b1 : ((q : Int) == (q : Int)) = true := by simp
          clear r1 r2 r3 r4 htt HT h1 h2 HI1 HR HG ho ht
          go_wp2_with fail
          refine HRD.out.mono ?_
          rintro e w2 ⟨rfl, hw⟩
          have N1 := hide (HN.out w2 hw)
          clear hw HRD HN
          go_wp2_with fail
          go_roundw
          case rel => exact ⟨j + 1, by omega, by go_num, N1⟩
          case measure => simp [intOf]; omega
        · have HN := hide (wakeR_no hlt r1 r2 r3 r4 (fun e => h2 e.2))
          rw [h1] at c4
          have b1 : ((m1.th j).wake == (q : Int)) = false := by simp [h2]
          generalize (m1.th j).wake = v at *
          clear r1 r2 r3 r4 htt HT h1 h2 HI1 HR HG ho ht
          go_wp2_with fail
          go_roundw
          case rel => exact ⟨j + 1, by omega, by go_num, HN⟩
          case measure => simp [intOf]; omega
      · have HN := hide (wakeR_no hlt r1 r2 r3 r4 (fun e => h1 e.1))
        have b1 : ((m1.th j).sta == 83) = false := by simp [h1]
        generalize (m1.th j).sta = v at *
        clear r1 r2 r3 r4 htt HT h1 HI1 HR HG ho ht
        go_wp2_with fail
        go_roundw
        case rel => exact ⟨j + 1, by omega, by go_num, HN⟩
        case measure => simp [intOf]; omega
    · have hlt1 : ¬ (j : Int) < (n : Int) := by omega
      rw [show n - j = 0 by omega] at r4
      have r4 : m1 = F := r4
      subst r4
      have f2 := r1.at_.fields.2.2.1
      have f8 := r1.at_.fields.2.2.2.2.2.2.2.2.1
      rw [r2.same.1] at f2 f8
      have hsl := r1.at_.sl 2 (by decide)
      rw [show cont m1 2 = castL m1.q from rfl] at hsl
      have hfz := frozen_row r1.at_.self
      rw [r2.same.1] at hfz
      have z8 := hfz 8
      have z2 := hfz 2
      have zb : Y.b < wr.heap.size := by rw [← r2.same.1]; exact r1.at_.lt (.inl rfl)
      clear htt HT hfz
      cases hq0 : m1.q with
      | nil =>
        rw [hq0] at hsl
        obtain ⟨ao, cap, hs⟩ := hsl.slice
        rw [hs, show (castL []).length = 0 from rfl] at f2
        have HF : Hid (RW base cs n log Y w (wr.setCell ⟨Y.b, 8, none⟩ (.string (strOf m1.trc ++ ⟨#[45]⟩))) R) := by
          obtain ⟨p1, p2⟩ := r1.at_.setStr (o := 8) (m' := { m1 with trc := m1.trc ++ [45] }) (log' := log) (u := strOf m1.trc ++ ⟨#[45]⟩) (.inr (.inl ⟨rfl, by rw [strOf_append]; rfl, rfl, rfl⟩)) (fun _ => rfl) rfl
          rw [r2.same.1] at p1 p2
          have := HR.out
          simp only [hq0] at this
          rw [← this]
          have p1 := r1.step p1 p2
          rw [hq0] at p1
          exact ⟨Y1, p1, r2.trans p2⟩
        have hsz : ¬ (strOf m1.trc).size + 1 > 9223372036854775807 := by
          have e1 : (strOf m1.trc).size = m1.trc.length := by simp [strOf, ByteArray.size]
          omega
        clear r1 r2 r3 hsl hs HI1 HR HG ho ht
        go_wp2_with fail
        refine bodyPost_ret (results_none (by rfl) _ _ _) rfl ?_
        exact ⟨rfl, HF.out⟩
      | cons k r =>
        rw [hq0] at hsl
        obtain ⟨hI2, hk, hs⟩ := HI1.out.start hq0 (m1.trc ++ [48 + (k : Int)])
        obtain ⟨B, O, cap, hv, hcap, hx, htl⟩ := hsl.first
        rw [hv] at f2
        rw [show (r.map (fun (x : Nat) => (x : Int))).length = r.length by simp] at f2 hcap htl
        obtain ⟨ao, hao⟩ : ∃ ao : Option Addr, ao = if cap = 1 then some ⟨B, O, none⟩ else some ⟨B, O + 1, none⟩ := ⟨_, rfl⟩
        rw [← hao] at htl
        have HAO := hide hao
        obtain ⟨pA, fA⟩ := r1.at_.putQ (World.grownBy.refl _ _) (q' := r) htl (.inl rfl)
        rw [r2.same.1] at pA fA
        have rA := r1.step pA fA
        have gA := r2.trans fA
        obtain ⟨Y2, hY2⟩ : ∃ Y2, Y2 = putL Y1 2 (Value.slice ao r.length (cap - 1)) (Y1.blk 2) := ⟨_, rfl⟩
        rw [← hY2] at rA gA
        obtain ⟨wA, hwA⟩ : ∃ wA, wA = wr.setCell ⟨Y.b, 2, none⟩ (Value.slice ao r.length (cap - 1)) := ⟨_, rfl⟩
        rw [← hwA] at rA gA
        have hL : r.length < 1000 := by have h1 := HI1.out.lens.1; rw [hq0] at h1; simp at h1; omega
        have f8 := rA.at_.fields.2.2.2.2.2.2.2.2.1
        rw [gA.same.1] at f8
        have hsz : ¬ (strOf m1.trc).size + (strOf [48 + (k : Int)]).size > 9223372036854775807 := by
          have e1 : (strOf m1.trc).size = m1.trc.length := by simp [strOf, ByteArray.size]
          have e2 : (strOf [48 + (k : Int)]).size = 1 := rfl
          omega
        have KEEP : Hid (∀ W, Below wA.drew.heap.size wA.drew W → W.cell? ⟨Y.b, 8, none⟩ = some (.string (strOf m1.trc)) ∧ W.frozen? ⟨Y.b, 8, none⟩ = false ∧ RW base cs n log Y w (W.setCell ⟨Y.b, 8, none⟩ (.string (strOf m1.trc ++ strOf [48 + (k : Int)]))) { m1 with q := r, trc := m1.trc ++ [48 + (k : Int)] }) := fun W hW => by
          have h2 := (rA.below keep_drew).below hW
          obtain ⟨p1, p2⟩ := h2.at_.setStr (o := 8) (m' := { m1 with q := r, trc := m1.trc ++ [48 + (k : Int)] }) (log' := log) (u := strOf m1.trc ++ strOf [48 + (k : Int)]) (.inr (.inl ⟨rfl, (strOf_append _ _).symm, rfl, rfl⟩)) (fun _ => rfl) rfl
          have q1 := h2.at_.fields.2.2.2.2.2.2.2.2.1
          have q2 := frozen_row h2.at_.self 8
          have p3 := h2.step p1 p2
          have p4 := (gA.trans ((Fr.of_below keep_drew).trans (Fr.of_below hW))).trans p2
          rw [gA.same.1] at q1 q2 p3 p4
          exact ⟨q1, q2, Y2, p3, p4⟩
        have HD := hide (fun W => r_digits (k : Int) W (by omega) (by omega))
        have HDL := dig_last k (by omega)
        have hd3 : (strOf (dig3 (k : Int))).size = 3 := rfl
        obtain ⟨G, hG0⟩ : ∃ G, runM (codesOf cs) k q most 32 { m1 with q := r, trc := m1.trc ++ [48 + (k : Int)] } = G := ⟨_, rfl⟩
        have HRR : Hid ((¬ (G.th k).sta = 82 → R = G) ∧ ((G.th k).sta = 82 → R = readyM G k)) := by
          have := HR.out
          simp only [hq0] at this
          rw [hG0] at this
          rw [← this]
          exact ⟨fun e => by rw [if_neg e], fun e => by rw [if_pos e]⟩
        have HI2 := hide hI2
        have HIG : Hid (∃ ρ', Inv (codesOf cs) n (some k) ρ' G) := by
          obtain ⟨ρ', h3⟩ := Inv.runs HG.out.fine hk (q : Int) most 32 _ _ hI2
          rw [hG0] at h3
          exact ⟨ρ', h3⟩
        have HGG := hide hG0
        have HWA := hide hwA
        generalize strOf (dig3 (k : Int)) = D at *
        generalize strOf [48 + (k : Int)] = D1 at *
        generalize strOf m1.trc = TR at *
        generalize r.length = L at *
        clear r1 r2 r3 hsl hv htl hI2 pA fA rA gA hY2 hao HI1 HR hG0 ht
        have HWB : Hid ((cap = 1 ∧ L = 0 ∧ wA = wr.setCell ⟨Y.b, 2, none⟩ (Value.slice (some ⟨B, O, none⟩) 0 0)) ∨ (¬ cap = 1 ∧ wA = wr.setCell ⟨Y.b, 2, none⟩ (Value.slice (some ⟨B, O + 1, none⟩) L (cap - 1)))) := by
          by_cases e1 : cap = 1
          · obtain rfl : L = 0 := by omega
            rw [HAO.out, if_pos e1] at hwA
            exact .inl ⟨e1, rfl, by rw [hwA, e1]⟩
          · rw [HAO.out, if_neg e1] at hwA
            exact .inr ⟨e1, hwA⟩
        clear hwA HWA HAO
        rcases HWB.out with ⟨rfl, rfl, hwA⟩ | ⟨e1, hwA⟩
        all_goals
          have HWA := hide hwA
          clear HWB hwA
          go_wp2_with fail
          rw [← HWA.out]
          clear HWA f2 f9 hx z8 z2
          go_region_with (go_at_call 33; refine (HD.out _).mono ?_; rintro e w2 ⟨rfl, hb2⟩; obtain ⟨y0, y1, RR⟩ := KEEP.out w2 hb2; have RX := hide RR; clear hb2 RR)
          all_goals
            clear y0 y1
            generalize w2.setCell ⟨Y.b, 8, none⟩ (.string (TR ++ D1)) = w3 at *
            have HT2 : Hid (TurnR base cs n log Y w w3 k q most 0 32 G) := by
              obtain ⟨Y3, x1, x2⟩ := RX.out
              exact ⟨Y3, _, ρ, x1, x2, HI2.out, by simpa using ho, by simpa using HGG.out⟩
            clear RX HI2 HGG f8 hsz HDL hd3 KEEP HD hL hcap
            go_wp2_with fail
            go_loopw [8, 9] (fun o s wx => ∃ (i : Nat) (op : Int), i ≤ most ∧ o = .int .u8 op ∧ s = .int .i64 i ∧ Hid (TurnR base cs n log Y w wx k q most i op G)) (fun _ s _ => most - (intOf s).toNat)
            case atStart => exact ⟨0, 32, Nat.zero_le _, rfl, rfl, HT2⟩
            case round =>
              obtain ⟨i, op, hi, rfl, rfl, htt⟩ := hrel
              obtain ⟨Y4, m4, ρ4, v1, v2, v3, v4, v5⟩ := htt.out
              obtain ⟨g1, g2, _⟩ := v1.look v2 hk
              by_cases hcc : i < most ∧ (m4.th k).sta = 82 ∧ ¬ op = 89
              · obtain ⟨hlt2, h82, h89⟩ := hcc
                have HA := hide (r_act base cs Y4 m4 n k q ρ4 log wr v1 HG.out hk v3 h82 (by omega) ⟨by omega, by omega⟩)
                rw [v2.same.1] at HA
                have HN := hide (fun w' => turnR_next (w' := w') HG.out hk hlt2 v1 v2 v3 h82 h89 v4 v5)
                have hlt3 : (i : Int) < (most : Int) := by omega
                have h89b : (op != 89) = true := by simp [h89]
                rw [h82] at g2
                clear v1 v2 v3 v4 v5 htt HT2 h82 h89
                generalize (insAt (codesOf cs) m4 k).1 = op2 at *
                go_wp2_with fail
                refine HA.out.mono ?_
                rintro e w4 ⟨rfl, hw⟩
                have N1 := hide (HN.out w4 hw)
                clear hw HA HN
                go_wp2_with fail
                go_roundw
                case rel => exact ⟨i + 1, op2, by omega, rfl, by go_num, N1⟩
                case measure => simp [intOf]; omega
              · obtain ⟨Y5, e1, e2⟩ := turnR_over v1 v2 v5 hcc
                obtain ⟨_, g3, _⟩ := e1.look e2 hk
                obtain ⟨ρ5, hI5⟩ := HIG.out
                have HRY := hide (r_ready Y5 G n k log wr e1.at_ hk (by have := hI5.lens.1; omega))
                rw [e2.same.1] at HRY
                have HNO : Hid (¬ (G.th k).sta = 82 → RW base cs n log Y w wr R) := fun h => by rw [HRR.out.1 h]; exact ⟨Y5, e1, e2⟩
                have HYES : Hid (∀ w', (G.th k).sta = 82 → (∃ Y', MachAt w' n Y' (readyM G k) log ∧ Fr Y5 Y' wr w') → RW base cs n log Y w w' R) := fun w' h hm => by rw [HRR.out.2 h]; exact RW.mk e1 e2 hm
                have hcase : (¬ (i : Int) < (most : Int)) ∨ ((i : Int) < (most : Int) ∧ ((m4.th k).sta == 82) = false) ∨ ((i : Int) < (most : Int) ∧ (m4.th k).sta = 82 ∧ op = 89) := by
                  by_cases a1 : i < most
                  · by_cases a2 : (m4.th k).sta = 82
                    · exact .inr (.inr ⟨by omega, a2, Classical.byContradiction fun a3 => hcc ⟨a1, a2, a3⟩⟩)
                    · exact .inr (.inl ⟨by omega, by simp [a2]⟩)
                  · exact .inl (by omega)
                clear v1 v2 v3 v4 v5 htt HT2 e1 e2 hI5 HIG HRR hcc
                generalize (m4.th k).sta = s4 at *
                generalize hs5 : (G.th k).sta = s5 at *
                have e45 : s5 = s4 := by
                  rw [g2] at g3
                  simp at g3
                  exact g3.symm
                subst e45
                clear g3 hs5
                have hcase2 : (s5 = 82 ∧ (¬ (i : Int) < (most : Int) ∨ ((i : Int) < (most : Int) ∧ op = 89))) ∨ (((s5 == 82) = false ∧ ¬ s5 = 82) ∧ (¬ (i : Int) < (most : Int) ∨ (i : Int) < (most : Int))) := by
                  rcases hcase with a1 | ⟨a1, a2⟩ | ⟨a1, a2, a3⟩
                  · by_cases h5 : s5 = 82
                    · exact .inl ⟨h5, .inl a1⟩
                    · exact .inr ⟨⟨by simp [h5], h5⟩, .inl a1⟩
                  · exact .inr ⟨⟨a2, by simpa using a2⟩, .inr a1⟩
                  · exact .inl ⟨a2, .inr ⟨a1, a3⟩⟩
                clear hcase
                rcases hcase2 with ⟨rfl, a1 | ⟨a1, rfl⟩⟩ | ⟨⟨a2, h5⟩, a1 | a1⟩
                · have HY2 := hide (fun w' => HYES.out w' rfl)
                  clear HYES HNO
                  go_wp2_with fail
                  refine HRY.out.mono ?_
                  rintro e w5 ⟨rfl, hw⟩
                  have N1 := hide (HY2.out w5 hw)
                  clear hw HY2 HRY
                  go_wp2_with fail
                  go_end0
                  exact ⟨rfl, N1.out⟩
                · have HY2 := hide (fun w' => HYES.out w' rfl)
                  clear HYES HNO
                  go_wp2_with fail
                  refine HRY.out.mono ?_
                  rintro e w5 ⟨rfl, hw⟩
                  have N1 := hide (HY2.out w5 hw)
                  clear hw HY2 HRY
                  go_wp2_with fail
                  go_end0
                  exact ⟨rfl, N1.out⟩
                · have HN2 := hide (HNO.out h5)
                  clear HYES HNO h5 HRY
                  go_wp2_with fail
                  go_end0
                  exact ⟨rfl, HN2.out⟩
                · have HN2 := hide (HNO.out h5)
                  clear HYES HNO h5 HRY
                  go_wp2_with fail
                  go_end0
                  exact ⟨rfl, HN2.out⟩

end Go.Proofs.YtjbmflgamogefabGreat
