/- The reference's next, caught. -/
import Derived.Test.YtjbmflgamogefabGreatMnC
import Derived.Test.YtjbmflgamogefabGreatMachA
namespace Go.Proofs.YtjbmflgamogefabGreat
open Go.RowKit

/-- The owner of the first lock, from l on, at which the thread k is blocked. -/
def nxtM (m : Mac) (k : Nat) : Nat → Nat → Int
  | 0, _ => -1
  | i + 1, l => if k ∈ m.blk l then m.own l else nxtM m k i (l + 1)
theorem nxt_no (m : Mac) (k : Nat) : ∀ i l, (∀ j, l ≤ j → ¬ k ∈ m.blk j) → nxtM m k i l = -1
  | 0, _, _ => rfl
  | i + 1, l, h => by rw [nxtM, if_neg (h l (Nat.le_refl _))]; exact nxt_no m k i (l + 1) (fun j hj => h j (by omega))
theorem nxt_at (m : Mac) (k b : Nat) (hb : k ∈ m.blk b) (hu : ∀ j, k ∈ m.blk j → j = b) : ∀ i l, l ≤ b → b < l + i → nxtM m k i l = m.own b
  | 0, l, h1, h2 => by omega
  | i + 1, l, h1, h2 => by
    rw [nxtM]
    by_cases e : l = b
    · subst e; rw [if_pos hb]
    · rw [if_neg (fun h => e (hu l h))]
      exact nxt_at m k b hb hu i (l + 1) (by omega) (by omega)
theorem nxt_obst {C : Nat → List In} {n : Nat} {ρ : Nat → List Int} {run : Option Nat} {m : Mac} (hF : Fine C n) (hI : Inv C n run ρ m) (hB : Bat n m) (k : Nat) : nxtM m k 4 0 = obst n m k := by
  unfold obst
  by_cases hk : k < n
  · rw [if_pos hk]
    by_cases hs : (m.th k).sta = 66
    · rw [if_pos hs]
      have hm := hB k hk hs
      have b1 := ((hI.blk _ k).1 hm).2.2
      have hu : ∀ j, k ∈ m.blk j → j = (m.th k).bat := fun j hj => by
        have b2 := ((hI.blk j k).1 hj).2.2
        rw [b1] at b2; simp at b2; omega
      have hR := (hI.at_ k hk (by omega)).valid (hF.ok k hk)
      have hlt : (((m.th k).bat : Nat) : Int) < 4 := (hR.2.2.2.2.1 _ (List.mem_of_getLast? b1)).2
      rw [if_pos (by omega)]
      exact nxt_at m k _ hm hu 4 0 (Nat.zero_le _) (by omega)
    · rw [if_neg hs]
      exact nxt_no m k 4 0 (fun j _ hj => hs ((hI.blk j k).1 hj).2.1)
  · rw [if_neg hk]
    exact nxt_no m k 4 0 (fun j _ hj => hk ((hI.blk j k).1 hj).1)

set_option maxRecDepth 100000 in
set_option maxHeartbeats 2000000 in
theorem r_next (Y : Lay) (m : Mac) (n k : Nat) (log : ByteArray) (w : World) (h : MachAt w n Y m log) (hl : ∀ l, (m.blk l).length ≤ 1000) :
    Calls Tryz.prog 67 #[.pointer (some ⟨Y.b, 0, none⟩), .int .i64 k] w fun e w' => e = .returned (.int .i64 (nxtM m k 4 0)) ∧ w' = w := by
  have f5 := h.fields.2.2.2.2.2.1
  have f4 := h.fields.2.2.2.2.1
  obtain ⟨ob, oo, ocap, hv, hcs, _⟩ := h.owners
  rw [hv] at f4
  have HOW : Hid (∀ l, l < 4 → w.cell? ⟨ob, oo + l, none⟩ = some (.int .i64 (m.own l))) := hcs
  have HCB : Hid (∀ l, l < 4 → w.cell? ⟨Y.gb, l, none⟩ = some (Y.val (7 + l)) ∧ SlAt w (Y.val (7 + l)) (castL (m.blk l)) (Y.blk (7 + l))) := fun l hl => ⟨(h.cellB hl).1, by have := h.sl (7 + l) (by omega); rw [cont_blk m hl] at this; exact this⟩
  obtain ⟨R, hR⟩ : ∃ R, nxtM m k 4 0 = R := ⟨_, rfl⟩
  rw [hR]
  have HR := hide hR
  have HL := hide hl
  clear h hcs hv hR hl
  go_enter Tryz.func67, Tryz.ntmps67
  go_wp2_with fail
  go_loopw [5] (fun s wr => ∃ l : Nat, l ≤ 4 ∧ s = .int .i64 l ∧ wr = w ∧ nxtM m k (4 - l) l = R) (fun s _ => 4 - (intOf s).toNat)
  case atStart => exact ⟨0, Nat.zero_le _, rfl, rfl, HR.out⟩
  case round =>
    obtain ⟨l, hl4, rfl, hww, hnx⟩ := hrel
    replace hww := hww.symm
    subst hww
    by_cases hlt : l < 4
    · have hlt1 : (l : Int) < 4 := by omega
      obtain ⟨c1, hsl⟩ := HCB.out l hlt
      have c2 := HOW.out l hlt
      have hln := HL.out l
      obtain ⟨ao, cap, hs⟩ := hsl.slice
      rw [hs] at c1
      rw [show (castL (m.blk l)).length = (m.blk l).length by simp [castL]] at c1
      have HSL := hide hsl
      have HVS := hide hs
      rw [show 4 - l = (3 - l) + 1 by omega, nxtM] at hnx
      have HNX := hide hnx
      clear hsl hs hnx HCB HOW HL HR
      go_wp2_with fail
      go_loopw [6] (fun s wr => ∃ i : Nat, i ≤ (m.blk l).length ∧ s = .int .i64 i ∧ wr = w ∧ ¬ k ∈ (m.blk l).take i) (fun s _ => (m.blk l).length - (intOf s).toNat)
      case atStart => exact ⟨0, Nat.zero_le _, rfl, rfl, by simp⟩
      case round =>
        obtain ⟨i, hi, rfl, hww, hno⟩ := hrel
        replace hww := hww.symm
        subst hww
        by_cases hlt2 : i < (m.blk l).length
        · obtain ⟨x, hx⟩ : ∃ x, (m.blk l)[i]? = some x := ⟨(m.blk l)[i], by simp [hlt2]⟩
          have hx2 : (castL (m.blk l))[i]? = some (x : Int) := by simp [castL, hx]
          have hsl := HSL.out
          rw [HVS.out] at hsl
          obtain ⟨B, O, e1, _, _, c3⟩ := hsl.cell hx2
          subst e1
          have hlt3 : (i : Int) < ((m.blk l).length : Int) := by omega
          by_cases hxk : x = k
          · subst hxk
            have hm : x ∈ m.blk l := List.mem_of_getElem? hx
            have hnx := HNX.out
            rw [if_pos hm] at hnx
            subst hnx
            clear HNX HSL HVS hsl hno hx hx2 hm
            generalize (m.blk l).length = LN at *
            go_wp2_with fail
            go_ret
            exact ⟨rfl, rfl⟩
          · have hxk2 : ((x : Int) == (k : Int)) = false := by simp; omega
            have hno2 : ¬ k ∈ (m.blk l).take (i + 1) := by
              rw [List.take_add_one, hx]
              simp only [Option.toList, List.mem_append, List.mem_singleton]
              rintro (hm | hm)
              · exact hno hm
              · exact hxk hm.symm
            have HN2 := hide hno2
            clear HNX HSL HVS hsl hno hno2 hx hx2
            generalize (m.blk l).length = LN at *
            go_wp2_with fail
            go_roundw
            case rel => exact ⟨i + 1, by omega, by go_num, by trivial, HN2.out⟩
            case measure => simp [intOf]; omega
        · have hlt3 : ¬ (i : Int) < ((m.blk l).length : Int) := by omega
          have hnx := HNX.out
          rw [if_neg (fun hm => hno (by rw [List.take_of_length_le (by omega)]; exact hm))] at hnx
          have HN2 := hide hnx
          clear HNX HSL HVS hno hnx
          generalize (m.blk l).length = LN at *
          go_wp2_with fail
          go_roundw
          case rel => exact ⟨l + 1, by omega, by go_num, by trivial, by rw [show 4 - (l + 1) = 3 - l by omega]; exact HN2.out⟩
          case measure => simp [intOf]; omega
    · obtain rfl : l = 4 := by omega
      have hnx : -1 = R := hnx
      subst hnx
      clear HCB HOW HL HR hlt hl4
      rw [show ((4 : Nat) : Int) = 4 from rfl]
      go_wp2_with fail
      go_ret
      exact ⟨rfl, rfl⟩

/-- Does one come back to k? (the reference's caught) -/
def cauM (n : Nat) (m : Mac) (k : Nat) : Nat → Int → Bool
  | 0, _ => false
  | i + 1, j => if j < 0 then false else if j = (k : Int) then true else cauM n m k i (obst n m j.toNat)

set_option maxRecDepth 100000 in
set_option maxHeartbeats 2000000 in
theorem r_caught (Y : Lay) (m : Mac) (n k : Nat) (log : ByteArray) (w : World) (h : MachAt w n Y m log) (hl : ∀ l, (m.blk l).length ≤ 1000) (hx : ∀ j, nxtM m j 4 0 = obst n m j) (ho : ∀ j, obst n m j < 4) :
    Calls Tryz.prog 45 #[.pointer (some ⟨Y.b, 0, none⟩), .int .i64 k] w fun e w' => e = .returned (.bool (cauM n m k 4 (obst n m k))) ∧ w' = w := by
  have HN : Hid (∀ j : Nat, Calls Tryz.prog 67 #[.pointer (some ⟨Y.b, 0, none⟩), .int .i64 j] w fun e w' => e = .returned (.int .i64 (obst n m j)) ∧ w' = w) := fun j => by
    have := r_next Y m n j log w h hl
    rw [hx j] at this
    exact this
  have HO := hide ho
  obtain ⟨R, hR⟩ : ∃ R, cauM n m k 4 (obst n m k) = R := ⟨_, rfl⟩
  rw [hR]
  have HR := hide hR
  clear h hl hx ho hR
  go_enter Tryz.func45, Tryz.ntmps45
  go_wp2_with fail
  refine (HN.out k).mono ?_
  rintro e w' ⟨rfl, h'⟩
  replace h' := h'.symm
  subst h'
  go_wp2_with fail
  go_loopw [5, 6] (fun a s wr => ∃ (i : Nat) (j : Int), i ≤ 4 ∧ j < 4 ∧ a = .int .i64 j ∧ s = .int .i64 i ∧ wr = w ∧ cauM n m k (4 - i) j = R) (fun _ s _ => 4 - (intOf s).toNat)
  case atStart => exact ⟨0, _, Nat.zero_le _, HO.out k, rfl, rfl, rfl, HR.out⟩
  case round =>
    obtain ⟨i, j, hi, hj, rfl, rfl, hww, hc⟩ := hrel
    replace hww := hww.symm
    subst hww
    by_cases hlt : i < 4
    · have hlt1 : (i : Int) < 4 := by omega
      rw [show 4 - i = (3 - i) + 1 by omega, cauM] at hc
      by_cases h0 : j < 0
      · rw [if_pos h0] at hc
        subst hc
        clear HN HO HR
        go_wp2_with fail
        go_ret
        exact ⟨rfl, rfl⟩
      · rw [if_neg h0] at hc
        obtain ⟨jn, rfl⟩ : ∃ jn : Nat, j = jn := ⟨j.toNat, by omega⟩
        by_cases hjk : (jn : Int) = (k : Int)
        · rw [if_pos hjk] at hc
          subst hc
          have hjk2 : ((jn : Int) == (k : Int)) = true := by simp [hjk]
          clear HN HO HR
          go_wp2_with fail
          go_ret
          exact ⟨rfl, rfl⟩
        · rw [if_neg hjk, Int.toNat_natCast] at hc
          have hjk2 : ((jn : Int) == (k : Int)) = false := by simp [hjk]
          have H1 := hide (HN.out jn)
          have h4 := HO.out jn
          have HC := hide hc
          clear HN HO HR hc hjk
          generalize obst n m jn = ob at *
          go_wp2_with fail
          refine H1.out.mono ?_
          rintro e w' ⟨rfl, h'⟩
          replace h' := h'.symm
          subst h'
          go_wp2_with fail
          go_roundw
          case rel => exact ⟨i + 1, ob, by omega, h4, rfl, by go_num, by trivial, by rw [show 4 - (i + 1) = 3 - i by omega]; exact HC.out⟩
          case measure => simp [intOf]; omega
    · obtain rfl : i = 4 := by omega
      have hc : false = R := hc
      subst hc
      clear HN HO HR hlt hi
      rw [show ((4 : Nat) : Int) = 4 from rfl]
      go_wp2_with fail
      go_ret
      exact ⟨rfl, rfl⟩

end Go.Proofs.YtjbmflgamogefabGreat
