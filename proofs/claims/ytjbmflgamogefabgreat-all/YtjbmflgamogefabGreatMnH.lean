/- The reference's States, Owners, Given. -/
import Derived.Test.YtjbmflgamogefabGreatMnG
import Derived.Test.YtjbmflgamogefabGreatRCheck
import Derived.Test.YtjbmflgamogefabGreatGv
namespace Go.Proofs.YtjbmflgamogefabGreat
open Go.RowKit

theorem conv_one {w : World} {x : Int} : (convert 72 9 (.slice (some ⟨w.heap.size, 0, none⟩) 1 1)).run Tryz.prog (w.alloc (.cells #[.int .u8 x] 5)) = .ok (.string (strOf [x])) (w.alloc (.cells #[.int .u8 x] 5)) :=
  conv_sb (g := some w.heap.size) (xs := [x]) (.inr ⟨w.heap.size, 0, 1, _, rfl, rfl, heap_alloc_new w _, Nat.le_refl _, Nat.le_refl _, fun j y hj => by
    match j, hj with
    | 0, hj => simp at hj; subst hj; rfl
    | j + 1, hj => simp at hj⟩)

set_option maxRecDepth 100000 in
set_option maxHeartbeats 2000000 in
theorem r_States (Y : Lay) (m : Mac) (n : Nat) (log : ByteArray) (w : World) (h : MachAt w n Y m log) (hn : n ≤ 4) :
    Calls Tryz.prog 21 #[.pointer (some ⟨Y.b, 0, none⟩)] w fun e w' => e = .returned (.string (strOf (stsL n m))) ∧ Below w.heap.size w w' := by
  have HT : Hid (∀ k, k < n → w.cell? ⟨Y.gt, k * 4 + 2, none⟩ = some (.int .u8 (m.th k).sta)) := fun k hk => (h.cellT hk).2.2.1
  have f1 := h.fields.2.1
  have fb := h.fields.2.2.2.2.2.2.2.2.2.2
  have fg : Y.gt < w.heap.size := h.lt (.inr (.inl rfl))
  clear h
  go_enter Tryz.func21, Tryz.ntmps21
  go_wp2_with fail
  go_loopw [3, 4] (fun a s wr => ∃ k : Nat, k ≤ n ∧ a = .string (strOf (stsL k m)) ∧ s = .int .i64 k ∧ Below w.heap.size w wr) (fun _ s _ => n - (intOf s).toNat)
  case atStart => exact ⟨0, Nat.zero_le _, rfl, rfl, Below.refl _ _⟩
  case round =>
    obtain ⟨k, hk, rfl, rfl, hB⟩ := hrel
    have f1b := (hB.cell (p := ⟨Y.b, 1, none⟩) fb).trans f1
    have fbb : Y.b < wr.heap.size := Nat.lt_of_lt_of_le fb hB.size
    have fgg : Y.gt < wr.heap.size := Nat.lt_of_lt_of_le fg hB.size
    have HBB := hide hB
    by_cases hlt : k < n
    · have hlt1 : (k : Int) < (n : Int) := by omega
      have c0 := (hB.cell (p := ⟨Y.gt, k * 4 + 2, none⟩) fg).trans (HT.out k hlt)
      have HE : Hid (strOf (stsL k m) ++ strOf [(m.th k).sta] = strOf (stsL (k + 1) m)) := by
        unfold Hid; rw [← strOf_append]; simp [stsL, List.range_succ]
      have hsz : (strOf (stsL k m)).size = k := by rw [str_size]; simp [stsL]
      have hs1 : (strOf [(m.th k).sta]).size = 1 := rfl
      have hcv := conv_one (w := wr) (x := (m.th k).sta)
      generalize strOf (stsL k m) = A at *
      generalize strOf [(m.th k).sta] = A1 at *
      generalize (m.th k).sta = st at *
      clear HT hB
      go_wp2_with fail
      go_roundw
      case rel => exact ⟨k + 1, by omega, by rw [HE.out], by go_num, HBB.out.alloc HBB.out.size _⟩
      case measure => simp [intOf]; omega
    · obtain rfl : k = n := by omega
      have hlt1 : ¬ (k : Int) < (k : Int) := by omega
      clear HT hB
      go_wp2_with fail
      go_ret
      exact ⟨rfl, HBB.out⟩

set_option maxRecDepth 100000 in
set_option maxHeartbeats 2000000 in
theorem r_Owners (Y : Lay) (m : Mac) (n : Nat) (log : ByteArray) (w : World) (h : MachAt w n Y m log) (ho : ∀ l, m.own l = -1 ∨ ∃ k : Nat, k < 4 ∧ m.own l = (k : Int)) :
    Calls Tryz.prog 22 #[.pointer (some ⟨Y.b, 0, none⟩)] w fun e w' => e = .returned (.string (strOf (ownL m))) ∧ Below w.heap.size w w' := by
  obtain ⟨ob, oo, ocap, hv, hcs, _⟩ := h.owners
  have f4 := h.fields.2.2.2.2.1
  rw [hv] at f4
  have fb := h.fields.2.2.2.2.2.2.2.2.2.2
  have fo : ob < w.heap.size := by
    have hsl := h.sl 1 (by decide)
    rw [hv] at hsl
    obtain ⟨_, cur, hc⟩ := hsl.block
    exact (Array.getElem?_eq_some_iff.1 hc).1
  have HO := hide ho
  have HC := hide hcs
  have HOE : Hid (ownL m = (List.range 4).map (fun l => nameI (m.own l))) := rfl
  rw [HOE.out]
  clear h hcs hv ho
  go_enter Tryz.func22, Tryz.ntmps22
  go_wp2_with fail
  go_loopw [3, 4] (fun a s wr => ∃ l : Nat, l ≤ 4 ∧ a = .string (strOf ((List.range l).map (fun l => nameI (m.own l)))) ∧ s = .int .i64 l ∧ Below w.heap.size w wr) (fun _ s _ => 4 - (intOf s).toNat)
  case atStart => exact ⟨0, Nat.zero_le _, rfl, rfl, Below.refl _ _⟩
  case round =>
    obtain ⟨l, hl, rfl, rfl, hB⟩ := hrel
    have f4b := (hB.cell (p := ⟨Y.b, 4, none⟩) fb).trans f4
    have fbb : Y.b < wr.heap.size := Nat.lt_of_lt_of_le fb hB.size
    have foo : ob < wr.heap.size := Nat.lt_of_lt_of_le fo hB.size
    have HBB := hide hB
    by_cases hlt : l < 4
    · have hlt1 : (l : Int) < 4 := by omega
      have c0 := (hB.cell (p := ⟨ob, oo + l, none⟩) fo).trans (HC.out l hlt)
      have hsz : (strOf ((List.range l).map (fun l => nameI (m.own l)))).size = l := by rw [str_size]; simp
      have HE : Hid (strOf ((List.range l).map (fun l => nameI (m.own l))) ++ strOf [nameI (m.own l)] = strOf ((List.range (l + 1)).map (fun l => nameI (m.own l)))) := by
        unfold Hid; rw [← strOf_append]; simp [List.range_succ]
      rcases HO.out l with e | ⟨k, hk, e⟩
      · rw [e] at c0 HE
        have HE2 : Hid (strOf ((List.range l).map (fun l => nameI (m.own l))) ++ ⟨#[45]⟩ = strOf ((List.range (l + 1)).map (fun l => nameI (m.own l)))) := HE.out
        clear HO HC HE hB e
        generalize strOf ((List.range l).map (fun l => nameI (m.own l))) = A at *
        go_wp2_with fail
        go_roundw
        case rel => exact ⟨l + 1, by omega, by rw [← HE2.out], by go_num, HBB.out⟩
        case measure => simp [intOf]; omega
      · rw [e] at c0
        have HE2 : Hid (strOf ((List.range l).map (fun l => nameI (m.own l))) ++ strOf [48 + (k : Int)] = strOf ((List.range (l + 1)).map (fun l => nameI (m.own l)))) := by
          have := HE.out
          rw [e, show nameI (k : Int) = 48 + (k : Int) by unfold nameI; rw [if_neg (by omega)]] at this
          exact this
        have HD := hide (fun W => r_digits (k : Int) W (by omega) (by omega))
        have HDL := dig_last k (by omega)
        have hd3 : (strOf (dig3 (k : Int))).size = 3 := rfl
        have hd1 : (strOf [48 + (k : Int)]).size = 1 := rfl
        clear HO HC HE hB e
        generalize strOf ((List.range l).map (fun l => nameI (m.own l))) = A at *
        generalize strOf (dig3 (k : Int)) = D at *
        generalize strOf [48 + (k : Int)] = D1 at *
        go_wp2_with fail
        refine (HD.out _).mono ?_
        rintro e w2 ⟨rfl, hb2⟩
        have HB2 := hide (HBB.out.trans (hb2.mono HBB.out.size))
        clear hb2 HD
        go_wp2_with fail
        go_roundw
        case rel => exact ⟨l + 1, by omega, by rw [← HE2.out], by go_num, HB2.out⟩
        case measure => simp [intOf]; omega
    · obtain rfl : l = 4 := by omega
      clear HO HC hB hlt hl
      rw [show ((4 : Nat) : Int) = 4 from rfl]
      go_wp2_with fail
      go_ret
      exact ⟨rfl, HBB.out⟩

set_option maxHeartbeats 1000000 in
theorem r_Given (s : ByteArray) (q n : Int) (w : World) (hm : s.size ≤ maxLen) :
    Calls Tryz.prog 19 #[.string s, .int .i64 q, .int .i64 n] w fun e w' => ∃ r : Int × Int, GivenRel (bytesOf s) q n r ∧ e = .returned (.tuple #[.int .i64 r.1, .int .i64 r.2]) ∧ Below w.heap.size w w' := by
  have HC := hide (r_Check s w hm)
  go_enter Tryz.func19, Tryz.ntmps19
  go_wp2_with fail
  refine HC.out.mono ?_
  rintro e w1 ⟨⟨r1, r2⟩, hr, rfl, hb⟩
  have HB := hide hb
  have HN : Hid (¬ r1 = 0 → GivenRel (bytesOf s) q n (r1, r2)) := fun h => ⟨_, hr, .inl ⟨h, rfl⟩⟩
  have HX : Hid (r1 = 0 → ¬ inR q n → GivenRel (bytesOf s) q n (8, 0)) := fun h hi => ⟨_, hr, .inr (.inl ⟨h, hi, rfl⟩)⟩
  have HY : Hid (r1 = 0 → inR q n → GivenRel (bytesOf s) q n (0, 0)) := fun h hi => ⟨_, hr, .inr (.inr ⟨h, hi, rfl⟩)⟩
  clear hr hb HC
  by_cases hz : r1 = 0
  · have hz0 : (r1 != 0) = false := by simp [hz]
    by_cases h1 : q < 1
    · have X := hide (HX.out hz (fun hi => by have := hi.1; omega))
      clear HN HX HY hz
      go_wp2_with fail
      go_ret2
      exact ⟨(8, 0), X.out, rfl, HB.out⟩
    · by_cases h2 : 9 < q
      · have X := hide (HX.out hz (fun hi => by have := hi.2.1; omega))
        clear HN HX HY hz
        go_wp2_with fail
        go_ret2
        exact ⟨(8, 0), X.out, rfl, HB.out⟩
      · by_cases h3 : n < 0
        · have X := hide (HX.out hz (fun hi => by have := hi.2.2.1; omega))
          clear HN HX HY hz
          go_wp2_with fail
          go_ret2
          exact ⟨(8, 0), X.out, rfl, HB.out⟩
        · by_cases h4 : 60 < n
          · have X := hide (HX.out hz (fun hi => by have := hi.2.2.2; omega))
            clear HN HX HY hz
            go_wp2_with fail
            go_ret2
            exact ⟨(8, 0), X.out, rfl, HB.out⟩
          · have X := hide (HY.out hz ⟨by omega, by omega, by omega, by omega⟩)
            clear HN HX HY hz
            go_wp2_with fail
            go_ret2
            exact ⟨(0, 0), X.out, rfl, HB.out⟩
  · have hz0 : (r1 != 0) = true := by simp [hz]
    have X := hide (HN.out hz)
    clear HN HX HY hz
    go_wp2_with fail
    go_ret2
    exact ⟨(r1, r2), X.out, rfl, HB.out⟩

end Go.Proofs.YtjbmflgamogefabGreat
