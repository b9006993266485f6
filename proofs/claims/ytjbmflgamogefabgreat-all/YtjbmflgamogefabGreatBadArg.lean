/- green's placeInText, badArg, read, Check. -/
import Derived.Test.YtjbmflgamogefabGreatRdWalk
import Derived.Test.YtjbmflgamogefabGreatCodeErr
namespace Go.Proofs.YtjbmflgamogefabGreat
open Go.RowKit

set_option maxHeartbeats 400000 in
theorem g_place (st n : Int) (lv : Value) (w : World) (hlv : ∃ ao k cap, lv = .slice ao k cap) (h0 : 0 ≤ st) (h1 : st ≤ 1000) (h2 : 0 ≤ n) (h3 : n ≤ 1000) :
    Calls Tryz.prog 36 #[.agg #[.int .i64 st, lv], .int .i64 n] w fun e w' => e = .returned (.int .i64 (st + 3 * n)) ∧ Below w.heap.size w w' := by
  obtain ⟨ao, k, cap, rfl⟩ := hlv
  go_enter Tryz.func36, Tryz.ntmps36
  go_wp2
  go_ret
  exact ⟨rfl, (Below.refl _ _).alloc (Nat.le_refl _) _⟩

/-- What badArg answers. -/
def badTold (r : Option Int) : Ending := match r with
  | some p => .returned (.tuple #[.bool true, .int .i64 p])
  | none => .returned (.tuple #[.bool false, .int .i64 0])

set_option maxRecDepth 100000 in
set_option maxHeartbeats 4000000 in
theorem g_badArg (v : Value) (cs : Cods) (w : World) (hcs : GCods w 0 v cs) (hgood : ∀ x ∈ cs, GoodCode 400 x.1 x.2) (hlen : cs.length ≤ 4) :
    Calls Tryz.prog 49 #[v] w fun e w' => e = badTold (badCods cs) ∧ Below w.heap.size w w' := by
  obtain ⟨ao, cap, rfl⟩ := hcs.slice
  have HG := hide hgood
  have HCS : Hid (∀ W, Below w.heap.size w W → GCods W 0 (.slice ao cs.length cap) cs) := fun W hb => hcs.below hb
  clear hcs hgood
  go_enter Tryz.func49, Tryz.ntmps49
  go_wp2
  go_loopw [10] (fun i wr => ∃ j : Nat, j ≤ cs.length ∧ i = .int .i64 j ∧ Hid (badCods (cs.drop j) = badCods cs) ∧ Below w.heap.size w wr) (fun i _ => cs.length - (intOf i).toNat)
  case atStart => exact ⟨0, Nat.zero_le _, rfl, rfl, Below.refl _ _⟩
  case round =>
    obtain ⟨j, hj, rfl, hbad, hbel⟩ := hrel
    by_cases hlt : j < cs.length
    · obtain ⟨⟨st, I⟩, hx⟩ : ∃ x, cs[j]? = some x := ⟨cs[j], by simp [hlt]⟩
      have hgx := HG.out _ (List.mem_of_getElem? hx)
      simp only at hgx
      have hgl : st + 3 * I.length ≤ 400 := hgx.1
      have HGX := hide hgx
      have HBAD : Hid (badCods cs = match badIn I.length I st with
          | some p => some p
          | none => badCods (cs.drop (j + 1))) := by rw [Hid, ← hbad.out]; exact badCods_drop hx
      obtain ⟨g, lv, rfl, hg, d0, d1, hI⟩ := (HCS.out wr hbel).at hx
      obtain ⟨lo, lcap, rfl⟩ := row_slice hI
      have HII : Hid (∀ W, Below wr.heap.size wr W → GIns W (.slice lo I.length lcap) I) := fun W hb => hI.below hb
      have hj1 : (j : Int) < (cs.length : Int) := by omega
      obtain ⟨wq, hwq⟩ : ∃ wq : World, wq = wr := ⟨_, rfl⟩
      subst hwq
      have HBEL := hide hbel
      clear hbad hx hbel hI hgx
      go_wp2_with fail
      go_loopw [17] (fun i wx => ∃ m : Nat, m ≤ I.length ∧ i = .int .i64 m ∧ Hid (badIn I.length (I.drop m) (st + 3 * m) = badIn I.length I st) ∧ Below (wq.heap.size + 1) (wq.alloc (.cells #[.int .i64 (st : Nat), .slice lo I.length lcap] 91)) wx) (fun i _ => I.length - (intOf i).toNat)
      case atStart => exact ⟨0, Nat.zero_le _, rfl, by simp [Hid], Below.refl _ _⟩
      case round =>
        obtain ⟨m, hm2, rfl, hin, hbx⟩ := hrel
        have hbq : Below wq.heap.size wq wr := ((Below.refl _ _).alloc (Nat.le_refl _) _).trans (hbx.mono (by omega))
        have hzx := hbx.size
        simp at hzx
        have hzq : wq.heap.size < wr.heap.size := by omega
        have c0 : wr.cell? ⟨wq.heap.size, 0, none⟩ = some (.int .i64 (st : Nat)) := (hbx.cell (p := ⟨wq.heap.size, 0, none⟩) (by simp)).trans (cell_new _ _ _ 0)
        have c1 : wr.cell? ⟨wq.heap.size, 1, none⟩ = some (.slice lo I.length lcap) := (hbx.cell (p := ⟨wq.heap.size, 1, none⟩) (by simp)).trans (cell_new _ _ _ 1)
        by_cases hmn : m < I.length
        · obtain ⟨⟨c, a⟩, hy⟩ : ∃ x, I[m]? = some x := ⟨I[m], by simp [hmn]⟩
          obtain ⟨gi, rfl, hgi, e0, e1⟩ := (HII.out wr hbq).at hy
          have hlet := (HGX.out.2 _ (List.mem_of_getElem? hy)).1
          simp only at hlet
          have HEQ := hide (argOkG_eq c a I.length hlet)
          have HBI : Hid (badIn I.length I st = if argOk c a I.length = true then badIn I.length (I.drop (m + 1)) (st + 3 * (m + 1 : Nat)) else some ((st : Int) + 3 * (m : Int))) := by rw [Hid, ← hin.out]; exact badIn_drop hy
          have HBX := hide hbx
          clear hy hin hbx hbq hlet
          go_wp2_with fail
          refine (g_argAllowed c a I.length _).mono ?_
          rintro e w2 ⟨rfl, hb2⟩
          have hb3 : Below wr.heap.size wr w2 := ((Below.refl _ _).alloc (Nat.le_refl _) _).trans (hb2.mono (by simp))
          have k0 := (hb3.cell (p := ⟨wq.heap.size, 0, none⟩) (by show wq.heap.size < _; omega)).trans c0
          have k1 := (hb3.cell (p := ⟨wq.heap.size, 1, none⟩) (by show wq.heap.size < _; omega)).trans c1
          have HB3 : Hid (Below (wq.heap.size + 1) (wq.alloc (.cells #[.int .i64 (st : Nat), .slice (some ⟨gi, 0, none⟩) I.length lcap] 91)) w2) := HBX.out.trans (hb3.mono (by omega))
          have HB4 : Hid (Below w.heap.size w w2) := (HBEL.out.alloc HBEL.out.size _).trans (HB3.out.mono (by have := HBEL.out.size; omega))
          rw [HEQ.out]
          clear hb2 hb3
          cases hok : argOk c a (I.length : Int) with
          | true =>
            have HN : Hid (badIn I.length (I.drop (m + 1)) (st + 3 * (m + 1 : Nat)) = badIn I.length I st) := by rw [Hid, HBI.out, if_pos hok]
            clear HBI
            go_wp2_with fail
            go_roundw
            case rel => exact ⟨m + 1, by omega, by go_num, HN, HB3.out⟩
            case measure => simp [intOf]; omega
          | false =>
            have HR : Hid (badCods cs = some ((st : Int) + 3 * m)) := by
              have h1 : badIn I.length I st = some ((st : Int) + 3 * (m : Int)) := by rw [HBI.out, if_neg (by rw [hok]; simp)]
              have h2 := HBAD.out
              rw [h1] at h2
              exact h2
            clear HBI
            go_wp2_with fail
            refine (g_place _ _ _ _ ⟨_, _, _, rfl⟩ (by omega) (by omega) (by omega) (by omega)).mono ?_
            rintro e w5 ⟨rfl, hb5⟩
            have HB5 : Hid (Below w.heap.size w w5) := HB4.out.trans (hb5.mono HB4.out.size)
            clear hb5
            go_wp2_with fail
            go_ret2
            exact ⟨by rw [HR.out]; rfl, HB5.out⟩
        · have hme : m = I.length := by omega
          have HN : Hid (badCods (cs.drop (j + 1)) = badCods cs) := by
            have h1 : badIn I.length I st = none := by
              rw [← hin.out, hme, List.drop_of_length_le (Nat.le_refl _)]; rfl
            have h2 := HBAD.out
            rw [h1] at h2
            exact h2.symm
          have HB4 : Hid (Below w.heap.size w wr) := (HBEL.out.alloc HBEL.out.size _).trans (hbx.mono (by have := HBEL.out.size; omega))
          clear hin hbx hme hbq
          go_wp2_with fail
          go_roundw
          case rel => exact ⟨j + 1, by omega, by go_num, HN, HB4.out⟩
          case measure => simp [intOf]; omega
    · have HR : Hid (badCods cs = none) := by rw [Hid, ← hbad.out, List.drop_of_length_le (by omega)]; rfl
      have HBEL := hide hbel
      clear hbad hbel
      go_wp2_with fail
      go_ret2
      exact ⟨by rw [HR.out]; rfl, HBEL.out⟩

end Go.Proofs.YtjbmflgamogefabGreat
