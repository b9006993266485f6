/- green's allSpots. -/
import Derived.Test.YtjbmflgamogefabGreatGoOn
namespace Go.Proofs.YtjbmflgamogefabGreat
open Go.RowKit

theorem made_row {w : World} {base e g n : Nat} {z : Value} (h : w.ownsRow base e 1 (.slice (some ⟨g, 0, none⟩) n n) n (madeCells #[z] (n * 1)).toList) : ∃ cur, w.heap[g]? = some (.cells cur e (0, 0)) ∧ cur.toList = List.replicate n z := by
  rcases h.2 with ⟨h1, _⟩ | ⟨g', cap, cur, hv, _, hg, _, _, hs, ht⟩
  · cases h1
  · simp only [Value.slice.injEq, Option.some.injEq, Addr.mk.injEq] at hv
    obtain ⟨⟨rfl, _, _⟩, _, rfl⟩ := hv
    refine ⟨cur, hg, ?_⟩
    rw [toList_madeCells_one, Nat.mul_one] at ht
    rw [← ht, List.take_of_length_le (by simp; omega)]
theorem marks_start {N : Nat} {cur : Array Value} (h : cur.toList = List.replicate N (.bool false)) : Marks N cur [] := by
  refine ⟨by rw [← Array.length_toList, h]; simp, fun j hj => ?_⟩
  rw [← Array.getElem?_toList, h, List.getElem?_replicate, if_pos hj]; rfl
theorem Tryz.info4 : (Tryz.prog.info? 4).map (fun i => (i.zero, i.size, i.bytes)) = some (some (.bool false), 1, 1) := by kernel_rfl
theorem below_of_grown {w w' : World} (h : w.grownBy w' none) : Below w.heap.size w w' := ⟨h.os, h.tape, h.output, h.size, fun k hk => h.block k hk (by simp)⟩

set_option maxRecDepth 100000 in
set_option maxHeartbeats 4000000 in
theorem g_allSpots (lv : Value) (I : List In) (w : World) (hI : GIns w lv I) (hO : OkCode I) (hn : I.length ≤ 200) :
    Calls Tryz.prog 50 #[lv] w fun e w' => ∃ v' L, e = .returned v' ∧ GSpots w' 0 v' L ∧ IsAll I L ∧ Below w.heap.size w w' := by
  obtain ⟨ao, cap, rfl⟩ := row_slice hI
  have HI : Hid (∀ W, Below w.heap.size w W → GIns W (.slice ao I.length cap) I) := fun W hb => hI.below hb
  have HO := hide hO
  clear hI hO
  obtain ⟨i0, hi, hz0, hz1, hz2⟩ := info_parts Tryz.info4
  obtain ⟨N, hN⟩ : ∃ N, N = (I.length + 1) * 625 * 7 := ⟨_, rfl⟩
  have HN := hide hN
  have hNN : ((I.length : Int) + 1) * 625 * 7 = (N : Int) := by omega
  have hNb : N ≤ 1000000 := by omega
  have hby : i0.bytes * N ≤ 281474976710656 := by rw [hz2]; omega
  clear hN
  go_enter Tryz.func50, Tryz.ntmps50
  go_wp2_with (at_make; refine wpList_make_full _ rfl _ _ 127 rfl w.heap.size 4 i0 (.bool false) 1 Tryz.underlying127 hi hz0 hz1 _ _ _ _ N rfl rfl (by first | rfl | omega) (by first | rfl | omega) hby (by unfold maxLen; omega) (Nat.le_refl _) ?_; intro w1 hm hg)
  have hb1 := below_of_grown hg
  have hz := hb1.size
  obtain ⟨cur, hcur, hcl⟩ := made_row hm
  have hlt := heap_ltG hcur
  have hb2 : Below w1.heap.size w1 (w1.alloc (.cells #[.slice ao I.length cap, .slice (some ⟨w.heap.size, 0, none⟩) N N, .slice none 0 0] 130)) := (Below.refl _ _).alloc (Nat.le_refl _) _
  have hW0 : WalkAt (w1.alloc (.cells #[.slice ao I.length cap, .slice (some ⟨w.heap.size, 0, none⟩) N N, .slice none 0 0] 130)) w.heap.size w1.heap.size w.heap.size (.slice ao I.length cap) (.slice none 0 0) I.length [] := by
    refine ⟨?_, ⟨cur, ?_, ?_⟩, World.ownsRow_nil _ _ _ _, hz, Nat.le_refl _⟩
    · rw [heap_alloc_new, HN.out]
    · rw [hb2.block _ hlt]; exact hcur
    · rw [← HN.out]; exact marks_start hcl
  have HR := hide (g_reach w.heap.size w1.heap.size w.heap.size I.length _ _ [] 0 0 [] _ hW0 (Valid.first _) (fun t ht => by cases ht) (by simp) hn (by simp; omega))
  have HB1 := hide hb1
  clear hW0 hb2 hcur hcl hm hg hb1
  go_wp2_with fail
  refine HR.out.mono ?_
  rintro e w2 ⟨rfl, sv, hW2, hK2, _⟩
  have HW2 := hide hW2
  have hz2' := hK2.size
  simp at hz2'
  have HB2 : Hid (Below w.heap.size w w2) := (HB1.out.alloc (by omega) _).trans (hK2.below (by simp; omega) (by omega) (Nat.le_refl _) (fun k hk => by simp [Value.ownBlock] at hk))
  clear hW2 hK2 HR
  go_wp2_with fail
  go_loopw [5] (fun i wr => ∃ (k : Nat) (L : List Sp) (sv : Value), i = .int .i64 k ∧ WalkAt wr w.heap.size w1.heap.size w.heap.size (.slice ao I.length cap) sv I.length L ∧ Walking I L k ∧ Below w.heap.size w wr) (fun i _ => (I.length + 1) * 625 * 7 - (intOf i).toNat)
  case atStart => exact ⟨0, [s0], sv, rfl, HW2.out, Walking.start I, HB2.out⟩
  case round =>
    obtain ⟨k, L, sv, rfl, hW, hwk, hbel⟩ := hrel
    obtain ⟨so, scap, rfl⟩ := row_slice hW.spots
    obtain ⟨c0, c1, c2, _, hb⟩ := three hW.self
    have hbd := hwk.bd HO.out
    have hle := hwk.le
    have HWK := hide hwk
    have HW := hide hW
    have HBEL := hide hbel
    have hzr := hbel.size
    clear hwk hW hbel
    by_cases hlt2 : k < L.length
    · obtain ⟨⟨sp, sh, sr⟩, hx⟩ : ∃ x, L[k]? = some x := ⟨L[k], by simp [hlt2]⟩
      obtain ⟨g, rfl, hgb, hg, d0, d1, d2⟩ := GSpots.at HW.out.spots hx
      simp only at d0 d1 d2
      have hbx : Below wr.heap.size wr (wr.alloc (.cells #[.int .i64 sp, .int .i64 sh, .int .i64 (enc sr)] 112)) := (Below.refl _ _).alloc (Nat.le_refl _) _
      have HG := hide (g_goOn w.heap.size w1.heap.size w.heap.size k _ _ I L sp sh sr _ (HW.out.below hbx) ((HI.out wr HBEL.out).below hbx) HO.out HWK.out hx hn (by simp; omega))
      clear hx hbx
      go_wp2_with fail
      refine HG.out.mono ?_
      rintro e w3 ⟨rfl, sv', L', hW3, hwk3, hK3, ho3⟩
      have hB3 : Below w.heap.size w w3 := (HBEL.out.alloc (by omega) _).trans (hK3.below (by simp; omega) (by omega) (Nat.le_refl _) (fun j hj => by simp only [Value.ownBlock, Option.some.injEq] at hj; omega))
      clear hK3 ho3 HG
      go_wp2_with fail
      go_roundw
      case rel => exact ⟨k + 1, L', sv', by go_num, hW3, hwk3, hB3⟩
      case measure => simp [intOf]; omega
    · have HA : Hid (IsAll I L) := by
        have := HWK.out
        rw [show k = L.length from by omega] at this
        exact this.all
      go_wp2_with fail
      go_ret
      exact ⟨_, L, rfl, own_mono HW.out.spots (Nat.zero_le _), HA.out, HBEL.out⟩

end Go.Proofs.YtjbmflgamogefabGreat
