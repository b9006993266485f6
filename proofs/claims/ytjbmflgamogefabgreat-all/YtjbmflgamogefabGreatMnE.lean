/- The reference's ring, Rings, has. -/
import Derived.Test.YtjbmflgamogefabGreatMnD
namespace Go.Proofs.YtjbmflgamogefabGreat
open Go.RowKit

/-- Those to whom one comes from p in so many steps. -/
def setI (n : Nat) (m : Mac) : Nat → Nat → (Nat → Bool) → (Nat → Bool)
  | 0, _, s => s
  | i + 1, p, s => setI n m i (obst n m p).toNat (upd s p true)
structure BAt (w wr : World) (s : Nat → Bool) : Prop where
  row : wr.heap[w.heap.size]? = some (.cells (arr4 s) 4 (0, 0))
  bel : Below w.heap.size w wr
theorem BAt.cells {w wr : World} {s : Nat → Bool} (h : BAt w wr s) : (∀ j, j < 4 → wr.cell? ⟨w.heap.size, j, none⟩ = some (.bool (s j))) ∧ (∀ j, wr.frozen? ⟨w.heap.size, j, none⟩ = false) ∧ w.heap.size < wr.heap.size :=
  ⟨fun j hj => by rw [cell_of_row _ _ _ _ _ _ h.row]; exact arr4_at s hj, frozen_row h.row, (Array.getElem?_eq_some_iff.1 h.row).1⟩
theorem BAt.set {w wr : World} {s : Nat → Bool} (h : BAt w wr s) {p : Nat} (hp : p < 4) : BAt w (wr.setCell ⟨w.heap.size, p, none⟩ (.bool true)) (upd s p true) :=
  ⟨by rw [heap_setCell_same wr _ p _ _ _ h.row, arr4_set s hp], h.bel.setCell (Nat.le_refl _) _⟩
theorem BAt.below {w wr w' : World} {s : Nat → Bool} (h : BAt w wr s) (hb : Below wr.heap.size wr w') : BAt w w' s :=
  ⟨by rw [hb.block _ (Array.getElem?_eq_some_iff.1 h.row).1]; exact h.row, h.bel.trans (hb.mono h.bel.size)⟩

theorem mk_b4 (w : World) : (Instr.makeSlice 127 (.int .i64 4) (.int .i64 4)).run Tryz.prog w = .ok (.slice (some ⟨w.heap.size, 0, none⟩) 4 4) (w.alloc (.cells #[.bool false, .bool false, .bool false, .bool false] 4)) := by
  kernel_rfl

set_option maxRecDepth 100000 in
set_option maxHeartbeats 2000000 in
theorem r_ring (Y : Lay) (m : Mac) (n k : Nat) (log : ByteArray) (w : World) (h : MachAt w n Y m log) (hl : ∀ l, (m.blk l).length ≤ 1000) (hx : ∀ j, nxtM m j 4 0 = obst n m j) (hit : ∀ a, itO n m a k < 4 ∧ 0 ≤ obst n m (itO n m a k)) :
    Calls Tryz.prog 46 #[.pointer (some ⟨Y.b, 0, none⟩), .int .i64 k] w fun e w' => e = .returned (.string (strOf (namesM (setI n m 4 k (fun _ => false)) 4))) ∧ Below w.heap.size w w' := by
  have HN : Hid (∀ (j : Nat) wr, Below w.heap.size w wr → Calls Tryz.prog 67 #[.pointer (some ⟨Y.b, 0, none⟩), .int .i64 j] wr fun e w' => e = .returned (.int .i64 (obst n m j)) ∧ w' = wr) := fun j wr hb => by
    have := r_next Y m n j log wr (h.below hb) hl
    rw [hx j] at this
    exact this
  have HIT := hide hit
  have HD : Hid (∀ (i : Nat) W, i < 4 → Calls Tryz.prog 33 #[.int .i64 (i : Int)] W fun e w' => e = .returned (.string (strOf (dig3 (i : Int)))) ∧ Below W.heap.size W w') := fun i W hi => r_digits (i : Int) W (by omega) (by omega)
  have HDL : Hid (∀ i : Nat, i < 4 → (strOf (dig3 (i : Int))).extract 2 3 = strOf [48 + (i : Int)]) := fun i hi => dig_last i (by omega)
  obtain ⟨S, hS⟩ : ∃ S, setI n m 4 k (fun _ => false) = S := ⟨_, rfl⟩
  rw [hS]
  have HS := hide hS
  have HST : Hid (BAt w (w.alloc (.cells #[.bool false, .bool false, .bool false, .bool false] 4)) (fun _ => false)) := ⟨heap_alloc_new w _, (Below.refl _ _).alloc (Nat.le_refl _) _⟩
  clear h hl hx hit hS
  have hmk := mk_b4
  go_enter Tryz.func46, Tryz.ntmps46
  go_wp2_with fail
  clear hmk
  generalize w.alloc (.cells #[.bool false, .bool false, .bool false, .bool false] 4) = wA at *
  go_loopw [6, 7] (fun a s wr => ∃ (i : Nat) (p : Int) (t : Nat → Bool), i ≤ 4 ∧ a = .int .i64 p ∧ s = .int .i64 i ∧ BAt w wr t ∧ p = (itO n m i k : Nat) ∧ setI n m (4 - i) (itO n m i k) t = S) (fun _ s _ => 4 - (intOf s).toNat)
  case atStart => exact ⟨0, _, fun _ => false, Nat.zero_le _, rfl, rfl, HST.out, rfl, HS.out⟩
  case round =>
    obtain ⟨i, p, t, hi, rfl, rfl, hB, hp, hse⟩ := hrel
    by_cases hlt : i < 4
    · have hlt1 : (i : Int) < 4 := by omega
      obtain ⟨h4, h0⟩ := HIT.out i
      rw [show 4 - i = (3 - i) + 1 by omega, setI] at hse
      obtain ⟨b0, b1, b2⟩ := hB.cells
      have HB2 := hide (hB.set h4)
      have q0 := b0 _ h4
      have q1 := b1 (itO n m i k)
      have H1 := hide (HN.out (itO n m i k) _ HB2.out.bel)
      have hn1 : itO n m (i + 1) k = (obst n m (itO n m i k)).toNat := by rw [itO_add n m i 1 k]; rfl
      rw [← hn1] at hse
      have hob : obst n m (itO n m i k) = ((itO n m (i + 1) k : Nat) : Int) := by omega
      rw [hob] at H1
      have HSE := hide hse
      subst hp
      clear HN HIT HD HDL HS HST hB b0 b1 hse hn1 hob h0
      generalize itO n m i k = P at *
      generalize hP2 : itO n m (i + 1) k = P2 at *
      have p0 : (P : Int) < 4 := by omega
      go_wp2_with fail
      refine H1.out.mono ?_
      rintro e w' ⟨rfl, h'⟩
      replace h' := h'.symm
      subst h'
      go_wp2_with fail
      go_roundw
      case rel => exact ⟨i + 1, (P2 : Int), upd t P true, by omega, rfl, by go_num, HB2.out, by rw [hP2], by rw [hP2, show 4 - (i + 1) = 3 - i by omega]; exact HSE.out⟩
      case measure => simp [intOf]; omega
    · obtain rfl : i = 4 := by omega
      have hse : t = S := hse
      subst hse
      subst hp
      clear HN HIT HS HST hlt hi
      rw [show ((4 : Nat) : Int) = 4 from rfl]
      have HBB := hide hB
      clear hB
      go_wp2_with fail
      go_loopw [8, 9] (fun a s wr => ∃ i : Nat, i ≤ 4 ∧ a = .string (strOf (namesM t i)) ∧ s = .int .i64 i ∧ BAt w wr t) (fun _ s _ => 4 - (intOf s).toNat)
      case atStart => exact ⟨0, Nat.zero_le _, rfl, rfl, HBB.out⟩
      case round =>
        obtain ⟨i, hi, rfl, rfl, hB⟩ := hrel
        by_cases hlt : i < 4
        · have hlt1 : (i : Int) < 4 := by omega
          obtain ⟨b0, b1, b2⟩ := hB.cells
          have q0 := b0 i hlt
          have HD1 := hide (fun W => HD.out i W hlt)
          have HL1 := HDL.out i hlt
          have HB2 := hide hB
          have hd3 : (strOf (dig3 (i : Int))).size = 3 := rfl
          have hsz : ¬ (strOf (namesM t i)).size + (strOf [48 + (i : Int)]).size > 9223372036854775807 := by
            have e1 : (strOf (namesM t i)).size = (namesM t i).length := by simp [strOf, ByteArray.size]
            have e2 : (strOf [48 + (i : Int)]).size = 1 := rfl
            have := names_len t i
            omega
          cases ht : t i with
          | false =>
            have HE : Hid (strOf (namesM t i) = strOf (namesM t (i + 1))) := by simp [Hid, namesM, ht]
            rw [ht] at q0
            clear HD HDL HD1 HL1 hB b0 b1 hd3 hsz
            generalize strOf (namesM t i) = A at *
            go_wp2_with fail
            go_roundw
            case rel => exact ⟨i + 1, by omega, by rw [HE.out], by go_num, HB2.out⟩
            case measure => simp [intOf]; omega
          | true =>
            have HE : Hid (strOf (namesM t i) ++ strOf [48 + (i : Int)] = strOf (namesM t (i + 1))) := by simp [Hid, namesM, ht, strOf_append]
            rw [ht] at q0
            clear HD HDL hB b0 b1
            generalize strOf (namesM t i) = A at *
            generalize strOf (dig3 (i : Int)) = D at *
            generalize strOf [48 + (i : Int)] = D1 at *
            go_wp2_with fail
            refine (HD1.out _).mono ?_
            rintro e w2 ⟨rfl, hb2⟩
            have HB3 := hide (HB2.out.below hb2)
            clear hb2 HB2 HD1
            go_wp2_with fail
            go_roundw
            case rel => exact ⟨i + 1, by omega, by rw [← HE.out], by go_num, HB3.out⟩
            case measure => simp [intOf]; omega
        · obtain rfl : i = 4 := by omega
          have HB2 := hide hB.bel
          clear hB HD HDL
          rw [show ((4 : Nat) : Int) = 4 from rfl]
          go_wp2_with fail
          go_ret
          exact ⟨rfl, HB2.out⟩

/-- A slice of strings. -/
def StrAt (w : World) (base : Nat) (v : Value) (L : List ByteArray) : Prop := w.ownsRow base 9 1 v L.length (L.map .string)
theorem StrAt.nil (w : World) (base : Nat) : StrAt w base (.slice none 0 0) [] := World.ownsRow_nil _ _ _ _
theorem StrAt.below {w w' : World} {base : Nat} {v : Value} {L : List ByteArray} (h : StrAt w base v L) (hb : Below w.heap.size w w') : StrAt w' base v L := own_below h hb
theorem StrAt.slice {w : World} {base : Nat} {v : Value} {L : List ByteArray} (h : StrAt w base v L) : ∃ ao cap, v = .slice ao L.length cap := row_slice h
theorem StrAt.at {w : World} {base : Nat} {ao : Option Addr} {n cap : Nat} {L : List ByteArray} (h : StrAt w base (.slice ao n cap) L) {k : Nat} {x : ByteArray} (hk : L[k]? = some x) : ∃ g, ao = some ⟨g, 0, none⟩ ∧ g < w.heap.size ∧ w.cell? ⟨g, k, none⟩ = some (.string x) := by
  have hlt := (List.getElem?_eq_some_iff.1 hk).1
  obtain ⟨g, cap', hv, _, hg, hc⟩ := row_cell h (by omega)
  simp only [Value.slice.injEq] at hv
  exact ⟨g, hv.1, hg, hc k _ (by simp [hk])⟩
theorem info_str : (Tryz.prog.info? 9).map (fun i => (i.zero, i.size, i.bytes)) = some (some (.string ByteArray.empty), 1, 16) := by kernel_rfl
theorem under_strs : Tryz.prog.underlying 83 = some (.slice 9) := by kernel_rfl

set_option maxRecDepth 100000 in
set_option maxHeartbeats 2000000 in
theorem r_has (v : Value) (L : List ByteArray) (x : ByteArray) (base : Nat) (w : World) (h : StrAt w base v L) (hl : L.length ≤ 1000) :
    Calls Tryz.prog 32 #[v, .string x] w fun e w' => e = .returned (.bool (L.any (fun y => y.toList == x.toList))) ∧ w' = w := by
  obtain ⟨ao, cap, rfl⟩ := h.slice
  have H := hide h
  obtain ⟨R, hR⟩ : ∃ R, L.any (fun y => y.toList == x.toList) = R := ⟨_, rfl⟩
  rw [hR]
  clear h
  go_enter Tryz.func32, Tryz.ntmps32
  go_wp2_with fail
  go_loopw [5] (fun s wr => ∃ i : Nat, i ≤ L.length ∧ s = .int .i64 i ∧ wr = w ∧ (L.drop i).any (fun y => y.toList == x.toList) = R) (fun s _ => L.length - (intOf s).toNat)
  case atStart => exact ⟨0, Nat.zero_le _, rfl, rfl, hR⟩
  case round =>
    obtain ⟨i, hi, rfl, hww, hd⟩ := hrel
    replace hww := hww.symm
    subst hww
    by_cases hlt : i < L.length
    · have hlt1 : (i : Int) < (L.length : Int) := by omega
      obtain ⟨y, hy⟩ : ∃ y, L[i]? = some y := ⟨L[i], by simp [hlt]⟩
      obtain ⟨g, rfl, hg, c0⟩ := H.out.at hy
      have e : L.drop i = y :: L.drop (i + 1) := by
        rw [List.drop_eq_getElem_cons hlt]
        congr 1
        exact (List.getElem?_eq_some_iff.1 hy).2
      rw [e, List.any_cons] at hd
      cases hb : (y.toList == x.toList) with
      | true =>
        rw [hb, Bool.true_or] at hd
        subst hd
        clear H hy e hR
        generalize L.length = LN at *
        go_wp2_with fail
        go_ret
        exact ⟨rfl, rfl⟩
      | false =>
        rw [hb, Bool.false_or] at hd
        have HD := hide hd
        clear H hy e hd hR
        generalize hLN : L.length = LN at *
        go_wp2_with fail
        go_roundw
        case rel => exact ⟨i + 1, by omega, by go_num, by trivial, HD.out⟩
        case measure => simp [intOf]; omega
    · have hlt1 : ¬ (i : Int) < (L.length : Int) := by omega
      rw [List.drop_eq_nil_of_le (by omega), List.any_nil] at hd
      subst hd
      clear H hR
      generalize L.length = LN at *
      go_wp2_with fail
      go_ret
      exact ⟨rfl, rfl⟩

theorem setI_mono (n : Nat) (m : Mac) : ∀ (i p : Nat) (s : Nat → Bool) (t : Nat), s t = true → setI n m i p s t = true
  | 0, _, _, _, h => h
  | i + 1, p, s, t, h => setI_mono n m i _ _ t (by simp only [upd]; split <;> simp_all)
theorem names_ne (s : Nat → Bool) (k : Nat) (hk : s k = true) : ∀ i, k < i → ¬ namesM s i = []
  | 0, h => by omega
  | i + 1, h => by
    simp only [namesM]
    intro e
    obtain ⟨e1, e2⟩ := List.append_eq_nil_iff.1 e
    by_cases c : k = i
    · subst c; rw [hk] at e2; simp at e2
    · exact names_ne s k hk i (by omega) e1
theorem cau_hits (n : Nat) (m : Mac) (k : Nat) : ∀ i x, cauM n m k i (obst n m x) = true → ∃ j, 1 ≤ j ∧ j ≤ i ∧ itO n m j x = k ∧ ∀ a, a < j → 0 ≤ obst n m (itO n m a x)
  | 0, _, h => by simp [cauM] at h
  | i + 1, x, h => by
    rw [cauM] at h
    by_cases h0 : obst n m x < 0
    · rw [if_pos h0] at h; simp at h
    rw [if_neg h0] at h
    by_cases hk : obst n m x = (k : Int)
    · exact ⟨1, by omega, by omega, by simp [itO, hk], fun a ha => by
        have e : a = 0 := by omega
        subst e
        simpa [itO] using h0⟩
    · rw [if_neg hk] at h
      obtain ⟨j, j1, j2, j3, j4⟩ := cau_hits n m k i _ h
      refine ⟨j + 1, by omega, by omega, j3, fun a ha => ?_⟩
      match a, ha with
      | 0, _ => simpa [itO] using h0
      | a + 1, ha => exact j4 a (by omega)
theorem cau_all {n : Nat} {m : Mac} {k : Nat} (hk : k < 4) (ho : ∀ j, obst n m j < 4) (h : cauM n m k 4 (obst n m k) = true) : ∀ a, itO n m a k < 4 ∧ 0 ≤ obst n m (itO n m a k) := by
  obtain ⟨j, j1, _, j3, j4⟩ := cau_hits n m k 4 k h
  have hnn : ∀ a, 0 ≤ obst n m (itO n m a k) := by
    intro a
    induction a using Nat.strongRecOn with
    | ind a ih =>
      by_cases ha : a < j
      · exact j4 a ha
      · have e : itO n m a k = itO n m (a - j) k := by
          rw [show a = j + (a - j) by omega, itO_add, j3]
          congr 1; omega
        rw [e]; exact ih (a - j) (by omega)
  intro a
  refine ⟨?_, hnn a⟩
  match a with
  | 0 => exact hk
  | a + 1 =>
    rw [itO_add n m a 1 k]
    show (obst n m (itO n m a k)).toNat < 4
    have := ho (itO n m a k)
    have := hnn a
    omega
/-- The rings there are, of threads below i. -/
def ringOf (n : Nat) (m : Mac) (k : Nat) : List Int := namesM (setI n m 4 k (fun _ => false)) 4
def ringsL (n : Nat) (m : Mac) : Nat → List (List Int)
  | 0 => []
  | k + 1 => ringsL n m k ++ (if cauM n m k 4 (obst n m k) = true ∧ (ringOf n m k).head? = some (48 + (k : Int)) then [ringOf n m k] else [])
theorem rings_len (n : Nat) (m : Mac) : ∀ k, (ringsL n m k).length ≤ k
  | 0 => Nat.le_refl _
  | k + 1 => by
    have := rings_len n m k
    simp only [ringsL, List.length_append]
    split <;> simp <;> omega
theorem ring_ne (n : Nat) (m : Mac) {k : Nat} (hk : k < 4) : ¬ ringOf n m k = [] := names_ne _ k (setI_mono n m 3 _ _ k (by simp [upd])) 4 hk
theorem byte_0 {l : List Int} (h : ∀ x ∈ l, 0 ≤ x ∧ x < 256) {x : Int} (hk : l.head? = some x) (hlt : 0 < (strOf l).size) : (((strOf l)[0]'hlt).toNat : Int) = x := by
  have h1 := bytesOf_get (strOf l) 0 hlt
  rw [show bytesOf (strOf l) = l from by
    unfold bytesOf strOf
    simp only [List.map_map]
    conv => rhs; rw [← List.map_id l]
    refine List.map_congr_left (fun x hx => ?_)
    obtain ⟨h0, h1⟩ := h x hx
    simp [UInt8.toNat_ofNat']
    omega] at h1
  rw [List.head?_eq_getElem?] at hk
  rw [hk] at h1
  simp at h1
  exact h1.symm

set_option maxRecDepth 100000 in
set_option maxHeartbeats 2000000 in
theorem r_Rings (Y : Lay) (m : Mac) (n : Nat) (log : ByteArray) (w : World) (h : MachAt w n Y m log) (hn : n ≤ 4) (hl : ∀ l, (m.blk l).length ≤ 1000) (hx : ∀ j, nxtM m j 4 0 = obst n m j) (ho : ∀ j, obst n m j < 4) :
    Calls Tryz.prog 31 #[.pointer (some ⟨Y.b, 0, none⟩)] w fun e w' => ∃ v, e = .returned v ∧ StrAt w' w.heap.size v ((ringsL n m n).map strOf) ∧ Below w.heap.size w w' := by
  have HC : Hid (∀ (k : Nat) wr, Below w.heap.size w wr → Calls Tryz.prog 45 #[.pointer (some ⟨Y.b, 0, none⟩), .int .i64 k] wr fun e w' => e = .returned (.bool (cauM n m k 4 (obst n m k))) ∧ w' = wr) := fun k wr hb => r_caught Y m n k log wr (h.below hb) hl hx ho
  have HRG : Hid (∀ (k : Nat) wr, k < n → cauM n m k 4 (obst n m k) = true → Below w.heap.size w wr → Calls Tryz.prog 46 #[.pointer (some ⟨Y.b, 0, none⟩), .int .i64 k] wr fun e w' => e = .returned (.string (strOf (ringOf n m k))) ∧ Below wr.heap.size wr w') := fun k wr hk hc hb => r_ring Y m n k log wr (h.below hb) hl hx (cau_all (by omega) ho hc)
  have f1 := h.fields.2.1
  have fb := h.fields.2.2.2.2.2.2.2.2.2.2
  obtain ⟨i0, hi0, hz0, hz1, hz2⟩ := info_parts info_str
  clear h hl hx ho
  go_enter Tryz.func31, Tryz.ntmps31
  go_wp2_with fail
  go_loopw [3, 4] (fun v s wr => ∃ k : Nat, k ≤ n ∧ s = .int .i64 k ∧ StrAt wr w.heap.size v ((ringsL n m k).map strOf) ∧ Below w.heap.size w wr) (fun _ s _ => n - (intOf s).toNat)
  case atStart => exact ⟨0, Nat.zero_le _, rfl, StrAt.nil _ _, Below.refl _ _⟩
  case round =>
    obtain ⟨k, hk, rfl, hS, hB⟩ := hrel
    obtain ⟨ao, cap, rfl⟩ := hS.slice
    have f1b := (hB.cell (p := ⟨Y.b, 1, none⟩) fb).trans f1
    have fbb : Y.b < wr.heap.size := Nat.lt_of_lt_of_le fb hB.size
    have hlen := rings_len n m k
    rw [List.length_map] at *
    have HSS := hide hS
    have HBB := hide hB
    clear hS hB
    by_cases hlt : k < n
    · have hlt1 : (k : Int) < (n : Int) := by omega
      cases hc : cauM n m k 4 (obst n m k) with
      | false =>
        have H1 := hide (HC.out k wr HBB.out)
        rw [hc] at H1
        have HE : Hid (ringsL n m (k + 1) = ringsL n m k) := by simp [Hid, ringsL, hc]
        clear HC HRG
        generalize hLL : (ringsL n m k).length = LL at *
        go_wp2_with fail
        refine H1.out.mono ?_
        rintro e w' ⟨rfl, h'⟩
        replace h' := h'.symm
        subst h'
        go_wp2_with fail
        go_roundw
        case rel => exact ⟨k + 1, by omega, by go_num, by rw [HE.out]; exact HSS.out, HBB.out⟩
        case measure => simp [intOf]; omega
      | true =>
        have H1 := hide (HC.out k wr HBB.out)
        rw [hc] at H1
        have H2 := hide (HRG.out k wr hlt hc HBB.out)
        obtain ⟨x, hx⟩ : ∃ x, (ringOf n m k).head? = some x := by
          have := ring_ne n m (k := k) (by omega)
          cases e : ringOf n m k with
          | nil => exact absurd e this
          | cons a t => exact ⟨a, rfl⟩
        have hby : ∀ y ∈ ringOf n m k, 0 ≤ y ∧ y < 256 := names_bytes _ 4 (Nat.le_refl _)
        have hsz : 0 < (strOf (ringOf n m k)).size := by
          have e1 : (strOf (ringOf n m k)).size = (ringOf n m k).length := by simp [strOf, ByteArray.size]
          rw [e1]
          exact List.length_pos_iff.2 (ring_ne n m (by omega))
        have hb0 := byte_0 hby hx hsz
        have HE : Hid (ringsL n m (k + 1) = ringsL n m k ++ (if x = 48 + (k : Int) then [ringOf n m k] else [])) := by simp [Hid, ringsL, hc, hx]
        clear HC HRG hx hby
        by_cases hxk : x = 48 + (k : Int)
        · rw [if_pos hxk] at HE
          have hbk : (x == 48 + (k : Int)) = true := by simp [hxk]
          have FIN : Hid (∀ v' w0 w1, Below wr.heap.size wr w0 → w1.ownsRow w.heap.size 9 1 v' ((ringsL n m k).length + 1) (((ringsL n m k).map strOf).map Value.string ++ [.string (strOf (ringOf n m k))]) → w0.grownBy w1 (Value.slice ao (ringsL n m k).length cap).ownBlock → StrAt w1 w.heap.size v' ((ringsL n m (k + 1)).map strOf) ∧ Below w.heap.size w w1) := fun v' w0 w1 h0 ha hg => by
            have hr := HSS.out
            unfold StrAt at hr
            rw [List.length_map] at hr
            refine ⟨?_, ?_⟩
            · unfold StrAt
              rw [HE.out, List.map_append, List.map_append, List.length_append, List.length_map]
              exact ha
            · have hr0 := own_below hr h0
              refine ⟨hg.os.trans (h0.os.trans HBB.out.os), hg.tape.trans (h0.tape.trans HBB.out.tape), hg.output.trans (h0.output.trans HBB.out.output), Nat.le_trans HBB.out.size (Nat.le_trans h0.size hg.size), fun j hj => ?_⟩
              have z1 := HBB.out.size
              have z2 := h0.size
              rw [hg.block j (by omega) (fun e => by have := row_low hr0 j e.symm; omega), h0.block j (by omega), HBB.out.block j hj]
          generalize strOf (ringOf n m k) = RS at *
          generalize hLL : (ringsL n m k).length = LL at *
          go_wp2_with fail
          refine H1.out.mono ?_
          rintro e w' ⟨rfl, h'⟩
          replace h' := h'.symm
          subst h'
          go_wp2_with fail
          refine H2.out.mono ?_
          rintro e w2 ⟨rfl, hb2⟩
          have HB2 := hide hb2
          have fb2 : Y.b < w2.heap.size := Nat.lt_of_lt_of_le fbb hb2.size
          have fz2 : w.heap.size ≤ w2.heap.size := Nat.le_trans HBB.out.size hb2.size
          have HS2 : Hid (w2.ownsRow w.heap.size 9 1 (.slice ao LL cap) LL (((ringsL n m k).map strOf).map Value.string)) := by
            have := HSS.out.below hb2
            unfold StrAt at this
            rw [List.length_map, hLL] at this
            exact this
          clear hb2 H1 H2
          go_wp2_with (at_builtin; go_loud (refine wpList_append_own _ rfl _ _ 83 rfl w.heap.size 9 i0 _ 1 16 under_strs hi0 hz0 hz1 hz2 rfl (by decide) _ _ _ rfl (own_below HS2.out ((Below.refl _ _).alloc (Nat.le_refl _) _)) ⟨w2.heap.size, 0, none⟩ 1 1 [.string RS] rfl rfl (cell_one_new _ _ _) (by intro u hu; simp at hu; subst hu; rfl) (by unfold maxLen; omega) (by omega) (by simp; omega) ?_); intro v' w3 ha hgr _; have R := hide (FIN.out v' _ w3 (HB2.out.trans (((Below.refl _ _).alloc (Nat.le_refl _) _).mono HB2.out.size)) ha hgr); clear ha hgr)
          go_roundw
          case rel => exact ⟨k + 1, by omega, by go_num, R.out.1, R.out.2⟩
          case measure => simp [intOf]; omega
        · rw [if_neg hxk, List.append_nil] at HE
          have hbk : (x == 48 + (k : Int)) = false := by simp [hxk]
          generalize strOf (ringOf n m k) = RS at *
          generalize hLL : (ringsL n m k).length = LL at *
          go_wp2_with fail
          refine H1.out.mono ?_
          rintro e w' ⟨rfl, h'⟩
          replace h' := h'.symm
          subst h'
          go_wp2_with fail
          refine H2.out.mono ?_
          rintro e w2 ⟨rfl, hb2⟩
          have HB2 := hide (HBB.out.trans (hb2.mono HBB.out.size))
          have HS2 := hide (HSS.out.below hb2)
          clear hb2 H1 H2
          go_wp2_with fail
          go_roundw
          case rel => exact ⟨k + 1, by omega, by go_num, by rw [HE.out]; exact HS2.out, HB2.out⟩
          case measure => simp [intOf]; omega
    · obtain rfl : k = n := by omega
      have hlt1 : ¬ (k : Int) < (k : Int) := by omega
      clear HC HRG
      generalize hLL : (ringsL k m k).length = LL at *
      go_wp2_with fail
      go_ret
      exact ⟨_, rfl, HSS.out, HBB.out⟩

end Go.Proofs.YtjbmflgamogefabGreat
