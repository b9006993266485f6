/- The reference's Play. -/
import Derived.Test.YtjbmflgamogefabGreatMnF
namespace Go.Proofs.YtjbmflgamogefabGreat
open Go.RowKit

/-- One quantum's rings are looked through: what is known, and the log. -/
def noteR (q : Nat) : List (List Int) → List (List Int) × List Int → List (List Int) × List Int
  | [], s => s
  | r :: t, s => noteR q t (if s.1.any (fun y => (strOf y).toList == (strOf r).toList) then s else (s.1 ++ [r], s.2 ++ [48 + (q : Int) / 10 % 10, 48 + (q : Int) % 10, 58] ++ r ++ [32]))
/-- What is known behind i quanta, and the reference's log. -/
def logR (C : Nat → List In) (n quantum : Nat) : Nat → List (List Int) × List Int
  | 0 => ([], [])
  | i + 1 => noteR i (ringsL n (playM C n quantum (i + 1)) n) (logR C n quantum i)
theorem note_len (q : Nat) : ∀ (l : List (List Int)) (s : List (List Int) × List Int), (∀ r ∈ l, r.length ≤ 4) → (noteR q l s).1.length ≤ s.1.length + l.length ∧ (noteR q l s).2.length ≤ s.2.length + 8 * l.length
  | [], s, _ => by simp [noteR]
  | r :: t, s, h => by
    simp only [noteR]
    have hr := h r (List.mem_cons_self ..)
    obtain ⟨a, b⟩ := note_len q t (if s.1.any (fun y => (strOf y).toList == (strOf r).toList) then s else (s.1 ++ [r], s.2 ++ [48 + (q : Int) / 10 % 10, 48 + (q : Int) % 10, 58] ++ r ++ [32])) (fun x hx => h x (List.mem_cons_of_mem _ hx))
    simp only [List.length_cons]
    split at a
    · rename_i hc
      rw [if_pos hc] at b ⊢
      omega
    · rename_i hc
      rw [if_neg hc] at b ⊢
      simp only [List.length_append, List.length_cons, List.length_nil] at a b
      omega
theorem rings_short (n : Nat) (m : Mac) : ∀ k, ∀ r ∈ ringsL n m k, r.length ≤ 4
  | 0 => by simp [ringsL]
  | k + 1 => by
    intro r hr
    simp only [ringsL, List.mem_append] at hr
    rcases hr with hr | hr
    · exact rings_short n m k r hr
    · split at hr
      · simp at hr; subst hr; exact names_len _ 4
      · simp at hr
theorem logR_len (C : Nat → List In) (n quantum : Nat) (hn : n ≤ 4) : ∀ i, (logR C n quantum i).1.length ≤ 4 * i ∧ (logR C n quantum i).2.length ≤ 32 * i
  | 0 => by simp [logR]
  | i + 1 => by
    obtain ⟨a, b⟩ := logR_len C n quantum hn i
    obtain ⟨c, d⟩ := note_len i (ringsL n (playM C n quantum (i + 1)) n) (logR C n quantum i) (rings_short _ _ _)
    have := rings_len n (playM C n quantum (i + 1)) n
    simp only [logR]
    omega
/-- A block of strings is not the machine's. -/
theorem MachAt.not_str {w : World} {n : Nat} {Y : Lay} {m : Mac} {log : ByteArray} (h : MachAt w n Y m log) {j : Nat} {cs : Array Value} {fr : Nat × Nat} (hj : w.heap[j]? = some (.cells cs 9 fr)) : ¬ InY Y j := by
  obtain ⟨c1, t1, _⟩ := h.thr
  obtain ⟨c2, b1, _⟩ := h.brow
  obtain ⟨c3, w1, _⟩ := h.wrow
  rintro (rfl | rfl | rfl | rfl | ⟨i, hi, e⟩)
  · rw [h.self] at hj; simp at hj
  · rw [t1] at hj; simp at hj
  · rw [b1] at hj; simp at hj
  · rw [w1] at hj; simp at hj
  · rcases h.sl i hi with ⟨_, _, e'⟩ | ⟨b, off, cap, cur, _, e', e3, _⟩
    · rw [e'] at e; cases e
    · rw [e'] at e; cases e
      rw [e3] at hj; simp at hj
theorem StrAt.fr {w w' : World} {base n : Nat} {v : Value} {L : List ByteArray} {Y Y' : Lay} {m : Mac} {log : ByteArray} (h : StrAt w base v L) (hm : MachAt w n Y m log) (hf : Fr Y Y' w w') : StrAt w' base v L := by
  refine ⟨h.1, ?_⟩
  rcases h.2 with e | ⟨g, cap, cur, e1, e2, e3, e4⟩
  · exact .inl e
  · exact .inr ⟨g, cap, cur, e1, e2, (hf.block g (Array.getElem?_eq_some_iff.1 e3).1 (hm.not_str e3)).trans e3, e4⟩
theorem str_size (l : List Int) : (strOf l).size = l.length := by simp [strOf, ByteArray.size]
theorem drop_strR (a b : List Int) : (strOf (a ++ b)).extract a.length (strOf (a ++ b)).size = strOf b := by
  have h : ((strOf (a ++ b)).extract a.length (strOf (a ++ b)).size).data = (strOf b).data := by
    simp [strOf, ByteArray.data_extract, ByteArray.size]
    rw [List.take_of_length_le (by simp)]
  cases h1 : (strOf (a ++ b)).extract a.length (strOf (a ++ b)).size
  cases h2 : strOf b
  rw [h1, h2] at h
  simp only at h
  rw [h]
theorem dig_two (q : Nat) : (strOf (dig3 (q : Int))).extract 1 3 = strOf [48 + (q : Int) / 10 % 10, 48 + (q : Int) % 10] := drop_strR [48 + (q : Int) / 100] [48 + (q : Int) / 10 % 10, 48 + (q : Int) % 10]
theorem RM.lik {base : Nat} {cs : Cods} {w : World} {n : Nat} {Y : Lay} {m m' : Mac} {log : ByteArray} (h : RM base cs w n Y m log) (k : Lik m m') : RM base cs w n Y m' log := ⟨h.at_.lik k, h.low, h.sz, h.cod⟩
theorem turn_lik (C : Nat → List In) (n quantum q : Nat) (m : Mac) : Lik (turn0M C n quantum q m) (turnM C n quantum q m) := by
  obtain ⟨L, e⟩ := turn_eq C n quantum q m
  rw [e]
  exact ⟨fun _ => ⟨rfl, rfl, rfl, rfl⟩, rfl, rfl, rfl, rfl, rfl, rfl, rfl⟩
/-- The log is another one. -/
theorem RM.relog {base : Nat} {cs : Cods} {w : World} {n : Nat} {Y : Lay} {m : Mac} {log log' : ByteArray} (h : RM base cs w n Y m log) : RM base cs (w.setCell ⟨Y.b, 9, none⟩ (.string log')) n Y m log' ∧ Fr Y Y w (w.setCell ⟨Y.b, 9, none⟩ (.string log')) := by
  obtain ⟨p1, p2⟩ := h.at_.setStr (o := 9) (m' := m) (log' := log') (u := log') (.inr (.inr ⟨rfl, rfl, rfl, rfl⟩)) (fun _ => rfl) rfl
  exact ⟨h.step p1 p2, p2⟩
/-- The play goes on. -/
structure PlayR (base : Nat) (cs : Cods) (b : Nat) (w wr : World) (m : Mac) (kv : Value) (s : List (List Int) × List Int) : Prop where
  mac : ∃ Y, Y.b = b ∧ RM base cs wr cs.length Y m (strOf s.2)
  kno : StrAt wr base kv (s.1.map strOf)
  bel : Below w.heap.size w wr
theorem PlayR.turn {base : Nat} {cs : Cods} {b : Nat} {w wr w' : World} {m m' : Mac} {kv : Value} {s : List (List Int) × List Int} {Y : Lay} (h : PlayR base cs b w wr m kv s) (hb : w.heap.size ≤ base) (hY : Y.b = b) (hm : RM base cs wr cs.length Y m (strOf s.2)) (hw : RW base cs cs.length (strOf s.2) Y wr w' m') : PlayR base cs b w w' m' kv s := by
  obtain ⟨Y', a, f⟩ := hw
  exact ⟨⟨Y', f.same.1.trans hY, a⟩, h.kno.fr hm.at_ f, h.bel.trans ((hm.fr f).mono hb)⟩
theorem PlayR.below {base : Nat} {cs : Cods} {b : Nat} {w wr w' : World} {m : Mac} {kv : Value} {s : List (List Int) × List Int} (h : PlayR base cs b w wr m kv s) (hb : Below wr.heap.size wr w') : PlayR base cs b w w' m kv s := by
  obtain ⟨Y, hY, hm⟩ := h.mac
  exact ⟨⟨Y, hY, hm.below hb⟩, h.kno.below hb, h.bel.trans (hb.mono h.bel.size)⟩

theorem MachAt.keep {w w' : World} {n : Nat} {Y : Lay} {m : Mac} {log : ByteArray} (h : MachAt w n Y m log) (hk : ∀ j, InY Y j → w'.heap[j]? = w.heap[j]?) : MachAt w' n Y m log := by
  obtain ⟨c1, t1, t2⟩ := h.thr
  obtain ⟨c2, b1, b2⟩ := h.brow
  obtain ⟨c3, w1, w2⟩ := h.wrow
  exact ⟨by rw [hk _ (.inl rfl)]; exact h.self, ⟨c1, by rw [hk _ (.inr (.inl rfl))]; exact t1, t2⟩, ⟨c2, by rw [hk _ (.inr (.inr (.inl rfl)))]; exact b1, b2⟩, ⟨c3, by rw [hk _ (.inr (.inr (.inr (.inl rfl))))]; exact w1, w2⟩, h.gbw,
    fun i hi => (h.sl i hi).kept (fun b hb => hk b (.inr (.inr (.inr (.inr ⟨i, hi, hb⟩))))), h.dis⟩
theorem str_own {w : World} {base : Nat} {v : Value} {L : List ByteArray} (h : StrAt w base v L) {g : Nat} (hg : v.ownBlock = some g) : base ≤ g ∧ g < w.heap.size ∧ ∃ cur, w.heap[g]? = some (.cells cur 9 (0, 0)) := by
  rcases h.2 with ⟨e, _⟩ | ⟨gg, cap, cur, e1, e2, e3, _⟩
  · rw [e] at hg; simp [Value.ownBlock] at hg
  · rw [e1] at hg
    simp only [Value.ownBlock, Option.some.injEq] at hg
    subst hg
    exact ⟨e2, (Array.getElem?_eq_some_iff.1 e3).1, cur, e3⟩
/-- A ring becomes known. -/
theorem PlayR.know {base : Nat} {cs : Cods} {b : Nat} {w wr w0 w1 : World} {m : Mac} {kv v' : Value} {s : List (List Int) × List Int} {r : List Int} (h : PlayR base cs b w wr m kv s) (hbase : w.heap.size ≤ base) (h0 : Below wr.heap.size wr w0) (ha : w1.ownsRow base 9 1 v' (s.1.length + 1) ((s.1.map strOf).map Value.string ++ [.string (strOf r)])) (hg : w0.grownBy w1 kv.ownBlock) : PlayR base cs b w w1 m v' (s.1 ++ [r], s.2) := by
  have hP := h.below h0
  obtain ⟨Y, hY, hm⟩ := hP.mac
  have hne : ∀ j, InY Y j → w1.heap[j]? = w0.heap[j]? := fun j hj => hg.block j (hm.at_.lt hj) (fun e => by
    obtain ⟨_, _, cur, hc⟩ := str_own hP.kno e.symm
    exact hm.at_.not_str hc hj)
  have hB : Below base w0 w1 := ⟨hg.os, hg.tape, hg.output, hg.size, fun j hj => hg.block j (by have := hm.sz; omega) (fun e => by have := (str_own hP.kno e.symm).1; omega)⟩
  refine ⟨⟨Y, hY, ⟨hm.at_.keep hne, hm.low, Nat.le_trans hm.sz hg.size, hm.cod.below hB⟩⟩, ?_, hP.bel.trans (hB.mono hbase)⟩
  unfold StrAt
  rw [List.length_map, List.length_append, List.map_append, List.map_append]
  exact ha
theorem StrAt.grown {w w0 w1 : World} {base base' : Nat} {v kv : Value} {L : List ByteArray} (h : StrAt w base v L) (h0 : Below w.heap.size w w0) (hg : w0.grownBy w1 kv.ownBlock) (hd : ∀ g, kv.ownBlock = some g → ¬ v.ownBlock = some g) (_hb : base = base') : StrAt w1 base v L := by
  have h1 := h.below h0
  refine ⟨h1.1, ?_⟩
  rcases h1.2 with e | ⟨g, cap, cur, e1, e2, e3, e4⟩
  · exact .inl e
  · refine .inr ⟨g, cap, cur, e1, e2, (hg.block g (Array.getElem?_eq_some_iff.1 e3).1 (fun e => hd g e.symm (by rw [e1]; rfl))).trans e3, e4⟩
/-- The log is written. -/
theorem PlayR.wrote {base : Nat} {cs : Cods} {b : Nat} {w wr : World} {m : Mac} {kv : Value} {s : List (List Int) × List Int} {l : List Int} (h : PlayR base cs b w wr m kv s) (hbase : w.heap.size ≤ base) : PlayR base cs b w (wr.setCell ⟨b, 9, none⟩ (.string (strOf l))) m kv (s.1, l) ∧ wr.cell? ⟨b, 9, none⟩ = some (.string (strOf s.2)) ∧ wr.frozen? ⟨b, 9, none⟩ = false ∧ b < wr.heap.size ∧ ∀ base' v L, StrAt wr base' v L → StrAt (wr.setCell ⟨b, 9, none⟩ (.string (strOf l))) base' v L := by
  obtain ⟨Y, hY, hm⟩ := h.mac
  subst hY
  obtain ⟨p1, p2⟩ := hm.relog (log' := strOf l)
  exact ⟨⟨⟨Y, rfl, p1⟩, h.kno.fr hm.at_ p2, h.bel.trans ((hm.fr p2).mono hbase)⟩, hm.at_.fields.2.2.2.2.2.2.2.2.2.1, frozen_row hm.at_.self 9, hm.at_.lt (.inl rfl), fun base' v L hS => hS.fr hm.at_ p2⟩

set_option maxRecDepth 100000 in
set_option maxHeartbeats 8000000 in
theorem r_Play (s : ByteArray) (cs : Cods) (quantum n : Nat) (w : World) (hs : s.size ≤ 400) (hp : parse (bytesOf s) = .inr cs) (hG : RGood cs cs.length) (hc0 : 0 < cs.length) (hqu : quantum < 100) (hnn : n < 100) :
    Calls Tryz.prog 20 #[.string s, .int .i64 quantum, .int .i64 n] w fun e w' => ∃ base Y, e = .returned (.pointer (some ⟨Y.b, 0, none⟩)) ∧ RM base cs w' cs.length Y (playM (codesOf cs) cs.length quantum n) (strOf (logR (codesOf cs) cs.length quantum n).2) ∧ Below w.heap.size w w' := by
  have HC := hide (r_Read s w (by omega))
  rw [hp] at HC
  have HG := hide hG
  have hn4 := hG.n4
  obtain ⟨i0, hi0, hz0, hz1, hz2⟩ := info_parts info_str
  clear hG hp
  go_enter Tryz.func20, Tryz.ntmps20
  go_wp2_with fail
  refine HC.out.mono ?_
  rintro e w1 ⟨⟨v, rfl, hv⟩, hb1⟩
  have HB1 := hide hb1
  have HBG := hide (r_begin cs v w1 hv hc0 hn4)
  obtain ⟨va, vc, rfl⟩ := hv.slice
  clear hv hb1 HC
  go_wp2_with fail
  refine HBG.out.mono ?_
  rintro e w2 ⟨Y0, rfl, hm0, hb2⟩
  have HP0 : Hid (PlayR w1.heap.size cs Y0.b w w2 (beginM cs.length) (.slice none 0 0) ([], [])) := ⟨⟨Y0, rfl, hm0⟩, StrAt.nil _ _, HB1.out.trans (hb2.mono HB1.out.size)⟩
  have hbase : w.heap.size ≤ w1.heap.size := HB1.out.size
  clear hm0 hb2 HBG HB1
  generalize w1.heap.size = base at *
  generalize Y0.b = b at *
  go_wp2_with fail
  go_loopw [11, 12] (fun kv s wr => ∃ i : Nat, i ≤ n ∧ s = .int .i64 i ∧ PlayR base cs b w wr (playM (codesOf cs) cs.length quantum i) kv (logR (codesOf cs) cs.length quantum i)) (fun _ s _ => n - (intOf s).toNat)
  case atStart => exact ⟨0, Nat.zero_le _, rfl, HP0.out⟩
  case round =>
    obtain ⟨i, hi, rfl, hPR⟩ := hrel
    obtain ⟨ka, kc, hkv⟩ := hPR.kno.slice
    subst hkv
    obtain ⟨hl1, hl2⟩ := logR_len (codesOf cs) cs.length quantum hn4 i
    by_cases hlt : i < n
    · have hlt1 : (i : Int) < (n : Int) := by omega
      obtain ⟨Y, hY, hm⟩ := hPR.mac
      obtain ⟨ρ, hI⟩ := Inv.plays HG.out.fine quantum i
      obtain ⟨ρ1, hI1⟩ := Inv.plays HG.out.fine quantum (i + 1)
      have hB1 := play_bat (codesOf cs) cs.length quantum (i + 1)
      have ho := (play_out_len HG.out.fine quantum i).2
      have hjq : i * quantum ≤ 100 * 100 := Nat.mul_le_mul (by omega) (by omega)
      have ht := play_trc_len HG.out.fine quantum i
      have HT := hide (r_turn base cs Y _ cs.length i quantum ρ _ wr hm HG.out hI (by omega) (by omega) (by omega) (by omega))
      rw [hY] at HT
      have hkl : (List.map strOf (logR (codesOf cs) cs.length quantum i).1).length = (logR (codesOf cs) cs.length quantum i).1.length := by simp
      have HNX : Hid (∀ w', RW base cs cs.length (strOf (logR (codesOf cs) cs.length quantum i).2) Y wr w' (turn0M (codesOf cs) cs.length quantum i (playM (codesOf cs) cs.length quantum i)) → PlayR base cs b w w' (playM (codesOf cs) cs.length quantum (i + 1)) (.slice ka (List.map strOf (logR (codesOf cs) cs.length quantum i).1).length kc) (logR (codesOf cs) cs.length quantum i)) := fun w' hw => by
        obtain ⟨Y', a, f⟩ := hw
        exact hPR.turn hbase hY hm ⟨Y', a.lik (turn_lik _ _ _ _ _), f⟩
      have HRG : Hid (∀ w' Y', Y'.b = b → RM base cs w' cs.length Y' (playM (codesOf cs) cs.length quantum (i + 1)) (strOf (logR (codesOf cs) cs.length quantum i).2) → Calls Tryz.prog 31 #[.pointer (some ⟨b, 0, none⟩)] w' fun e w'' => ∃ v, e = .returned v ∧ StrAt w'' w'.heap.size v ((ringsL cs.length (playM (codesOf cs) cs.length quantum (i + 1)) cs.length).map strOf) ∧ Below w'.heap.size w' w'') := fun w' Y' hb' hm' => by
        have := r_Rings Y' (playM (codesOf cs) cs.length quantum (i + 1)) cs.length _ w' hm'.at_ hn4 (fun l => by have := hI1.lens.2.1 l; omega) (nxt_obst HG.out.fine hI1 hB1) (obst_lt hI1 hn4)
        rw [hb'] at this
        exact this
      have HEND : Hid (logR (codesOf cs) cs.length quantum (i + 1) = noteR i (ringsL cs.length (playM (codesOf cs) cs.length quantum (i + 1)) cs.length) (logR (codesOf cs) cs.length quantum i)) := rfl
      have HLN := hide (rings_len cs.length (playM (codesOf cs) cs.length quantum (i + 1)) cs.length)
      have HSH := hide (rings_short cs.length (playM (codesOf cs) cs.length quantum (i + 1)) cs.length)
      rw [hkl] at *
      generalize hE : logR (codesOf cs) cs.length quantum (i + 1) = E at *
      generalize hM1 : playM (codesOf cs) cs.length quantum (i + 1) = M1 at *
      generalize ringsL cs.length M1 cs.length = RL at *
      generalize logR (codesOf cs) cs.length quantum i = S0 at *
      clear hPR hm hI hI1 hB1 ho hjq ht HP0 hkl
      generalize hKL : S0.1.length = KL at *
      go_wp2_with fail
      refine HT.out.mono ?_
      rintro e w3 ⟨rfl, hw⟩
      have hP3 := HNX.out w3 hw
      obtain ⟨Y3, hY3, hm3⟩ := hP3.mac
      have HRR := hide (HRG.out w3 Y3 hY3 hm3)
      have HP3 := hide hP3
      clear hw hP3 hm3 HT HNX HRG hY hY3
      go_wp2_with fail
      refine HRR.out.mono ?_
      rintro e w4 ⟨rv, rfl, hrs, hb4⟩
      have HP4 := hide (HP3.out.below hb4)
      obtain ⟨ra, rc, rfl⟩ := hrs.slice
      rw [List.length_map] at *
      have hrl := HLN.out
      have HRS := hide hrs
      have HKR : Hid (∀ g, (Value.slice ka KL kc).ownBlock = some g → ¬ (Value.slice ra RL.length rc).ownBlock = some g) := fun g hg hg2 => by
        have h1 := (str_own HP3.out.kno hg).2.1
        have h2 := (str_own hrs hg2).1
        omega
      have h34 := hb4.size
      clear hrs hb4 HRR HP3 HLN
      generalize hRLL : RL.length = RLL at *
      go_wp2_with fail
      go_loopw [11, 14] (fun kv s wx => ∃ (t : Nat) (S : List (List Int) × List Int), t ≤ RLL ∧ s = .int .i64 t ∧ PlayR base cs b w wx M1 kv S ∧ StrAt wx w3.heap.size (.slice ra RLL rc) (RL.map strOf) ∧ (∀ g, kv.ownBlock = some g → ¬ (Value.slice ra RLL rc).ownBlock = some g) ∧ noteR i (RL.drop t) S = E ∧ S.1.length ≤ KL + t ∧ S.2.length ≤ 32 * i + 8 * t) (fun _ s _ => RLL - (intOf s).toNat)
      case atStart => exact ⟨0, S0, Nat.zero_le _, rfl, HP4.out, HRS.out, HKR.out, HEND.out.symm, by omega, by omega⟩
      case round =>
        obtain ⟨t, S, ht, rfl, hP, hR, hD, hN, hk1, hk2⟩ := hrel
        obtain ⟨ka2, kc2, hkv⟩ := hP.kno.slice
        subst hkv
        rw [List.length_map] at *
        by_cases hlt2 : t < RLL
        · have hlt3 : (t : Int) < (RLL : Int) := by omega
          obtain ⟨r, hr⟩ : ∃ r, RL[t]? = some r := ⟨RL[t], by simp [hRLL, hlt2]⟩
          have hrs4 := HSH.out r (List.mem_of_getElem? hr)
          obtain ⟨g', hra, hg', c0⟩ := hR.at (k := t) (x := strOf r) (by simp [hr])
          subst hra
          have hdr : RL.drop t = r :: RL.drop (t + 1) := by
            rw [List.drop_eq_getElem_cons (by omega)]
            congr 1
            exact (List.getElem?_eq_some_iff.1 hr).2
          rw [hdr, noteR] at hN
          have HH := hide (r_has _ _ (strOf r) base wr hP.kno (by rw [List.length_map]; omega))
          rw [List.any_map] at HH
          have hany : S.1.any ((fun y => y.toList == (strOf r).toList) ∘ strOf) = S.1.any (fun y => (strOf y).toList == (strOf r).toList) := rfl
          rw [hany] at HH
          clear HP4 HRS HKR hdr hany
          cases hB : S.1.any (fun y => (strOf y).toList == (strOf r).toList) with
          | true =>
            rw [hB] at HH
            rw [hB, if_pos rfl] at hN
            have HPP := hide hP
            have HRR := hide hR
            have HNN := hide hN
            have HDD := hide hD
            clear hP hR hN hD
            generalize hSL : S.1.length = SL at *
            go_wp2_with fail
            refine HH.out.mono ?_
            rintro e w' ⟨rfl, h'⟩
            replace h' := h'.symm
            subst h'
            go_wp2_with fail
            go_roundw
            case rel => exact ⟨t + 1, S, by omega, by go_num, HPP.out, HRR.out, HDD.out, HNN.out, by omega, by omega⟩
            case measure => simp [intOf]; omega
          | false =>
            rw [hB] at HH
            rw [hB, if_neg (by simp)] at hN
            have FIN : Hid (∀ v' w5, w5.ownsRow base 9 1 v' (S.1.length + 1) ((S.1.map strOf).map Value.string ++ [.string (strOf r)]) → (wr.alloc (.cells #[.string (strOf r)] 9)).grownBy w5 (Value.slice ka2 S.1.length kc2).ownBlock → (v'.ownBlock = (Value.slice ka2 S.1.length kc2).ownBlock ∨ v'.ownBlock = some (wr.alloc (.cells #[.string (strOf r)] 9)).heap.size) → PlayR base cs b w w5 M1 v' (S.1 ++ [r], S.2) ∧ StrAt w5 w3.heap.size (.slice (some ⟨g', 0, none⟩) RLL rc) (RL.map strOf) ∧ (∀ g, v'.ownBlock = some g → ¬ (Value.slice (some ⟨g', 0, none⟩) RLL rc).ownBlock = some g)) := fun v' w5 ha hg hf => by
              have h0 : Below wr.heap.size wr (wr.alloc (.cells #[.string (strOf r)] 9)) := (Below.refl _ _).alloc (Nat.le_refl _) _
              refine ⟨hP.know hbase h0 ha hg, hR.grown h0 hg hD rfl, fun g h1 h2 => ?_⟩
              rcases hf with e | e
              · rw [e] at h1; exact hD g h1 h2
              · rw [e] at h1
                have := (str_own hR h2).2.1
                simp at h1
                omega
            have HKN : Hid (wr.ownsRow base 9 1 (.slice ka2 S.1.length kc2) S.1.length ((S.1.map strOf).map Value.string)) := by
              have := hP.kno
              unfold StrAt at this
              rw [List.length_map] at this
              exact this
            have HNN := hide hN
            have hbz : base ≤ wr.heap.size := by obtain ⟨Y5, _, hm5⟩ := hP.mac; exact hm5.sz
            have HLE : Hid (∀ x y z : ByteArray, x = strOf S.2 → y = strOf [48 + (i : Int) / 10 % 10, 48 + (i : Int) % 10] → z = strOf r → x ++ y ++ ⟨#[58]⟩ ++ z ++ ⟨#[32]⟩ = strOf (S.2 ++ [48 + (i : Int) / 10 % 10, 48 + (i : Int) % 10, 58] ++ r ++ [32])) := fun x y z hx hy hz => by
              subst hx; subst hy; subst hz
              rw [show (⟨#[58]⟩ : ByteArray) = strOf [58] from rfl, show (⟨#[32]⟩ : ByteArray) = strOf [32] from rfl, ← strOf_append, ← strOf_append, ← strOf_append, ← strOf_append]
              congr 1
              simp
            have HD := hide (fun W => r_digits (i : Int) W (by omega) (by omega))
            have HDL := dig_two i
            have hd3 : (strOf (dig3 (i : Int))).size = 3 := rfl
            have hz1' : (strOf S.2).size ≤ 100000 := by rw [str_size]; omega
            have hz2' : (strOf [48 + (i : Int) / 10 % 10, 48 + (i : Int) % 10]).size = 2 := rfl
            have hz3' : (strOf r).size ≤ 4 := by rw [str_size]; omega
            have KEEP : Hid (∀ v' w5, PlayR base cs b w w5 M1 v' (S.1 ++ [r], S.2) → StrAt w5 w3.heap.size (.slice (some ⟨g', 0, none⟩) RLL rc) (RL.map strOf) → ∀ W, Below w5.drew.heap.size w5.drew W → W.cell? ⟨b, 9, none⟩ = some (.string (strOf S.2)) ∧ W.frozen? ⟨b, 9, none⟩ = false ∧ b < W.heap.size ∧ W.cell? ⟨g', t, none⟩ = some (.string (strOf r)) ∧ g' < W.heap.size ∧ PlayR base cs b w (W.setCell ⟨b, 9, none⟩ (.string (strOf (S.2 ++ [48 + (i : Int) / 10 % 10, 48 + (i : Int) % 10, 58] ++ r ++ [32])))) M1 v' (S.1 ++ [r], S.2 ++ [48 + (i : Int) / 10 % 10, 48 + (i : Int) % 10, 58] ++ r ++ [32]) ∧ StrAt (W.setCell ⟨b, 9, none⟩ (.string (strOf (S.2 ++ [48 + (i : Int) / 10 % 10, 48 + (i : Int) % 10, 58] ++ r ++ [32])))) w3.heap.size (.slice (some ⟨g', 0, none⟩) RLL rc) (RL.map strOf)) := fun v' w5 q1 q2 W hW => by
              have a1 := (q1.below keep_drew).below hW
              have a2 := (q2.below keep_drew).below hW
              obtain ⟨p1, p2, p3, p4, p5⟩ := a1.wrote (l := S.2 ++ [48 + (i : Int) / 10 % 10, 48 + (i : Int) % 10, 58] ++ r ++ [32]) hbase
              obtain ⟨gg, e1, e2, e3⟩ := a2.at (k := t) (x := strOf r) (by simp [hr])
              simp only [Option.some.injEq, Addr.mk.injEq] at e1
              rw [← e1.1] at e2 e3
              exact ⟨p2, p3, p4, e3, e2, p1, p5 _ _ _ a2⟩
            have HLX := hide (HLE.out _ _ _ rfl rfl rfl)
            have hlen2 : (S.2 ++ [48 + (i : Int) / 10 % 10, 48 + (i : Int) % 10, 58] ++ r ++ [32]).length ≤ 32 * i + 8 * (t + 1) := by
              simp only [List.length_append, List.length_cons, List.length_nil]; omega
            clear hP hR hD hN HLE hr hB
            generalize S.2 ++ [48 + (i : Int) / 10 % 10, 48 + (i : Int) % 10, 58] ++ r ++ [32] = LGN at *
            generalize strOf LGN = LS at *
            generalize strOf S.2 = LG at *
            generalize strOf (dig3 (i : Int)) = D at *
            generalize strOf [48 + (i : Int) / 10 % 10, 48 + (i : Int) % 10] = D1 at *
            generalize hSL : S.1.length = SL at *
            generalize hRS : strOf r = RS at *
            go_wp2_with fail
            refine HH.out.mono ?_
            rintro e w' ⟨rfl, h'⟩
            replace h' := h'.symm
            subst h'
            go_upto_region 15 with (at_builtin; go_loud (refine wpList_append_own_at _ rfl _ _ 83 rfl base 9 i0 _ 1 16 under_strs hi0 hz0 hz1 hz2 rfl (by decide) _ _ _ rfl (own_below HKN.out ((Below.refl _ _).alloc (Nat.le_refl _) _)) ⟨wr.heap.size, 0, none⟩ 1 1 [.string RS] rfl rfl (cell_one_new _ _ _) (by intro u hu; simp at hu; subst hu; rfl) (by unfold maxLen; omega) (by omega) (by simp; omega) ?_); intro v' w5 ha hgr _ hfr; obtain ⟨F1, F2, F3⟩ := FIN.out v' w5 ha hgr hfr; have K5 := hide (KEEP.out v' w5 F1 F2); have HF3 := hide F3; have hvs := F1.kno.slice; clear ha hgr hfr F1 F2 F3)
            obtain ⟨x0, x1, x2, x3, x4, _, _⟩ := K5.out w5.drew (Below.refl _ _)
            have x0 : w5.cell? ⟨b, 9, none⟩ = some (.string LG) := x0
            have x1 : w5.frozen? ⟨b, 9, none⟩ = false := x1
            have x2 : b < w5.heap.size := x2
            have x3 : w5.cell? ⟨g', t, none⟩ = some (.string RS) := x3
            have x4 : g' < w5.heap.size := x4
            clear HH HKN FIN KEEP hi0 hz0 hz1 hz2 c0 hg' hvs
            go_region_with (go_at_call 33; refine (HD.out _).mono ?_; rintro e w6 ⟨rfl, hb6⟩; obtain ⟨y0, y1, y2, y3, y4, P1, P2⟩ := K5.out w6 hb6; have HP1 := hide P1; have HP2 := hide P2; clear hb6 P1 P2)
            all_goals
              go_wp2_with fail
              go_roundw
              case rel => exact ⟨t + 1, (S.1 ++ [r], LGN), by omega, by go_num, by rw [HLX.out]; exact HP1.out, by rw [HLX.out]; exact HP2.out, HF3.out, HNN.out, by simp only [List.length_append, List.length_singleton]; omega, hlen2⟩
              case measure => simp [intOf]; omega
        · obtain rfl : t = RLL := by omega
          have hlt3 : ¬ (t : Int) < (t : Int) := by omega
          rw [List.drop_eq_nil_of_le (by omega), noteR] at hN
          subst hN
          have HPP := hide hP
          clear hP hR hD HP4 HRS HKR HEND
          generalize hSL : S.1.length = SL at *
          go_wp2_with fail
          go_roundw
          case rel => exact ⟨i + 1, by omega, by go_num, by rw [hE, hM1]; exact HPP.out⟩
          case measure => simp [intOf]; omega
    · obtain rfl : i = n := by omega
      have hlt1 : ¬ (i : Int) < (i : Int) := by omega
      obtain ⟨Y, hY, hm⟩ := hPR.mac
      have HM := hide hm
      have HBE := hide hPR.bel
      subst hY
      clear hPR hm HP0
      generalize (List.map strOf (logR (codesOf cs) cs.length quantum i).1).length = KL at *
      go_wp2_with fail
      go_ret
      exact ⟨base, Y, rfl, HM.out, HBE.out⟩

end Go.Proofs.YtjbmflgamogefabGreat
