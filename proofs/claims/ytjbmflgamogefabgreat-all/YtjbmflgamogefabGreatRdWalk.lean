/- green's readCodes, walked. -/
import Derived.Test.YtjbmflgamogefabGreatRdCodes
namespace Go.Proofs.YtjbmflgamogefabGreat
open Go.RowKit

theorem Tryz.info115 : (Tryz.prog.info? 115).map (fun i => (i.zero, i.size, i.bytes)) = some (some (.agg #[.int .u8 0, .int .i64 0]), 2, 16) := by kernel_rfl
theorem Tryz.info91 : (Tryz.prog.info? 91).map (fun i => (i.zero, i.size, i.bytes)) = some (some (.agg #[.int .i64 0, .slice none 0 0]), 2, 32) := by kernel_rfl
theorem wrap_u8G {n : Int} (h : 0 ≤ n) (h' : n < 256) : IntKind.u8.wrap n = n := by
  have e1 : ((2 : Int) ^ IntKind.u8.bits) = 256 := by decide
  have e3 : IntKind.u8.signed = false := rfl
  unfold IntKind.wrap
  simp only [e1, e3, Bool.false_and, Bool.false_eq_true, if_false]
  omega

/-- What the place of a code that is good is worth. -/
theorem pfrom_bar {T : List Int} {k i st : Nat} {acc cs : Cods} {cur : List In} (h : pfrom T k acc st cur i = .inr cs) (hi : T[i]? = some 124) : ¬ cur = [] ∧ ∃ k', k = k' + 1 ∧ pfrom T k' (acc ++ [(st, cur)]) (i + 1) [] (i + 1) = .inr cs := by
  have hlt := (List.getElem?_eq_some_iff.1 hi).1
  by_cases hc : cur = []
  · rw [pfrom_inl (pcode_no hi (fun h => h.2 hc) (by rfl))] at h; cases h
  · refine ⟨hc, ?_⟩
    cases k with
    | zero => rw [pfrom_full (pcode_bar hi hc) (by omega)] at h; cases h
    | succ k' => exact ⟨k', rfl, by rw [pfrom_over (pcode_bar hi hc) (by omega)] at h; exact h⟩
theorem pfrom_in {T : List Int} {k i st : Nat} {acc cs : Cods} {cur : List In} {c : Int} (h : pfrom T k acc st cur i = .inr cs) (hi : T[i]? = some c) (hc : ¬ c = 124) : ∃ d e, isLet c = true ∧ T[i + 1]? = some d ∧ isDig d = true ∧ T[i + 2]? = some e ∧ isDig e = true ∧ pfrom T k acc st (cur ++ [(c, 10 * (d - 48) + (e - 48))]) (i + 3) = .inr cs := by
  cases hl : isLet c with
  | false => rw [pfrom_inl (pcode_no hi (fun h => hc h.1) hl)] at h; cases h
  | true =>
    by_cases h1 : ∃ d, T[i + 1]? = some d ∧ isDig d = true
    · obtain ⟨d, hd, hdd⟩ := h1
      by_cases h2 : ∃ e, T[i + 2]? = some e ∧ isDig e = true
      · obtain ⟨e, he, hee⟩ := h2
        exact ⟨d, e, rfl, hd, hdd, he, hee, by rw [← h]; exact (pfrom_go (pcode_ok hi hl hd hdd he hee)).symm⟩
      · rw [pfrom_inl (pcode_d2 hi hl hd hdd (fun e he => by
          cases hx : isDig e with
          | false => rfl
          | true => exact absurd ⟨e, he, hx⟩ h2))] at h; cases h
    · rw [pfrom_inl (pcode_d1 hi hl (fun e he => by
        cases hx : isDig e with
        | false => rfl
        | true => exact absurd ⟨e, he, hx⟩ h1))] at h; cases h
theorem pfrom_fin {T : List Int} {k i st : Nat} {acc cs : Cods} {cur : List In} (h : pfrom T k acc st cur i = .inr cs) (hi : i = T.length) : cs = acc ++ [(st, cur)] := by
  have hp := pcode_end (T := T) (cur := cur) (i := i) (by omega)
  by_cases hc : cur = []
  · rw [if_pos hc] at hp; rw [pfrom_inl hp] at h; cases h
  · rw [if_neg hc] at hp; rw [pfrom_end hp hi] at h; cases h; rfl

set_option maxRecDepth 100000 in
set_option maxHeartbeats 4000000 in
theorem g_readCodes (s : ByteArray) (w : World) (cs : Cods) (hs : s.size ≤ 400) (hp : parse (bytesOf s) = .inr cs) :
    Calls Tryz.prog 48 #[.string s] w fun e w' => ∃ v, e = .returned v ∧ GCods w' 0 v cs ∧ Below w.heap.size w w' := by
  have HT := hide (bytesOf_len s)
  obtain ⟨i0, hi, hz0, hz1, hz2⟩ := info_parts Tryz.info115
  obtain ⟨j0, hj, hy0, hy1, hy2⟩ := info_parts Tryz.info91
  have HP := hide hp
  obtain ⟨B, hB⟩ : ∃ B, B = w.heap.size := ⟨_, rfl⟩
  have hB' : w.heap.size = B := hB.symm
  clear hp hB
  go_enter Tryz.func48, Tryz.ntmps48
  go_wp2
  go_loopw [3, 5] (fun v i wr => ∃ (j k st E : Nat) (M : List ((Nat × List In) × Value)) (cur : List In) (lv : Value), j ≤ s.size ∧ i = .int .i64 j ∧ M.length ≤ 3 ∧ 3 * cur.length ≤ j ∧ k + M.length = 3 ∧ pfrom (bytesOf s) k (M.map (·.1)) st cur j = .inr cs ∧ Under wr B (B + 1) E M v lv st cur ∧ Below B w wr) (fun _ i _ => s.size - (intOf i).toNat)
  case atStart =>
    subst hB'
    refine ⟨0, 3, 0, w.heap.size, [], [], .slice none 0 0, Nat.zero_le _, rfl, by simp, by simp, rfl, by rw [← pread_eq]; exact HP.out, ?_, ((Below.refl _ _).alloc (Nat.le_refl _) _).alloc (by simp) _⟩
    refine ⟨⟨rfl, .inr ⟨w.heap.size, 0, #[], rfl, Nat.le_refl _, ?_, Nat.le_refl _, by decide, rfl, rfl⟩⟩, (fun m hm => by cases hm), World.ownsRow_nil _ _ _ _, Nat.le_refl _, (by simp; omega), ?_, (by simp [Value.ownBlock]), (by omega)⟩
    · rw [Below.heap_alloc _ _ _ (by simp)]; exact heap_alloc_new w _
    · have := heap_alloc_new (w.alloc (.cells #[] 91)) (.cells #[.int .i64 0, .slice none 0 0] 91)
      rw [World.size_alloc] at this; exact this
  case round =>
    obtain ⟨j, k, st, E, M, cur, lv, hj1, rfl, hal, hcl, hka, hpf, hU, hbel⟩ := hrel
    obtain ⟨vo, vcap, rfl⟩ := row_slice hU.row
    obtain ⟨lo, lcap, rfl⟩ := row_slice hU.own
    have hrow := hU.row
    have hDE := hU.DE
    have hEE := hU.EE
    obtain ⟨f0, f1⟩ := twoG hU.self
    have fz0 := frozen_row hU.self 0
    have fz1 := frozen_row hU.self 1
    have hXl := heap_ltG hU.self
    have HU := hide hU
    have HPF := hide hpf
    have HBEL := hide hbel
    have HKA := hide hka
    clear hU hpf hbel hka
    by_cases hlt : j < s.size
    · have hg := bytesOf_get s j hlt
      obtain ⟨q4, q5⟩ := bytesOf_lt s j hlt
      obtain ⟨x, hx⟩ : ∃ x : Int, x = ((s[j]).toNat : Int) := ⟨_, rfl⟩
      have hxe : ((s[j]).toNat : Int) = x := hx.symm
      rw [hxe] at hg q4 q5
      have HG := hide hg
      clear hg hx
      by_cases hbar : x = 124
      · have hx1 : (x == 124) = true := by simp [hbar]
        obtain ⟨hcn, k', hk', hpf'⟩ := pfrom_bar HPF.out (by rw [HG.out, hbar])
        have HPF' := hide hpf'
        have hal2 : M.length + 1 ≤ 3 := by have := HKA.out; omega
        have HK2 : Hid (k' + (M.length + 1) = 3) := by show _ = 3; have := HKA.out; omega
        clear hpf' hcn hk' hbar
        go_wp2_with (at_builtin; refine wpList_append_lies _ rfl _ _ 53 rfl B 91 j0 _ 2 32 Tryz.underlying53 hj hy0 hy1 hy2 rfl (by decide) _ _ _ rfl (hrow.alloc _) ⟨wr.heap.size, 0, none⟩ 1 1 [.int .i64 (st : Nat), .slice lo cur.length lcap] rfl rfl (news2 _ _ _ _) (by intro u hu; simp at hu; rcases hu with rfl | rfl <;> rfl) (by decide) (by unfold maxLen; omega) (by omega) (by simp; omega) (wr.heap.size + 1) (by simp) ?_; intro g cp w1 ha hgr hat _; have RR := hide (HU.out.over (st' := j + 1) ((Below.refl _ _).alloc (Nat.le_refl _) _) ha hgr (hat.imp id (by omega))); have s1 := RR.out.2.1; obtain ⟨b0, b1⟩ := twoG s1; have bz0 := frozen_row s1 0; have bz1 := frozen_row s1 1; clear ha hgr hat s1)
        go_roundw
        case rel =>
          refine ⟨j + 1, k', j + 1, w1.heap.size, M ++ [((st, cur), .slice lo cur.length lcap)], [], .slice none 0 0, by omega, by go_num, by rw [List.length_append]; exact hal2, by simp, by rw [List.length_append]; exact HK2.out, by rw [List.map_append]; exact HPF'.out, ?_, ?_⟩
          · have := RR.out.1
            simpa using this
          · exact ((RR.out.2.2.2 B w (Nat.le_refl _) (by omega) HBEL.out).setCell (by show B ≤ B + 1; omega) _).setCell (by show B ≤ B + 1; omega) _
        case measure => simp [intOf]; omega
      · have hx1 : (x == 124) = false := by simp [hbar]
        obtain ⟨d, e, hl, h1, h2, h3, h4, hpf'⟩ := pfrom_in HPF.out HG.out hbar
        have HPF' := hide hpf'
        have hk2 : j + 2 < s.size := by have := (List.getElem?_eq_some_iff.1 h3).1; have := HT.out; omega
        have hk1 : j + 1 < s.size := by omega
        have hb1 := bytesOf_get s (j + 1) hk1
        have hb2 := bytesOf_get s (j + 2) hk2
        have hye1 : ((s[j + 1]).toNat : Int) = d := by rw [h1] at hb1; exact (Option.some.inj hb1).symm
        have hye2 : ((s[j + 2]).toNat : Int) = e := by rw [h3] at hb2; exact (Option.some.inj hb2).symm
        have hd1' := dig_bd h2
        have hd2' := dig_bd h4
        have hye3 : ∀ h, ((s[((j : Int) + 2).toNat]'h).toNat : Int) = e := by
          intro h
          have e : ((j : Int) + 2).toNat = j + 2 := by omega
          simp only [e]; exact hye2
        have t1 : (0 : Int) ≤ (j : Int) + 1 := by omega
        have t2 : (j : Int) + 1 < (s.size : Int) := by omega
        have t3 : (0 : Int) ≤ (j : Int) + 2 := by omega
        have t4 : (j : Int) + 2 < (s.size : Int) := by omega
        have t5 : (j : Int) < (s.size : Int) := by omega
        have z1 : IntKind.i64.wrap ((j : Int) + 1) = (j : Int) + 1 := wrap_small (by omega) (by omega)
        have z2 : IntKind.i64.wrap ((j : Int) + 2) = (j : Int) + 2 := wrap_small (by omega) (by omega)
        have z3 : IntKind.u8.wrap (d - 48) = d - 48 := wrap_u8G (by omega) (by omega)
        have z4 : IntKind.u8.wrap (e - 48) = e - 48 := wrap_u8G (by omega) (by omega)
        have z5 : IntKind.i64.wrap (d - 48) = d - 48 := wrap_small (by omega) (by omega)
        have z6 : IntKind.i64.wrap (e - 48) = e - 48 := wrap_small (by omega) (by omega)
        have z7 : IntKind.i64.wrap ((d - 48) * 10) = (d - 48) * 10 := wrap_small (by omega) (by omega)
        have z8 : IntKind.i64.wrap ((d - 48) * 10 + (e - 48)) = (d - 48) * 10 + (e - 48) := wrap_small (by omega) (by omega)
        have HE : Hid ((d - 48) * 10 + (e - 48) = 10 * (d - 48) + (e - 48)) := by show _ = _; omega
        clear h1 h2 h3 h4 hb1 hb2 hpf' hbar
        go_wp2_with fail
        go_quiet (fail)
        go_wp2_with fail
        have hwd : Below wr.heap.size wr (wr.drewN nq) := below_drewN (Below.refl _ _) _
        have hwz : wr.heap.size ≤ (wr.drewN nq).heap.size := hwd.size
        have f1d : (wr.drewN nq).cell? ⟨B + 1, 1, none⟩ = some (.slice lo cur.length lcap) := f1
        have fzd : (wr.drewN nq).frozen? ⟨B + 1, 1, none⟩ = false := fz1
        generalize wr.drewN nq = wd at *
        have hownd := own_below HU.out.own hwd
        have hXd : B + 1 < wd.heap.size := by omega
        have PUSH : Hid (∀ W w1 g cp, Below wd.heap.size wd W → w1.ownsRow E 115 2 (.slice (some ⟨g, 0, none⟩) (cur.length + 1) cp) (cur.length + 1) (giCells cur ++ [.int .u8 x, .int .i64 ((d - 48) * 10 + (e - 48))]) → W.grownBy w1 (Value.slice lo cur.length lcap).ownBlock → _) := fun W w1 g cp h1 h2 h3 => HU.out.push (hwd.trans (h1.mono hwz)) h2 h3
        have HOWD := hide hownd
        clear hwd hownd
        go_region_law
          (first
            | (refine step_append_lies _ rfl (.tmp 45) (.tmp 51) 77 rfl E 115 i0 _ 2 16 Tryz.underlying77 hi hz0 hz1 hz2 rfl (by decide) _ _ _ rfl (own_below HOWD.out (by first | exact keep_ad | exact keep_drew)) ⟨wd.heap.size, 0, none⟩ 1 1 [.int .u8 x, .int .i64 ((d - 48) * 10 + (e - 48))] rfl rfl (by exact news2 wd _ _ _) (by intro u hu; simp at hu; rcases hu with rfl | rfl <;> rfl) (by decide) (by unfold maxLen; omega) (by omega) (by simp; omega) (wd.heap.size + 1) (by simp) ?_; intro g cp w1 ha hgr _ _; have RR := hide (PUSH.out _ w1 g cp keep_ad ha hgr); have p0 := RR.out.2.1; have p1 := RR.out.2.2.1; clear ha hgr))
        all_goals
          clear PUSH HOWD
          go_wp2
          go_roundw
          case rel =>
            refine ⟨j + 3, k, st, E, M, cur ++ [(x, 10 * (d - 48) + (e - 48))], _, by omega, by go_num, hal, by rw [List.length_append, List.length_singleton]; omega, HKA.out, HPF'.out, by rw [← HE.out]; exact RR.out.1, RR.out.2.2.2 B w (by omega) (by omega) (by omega) HBEL.out⟩
          case measure => simp [intOf]; omega
    · have hje : j = (bytesOf s).length := by rw [HT.out]; omega
      have hcs := pfrom_fin HPF.out hje
      have HCS := hide hcs
      clear hcs hje
      go_wp2_with (at_builtin; refine wpList_append_lies _ rfl _ _ 53 rfl B 91 j0 _ 2 32 Tryz.underlying53 hj hy0 hy1 hy2 rfl (by decide) _ _ _ rfl (hrow.alloc _) ⟨wr.heap.size, 0, none⟩ 1 1 [.int .i64 (st : Nat), .slice lo cur.length lcap] rfl rfl (news2 _ _ _ _) (by intro u hu; simp at hu; rcases hu with rfl | rfl <;> rfl) (by decide) (by unfold maxLen; omega) (by omega) (by simp; omega) (wr.heap.size + 1) (by simp) ?_; intro g cp w1 ha hgr hat _; have RR := hide (HU.out.over (st' := j + 1) ((Below.refl _ _).alloc (Nat.le_refl _) _) ha hgr (hat.imp id (by omega))); have s1 := RR.out.2.1; obtain ⟨b0, b1⟩ := twoG s1; have bz0 := frozen_row s1 0; have bz1 := frozen_row s1 1; clear ha hgr hat s1)
      go_ret
      refine ⟨_, rfl, ?_, ?_⟩
      · obtain ⟨M', k1, k2, k3⟩ := RR.out.2.2.1
        refine ⟨M', ?_, own_mono k2 (Nat.zero_le _), k3⟩
        rw [k1, HCS.out, List.map_append]; rfl
      · have := RR.out.2.2.2 B w (Nat.le_refl _) (by omega) HBEL.out
        first | exact this | (rw [hB']; exact this)

end Go.Proofs.YtjbmflgamogefabGreat
