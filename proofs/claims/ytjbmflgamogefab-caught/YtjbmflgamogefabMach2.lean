/- The machine: what holds behind every instruction and every quantum. -/
import Derived.Test.YtjbmflgamogefabMach
namespace Go.Proofs.Ytjbmflgamogefab

theorem firstF_zero {I : List In} {L : List Sp} : ∀ f p, (firstF I L f p).1 = 0 → ∀ j, p ≤ j → j < p + f → faultF I L j = 0
  | 0, p, _, j, h1, h2 => by omega
  | f + 1, p, h, j, h1, h2 => by
    simp only [firstF] at h
    split at h
    · rename_i h0
      by_cases e : j = p
      · subst e; exact h0
      · exact firstF_zero f (p + 1) h j (by omega) (by omega)
    · rename_i h0; exact absurd h h0
theorem sound_of {st : Int} {I : List In} {q : Int × Int} (hO : OkCode I) (h : Told st I q) (hq : q.1 = 0) : Sound I := by
  obtain ⟨L, hL, rfl⟩ := h
  have hz : (firstF I L (I.length + 1) 0).1 = 0 := by
    unfold toldF at hq
    split at hq
    · rename_i h0; exact h0
    · exact hq
  intro s hs
  have hv := hs.valid hO
  have hm := (hL.2 s).2 hs
  have hf := firstF_zero _ _ hz s.1.toNat (Nat.zero_le _) (by have := hv.2.1; omega)
  have hcast : ((s.1.toNat : Nat) : Int) = s.1 := by have := hv.1; omega
  have hmem : s ∈ L.filter (atP s.1.toNat) := List.mem_filter.2 ⟨hm, by simp [atP, hcast]⟩
  have hne : ¬ (L.filter (atP s.1.toNat)).length = 0 := by
    intro e; rw [List.eq_nil_of_length_eq_zero e] at hmem; cases hmem
  unfold faultF at hf
  rw [if_neg hne] at hf
  cases hi : I[s.1.toNat]? with
  | none => rw [hi] at hf; simp at hf
  | some x =>
    rw [hi] at hf
    simp only at hf
    by_cases h1 : 1 < (L.filter (atP s.1.toNat)).length
    · rw [if_pos h1] at hf; simp at hf
    · rw [if_neg h1] at hf
      obtain ⟨t, ht⟩ := List.length_eq_one_iff.1 (show (L.filter (atP s.1.toNat)).length = 1 by omega)
      have hst : s = t := by rw [ht] at hmem; simpa using hmem
      subst hst
      rw [ht] at hf
      refine ⟨(List.getElem?_eq_some_iff.1 hi).1, fun c a hca => ?_, fun t' ht' he => ?_⟩
      · first | (cases hca; simpa [eR] using hf) | (rw [hi] at hca; cases hca; simpa [eR] using hf)
      · have hm' := (hL.2 t').2 ht'
        have : t' ∈ L.filter (atP s.1.toNat) := List.mem_filter.2 ⟨hm', by simp [atP, hcast, he]⟩
        rw [ht] at this; simpa using this
theorem sound_all : ∀ {cs : Cods}, (∀ x ∈ cs, OkCode x.2) → ChkCods cs (0, 0) → ∀ x ∈ cs, Sound x.2
  | [], _, _, x, hx => by cases hx
  | y :: t, hO, h, x, hx => by
    obtain ⟨q, h1, h2⟩ := h
    rcases h2 with ⟨a, b⟩ | ⟨a, b⟩
    · rcases List.mem_cons.1 hx with rfl | hx
      · exact sound_of (hO x (by simp)) h1 a
      · exact sound_all (fun z hz => hO z (by simp [hz])) b x hx
    · rw [← b] at a; exact absurd rfl a

/-- The codes of a program that Check admits. -/
structure Fine (C : Nat → List In) (n : Nat) : Prop where
  ok : ∀ k, k < n → OkCode (C k)
  sound : ∀ k, k < n → Sound (C k)

theorem top_mem {s : List Int} (h : ¬ s = []) : topOf s ∈ s := by
  rcases snoc_or s with rfl | ⟨t, x, rfl⟩
  · exact absurd rfl h
  · simp [topOf]
theorem nodup_rows {C : Nat → List In} {n : Nat} {run : Option Nat} {ρ : Nat → List Int} {m : Mac} (hF : Fine C n) (h : Inv C n run ρ m) (k : Nat) (hk : k < n) : (ρ k).Nodup := by
  by_cases hd : (m.th k).sta = 68
  · rw [h.done k hk hd]; exact List.nodup_nil
  · exact ((h.at_ k hk hd).valid (hF.ok k hk)).2.2.2.2.2
/-- The instruction at hand, and what is known of it. -/
theorem at_ins {C : Nat → List In} {n k : Nat} {ρ : Nat → List Int} {m : Mac} {run : Option Nat} (hF : Fine C n) (h : Inv C n run ρ m) (hk : k < n) (hs : ¬ (m.th k).sta = 68) :
    ∃ c a, (C k)[(m.th k).pc]? = some (c, a) ∧ insAt C m k = (c, a) ∧ (m.th k).pc < (C k).length ∧ 0 ≤ a ∧ a < 100 ∧ argOk c a (C k).length = true ∧ stkBad c (m.th k).stk.length = false ∧ lckBad c a (ρ k) = false ∧
      (∀ t, (¬ c = 88 ∧ ((¬ c = 74 ∧ t = nxt c a ((m.th k).pc, (m.th k).stk.length, ρ k)) ∨ ((c = 74 ∨ c = 90) ∧ t = jmp c a ((m.th k).pc, (m.th k).stk.length, ρ k)))) → Reach (C k) t) := by
  have hR := h.at_ k hk hs
  obtain ⟨h1, h2, _⟩ := hF.sound k hk _ hR
  simp only [Int.toNat_natCast] at h1 h2
  obtain ⟨⟨c, a⟩, hca⟩ : ∃ x, (C k)[(m.th k).pc]? = some x := ⟨(C k)[(m.th k).pc], by simp [h1]⟩
  have hw := h2 c a hca
  obtain ⟨w1, w2⟩ := wr_ok hw
  have hm := hF.ok k hk _ (List.mem_of_getElem? hca)
  refine ⟨c, a, hca, ?_, h1, hm.1, hm.2.1, hm.2.2, w1, w2, fun t ht => hR.step ⟨c, a, by simpa using hca, ⟨hw, ht.1⟩, ht.2⟩⟩
  unfold insAt
  rw [List.getD_eq_getElem?_getD, hca]; rfl

theorem stk_ok {c h : Int} (hb : stkBad c h = false) : tk c ≤ h ∧ h - tk c + pt c ≤ 6 := by
  simp only [stkBad, Bool.or_eq_false_iff, decide_eq_false_iff_not] at hb
  omega
theorem nums_drop {s : List Int} (h : ∀ v ∈ s, 0 ≤ v ∧ v < 1000) : ∀ v ∈ s.dropLast, 0 ≤ v ∧ v < 1000 := fun v hv => h v ((List.dropLast_sublist s).subset hv)
theorem nums_snoc {s : List Int} {x : Int} (h : ∀ v ∈ s, 0 ≤ v ∧ v < 1000) (hx : 0 ≤ x ∧ x < 1000) : ∀ v ∈ s ++ [x], 0 ≤ v ∧ v < 1000 := fun v hv => by
  rcases List.mem_append.1 hv with hv | hv
  · exact h v hv
  · simp at hv; subst hv; exact hx
theorem upd_cells {f : Nat → Int} (h : ∀ j, 0 ≤ f j ∧ f j < 1000) (l : Nat) {x : Int} (hx : 0 ≤ x ∧ x < 1000) : ∀ j, 0 ≤ upd f l x j ∧ upd f l x j < 1000 := fun j => by
  by_cases e : j = l
  · subst e; rw [upd_same]; exact hx
  · rw [upd_other _ _ e]; exact h j
theorem keep_row {c : Int} (a : Int) (r : List Int) (h1 : ¬ c = 82) (h2 : ¬ c = 65) : behindR c a r = r := by simp [behindR, keptR, h1, h2]

theorem cast_reach {I : List In} {p p' h h' : Int} {r : List Int} (hr : Reach I (p, h, r)) (hp : p' = p) (hh : h' = h) : Reach I (p', h', r) := by subst hp; subst hh; exact hr
theorem last_row {r : List Int} {a : Int} (h : lastIs r a = true) : ∃ s, r = s ++ [a] := by
  rcases snoc_or r with rfl | ⟨s, x, rfl⟩
  · simp [lastIs_nil] at h
  · rw [lastIs_snoc] at h; exact ⟨s, by rw [show x = a by simpa using h]⟩
theorem upd_upd {α : Type} (f : Nat → α) (k : Nat) (u v : α) : upd (upd f k u) k v = upd f k v := by
  funext j; by_cases e : j = k
  · subst e; simp [upd]
  · simp [upd, e]
theorem upd_swap {α : Type} (f : Nat → α) {k x : Nat} (h : ¬ k = x) {u v w : α} : upd (upd (upd f k u) x v) k w = upd (upd f k w) x v := by
  funext j; by_cases e : j = k
  · subst e; simp [upd, h]
  · simp [upd, e]
/-- Behind an instruction it holds again. -/
theorem Inv.act {C : Nat → List In} {n k : Nat} {ρ : Nat → List Int} {m : Mac} (hF : Fine C n) (h : Inv C n (some k) ρ m) (hk : k < n) (hs : (m.th k).sta = 82) (q : Int) : ∃ ρ', Inv C n (some k) ρ' (actM C m k q) := by
  obtain ⟨c, a, hca, hins, hlt, ha0, ha1, hok, hsb, hlb, hgo⟩ := at_ins hF h hk (by omega)
  have hst := stk_ok hsb
  have hnum := h.nums k hk
  have hrn := nodup_rows hF h
  have hal : ((a.toNat : Nat) : Int) = a := by omega
  unfold actM
  rw [hins]
  unfold actOn
  by_cases c1 : c = 107
  · subst c1
    simp only [if_true]
    refine ⟨ρ, Inv.turns (t' := { m.th k with pc := (m.th k).pc + 1, stk := (m.th k).stk ++ [a] }) h hk hs (.inl hs) (fun _ => ?_) (fun e => by first | omega | (simp only at e; omega)) (nums_snoc hnum ⟨ha0, by omega⟩) h.cells _ _⟩
    have hx := hgo _ ⟨by omega, .inl ⟨by omega, rfl⟩⟩
    simp only [nxt, keep_row a (ρ k) (c := 107) (by omega) (by omega)] at hx
    refine cast_reach hx ?_ ?_
    · simp
    · simp [tk, pt]
  rw [if_neg c1]
  by_cases c2 : c = 103
  · subst c2
    simp only [if_true]
    refine ⟨ρ, Inv.turns (t' := { m.th k with pc := (m.th k).pc + 1, stk := (m.th k).stk ++ [m.cells a.toNat] }) h hk hs (.inl hs) (fun _ => ?_) (fun e => by first | omega | (simp only at e; omega)) (nums_snoc hnum (h.cells _)) h.cells _ _⟩
    have hx := hgo _ ⟨by omega, .inl ⟨by omega, rfl⟩⟩
    simp only [nxt, keep_row a (ρ k) (c := 103) (by omega) (by omega)] at hx
    refine cast_reach hx ?_ ?_
    · simp
    · simp [tk, pt]
  rw [if_neg c2]
  by_cases c3 : c = 115
  · subst c3
    simp only [if_true]
    have hne : ¬ (m.th k).stk = [] := by intro e; rw [e] at hst; simp [tk] at hst
    have htop := hnum _ (top_mem hne)
    have hlen : (m.th k).stk.dropLast.length + 1 = (m.th k).stk.length := by rw [List.length_dropLast]; have := List.length_pos_iff.2 hne; omega
    refine ⟨ρ, Inv.turns (t' := { m.th k with pc := (m.th k).pc + 1, stk := (m.th k).stk.dropLast }) h hk hs (.inl hs) (fun _ => ?_) (fun e => by first | omega | (simp only at e; omega)) (nums_drop hnum) (upd_cells h.cells a.toNat htop) _ _⟩
    have hx := hgo _ ⟨by omega, .inl ⟨by omega, rfl⟩⟩
    simp only [nxt, keep_row a (ρ k) (c := 115) (by omega) (by omega)] at hx
    refine cast_reach hx ?_ ?_
    · simp
    · simp [tk, pt]; omega
  rw [if_neg c3]
  by_cases c4 : c = 112
  · subst c4
    simp only [if_true]
    have hne : ¬ (m.th k).stk = [] := by intro e; rw [e] at hst; simp [tk] at hst
    have htop := hnum _ (top_mem hne)
    have hlen : (m.th k).stk.dropLast.length + 1 = (m.th k).stk.length := by rw [List.length_dropLast]; have := List.length_pos_iff.2 hne; omega
    refine ⟨ρ, Inv.turns (t' := { m.th k with pc := (m.th k).pc + 1, stk := (m.th k).stk.dropLast }) h hk hs (.inl hs) (fun _ => ?_) (fun e => by first | omega | (simp only at e; omega)) (nums_drop hnum) h.cells _ _⟩
    have hx := hgo _ ⟨by omega, .inl ⟨by omega, rfl⟩⟩
    simp only [nxt, keep_row a (ρ k) (c := 112) (by omega) (by omega)] at hx
    refine cast_reach hx ?_ ?_
    · simp
    · simp [tk, pt]; omega
  rw [if_neg c4]
  by_cases c5 : c = 43
  · subst c5
    simp only [if_true]
    have hne : ¬ (m.th k).stk = [] := by intro e; rw [e] at hst; simp [tk] at hst
    have htop := hnum _ (top_mem hne)
    have hlen : (m.th k).stk.dropLast.length + 1 = (m.th k).stk.length := by rw [List.length_dropLast]; have := List.length_pos_iff.2 hne; omega
    have hne2 : ¬ (m.th k).stk.dropLast = [] := by intro e; rw [e] at hlen; simp [tk] at hst; simp at hlen; omega
    have htop2 := hnum _ ((List.dropLast_sublist _).subset (top_mem hne2))
    have hlen2 : (m.th k).stk.dropLast.dropLast.length + 1 = (m.th k).stk.dropLast.length := by rw [List.length_dropLast (xs := (m.th k).stk.dropLast)]; have := List.length_pos_iff.2 hne2; omega
    refine ⟨ρ, Inv.turns (t' := { m.th k with pc := (m.th k).pc + 1, stk := (m.th k).stk.dropLast.dropLast ++ [(topOf (m.th k).stk.dropLast + topOf (m.th k).stk) % 1000] }) h hk hs (.inl hs) (fun _ => ?_) (fun e => by first | omega | (simp only at e; omega)) (nums_snoc (nums_drop (nums_drop hnum)) (by omega)) h.cells _ _⟩
    have hx := hgo _ ⟨by omega, .inl ⟨by omega, rfl⟩⟩
    simp only [nxt, keep_row a (ρ k) (c := 43) (by omega) (by omega)] at hx
    refine cast_reach hx ?_ ?_
    · simp
    · simp [tk, pt]; omega
  rw [if_neg c5]
  by_cases c6 : c = 45
  · subst c6
    simp only [if_true]
    have hne : ¬ (m.th k).stk = [] := by intro e; rw [e] at hst; simp [tk] at hst
    have htop := hnum _ (top_mem hne)
    have hlen : (m.th k).stk.dropLast.length + 1 = (m.th k).stk.length := by rw [List.length_dropLast]; have := List.length_pos_iff.2 hne; omega
    have hne2 : ¬ (m.th k).stk.dropLast = [] := by intro e; rw [e] at hlen; simp [tk] at hst; simp at hlen; omega
    have htop2 := hnum _ ((List.dropLast_sublist _).subset (top_mem hne2))
    have hlen2 : (m.th k).stk.dropLast.dropLast.length + 1 = (m.th k).stk.dropLast.length := by rw [List.length_dropLast (xs := (m.th k).stk.dropLast)]; have := List.length_pos_iff.2 hne2; omega
    refine ⟨ρ, Inv.turns (t' := { m.th k with pc := (m.th k).pc + 1, stk := (m.th k).stk.dropLast.dropLast ++ [(topOf (m.th k).stk.dropLast - topOf (m.th k).stk + 1000) % 1000] }) h hk hs (.inl hs) (fun _ => ?_) (fun e => by first | omega | (simp only at e; omega)) (nums_snoc (nums_drop (nums_drop hnum)) (by omega)) h.cells _ _⟩
    have hx := hgo _ ⟨by omega, .inl ⟨by omega, rfl⟩⟩
    simp only [nxt, keep_row a (ρ k) (c := 45) (by omega) (by omega)] at hx
    refine cast_reach hx ?_ ?_
    · simp
    · simp [tk, pt]; omega
  rw [if_neg c6]
  by_cases c7 : c = 74
  · subst c7
    simp only [if_true]
    refine ⟨ρ, Inv.turns (t' := { m.th k with pc := a.toNat }) h hk hs (.inl hs) (fun _ => ?_) (fun e => by first | omega | (simp only at e; omega)) hnum h.cells _ _⟩
    have hx := hgo _ ⟨by omega, .inr ⟨.inl rfl, rfl⟩⟩
    simp only [jmp, keep_row a (ρ k) (c := 74) (by omega) (by omega)] at hx
    refine cast_reach hx ?_ ?_
    · exact hal
    · simp [tk, pt]
  rw [if_neg c7]
  by_cases c8 : c = 90
  · subst c8
    simp only [if_true]
    have hne : ¬ (m.th k).stk = [] := by intro e; rw [e] at hst; simp [tk] at hst
    have htop := hnum _ (top_mem hne)
    have hlen : (m.th k).stk.dropLast.length + 1 = (m.th k).stk.length := by rw [List.length_dropLast]; have := List.length_pos_iff.2 hne; omega
    by_cases hz : topOf (m.th k).stk = 0
    · rw [if_pos hz]
      refine ⟨ρ, Inv.turns (t' := { m.th k with pc := a.toNat, stk := (m.th k).stk.dropLast }) h hk hs (.inl hs) (fun _ => ?_) (fun e => by first | omega | (simp only at e; omega)) (nums_drop hnum) h.cells _ _⟩
      have hx := hgo _ ⟨by omega, .inr ⟨.inr rfl, rfl⟩⟩
      simp only [jmp, keep_row a (ρ k) (c := 90) (by omega) (by omega)] at hx
      refine cast_reach hx ?_ ?_
      · exact hal
      · simp [tk, pt]; omega
    · rw [if_neg hz]
      refine ⟨ρ, Inv.turns (t' := { m.th k with pc := (m.th k).pc + 1, stk := (m.th k).stk.dropLast }) h hk hs (.inl hs) (fun _ => ?_) (fun e => by first | omega | (simp only at e; omega)) (nums_drop hnum) h.cells _ _⟩
      have hx := hgo _ ⟨by omega, .inl ⟨by omega, rfl⟩⟩
      simp only [nxt, keep_row a (ρ k) (c := 90) (by omega) (by omega)] at hx
      refine cast_reach hx ?_ ?_
      · simp
      · simp [tk, pt]; omega
  rw [if_neg c8]
  by_cases c9 : c = 65
  · subst c9
    simp only [if_true]
    have hx := hgo _ ⟨by omega, .inl ⟨by omega, rfl⟩⟩
    have hrow : behindR 65 a (ρ k) = ρ k ++ [((a.toNat : Nat) : Int)] := by rw [hal]; simp [behindR, keptR]
    simp only [nxt, hrow] at hx
    have hR := cast_reach (p' := ((m.th k).pc + 1 : Nat)) (h' := ((m.th k).stk.length : Nat)) hx (by simp) (by simp [tk, pt])
    rcases h.who a.toNat with ho | ⟨j, hj, ho⟩
    · rw [if_pos (by omega)]
      exact ⟨_, Inv.takes (t' := { m.th k with pc := (m.th k).pc + 1 }) h hk hs hs ho hR hnum⟩
    · rw [if_neg (by omega)]
      exact ⟨_, Inv.blocks (t' := { m.th k with pc := (m.th k).pc + 1, sta := 66, bat := a.toNat }) h hk hs rfl (by omega) hR hnum⟩
  rw [if_neg c9]
  by_cases c10 : c = 82
  · subst c10
    simp only [if_true]
    have hx := hgo _ ⟨by omega, .inl ⟨by omega, rfl⟩⟩
    have hla : lastIs (ρ k) a = true := by simpa [lckBad] using hlb
    obtain ⟨r, hr⟩ := last_row hla
    have hrow : behindR 82 a (ρ k) = r := by simp [behindR, keptR, hr]
    simp only [nxt, hrow] at hx
    have hR := cast_reach (p' := ((m.th k).pc + 1 : Nat)) (h' := ((m.th k).stk.length : Nat)) hx (by simp) (by simp [tk, pt])
    rw [← hal] at hr
    unfold giveM stepTh
    cases hb : m.blk a.toNat with
    | nil =>
      simp only
      exact ⟨_, Inv.gives (t' := { m.th k with pc := (m.th k).pc + 1 }) h hk hs hr (hrn k hk) (.inl ⟨hs, rfl, rfl⟩) hb hR hnum⟩
    | cons x bs =>
      simp only
      have hxk : ¬ x = k := by intro e; subst e; have := ((h.blk a.toNat x).1 (by rw [hb]; simp)).2.1; omega
      have key := Inv.hands (t' := { m.th k with pc := (m.th k).pc + 1 }) h hk hs hr hrn (.inl ⟨hs, rfl, rfl⟩) hb hR hnum
      refine ⟨upd ρ k r, ?_⟩
      unfold readyM
      simp only [upd_other _ _ hxk]
      exact key
  rw [if_neg c10]
  by_cases c11 : c = 87
  · subst c11
    simp only [if_true]
    have hx := hgo _ ⟨by omega, .inl ⟨by omega, rfl⟩⟩
    have hla : lastIs (ρ k) a = true := by simpa [lckBad] using hlb
    obtain ⟨r, hr⟩ := last_row hla
    simp only [nxt, keep_row a (ρ k) (c := 87) (by omega) (by omega)] at hx
    rw [← hal] at hr
    have hR := cast_reach (p' := ((m.th k).pc + 1 : Nat)) (h' := ((m.th k).stk.length : Nat)) hx (by simp) (by simp [tk, pt])
    rw [hr] at hR
    unfold waitM giveM stepTh
    cases hb : m.blk a.toNat with
    | nil =>
      simp only [upd_same, upd_upd]
      exact ⟨_, Inv.gives (t' := { m.th k with pc := (m.th k).pc + 1, sta := 87 }) h hk hs hr (hrn k hk) (.inr ⟨rfl, rfl, rfl⟩) hb hR hnum⟩
    | cons x bs =>
      have hxk : ¬ x = k := by intro e; subst e; have := ((h.blk a.toNat x).1 (by rw [hb]; simp)).2.1; omega
      have hkx : ¬ k = x := fun e => hxk e.symm
      have key := Inv.hands (t' := { m.th k with pc := (m.th k).pc + 1, sta := 87 }) h hk hs hr hrn (.inr ⟨rfl, rfl, rfl⟩) hb hR hnum
      refine ⟨upd ρ k (r ++ [((a.toNat : Nat) : Int)]), ?_⟩
      simp only
      unfold readyM
      simp only [upd_other _ _ hxk, upd_other _ _ hkx, upd_same]
      rw [upd_swap _ hkx]
      exact key
  rw [if_neg c11]
  by_cases c12 : c = 78
  · subst c12
    simp only [if_true]
    have hx := hgo _ ⟨by omega, .inl ⟨by omega, rfl⟩⟩
    simp only [nxt, keep_row a (ρ k) (c := 78) (by omega) (by omega)] at hx
    have hR := cast_reach (p' := ((m.th k).pc + 1 : Nat)) (h' := ((m.th k).stk.length : Nat)) hx (by simp) (by simp [tk, pt])
    have h1 := Inv.turns (t' := { m.th k with pc := (m.th k).pc + 1 }) h hk hs (.inl hs) (fun _ => hR) (fun e => by first | omega | (simp only at e; omega)) hnum h.cells m.out m.trc
    unfold noteM
    have hwe : (stepTh m k { m.th k with pc := (m.th k).pc + 1 }).wai a.toNat = m.wai a.toNat := rfl
    rw [hwe]
    cases hw : m.wai a.toNat with
    | nil => exact ⟨ρ, h1⟩
    | cons x ws =>
      have hha : hasL (ρ k) a = true := by simpa [lckBad] using hlb
      have hmem : a ∈ ρ k := by simpa [hasL] using hha
      have hown : m.own a.toNat = (k : Int) := (h.own a.toNat k hk).2 (by rw [owned_plain (.inl hs), hal]; exact hmem)
      exact ⟨ρ, Inv.wakes (l := a.toNat) h1 hk (by show (upd m.th k _ k).sta = 82; rw [upd_same]; exact hs) (by show ¬ m.own a.toNat = -1; omega) hw⟩
  rw [if_neg c12]
  by_cases c13 : c = 84
  · subst c13
    simp only [if_true]
    have hx := hgo _ ⟨by omega, .inl ⟨by omega, rfl⟩⟩
    simp only [nxt, keep_row a (ρ k) (c := 84) (by omega) (by omega)] at hx
    have hR := cast_reach (p' := ((m.th k).pc + 1 : Nat)) (h' := ((m.th k).stk.length : Nat)) hx (by simp) (by simp [tk, pt])
    exact ⟨ρ, Inv.turns (t' := { m.th k with pc := (m.th k).pc + 1, sta := 83, wake := q + 1 + a }) h hk hs (.inr (.inl rfl)) (fun _ => hR) (fun e => by first | omega | (simp only at e; omega)) hnum h.cells m.out m.trc⟩
  rw [if_neg c13]
  by_cases c14 : c = 88
  · subst c14
    simp only [if_true]
    have hrow : ρ k = [] := by
      have : (ρ k).isEmpty = true := by simpa [lckBad] using hlb
      simpa using this
    exact ⟨ρ, Inv.turns (t' := { m.th k with pc := (m.th k).pc + 1, sta := 68 }) h hk hs (.inr (.inr rfl)) (fun e => absurd rfl e) (fun _ => hrow) hnum h.cells m.out m.trc⟩
  rw [if_neg c14]
  have hx := hgo _ ⟨c14, .inl ⟨c7, rfl⟩⟩
  simp only [nxt, keep_row a (ρ k) c10 c9] at hx
  have htp : tk c = 0 ∧ pt c = 0 := by simp [tk, pt, c1, c2, c3, c4, c5, c6, c8]
  have hR := cast_reach (p' := ((m.th k).pc + 1 : Nat)) (h' := ((m.th k).stk.length : Nat)) hx (by simp) (by rw [htp.1, htp.2]; simp)
  exact ⟨ρ, Inv.turns (t' := { m.th k with pc := (m.th k).pc + 1 }) h hk hs (.inl hs) (fun _ => hR) (fun e => by first | omega | (simp only at e; omega)) hnum h.cells m.out m.trc⟩

theorem Inv.leave {C : Nat → List In} {n k : Nat} {ρ : Nat → List Int} {m : Mac} (h : Inv C n (some k) ρ m) (hs : ¬ (m.th k).sta = 82) : Inv C n none ρ m := by
  refine { h with que := fun j => ?_ }
  rw [h.que j]
  constructor
  · rintro ⟨a, b, _⟩; exact ⟨a, b, by simp⟩
  · rintro ⟨a, b, _⟩; exact ⟨a, b, fun e => hs (by cases e; exact b)⟩
/-- A thread that is ready or asleep goes behind the queue. -/
theorem Inv.ready {C : Nat → List In} {n k : Nat} {run : Option Nat} {ρ : Nat → List Int} {m : Mac} (h : Inv C n run ρ m) (hk : k < n) (hs : (run = some k ∧ (m.th k).sta = 82) ∨ (run = none ∧ (m.th k).sta = 83)) : Inv C n none ρ (readyM m k) := by
  have hno : ¬ k ∈ m.q := fun hm => by
    have := (h.que k).1 hm
    rcases hs with ⟨a, _⟩ | ⟨_, b⟩
    · exact this.2.2 a
    · omega
  have hs2 : (m.th k).sta = 82 ∨ (m.th k).sta = 83 := by rcases hs with ⟨_, b⟩ | ⟨_, b⟩ <;> simp [b]
  exact {
    sta := fun j hj => by
      by_cases e : j = k
      · subst e; simp [readyM, upd_same]
      · simp only [readyM, upd_other _ _ e]; exact h.sta j hj
    at_ := fun j hj => by
      by_cases e : j = k
      · subst e; simp only [readyM, upd_same]; exact fun _ => h.at_ j hj (by omega)
      · simp only [readyM, upd_other _ _ e]; exact h.at_ j hj
    done := fun j hj => by
      by_cases e : j = k
      · subst e; simp only [readyM, upd_same]; intro h1; omega
      · simp only [readyM, upd_other _ _ e]; exact h.done j hj
    ne := fun j hj => by
      by_cases e : j = k
      · subst e; simp only [readyM, upd_same]; intro h1; omega
      · simp only [readyM, upd_other _ _ e]; exact h.ne j hj
    nums := fun j hj => by
      by_cases e : j = k
      · subst e; simp only [readyM, upd_same]; exact h.nums j hj
      · simp only [readyM, upd_other _ _ e]; exact h.nums j hj
    cells := h.cells
    own := fun l j hj => by
      by_cases e : j = k
      · subst e; simp only [readyM, upd_same]; rw [owned_plain (.inl rfl)]; have := h.own l j hj; rw [owned_plain (by omega)] at this; exact this
      · simp only [readyM, upd_other _ _ e]; exact h.own l j hj
    who := h.who
    blk := fun l j => by
      by_cases e : j = k
      · subst e; simp only [readyM, upd_same]; rw [h.blk l j]; constructor <;> (rintro ⟨_, h1, _⟩; omega)
      · simp only [readyM, upd_other _ _ e]; exact h.blk l j
    wai := fun l j => by
      by_cases e : j = k
      · subst e; simp only [readyM, upd_same]; rw [h.wai l j]; constructor <;> (rintro ⟨_, h1, _⟩; omega)
      · simp only [readyM, upd_other _ _ e]; exact h.wai l j
    bnd := h.bnd
    wnd := h.wnd
    has := h.has
    qnd := by
      show (m.q ++ [k]).Nodup
      rw [List.nodup_append]
      exact ⟨h.qnd, by simp, fun y hy z hz => by simp at hz; subst hz; intro e; subst e; exact hno hy⟩
    que := fun j => by
      show j ∈ m.q ++ [k] ↔ _
      rw [List.mem_append, h.que j]
      by_cases e : j = k
      · subst e; simp [readyM, upd_same, hk]
      · simp only [readyM, upd_other _ _ e]
        rcases hs with ⟨a, _⟩ | ⟨a, _⟩
        · rw [a]; simp [e]; intro _ _; exact fun e2 => e e2.symm
        · rw [a]; simp [e] }
theorem Inv.start {C : Nat → List In} {n k : Nat} {ρ : Nat → List Int} {m : Mac} {r : List Nat} (h : Inv C n none ρ m) (hq : m.q = k :: r) (trc' : List Int) : Inv C n (some k) ρ { m with q := r, trc := trc' } ∧ k < n ∧ (m.th k).sta = 82 := by
  have hnd := h.qnd
  rw [hq, List.nodup_cons] at hnd
  have hk := (h.que k).1 (by rw [hq]; simp)
  refine ⟨{ h with qnd := hnd.2, que := fun j => ?_ }, hk.1, hk.2.1⟩
  show j ∈ r ↔ _
  by_cases e : j = k
  · subst e; constructor
    · intro hm; exact absurd hm hnd.1
    · rintro ⟨_, _, h1⟩; exact absurd rfl h1
  · have := h.que j
    rw [hq] at this
    simp [e] at this
    rw [this]
    constructor
    · rintro ⟨a, b⟩; exact ⟨a, b, fun e2 => e (by cases e2; rfl)⟩
    · rintro ⟨a, b, _⟩; exact ⟨a, b⟩
theorem Inv.runs {C : Nat → List In} {n k : Nat} (hF : Fine C n) (hk : k < n) (q : Int) : ∀ (i : Nat) (op : Int) (m : Mac) (ρ : Nat → List Int), Inv C n (some k) ρ m → ∃ ρ', Inv C n (some k) ρ' (runM C k q i op m)
  | 0, _, _, ρ, h => ⟨ρ, h⟩
  | i + 1, op, m, ρ, h => by
    simp only [runM]
    split
    · rename_i hc
      obtain ⟨ρ1, h1⟩ := h.act hF hk hc.1 q
      exact Inv.runs hF hk q i _ _ _ h1
    · exact ⟨ρ, h⟩
theorem Inv.wakeups {C : Nat → List In} {n : Nat} {ρ : Nat → List Int} (q : Int) : ∀ (i k : Nat) (m : Mac), i + k = n → Inv C n none ρ m → Inv C n none ρ (wakeM q i k m)
  | 0, _, _, _, h => h
  | i + 1, k, m, hik, h => by
    simp only [wakeM]
    refine Inv.wakeups q i (k + 1) _ (by omega) ?_
    split
    · rename_i hc; exact h.ready (by omega) (.inr ⟨rfl, hc.1⟩)
    · exact h
theorem Inv.told {C : Nat → List In} {n : Nat} {run : Option Nat} {ρ : Nat → List Int} {m : Mac} (h : Inv C n run ρ m) (trc' : List Int) : Inv C n run ρ { m with trc := trc' } := { h with }
theorem Inv.turn0 {C : Nat → List In} {n : Nat} (hF : Fine C n) {ρ : Nat → List Int} {m : Mac} (quantum q : Nat) (h : Inv C n none ρ m) : ∃ ρ', Inv C n none ρ' (turn0M C n quantum q m) := by
  have h1 := h.wakeups (q : Int) n 0 m (by omega)
  unfold turn0M
  cases hq : (wakeM (q : Int) n 0 m).q with
  | nil =>
    have h2 := h1.told ((wakeM (q : Int) n 0 m).trc ++ [45])
    simp only [hq] at h2 ⊢
    exact ⟨ρ, h2⟩
  | cons k r =>
    simp only [hq]
    obtain ⟨h2, hk, _⟩ := h1.start hq ((wakeM (q : Int) n 0 m).trc ++ [48 + (k : Int)])
    obtain ⟨ρ', h3⟩ := Inv.runs hF hk q quantum 32 _ _ h2
    split
    · rename_i hs; exact ⟨ρ', h3.ready hk (.inl ⟨rfl, hs⟩)⟩
    · rename_i hs; exact ⟨ρ', h3.leave hs⟩
theorem Inv.turn {C : Nat → List In} {n : Nat} (hF : Fine C n) {ρ : Nat → List Int} {m : Mac} (quantum q : Nat) (h : Inv C n none ρ m) : ∃ ρ', Inv C n none ρ' (turnM C n quantum q m) := by
  obtain ⟨L, e⟩ := turn_eq C n quantum q m
  obtain ⟨ρ', h1⟩ := h.turn0 hF quantum q
  rw [e]
  exact ⟨ρ', { h1 with }⟩
theorem Inv.plays {C : Nat → List In} {n : Nat} (hF : Fine C n) (quantum : Nat) : ∀ i, ∃ ρ, Inv C n none ρ (playM C n quantum i)
  | 0 => ⟨_, inv_begin C n⟩
  | i + 1 => by
    obtain ⟨ρ, h⟩ := Inv.plays hF quantum i
    exact h.turn hF quantum i

end Go.Proofs.Ytjbmflgamogefab
