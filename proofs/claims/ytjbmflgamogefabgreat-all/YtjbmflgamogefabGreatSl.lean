/- Slices of integers that begin anywhere in their block: queues and stacks (x = x[1:], x = x[:n-1], x = append(x, v)). -/
import Derived.Test.YtjbmflgamogefabGreatMem
import Derived.ArgAppend
import Derived.Deep.RegionLaw
namespace Go.Proofs.YtjbmflgamogefabGreat
open Go.RowKit

/-- The slice value v holds xs; g: its block, if it has one; what lies behind its length up to its capacity is its own. -/
def SlAt (w : World) (v : Value) (xs : List Int) (g : Option Nat) : Prop :=
  (v = .slice none 0 0 ∧ xs = [] ∧ g = none) ∨
  ∃ b off cap cur, v = .slice (some ⟨b, off, none⟩) xs.length cap ∧ g = some b ∧ w.heap[b]? = some (.cells cur 3 (0, 0)) ∧ xs.length ≤ cap ∧ off + cap ≤ cur.size ∧ ∀ j x, xs[j]? = some x → cur[off + j]? = some (.int .i64 x)
theorem SlAt.nil (w : World) : SlAt w (.slice none 0 0) [] none := .inl ⟨rfl, rfl, rfl⟩
theorem SlAt.kept {w w' : World} {v : Value} {xs : List Int} {g : Option Nat} (h : SlAt w v xs g) (hk : ∀ b, g = some b → w'.heap[b]? = w.heap[b]?) : SlAt w' v xs g := by
  rcases h with h | ⟨b, off, cap, cur, h1, h2, h3, h4⟩
  · exact .inl h
  · exact .inr ⟨b, off, cap, cur, h1, h2, by rw [hk b h2]; exact h3, h4⟩
theorem SlAt.lt {w : World} {v : Value} {xs : List Int} {g : Option Nat} (h : SlAt w v xs g) : ∀ b, g = some b → b < w.heap.size := by
  intro b hb
  rcases h with ⟨_, _, h⟩ | ⟨b', off, cap, cur, _, h2, h3, _⟩
  · rw [h] at hb; cases hb
  · rw [h2] at hb; cases hb; exact (Array.getElem?_eq_some_iff.1 h3).1
theorem SlAt.slice {w : World} {v : Value} {xs : List Int} {g : Option Nat} (h : SlAt w v xs g) : ∃ ao cap, v = .slice ao xs.length cap := by
  rcases h with ⟨h, rfl, _⟩ | ⟨b, off, cap, cur, h1, _⟩
  · exact ⟨none, 0, h⟩
  · exact ⟨_, cap, h1⟩
theorem SlAt.cell {w : World} {ao : Option Addr} {n cap : Nat} {xs : List Int} {g : Option Nat} (h : SlAt w (.slice ao n cap) xs g) {j : Nat} {x : Int} (hj : xs[j]? = some x) :
    ∃ b off, ao = some ⟨b, off, none⟩ ∧ g = some b ∧ b < w.heap.size ∧ w.cell? ⟨b, off + j, none⟩ = some (.int .i64 x) := by
  rcases h with ⟨_, rfl, _⟩ | ⟨b, off, cap', cur, h1, h2, h3, _, _, h6⟩
  · simp at hj
  · simp only [Value.slice.injEq] at h1
    exact ⟨b, off, h1.1, h2, (Array.getElem?_eq_some_iff.1 h3).1, by rw [cell_of_row _ _ _ _ _ _ h3]; exact h6 j x hj⟩
theorem sl_of_own {w : World} {base : Nat} {v : Value} {xs : List Int} (h : w.ownsRow base 3 1 v xs.length (xs.map (Value.int .i64))) : ∃ g, SlAt w v xs g ∧ ∀ b, g = some b → base ≤ b := by
  rcases h.2 with ⟨h1, h2⟩ | ⟨g, cap, cur, h1, h2, h3, h4, _, h6, h7⟩
  · exact ⟨none, .inl ⟨h1, List.eq_nil_of_length_eq_zero h2, rfl⟩, fun b hb => by cases hb⟩
  · refine ⟨some g, .inr ⟨g, 0, cap, cur, h1, rfl, h3, h4, by omega, fun j x hj => ?_⟩, fun b hb => by cases hb; exact h2⟩
    have h8 : (xs.map (Value.int .i64))[j]? = some (.int .i64 x) := by simp [hj]
    rw [← h7, List.getElem?_take] at h8
    split at h8
    · rw [Nat.zero_add]; simpa using h8
    · cases h8
/-- Behind the first ones. -/
theorem SlAt.tail {w : World} {b off n cap : Nat} {x : Int} {xs : List Int} {g : Option Nat} (h : SlAt w (.slice (some ⟨b, off, none⟩) n cap) (x :: xs) g) (hc : 1 ≤ cap) : SlAt w (.slice (some ⟨b, off + 1, none⟩) xs.length (cap - 1)) xs g := by
  rcases h with ⟨h, _⟩ | ⟨b', off', cap', cur, h1, h2, h3, h4, h5, h6⟩
  · cases h
  · simp only [Value.slice.injEq, Option.some.injEq, Addr.mk.injEq] at h1
    obtain ⟨⟨rfl, rfl, _⟩, _, rfl⟩ := h1
    refine .inr ⟨b, off + 1, cap - 1, cur, rfl, h2, h3, by simp at h4; omega, by omega, fun j y hj => ?_⟩
    have := h6 (j + 1) y (by simpa using hj)
    rw [show off + 1 + j = off + (j + 1) from by omega]; exact this
/-- Without the last one. -/
theorem SlAt.init {w : World} {ao : Option Addr} {n cap : Nat} {x : Int} {xs : List Int} {g : Option Nat} (h : SlAt w (.slice ao n cap) (xs ++ [x]) g) : SlAt w (.slice ao xs.length cap) xs g := by
  rcases h with ⟨_, h, _⟩ | ⟨b', off', cap', cur, h1, h2, h3, h4, h5, h6⟩
  · simp at h
  · simp only [Value.slice.injEq] at h1
    obtain ⟨rfl, _, rfl⟩ := h1
    refine .inr ⟨b', off', cap, cur, rfl, h2, h3, by simp at h4; omega, h5, fun j y hj => h6 j y ?_⟩
    rw [List.getElem?_append_left (List.getElem?_eq_some_iff.1 hj).1]; exact hj

theorem run_append_sl {P : Program} (w : World) (t ty : TypeId) (i : TypeInfo) (ht : P.underlying t = some (.slice 3)) (hi : P.info? 3 = some i) (hz : i.zero = some (.int .i64 0)) (hsize : i.size = 1) (hby : i.bytes = 8)
    (v : Value) (xs : List Int) (g : Option Nat) (hs : SlAt w v xs g) (ad : Addr) (c : Nat) (x : Int) (hx : ∀ j u, [Value.int .i64 x][j]? = some u → w.cell? (ad.add j) = some u) (hl : xs.length ≤ 1000000) :
    ∃ v' w' g', (Builtin.append_ #[t, t] ty #[v, .slice (some ad) 1 c]).run P w = .ok v' w' ∧ SlAt w' v' (xs ++ [x]) g' ∧ w.grownBy w' g ∧ (g' = g ∨ ∃ b, g' = some b ∧ w.heap.size ≤ b) := by
  have h63 : xs.length + 1 ≤ maxLen := by unfold maxLen; omega
  rcases hs with ⟨rfl, rfl, rfl⟩ | ⟨b, off, cap, cur, rfl, rfl, h3, h4, h5, h6⟩
  · obtain ⟨v', w', h1, h2, hg, _⟩ := run_append_own (P := P) w w.heap.size t ty 3 i (.int .i64 0) 1 8 ht hi hz hsize hby rfl (by decide) (.slice none 0 0) 0 [] (World.ownsRow_nil w _ _ _) ad 1 c [.int .i64 x] rfl hx (by intro u hu; simp at hu; subst hu; rfl) (by unfold maxLen; omega) (by omega) (Nat.le_refl _)
    obtain ⟨g', hg1, hg2⟩ := sl_of_own (xs := [x]) (by simpa using h2)
    refine ⟨v', w', g', h1, hg1, hg, ?_⟩
    cases g' with
    | none => exact .inl rfl
    | some b => exact .inr ⟨b, rfl, hg2 b rfl⟩
  · by_cases hroom : xs.length + 1 ≤ cap
    · have hcell : ∀ j, j < [Value.int .i64 x].length → w.cell? ⟨b, off + xs.length * i.size + j, none⟩ = cur[off + xs.length + j]? := fun j _ => by
        rw [cell_of_row _ _ _ _ _ _ h3, hsize, Nat.mul_one]
      have hr := run_append_room_cells (P := P) w t ty 3 i ht hi b off xs.length cap ad 1 c [.int .i64 x] (by rw [hsize]; rfl) hx (by intro u hu; simp at hu; subst hu; rfl) hroom
        (fun j hj => by rw [hcell j hj]; simp at hj; subst hj; simp; omega) (fun j _ => frozen_row h3 _)
      rw [hsize, Nat.mul_one] at hr
      have hset : w.setCells b (off + xs.length) [.int .i64 x] = w.setCell ⟨b, off + xs.length, none⟩ (.int .i64 x) := rfl
      rw [hset] at hr
      refine ⟨_, _, some b, hr, .inr ⟨b, off, cap, cur.setIfInBounds (off + xs.length) (.int .i64 x), by simp, rfl, heap_setCell_same w b (off + xs.length) _ _ _ h3, by simp; omega, by rw [Array.size_setIfInBounds]; exact h5, fun j y hj => ?_⟩, ?_, .inl rfl⟩
      · rw [Array.getElem?_setIfInBounds]
        by_cases e : j = xs.length
        · subst e
          rw [if_pos rfl, if_pos (by omega)]
          simp at hj; rw [hj]
        · rw [if_neg (by omega)]
          have hlt := (List.getElem?_eq_some_iff.1 hj).1
          simp at hlt
          rw [List.getElem?_append_left (by omega)] at hj
          exact h6 j y hj
      · exact ⟨rfl, rfl, rfl, by simp [World.setCell], fun k _ hk => Below.heap_setCell _ _ _ _ (fun e => hk (by simp only at e; rw [e]))⟩
    · have hadd : ∀ j, (⟨b, off, none⟩ : Addr).add j = ⟨b, off + j, none⟩ := fun j => by unfold Addr.add; split <;> simp_all
      obtain ⟨v', w', h1, h2, hg⟩ := run_append_arg_grows (P := P) w t ty 3 i (.int .i64 0) 1 8 ht hi hz hsize hby rfl (by decide) ⟨b, off, none⟩ xs.length cap (xs.map (Value.int .i64)) (by simp) (fun j u hu => by
        rw [hadd, cell_of_row _ _ _ _ _ _ h3]
        simp at hu
        obtain ⟨y, hy, rfl⟩ := hu
        exact h6 j y hy) ad 1 c [.int .i64 x] rfl hx (by omega) h63 (by omega)
      obtain ⟨g', hg1, hg2⟩ := sl_of_own (xs := xs ++ [x]) (by simpa using h2)
      refine ⟨v', w', g', h1, hg1, ⟨hg.os, hg.tape, hg.output, hg.size, fun k hk _ => hg.block k hk (by simp)⟩, ?_⟩
      cases g' with
      | none => rcases hg1 with ⟨_, hn, _⟩ | ⟨_, _, _, _, _, hn, _⟩
                · simp at hn
                · cases hn
      | some b' => exact .inr ⟨b', rfl, hg2 b' rfl⟩

theorem wp_append_sl {P : Program} (w : World) {o : Oper} {a : Act} {K : Act → World → Prop} {Q : Exit → Act → World → Prop} (s x : Operand) (t : TypeId)
    (ho : o.op = .call { callee := .builtin .append, args := #[s, x], argTypes := #[t, t] }) (i : TypeInfo) (ht : P.underlying t = some (.slice 3)) (hi : P.info? 3 = some i) (hz : i.zero = some (.int .i64 0)) (hsize : i.size = 1) (hby : i.bytes = 8)
    (v : Value) (xs : List Int) (g : Option Nat) (hs : a.eval s = v) (hsl : SlAt w v xs g) (ad : Addr) (c : Nat) (y : Int) (hx : a.eval x = .slice (some ad) 1 c) (hc : ∀ j u, [Value.int .i64 y][j]? = some u → w.cell? (ad.add j) = some u) (hl : xs.length ≤ 1000000)
    (h : ∀ v' w' g', SlAt w' v' (xs ++ [y]) g' → w.grownBy w' g → (g' = g ∨ ∃ b, g' = some b ∧ w.heap.size ≤ b) → K (a.put o.dst v') w') : o.wp P a w K Q := by
  obtain ⟨v', w', g', hr, h2, h3, h4⟩ := run_append_sl (P := P) w t o.type i ht hi hz hsize hby v xs g hsl ad c y hc hl
  unfold Oper.wp execOp
  simp only [ho, resolve, invoke, builtin, Sem.run_bind, Sem.run_pure, Result.andThen_ok, List.map_toArray, List.map_cons, List.map_nil, hs, hx, hr]
  exact h v' w' g' h2 h3 h4
theorem wpList_append_sl {P : Program} (w : World) {ops : Array Oper} {rest : List Oper} {o : Oper} {a : Act} {Q : Exit → Act → World → Prop} (hgd : o.guard = none) (s x : Operand) (t : TypeId)
    (ho : o.op = .call { callee := .builtin .append, args := #[s, x], argTypes := #[t, t] }) (i : TypeInfo) (ht : P.underlying t = some (.slice 3)) (hi : P.info? 3 = some i) (hz : i.zero = some (.int .i64 0)) (hsize : i.size = 1) (hby : i.bytes = 8)
    (v : Value) (xs : List Int) (g : Option Nat) (hs : a.eval s = v) (hsl : SlAt w v xs g) (ad : Addr) (c : Nat) (y : Int) (hx : a.eval x = .slice (some ad) 1 c) (hc : ∀ j u, [Value.int .i64 y][j]? = some u → w.cell? (ad.add j) = some u) (hl : xs.length ≤ 1000000)
    (h : ∀ v' w' g', SlAt w' v' (xs ++ [y]) g' → w.grownBy w' g → (g' = g ∨ ∃ b, g' = some b ∧ w.heap.size ≤ b) → wpList P ops Q rest (a.put o.dst v') w') : wpList P ops Q (o :: rest) a w :=
  wpList_plain hgd fun _ hK => wp_append_sl w s x t ho i ht hi hz hsize hby v xs g hs hsl ad c y hx hc hl fun v' w' g' h2 h3 h4 => hK _ _ (h v' w' g' h2 h3 h4)
theorem step_append_sl {P : Program} (w : World) {ops : Array Oper} {o : Oper} {a : Act} {K : Act → World → Prop} {Q : Exit → Act → World → Prop} {E : Prop} (hgd : o.guard = none) (s x : Operand) (t : TypeId)
    (ho : o.op = .call { callee := .builtin .append, args := #[s, x], argTypes := #[t, t] }) (i : TypeInfo) (ht : P.underlying t = some (.slice 3)) (hi : P.info? 3 = some i) (hz : i.zero = some (.int .i64 0)) (hsize : i.size = 1) (hby : i.bytes = 8)
    (v : Value) (xs : List Int) (g : Option Nat) (hs : a.eval s = v) (hsl : SlAt w v xs g) (ad : Addr) (c : Nat) (y : Int) (hx : a.eval x = .slice (some ad) 1 c) (hc : ∀ j u, [Value.int .i64 y][j]? = some u → w.cell? (ad.add j) = some u) (hl : xs.length ≤ 1000000)
    (h : ∀ v' w' g', SlAt w' v' (xs ++ [y]) g' → w.grownBy w' g → (g' = g ∨ ∃ b, g' = some b ∧ w.heap.size ≤ b) → K (a.put o.dst v') w') :
    if Region.wanted o (yielded ops a.tmps) = true then Oper.wp P o a w K Q else E := by
  have hw : Region.wanted o (yielded ops a.tmps) = true := by simp [Region.wanted, hgd]
  rw [if_pos hw]
  exact wp_append_sl w s x t ho i ht hi hz hsize hby v xs g hs hsl ad c y hx hc hl h

end Go.Proofs.YtjbmflgamogefabGreat
