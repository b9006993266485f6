/- greenlaw's view. -/
import Derived.Test.YtjbmflgamogefabGreatGc
import Derived.Test.YtjbmflgamogefabGreatRRead
namespace Go.Proofs.YtjbmflgamogefabGreat
open Go.RowKit

set_option maxHeartbeats 400000 in
theorem l_num0 (e : Int) (w : World) : Calls Tryz.prog 12 #[.int .i64 e] w fun x w' => x = .returned (.int .i64 e) ∧ w' = w := by
  go_enter Tryz.func12, Tryz.ntmps12
  go_wp2
  go_ret
  exact ⟨rfl, rfl⟩
theorem call_no {f : FuncId} {args : Array Value} {w : World} {T : List Int} {q n : Int} {Z : World → Value → Prop} {F : World → Nat → Mac → Value → Prop} {r : Int × Int} (h : Calls Tryz.prog f args w fun e w' => CallAns w' e T q n Z F ∧ Below w.heap.size w w') (hr : GivenRel T q n r) (hz : ¬ r.1 = 0) :
    Calls Tryz.prog f args w fun e w' => ∃ v, Z w' v ∧ e = .returned (.tuple #[v, .int .i64 r.1, .int .i64 r.2]) ∧ Below w.heap.size w w' := by
  refine h.mono ?_
  rintro e w' ⟨⟨r', v, h1, h2, h3⟩, hb⟩
  obtain rfl := hr.unique h1
  rcases h3 with ⟨_, h4⟩ | ⟨h4, _⟩
  · exact ⟨v, h4, h2, hb⟩
  · rw [h4] at hz; exact absurd rfl hz
theorem call_ok {f : FuncId} {args : Array Value} {w : World} {T : List Int} {q n : Int} {Z : World → Value → Prop} {F : World → Nat → Mac → Value → Prop} {cs : Cods} (h : Calls Tryz.prog f args w fun e w' => CallAns w' e T q n Z F ∧ Below w.heap.size w w') (hr : GivenRel T q n (0, 0)) (hp : parse T = .inr cs) :
    Calls Tryz.prog f args w fun e w' => ∃ v, F w' cs.length (playM (codesOf cs) cs.length q.toNat n.toNat) v ∧ e = .returned (.tuple #[v, .int .i64 0, .int .i64 0]) ∧ Below w.heap.size w w' := by
  refine h.mono ?_
  rintro e w' ⟨⟨r', v, h1, h2, h3⟩, hb⟩
  obtain rfl := hr.unique h1
  rcases h3 with ⟨h4, _⟩ | ⟨_, _, cs', h5, _, _, h6⟩
  · exact absurd rfl h4
  · rw [hp] at h5; cases h5
    exact ⟨v, h6, h2, hb⟩
def stsL (n : Nat) (m : Mac) : List Int := (List.range n).map (fun k => (m.th k).sta)
def ownL (m : Mac) : List Int := (List.range 4).map (fun l => nameI (m.own l))
def celsL (m : Mac) : List Int := (List.range 8).map m.cells
theorem one7 (a b c d e : ByteArray) (la : Option Addr) (ln lc : Nat) (x : Bool) : (#[.string a, .string b, .string c, .string d, .string e, .slice la ln lc, .bool x] : Array Value).all (·.oneCell') = true := by
  rw [← Array.all_toList]; rfl
/-- What view answers. -/
def ViewAns (w' : World) (e : Ending) (T : List Int) (q n : Int) : Prop :=
  ∃ r lv, GivenRel T q n r ∧
    ((¬ r.1 = 0 ∧ e = .returned (.agg #[.string ByteArray.empty, .string ByteArray.empty, .string ByteArray.empty, .string ByteArray.empty, .string ByteArray.empty, lv, .bool false]) ∧ ∃ g, SlAt w' lv [] g) ∨
     (r = (0, 0) ∧ inR q n ∧ ∃ cs, parse T = .inr cs ∧ badCods cs = none ∧ ChkCods cs (0, 0) ∧
        e = .returned (.agg #[.string (strOf (playM (codesOf cs) cs.length q.toNat n.toNat).out), .string (strOf (playM (codesOf cs) cs.length q.toNat n.toNat).trc), .string (strOf (stsL cs.length (playM (codesOf cs) cs.length q.toNat n.toNat))), .string (strOf (ownL (playM (codesOf cs) cs.length q.toNat n.toNat))), .string (strOf (playM (codesOf cs) cs.length q.toNat n.toNat).log), lv, .bool true]) ∧ ∃ g, SlAt w' lv (celsL (playM (codesOf cs) cs.length q.toNat n.toNat)) g))

def MayRel (T : List Int) (q n : Int) (b : Bool) : Prop := ∃ r, GivenRel T q n r ∧ (b = true ↔ r = (0, 0))
def MayAns (e : Ending) (T : List Int) (q n : Int) : Prop := ∃ b, e = .returned (.bool b) ∧ MayRel T q n b
def cnt (l : List Int) (c : Int) : Nat := (l.filter (· == c)).length
theorem cnt_snoc (l : List Int) (x c : Int) : cnt (l ++ [x]) c = cnt l c + if x == c then 1 else 0 := by
  unfold cnt; rw [List.filter_append, List.length_append]; simp [List.filter_cons]; split <;> rfl
theorem cnt_take {l : List Int} {k : Nat} {x : Int} (h : l[k]? = some x) (c : Int) : cnt (l.take (k + 1)) c = cnt (l.take k) c + if x == c then 1 else 0 := by
  rw [List.take_add_one, h]; exact cnt_snoc _ _ _
theorem cnt_le (l : List Int) (c : Int) : cnt l c ≤ l.length := List.length_filter_le _ _
theorem strOf_size (l : List Int) : (strOf l).size = l.length := by simp [strOf, ByteArray.size]
theorem bytes_strOf {l : List Int} (h : ∀ x ∈ l, 0 ≤ x ∧ x < 256) : bytesOf (strOf l) = l := by
  unfold bytesOf strOf
  simp only [List.map_map]
  conv => rhs; rw [← List.map_id l]
  refine List.map_congr_left (fun x hx => ?_)
  obtain ⟨h0, h1⟩ := h x hx
  simp [UInt8.toNat_ofNat']
  omega
theorem sts_bytes {C : Nat → List In} {n : Nat} (hF : Fine C n) (q i : Nat) : ∀ x ∈ stsL n (playM C n q i), 0 ≤ x ∧ x < 256 := by
  intro x hx
  simp only [stsL, List.mem_map, List.mem_range] at hx
  obtain ⟨k, hk, rfl⟩ := hx
  have := play_states hF q i k hk
  simp only at this
  omega
theorem stsL_len (n : Nat) (m : Mac) : (stsL n m).length = n := by simp [stsL]
theorem ownL_len (m : Mac) : (ownL m).length = 4 := by simp [ownL]
theorem celsL_len (m : Mac) : (celsL m).length = 8 := by simp [celsL]
/-- All states are known. -/
theorem all_known : ∀ (l : List Int), (∀ x ∈ l, x = 82 ∨ x = 66 ∨ x = 87 ∨ x = 83 ∨ x = 68) → cnt l 82 + cnt l 66 + cnt l 87 + cnt l 83 + cnt l 68 = l.length
  | [], _ => rfl
  | x :: t, h => by
    have ih := all_known t (fun y hy => h y (List.mem_cons_of_mem _ hy))
    have hx := h x (List.mem_cons_self ..)
    unfold cnt at *
    simp only [List.filter_cons, List.length_cons]
    rcases hx with rfl | rfl | rfl | rfl | rfl <;> simp <;> omega
theorem sts_known {C : Nat → List In} {n : Nat} (hF : Fine C n) (q i : Nat) : cnt (stsL n (playM C n q i)) 82 + cnt (stsL n (playM C n q i)) 66 + cnt (stsL n (playM C n q i)) 87 + cnt (stsL n (playM C n q i)) 83 + cnt (stsL n (playM C n q i)) 68 = n := by
  rw [all_known, stsL_len]
  intro x hx
  simp only [stsL, List.mem_map, List.mem_range] at hx
  obtain ⟨k, hk, rfl⟩ := hx
  exact play_states hF q i k hk

theorem below_view {w w1 w2 : World} {o : Obj} (h1 : Below w.heap.size w w1) (h2 : Below (w1.alloc o).heap.size (w1.alloc o) w2) : Below w.heap.size w w2 := (h1.alloc h1.size o).trans (h2.mono (h1.alloc h1.size o).size)

end Go.Proofs.YtjbmflgamogefabGreat
