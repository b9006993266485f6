/- The errors of a place (P5), plainly. -/
import Derived.Test.YtjbmflgamogefabPure2
namespace Go.Proofs.Ytjbmflgamogefab

def atP (p : Nat) (s : Sp) : Bool := s.1 == (p : Int)
/-- The error of the last one of a list of spots of one place. -/
def eR (c a : Int) (F : List Sp) : Int := match F.getLast? with
  | none => 0
  | some s => wrg c a s.2.1 s.2.2
/-- P5, of place p. -/
def faultF (I : List In) (L : List Sp) (p : Nat) : Int :=
  if (L.filter (atP p)).length = 0 then 0 else match I[p]? with
    | none => 7
    | some x => if 1 < (L.filter (atP p)).length then 4 else eR x.1 x.2 (L.filter (atP p))
theorem eR_snoc (c a : Int) (F : List Sp) (s : Sp) : eR c a (F ++ [s]) = wrg c a s.2.1 s.2.2 := by simp [eR]
theorem filter_take (f : Sp → Bool) (L : List Sp) (k : Nat) (s : Sp) (h : L[k]? = some s) : (L.take (k + 1)).filter f = (L.take k).filter f ++ (if f s then [s] else []) := by
  rw [List.take_add_one, h, List.filter_append]
  simp [List.filter_cons]
theorem filter_take_len (f : Sp → Bool) (L : List Sp) (k : Nat) : ((L.take k).filter f).length ≤ L.length :=
  Nat.le_trans (List.length_filter_le _ _) (by simp [List.length_take]; omega)
/-- It hangs on the set alone. -/
theorem faultF_eq {I : List In} {L M : List Sp} (hL : IsAll I L) (hM : IsAll I M) (p : Nat) : faultF I L p = faultF I M p := by
  have h1 := filter_len hL hM (atP p)
  unfold faultF
  rw [← h1]
  by_cases h0 : (L.filter (atP p)).length = 0
  · simp [h0]
  · rw [if_neg h0, if_neg h0]
    cases I[p]? with
    | none => rfl
    | some x =>
      simp only
      by_cases h2 : 1 < (L.filter (atP p)).length
      · rw [if_pos h2, if_pos h2]
      · rw [if_neg h2, if_neg h2]
        obtain ⟨s, hs⟩ := List.length_eq_one_iff.1 (show (L.filter (atP p)).length = 1 by omega)
        rw [hs, filter_one hL hM _ hs]
/-- The first place with an error, from p on. -/
def firstF (I : List In) (L : List Sp) : Nat → Nat → Int × Nat
  | 0, _ => (0, 0)
  | f + 1, p => if faultF I L p = 0 then firstF I L f (p + 1) else (faultF I L p, p)
theorem firstF_eq {I : List In} {L M : List Sp} (hL : IsAll I L) (hM : IsAll I M) : ∀ f p, firstF I L f p = firstF I M f p
  | 0, _ => rfl
  | f + 1, p => by simp only [firstF, faultF_eq hL hM p, firstF_eq hL hM f (p + 1)]

end Go.Proofs.Ytjbmflgamogefab
