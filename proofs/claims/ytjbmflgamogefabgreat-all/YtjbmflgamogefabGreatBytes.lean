/- The bytes of a text. -/
import Derived.Test.YtjbmflgamogefabGreatBase
import Derived.Test.YtjbmflgamogefabGreatPureA
namespace Go.Proofs.YtjbmflgamogefabGreat

def bytesOf (s : ByteArray) : List Int := s.data.toList.map (fun b => (b.toNat : Int))
theorem bytesOf_len (s : ByteArray) : (bytesOf s).length = s.size := by simp [bytesOf]
theorem bytesOf_get (s : ByteArray) (k : Nat) (h : k < s.size) : (bytesOf s)[k]? = some ((s[k]).toNat : Int) := by
  have h' : k < s.data.toList.length := by simpa using h
  unfold bytesOf
  rw [List.getElem?_map, List.getElem?_eq_getElem h']
  rfl
theorem bytesOf_lt (s : ByteArray) (k : Nat) (h : k < s.size) : 0 ≤ ((s[k]).toNat : Int) ∧ ((s[k]).toNat : Int) < 256 := by
  have := (s[k]).toNat_lt
  omega

end Go.Proofs.YtjbmflgamogefabGreat
