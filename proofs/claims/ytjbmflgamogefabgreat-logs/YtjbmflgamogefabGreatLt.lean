/- greenlaw's Logs. -/
import Derived.Test.YtjbmflgamogefabGreatTl
import Derived.Test.YtjbmflgamogefabGreatLg
namespace Go.Proofs.YtjbmflgamogefabGreat
open Go.RowKit
theorem log_refs {T : List Int} {cs : Cods} (p1 : parse T = .inr cs) (p2 : badCods cs = none) (p3 : ChkCods cs (0, 0)) (q n : Nat) : fLog cs q n = fLogR cs q n := by
  show strOf _ = strOf _
  rw [(log_same (fine_of p1 p2 p3) (parse_lenG p1) q n).1]
theorem l_LogsT (s : ByteArray) (q n : Int) (w : World) (hm : s.size ≤ maxLen) :
    Calls Tryz.prog 3 #[.string s, .int .i64 q, .int .i64 n] w fun e w' => e = .returned (.bool true) ∧ Below w.heap.size w w' :=
  l_Logs s q n w hm (fun _ p1 p2 p3 => log_refs p1 p2 p3 _ _)

end Go.Proofs.YtjbmflgamogefabGreat
