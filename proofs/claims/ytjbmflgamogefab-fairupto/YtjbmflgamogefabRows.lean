/-
  No cell of these rows narrows 'for every input' (looked for: loops, veiled, ifaces, maps, wideKeys, modest, calm, conditions, laid).
  DERIVED. THE GIVEN ROWS OF THIS SEAT. 4 by the template 'for every input the law returns true; each argument reads behind the call as it read before'; 0 by the template 'total and deterministic' (their statements: YtjbmflgamogefabTotals.lean).
  GIVEN WITH THE SEED: the statements are not yours to turn. If you find one false, say at which input.
  Laid BY PROGRAM, IN A SANDBOX (cutbox-rows.mjs): the forced cells as the released guide's own fill.sh prints them over the translation 5fb66060adda46c9… (all of the seat's roots in one cut). By AI agents, Wed Nov 11 2026. No macro, syntax, notation, axiom, sorry.
-/
import Derived.Test.YtjbmflgamogefabChecked
import GoSem.Claim
import GoSem.ClaimJoined
import GoSem.ClaimMapViews
import Derived.JoinedTies
import Derived.KernelRfl
namespace Go.Proofs.Ytjbmflgamogefab
/- THE CELL 'sum', in the pinned program and in every row, IS THE sha256 OF THE DUMP (.gsa) THAT YtjbmflgamogefabProg.lean LOADS. Nothing in Lean hashes anything: it is a label: what it is worth is what the hold of that sum in a sandbox is worth. -/
noncomputable def Try.pinned : Pinned := { name := "ytjbmflgamogefab", sum := "5fb66060adda46c9fd52522fee7d53abbd79046a647bb5ea4b53391fdded449a", checked := Try.checked }
namespace Rows
def none {H : Type} : Left H := { results := [], args := [] }

/-- 'greenlaw.Fair': WHATEVER THE INPUT: true; the input reads as it did. -/
def fairSpec : ChangeSpec := { name := "fair", fn := fun _ => fun
  | [d1, d2, d3] => { results := [.lit (.bool true)], args := [d1, d2, d3] }
  | _ => none }
def fairRow : OpenClaim := { program := "ytjbmflgamogefab", sum := "5fb66060adda46c9fd52522fee7d53abbd79046a647bb5ea4b53391fdded449a", func := "green/greenlaw.Fair", spec := "fair", apart := false }
def FairSaid : Prop := fairRow.holds Try.pinned (OpenSpec.ofChange fairSpec)

/-- ITS FALSE NEIGHBOUR: 'it returns false'. Refute it at one input. -/
def fairWrong : ChangeSpec := { name := "fair", fn := fun _ => fun
  | [d1, d2, d3] => { results := [.lit (.bool false)], args := [d1, d2, d3] }
  | _ => none }
def FairWrongFalsely : Prop := fairRow.holds Try.pinned (OpenSpec.ofChange fairWrong)

/-- 'greenlaw.Caught': WHATEVER THE INPUT: true; the input reads as it did. -/
def caughtSpec : ChangeSpec := { name := "caught", fn := fun _ => fun
  | [d1, d2, d3, d4] => { results := [.lit (.bool true)], args := [d1, d2, d3, d4] }
  | _ => none }
def caughtRow : OpenClaim := { program := "ytjbmflgamogefab", sum := "5fb66060adda46c9fd52522fee7d53abbd79046a647bb5ea4b53391fdded449a", func := "green/greenlaw.Caught", spec := "caught", apart := false }
def CaughtSaid : Prop := caughtRow.holds Try.pinned (OpenSpec.ofChange caughtSpec)

/-- ITS FALSE NEIGHBOUR: 'it returns false'. Refute it at one input. -/
def caughtWrong : ChangeSpec := { name := "caught", fn := fun _ => fun
  | [d1, d2, d3, d4] => { results := [.lit (.bool false)], args := [d1, d2, d3, d4] }
  | _ => none }
def CaughtWrongFalsely : Prop := caughtRow.holds Try.pinned (OpenSpec.ofChange caughtWrong)

/-- 'greenlaw.Stuck': WHATEVER THE INPUT: true; the input reads as it did. -/
def stuckSpec : ChangeSpec := { name := "stuck", fn := fun _ => fun
  | [d1, d2, d3, d4] => { results := [.lit (.bool true)], args := [d1, d2, d3, d4] }
  | _ => none }
def stuckRow : OpenClaim := { program := "ytjbmflgamogefab", sum := "5fb66060adda46c9fd52522fee7d53abbd79046a647bb5ea4b53391fdded449a", func := "green/greenlaw.Stuck", spec := "stuck", apart := false }
def StuckSaid : Prop := stuckRow.holds Try.pinned (OpenSpec.ofChange stuckSpec)

/-- ITS FALSE NEIGHBOUR: 'it returns false'. Refute it at one input. -/
def stuckWrong : ChangeSpec := { name := "stuck", fn := fun _ => fun
  | [d1, d2, d3, d4] => { results := [.lit (.bool false)], args := [d1, d2, d3, d4] }
  | _ => none }
def StuckWrongFalsely : Prop := stuckRow.holds Try.pinned (OpenSpec.ofChange stuckWrong)

/-- 'greenlaw.Ring': WHATEVER THE INPUT: true; the input reads as it did. -/
def ringSpec : ChangeSpec := { name := "ring", fn := fun _ => fun
  | [d1, d2, d3] => { results := [.lit (.bool true)], args := [d1, d2, d3] }
  | _ => none }
def ringRow : OpenClaim := { program := "ytjbmflgamogefab", sum := "5fb66060adda46c9fd52522fee7d53abbd79046a647bb5ea4b53391fdded449a", func := "green/greenlaw.Ring", spec := "ring", apart := false }
def RingSaid : Prop := ringRow.holds Try.pinned (OpenSpec.ofChange ringSpec)

/-- ITS FALSE NEIGHBOUR: 'it returns false'. Refute it at one input. -/
def ringWrong : ChangeSpec := { name := "ring", fn := fun _ => fun
  | [d1, d2, d3] => { results := [.lit (.bool false)], args := [d1, d2, d3] }
  | _ => none }
def RingWrongFalsely : Prop := ringRow.holds Try.pinned (OpenSpec.ofChange ringWrong)

/- THE SECOND FORM. 'bulk': how many values and letters a reading holds, each counted each time it is reached (what is shared counts as often as it is met; a slice's spare places count too). A statement '..UptoSaid' is the law's where the arguments, and the package variables that the reading takes, are together of bulk at most 1048576: NARROWER than '..Said'. Prove '..Said' where nothing that the law and all that it calls make is longer than what came in: it says more and counts as full. Else prove '..UptoSaid'. A law counts once. -/
mutual
def uptoBulk {H : Type} : DataW H → Nat
  | .lit (.string bytes) => bytes.length + 1
  | .lit _ => 1
  | .nil => 1
  | .ptr d => uptoBulk d + 1
  | .slice elems spare => uptoBulkAll elems + uptoBulkAll spare + 1
  | .agg parts => uptoBulkAll parts + 1
  | .iface _ d => uptoBulk d + 1
  | .map entries => uptoBulkEntries entries + 1
  | .held _ => 1
def uptoBulkAll {H : Type} : List (DataW H) → Nat
  | [] => 0
  | d :: r => uptoBulk d + uptoBulkAll r
def uptoBulkEntries {H : Type} : List (Lit × DataW H) → Nat
  | [] => 0
  | x :: r => uptoBulkEntry x + uptoBulkEntries r
def uptoBulkEntry {H : Type} : Lit × DataW H → Nat
  | (.string bytes, d) => bytes.length + uptoBulk d + 1
  | (_, d) => uptoBulk d + 1
 end
def uptoSmall : (H : Type) → List (DataW H) → Bool := fun _ ds => decide (uptoBulkAll ds ≤ 1048576)
def OpenSpec.upto (s : _root_.Go.ChangeSpec) : _root_.Go.OpenSpec := { _root_.Go.OpenSpec.ofChange s with cond := some uptoSmall }

/-- 'greenlaw.Fair', WHERE WHAT IT READS IS OF BULK AT MOST 1048576: true; the input reads as it did. -/
def fairUptoRow : OpenClaim := { program := "ytjbmflgamogefab", sum := "5fb66060adda46c9fd52522fee7d53abbd79046a647bb5ea4b53391fdded449a", func := "green/greenlaw.Fair", spec := "fair", apart := false, narrowed := true }
def FairUptoSaid : Prop := fairUptoRow.holds Try.pinned (OpenSpec.upto fairSpec)

/-- 'greenlaw.Caught', WHERE WHAT IT READS IS OF BULK AT MOST 1048576: true; the input reads as it did. -/
def caughtUptoRow : OpenClaim := { program := "ytjbmflgamogefab", sum := "5fb66060adda46c9fd52522fee7d53abbd79046a647bb5ea4b53391fdded449a", func := "green/greenlaw.Caught", spec := "caught", apart := false, narrowed := true }
def CaughtUptoSaid : Prop := caughtUptoRow.holds Try.pinned (OpenSpec.upto caughtSpec)

/-- 'greenlaw.Stuck', WHERE WHAT IT READS IS OF BULK AT MOST 1048576: true; the input reads as it did. -/
def stuckUptoRow : OpenClaim := { program := "ytjbmflgamogefab", sum := "5fb66060adda46c9fd52522fee7d53abbd79046a647bb5ea4b53391fdded449a", func := "green/greenlaw.Stuck", spec := "stuck", apart := false, narrowed := true }
def StuckUptoSaid : Prop := stuckUptoRow.holds Try.pinned (OpenSpec.upto stuckSpec)

/-- 'greenlaw.Ring', WHERE WHAT IT READS IS OF BULK AT MOST 1048576: true; the input reads as it did. -/
def ringUptoRow : OpenClaim := { program := "ytjbmflgamogefab", sum := "5fb66060adda46c9fd52522fee7d53abbd79046a647bb5ea4b53391fdded449a", func := "green/greenlaw.Ring", spec := "ring", apart := false, narrowed := true }
def RingUptoSaid : Prop := ringUptoRow.holds Try.pinned (OpenSpec.upto ringSpec)

end Rows
end Go.Proofs.Ytjbmflgamogefab
