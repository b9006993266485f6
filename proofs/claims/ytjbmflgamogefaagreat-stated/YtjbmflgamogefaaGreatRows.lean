/-
  No cell of these rows narrows 'for every input' (looked for: loops, veiled, ifaces, maps, wideKeys, modest, calm, conditions, laid).
  DERIVED. THE GIVEN ROWS OF THIS SEAT. 5 by the template 'for every input the law returns true; each argument reads behind the call as it read before'; 0 by the template 'total and deterministic' (their statements: YtjbmflgamogefaaGreatTotals.lean).
  GIVEN WITH THE SEED: the statements are not yours to turn. If you find one false, say at which input.
  Laid BY PROGRAM, IN A SANDBOX (cutbox-rows.mjs): the forced cells as the released guide's own fill.sh prints them over the translation 46be51c42b6ee345… (all of the seat's roots in one cut). By AI agents, Wed Nov 11 2026. No macro, syntax, notation, axiom, sorry.
-/
import Derived.Test.YtjbmflgamogefaaGreatChecked
import GoSem.Claim
import GoSem.ClaimJoined
import GoSem.ClaimMapViews
import Derived.JoinedTies
import Derived.KernelRfl
namespace Go.Proofs.YtjbmflgamogefaaGreat
/- THE CELL 'sum', in the pinned program and in every row, IS THE sha256 OF THE DUMP (.gsa) THAT YtjbmflgamogefaaGreatProg.lean LOADS. Nothing in Lean hashes anything: it is a label: what it is worth is what the hold of that sum in a sandbox is worth. -/
noncomputable def Tryz.pinned : Pinned := { name := "ytjbmflgamogefaagreat", sum := "46be51c42b6ee345e15f9a0df8b55dba6dce212cb15cfd70ac4dd72eaa529a90", checked := Tryz.checked }
namespace Rows
def none {H : Type} : Left H := { results := [], args := [] }

/-- 'greenlaw.Outs': WHATEVER THE INPUT: true; the input reads as it did. -/
def outsSpec : ChangeSpec := { name := "outs", fn := fun _ => fun
  | [d1, d2, d3] => { results := [.lit (.bool true)], args := [d1, d2, d3] }
  | _ => none }
def outsRow : OpenClaim := { program := "ytjbmflgamogefaagreat", sum := "46be51c42b6ee345e15f9a0df8b55dba6dce212cb15cfd70ac4dd72eaa529a90", func := "green/greenlaw.Outs", spec := "outs", apart := false }
def OutsSaid : Prop := outsRow.holds Tryz.pinned (OpenSpec.ofChange outsSpec)

/-- ITS FALSE NEIGHBOUR: 'it returns false'. Refute it at one input. -/
def outsWrong : ChangeSpec := { name := "outs", fn := fun _ => fun
  | [d1, d2, d3] => { results := [.lit (.bool false)], args := [d1, d2, d3] }
  | _ => none }
def OutsWrongFalsely : Prop := outsRow.holds Tryz.pinned (OpenSpec.ofChange outsWrong)

/-- 'greenlaw.Traces': WHATEVER THE INPUT: true; the input reads as it did. -/
def tracesSpec : ChangeSpec := { name := "traces", fn := fun _ => fun
  | [d1, d2, d3] => { results := [.lit (.bool true)], args := [d1, d2, d3] }
  | _ => none }
def tracesRow : OpenClaim := { program := "ytjbmflgamogefaagreat", sum := "46be51c42b6ee345e15f9a0df8b55dba6dce212cb15cfd70ac4dd72eaa529a90", func := "green/greenlaw.Traces", spec := "traces", apart := false }
def TracesSaid : Prop := tracesRow.holds Tryz.pinned (OpenSpec.ofChange tracesSpec)

/-- ITS FALSE NEIGHBOUR: 'it returns false'. Refute it at one input. -/
def tracesWrong : ChangeSpec := { name := "traces", fn := fun _ => fun
  | [d1, d2, d3] => { results := [.lit (.bool false)], args := [d1, d2, d3] }
  | _ => none }
def TracesWrongFalsely : Prop := tracesRow.holds Tryz.pinned (OpenSpec.ofChange tracesWrong)

/-- 'greenlaw.Celled': WHATEVER THE INPUT: true; the input reads as it did. -/
def celledSpec : ChangeSpec := { name := "celled", fn := fun _ => fun
  | [d1, d2, d3] => { results := [.lit (.bool true)], args := [d1, d2, d3] }
  | _ => none }
def celledRow : OpenClaim := { program := "ytjbmflgamogefaagreat", sum := "46be51c42b6ee345e15f9a0df8b55dba6dce212cb15cfd70ac4dd72eaa529a90", func := "green/greenlaw.Celled", spec := "celled", apart := false }
def CelledSaid : Prop := celledRow.holds Tryz.pinned (OpenSpec.ofChange celledSpec)

/-- ITS FALSE NEIGHBOUR: 'it returns false'. Refute it at one input. -/
def celledWrong : ChangeSpec := { name := "celled", fn := fun _ => fun
  | [d1, d2, d3] => { results := [.lit (.bool false)], args := [d1, d2, d3] }
  | _ => none }
def CelledWrongFalsely : Prop := celledRow.holds Tryz.pinned (OpenSpec.ofChange celledWrong)

/-- 'greenlaw.Stated': WHATEVER THE INPUT: true; the input reads as it did. -/
def statedSpec : ChangeSpec := { name := "stated", fn := fun _ => fun
  | [d1, d2, d3] => { results := [.lit (.bool true)], args := [d1, d2, d3] }
  | _ => none }
def statedRow : OpenClaim := { program := "ytjbmflgamogefaagreat", sum := "46be51c42b6ee345e15f9a0df8b55dba6dce212cb15cfd70ac4dd72eaa529a90", func := "green/greenlaw.Stated", spec := "stated", apart := false }
def StatedSaid : Prop := statedRow.holds Tryz.pinned (OpenSpec.ofChange statedSpec)

/-- ITS FALSE NEIGHBOUR: 'it returns false'. Refute it at one input. -/
def statedWrong : ChangeSpec := { name := "stated", fn := fun _ => fun
  | [d1, d2, d3] => { results := [.lit (.bool false)], args := [d1, d2, d3] }
  | _ => none }
def StatedWrongFalsely : Prop := statedRow.holds Tryz.pinned (OpenSpec.ofChange statedWrong)

/-- 'greenlaw.Owned': WHATEVER THE INPUT: true; the input reads as it did. -/
def ownedSpec : ChangeSpec := { name := "owned", fn := fun _ => fun
  | [d1, d2, d3] => { results := [.lit (.bool true)], args := [d1, d2, d3] }
  | _ => none }
def ownedRow : OpenClaim := { program := "ytjbmflgamogefaagreat", sum := "46be51c42b6ee345e15f9a0df8b55dba6dce212cb15cfd70ac4dd72eaa529a90", func := "green/greenlaw.Owned", spec := "owned", apart := false }
def OwnedSaid : Prop := ownedRow.holds Tryz.pinned (OpenSpec.ofChange ownedSpec)

/-- ITS FALSE NEIGHBOUR: 'it returns false'. Refute it at one input. -/
def ownedWrong : ChangeSpec := { name := "owned", fn := fun _ => fun
  | [d1, d2, d3] => { results := [.lit (.bool false)], args := [d1, d2, d3] }
  | _ => none }
def OwnedWrongFalsely : Prop := ownedRow.holds Tryz.pinned (OpenSpec.ofChange ownedWrong)

/- THE SECOND FORM. 'bulk': how many values and letters a reading holds, each counted each time it is reached (what is shared counts as often as it is met; a slice's spare places count too). A statement '..UptoSaid' is the law's where the arguments, and the package variables that the reading takes, are together of bulk at most 1048576: NARROWER than '..Said'. Prove '..Said' where nothing that the law and all that it calls make is longer than what came in: it says more and counts as full. Else prove '..UptoSaid'. A law counts once. -/
mutual
def uptoBulk {H : Type} : DataW H → Nat
  | .lit (.string bytes) => bytes.length + 1
  | .lit _ => 1
  | .nil => 1
  | .ptr d => uptoBulk d + 1
  | .slice elems spare => uptoBulkAll elems + uptoBulkAll spare + 1
  | .agg parts => uptoBulkAll parts + 1
  | .iface _ d => uptoBulk d + 1
  | .map entries => uptoBulkEntries entries + 1
  | .held _ => 1
def uptoBulkAll {H : Type} : List (DataW H) → Nat
  | [] => 0
  | d :: r => uptoBulk d + uptoBulkAll r
def uptoBulkEntries {H : Type} : List (Lit × DataW H) → Nat
  | [] => 0
  | x :: r => uptoBulkEntry x + uptoBulkEntries r
def uptoBulkEntry {H : Type} : Lit × DataW H → Nat
  | (.string bytes, d) => bytes.length + uptoBulk d + 1
  | (_, d) => uptoBulk d + 1
 end
def uptoSmall : (H : Type) → List (DataW H) → Bool := fun _ ds => decide (uptoBulkAll ds ≤ 1048576)
def OpenSpec.upto (s : _root_.Go.ChangeSpec) : _root_.Go.OpenSpec := { _root_.Go.OpenSpec.ofChange s with cond := some uptoSmall }

/-- 'greenlaw.Outs', WHERE WHAT IT READS IS OF BULK AT MOST 1048576: true; the input reads as it did. -/
def outsUptoRow : OpenClaim := { program := "ytjbmflgamogefaagreat", sum := "46be51c42b6ee345e15f9a0df8b55dba6dce212cb15cfd70ac4dd72eaa529a90", func := "green/greenlaw.Outs", spec := "outs", apart := false, narrowed := true }
def OutsUptoSaid : Prop := outsUptoRow.holds Tryz.pinned (OpenSpec.upto outsSpec)

/-- 'greenlaw.Traces', WHERE WHAT IT READS IS OF BULK AT MOST 1048576: true; the input reads as it did. -/
def tracesUptoRow : OpenClaim := { program := "ytjbmflgamogefaagreat", sum := "46be51c42b6ee345e15f9a0df8b55dba6dce212cb15cfd70ac4dd72eaa529a90", func := "green/greenlaw.Traces", spec := "traces", apart := false, narrowed := true }
def TracesUptoSaid : Prop := tracesUptoRow.holds Tryz.pinned (OpenSpec.upto tracesSpec)

/-- 'greenlaw.Celled', WHERE WHAT IT READS IS OF BULK AT MOST 1048576: true; the input reads as it did. -/
def celledUptoRow : OpenClaim := { program := "ytjbmflgamogefaagreat", sum := "46be51c42b6ee345e15f9a0df8b55dba6dce212cb15cfd70ac4dd72eaa529a90", func := "green/greenlaw.Celled", spec := "celled", apart := false, narrowed := true }
def CelledUptoSaid : Prop := celledUptoRow.holds Tryz.pinned (OpenSpec.upto celledSpec)

/-- 'greenlaw.Stated', WHERE WHAT IT READS IS OF BULK AT MOST 1048576: true; the input reads as it did. -/
def statedUptoRow : OpenClaim := { program := "ytjbmflgamogefaagreat", sum := "46be51c42b6ee345e15f9a0df8b55dba6dce212cb15cfd70ac4dd72eaa529a90", func := "green/greenlaw.Stated", spec := "stated", apart := false, narrowed := true }
def StatedUptoSaid : Prop := statedUptoRow.holds Tryz.pinned (OpenSpec.upto statedSpec)

/-- 'greenlaw.Owned', WHERE WHAT IT READS IS OF BULK AT MOST 1048576: true; the input reads as it did. -/
def ownedUptoRow : OpenClaim := { program := "ytjbmflgamogefaagreat", sum := "46be51c42b6ee345e15f9a0df8b55dba6dce212cb15cfd70ac4dd72eaa529a90", func := "green/greenlaw.Owned", spec := "owned", apart := false, narrowed := true }
def OwnedUptoSaid : Prop := ownedUptoRow.holds Tryz.pinned (OpenSpec.upto ownedSpec)

end Rows
end Go.Proofs.YtjbmflgamogefaaGreat
