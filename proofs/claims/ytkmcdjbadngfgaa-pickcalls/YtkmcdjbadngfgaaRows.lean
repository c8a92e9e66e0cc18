/-
  No cell of these rows narrows 'for every input' (looked for: loops, veiled, ifaces, maps, wideKeys, modest, calm, conditions, laid).
  DERIVED. THE GIVEN ROWS OF THIS SEAT. 3 by the template 'for every input the law returns true; each argument reads behind the call as it read before'; 0 by the template 'total and deterministic' (their statements: YtkmcdjbadngfgaaTotals.lean).
  GIVEN WITH THE SEED: the statements are not yours to turn. If you find one false, say at which input.
  Laid BY PROGRAM, IN A SANDBOX (cutbox-rows.mjs): the forced cells as the released guide's own fill.sh prints them over the translation 42ed248eefbbe2c3… (all of the seat's roots in one cut). By AI agents, Wed Nov 11 2026. No macro, syntax, notation, axiom, sorry.
-/
import Derived.Test.YtkmcdjbadngfgaaChecked
import GoSem.Claim
import GoSem.ClaimJoined
import GoSem.ClaimMapViews
import Derived.JoinedTies
import Derived.KernelRfl
namespace Go.Proofs.Ytkmcdjbadngfgaa
/- THE CELL 'sum', in the pinned program and in every row, IS THE sha256 OF THE DUMP (.gsa) THAT YtkmcdjbadngfgaaProg.lean LOADS. Nothing in Lean hashes anything: it is a label: what it is worth is what the hold of that sum in a sandbox is worth. -/
noncomputable def Try.pinned : Pinned := { name := "ytkmcdjbadngfgaa", sum := "42ed248eefbbe2c3477c948f0b65997f765f26d6e831717e2b2e830b52aa69ed", checked := Try.checked }
namespace Rows
def none {H : Type} : Left H := { results := [], args := [] }

/-- 'bootprintlaw14.PickNames': WHATEVER THE INPUT: true; the input reads as it did. -/
def pickNamesSpec : ChangeSpec := { name := "pickNames", fn := fun _ => fun
  | [] => { results := [.lit (.bool true)], args := [] }
  | _ => none }
def pickNamesRow : OpenClaim := { program := "ytkmcdjbadngfgaa", sum := "42ed248eefbbe2c3477c948f0b65997f765f26d6e831717e2b2e830b52aa69ed", func := "bootprint/bootprintlaw14.PickNames", spec := "pickNames", inPlace := ["internal/bytealg.Compare"], unfollowed := true, recurses := true, apart := false }
def PickNamesSaid : Prop := pickNamesRow.holds Try.pinned (OpenSpec.ofChange pickNamesSpec)

/-- ITS FALSE NEIGHBOUR: 'it returns false'. Refute it at one input. -/
def pickNamesWrong : ChangeSpec := { name := "pickNames", fn := fun _ => fun
  | [] => { results := [.lit (.bool false)], args := [] }
  | _ => none }
def PickNamesWrongFalsely : Prop := pickNamesRow.holds Try.pinned (OpenSpec.ofChange pickNamesWrong)

/-- 'bootprintlaw14.PickCalls': WHATEVER THE INPUT: true; the input reads as it did. -/
def pickCallsSpec : ChangeSpec := { name := "pickCalls", fn := fun _ => fun
  | [d1, d2, d3] => { results := [.lit (.bool true)], args := [d1, d2, d3] }
  | _ => none }
def pickCallsRow : OpenClaim := { program := "ytkmcdjbadngfgaa", sum := "42ed248eefbbe2c3477c948f0b65997f765f26d6e831717e2b2e830b52aa69ed", func := "bootprint/bootprintlaw14.PickCalls", spec := "pickCalls", inPlace := ["internal/bytealg.Compare"], unfollowed := true, recurses := true, apart := false }
def PickCallsSaid : Prop := pickCallsRow.holds Try.pinned (OpenSpec.ofChange pickCallsSpec)

/-- ITS FALSE NEIGHBOUR: 'it returns false'. Refute it at one input. -/
def pickCallsWrong : ChangeSpec := { name := "pickCalls", fn := fun _ => fun
  | [d1, d2, d3] => { results := [.lit (.bool false)], args := [d1, d2, d3] }
  | _ => none }
def PickCallsWrongFalsely : Prop := pickCallsRow.holds Try.pinned (OpenSpec.ofChange pickCallsWrong)

/-- 'bootprintlaw14.PickSound': WHATEVER THE INPUT: true; the input reads as it did. -/
def pickSoundSpec : ChangeSpec := { name := "pickSound", fn := fun _ => fun
  | [d1, d2] => { results := [.lit (.bool true)], args := [d1, d2] }
  | _ => none }
def pickSoundRow : OpenClaim := { program := "ytkmcdjbadngfgaa", sum := "42ed248eefbbe2c3477c948f0b65997f765f26d6e831717e2b2e830b52aa69ed", func := "bootprint/bootprintlaw14.PickSound", spec := "pickSound", inPlace := ["internal/bytealg.Compare"], unfollowed := true, recurses := true, apart := false }
def PickSoundSaid : Prop := pickSoundRow.holds Try.pinned (OpenSpec.ofChange pickSoundSpec)

/-- ITS FALSE NEIGHBOUR: 'it returns false'. Refute it at one input. -/
def pickSoundWrong : ChangeSpec := { name := "pickSound", fn := fun _ => fun
  | [d1, d2] => { results := [.lit (.bool false)], args := [d1, d2] }
  | _ => none }
def PickSoundWrongFalsely : Prop := pickSoundRow.holds Try.pinned (OpenSpec.ofChange pickSoundWrong)

/- THE SECOND FORM. 'bulk': how many values and letters a reading holds, each counted each time it is reached (what is shared counts as often as it is met; a slice's spare places count too). A statement '..UptoSaid' is the law's where the arguments, and the package variables that the reading takes, are together of bulk at most 1048576: NARROWER than '..Said'. Prove '..Said' where nothing that the law and all that it calls make is longer than what came in: it says more and counts as full. Else prove '..UptoSaid'. A law counts once. -/
mutual
def uptoBulk {H : Type} : DataW H → Nat
  | .lit (.string bytes) => bytes.length + 1
  | .lit _ => 1
  | .nil => 1
  | .ptr d => uptoBulk d + 1
  | .slice elems spare => uptoBulkAll elems + uptoBulkAll spare + 1
  | .agg parts => uptoBulkAll parts + 1
  | .iface _ d => uptoBulk d + 1
  | .map entries => uptoBulkEntries entries + 1
  | .held _ => 1
def uptoBulkAll {H : Type} : List (DataW H) → Nat
  | [] => 0
  | d :: r => uptoBulk d + uptoBulkAll r
def uptoBulkEntries {H : Type} : List (Lit × DataW H) → Nat
  | [] => 0
  | x :: r => uptoBulkEntry x + uptoBulkEntries r
def uptoBulkEntry {H : Type} : Lit × DataW H → Nat
  | (.string bytes, d) => bytes.length + uptoBulk d + 1
  | (_, d) => uptoBulk d + 1
 end
def uptoSmall : (H : Type) → List (DataW H) → Bool := fun _ ds => decide (uptoBulkAll ds ≤ 1048576)
def OpenSpec.upto (s : _root_.Go.ChangeSpec) : _root_.Go.OpenSpec := { _root_.Go.OpenSpec.ofChange s with cond := some uptoSmall }

/-- 'bootprintlaw14.PickNames', WHERE WHAT IT READS IS OF BULK AT MOST 1048576: true; the input reads as it did. -/
def pickNamesUptoRow : OpenClaim := { program := "ytkmcdjbadngfgaa", sum := "42ed248eefbbe2c3477c948f0b65997f765f26d6e831717e2b2e830b52aa69ed", func := "bootprint/bootprintlaw14.PickNames", spec := "pickNames", inPlace := ["internal/bytealg.Compare"], unfollowed := true, recurses := true, apart := false, narrowed := true }
def PickNamesUptoSaid : Prop := pickNamesUptoRow.holds Try.pinned (OpenSpec.upto pickNamesSpec)

/-- 'bootprintlaw14.PickCalls', WHERE WHAT IT READS IS OF BULK AT MOST 1048576: true; the input reads as it did. -/
def pickCallsUptoRow : OpenClaim := { program := "ytkmcdjbadngfgaa", sum := "42ed248eefbbe2c3477c948f0b65997f765f26d6e831717e2b2e830b52aa69ed", func := "bootprint/bootprintlaw14.PickCalls", spec := "pickCalls", inPlace := ["internal/bytealg.Compare"], unfollowed := true, recurses := true, apart := false, narrowed := true }
def PickCallsUptoSaid : Prop := pickCallsUptoRow.holds Try.pinned (OpenSpec.upto pickCallsSpec)

/-- 'bootprintlaw14.PickSound', WHERE WHAT IT READS IS OF BULK AT MOST 1048576: true; the input reads as it did. -/
def pickSoundUptoRow : OpenClaim := { program := "ytkmcdjbadngfgaa", sum := "42ed248eefbbe2c3477c948f0b65997f765f26d6e831717e2b2e830b52aa69ed", func := "bootprint/bootprintlaw14.PickSound", spec := "pickSound", inPlace := ["internal/bytealg.Compare"], unfollowed := true, recurses := true, apart := false, narrowed := true }
def PickSoundUptoSaid : Prop := pickSoundUptoRow.holds Try.pinned (OpenSpec.upto pickSoundSpec)

end Rows
end Go.Proofs.Ytkmcdjbadngfgaa
