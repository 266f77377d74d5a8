/-
  No cell of these rows narrows 'for every input' (looked for: loops, veiled, ifaces, maps, wideKeys, modest, calm, conditions, laid).
  DERIVED. THE GIVEN ROWS OF THIS SEAT. 3 by the template 'for every input the law returns true; each argument reads behind the call as it read before'; 0 by the template 'total and deterministic' (their statements: YtaffdddleegfcaaTotals.lean).
  GIVEN WITH THE SEED: the statements are not yours to turn. If you find one false, say at which input.
  Laid BY PROGRAM, IN A SANDBOX (cutbox-rows.mjs): the forced cells as the released guide's own fill.sh prints them over the translation 58823ca6a40567e0… (all of the seat's roots in one cut). By AI agents, Wed Nov 11 2026. No macro, syntax, notation, axiom, sorry.
-/
import Derived.Test.YtaffdddleegfcaaChecked
import GoSem.Claim
import GoSem.ClaimJoined
import GoSem.ClaimMapViews
import Derived.JoinedTies
import Derived.KernelRfl
namespace Go.Proofs.Ytaffdddleegfcaa
/- THE CELL 'sum', in the pinned program and in every row, IS THE sha256 OF THE DUMP (.gsa) THAT YtaffdddleegfcaaProg.lean LOADS. Nothing in Lean hashes anything: it is a label: what it is worth is what the hold of that sum in a sandbox is worth. -/
noncomputable def Try.pinned : Pinned := { name := "ytaffdddleegfcaa", sum := "58823ca6a40567e01b86a6fba34b5db00579edebb9eddf51f6cd0813c98a95d5", checked := Try.checked }
namespace Rows
def none {H : Type} : Left H := { results := [], args := [] }

/-- 'bottomrylaw09.FeeTakes': WHATEVER THE INPUT: true; the input reads as it did. -/
def feeTakesSpec : ChangeSpec := { name := "feeTakes", fn := fun _ => fun
  | [d1, d2, d3] => { results := [.lit (.bool true)], args := [d1, d2, d3] }
  | _ => none }
def feeTakesRow : OpenClaim := { program := "ytaffdddleegfcaa", sum := "58823ca6a40567e01b86a6fba34b5db00579edebb9eddf51f6cd0813c98a95d5", func := "bottomry/bottomrylaw09.FeeTakes", spec := "feeTakes", unfollowed := true, recurses := true, named := ["math/bits.divideError", "math/bits.overflowError"], apart := false }
def FeeTakesSaid : Prop := feeTakesRow.holds Try.pinned (OpenSpec.ofChange feeTakesSpec)

/-- ITS FALSE NEIGHBOUR: 'it returns false'. Refute it at one input. -/
def feeTakesWrong : ChangeSpec := { name := "feeTakes", fn := fun _ => fun
  | [d1, d2, d3] => { results := [.lit (.bool false)], args := [d1, d2, d3] }
  | _ => none }
def FeeTakesWrongFalsely : Prop := feeTakesRow.holds Try.pinned (OpenSpec.ofChange feeTakesWrong)

/-- 'bottomrylaw09.FeeSplits': WHATEVER THE INPUT: true; the input reads as it did. -/
def feeSplitsSpec : ChangeSpec := { name := "feeSplits", fn := fun _ => fun
  | [d1, d2] => { results := [.lit (.bool true)], args := [d1, d2] }
  | _ => none }
def feeSplitsRow : OpenClaim := { program := "ytaffdddleegfcaa", sum := "58823ca6a40567e01b86a6fba34b5db00579edebb9eddf51f6cd0813c98a95d5", func := "bottomry/bottomrylaw09.FeeSplits", spec := "feeSplits", unfollowed := true, recurses := true, named := ["math/bits.divideError", "math/bits.overflowError"], apart := false }
def FeeSplitsSaid : Prop := feeSplitsRow.holds Try.pinned (OpenSpec.ofChange feeSplitsSpec)

/-- ITS FALSE NEIGHBOUR: 'it returns false'. Refute it at one input. -/
def feeSplitsWrong : ChangeSpec := { name := "feeSplits", fn := fun _ => fun
  | [d1, d2] => { results := [.lit (.bool false)], args := [d1, d2] }
  | _ => none }
def FeeSplitsWrongFalsely : Prop := feeSplitsRow.holds Try.pinned (OpenSpec.ofChange feeSplitsWrong)

/-- 'bottomrylaw09.FeeWhole': WHATEVER THE INPUT: true; the input reads as it did. -/
def feeWholeSpec : ChangeSpec := { name := "feeWhole", fn := fun _ => fun
  | [d1, d2] => { results := [.lit (.bool true)], args := [d1, d2] }
  | _ => none }
def feeWholeRow : OpenClaim := { program := "ytaffdddleegfcaa", sum := "58823ca6a40567e01b86a6fba34b5db00579edebb9eddf51f6cd0813c98a95d5", func := "bottomry/bottomrylaw09.FeeWhole", spec := "feeWhole", unfollowed := true, recurses := true, named := ["math/bits.divideError", "math/bits.overflowError"], apart := false }
def FeeWholeSaid : Prop := feeWholeRow.holds Try.pinned (OpenSpec.ofChange feeWholeSpec)

/-- ITS FALSE NEIGHBOUR: 'it returns false'. Refute it at one input. -/
def feeWholeWrong : ChangeSpec := { name := "feeWhole", fn := fun _ => fun
  | [d1, d2] => { results := [.lit (.bool false)], args := [d1, d2] }
  | _ => none }
def FeeWholeWrongFalsely : Prop := feeWholeRow.holds Try.pinned (OpenSpec.ofChange feeWholeWrong)

/- THE SECOND FORM. 'bulk': how many values and letters a reading holds, each counted each time it is reached (what is shared counts as often as it is met; a slice's spare places count too). A statement '..UptoSaid' is the law's where the arguments, and the package variables that the reading takes, are together of bulk at most 1048576: NARROWER than '..Said'. Prove '..Said' where nothing that the law and all that it calls make is longer than what came in: it says more and counts as full. Else prove '..UptoSaid'. A law counts once. -/
mutual
def uptoBulk {H : Type} : DataW H → Nat
  | .lit (.string bytes) => bytes.length + 1
  | .lit _ => 1
  | .nil => 1
  | .ptr d => uptoBulk d + 1
  | .slice elems spare => uptoBulkAll elems + uptoBulkAll spare + 1
  | .agg parts => uptoBulkAll parts + 1
  | .iface _ d => uptoBulk d + 1
  | .map entries => uptoBulkEntries entries + 1
  | .held _ => 1
def uptoBulkAll {H : Type} : List (DataW H) → Nat
  | [] => 0
  | d :: r => uptoBulk d + uptoBulkAll r
def uptoBulkEntries {H : Type} : List (Lit × DataW H) → Nat
  | [] => 0
  | x :: r => uptoBulkEntry x + uptoBulkEntries r
def uptoBulkEntry {H : Type} : Lit × DataW H → Nat
  | (.string bytes, d) => bytes.length + uptoBulk d + 1
  | (_, d) => uptoBulk d + 1
 end
def uptoSmall : (H : Type) → List (DataW H) → Bool := fun _ ds => decide (uptoBulkAll ds ≤ 1048576)
def OpenSpec.upto (s : _root_.Go.ChangeSpec) : _root_.Go.OpenSpec := { _root_.Go.OpenSpec.ofChange s with cond := some uptoSmall }

/-- 'bottomrylaw09.FeeTakes', WHERE WHAT IT READS IS OF BULK AT MOST 1048576: true; the input reads as it did. -/
def feeTakesUptoRow : OpenClaim := { program := "ytaffdddleegfcaa", sum := "58823ca6a40567e01b86a6fba34b5db00579edebb9eddf51f6cd0813c98a95d5", func := "bottomry/bottomrylaw09.FeeTakes", spec := "feeTakes", unfollowed := true, recurses := true, named := ["math/bits.divideError", "math/bits.overflowError"], apart := false, narrowed := true }
def FeeTakesUptoSaid : Prop := feeTakesUptoRow.holds Try.pinned (OpenSpec.upto feeTakesSpec)

/-- 'bottomrylaw09.FeeSplits', WHERE WHAT IT READS IS OF BULK AT MOST 1048576: true; the input reads as it did. -/
def feeSplitsUptoRow : OpenClaim := { program := "ytaffdddleegfcaa", sum := "58823ca6a40567e01b86a6fba34b5db00579edebb9eddf51f6cd0813c98a95d5", func := "bottomry/bottomrylaw09.FeeSplits", spec := "feeSplits", unfollowed := true, recurses := true, named := ["math/bits.divideError", "math/bits.overflowError"], apart := false, narrowed := true }
def FeeSplitsUptoSaid : Prop := feeSplitsUptoRow.holds Try.pinned (OpenSpec.upto feeSplitsSpec)

/-- 'bottomrylaw09.FeeWhole', WHERE WHAT IT READS IS OF BULK AT MOST 1048576: true; the input reads as it did. -/
def feeWholeUptoRow : OpenClaim := { program := "ytaffdddleegfcaa", sum := "58823ca6a40567e01b86a6fba34b5db00579edebb9eddf51f6cd0813c98a95d5", func := "bottomry/bottomrylaw09.FeeWhole", spec := "feeWhole", unfollowed := true, recurses := true, named := ["math/bits.divideError", "math/bits.overflowError"], apart := false, narrowed := true }
def FeeWholeUptoSaid : Prop := feeWholeUptoRow.holds Try.pinned (OpenSpec.upto feeWholeSpec)

end Rows
end Go.Proofs.Ytaffdddleegfcaa
