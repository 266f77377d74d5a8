/-
  No cell of these rows narrows 'for every input' (looked for: loops, veiled, ifaces, maps, wideKeys, modest, calm, conditions, laid).
  DERIVED. THE GIVEN ROWS OF THIS SEAT. 3 by the template 'for every input the law returns true; each argument reads behind the call as it read before'; 0 by the template 'total and deterministic' (their statements: YtghlgmlelipjfaaTotals.lean).
  GIVEN WITH THE SEED: the statements are not yours to turn. If you find one false, say at which input.
  Laid BY PROGRAM, IN A SANDBOX (cutbox-rows.mjs): the forced cells as the released guide's own fill.sh prints them over the translation 1906cdb74ff6cf7e… (all of the seat's roots in one cut). By AI agents, Wed Nov 11 2026. No macro, syntax, notation, axiom, sorry.
-/
import Derived.Test.YtghlgmlelipjfaaChecked
import GoSem.Claim
import GoSem.ClaimJoined
import GoSem.ClaimMapViews
import Derived.JoinedTies
import Derived.KernelRfl
namespace Go.Proofs.Ytghlgmlelipjfaa
/- THE CELL 'sum', in the pinned program and in every row, IS THE sha256 OF THE DUMP (.gsa) THAT YtghlgmlelipjfaaProg.lean LOADS. Nothing in Lean hashes anything: it is a label: what it is worth is what the hold of that sum in a sandbox is worth. -/
noncomputable def Try.pinned : Pinned := { name := "ytghlgmlelipjfaa", sum := "1906cdb74ff6cf7e627acc6b386dee3850f97eead896db3fe3a954b01eecfd05", checked := Try.checked }
namespace Rows
def none {H : Type} : Left H := { results := [], args := [] }

/-- 'bottomrylaw19.JobSteps': WHATEVER THE INPUT: true; the input reads as it did. -/
def jobStepsSpec : ChangeSpec := { name := "jobSteps", fn := fun _ => fun
  | [d1, d2, d3] => { results := [.lit (.bool true)], args := [d1, d2, d3] }
  | _ => none }
def jobStepsRow : OpenClaim := { program := "ytghlgmlelipjfaa", sum := "1906cdb74ff6cf7e627acc6b386dee3850f97eead896db3fe3a954b01eecfd05", func := "bottomry/bottomrylaw19.JobSteps", spec := "jobSteps", unfollowed := true, recurses := true, apart := false }
def JobStepsSaid : Prop := jobStepsRow.holds Try.pinned (OpenSpec.ofChange jobStepsSpec)

/-- ITS FALSE NEIGHBOUR: 'it returns false'. Refute it at one input. -/
def jobStepsWrong : ChangeSpec := { name := "jobSteps", fn := fun _ => fun
  | [d1, d2, d3] => { results := [.lit (.bool false)], args := [d1, d2, d3] }
  | _ => none }
def JobStepsWrongFalsely : Prop := jobStepsRow.holds Try.pinned (OpenSpec.ofChange jobStepsWrong)

/-- 'bottomrylaw19.JobBytes': WHATEVER THE INPUT: true; the input reads as it did. -/
def jobBytesSpec : ChangeSpec := { name := "jobBytes", fn := fun _ => fun
  | [d1, d2] => { results := [.lit (.bool true)], args := [d1, d2] }
  | _ => none }
def jobBytesRow : OpenClaim := { program := "ytghlgmlelipjfaa", sum := "1906cdb74ff6cf7e627acc6b386dee3850f97eead896db3fe3a954b01eecfd05", func := "bottomry/bottomrylaw19.JobBytes", spec := "jobBytes", inPlace := ["internal/abi.NoEscape"], unfollowed := true, recurses := true, apart := false }
def JobBytesSaid : Prop := jobBytesRow.holds Try.pinned (OpenSpec.ofChange jobBytesSpec)

/-- ITS FALSE NEIGHBOUR: 'it returns false'. Refute it at one input. -/
def jobBytesWrong : ChangeSpec := { name := "jobBytes", fn := fun _ => fun
  | [d1, d2] => { results := [.lit (.bool false)], args := [d1, d2] }
  | _ => none }
def JobBytesWrongFalsely : Prop := jobBytesRow.holds Try.pinned (OpenSpec.ofChange jobBytesWrong)

/-- 'bottomrylaw19.JobWhole': WHATEVER THE INPUT: true; the input reads as it did. -/
def jobWholeSpec : ChangeSpec := { name := "jobWhole", fn := fun _ => fun
  | [d1, d2] => { results := [.lit (.bool true)], args := [d1, d2] }
  | _ => none }
def jobWholeRow : OpenClaim := { program := "ytghlgmlelipjfaa", sum := "1906cdb74ff6cf7e627acc6b386dee3850f97eead896db3fe3a954b01eecfd05", func := "bottomry/bottomrylaw19.JobWhole", spec := "jobWhole", unfollowed := true, recurses := true, apart := false }
def JobWholeSaid : Prop := jobWholeRow.holds Try.pinned (OpenSpec.ofChange jobWholeSpec)

/-- ITS FALSE NEIGHBOUR: 'it returns false'. Refute it at one input. -/
def jobWholeWrong : ChangeSpec := { name := "jobWhole", fn := fun _ => fun
  | [d1, d2] => { results := [.lit (.bool false)], args := [d1, d2] }
  | _ => none }
def JobWholeWrongFalsely : Prop := jobWholeRow.holds Try.pinned (OpenSpec.ofChange jobWholeWrong)

/- THE SECOND FORM. 'bulk': how many values and letters a reading holds, each counted each time it is reached (what is shared counts as often as it is met; a slice's spare places count too). A statement '..UptoSaid' is the law's where the arguments, and the package variables that the reading takes, are together of bulk at most 1048576: NARROWER than '..Said'. Prove '..Said' where nothing that the law and all that it calls make is longer than what came in: it says more and counts as full. Else prove '..UptoSaid'. A law counts once. -/
mutual
def uptoBulk {H : Type} : DataW H → Nat
  | .lit (.string bytes) => bytes.length + 1
  | .lit _ => 1
  | .nil => 1
  | .ptr d => uptoBulk d + 1
  | .slice elems spare => uptoBulkAll elems + uptoBulkAll spare + 1
  | .agg parts => uptoBulkAll parts + 1
  | .iface _ d => uptoBulk d + 1
  | .map entries => uptoBulkEntries entries + 1
  | .held _ => 1
def uptoBulkAll {H : Type} : List (DataW H) → Nat
  | [] => 0
  | d :: r => uptoBulk d + uptoBulkAll r
def uptoBulkEntries {H : Type} : List (Lit × DataW H) → Nat
  | [] => 0
  | x :: r => uptoBulkEntry x + uptoBulkEntries r
def uptoBulkEntry {H : Type} : Lit × DataW H → Nat
  | (.string bytes, d) => bytes.length + uptoBulk d + 1
  | (_, d) => uptoBulk d + 1
 end
def uptoSmall : (H : Type) → List (DataW H) → Bool := fun _ ds => decide (uptoBulkAll ds ≤ 1048576)
def OpenSpec.upto (s : _root_.Go.ChangeSpec) : _root_.Go.OpenSpec := { _root_.Go.OpenSpec.ofChange s with cond := some uptoSmall }

/-- 'bottomrylaw19.JobSteps', WHERE WHAT IT READS IS OF BULK AT MOST 1048576: true; the input reads as it did. -/
def jobStepsUptoRow : OpenClaim := { program := "ytghlgmlelipjfaa", sum := "1906cdb74ff6cf7e627acc6b386dee3850f97eead896db3fe3a954b01eecfd05", func := "bottomry/bottomrylaw19.JobSteps", spec := "jobSteps", unfollowed := true, recurses := true, apart := false, narrowed := true }
def JobStepsUptoSaid : Prop := jobStepsUptoRow.holds Try.pinned (OpenSpec.upto jobStepsSpec)

/-- 'bottomrylaw19.JobBytes', WHERE WHAT IT READS IS OF BULK AT MOST 1048576: true; the input reads as it did. -/
def jobBytesUptoRow : OpenClaim := { program := "ytghlgmlelipjfaa", sum := "1906cdb74ff6cf7e627acc6b386dee3850f97eead896db3fe3a954b01eecfd05", func := "bottomry/bottomrylaw19.JobBytes", spec := "jobBytes", inPlace := ["internal/abi.NoEscape"], unfollowed := true, recurses := true, apart := false, narrowed := true }
def JobBytesUptoSaid : Prop := jobBytesUptoRow.holds Try.pinned (OpenSpec.upto jobBytesSpec)

/-- 'bottomrylaw19.JobWhole', WHERE WHAT IT READS IS OF BULK AT MOST 1048576: true; the input reads as it did. -/
def jobWholeUptoRow : OpenClaim := { program := "ytghlgmlelipjfaa", sum := "1906cdb74ff6cf7e627acc6b386dee3850f97eead896db3fe3a954b01eecfd05", func := "bottomry/bottomrylaw19.JobWhole", spec := "jobWhole", unfollowed := true, recurses := true, apart := false, narrowed := true }
def JobWholeUptoSaid : Prop := jobWholeUptoRow.holds Try.pinned (OpenSpec.upto jobWholeSpec)

end Rows
end Go.Proofs.Ytghlgmlelipjfaa
