/-
  No cell of these rows narrows 'for every input' (looked for: loops, veiled, ifaces, maps, wideKeys, modest, calm, conditions, laid).
  DERIVED. THE GIVEN ROWS OF THIS SEAT. 4 by the template 'for every input the law returns true; each argument reads behind the call as it read before'; 0 by the template 'total and deterministic' (their statements: YtokkefokodcphaaTotals.lean).
  GIVEN WITH THE SEED: the statements are not yours to turn. If you find one false, say at which input.
  Laid BY PROGRAM, IN A SANDBOX (cutbox-rows.mjs): the forced cells as the released guide's own fill.sh prints them over the translation 8f630434152ea7d2… (all of the seat's roots in one cut). By AI agents, Wed Nov 11 2026. No macro, syntax, notation, axiom, sorry.
-/
import Derived.Test.YtokkefokodcphaaChecked
import GoSem.Claim
import GoSem.ClaimJoined
import GoSem.ClaimMapViews
import Derived.JoinedTies
import Derived.KernelRfl
namespace Go.Proofs.Ytokkefokodcphaa
/- THE CELL 'sum', in the pinned program and in every row, IS THE sha256 OF THE DUMP (.gsa) THAT YtokkefokodcphaaProg.lean LOADS. Nothing in Lean hashes anything: it is a label: what it is worth is what the hold of that sum in a sandbox is worth. -/
noncomputable def Try.pinned : Pinned := { name := "ytokkefokodcphaa", sum := "8f630434152ea7d2182680f9c5452a59355f14788648ed3a1b26f476daf7ee94", checked := Try.checked }
namespace Rows
def none {H : Type} : Left H := { results := [], args := [] }

/-- 'bottomrylaw18.BayPlays': WHATEVER THE INPUT: true; the input reads as it did. -/
def bayPlaysSpec : ChangeSpec := { name := "bayPlays", fn := fun _ => fun
  | [d1, d2, d3] => { results := [.lit (.bool true)], args := [d1, d2, d3] }
  | _ => none }
def bayPlaysRow : OpenClaim := { program := "ytokkefokodcphaa", sum := "8f630434152ea7d2182680f9c5452a59355f14788648ed3a1b26f476daf7ee94", func := "bottomry/bottomrylaw18.BayPlays", spec := "bayPlays", inPlace := ["slices.overlaps[int]"], unfollowed := true, recurses := true, apart := false }
def BayPlaysSaid : Prop := bayPlaysRow.holds Try.pinned (OpenSpec.ofChange bayPlaysSpec)

/-- ITS FALSE NEIGHBOUR: 'it returns false'. Refute it at one input. -/
def bayPlaysWrong : ChangeSpec := { name := "bayPlays", fn := fun _ => fun
  | [d1, d2, d3] => { results := [.lit (.bool false)], args := [d1, d2, d3] }
  | _ => none }
def BayPlaysWrongFalsely : Prop := bayPlaysRow.holds Try.pinned (OpenSpec.ofChange bayPlaysWrong)

/-- 'bottomrylaw18.BayFair': WHATEVER THE INPUT: true; the input reads as it did. -/
def bayFairSpec : ChangeSpec := { name := "bayFair", fn := fun _ => fun
  | [d1, d2] => { results := [.lit (.bool true)], args := [d1, d2] }
  | _ => none }
def bayFairRow : OpenClaim := { program := "ytokkefokodcphaa", sum := "8f630434152ea7d2182680f9c5452a59355f14788648ed3a1b26f476daf7ee94", func := "bottomry/bottomrylaw18.BayFair", spec := "bayFair", inPlace := ["slices.overlaps[int]"], unfollowed := true, recurses := true, apart := false }
def BayFairSaid : Prop := bayFairRow.holds Try.pinned (OpenSpec.ofChange bayFairSpec)

/-- ITS FALSE NEIGHBOUR: 'it returns false'. Refute it at one input. -/
def bayFairWrong : ChangeSpec := { name := "bayFair", fn := fun _ => fun
  | [d1, d2] => { results := [.lit (.bool false)], args := [d1, d2] }
  | _ => none }
def BayFairWrongFalsely : Prop := bayFairRow.holds Try.pinned (OpenSpec.ofChange bayFairWrong)

/-- 'bottomrylaw18.BayNobody': WHATEVER THE INPUT: true; the input reads as it did. -/
def bayNobodySpec : ChangeSpec := { name := "bayNobody", fn := fun _ => fun
  | [d1, d2] => { results := [.lit (.bool true)], args := [d1, d2] }
  | _ => none }
def bayNobodyRow : OpenClaim := { program := "ytokkefokodcphaa", sum := "8f630434152ea7d2182680f9c5452a59355f14788648ed3a1b26f476daf7ee94", func := "bottomry/bottomrylaw18.BayNobody", spec := "bayNobody", inPlace := ["slices.overlaps[int]"], unfollowed := true, recurses := true, apart := false }
def BayNobodySaid : Prop := bayNobodyRow.holds Try.pinned (OpenSpec.ofChange bayNobodySpec)

/-- ITS FALSE NEIGHBOUR: 'it returns false'. Refute it at one input. -/
def bayNobodyWrong : ChangeSpec := { name := "bayNobody", fn := fun _ => fun
  | [d1, d2] => { results := [.lit (.bool false)], args := [d1, d2] }
  | _ => none }
def BayNobodyWrongFalsely : Prop := bayNobodyRow.holds Try.pinned (OpenSpec.ofChange bayNobodyWrong)

/-- 'bottomrylaw18.BayClones': WHATEVER THE INPUT: true; the input reads as it did. -/
def bayClonesSpec : ChangeSpec := { name := "bayClones", fn := fun _ => fun
  | [d1, d2, d3] => { results := [.lit (.bool true)], args := [d1, d2, d3] }
  | _ => none }
def bayClonesRow : OpenClaim := { program := "ytokkefokodcphaa", sum := "8f630434152ea7d2182680f9c5452a59355f14788648ed3a1b26f476daf7ee94", func := "bottomry/bottomrylaw18.BayClones", spec := "bayClones", inPlace := ["slices.overlaps[int]"], unfollowed := true, recurses := true, apart := false }
def BayClonesSaid : Prop := bayClonesRow.holds Try.pinned (OpenSpec.ofChange bayClonesSpec)

/-- ITS FALSE NEIGHBOUR: 'it returns false'. Refute it at one input. -/
def bayClonesWrong : ChangeSpec := { name := "bayClones", fn := fun _ => fun
  | [d1, d2, d3] => { results := [.lit (.bool false)], args := [d1, d2, d3] }
  | _ => none }
def BayClonesWrongFalsely : Prop := bayClonesRow.holds Try.pinned (OpenSpec.ofChange bayClonesWrong)

/- THE SECOND FORM. 'bulk': how many values and letters a reading holds, each counted each time it is reached (what is shared counts as often as it is met; a slice's spare places count too). A statement '..UptoSaid' is the law's where the arguments, and the package variables that the reading takes, are together of bulk at most 1048576: NARROWER than '..Said'. Prove '..Said' where nothing that the law and all that it calls make is longer than what came in: it says more and counts as full. Else prove '..UptoSaid'. A law counts once. -/
mutual
def uptoBulk {H : Type} : DataW H → Nat
  | .lit (.string bytes) => bytes.length + 1
  | .lit _ => 1
  | .nil => 1
  | .ptr d => uptoBulk d + 1
  | .slice elems spare => uptoBulkAll elems + uptoBulkAll spare + 1
  | .agg parts => uptoBulkAll parts + 1
  | .iface _ d => uptoBulk d + 1
  | .map entries => uptoBulkEntries entries + 1
  | .held _ => 1
def uptoBulkAll {H : Type} : List (DataW H) → Nat
  | [] => 0
  | d :: r => uptoBulk d + uptoBulkAll r
def uptoBulkEntries {H : Type} : List (Lit × DataW H) → Nat
  | [] => 0
  | x :: r => uptoBulkEntry x + uptoBulkEntries r
def uptoBulkEntry {H : Type} : Lit × DataW H → Nat
  | (.string bytes, d) => bytes.length + uptoBulk d + 1
  | (_, d) => uptoBulk d + 1
 end
def uptoSmall : (H : Type) → List (DataW H) → Bool := fun _ ds => decide (uptoBulkAll ds ≤ 1048576)
def OpenSpec.upto (s : _root_.Go.ChangeSpec) : _root_.Go.OpenSpec := { _root_.Go.OpenSpec.ofChange s with cond := some uptoSmall }

/-- 'bottomrylaw18.BayPlays', WHERE WHAT IT READS IS OF BULK AT MOST 1048576: true; the input reads as it did. -/
def bayPlaysUptoRow : OpenClaim := { program := "ytokkefokodcphaa", sum := "8f630434152ea7d2182680f9c5452a59355f14788648ed3a1b26f476daf7ee94", func := "bottomry/bottomrylaw18.BayPlays", spec := "bayPlays", inPlace := ["slices.overlaps[int]"], unfollowed := true, recurses := true, apart := false, narrowed := true }
def BayPlaysUptoSaid : Prop := bayPlaysUptoRow.holds Try.pinned (OpenSpec.upto bayPlaysSpec)

/-- 'bottomrylaw18.BayFair', WHERE WHAT IT READS IS OF BULK AT MOST 1048576: true; the input reads as it did. -/
def bayFairUptoRow : OpenClaim := { program := "ytokkefokodcphaa", sum := "8f630434152ea7d2182680f9c5452a59355f14788648ed3a1b26f476daf7ee94", func := "bottomry/bottomrylaw18.BayFair", spec := "bayFair", inPlace := ["slices.overlaps[int]"], unfollowed := true, recurses := true, apart := false, narrowed := true }
def BayFairUptoSaid : Prop := bayFairUptoRow.holds Try.pinned (OpenSpec.upto bayFairSpec)

/-- 'bottomrylaw18.BayNobody', WHERE WHAT IT READS IS OF BULK AT MOST 1048576: true; the input reads as it did. -/
def bayNobodyUptoRow : OpenClaim := { program := "ytokkefokodcphaa", sum := "8f630434152ea7d2182680f9c5452a59355f14788648ed3a1b26f476daf7ee94", func := "bottomry/bottomrylaw18.BayNobody", spec := "bayNobody", inPlace := ["slices.overlaps[int]"], unfollowed := true, recurses := true, apart := false, narrowed := true }
def BayNobodyUptoSaid : Prop := bayNobodyUptoRow.holds Try.pinned (OpenSpec.upto bayNobodySpec)

/-- 'bottomrylaw18.BayClones', WHERE WHAT IT READS IS OF BULK AT MOST 1048576: true; the input reads as it did. -/
def bayClonesUptoRow : OpenClaim := { program := "ytokkefokodcphaa", sum := "8f630434152ea7d2182680f9c5452a59355f14788648ed3a1b26f476daf7ee94", func := "bottomry/bottomrylaw18.BayClones", spec := "bayClones", inPlace := ["slices.overlaps[int]"], unfollowed := true, recurses := true, apart := false, narrowed := true }
def BayClonesUptoSaid : Prop := bayClonesUptoRow.holds Try.pinned (OpenSpec.upto bayClonesSpec)

end Rows
end Go.Proofs.Ytokkefokodcphaa
