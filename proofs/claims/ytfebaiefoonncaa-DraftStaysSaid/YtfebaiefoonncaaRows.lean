/-
  No cell of these rows narrows 'for every input' (looked for: loops, veiled, ifaces, maps, wideKeys, modest, calm, conditions, laid).
  DERIVED. THE GIVEN ROWS OF THIS SEAT. 3 by the template 'for every input the law returns true; each argument reads behind the call as it read before'; 0 by the template 'total and deterministic' (their statements: YtfebaiefoonncaaTotals.lean).
  GIVEN WITH THE SEED: the statements are not yours to turn. If you find one false, say at which input.
  Laid BY PROGRAM, IN A SANDBOX (cutbox-rows.mjs): the forced cells as the released guide's own fill.sh prints them over the translation 1b0cb914adfaae51… (all of the seat's roots in one cut). By AI agents, Wed Nov 11 2026. No macro, syntax, notation, axiom, sorry.
-/
import Derived.Test.YtfebaiefoonncaaChecked
import GoSem.Claim
import GoSem.ClaimJoined
import GoSem.ClaimMapViews
import Derived.JoinedTies
import Derived.KernelRfl
namespace Go.Proofs.Ytfebaiefoonncaa
/- THE CELL 'sum', in the pinned program and in every row, IS THE sha256 OF THE DUMP (.gsa) THAT YtfebaiefoonncaaProg.lean LOADS. Nothing in Lean hashes anything: it is a label: what it is worth is what the hold of that sum in a sandbox is worth. -/
noncomputable def Try.pinned : Pinned := { name := "ytfebaiefoonncaa", sum := "1b0cb914adfaae51f0d78d3abd2b9d1c94dfe023a83a055b8020a20aa571c50c", checked := Try.checked }
namespace Rows
def none {H : Type} : Left H := { results := [], args := [] }

/-- 'bottomrylaw17.DraftStays': WHATEVER THE INPUT: true; the input reads as it did. -/
def draftStaysSpec : ChangeSpec := { name := "draftStays", fn := fun _ => fun
  | [d1, d2, d3] => { results := [.lit (.bool true)], args := [d1, d2, d3] }
  | _ => none }
def draftStaysRow : OpenClaim := { program := "ytfebaiefoonncaa", sum := "1b0cb914adfaae51f0d78d3abd2b9d1c94dfe023a83a055b8020a20aa571c50c", func := "bottomry/bottomrylaw17.DraftStays", spec := "draftStays", unfollowed := true, recurses := true, apart := false }
def DraftStaysSaid : Prop := draftStaysRow.holds Try.pinned (OpenSpec.ofChange draftStaysSpec)

/-- ITS FALSE NEIGHBOUR: 'it returns false'. Refute it at one input. -/
def draftStaysWrong : ChangeSpec := { name := "draftStays", fn := fun _ => fun
  | [d1, d2, d3] => { results := [.lit (.bool false)], args := [d1, d2, d3] }
  | _ => none }
def DraftStaysWrongFalsely : Prop := draftStaysRow.holds Try.pinned (OpenSpec.ofChange draftStaysWrong)

/-- 'bottomrylaw17.DraftBack': WHATEVER THE INPUT: true; the input reads as it did. -/
def draftBackSpec : ChangeSpec := { name := "draftBack", fn := fun _ => fun
  | [d1, d2, d3] => { results := [.lit (.bool true)], args := [d1, d2, d3] }
  | _ => none }
def draftBackRow : OpenClaim := { program := "ytfebaiefoonncaa", sum := "1b0cb914adfaae51f0d78d3abd2b9d1c94dfe023a83a055b8020a20aa571c50c", func := "bottomry/bottomrylaw17.DraftBack", spec := "draftBack", unfollowed := true, recurses := true, apart := false }
def DraftBackSaid : Prop := draftBackRow.holds Try.pinned (OpenSpec.ofChange draftBackSpec)

/-- ITS FALSE NEIGHBOUR: 'it returns false'. Refute it at one input. -/
def draftBackWrong : ChangeSpec := { name := "draftBack", fn := fun _ => fun
  | [d1, d2, d3] => { results := [.lit (.bool false)], args := [d1, d2, d3] }
  | _ => none }
def DraftBackWrongFalsely : Prop := draftBackRow.holds Try.pinned (OpenSpec.ofChange draftBackWrong)

/-- 'bottomrylaw17.DraftNobody': WHATEVER THE INPUT: true; the input reads as it did. -/
def draftNobodySpec : ChangeSpec := { name := "draftNobody", fn := fun _ => fun
  | [d] => { results := [.lit (.bool true)], args := [d] }
  | _ => none }
def draftNobodyRow : OpenClaim := { program := "ytfebaiefoonncaa", sum := "1b0cb914adfaae51f0d78d3abd2b9d1c94dfe023a83a055b8020a20aa571c50c", func := "bottomry/bottomrylaw17.DraftNobody", spec := "draftNobody", unfollowed := true, recurses := true, apart := false }
def DraftNobodySaid : Prop := draftNobodyRow.holds Try.pinned (OpenSpec.ofChange draftNobodySpec)

/-- ITS FALSE NEIGHBOUR: 'it returns false'. Refute it at one input. -/
def draftNobodyWrong : ChangeSpec := { name := "draftNobody", fn := fun _ => fun
  | [d] => { results := [.lit (.bool false)], args := [d] }
  | _ => none }
def DraftNobodyWrongFalsely : Prop := draftNobodyRow.holds Try.pinned (OpenSpec.ofChange draftNobodyWrong)

/- THE SECOND FORM. 'bulk': how many values and letters a reading holds, each counted each time it is reached (what is shared counts as often as it is met; a slice's spare places count too). A statement '..UptoSaid' is the law's where the arguments, and the package variables that the reading takes, are together of bulk at most 1048576: NARROWER than '..Said'. Prove '..Said' where nothing that the law and all that it calls make is longer than what came in: it says more and counts as full. Else prove '..UptoSaid'. A law counts once. -/
mutual
def uptoBulk {H : Type} : DataW H → Nat
  | .lit (.string bytes) => bytes.length + 1
  | .lit _ => 1
  | .nil => 1
  | .ptr d => uptoBulk d + 1
  | .slice elems spare => uptoBulkAll elems + uptoBulkAll spare + 1
  | .agg parts => uptoBulkAll parts + 1
  | .iface _ d => uptoBulk d + 1
  | .map entries => uptoBulkEntries entries + 1
  | .held _ => 1
def uptoBulkAll {H : Type} : List (DataW H) → Nat
  | [] => 0
  | d :: r => uptoBulk d + uptoBulkAll r
def uptoBulkEntries {H : Type} : List (Lit × DataW H) → Nat
  | [] => 0
  | x :: r => uptoBulkEntry x + uptoBulkEntries r
def uptoBulkEntry {H : Type} : Lit × DataW H → Nat
  | (.string bytes, d) => bytes.length + uptoBulk d + 1
  | (_, d) => uptoBulk d + 1
 end
def uptoSmall : (H : Type) → List (DataW H) → Bool := fun _ ds => decide (uptoBulkAll ds ≤ 1048576)
def OpenSpec.upto (s : _root_.Go.ChangeSpec) : _root_.Go.OpenSpec := { _root_.Go.OpenSpec.ofChange s with cond := some uptoSmall }

/-- 'bottomrylaw17.DraftStays', WHERE WHAT IT READS IS OF BULK AT MOST 1048576: true; the input reads as it did. -/
def draftStaysUptoRow : OpenClaim := { program := "ytfebaiefoonncaa", sum := "1b0cb914adfaae51f0d78d3abd2b9d1c94dfe023a83a055b8020a20aa571c50c", func := "bottomry/bottomrylaw17.DraftStays", spec := "draftStays", unfollowed := true, recurses := true, apart := false, narrowed := true }
def DraftStaysUptoSaid : Prop := draftStaysUptoRow.holds Try.pinned (OpenSpec.upto draftStaysSpec)

/-- 'bottomrylaw17.DraftBack', WHERE WHAT IT READS IS OF BULK AT MOST 1048576: true; the input reads as it did. -/
def draftBackUptoRow : OpenClaim := { program := "ytfebaiefoonncaa", sum := "1b0cb914adfaae51f0d78d3abd2b9d1c94dfe023a83a055b8020a20aa571c50c", func := "bottomry/bottomrylaw17.DraftBack", spec := "draftBack", unfollowed := true, recurses := true, apart := false, narrowed := true }
def DraftBackUptoSaid : Prop := draftBackUptoRow.holds Try.pinned (OpenSpec.upto draftBackSpec)

/-- 'bottomrylaw17.DraftNobody', WHERE WHAT IT READS IS OF BULK AT MOST 1048576: true; the input reads as it did. -/
def draftNobodyUptoRow : OpenClaim := { program := "ytfebaiefoonncaa", sum := "1b0cb914adfaae51f0d78d3abd2b9d1c94dfe023a83a055b8020a20aa571c50c", func := "bottomry/bottomrylaw17.DraftNobody", spec := "draftNobody", unfollowed := true, recurses := true, apart := false, narrowed := true }
def DraftNobodyUptoSaid : Prop := draftNobodyUptoRow.holds Try.pinned (OpenSpec.upto draftNobodySpec)

end Rows
end Go.Proofs.Ytfebaiefoonncaa
