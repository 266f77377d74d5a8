/-
  No cell of these rows narrows 'for every input' (looked for: loops, veiled, ifaces, maps, wideKeys, modest, calm, conditions, laid).
  DERIVED. THE GIVEN ROWS OF THIS SEAT. 4 by the template 'for every input the law returns true; each argument reads behind the call as it read before'; 0 by the template 'total and deterministic' (their statements: YtbibkonlhghplaaTotals.lean).
  GIVEN WITH THE SEED: the statements are not yours to turn. If you find one false, say at which input.
  Laid BY PROGRAM, IN A SANDBOX (cutbox-rows.mjs): the forced cells as the released guide's own fill.sh prints them over the translation 311a6b903b22da2d… (all of the seat's roots in one cut). By AI agents, Wed Nov 11 2026. No macro, syntax, notation, axiom, sorry.
-/
import Derived.Test.YtbibkonlhghplaaChecked
import GoSem.Claim
import GoSem.ClaimJoined
import GoSem.ClaimMapViews
import Derived.JoinedTies
import Derived.KernelRfl
namespace Go.Proofs.Ytbibkonlhghplaa
/- THE CELL 'sum', in the pinned program and in every row, IS THE sha256 OF THE DUMP (.gsa) THAT YtbibkonlhghplaaProg.lean LOADS. Nothing in Lean hashes anything: it is a label: what it is worth is what the hold of that sum in a sandbox is worth. -/
noncomputable def Try.pinned : Pinned := { name := "ytbibkonlhghplaa", sum := "311a6b903b22da2da2d127548c85237325b506970983d604c25dc7ddb79378a1", checked := Try.checked }
namespace Rows
def none {H : Type} : Left H := { results := [], args := [] }

/-- 'bottomrylaw12.RecipeNeeds': WHATEVER THE INPUT: true; the input reads as it did. -/
def recipeNeedsSpec : ChangeSpec := { name := "recipeNeeds", fn := fun _ => fun
  | [d1, d2, d3] => { results := [.lit (.bool true)], args := [d1, d2, d3] }
  | _ => none }
def recipeNeedsRow : OpenClaim := { program := "ytbibkonlhghplaa", sum := "311a6b903b22da2da2d127548c85237325b506970983d604c25dc7ddb79378a1", func := "bottomry/bottomrylaw12.RecipeNeeds", spec := "recipeNeeds", unfollowed := true, recurses := true, named := ["math/bits.divideError", "math/bits.overflowError"], apart := false }
def RecipeNeedsSaid : Prop := recipeNeedsRow.holds Try.pinned (OpenSpec.ofChange recipeNeedsSpec)

/-- ITS FALSE NEIGHBOUR: 'it returns false'. Refute it at one input. -/
def recipeNeedsWrong : ChangeSpec := { name := "recipeNeeds", fn := fun _ => fun
  | [d1, d2, d3] => { results := [.lit (.bool false)], args := [d1, d2, d3] }
  | _ => none }
def RecipeNeedsWrongFalsely : Prop := recipeNeedsRow.holds Try.pinned (OpenSpec.ofChange recipeNeedsWrong)

/-- 'bottomrylaw12.RecipeStudies': WHATEVER THE INPUT: true; the input reads as it did. -/
def recipeStudiesSpec : ChangeSpec := { name := "recipeStudies", fn := fun _ => fun
  | [d1, d2, d3] => { results := [.lit (.bool true)], args := [d1, d2, d3] }
  | _ => none }
def recipeStudiesRow : OpenClaim := { program := "ytbibkonlhghplaa", sum := "311a6b903b22da2da2d127548c85237325b506970983d604c25dc7ddb79378a1", func := "bottomry/bottomrylaw12.RecipeStudies", spec := "recipeStudies", unfollowed := true, recurses := true, named := ["math/bits.divideError", "math/bits.overflowError"], apart := false }
def RecipeStudiesSaid : Prop := recipeStudiesRow.holds Try.pinned (OpenSpec.ofChange recipeStudiesSpec)

/-- ITS FALSE NEIGHBOUR: 'it returns false'. Refute it at one input. -/
def recipeStudiesWrong : ChangeSpec := { name := "recipeStudies", fn := fun _ => fun
  | [d1, d2, d3] => { results := [.lit (.bool false)], args := [d1, d2, d3] }
  | _ => none }
def RecipeStudiesWrongFalsely : Prop := recipeStudiesRow.holds Try.pinned (OpenSpec.ofChange recipeStudiesWrong)

/-- 'bottomrylaw12.RecipeFair': WHATEVER THE INPUT: true; the input reads as it did. -/
def recipeFairSpec : ChangeSpec := { name := "recipeFair", fn := fun _ => fun
  | [d1, d2, d3] => { results := [.lit (.bool true)], args := [d1, d2, d3] }
  | _ => none }
def recipeFairRow : OpenClaim := { program := "ytbibkonlhghplaa", sum := "311a6b903b22da2da2d127548c85237325b506970983d604c25dc7ddb79378a1", func := "bottomry/bottomrylaw12.RecipeFair", spec := "recipeFair", unfollowed := true, recurses := true, named := ["math/bits.divideError", "math/bits.overflowError"], apart := false }
def RecipeFairSaid : Prop := recipeFairRow.holds Try.pinned (OpenSpec.ofChange recipeFairSpec)

/-- ITS FALSE NEIGHBOUR: 'it returns false'. Refute it at one input. -/
def recipeFairWrong : ChangeSpec := { name := "recipeFair", fn := fun _ => fun
  | [d1, d2, d3] => { results := [.lit (.bool false)], args := [d1, d2, d3] }
  | _ => none }
def RecipeFairWrongFalsely : Prop := recipeFairRow.holds Try.pinned (OpenSpec.ofChange recipeFairWrong)

/-- 'bottomrylaw12.RecipeEnough': WHATEVER THE INPUT: true; the input reads as it did. -/
def recipeEnoughSpec : ChangeSpec := { name := "recipeEnough", fn := fun _ => fun
  | [d1, d2] => { results := [.lit (.bool true)], args := [d1, d2] }
  | _ => none }
def recipeEnoughRow : OpenClaim := { program := "ytbibkonlhghplaa", sum := "311a6b903b22da2da2d127548c85237325b506970983d604c25dc7ddb79378a1", func := "bottomry/bottomrylaw12.RecipeEnough", spec := "recipeEnough", unfollowed := true, recurses := true, named := ["math/bits.divideError", "math/bits.overflowError"], apart := false }
def RecipeEnoughSaid : Prop := recipeEnoughRow.holds Try.pinned (OpenSpec.ofChange recipeEnoughSpec)

/-- ITS FALSE NEIGHBOUR: 'it returns false'. Refute it at one input. -/
def recipeEnoughWrong : ChangeSpec := { name := "recipeEnough", fn := fun _ => fun
  | [d1, d2] => { results := [.lit (.bool false)], args := [d1, d2] }
  | _ => none }
def RecipeEnoughWrongFalsely : Prop := recipeEnoughRow.holds Try.pinned (OpenSpec.ofChange recipeEnoughWrong)

/- THE SECOND FORM. 'bulk': how many values and letters a reading holds, each counted each time it is reached (what is shared counts as often as it is met; a slice's spare places count too). A statement '..UptoSaid' is the law's where the arguments, and the package variables that the reading takes, are together of bulk at most 1048576: NARROWER than '..Said'. Prove '..Said' where nothing that the law and all that it calls make is longer than what came in: it says more and counts as full. Else prove '..UptoSaid'. A law counts once. -/
mutual
def uptoBulk {H : Type} : DataW H → Nat
  | .lit (.string bytes) => bytes.length + 1
  | .lit _ => 1
  | .nil => 1
  | .ptr d => uptoBulk d + 1
  | .slice elems spare => uptoBulkAll elems + uptoBulkAll spare + 1
  | .agg parts => uptoBulkAll parts + 1
  | .iface _ d => uptoBulk d + 1
  | .map entries => uptoBulkEntries entries + 1
  | .held _ => 1
def uptoBulkAll {H : Type} : List (DataW H) → Nat
  | [] => 0
  | d :: r => uptoBulk d + uptoBulkAll r
def uptoBulkEntries {H : Type} : List (Lit × DataW H) → Nat
  | [] => 0
  | x :: r => uptoBulkEntry x + uptoBulkEntries r
def uptoBulkEntry {H : Type} : Lit × DataW H → Nat
  | (.string bytes, d) => bytes.length + uptoBulk d + 1
  | (_, d) => uptoBulk d + 1
 end
def uptoSmall : (H : Type) → List (DataW H) → Bool := fun _ ds => decide (uptoBulkAll ds ≤ 1048576)
def OpenSpec.upto (s : _root_.Go.ChangeSpec) : _root_.Go.OpenSpec := { _root_.Go.OpenSpec.ofChange s with cond := some uptoSmall }

/-- 'bottomrylaw12.RecipeNeeds', WHERE WHAT IT READS IS OF BULK AT MOST 1048576: true; the input reads as it did. -/
def recipeNeedsUptoRow : OpenClaim := { program := "ytbibkonlhghplaa", sum := "311a6b903b22da2da2d127548c85237325b506970983d604c25dc7ddb79378a1", func := "bottomry/bottomrylaw12.RecipeNeeds", spec := "recipeNeeds", unfollowed := true, recurses := true, named := ["math/bits.divideError", "math/bits.overflowError"], apart := false, narrowed := true }
def RecipeNeedsUptoSaid : Prop := recipeNeedsUptoRow.holds Try.pinned (OpenSpec.upto recipeNeedsSpec)

/-- 'bottomrylaw12.RecipeStudies', WHERE WHAT IT READS IS OF BULK AT MOST 1048576: true; the input reads as it did. -/
def recipeStudiesUptoRow : OpenClaim := { program := "ytbibkonlhghplaa", sum := "311a6b903b22da2da2d127548c85237325b506970983d604c25dc7ddb79378a1", func := "bottomry/bottomrylaw12.RecipeStudies", spec := "recipeStudies", unfollowed := true, recurses := true, named := ["math/bits.divideError", "math/bits.overflowError"], apart := false, narrowed := true }
def RecipeStudiesUptoSaid : Prop := recipeStudiesUptoRow.holds Try.pinned (OpenSpec.upto recipeStudiesSpec)

/-- 'bottomrylaw12.RecipeFair', WHERE WHAT IT READS IS OF BULK AT MOST 1048576: true; the input reads as it did. -/
def recipeFairUptoRow : OpenClaim := { program := "ytbibkonlhghplaa", sum := "311a6b903b22da2da2d127548c85237325b506970983d604c25dc7ddb79378a1", func := "bottomry/bottomrylaw12.RecipeFair", spec := "recipeFair", unfollowed := true, recurses := true, named := ["math/bits.divideError", "math/bits.overflowError"], apart := false, narrowed := true }
def RecipeFairUptoSaid : Prop := recipeFairUptoRow.holds Try.pinned (OpenSpec.upto recipeFairSpec)

/-- 'bottomrylaw12.RecipeEnough', WHERE WHAT IT READS IS OF BULK AT MOST 1048576: true; the input reads as it did. -/
def recipeEnoughUptoRow : OpenClaim := { program := "ytbibkonlhghplaa", sum := "311a6b903b22da2da2d127548c85237325b506970983d604c25dc7ddb79378a1", func := "bottomry/bottomrylaw12.RecipeEnough", spec := "recipeEnough", unfollowed := true, recurses := true, named := ["math/bits.divideError", "math/bits.overflowError"], apart := false, narrowed := true }
def RecipeEnoughUptoSaid : Prop := recipeEnoughUptoRow.holds Try.pinned (OpenSpec.upto recipeEnoughSpec)

end Rows
end Go.Proofs.Ytbibkonlhghplaa
