/-
  No cell of these rows narrows 'for every input' (looked for: loops, veiled, ifaces, maps, wideKeys, modest, calm, conditions, laid).
  DERIVED. THE GIVEN ROWS OF THIS SEAT. 4 by the template 'for every input the law returns true; each argument reads behind the call as it read before'; 0 by the template 'total and deterministic' (their statements: YtbhhofeflajpoaaTotals.lean).
  GIVEN WITH THE SEED: the statements are not yours to turn. If you find one false, say at which input.
  Laid BY PROGRAM, IN A SANDBOX (cutbox-rows.mjs): the forced cells as the released guide's own fill.sh prints them over the translation 2eeb2d59e047f0d2… (all of the seat's roots in one cut). By AI agents, Wed Nov 11 2026. No macro, syntax, notation, axiom, sorry.
-/
import Derived.Test.YtbhhofeflajpoaaChecked
import GoSem.Claim
import GoSem.ClaimJoined
import GoSem.ClaimMapViews
import Derived.JoinedTies
import Derived.KernelRfl
namespace Go.Proofs.Ytbhhofeflajpoaa
/- THE CELL 'sum', in the pinned program and in every row, IS THE sha256 OF THE DUMP (.gsa) THAT YtbhhofeflajpoaaProg.lean LOADS. Nothing in Lean hashes anything: it is a label: what it is worth is what the hold of that sum in a sandbox is worth. -/
noncomputable def Try.pinned : Pinned := { name := "ytbhhofeflajpoaa", sum := "2eeb2d59e047f0d2a455bc67294b7cc10cea07400c0f1e403a39e30cead4399a", checked := Try.checked }
namespace Rows
def none {H : Type} : Left H := { results := [], args := [] }

/-- 'bottomrylaw08.GoodsNorms': WHATEVER THE INPUT: true; the input reads as it did. -/
def goodsNormsSpec : ChangeSpec := { name := "goodsNorms", fn := fun _ => fun
  | [d1, d2, d3] => { results := [.lit (.bool true)], args := [d1, d2, d3] }
  | _ => none }
def goodsNormsRow : OpenClaim := { program := "ytbhhofeflajpoaa", sum := "2eeb2d59e047f0d2a455bc67294b7cc10cea07400c0f1e403a39e30cead4399a", func := "bottomry/bottomrylaw08.GoodsNorms", spec := "goodsNorms", recurses := true, apart := false }
def GoodsNormsSaid : Prop := goodsNormsRow.holds Try.pinned (OpenSpec.ofChange goodsNormsSpec)

/-- ITS FALSE NEIGHBOUR: 'it returns false'. Refute it at one input. -/
def goodsNormsWrong : ChangeSpec := { name := "goodsNorms", fn := fun _ => fun
  | [d1, d2, d3] => { results := [.lit (.bool false)], args := [d1, d2, d3] }
  | _ => none }
def GoodsNormsWrongFalsely : Prop := goodsNormsRow.holds Try.pinned (OpenSpec.ofChange goodsNormsWrong)

/-- 'bottomrylaw08.GoodsSums': WHATEVER THE INPUT: true; the input reads as it did. -/
def goodsSumsSpec : ChangeSpec := { name := "goodsSums", fn := fun _ => fun
  | [d1, d2, d3] => { results := [.lit (.bool true)], args := [d1, d2, d3] }
  | _ => none }
def goodsSumsRow : OpenClaim := { program := "ytbhhofeflajpoaa", sum := "2eeb2d59e047f0d2a455bc67294b7cc10cea07400c0f1e403a39e30cead4399a", func := "bottomry/bottomrylaw08.GoodsSums", spec := "goodsSums", recurses := true, apart := false }
def GoodsSumsSaid : Prop := goodsSumsRow.holds Try.pinned (OpenSpec.ofChange goodsSumsSpec)

/-- ITS FALSE NEIGHBOUR: 'it returns false'. Refute it at one input. -/
def goodsSumsWrong : ChangeSpec := { name := "goodsSums", fn := fun _ => fun
  | [d1, d2, d3] => { results := [.lit (.bool false)], args := [d1, d2, d3] }
  | _ => none }
def GoodsSumsWrongFalsely : Prop := goodsSumsRow.holds Try.pinned (OpenSpec.ofChange goodsSumsWrong)

/-- 'bottomrylaw08.GoodsBack': WHATEVER THE INPUT: true; the input reads as it did. -/
def goodsBackSpec : ChangeSpec := { name := "goodsBack", fn := fun _ => fun
  | [d1, d2] => { results := [.lit (.bool true)], args := [d1, d2] }
  | _ => none }
def goodsBackRow : OpenClaim := { program := "ytbhhofeflajpoaa", sum := "2eeb2d59e047f0d2a455bc67294b7cc10cea07400c0f1e403a39e30cead4399a", func := "bottomry/bottomrylaw08.GoodsBack", spec := "goodsBack", recurses := true, apart := false }
def GoodsBackSaid : Prop := goodsBackRow.holds Try.pinned (OpenSpec.ofChange goodsBackSpec)

/-- ITS FALSE NEIGHBOUR: 'it returns false'. Refute it at one input. -/
def goodsBackWrong : ChangeSpec := { name := "goodsBack", fn := fun _ => fun
  | [d1, d2] => { results := [.lit (.bool false)], args := [d1, d2] }
  | _ => none }
def GoodsBackWrongFalsely : Prop := goodsBackRow.holds Try.pinned (OpenSpec.ofChange goodsBackWrong)

/-- 'bottomrylaw08.GoodsTimes': WHATEVER THE INPUT: true; the input reads as it did. -/
def goodsTimesSpec : ChangeSpec := { name := "goodsTimes", fn := fun _ => fun
  | [d1, d2, d3] => { results := [.lit (.bool true)], args := [d1, d2, d3] }
  | _ => none }
def goodsTimesRow : OpenClaim := { program := "ytbhhofeflajpoaa", sum := "2eeb2d59e047f0d2a455bc67294b7cc10cea07400c0f1e403a39e30cead4399a", func := "bottomry/bottomrylaw08.GoodsTimes", spec := "goodsTimes", recurses := true, apart := false }
def GoodsTimesSaid : Prop := goodsTimesRow.holds Try.pinned (OpenSpec.ofChange goodsTimesSpec)

/-- ITS FALSE NEIGHBOUR: 'it returns false'. Refute it at one input. -/
def goodsTimesWrong : ChangeSpec := { name := "goodsTimes", fn := fun _ => fun
  | [d1, d2, d3] => { results := [.lit (.bool false)], args := [d1, d2, d3] }
  | _ => none }
def GoodsTimesWrongFalsely : Prop := goodsTimesRow.holds Try.pinned (OpenSpec.ofChange goodsTimesWrong)

/- THE SECOND FORM. 'bulk': how many values and letters a reading holds, each counted each time it is reached (what is shared counts as often as it is met; a slice's spare places count too). A statement '..UptoSaid' is the law's where the arguments, and the package variables that the reading takes, are together of bulk at most 1048576: NARROWER than '..Said'. Prove '..Said' where nothing that the law and all that it calls make is longer than what came in: it says more and counts as full. Else prove '..UptoSaid'. A law counts once. -/
mutual
def uptoBulk {H : Type} : DataW H → Nat
  | .lit (.string bytes) => bytes.length + 1
  | .lit _ => 1
  | .nil => 1
  | .ptr d => uptoBulk d + 1
  | .slice elems spare => uptoBulkAll elems + uptoBulkAll spare + 1
  | .agg parts => uptoBulkAll parts + 1
  | .iface _ d => uptoBulk d + 1
  | .map entries => uptoBulkEntries entries + 1
  | .held _ => 1
def uptoBulkAll {H : Type} : List (DataW H) → Nat
  | [] => 0
  | d :: r => uptoBulk d + uptoBulkAll r
def uptoBulkEntries {H : Type} : List (Lit × DataW H) → Nat
  | [] => 0
  | x :: r => uptoBulkEntry x + uptoBulkEntries r
def uptoBulkEntry {H : Type} : Lit × DataW H → Nat
  | (.string bytes, d) => bytes.length + uptoBulk d + 1
  | (_, d) => uptoBulk d + 1
 end
def uptoSmall : (H : Type) → List (DataW H) → Bool := fun _ ds => decide (uptoBulkAll ds ≤ 1048576)
def OpenSpec.upto (s : _root_.Go.ChangeSpec) : _root_.Go.OpenSpec := { _root_.Go.OpenSpec.ofChange s with cond := some uptoSmall }

/-- 'bottomrylaw08.GoodsNorms', WHERE WHAT IT READS IS OF BULK AT MOST 1048576: true; the input reads as it did. -/
def goodsNormsUptoRow : OpenClaim := { program := "ytbhhofeflajpoaa", sum := "2eeb2d59e047f0d2a455bc67294b7cc10cea07400c0f1e403a39e30cead4399a", func := "bottomry/bottomrylaw08.GoodsNorms", spec := "goodsNorms", recurses := true, apart := false, narrowed := true }
def GoodsNormsUptoSaid : Prop := goodsNormsUptoRow.holds Try.pinned (OpenSpec.upto goodsNormsSpec)

/-- 'bottomrylaw08.GoodsSums', WHERE WHAT IT READS IS OF BULK AT MOST 1048576: true; the input reads as it did. -/
def goodsSumsUptoRow : OpenClaim := { program := "ytbhhofeflajpoaa", sum := "2eeb2d59e047f0d2a455bc67294b7cc10cea07400c0f1e403a39e30cead4399a", func := "bottomry/bottomrylaw08.GoodsSums", spec := "goodsSums", recurses := true, apart := false, narrowed := true }
def GoodsSumsUptoSaid : Prop := goodsSumsUptoRow.holds Try.pinned (OpenSpec.upto goodsSumsSpec)

/-- 'bottomrylaw08.GoodsBack', WHERE WHAT IT READS IS OF BULK AT MOST 1048576: true; the input reads as it did. -/
def goodsBackUptoRow : OpenClaim := { program := "ytbhhofeflajpoaa", sum := "2eeb2d59e047f0d2a455bc67294b7cc10cea07400c0f1e403a39e30cead4399a", func := "bottomry/bottomrylaw08.GoodsBack", spec := "goodsBack", recurses := true, apart := false, narrowed := true }
def GoodsBackUptoSaid : Prop := goodsBackUptoRow.holds Try.pinned (OpenSpec.upto goodsBackSpec)

/-- 'bottomrylaw08.GoodsTimes', WHERE WHAT IT READS IS OF BULK AT MOST 1048576: true; the input reads as it did. -/
def goodsTimesUptoRow : OpenClaim := { program := "ytbhhofeflajpoaa", sum := "2eeb2d59e047f0d2a455bc67294b7cc10cea07400c0f1e403a39e30cead4399a", func := "bottomry/bottomrylaw08.GoodsTimes", spec := "goodsTimes", recurses := true, apart := false, narrowed := true }
def GoodsTimesUptoSaid : Prop := goodsTimesUptoRow.holds Try.pinned (OpenSpec.upto goodsTimesSpec)

end Rows
end Go.Proofs.Ytbhhofeflajpoaa
