/-
  No cell of these rows narrows 'for every input' (looked for: loops, veiled, ifaces, maps, wideKeys, modest, calm, conditions, laid).
  DERIVED. THE GIVEN ROWS OF THIS SEAT. 4 by the template 'for every input the law returns true; each argument reads behind the call as it read before'; 0 by the template 'total and deterministic' (their statements: YtohlkaoophbinaaTotals.lean).
  GIVEN WITH THE SEED: the statements are not yours to turn. If you find one false, say at which input.
  Laid BY PROGRAM, IN A SANDBOX (cutbox-rows.mjs): the forced cells as the released guide's own fill.sh prints them over the translation 8e624e46be5149dc… (all of the seat's roots in one cut). By AI agents, Wed Nov 11 2026. No macro, syntax, notation, axiom, sorry.
-/
import Derived.Test.YtohlkaoophbinaaChecked
import GoSem.Claim
import GoSem.ClaimJoined
import GoSem.ClaimMapViews
import Derived.JoinedTies
import Derived.KernelRfl
namespace Go.Proofs.Ytohlkaoophbinaa
/- THE CELL 'sum', in the pinned program and in every row, IS THE sha256 OF THE DUMP (.gsa) THAT YtohlkaoophbinaaProg.lean LOADS. Nothing in Lean hashes anything: it is a label: what it is worth is what the hold of that sum in a sandbox is worth. -/
noncomputable def Try.pinned : Pinned := { name := "ytohlkaoophbinaa", sum := "8e624e46be5149dca3c219b364feffb990c3754664b590fb4b373f8e25d3cb95", checked := Try.checked }
namespace Rows
def none {H : Type} : Left H := { results := [], args := [] }

/-- 'bottomrylaw15.BomExpands': WHATEVER THE INPUT: true; the input reads as it did. -/
def bomExpandsSpec : ChangeSpec := { name := "bomExpands", fn := fun _ => fun
  | [d1, d2, d3] => { results := [.lit (.bool true)], args := [d1, d2, d3] }
  | _ => none }
def bomExpandsRow : OpenClaim := { program := "ytohlkaoophbinaa", sum := "8e624e46be5149dca3c219b364feffb990c3754664b590fb4b373f8e25d3cb95", func := "bottomry/bottomrylaw15.BomExpands", spec := "bomExpands", unfollowed := true, recurses := true, named := ["math/bits.divideError", "math/bits.overflowError"], apart := false }
def BomExpandsSaid : Prop := bomExpandsRow.holds Try.pinned (OpenSpec.ofChange bomExpandsSpec)

/-- ITS FALSE NEIGHBOUR: 'it returns false'. Refute it at one input. -/
def bomExpandsWrong : ChangeSpec := { name := "bomExpands", fn := fun _ => fun
  | [d1, d2, d3] => { results := [.lit (.bool false)], args := [d1, d2, d3] }
  | _ => none }
def BomExpandsWrongFalsely : Prop := bomExpandsRow.holds Try.pinned (OpenSpec.ofChange bomExpandsWrong)

/-- 'bottomrylaw15.BomTakes': WHATEVER THE INPUT: true; the input reads as it did. -/
def bomTakesSpec : ChangeSpec := { name := "bomTakes", fn := fun _ => fun
  | [d1, d2, d3] => { results := [.lit (.bool true)], args := [d1, d2, d3] }
  | _ => none }
def bomTakesRow : OpenClaim := { program := "ytohlkaoophbinaa", sum := "8e624e46be5149dca3c219b364feffb990c3754664b590fb4b373f8e25d3cb95", func := "bottomry/bottomrylaw15.BomTakes", spec := "bomTakes", unfollowed := true, recurses := true, named := ["math/bits.divideError", "math/bits.overflowError"], apart := false }
def BomTakesSaid : Prop := bomTakesRow.holds Try.pinned (OpenSpec.ofChange bomTakesSpec)

/-- ITS FALSE NEIGHBOUR: 'it returns false'. Refute it at one input. -/
def bomTakesWrong : ChangeSpec := { name := "bomTakes", fn := fun _ => fun
  | [d1, d2, d3] => { results := [.lit (.bool false)], args := [d1, d2, d3] }
  | _ => none }
def BomTakesWrongFalsely : Prop := bomTakesRow.holds Try.pinned (OpenSpec.ofChange bomTakesWrong)

/-- 'bottomrylaw15.BomFits': WHATEVER THE INPUT: true; the input reads as it did. -/
def bomFitsSpec : ChangeSpec := { name := "bomFits", fn := fun _ => fun
  | [d1, d2, d3] => { results := [.lit (.bool true)], args := [d1, d2, d3] }
  | _ => none }
def bomFitsRow : OpenClaim := { program := "ytohlkaoophbinaa", sum := "8e624e46be5149dca3c219b364feffb990c3754664b590fb4b373f8e25d3cb95", func := "bottomry/bottomrylaw15.BomFits", spec := "bomFits", unfollowed := true, recurses := true, named := ["math/bits.divideError", "math/bits.overflowError"], apart := false }
def BomFitsSaid : Prop := bomFitsRow.holds Try.pinned (OpenSpec.ofChange bomFitsSpec)

/-- ITS FALSE NEIGHBOUR: 'it returns false'. Refute it at one input. -/
def bomFitsWrong : ChangeSpec := { name := "bomFits", fn := fun _ => fun
  | [d1, d2, d3] => { results := [.lit (.bool false)], args := [d1, d2, d3] }
  | _ => none }
def BomFitsWrongFalsely : Prop := bomFitsRow.holds Try.pinned (OpenSpec.ofChange bomFitsWrong)

/-- 'bottomrylaw15.BomEven': WHATEVER THE INPUT: true; the input reads as it did. -/
def bomEvenSpec : ChangeSpec := { name := "bomEven", fn := fun _ => fun
  | [d1, d2] => { results := [.lit (.bool true)], args := [d1, d2] }
  | _ => none }
def bomEvenRow : OpenClaim := { program := "ytohlkaoophbinaa", sum := "8e624e46be5149dca3c219b364feffb990c3754664b590fb4b373f8e25d3cb95", func := "bottomry/bottomrylaw15.BomEven", spec := "bomEven", unfollowed := true, recurses := true, named := ["math/bits.divideError", "math/bits.overflowError"], apart := false }
def BomEvenSaid : Prop := bomEvenRow.holds Try.pinned (OpenSpec.ofChange bomEvenSpec)

/-- ITS FALSE NEIGHBOUR: 'it returns false'. Refute it at one input. -/
def bomEvenWrong : ChangeSpec := { name := "bomEven", fn := fun _ => fun
  | [d1, d2] => { results := [.lit (.bool false)], args := [d1, d2] }
  | _ => none }
def BomEvenWrongFalsely : Prop := bomEvenRow.holds Try.pinned (OpenSpec.ofChange bomEvenWrong)

/- THE SECOND FORM. 'bulk': how many values and letters a reading holds, each counted each time it is reached (what is shared counts as often as it is met; a slice's spare places count too). A statement '..UptoSaid' is the law's where the arguments, and the package variables that the reading takes, are together of bulk at most 1048576: NARROWER than '..Said'. Prove '..Said' where nothing that the law and all that it calls make is longer than what came in: it says more and counts as full. Else prove '..UptoSaid'. A law counts once. -/
mutual
def uptoBulk {H : Type} : DataW H → Nat
  | .lit (.string bytes) => bytes.length + 1
  | .lit _ => 1
  | .nil => 1
  | .ptr d => uptoBulk d + 1
  | .slice elems spare => uptoBulkAll elems + uptoBulkAll spare + 1
  | .agg parts => uptoBulkAll parts + 1
  | .iface _ d => uptoBulk d + 1
  | .map entries => uptoBulkEntries entries + 1
  | .held _ => 1
def uptoBulkAll {H : Type} : List (DataW H) → Nat
  | [] => 0
  | d :: r => uptoBulk d + uptoBulkAll r
def uptoBulkEntries {H : Type} : List (Lit × DataW H) → Nat
  | [] => 0
  | x :: r => uptoBulkEntry x + uptoBulkEntries r
def uptoBulkEntry {H : Type} : Lit × DataW H → Nat
  | (.string bytes, d) => bytes.length + uptoBulk d + 1
  | (_, d) => uptoBulk d + 1
 end
def uptoSmall : (H : Type) → List (DataW H) → Bool := fun _ ds => decide (uptoBulkAll ds ≤ 1048576)
def OpenSpec.upto (s : _root_.Go.ChangeSpec) : _root_.Go.OpenSpec := { _root_.Go.OpenSpec.ofChange s with cond := some uptoSmall }

/-- 'bottomrylaw15.BomExpands', WHERE WHAT IT READS IS OF BULK AT MOST 1048576: true; the input reads as it did. -/
def bomExpandsUptoRow : OpenClaim := { program := "ytohlkaoophbinaa", sum := "8e624e46be5149dca3c219b364feffb990c3754664b590fb4b373f8e25d3cb95", func := "bottomry/bottomrylaw15.BomExpands", spec := "bomExpands", unfollowed := true, recurses := true, named := ["math/bits.divideError", "math/bits.overflowError"], apart := false, narrowed := true }
def BomExpandsUptoSaid : Prop := bomExpandsUptoRow.holds Try.pinned (OpenSpec.upto bomExpandsSpec)

/-- 'bottomrylaw15.BomTakes', WHERE WHAT IT READS IS OF BULK AT MOST 1048576: true; the input reads as it did. -/
def bomTakesUptoRow : OpenClaim := { program := "ytohlkaoophbinaa", sum := "8e624e46be5149dca3c219b364feffb990c3754664b590fb4b373f8e25d3cb95", func := "bottomry/bottomrylaw15.BomTakes", spec := "bomTakes", unfollowed := true, recurses := true, named := ["math/bits.divideError", "math/bits.overflowError"], apart := false, narrowed := true }
def BomTakesUptoSaid : Prop := bomTakesUptoRow.holds Try.pinned (OpenSpec.upto bomTakesSpec)

/-- 'bottomrylaw15.BomFits', WHERE WHAT IT READS IS OF BULK AT MOST 1048576: true; the input reads as it did. -/
def bomFitsUptoRow : OpenClaim := { program := "ytohlkaoophbinaa", sum := "8e624e46be5149dca3c219b364feffb990c3754664b590fb4b373f8e25d3cb95", func := "bottomry/bottomrylaw15.BomFits", spec := "bomFits", unfollowed := true, recurses := true, named := ["math/bits.divideError", "math/bits.overflowError"], apart := false, narrowed := true }
def BomFitsUptoSaid : Prop := bomFitsUptoRow.holds Try.pinned (OpenSpec.upto bomFitsSpec)

/-- 'bottomrylaw15.BomEven', WHERE WHAT IT READS IS OF BULK AT MOST 1048576: true; the input reads as it did. -/
def bomEvenUptoRow : OpenClaim := { program := "ytohlkaoophbinaa", sum := "8e624e46be5149dca3c219b364feffb990c3754664b590fb4b373f8e25d3cb95", func := "bottomry/bottomrylaw15.BomEven", spec := "bomEven", unfollowed := true, recurses := true, named := ["math/bits.divideError", "math/bits.overflowError"], apart := false, narrowed := true }
def BomEvenUptoSaid : Prop := bomEvenUptoRow.holds Try.pinned (OpenSpec.upto bomEvenSpec)

end Rows
end Go.Proofs.Ytohlkaoophbinaa
