/-
  No cell of these rows narrows 'for every input' (looked for: loops, veiled, ifaces, maps, wideKeys, modest, calm, conditions, laid).
  DERIVED. THE GIVEN ROWS OF THIS SEAT. 4 by the template 'for every input the law returns true; each argument reads behind the call as it read before'; 0 by the template 'total and deterministic' (their statements: YtkljaaeeocghjaaTotals.lean).
  GIVEN WITH THE SEED: the statements are not yours to turn. If you find one false, say at which input.
  Laid BY PROGRAM, IN A SANDBOX (cutbox-rows.mjs): the forced cells as the released guide's own fill.sh prints them over the translation 3fef127cc63d4e0f… (all of the seat's roots in one cut). By AI agents, Wed Nov 11 2026. No macro, syntax, notation, axiom, sorry.
-/
import Derived.Test.YtkljaaeeocghjaaChecked
import GoSem.Claim
import GoSem.ClaimJoined
import GoSem.ClaimMapViews
import Derived.JoinedTies
import Derived.KernelRfl
namespace Go.Proofs.Ytkljaaeeocghjaa
/- THE CELL 'sum', in the pinned program and in every row, IS THE sha256 OF THE DUMP (.gsa) THAT YtkljaaeeocghjaaProg.lean LOADS. Nothing in Lean hashes anything: it is a label: what it is worth is what the hold of that sum in a sandbox is worth. -/
noncomputable def Try.pinned : Pinned := { name := "ytkljaaeeocghjaa", sum := "3fef127cc63d4e0f02b3cb826430cb26fe59325f756c8746c8665f1498c417c8", checked := Try.checked }
namespace Rows
def none {H : Type} : Left H := { results := [], args := [] }

/-- 'bottomrylaw11.BinsPlay': WHATEVER THE INPUT: true; the input reads as it did. -/
def binsPlaySpec : ChangeSpec := { name := "binsPlay", fn := fun _ => fun
  | [d1, d2, d3] => { results := [.lit (.bool true)], args := [d1, d2, d3] }
  | _ => none }
def binsPlayRow : OpenClaim := { program := "ytkljaaeeocghjaa", sum := "3fef127cc63d4e0f02b3cb826430cb26fe59325f756c8746c8665f1498c417c8", func := "bottomry/bottomrylaw11.BinsPlay", spec := "binsPlay", unfollowed := true, recurses := true, apart := false }
def BinsPlaySaid : Prop := binsPlayRow.holds Try.pinned (OpenSpec.ofChange binsPlaySpec)

/-- ITS FALSE NEIGHBOUR: 'it returns false'. Refute it at one input. -/
def binsPlayWrong : ChangeSpec := { name := "binsPlay", fn := fun _ => fun
  | [d1, d2, d3] => { results := [.lit (.bool false)], args := [d1, d2, d3] }
  | _ => none }
def BinsPlayWrongFalsely : Prop := binsPlayRow.holds Try.pinned (OpenSpec.ofChange binsPlayWrong)

/-- 'bottomrylaw11.BinsStay': WHATEVER THE INPUT: true; the input reads as it did. -/
def binsStaySpec : ChangeSpec := { name := "binsStay", fn := fun _ => fun
  | [d1, d2] => { results := [.lit (.bool true)], args := [d1, d2] }
  | _ => none }
def binsStayRow : OpenClaim := { program := "ytkljaaeeocghjaa", sum := "3fef127cc63d4e0f02b3cb826430cb26fe59325f756c8746c8665f1498c417c8", func := "bottomry/bottomrylaw11.BinsStay", spec := "binsStay", unfollowed := true, recurses := true, apart := false }
def BinsStaySaid : Prop := binsStayRow.holds Try.pinned (OpenSpec.ofChange binsStaySpec)

/-- ITS FALSE NEIGHBOUR: 'it returns false'. Refute it at one input. -/
def binsStayWrong : ChangeSpec := { name := "binsStay", fn := fun _ => fun
  | [d1, d2] => { results := [.lit (.bool false)], args := [d1, d2] }
  | _ => none }
def BinsStayWrongFalsely : Prop := binsStayRow.holds Try.pinned (OpenSpec.ofChange binsStayWrong)

/-- 'bottomrylaw11.BinsBack': WHATEVER THE INPUT: true; the input reads as it did. -/
def binsBackSpec : ChangeSpec := { name := "binsBack", fn := fun _ => fun
  | [d1, d2, d3] => { results := [.lit (.bool true)], args := [d1, d2, d3] }
  | _ => none }
def binsBackRow : OpenClaim := { program := "ytkljaaeeocghjaa", sum := "3fef127cc63d4e0f02b3cb826430cb26fe59325f756c8746c8665f1498c417c8", func := "bottomry/bottomrylaw11.BinsBack", spec := "binsBack", unfollowed := true, recurses := true, apart := false }
def BinsBackSaid : Prop := binsBackRow.holds Try.pinned (OpenSpec.ofChange binsBackSpec)

/-- ITS FALSE NEIGHBOUR: 'it returns false'. Refute it at one input. -/
def binsBackWrong : ChangeSpec := { name := "binsBack", fn := fun _ => fun
  | [d1, d2, d3] => { results := [.lit (.bool false)], args := [d1, d2, d3] }
  | _ => none }
def BinsBackWrongFalsely : Prop := binsBackRow.holds Try.pinned (OpenSpec.ofChange binsBackWrong)

/-- 'bottomrylaw11.BinsNobody': WHATEVER THE INPUT: true; the input reads as it did. -/
def binsNobodySpec : ChangeSpec := { name := "binsNobody", fn := fun _ => fun
  | [d] => { results := [.lit (.bool true)], args := [d] }
  | _ => none }
def binsNobodyRow : OpenClaim := { program := "ytkljaaeeocghjaa", sum := "3fef127cc63d4e0f02b3cb826430cb26fe59325f756c8746c8665f1498c417c8", func := "bottomry/bottomrylaw11.BinsNobody", spec := "binsNobody", unfollowed := true, recurses := true, apart := false }
def BinsNobodySaid : Prop := binsNobodyRow.holds Try.pinned (OpenSpec.ofChange binsNobodySpec)

/-- ITS FALSE NEIGHBOUR: 'it returns false'. Refute it at one input. -/
def binsNobodyWrong : ChangeSpec := { name := "binsNobody", fn := fun _ => fun
  | [d] => { results := [.lit (.bool false)], args := [d] }
  | _ => none }
def BinsNobodyWrongFalsely : Prop := binsNobodyRow.holds Try.pinned (OpenSpec.ofChange binsNobodyWrong)

/- THE SECOND FORM. 'bulk': how many values and letters a reading holds, each counted each time it is reached (what is shared counts as often as it is met; a slice's spare places count too). A statement '..UptoSaid' is the law's where the arguments, and the package variables that the reading takes, are together of bulk at most 1048576: NARROWER than '..Said'. Prove '..Said' where nothing that the law and all that it calls make is longer than what came in: it says more and counts as full. Else prove '..UptoSaid'. A law counts once. -/
mutual
def uptoBulk {H : Type} : DataW H → Nat
  | .lit (.string bytes) => bytes.length + 1
  | .lit _ => 1
  | .nil => 1
  | .ptr d => uptoBulk d + 1
  | .slice elems spare => uptoBulkAll elems + uptoBulkAll spare + 1
  | .agg parts => uptoBulkAll parts + 1
  | .iface _ d => uptoBulk d + 1
  | .map entries => uptoBulkEntries entries + 1
  | .held _ => 1
def uptoBulkAll {H : Type} : List (DataW H) → Nat
  | [] => 0
  | d :: r => uptoBulk d + uptoBulkAll r
def uptoBulkEntries {H : Type} : List (Lit × DataW H) → Nat
  | [] => 0
  | x :: r => uptoBulkEntry x + uptoBulkEntries r
def uptoBulkEntry {H : Type} : Lit × DataW H → Nat
  | (.string bytes, d) => bytes.length + uptoBulk d + 1
  | (_, d) => uptoBulk d + 1
 end
def uptoSmall : (H : Type) → List (DataW H) → Bool := fun _ ds => decide (uptoBulkAll ds ≤ 1048576)
def OpenSpec.upto (s : _root_.Go.ChangeSpec) : _root_.Go.OpenSpec := { _root_.Go.OpenSpec.ofChange s with cond := some uptoSmall }

/-- 'bottomrylaw11.BinsPlay', WHERE WHAT IT READS IS OF BULK AT MOST 1048576: true; the input reads as it did. -/
def binsPlayUptoRow : OpenClaim := { program := "ytkljaaeeocghjaa", sum := "3fef127cc63d4e0f02b3cb826430cb26fe59325f756c8746c8665f1498c417c8", func := "bottomry/bottomrylaw11.BinsPlay", spec := "binsPlay", unfollowed := true, recurses := true, apart := false, narrowed := true }
def BinsPlayUptoSaid : Prop := binsPlayUptoRow.holds Try.pinned (OpenSpec.upto binsPlaySpec)

/-- 'bottomrylaw11.BinsStay', WHERE WHAT IT READS IS OF BULK AT MOST 1048576: true; the input reads as it did. -/
def binsStayUptoRow : OpenClaim := { program := "ytkljaaeeocghjaa", sum := "3fef127cc63d4e0f02b3cb826430cb26fe59325f756c8746c8665f1498c417c8", func := "bottomry/bottomrylaw11.BinsStay", spec := "binsStay", unfollowed := true, recurses := true, apart := false, narrowed := true }
def BinsStayUptoSaid : Prop := binsStayUptoRow.holds Try.pinned (OpenSpec.upto binsStaySpec)

/-- 'bottomrylaw11.BinsBack', WHERE WHAT IT READS IS OF BULK AT MOST 1048576: true; the input reads as it did. -/
def binsBackUptoRow : OpenClaim := { program := "ytkljaaeeocghjaa", sum := "3fef127cc63d4e0f02b3cb826430cb26fe59325f756c8746c8665f1498c417c8", func := "bottomry/bottomrylaw11.BinsBack", spec := "binsBack", unfollowed := true, recurses := true, apart := false, narrowed := true }
def BinsBackUptoSaid : Prop := binsBackUptoRow.holds Try.pinned (OpenSpec.upto binsBackSpec)

/-- 'bottomrylaw11.BinsNobody', WHERE WHAT IT READS IS OF BULK AT MOST 1048576: true; the input reads as it did. -/
def binsNobodyUptoRow : OpenClaim := { program := "ytkljaaeeocghjaa", sum := "3fef127cc63d4e0f02b3cb826430cb26fe59325f756c8746c8665f1498c417c8", func := "bottomry/bottomrylaw11.BinsNobody", spec := "binsNobody", unfollowed := true, recurses := true, apart := false, narrowed := true }
def BinsNobodyUptoSaid : Prop := binsNobodyUptoRow.holds Try.pinned (OpenSpec.upto binsNobodySpec)

end Rows
end Go.Proofs.Ytkljaaeeocghjaa
