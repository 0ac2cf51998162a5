/-
  NARROWER THAN 'FOR EVERY INPUT', by the rows' own cells (each row's printed sentence says how): CallNames: laid · CallTable: laid · CallDecodes: laid · CallTells: laid · CallErrors: laid.
  DERIVED. THE GIVEN ROWS OF THIS SEAT. 5 by the template 'for every input the law returns true; each argument reads behind the call as it read before'; 0 by the template 'total and deterministic' (their statements: YtccobbfinmlgdaaDoorTotals.lean).
  GIVEN WITH THE SEED: the statements are not yours to turn. If you find one false, say at which input.
  Laid BY PROGRAM, IN A SANDBOX (cutbox-rows.mjs): the forced cells as the released guide's own fill.sh prints them over the translation 461f4a5d6a76c474… (all of the seat's roots in one cut). By AI agents, Wed Nov 11 2026. No macro, syntax, notation, axiom, sorry.
-/
import Derived.Test.YtccobbfinmlgdaaDoorChecked
import GoSem.Claim
import GoSem.ClaimJoined
import GoSem.ClaimMapViews
import Derived.JoinedTies
import Derived.KernelRfl
namespace Go.Proofs.YtccobbfinmlgdaaDoor
/- THE CELL 'sum', in the pinned program and in every row, IS THE sha256 OF THE DUMP (.gsa) THAT YtccobbfinmlgdaaDoorProg.lean LOADS. Nothing in Lean hashes anything: it is a label: what it is worth is what the hold of that sum in a sandbox is worth. -/
noncomputable def Tryd.pinned : Pinned := { name := "ytccobbfinmlgdaadoor", sum := "461f4a5d6a76c474429532054bb5856a85dc51d559a374d11f93f3ed82a252a1", checked := Tryd.checked }
namespace Rows
def none {H : Type} : Left H := { results := [], args := [] }

/- WHAT THE LISTED PACKAGE-LEVEL VARIABLES READ AS WHEN THE CALL BEGINS. Each datum BY PROGRAM (the guide's laid-datum.mjs) off the statement by which the dump's own 'gosem.cut.vars' lays the variable. In a bare row this is a premise. The card (YtccobbfinmlgdaaDoorCards.lean) ties it to the program's text. -/
def laid_parapet_slab_sizes {H : Type} : DataW H := .agg [.lit (.int .i64 0), .lit (.int .i64 256), .lit (.int .i64 128), .lit (.int .i64 64), .lit (.int .i64 32), .lit (.int .i64 64), .lit (.int .i64 576), .lit (.int .i64 64), .lit (.int .i64 576), .lit (.int .i64 32), .lit (.int .i64 128)]

/-- 'parapetlaw26.CallNames': WHATEVER THE INPUT: true; the input reads as it did. -/
def callNamesSpec : ChangeSpec := { name := "callNames", fn := fun _ => fun
  | [] => { results := [.lit (.bool true)], args := [] }
  | _ => none }
def callNamesRow : OpenClaim := { program := "ytccobbfinmlgdaadoor", sum := "461f4a5d6a76c474429532054bb5856a85dc51d559a374d11f93f3ed82a252a1", func := "parapet/parapetlaw26.CallNames", spec := "callNames", recurses := true, named := ["parapet/slab.sizes"], apart := false, laid := [("parapet/slab.sizes", laid_parapet_slab_sizes)] }
def CallNamesSaid : Prop := callNamesRow.holds Tryd.pinned (OpenSpec.ofChange callNamesSpec)

/-- ITS FALSE NEIGHBOUR: 'it returns false'. Refute it at one input. -/
def callNamesWrong : ChangeSpec := { name := "callNames", fn := fun _ => fun
  | [] => { results := [.lit (.bool false)], args := [] }
  | _ => none }
def CallNamesWrongFalsely : Prop := callNamesRow.holds Tryd.pinned (OpenSpec.ofChange callNamesWrong)

/-- 'parapetlaw26.CallTable': WHATEVER THE INPUT: true; the input reads as it did. -/
def callTableSpec : ChangeSpec := { name := "callTable", fn := fun _ => fun
  | [d1, d2] => { results := [.lit (.bool true)], args := [d1, d2] }
  | _ => none }
def callTableRow : OpenClaim := { program := "ytccobbfinmlgdaadoor", sum := "461f4a5d6a76c474429532054bb5856a85dc51d559a374d11f93f3ed82a252a1", func := "parapet/parapetlaw26.CallTable", spec := "callTable", unfollowed := true, recurses := true, named := ["parapet/slab.sizes"], apart := false, laid := [("parapet/slab.sizes", laid_parapet_slab_sizes)] }
def CallTableSaid : Prop := callTableRow.holds Tryd.pinned (OpenSpec.ofChange callTableSpec)

/-- ITS FALSE NEIGHBOUR: 'it returns false'. Refute it at one input. -/
def callTableWrong : ChangeSpec := { name := "callTable", fn := fun _ => fun
  | [d1, d2] => { results := [.lit (.bool false)], args := [d1, d2] }
  | _ => none }
def CallTableWrongFalsely : Prop := callTableRow.holds Tryd.pinned (OpenSpec.ofChange callTableWrong)

/-- 'parapetlaw26.CallDecodes': WHATEVER THE INPUT: true; the input reads as it did. -/
def callDecodesSpec : ChangeSpec := { name := "callDecodes", fn := fun _ => fun
  | [d] => { results := [.lit (.bool true)], args := [d] }
  | _ => none }
def callDecodesRow : OpenClaim := { program := "ytccobbfinmlgdaadoor", sum := "461f4a5d6a76c474429532054bb5856a85dc51d559a374d11f93f3ed82a252a1", func := "parapet/parapetlaw26.CallDecodes", spec := "callDecodes", recurses := true, named := ["parapet/slab.sizes"], apart := false, laid := [("parapet/slab.sizes", laid_parapet_slab_sizes)] }
def CallDecodesSaid : Prop := callDecodesRow.holds Tryd.pinned (OpenSpec.ofChange callDecodesSpec)

/-- ITS FALSE NEIGHBOUR: 'it returns false'. Refute it at one input. -/
def callDecodesWrong : ChangeSpec := { name := "callDecodes", fn := fun _ => fun
  | [d] => { results := [.lit (.bool false)], args := [d] }
  | _ => none }
def CallDecodesWrongFalsely : Prop := callDecodesRow.holds Tryd.pinned (OpenSpec.ofChange callDecodesWrong)

/-- 'parapetlaw26.CallTells': WHATEVER THE INPUT: true; the input reads as it did. -/
def callTellsSpec : ChangeSpec := { name := "callTells", fn := fun _ => fun
  | [d1, d2, d3] => { results := [.lit (.bool true)], args := [d1, d2, d3] }
  | _ => none }
def callTellsRow : OpenClaim := { program := "ytccobbfinmlgdaadoor", sum := "461f4a5d6a76c474429532054bb5856a85dc51d559a374d11f93f3ed82a252a1", func := "parapet/parapetlaw26.CallTells", spec := "callTells", unfollowed := true, recurses := true, named := ["parapet/slab.sizes"], apart := false, laid := [("parapet/slab.sizes", laid_parapet_slab_sizes)] }
def CallTellsSaid : Prop := callTellsRow.holds Tryd.pinned (OpenSpec.ofChange callTellsSpec)

/-- ITS FALSE NEIGHBOUR: 'it returns false'. Refute it at one input. -/
def callTellsWrong : ChangeSpec := { name := "callTells", fn := fun _ => fun
  | [d1, d2, d3] => { results := [.lit (.bool false)], args := [d1, d2, d3] }
  | _ => none }
def CallTellsWrongFalsely : Prop := callTellsRow.holds Tryd.pinned (OpenSpec.ofChange callTellsWrong)

/-- 'parapetlaw26.CallErrors': WHATEVER THE INPUT: true; the input reads as it did. -/
def callErrorsSpec : ChangeSpec := { name := "callErrors", fn := fun _ => fun
  | [d1, d2] => { results := [.lit (.bool true)], args := [d1, d2] }
  | _ => none }
def callErrorsRow : OpenClaim := { program := "ytccobbfinmlgdaadoor", sum := "461f4a5d6a76c474429532054bb5856a85dc51d559a374d11f93f3ed82a252a1", func := "parapet/parapetlaw26.CallErrors", spec := "callErrors", unfollowed := true, recurses := true, named := ["parapet/slab.sizes"], apart := false, laid := [("parapet/slab.sizes", laid_parapet_slab_sizes)] }
def CallErrorsSaid : Prop := callErrorsRow.holds Tryd.pinned (OpenSpec.ofChange callErrorsSpec)

/-- ITS FALSE NEIGHBOUR: 'it returns false'. Refute it at one input. -/
def callErrorsWrong : ChangeSpec := { name := "callErrors", fn := fun _ => fun
  | [d1, d2] => { results := [.lit (.bool false)], args := [d1, d2] }
  | _ => none }
def CallErrorsWrongFalsely : Prop := callErrorsRow.holds Tryd.pinned (OpenSpec.ofChange callErrorsWrong)

/- THE SECOND FORM. 'bulk': how many values and letters a reading holds, each counted each time it is reached (what is shared counts as often as it is met; a slice's spare places count too). A statement '..UptoSaid' is the law's where the arguments, and the package variables that the reading takes, are together of bulk at most 1048576: NARROWER than '..Said'. Prove '..Said' where nothing that the law and all that it calls make is longer than what came in: it says more and counts as full. Else prove '..UptoSaid'. A law counts once. -/
mutual
def uptoBulk {H : Type} : DataW H → Nat
  | .lit (.string bytes) => bytes.length + 1
  | .lit _ => 1
  | .nil => 1
  | .ptr d => uptoBulk d + 1
  | .slice elems spare => uptoBulkAll elems + uptoBulkAll spare + 1
  | .agg parts => uptoBulkAll parts + 1
  | .iface _ d => uptoBulk d + 1
  | .map entries => uptoBulkEntries entries + 1
  | .held _ => 1
def uptoBulkAll {H : Type} : List (DataW H) → Nat
  | [] => 0
  | d :: r => uptoBulk d + uptoBulkAll r
def uptoBulkEntries {H : Type} : List (Lit × DataW H) → Nat
  | [] => 0
  | x :: r => uptoBulkEntry x + uptoBulkEntries r
def uptoBulkEntry {H : Type} : Lit × DataW H → Nat
  | (.string bytes, d) => bytes.length + uptoBulk d + 1
  | (_, d) => uptoBulk d + 1
 end
def uptoSmall : (H : Type) → List (DataW H) → Bool := fun _ ds => decide (uptoBulkAll ds ≤ 1048576)
def OpenSpec.upto (s : _root_.Go.ChangeSpec) : _root_.Go.OpenSpec := { _root_.Go.OpenSpec.ofChange s with cond := some uptoSmall }

/-- 'parapetlaw26.CallNames', WHERE WHAT IT READS IS OF BULK AT MOST 1048576: true; the input reads as it did. -/
def callNamesUptoRow : OpenClaim := { program := "ytccobbfinmlgdaadoor", sum := "461f4a5d6a76c474429532054bb5856a85dc51d559a374d11f93f3ed82a252a1", func := "parapet/parapetlaw26.CallNames", spec := "callNames", recurses := true, named := ["parapet/slab.sizes"], apart := false, laid := [("parapet/slab.sizes", laid_parapet_slab_sizes)], narrowed := true }
def CallNamesUptoSaid : Prop := callNamesUptoRow.holds Tryd.pinned (OpenSpec.upto callNamesSpec)

/-- 'parapetlaw26.CallTable', WHERE WHAT IT READS IS OF BULK AT MOST 1048576: true; the input reads as it did. -/
def callTableUptoRow : OpenClaim := { program := "ytccobbfinmlgdaadoor", sum := "461f4a5d6a76c474429532054bb5856a85dc51d559a374d11f93f3ed82a252a1", func := "parapet/parapetlaw26.CallTable", spec := "callTable", unfollowed := true, recurses := true, named := ["parapet/slab.sizes"], apart := false, laid := [("parapet/slab.sizes", laid_parapet_slab_sizes)], narrowed := true }
def CallTableUptoSaid : Prop := callTableUptoRow.holds Tryd.pinned (OpenSpec.upto callTableSpec)

/-- 'parapetlaw26.CallDecodes', WHERE WHAT IT READS IS OF BULK AT MOST 1048576: true; the input reads as it did. -/
def callDecodesUptoRow : OpenClaim := { program := "ytccobbfinmlgdaadoor", sum := "461f4a5d6a76c474429532054bb5856a85dc51d559a374d11f93f3ed82a252a1", func := "parapet/parapetlaw26.CallDecodes", spec := "callDecodes", recurses := true, named := ["parapet/slab.sizes"], apart := false, laid := [("parapet/slab.sizes", laid_parapet_slab_sizes)], narrowed := true }
def CallDecodesUptoSaid : Prop := callDecodesUptoRow.holds Tryd.pinned (OpenSpec.upto callDecodesSpec)

/-- 'parapetlaw26.CallTells', WHERE WHAT IT READS IS OF BULK AT MOST 1048576: true; the input reads as it did. -/
def callTellsUptoRow : OpenClaim := { program := "ytccobbfinmlgdaadoor", sum := "461f4a5d6a76c474429532054bb5856a85dc51d559a374d11f93f3ed82a252a1", func := "parapet/parapetlaw26.CallTells", spec := "callTells", unfollowed := true, recurses := true, named := ["parapet/slab.sizes"], apart := false, laid := [("parapet/slab.sizes", laid_parapet_slab_sizes)], narrowed := true }
def CallTellsUptoSaid : Prop := callTellsUptoRow.holds Tryd.pinned (OpenSpec.upto callTellsSpec)

/-- 'parapetlaw26.CallErrors', WHERE WHAT IT READS IS OF BULK AT MOST 1048576: true; the input reads as it did. -/
def callErrorsUptoRow : OpenClaim := { program := "ytccobbfinmlgdaadoor", sum := "461f4a5d6a76c474429532054bb5856a85dc51d559a374d11f93f3ed82a252a1", func := "parapet/parapetlaw26.CallErrors", spec := "callErrors", unfollowed := true, recurses := true, named := ["parapet/slab.sizes"], apart := false, laid := [("parapet/slab.sizes", laid_parapet_slab_sizes)], narrowed := true }
def CallErrorsUptoSaid : Prop := callErrorsUptoRow.holds Tryd.pinned (OpenSpec.upto callErrorsSpec)

end Rows
end Go.Proofs.YtccobbfinmlgdaaDoor
