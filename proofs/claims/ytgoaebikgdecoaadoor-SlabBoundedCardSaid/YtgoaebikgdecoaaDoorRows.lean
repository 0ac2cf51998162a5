/-
  NARROWER THAN 'FOR EVERY INPUT', by the rows' own cells (each row's printed sentence says how): SlabDoes: laid · SlabReserved: laid · SlabBounded: laid · SlabNobody: laid.
  DERIVED. THE GIVEN ROWS OF THIS SEAT. 4 by the template 'for every input the law returns true; each argument reads behind the call as it read before'; 0 by the template 'total and deterministic' (their statements: YtgoaebikgdecoaaDoorTotals.lean).
  GIVEN WITH THE SEED: the statements are not yours to turn. If you find one false, say at which input.
  Laid BY PROGRAM, IN A SANDBOX (cutbox-rows.mjs): the forced cells as the released guide's own fill.sh prints them over the translation c7db3490243c544e… (all of the seat's roots in one cut). By AI agents, Wed Nov 11 2026. No macro, syntax, notation, axiom, sorry.
-/
import Derived.Test.YtgoaebikgdecoaaDoorChecked
import GoSem.Claim
import GoSem.ClaimJoined
import GoSem.ClaimMapViews
import Derived.JoinedTies
import Derived.KernelRfl
namespace Go.Proofs.YtgoaebikgdecoaaDoor
/- THE CELL 'sum', in the pinned program and in every row, IS THE sha256 OF THE DUMP (.gsa) THAT YtgoaebikgdecoaaDoorProg.lean LOADS. Nothing in Lean hashes anything: it is a label: what it is worth is what the hold of that sum in a sandbox is worth. -/
noncomputable def Tryd.pinned : Pinned := { name := "ytgoaebikgdecoaadoor", sum := "c7db3490243c544e8af321a6e5b9e1c197b7b769ea6e983f215bfb001eaaacc3", checked := Tryd.checked }
namespace Rows
def none {H : Type} : Left H := { results := [], args := [] }

/- WHAT THE LISTED PACKAGE-LEVEL VARIABLES READ AS WHEN THE CALL BEGINS. Each datum BY PROGRAM (the guide's laid-datum.mjs) off the statement by which the dump's own 'gosem.cut.vars' lays the variable. In a bare row this is a premise. The card (YtgoaebikgdecoaaDoorCards.lean) ties it to the program's text. -/
def laid_math_bits_deBruijn64tab {H : Type} : DataW H := .agg [.lit (.int .u8 0), .lit (.int .u8 1), .lit (.int .u8 56), .lit (.int .u8 2), .lit (.int .u8 57), .lit (.int .u8 49), .lit (.int .u8 28), .lit (.int .u8 3), .lit (.int .u8 61), .lit (.int .u8 58), .lit (.int .u8 42), .lit (.int .u8 50), .lit (.int .u8 38), .lit (.int .u8 29), .lit (.int .u8 17), .lit (.int .u8 4), .lit (.int .u8 62), .lit (.int .u8 47), .lit (.int .u8 59), .lit (.int .u8 36), .lit (.int .u8 45), .lit (.int .u8 43), .lit (.int .u8 51), .lit (.int .u8 22), .lit (.int .u8 53), .lit (.int .u8 39), .lit (.int .u8 33), .lit (.int .u8 30), .lit (.int .u8 24), .lit (.int .u8 18), .lit (.int .u8 12), .lit (.int .u8 5), .lit (.int .u8 63), .lit (.int .u8 55), .lit (.int .u8 48), .lit (.int .u8 27), .lit (.int .u8 60), .lit (.int .u8 41), .lit (.int .u8 37), .lit (.int .u8 16), .lit (.int .u8 46), .lit (.int .u8 35), .lit (.int .u8 44), .lit (.int .u8 21), .lit (.int .u8 52), .lit (.int .u8 32), .lit (.int .u8 23), .lit (.int .u8 11), .lit (.int .u8 54), .lit (.int .u8 26), .lit (.int .u8 40), .lit (.int .u8 15), .lit (.int .u8 34), .lit (.int .u8 20), .lit (.int .u8 31), .lit (.int .u8 10), .lit (.int .u8 25), .lit (.int .u8 14), .lit (.int .u8 19), .lit (.int .u8 9), .lit (.int .u8 13), .lit (.int .u8 8), .lit (.int .u8 7), .lit (.int .u8 6)]
def laid_parapet_slab_sizes {H : Type} : DataW H := .agg [.lit (.int .i64 0), .lit (.int .i64 256), .lit (.int .i64 128), .lit (.int .i64 64), .lit (.int .i64 32), .lit (.int .i64 64), .lit (.int .i64 576), .lit (.int .i64 64), .lit (.int .i64 576), .lit (.int .i64 32), .lit (.int .i64 128)]

/-- 'parapetlaw08.SlabDoes': WHATEVER THE INPUT: true; the input reads as it did. -/
def slabDoesSpec : ChangeSpec := { name := "slabDoes", fn := fun _ => fun
  | [d1, d2] => { results := [.lit (.bool true)], args := [d1, d2] }
  | _ => none }
def slabDoesRow : OpenClaim := { program := "ytgoaebikgdecoaadoor", sum := "c7db3490243c544e8af321a6e5b9e1c197b7b769ea6e983f215bfb001eaaacc3", func := "parapet/parapetlaw08.SlabDoes", spec := "slabDoes", inPlace := ["maps.clone"], unfollowed := true, recurses := true, named := ["parapet/slab.sizes", "math/bits.deBruijn64tab"], apart := false, laid := [("math/bits.deBruijn64tab", laid_math_bits_deBruijn64tab), ("parapet/slab.sizes", laid_parapet_slab_sizes)] }
def SlabDoesSaid : Prop := slabDoesRow.holds Tryd.pinned (OpenSpec.ofChange slabDoesSpec)

/-- ITS FALSE NEIGHBOUR: 'it returns false'. Refute it at one input. -/
def slabDoesWrong : ChangeSpec := { name := "slabDoes", fn := fun _ => fun
  | [d1, d2] => { results := [.lit (.bool false)], args := [d1, d2] }
  | _ => none }
def SlabDoesWrongFalsely : Prop := slabDoesRow.holds Tryd.pinned (OpenSpec.ofChange slabDoesWrong)

/-- 'parapetlaw08.SlabReserved': WHATEVER THE INPUT: true; the input reads as it did. -/
def slabReservedSpec : ChangeSpec := { name := "slabReserved", fn := fun _ => fun
  | [d1, d2, d3] => { results := [.lit (.bool true)], args := [d1, d2, d3] }
  | _ => none }
def slabReservedRow : OpenClaim := { program := "ytgoaebikgdecoaadoor", sum := "c7db3490243c544e8af321a6e5b9e1c197b7b769ea6e983f215bfb001eaaacc3", func := "parapet/parapetlaw08.SlabReserved", spec := "slabReserved", unfollowed := true, recurses := true, named := ["parapet/slab.sizes", "math/bits.deBruijn64tab"], apart := false, laid := [("math/bits.deBruijn64tab", laid_math_bits_deBruijn64tab), ("parapet/slab.sizes", laid_parapet_slab_sizes)] }
def SlabReservedSaid : Prop := slabReservedRow.holds Tryd.pinned (OpenSpec.ofChange slabReservedSpec)

/-- ITS FALSE NEIGHBOUR: 'it returns false'. Refute it at one input. -/
def slabReservedWrong : ChangeSpec := { name := "slabReserved", fn := fun _ => fun
  | [d1, d2, d3] => { results := [.lit (.bool false)], args := [d1, d2, d3] }
  | _ => none }
def SlabReservedWrongFalsely : Prop := slabReservedRow.holds Tryd.pinned (OpenSpec.ofChange slabReservedWrong)

/-- 'parapetlaw08.SlabBounded': WHATEVER THE INPUT: true; the input reads as it did. -/
def slabBoundedSpec : ChangeSpec := { name := "slabBounded", fn := fun _ => fun
  | [d1, d2, d3] => { results := [.lit (.bool true)], args := [d1, d2, d3] }
  | _ => none }
def slabBoundedRow : OpenClaim := { program := "ytgoaebikgdecoaadoor", sum := "c7db3490243c544e8af321a6e5b9e1c197b7b769ea6e983f215bfb001eaaacc3", func := "parapet/parapetlaw08.SlabBounded", spec := "slabBounded", unfollowed := true, recurses := true, named := ["parapet/slab.sizes", "math/bits.deBruijn64tab"], apart := false, laid := [("math/bits.deBruijn64tab", laid_math_bits_deBruijn64tab), ("parapet/slab.sizes", laid_parapet_slab_sizes)] }
def SlabBoundedSaid : Prop := slabBoundedRow.holds Tryd.pinned (OpenSpec.ofChange slabBoundedSpec)

/-- ITS FALSE NEIGHBOUR: 'it returns false'. Refute it at one input. -/
def slabBoundedWrong : ChangeSpec := { name := "slabBounded", fn := fun _ => fun
  | [d1, d2, d3] => { results := [.lit (.bool false)], args := [d1, d2, d3] }
  | _ => none }
def SlabBoundedWrongFalsely : Prop := slabBoundedRow.holds Tryd.pinned (OpenSpec.ofChange slabBoundedWrong)

/-- 'parapetlaw08.SlabNobody': WHATEVER THE INPUT: true; the input reads as it did. -/
def slabNobodySpec : ChangeSpec := { name := "slabNobody", fn := fun _ => fun
  | [d] => { results := [.lit (.bool true)], args := [d] }
  | _ => none }
def slabNobodyRow : OpenClaim := { program := "ytgoaebikgdecoaadoor", sum := "c7db3490243c544e8af321a6e5b9e1c197b7b769ea6e983f215bfb001eaaacc3", func := "parapet/parapetlaw08.SlabNobody", spec := "slabNobody", inPlace := ["maps.clone"], unfollowed := true, recurses := true, named := ["parapet/slab.sizes", "math/bits.deBruijn64tab"], apart := false, laid := [("math/bits.deBruijn64tab", laid_math_bits_deBruijn64tab), ("parapet/slab.sizes", laid_parapet_slab_sizes)] }
def SlabNobodySaid : Prop := slabNobodyRow.holds Tryd.pinned (OpenSpec.ofChange slabNobodySpec)

/-- ITS FALSE NEIGHBOUR: 'it returns false'. Refute it at one input. -/
def slabNobodyWrong : ChangeSpec := { name := "slabNobody", fn := fun _ => fun
  | [d] => { results := [.lit (.bool false)], args := [d] }
  | _ => none }
def SlabNobodyWrongFalsely : Prop := slabNobodyRow.holds Tryd.pinned (OpenSpec.ofChange slabNobodyWrong)

/- THE SECOND FORM. 'bulk': how many values and letters a reading holds, each counted each time it is reached (what is shared counts as often as it is met; a slice's spare places count too). A statement '..UptoSaid' is the law's where the arguments, and the package variables that the reading takes, are together of bulk at most 1048576: NARROWER than '..Said'. Prove '..Said' where nothing that the law and all that it calls make is longer than what came in: it says more and counts as full. Else prove '..UptoSaid'. A law counts once. -/
mutual
def uptoBulk {H : Type} : DataW H → Nat
  | .lit (.string bytes) => bytes.length + 1
  | .lit _ => 1
  | .nil => 1
  | .ptr d => uptoBulk d + 1
  | .slice elems spare => uptoBulkAll elems + uptoBulkAll spare + 1
  | .agg parts => uptoBulkAll parts + 1
  | .iface _ d => uptoBulk d + 1
  | .map entries => uptoBulkEntries entries + 1
  | .held _ => 1
def uptoBulkAll {H : Type} : List (DataW H) → Nat
  | [] => 0
  | d :: r => uptoBulk d + uptoBulkAll r
def uptoBulkEntries {H : Type} : List (Lit × DataW H) → Nat
  | [] => 0
  | x :: r => uptoBulkEntry x + uptoBulkEntries r
def uptoBulkEntry {H : Type} : Lit × DataW H → Nat
  | (.string bytes, d) => bytes.length + uptoBulk d + 1
  | (_, d) => uptoBulk d + 1
 end
def uptoSmall : (H : Type) → List (DataW H) → Bool := fun _ ds => decide (uptoBulkAll ds ≤ 1048576)
def OpenSpec.upto (s : _root_.Go.ChangeSpec) : _root_.Go.OpenSpec := { _root_.Go.OpenSpec.ofChange s with cond := some uptoSmall }

/-- 'parapetlaw08.SlabDoes', WHERE WHAT IT READS IS OF BULK AT MOST 1048576: true; the input reads as it did. -/
def slabDoesUptoRow : OpenClaim := { program := "ytgoaebikgdecoaadoor", sum := "c7db3490243c544e8af321a6e5b9e1c197b7b769ea6e983f215bfb001eaaacc3", func := "parapet/parapetlaw08.SlabDoes", spec := "slabDoes", inPlace := ["maps.clone"], unfollowed := true, recurses := true, named := ["parapet/slab.sizes", "math/bits.deBruijn64tab"], apart := false, laid := [("math/bits.deBruijn64tab", laid_math_bits_deBruijn64tab), ("parapet/slab.sizes", laid_parapet_slab_sizes)], narrowed := true }
def SlabDoesUptoSaid : Prop := slabDoesUptoRow.holds Tryd.pinned (OpenSpec.upto slabDoesSpec)

/-- 'parapetlaw08.SlabReserved', WHERE WHAT IT READS IS OF BULK AT MOST 1048576: true; the input reads as it did. -/
def slabReservedUptoRow : OpenClaim := { program := "ytgoaebikgdecoaadoor", sum := "c7db3490243c544e8af321a6e5b9e1c197b7b769ea6e983f215bfb001eaaacc3", func := "parapet/parapetlaw08.SlabReserved", spec := "slabReserved", unfollowed := true, recurses := true, named := ["parapet/slab.sizes", "math/bits.deBruijn64tab"], apart := false, laid := [("math/bits.deBruijn64tab", laid_math_bits_deBruijn64tab), ("parapet/slab.sizes", laid_parapet_slab_sizes)], narrowed := true }
def SlabReservedUptoSaid : Prop := slabReservedUptoRow.holds Tryd.pinned (OpenSpec.upto slabReservedSpec)

/-- 'parapetlaw08.SlabBounded', WHERE WHAT IT READS IS OF BULK AT MOST 1048576: true; the input reads as it did. -/
def slabBoundedUptoRow : OpenClaim := { program := "ytgoaebikgdecoaadoor", sum := "c7db3490243c544e8af321a6e5b9e1c197b7b769ea6e983f215bfb001eaaacc3", func := "parapet/parapetlaw08.SlabBounded", spec := "slabBounded", unfollowed := true, recurses := true, named := ["parapet/slab.sizes", "math/bits.deBruijn64tab"], apart := false, laid := [("math/bits.deBruijn64tab", laid_math_bits_deBruijn64tab), ("parapet/slab.sizes", laid_parapet_slab_sizes)], narrowed := true }
def SlabBoundedUptoSaid : Prop := slabBoundedUptoRow.holds Tryd.pinned (OpenSpec.upto slabBoundedSpec)

/-- 'parapetlaw08.SlabNobody', WHERE WHAT IT READS IS OF BULK AT MOST 1048576: true; the input reads as it did. -/
def slabNobodyUptoRow : OpenClaim := { program := "ytgoaebikgdecoaadoor", sum := "c7db3490243c544e8af321a6e5b9e1c197b7b769ea6e983f215bfb001eaaacc3", func := "parapet/parapetlaw08.SlabNobody", spec := "slabNobody", inPlace := ["maps.clone"], unfollowed := true, recurses := true, named := ["parapet/slab.sizes", "math/bits.deBruijn64tab"], apart := false, laid := [("math/bits.deBruijn64tab", laid_math_bits_deBruijn64tab), ("parapet/slab.sizes", laid_parapet_slab_sizes)], narrowed := true }
def SlabNobodyUptoSaid : Prop := slabNobodyUptoRow.holds Tryd.pinned (OpenSpec.upto slabNobodySpec)

end Rows
end Go.Proofs.YtgoaebikgdecoaaDoor
