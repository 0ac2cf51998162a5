/-
  No cell of these rows narrows 'for every input' (looked for: loops, veiled, ifaces, maps, wideKeys, modest, calm, conditions, laid).
  DERIVED. THE GIVEN ROWS OF THIS SEAT. 4 by the template 'for every input the law returns true; each argument reads behind the call as it read before'; 0 by the template 'total and deterministic' (their statements: YtdnnilpifnigiaaTotals.lean).
  GIVEN WITH THE SEED: the statements are not yours to turn. If you find one false, say at which input.
  Laid BY PROGRAM, IN A SANDBOX (cutbox-rows.mjs): the forced cells as the released guide's own fill.sh prints them over the translation a2705a68c6bb0350… (all of the seat's roots in one cut). By AI agents, Wed Nov 11 2026. No macro, syntax, notation, axiom, sorry.
-/
import Derived.Test.YtdnnilpifnigiaaChecked
import GoSem.Claim
import GoSem.ClaimJoined
import GoSem.ClaimMapViews
import Derived.JoinedTies
import Derived.KernelRfl
namespace Go.Proofs.Ytdnnilpifnigiaa
/- THE CELL 'sum', in the pinned program and in every row, IS THE sha256 OF THE DUMP (.gsa) THAT YtdnnilpifnigiaaProg.lean LOADS. Nothing in Lean hashes anything: it is a label: what it is worth is what the hold of that sum in a sandbox is worth. -/
noncomputable def Try.pinned : Pinned := { name := "ytdnnilpifnigiaa", sum := "a2705a68c6bb0350ae385849074084332d9818708135cbbf91bad3f081eb387c", checked := Try.checked }
namespace Rows
def none {H : Type} : Left H := { results := [], args := [] }

/-- 'parapetlaw24.ProcDoes': WHATEVER THE INPUT: true; the input reads as it did. -/
def procDoesSpec : ChangeSpec := { name := "procDoes", fn := fun _ => fun
  | [d] => { results := [.lit (.bool true)], args := [d] }
  | _ => none }
def procDoesRow : OpenClaim := { program := "ytdnnilpifnigiaa", sum := "a2705a68c6bb0350ae385849074084332d9818708135cbbf91bad3f081eb387c", func := "parapet/parapetlaw24.ProcDoes", spec := "procDoes", inPlace := ["maps.clone"], unfollowed := true, recurses := true, apart := false }
def ProcDoesSaid : Prop := procDoesRow.holds Try.pinned (OpenSpec.ofChange procDoesSpec)

/-- ITS FALSE NEIGHBOUR: 'it returns false'. Refute it at one input. -/
def procDoesWrong : ChangeSpec := { name := "procDoes", fn := fun _ => fun
  | [d] => { results := [.lit (.bool false)], args := [d] }
  | _ => none }
def ProcDoesWrongFalsely : Prop := procDoesRow.holds Try.pinned (OpenSpec.ofChange procDoesWrong)

/-- 'parapetlaw24.ProcOnce': WHATEVER THE INPUT: true; the input reads as it did. -/
def procOnceSpec : ChangeSpec := { name := "procOnce", fn := fun _ => fun
  | [d] => { results := [.lit (.bool true)], args := [d] }
  | _ => none }
def procOnceRow : OpenClaim := { program := "ytdnnilpifnigiaa", sum := "a2705a68c6bb0350ae385849074084332d9818708135cbbf91bad3f081eb387c", func := "parapet/parapetlaw24.ProcOnce", spec := "procOnce", unfollowed := true, recurses := true, apart := false }
def ProcOnceSaid : Prop := procOnceRow.holds Try.pinned (OpenSpec.ofChange procOnceSpec)

/-- ITS FALSE NEIGHBOUR: 'it returns false'. Refute it at one input. -/
def procOnceWrong : ChangeSpec := { name := "procOnce", fn := fun _ => fun
  | [d] => { results := [.lit (.bool false)], args := [d] }
  | _ => none }
def ProcOnceWrongFalsely : Prop := procOnceRow.holds Try.pinned (OpenSpec.ofChange procOnceWrong)

/-- 'parapetlaw24.ProcNobody': WHATEVER THE INPUT: true; the input reads as it did. -/
def procNobodySpec : ChangeSpec := { name := "procNobody", fn := fun _ => fun
  | [d] => { results := [.lit (.bool true)], args := [d] }
  | _ => none }
def procNobodyRow : OpenClaim := { program := "ytdnnilpifnigiaa", sum := "a2705a68c6bb0350ae385849074084332d9818708135cbbf91bad3f081eb387c", func := "parapet/parapetlaw24.ProcNobody", spec := "procNobody", inPlace := ["maps.clone"], unfollowed := true, recurses := true, apart := false }
def ProcNobodySaid : Prop := procNobodyRow.holds Try.pinned (OpenSpec.ofChange procNobodySpec)

/-- ITS FALSE NEIGHBOUR: 'it returns false'. Refute it at one input. -/
def procNobodyWrong : ChangeSpec := { name := "procNobody", fn := fun _ => fun
  | [d] => { results := [.lit (.bool false)], args := [d] }
  | _ => none }
def ProcNobodyWrongFalsely : Prop := procNobodyRow.holds Try.pinned (OpenSpec.ofChange procNobodyWrong)

/-- 'parapetlaw24.ProcTree': WHATEVER THE INPUT: true; the input reads as it did. -/
def procTreeSpec : ChangeSpec := { name := "procTree", fn := fun _ => fun
  | [d] => { results := [.lit (.bool true)], args := [d] }
  | _ => none }
def procTreeRow : OpenClaim := { program := "ytdnnilpifnigiaa", sum := "a2705a68c6bb0350ae385849074084332d9818708135cbbf91bad3f081eb387c", func := "parapet/parapetlaw24.ProcTree", spec := "procTree", unfollowed := true, recurses := true, apart := false }
def ProcTreeSaid : Prop := procTreeRow.holds Try.pinned (OpenSpec.ofChange procTreeSpec)

/-- ITS FALSE NEIGHBOUR: 'it returns false'. Refute it at one input. -/
def procTreeWrong : ChangeSpec := { name := "procTree", fn := fun _ => fun
  | [d] => { results := [.lit (.bool false)], args := [d] }
  | _ => none }
def ProcTreeWrongFalsely : Prop := procTreeRow.holds Try.pinned (OpenSpec.ofChange procTreeWrong)

/- THE SECOND FORM. 'bulk': how many values and letters a reading holds, each counted each time it is reached (what is shared counts as often as it is met; a slice's spare places count too). A statement '..UptoSaid' is the law's where the arguments, and the package variables that the reading takes, are together of bulk at most 1048576: NARROWER than '..Said'. Prove '..Said' where nothing that the law and all that it calls make is longer than what came in: it says more and counts as full. Else prove '..UptoSaid'. A law counts once. -/
mutual
def uptoBulk {H : Type} : DataW H → Nat
  | .lit (.string bytes) => bytes.length + 1
  | .lit _ => 1
  | .nil => 1
  | .ptr d => uptoBulk d + 1
  | .slice elems spare => uptoBulkAll elems + uptoBulkAll spare + 1
  | .agg parts => uptoBulkAll parts + 1
  | .iface _ d => uptoBulk d + 1
  | .map entries => uptoBulkEntries entries + 1
  | .held _ => 1
def uptoBulkAll {H : Type} : List (DataW H) → Nat
  | [] => 0
  | d :: r => uptoBulk d + uptoBulkAll r
def uptoBulkEntries {H : Type} : List (Lit × DataW H) → Nat
  | [] => 0
  | x :: r => uptoBulkEntry x + uptoBulkEntries r
def uptoBulkEntry {H : Type} : Lit × DataW H → Nat
  | (.string bytes, d) => bytes.length + uptoBulk d + 1
  | (_, d) => uptoBulk d + 1
 end
def uptoSmall : (H : Type) → List (DataW H) → Bool := fun _ ds => decide (uptoBulkAll ds ≤ 1048576)
def OpenSpec.upto (s : _root_.Go.ChangeSpec) : _root_.Go.OpenSpec := { _root_.Go.OpenSpec.ofChange s with cond := some uptoSmall }

/-- 'parapetlaw24.ProcDoes', WHERE WHAT IT READS IS OF BULK AT MOST 1048576: true; the input reads as it did. -/
def procDoesUptoRow : OpenClaim := { program := "ytdnnilpifnigiaa", sum := "a2705a68c6bb0350ae385849074084332d9818708135cbbf91bad3f081eb387c", func := "parapet/parapetlaw24.ProcDoes", spec := "procDoes", inPlace := ["maps.clone"], unfollowed := true, recurses := true, apart := false, narrowed := true }
def ProcDoesUptoSaid : Prop := procDoesUptoRow.holds Try.pinned (OpenSpec.upto procDoesSpec)

/-- 'parapetlaw24.ProcOnce', WHERE WHAT IT READS IS OF BULK AT MOST 1048576: true; the input reads as it did. -/
def procOnceUptoRow : OpenClaim := { program := "ytdnnilpifnigiaa", sum := "a2705a68c6bb0350ae385849074084332d9818708135cbbf91bad3f081eb387c", func := "parapet/parapetlaw24.ProcOnce", spec := "procOnce", unfollowed := true, recurses := true, apart := false, narrowed := true }
def ProcOnceUptoSaid : Prop := procOnceUptoRow.holds Try.pinned (OpenSpec.upto procOnceSpec)

/-- 'parapetlaw24.ProcNobody', WHERE WHAT IT READS IS OF BULK AT MOST 1048576: true; the input reads as it did. -/
def procNobodyUptoRow : OpenClaim := { program := "ytdnnilpifnigiaa", sum := "a2705a68c6bb0350ae385849074084332d9818708135cbbf91bad3f081eb387c", func := "parapet/parapetlaw24.ProcNobody", spec := "procNobody", inPlace := ["maps.clone"], unfollowed := true, recurses := true, apart := false, narrowed := true }
def ProcNobodyUptoSaid : Prop := procNobodyUptoRow.holds Try.pinned (OpenSpec.upto procNobodySpec)

/-- 'parapetlaw24.ProcTree', WHERE WHAT IT READS IS OF BULK AT MOST 1048576: true; the input reads as it did. -/
def procTreeUptoRow : OpenClaim := { program := "ytdnnilpifnigiaa", sum := "a2705a68c6bb0350ae385849074084332d9818708135cbbf91bad3f081eb387c", func := "parapet/parapetlaw24.ProcTree", spec := "procTree", unfollowed := true, recurses := true, apart := false, narrowed := true }
def ProcTreeUptoSaid : Prop := procTreeUptoRow.holds Try.pinned (OpenSpec.upto procTreeSpec)

end Rows
end Go.Proofs.Ytdnnilpifnigiaa
