/-
  No cell of these rows narrows 'for every input' (looked for: loops, veiled, ifaces, maps, wideKeys, modest, calm, conditions, laid).
  DERIVED. THE GIVEN ROWS OF THIS SEAT. 4 by the template 'for every input the law returns true; each argument reads behind the call as it read before'; 0 by the template 'total and deterministic' (their statements: YtokclkiidhcffaaTotals.lean).
  GIVEN WITH THE SEED: the statements are not yours to turn. If you find one false, say at which input.
  Laid BY PROGRAM, IN A SANDBOX (cutbox-rows.mjs): the forced cells as the released guide's own fill.sh prints them over the translation 3262746239d3abe3… (all of the seat's roots in one cut). By AI agents, Wed Nov 11 2026. No macro, syntax, notation, axiom, sorry.
-/
import Derived.Test.YtokclkiidhcffaaChecked
import GoSem.Claim
import GoSem.ClaimJoined
import GoSem.ClaimMapViews
import Derived.JoinedTies
import Derived.KernelRfl
namespace Go.Proofs.Ytokclkiidhcffaa
/- THE CELL 'sum', in the pinned program and in every row, IS THE sha256 OF THE DUMP (.gsa) THAT YtokclkiidhcffaaProg.lean LOADS. Nothing in Lean hashes anything: it is a label: what it is worth is what the hold of that sum in a sandbox is worth. -/
noncomputable def Try.pinned : Pinned := { name := "ytokclkiidhcffaa", sum := "3262746239d3abe3f20eb871518acb569a1221c997754845de5164677e722eec", checked := Try.checked }
namespace Rows
def none {H : Type} : Left H := { results := [], args := [] }

/-- 'parapetlaw12.WaitDoes': WHATEVER THE INPUT: true; the input reads as it did. -/
def waitDoesSpec : ChangeSpec := { name := "waitDoes", fn := fun _ => fun
  | [d] => { results := [.lit (.bool true)], args := [d] }
  | _ => none }
def waitDoesRow : OpenClaim := { program := "ytokclkiidhcffaa", sum := "3262746239d3abe3f20eb871518acb569a1221c997754845de5164677e722eec", func := "parapet/parapetlaw12.WaitDoes", spec := "waitDoes", unfollowed := true, recurses := true, plainKeys := false, apart := false }
def WaitDoesSaid : Prop := waitDoesRow.holds Try.pinned (OpenSpec.ofChange waitDoesSpec)

/-- ITS FALSE NEIGHBOUR: 'it returns false'. Refute it at one input. -/
def waitDoesWrong : ChangeSpec := { name := "waitDoes", fn := fun _ => fun
  | [d] => { results := [.lit (.bool false)], args := [d] }
  | _ => none }
def WaitDoesWrongFalsely : Prop := waitDoesRow.holds Try.pinned (OpenSpec.ofChange waitDoesWrong)

/-- 'parapetlaw12.WaitOnce': WHATEVER THE INPUT: true; the input reads as it did. -/
def waitOnceSpec : ChangeSpec := { name := "waitOnce", fn := fun _ => fun
  | [d] => { results := [.lit (.bool true)], args := [d] }
  | _ => none }
def waitOnceRow : OpenClaim := { program := "ytokclkiidhcffaa", sum := "3262746239d3abe3f20eb871518acb569a1221c997754845de5164677e722eec", func := "parapet/parapetlaw12.WaitOnce", spec := "waitOnce", unfollowed := true, recurses := true, plainKeys := false, apart := false }
def WaitOnceSaid : Prop := waitOnceRow.holds Try.pinned (OpenSpec.ofChange waitOnceSpec)

/-- ITS FALSE NEIGHBOUR: 'it returns false'. Refute it at one input. -/
def waitOnceWrong : ChangeSpec := { name := "waitOnce", fn := fun _ => fun
  | [d] => { results := [.lit (.bool false)], args := [d] }
  | _ => none }
def WaitOnceWrongFalsely : Prop := waitOnceRow.holds Try.pinned (OpenSpec.ofChange waitOnceWrong)

/-- 'parapetlaw12.WaitFair': WHATEVER THE INPUT: true; the input reads as it did. -/
def waitFairSpec : ChangeSpec := { name := "waitFair", fn := fun _ => fun
  | [d1, d2, d3] => { results := [.lit (.bool true)], args := [d1, d2, d3] }
  | _ => none }
def waitFairRow : OpenClaim := { program := "ytokclkiidhcffaa", sum := "3262746239d3abe3f20eb871518acb569a1221c997754845de5164677e722eec", func := "parapet/parapetlaw12.WaitFair", spec := "waitFair", plainKeys := false, apart := false }
def WaitFairSaid : Prop := waitFairRow.holds Try.pinned (OpenSpec.ofChange waitFairSpec)

/-- ITS FALSE NEIGHBOUR: 'it returns false'. Refute it at one input. -/
def waitFairWrong : ChangeSpec := { name := "waitFair", fn := fun _ => fun
  | [d1, d2, d3] => { results := [.lit (.bool false)], args := [d1, d2, d3] }
  | _ => none }
def WaitFairWrongFalsely : Prop := waitFairRow.holds Try.pinned (OpenSpec.ofChange waitFairWrong)

/-- 'parapetlaw12.WaitNobody': WHATEVER THE INPUT: true; the input reads as it did. -/
def waitNobodySpec : ChangeSpec := { name := "waitNobody", fn := fun _ => fun
  | [d] => { results := [.lit (.bool true)], args := [d] }
  | _ => none }
def waitNobodyRow : OpenClaim := { program := "ytokclkiidhcffaa", sum := "3262746239d3abe3f20eb871518acb569a1221c997754845de5164677e722eec", func := "parapet/parapetlaw12.WaitNobody", spec := "waitNobody", unfollowed := true, recurses := true, plainKeys := false, apart := false }
def WaitNobodySaid : Prop := waitNobodyRow.holds Try.pinned (OpenSpec.ofChange waitNobodySpec)

/-- ITS FALSE NEIGHBOUR: 'it returns false'. Refute it at one input. -/
def waitNobodyWrong : ChangeSpec := { name := "waitNobody", fn := fun _ => fun
  | [d] => { results := [.lit (.bool false)], args := [d] }
  | _ => none }
def WaitNobodyWrongFalsely : Prop := waitNobodyRow.holds Try.pinned (OpenSpec.ofChange waitNobodyWrong)

/- THE SECOND FORM. 'bulk': how many values and letters a reading holds, each counted each time it is reached (what is shared counts as often as it is met; a slice's spare places count too). A statement '..UptoSaid' is the law's where the arguments, and the package variables that the reading takes, are together of bulk at most 1048576: NARROWER than '..Said'. Prove '..Said' where nothing that the law and all that it calls make is longer than what came in: it says more and counts as full. Else prove '..UptoSaid'. A law counts once. -/
mutual
def uptoBulk {H : Type} : DataW H → Nat
  | .lit (.string bytes) => bytes.length + 1
  | .lit _ => 1
  | .nil => 1
  | .ptr d => uptoBulk d + 1
  | .slice elems spare => uptoBulkAll elems + uptoBulkAll spare + 1
  | .agg parts => uptoBulkAll parts + 1
  | .iface _ d => uptoBulk d + 1
  | .map entries => uptoBulkEntries entries + 1
  | .held _ => 1
def uptoBulkAll {H : Type} : List (DataW H) → Nat
  | [] => 0
  | d :: r => uptoBulk d + uptoBulkAll r
def uptoBulkEntries {H : Type} : List (Lit × DataW H) → Nat
  | [] => 0
  | x :: r => uptoBulkEntry x + uptoBulkEntries r
def uptoBulkEntry {H : Type} : Lit × DataW H → Nat
  | (.string bytes, d) => bytes.length + uptoBulk d + 1
  | (_, d) => uptoBulk d + 1
 end
def uptoSmall : (H : Type) → List (DataW H) → Bool := fun _ ds => decide (uptoBulkAll ds ≤ 1048576)
def OpenSpec.upto (s : _root_.Go.ChangeSpec) : _root_.Go.OpenSpec := { _root_.Go.OpenSpec.ofChange s with cond := some uptoSmall }

/-- 'parapetlaw12.WaitDoes', WHERE WHAT IT READS IS OF BULK AT MOST 1048576: true; the input reads as it did. -/
def waitDoesUptoRow : OpenClaim := { program := "ytokclkiidhcffaa", sum := "3262746239d3abe3f20eb871518acb569a1221c997754845de5164677e722eec", func := "parapet/parapetlaw12.WaitDoes", spec := "waitDoes", unfollowed := true, recurses := true, plainKeys := false, apart := false, narrowed := true }
def WaitDoesUptoSaid : Prop := waitDoesUptoRow.holds Try.pinned (OpenSpec.upto waitDoesSpec)

/-- 'parapetlaw12.WaitOnce', WHERE WHAT IT READS IS OF BULK AT MOST 1048576: true; the input reads as it did. -/
def waitOnceUptoRow : OpenClaim := { program := "ytokclkiidhcffaa", sum := "3262746239d3abe3f20eb871518acb569a1221c997754845de5164677e722eec", func := "parapet/parapetlaw12.WaitOnce", spec := "waitOnce", unfollowed := true, recurses := true, plainKeys := false, apart := false, narrowed := true }
def WaitOnceUptoSaid : Prop := waitOnceUptoRow.holds Try.pinned (OpenSpec.upto waitOnceSpec)

/-- 'parapetlaw12.WaitFair', WHERE WHAT IT READS IS OF BULK AT MOST 1048576: true; the input reads as it did. -/
def waitFairUptoRow : OpenClaim := { program := "ytokclkiidhcffaa", sum := "3262746239d3abe3f20eb871518acb569a1221c997754845de5164677e722eec", func := "parapet/parapetlaw12.WaitFair", spec := "waitFair", plainKeys := false, apart := false, narrowed := true }
def WaitFairUptoSaid : Prop := waitFairUptoRow.holds Try.pinned (OpenSpec.upto waitFairSpec)

/-- 'parapetlaw12.WaitNobody', WHERE WHAT IT READS IS OF BULK AT MOST 1048576: true; the input reads as it did. -/
def waitNobodyUptoRow : OpenClaim := { program := "ytokclkiidhcffaa", sum := "3262746239d3abe3f20eb871518acb569a1221c997754845de5164677e722eec", func := "parapet/parapetlaw12.WaitNobody", spec := "waitNobody", unfollowed := true, recurses := true, plainKeys := false, apart := false, narrowed := true }
def WaitNobodyUptoSaid : Prop := waitNobodyUptoRow.holds Try.pinned (OpenSpec.upto waitNobodySpec)

end Rows
end Go.Proofs.Ytokclkiidhcffaa
