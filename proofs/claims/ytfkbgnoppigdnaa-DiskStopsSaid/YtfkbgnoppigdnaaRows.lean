/-
  No cell of these rows narrows 'for every input' (looked for: loops, veiled, ifaces, maps, wideKeys, modest, calm, conditions, laid).
  DERIVED. THE GIVEN ROWS OF THIS SEAT. 10 by the template 'for every input the law returns true; each argument reads behind the call as it read before'; 0 by the template 'total and deterministic' (their statements: YtfkbgnoppigdnaaTotals.lean).
  GIVEN WITH THE SEED: the statements are not yours to turn. If you find one false, say at which input.
  Laid BY PROGRAM, IN A SANDBOX (cutbox-rows.mjs): the forced cells as the released guide's own fill.sh prints them over the translation f8b94923adb7bcb7… (all of the seat's roots in one cut). By AI agents, Wed Nov 11 2026. No macro, syntax, notation, axiom, sorry.
-/
import Derived.Test.YtfkbgnoppigdnaaChecked
import GoSem.Claim
import GoSem.ClaimJoined
import GoSem.ClaimMapViews
import Derived.JoinedTies
import Derived.KernelRfl
namespace Go.Proofs.Ytfkbgnoppigdnaa
/- THE CELL 'sum', in the pinned program and in every row, IS THE sha256 OF THE DUMP (.gsa) THAT YtfkbgnoppigdnaaProg.lean LOADS. Nothing in Lean hashes anything: it is a label: what it is worth is what the hold of that sum in a sandbox is worth. -/
noncomputable def Try.pinned : Pinned := { name := "ytfkbgnoppigdnaa", sum := "f8b94923adb7bcb7b006d74c41f136545036c57efe2963bef29b0cdf0b593195", checked := Try.checked }
namespace Rows
def none {H : Type} : Left H := { results := [], args := [] }

/-- 'parapetlaw01.PhysPlays': WHATEVER THE INPUT: true; the input reads as it did. -/
def physPlaysSpec : ChangeSpec := { name := "physPlays", fn := fun _ => fun
  | [d1, d2] => { results := [.lit (.bool true)], args := [d1, d2] }
  | _ => none }
def physPlaysRow : OpenClaim := { program := "ytfkbgnoppigdnaa", sum := "f8b94923adb7bcb7b006d74c41f136545036c57efe2963bef29b0cdf0b593195", func := "parapet/parapetlaw01.PhysPlays", spec := "physPlays", apart := false }
def PhysPlaysSaid : Prop := physPlaysRow.holds Try.pinned (OpenSpec.ofChange physPlaysSpec)

/-- ITS FALSE NEIGHBOUR: 'it returns false'. Refute it at one input. -/
def physPlaysWrong : ChangeSpec := { name := "physPlays", fn := fun _ => fun
  | [d1, d2] => { results := [.lit (.bool false)], args := [d1, d2] }
  | _ => none }
def PhysPlaysWrongFalsely : Prop := physPlaysRow.holds Try.pinned (OpenSpec.ofChange physPlaysWrong)

/-- 'parapetlaw01.PhysWords': WHATEVER THE INPUT: true; the input reads as it did. -/
def physWordsSpec : ChangeSpec := { name := "physWords", fn := fun _ => fun
  | [d1, d2, d3] => { results := [.lit (.bool true)], args := [d1, d2, d3] }
  | _ => none }
def physWordsRow : OpenClaim := { program := "ytfkbgnoppigdnaa", sum := "f8b94923adb7bcb7b006d74c41f136545036c57efe2963bef29b0cdf0b593195", func := "parapet/parapetlaw01.PhysWords", spec := "physWords", apart := false }
def PhysWordsSaid : Prop := physWordsRow.holds Try.pinned (OpenSpec.ofChange physWordsSpec)

/-- ITS FALSE NEIGHBOUR: 'it returns false'. Refute it at one input. -/
def physWordsWrong : ChangeSpec := { name := "physWords", fn := fun _ => fun
  | [d1, d2, d3] => { results := [.lit (.bool false)], args := [d1, d2, d3] }
  | _ => none }
def PhysWordsWrongFalsely : Prop := physWordsRow.holds Try.pinned (OpenSpec.ofChange physWordsWrong)

/-- 'parapetlaw01.PhysOnce': WHATEVER THE INPUT: true; the input reads as it did. -/
def physOnceSpec : ChangeSpec := { name := "physOnce", fn := fun _ => fun
  | [d1, d2, d3] => { results := [.lit (.bool true)], args := [d1, d2, d3] }
  | _ => none }
def physOnceRow : OpenClaim := { program := "ytfkbgnoppigdnaa", sum := "f8b94923adb7bcb7b006d74c41f136545036c57efe2963bef29b0cdf0b593195", func := "parapet/parapetlaw01.PhysOnce", spec := "physOnce", apart := false }
def PhysOnceSaid : Prop := physOnceRow.holds Try.pinned (OpenSpec.ofChange physOnceSpec)

/-- ITS FALSE NEIGHBOUR: 'it returns false'. Refute it at one input. -/
def physOnceWrong : ChangeSpec := { name := "physOnce", fn := fun _ => fun
  | [d1, d2, d3] => { results := [.lit (.bool false)], args := [d1, d2, d3] }
  | _ => none }
def PhysOnceWrongFalsely : Prop := physOnceRow.holds Try.pinned (OpenSpec.ofChange physOnceWrong)

/-- 'parapetlaw01.PhysNobody': WHATEVER THE INPUT: true; the input reads as it did. -/
def physNobodySpec : ChangeSpec := { name := "physNobody", fn := fun _ => fun
  | [d1, d2, d3] => { results := [.lit (.bool true)], args := [d1, d2, d3] }
  | _ => none }
def physNobodyRow : OpenClaim := { program := "ytfkbgnoppigdnaa", sum := "f8b94923adb7bcb7b006d74c41f136545036c57efe2963bef29b0cdf0b593195", func := "parapet/parapetlaw01.PhysNobody", spec := "physNobody", apart := false }
def PhysNobodySaid : Prop := physNobodyRow.holds Try.pinned (OpenSpec.ofChange physNobodySpec)

/-- ITS FALSE NEIGHBOUR: 'it returns false'. Refute it at one input. -/
def physNobodyWrong : ChangeSpec := { name := "physNobody", fn := fun _ => fun
  | [d1, d2, d3] => { results := [.lit (.bool false)], args := [d1, d2, d3] }
  | _ => none }
def PhysNobodyWrongFalsely : Prop := physNobodyRow.holds Try.pinned (OpenSpec.ofChange physNobodyWrong)

/-- 'parapetlaw02.DiskDoes': WHATEVER THE INPUT: true; the input reads as it did. -/
def diskDoesSpec : ChangeSpec := { name := "diskDoes", fn := fun _ => fun
  | [d1, d2] => { results := [.lit (.bool true)], args := [d1, d2] }
  | _ => none }
def diskDoesRow : OpenClaim := { program := "ytfkbgnoppigdnaa", sum := "f8b94923adb7bcb7b006d74c41f136545036c57efe2963bef29b0cdf0b593195", func := "parapet/parapetlaw02.DiskDoes", spec := "diskDoes", inPlace := ["maps.clone"], apart := false }
def DiskDoesSaid : Prop := diskDoesRow.holds Try.pinned (OpenSpec.ofChange diskDoesSpec)

/-- ITS FALSE NEIGHBOUR: 'it returns false'. Refute it at one input. -/
def diskDoesWrong : ChangeSpec := { name := "diskDoes", fn := fun _ => fun
  | [d1, d2] => { results := [.lit (.bool false)], args := [d1, d2] }
  | _ => none }
def DiskDoesWrongFalsely : Prop := diskDoesRow.holds Try.pinned (OpenSpec.ofChange diskDoesWrong)

/-- 'parapetlaw02.DiskLoads': WHATEVER THE INPUT: true; the input reads as it did. -/
def diskLoadsSpec : ChangeSpec := { name := "diskLoads", fn := fun _ => fun
  | [d] => { results := [.lit (.bool true)], args := [d] }
  | _ => none }
def diskLoadsRow : OpenClaim := { program := "ytfkbgnoppigdnaa", sum := "f8b94923adb7bcb7b006d74c41f136545036c57efe2963bef29b0cdf0b593195", func := "parapet/parapetlaw02.DiskLoads", spec := "diskLoads", apart := false }
def DiskLoadsSaid : Prop := diskLoadsRow.holds Try.pinned (OpenSpec.ofChange diskLoadsSpec)

/-- ITS FALSE NEIGHBOUR: 'it returns false'. Refute it at one input. -/
def diskLoadsWrong : ChangeSpec := { name := "diskLoads", fn := fun _ => fun
  | [d] => { results := [.lit (.bool false)], args := [d] }
  | _ => none }
def DiskLoadsWrongFalsely : Prop := diskLoadsRow.holds Try.pinned (OpenSpec.ofChange diskLoadsWrong)

/-- 'parapetlaw02.DiskFlushed': WHATEVER THE INPUT: true; the input reads as it did. -/
def diskFlushedSpec : ChangeSpec := { name := "diskFlushed", fn := fun _ => fun
  | [d1, d2, d3] => { results := [.lit (.bool true)], args := [d1, d2, d3] }
  | _ => none }
def diskFlushedRow : OpenClaim := { program := "ytfkbgnoppigdnaa", sum := "f8b94923adb7bcb7b006d74c41f136545036c57efe2963bef29b0cdf0b593195", func := "parapet/parapetlaw02.DiskFlushed", spec := "diskFlushed", apart := false }
def DiskFlushedSaid : Prop := diskFlushedRow.holds Try.pinned (OpenSpec.ofChange diskFlushedSpec)

/-- ITS FALSE NEIGHBOUR: 'it returns false'. Refute it at one input. -/
def diskFlushedWrong : ChangeSpec := { name := "diskFlushed", fn := fun _ => fun
  | [d1, d2, d3] => { results := [.lit (.bool false)], args := [d1, d2, d3] }
  | _ => none }
def DiskFlushedWrongFalsely : Prop := diskFlushedRow.holds Try.pinned (OpenSpec.ofChange diskFlushedWrong)

/-- 'parapetlaw02.DiskTorn': WHATEVER THE INPUT: true; the input reads as it did. -/
def diskTornSpec : ChangeSpec := { name := "diskTorn", fn := fun _ => fun
  | [d1, d2, d3] => { results := [.lit (.bool true)], args := [d1, d2, d3] }
  | _ => none }
def diskTornRow : OpenClaim := { program := "ytfkbgnoppigdnaa", sum := "f8b94923adb7bcb7b006d74c41f136545036c57efe2963bef29b0cdf0b593195", func := "parapet/parapetlaw02.DiskTorn", spec := "diskTorn", apart := false }
def DiskTornSaid : Prop := diskTornRow.holds Try.pinned (OpenSpec.ofChange diskTornSpec)

/-- ITS FALSE NEIGHBOUR: 'it returns false'. Refute it at one input. -/
def diskTornWrong : ChangeSpec := { name := "diskTorn", fn := fun _ => fun
  | [d1, d2, d3] => { results := [.lit (.bool false)], args := [d1, d2, d3] }
  | _ => none }
def DiskTornWrongFalsely : Prop := diskTornRow.holds Try.pinned (OpenSpec.ofChange diskTornWrong)

/-- 'parapetlaw02.DiskStops': WHATEVER THE INPUT: true; the input reads as it did. -/
def diskStopsSpec : ChangeSpec := { name := "diskStops", fn := fun _ => fun
  | [d1, d2, d3, d4] => { results := [.lit (.bool true)], args := [d1, d2, d3, d4] }
  | _ => none }
def diskStopsRow : OpenClaim := { program := "ytfkbgnoppigdnaa", sum := "f8b94923adb7bcb7b006d74c41f136545036c57efe2963bef29b0cdf0b593195", func := "parapet/parapetlaw02.DiskStops", spec := "diskStops", apart := false }
def DiskStopsSaid : Prop := diskStopsRow.holds Try.pinned (OpenSpec.ofChange diskStopsSpec)

/-- ITS FALSE NEIGHBOUR: 'it returns false'. Refute it at one input. -/
def diskStopsWrong : ChangeSpec := { name := "diskStops", fn := fun _ => fun
  | [d1, d2, d3, d4] => { results := [.lit (.bool false)], args := [d1, d2, d3, d4] }
  | _ => none }
def DiskStopsWrongFalsely : Prop := diskStopsRow.holds Try.pinned (OpenSpec.ofChange diskStopsWrong)

/-- 'parapetlaw02.DiskNobody': WHATEVER THE INPUT: true; the input reads as it did. -/
def diskNobodySpec : ChangeSpec := { name := "diskNobody", fn := fun _ => fun
  | [d1, d2] => { results := [.lit (.bool true)], args := [d1, d2] }
  | _ => none }
def diskNobodyRow : OpenClaim := { program := "ytfkbgnoppigdnaa", sum := "f8b94923adb7bcb7b006d74c41f136545036c57efe2963bef29b0cdf0b593195", func := "parapet/parapetlaw02.DiskNobody", spec := "diskNobody", inPlace := ["maps.clone"], apart := false }
def DiskNobodySaid : Prop := diskNobodyRow.holds Try.pinned (OpenSpec.ofChange diskNobodySpec)

/-- ITS FALSE NEIGHBOUR: 'it returns false'. Refute it at one input. -/
def diskNobodyWrong : ChangeSpec := { name := "diskNobody", fn := fun _ => fun
  | [d1, d2] => { results := [.lit (.bool false)], args := [d1, d2] }
  | _ => none }
def DiskNobodyWrongFalsely : Prop := diskNobodyRow.holds Try.pinned (OpenSpec.ofChange diskNobodyWrong)

/- THE SECOND FORM. 'bulk': how many values and letters a reading holds, each counted each time it is reached (what is shared counts as often as it is met; a slice's spare places count too). A statement '..UptoSaid' is the law's where the arguments, and the package variables that the reading takes, are together of bulk at most 1048576: NARROWER than '..Said'. Prove '..Said' where nothing that the law and all that it calls make is longer than what came in: it says more and counts as full. Else prove '..UptoSaid'. A law counts once. -/
mutual
def uptoBulk {H : Type} : DataW H → Nat
  | .lit (.string bytes) => bytes.length + 1
  | .lit _ => 1
  | .nil => 1
  | .ptr d => uptoBulk d + 1
  | .slice elems spare => uptoBulkAll elems + uptoBulkAll spare + 1
  | .agg parts => uptoBulkAll parts + 1
  | .iface _ d => uptoBulk d + 1
  | .map entries => uptoBulkEntries entries + 1
  | .held _ => 1
def uptoBulkAll {H : Type} : List (DataW H) → Nat
  | [] => 0
  | d :: r => uptoBulk d + uptoBulkAll r
def uptoBulkEntries {H : Type} : List (Lit × DataW H) → Nat
  | [] => 0
  | x :: r => uptoBulkEntry x + uptoBulkEntries r
def uptoBulkEntry {H : Type} : Lit × DataW H → Nat
  | (.string bytes, d) => bytes.length + uptoBulk d + 1
  | (_, d) => uptoBulk d + 1
 end
def uptoSmall : (H : Type) → List (DataW H) → Bool := fun _ ds => decide (uptoBulkAll ds ≤ 1048576)
def OpenSpec.upto (s : _root_.Go.ChangeSpec) : _root_.Go.OpenSpec := { _root_.Go.OpenSpec.ofChange s with cond := some uptoSmall }

/-- 'parapetlaw01.PhysPlays', WHERE WHAT IT READS IS OF BULK AT MOST 1048576: true; the input reads as it did. -/
def physPlaysUptoRow : OpenClaim := { program := "ytfkbgnoppigdnaa", sum := "f8b94923adb7bcb7b006d74c41f136545036c57efe2963bef29b0cdf0b593195", func := "parapet/parapetlaw01.PhysPlays", spec := "physPlays", apart := false, narrowed := true }
def PhysPlaysUptoSaid : Prop := physPlaysUptoRow.holds Try.pinned (OpenSpec.upto physPlaysSpec)

/-- 'parapetlaw01.PhysWords', WHERE WHAT IT READS IS OF BULK AT MOST 1048576: true; the input reads as it did. -/
def physWordsUptoRow : OpenClaim := { program := "ytfkbgnoppigdnaa", sum := "f8b94923adb7bcb7b006d74c41f136545036c57efe2963bef29b0cdf0b593195", func := "parapet/parapetlaw01.PhysWords", spec := "physWords", apart := false, narrowed := true }
def PhysWordsUptoSaid : Prop := physWordsUptoRow.holds Try.pinned (OpenSpec.upto physWordsSpec)

/-- 'parapetlaw01.PhysOnce', WHERE WHAT IT READS IS OF BULK AT MOST 1048576: true; the input reads as it did. -/
def physOnceUptoRow : OpenClaim := { program := "ytfkbgnoppigdnaa", sum := "f8b94923adb7bcb7b006d74c41f136545036c57efe2963bef29b0cdf0b593195", func := "parapet/parapetlaw01.PhysOnce", spec := "physOnce", apart := false, narrowed := true }
def PhysOnceUptoSaid : Prop := physOnceUptoRow.holds Try.pinned (OpenSpec.upto physOnceSpec)

/-- 'parapetlaw01.PhysNobody', WHERE WHAT IT READS IS OF BULK AT MOST 1048576: true; the input reads as it did. -/
def physNobodyUptoRow : OpenClaim := { program := "ytfkbgnoppigdnaa", sum := "f8b94923adb7bcb7b006d74c41f136545036c57efe2963bef29b0cdf0b593195", func := "parapet/parapetlaw01.PhysNobody", spec := "physNobody", apart := false, narrowed := true }
def PhysNobodyUptoSaid : Prop := physNobodyUptoRow.holds Try.pinned (OpenSpec.upto physNobodySpec)

/-- 'parapetlaw02.DiskDoes', WHERE WHAT IT READS IS OF BULK AT MOST 1048576: true; the input reads as it did. -/
def diskDoesUptoRow : OpenClaim := { program := "ytfkbgnoppigdnaa", sum := "f8b94923adb7bcb7b006d74c41f136545036c57efe2963bef29b0cdf0b593195", func := "parapet/parapetlaw02.DiskDoes", spec := "diskDoes", inPlace := ["maps.clone"], apart := false, narrowed := true }
def DiskDoesUptoSaid : Prop := diskDoesUptoRow.holds Try.pinned (OpenSpec.upto diskDoesSpec)

/-- 'parapetlaw02.DiskLoads', WHERE WHAT IT READS IS OF BULK AT MOST 1048576: true; the input reads as it did. -/
def diskLoadsUptoRow : OpenClaim := { program := "ytfkbgnoppigdnaa", sum := "f8b94923adb7bcb7b006d74c41f136545036c57efe2963bef29b0cdf0b593195", func := "parapet/parapetlaw02.DiskLoads", spec := "diskLoads", apart := false, narrowed := true }
def DiskLoadsUptoSaid : Prop := diskLoadsUptoRow.holds Try.pinned (OpenSpec.upto diskLoadsSpec)

/-- 'parapetlaw02.DiskFlushed', WHERE WHAT IT READS IS OF BULK AT MOST 1048576: true; the input reads as it did. -/
def diskFlushedUptoRow : OpenClaim := { program := "ytfkbgnoppigdnaa", sum := "f8b94923adb7bcb7b006d74c41f136545036c57efe2963bef29b0cdf0b593195", func := "parapet/parapetlaw02.DiskFlushed", spec := "diskFlushed", apart := false, narrowed := true }
def DiskFlushedUptoSaid : Prop := diskFlushedUptoRow.holds Try.pinned (OpenSpec.upto diskFlushedSpec)

/-- 'parapetlaw02.DiskTorn', WHERE WHAT IT READS IS OF BULK AT MOST 1048576: true; the input reads as it did. -/
def diskTornUptoRow : OpenClaim := { program := "ytfkbgnoppigdnaa", sum := "f8b94923adb7bcb7b006d74c41f136545036c57efe2963bef29b0cdf0b593195", func := "parapet/parapetlaw02.DiskTorn", spec := "diskTorn", apart := false, narrowed := true }
def DiskTornUptoSaid : Prop := diskTornUptoRow.holds Try.pinned (OpenSpec.upto diskTornSpec)

/-- 'parapetlaw02.DiskStops', WHERE WHAT IT READS IS OF BULK AT MOST 1048576: true; the input reads as it did. -/
def diskStopsUptoRow : OpenClaim := { program := "ytfkbgnoppigdnaa", sum := "f8b94923adb7bcb7b006d74c41f136545036c57efe2963bef29b0cdf0b593195", func := "parapet/parapetlaw02.DiskStops", spec := "diskStops", apart := false, narrowed := true }
def DiskStopsUptoSaid : Prop := diskStopsUptoRow.holds Try.pinned (OpenSpec.upto diskStopsSpec)

/-- 'parapetlaw02.DiskNobody', WHERE WHAT IT READS IS OF BULK AT MOST 1048576: true; the input reads as it did. -/
def diskNobodyUptoRow : OpenClaim := { program := "ytfkbgnoppigdnaa", sum := "f8b94923adb7bcb7b006d74c41f136545036c57efe2963bef29b0cdf0b593195", func := "parapet/parapetlaw02.DiskNobody", spec := "diskNobody", inPlace := ["maps.clone"], apart := false, narrowed := true }
def DiskNobodyUptoSaid : Prop := diskNobodyUptoRow.holds Try.pinned (OpenSpec.upto diskNobodySpec)

end Rows
end Go.Proofs.Ytfkbgnoppigdnaa
