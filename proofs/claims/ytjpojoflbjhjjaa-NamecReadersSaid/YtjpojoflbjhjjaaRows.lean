/-
  No cell of these rows narrows 'for every input' (looked for: loops, veiled, ifaces, maps, wideKeys, modest, calm, conditions, laid).
  DERIVED. THE GIVEN ROWS OF THIS SEAT. 3 by the template 'for every input the law returns true; each argument reads behind the call as it read before'; 0 by the template 'total and deterministic' (their statements: YtjpojoflbjhjjaaTotals.lean).
  GIVEN WITH THE SEED: the statements are not yours to turn. If you find one false, say at which input.
  Laid BY PROGRAM, IN A SANDBOX (cutbox-rows.mjs): the forced cells as the released guide's own fill.sh prints them over the translation 73006a3af938d113… (all of the seat's roots in one cut). By AI agents, Wed Nov 11 2026. No macro, syntax, notation, axiom, sorry.
-/
import Derived.Test.YtjpojoflbjhjjaaChecked
import GoSem.Claim
import GoSem.ClaimJoined
import GoSem.ClaimMapViews
import Derived.JoinedTies
import Derived.KernelRfl
namespace Go.Proofs.Ytjpojoflbjhjjaa
/- THE CELL 'sum', in the pinned program and in every row, IS THE sha256 OF THE DUMP (.gsa) THAT YtjpojoflbjhjjaaProg.lean LOADS. Nothing in Lean hashes anything: it is a label: what it is worth is what the hold of that sum in a sandbox is worth. -/
noncomputable def Try.pinned : Pinned := { name := "ytjpojoflbjhjjaa", sum := "73006a3af938d113ac7e3aee9d7ba4ab7f87076500730fc486f7a0259cbcfcaa", checked := Try.checked }
namespace Rows
def none {H : Type} : Left H := { results := [], args := [] }

/-- 'parapetlaw19.NamecSplits': WHATEVER THE INPUT: true; the input reads as it did. -/
def namecSplitsSpec : ChangeSpec := { name := "namecSplits", fn := fun _ => fun
  | [d] => { results := [.lit (.bool true)], args := [d] }
  | _ => none }
def namecSplitsRow : OpenClaim := { program := "ytjpojoflbjhjjaa", sum := "73006a3af938d113ac7e3aee9d7ba4ab7f87076500730fc486f7a0259cbcfcaa", func := "parapet/parapetlaw19.NamecSplits", spec := "namecSplits", inPlace := ["internal/bytealg.IndexByteString", "internal/bytealg.IndexString"], unfollowed := true, recurses := true, named := ["internal/bytealg.MaxLen"], plainKeys := false, apart := false }
def NamecSplitsSaid : Prop := namecSplitsRow.holds Try.pinned (OpenSpec.ofChange namecSplitsSpec)

/-- ITS FALSE NEIGHBOUR: 'it returns false'. Refute it at one input. -/
def namecSplitsWrong : ChangeSpec := { name := "namecSplits", fn := fun _ => fun
  | [d] => { results := [.lit (.bool false)], args := [d] }
  | _ => none }
def NamecSplitsWrongFalsely : Prop := namecSplitsRow.holds Try.pinned (OpenSpec.ofChange namecSplitsWrong)

/-- 'parapetlaw19.NamecKeeps': WHATEVER THE INPUT: true; the input reads as it did. -/
def namecKeepsSpec : ChangeSpec := { name := "namecKeeps", fn := fun _ => fun
  | [d1, d2] => { results := [.lit (.bool true)], args := [d1, d2] }
  | _ => none }
def namecKeepsRow : OpenClaim := { program := "ytjpojoflbjhjjaa", sum := "73006a3af938d113ac7e3aee9d7ba4ab7f87076500730fc486f7a0259cbcfcaa", func := "parapet/parapetlaw19.NamecKeeps", spec := "namecKeeps", inPlace := ["internal/bytealg.IndexByteString", "internal/bytealg.IndexString"], unfollowed := true, recurses := true, named := ["internal/bytealg.MaxLen"], plainKeys := false, apart := false }
def NamecKeepsSaid : Prop := namecKeepsRow.holds Try.pinned (OpenSpec.ofChange namecKeepsSpec)

/-- ITS FALSE NEIGHBOUR: 'it returns false'. Refute it at one input. -/
def namecKeepsWrong : ChangeSpec := { name := "namecKeeps", fn := fun _ => fun
  | [d1, d2] => { results := [.lit (.bool false)], args := [d1, d2] }
  | _ => none }
def NamecKeepsWrongFalsely : Prop := namecKeepsRow.holds Try.pinned (OpenSpec.ofChange namecKeepsWrong)

/-- 'parapetlaw19.NamecReaders': WHATEVER THE INPUT: true; the input reads as it did. -/
def namecReadersSpec : ChangeSpec := { name := "namecReaders", fn := fun _ => fun
  | [d] => { results := [.lit (.bool true)], args := [d] }
  | _ => none }
def namecReadersRow : OpenClaim := { program := "ytjpojoflbjhjjaa", sum := "73006a3af938d113ac7e3aee9d7ba4ab7f87076500730fc486f7a0259cbcfcaa", func := "parapet/parapetlaw19.NamecReaders", spec := "namecReaders", inPlace := ["internal/bytealg.IndexByteString", "internal/bytealg.IndexString"], unfollowed := true, recurses := true, named := ["internal/bytealg.MaxLen"], plainKeys := false, apart := false }
def NamecReadersSaid : Prop := namecReadersRow.holds Try.pinned (OpenSpec.ofChange namecReadersSpec)

/-- ITS FALSE NEIGHBOUR: 'it returns false'. Refute it at one input. -/
def namecReadersWrong : ChangeSpec := { name := "namecReaders", fn := fun _ => fun
  | [d] => { results := [.lit (.bool false)], args := [d] }
  | _ => none }
def NamecReadersWrongFalsely : Prop := namecReadersRow.holds Try.pinned (OpenSpec.ofChange namecReadersWrong)

/- THE SECOND FORM. 'bulk': how many values and letters a reading holds, each counted each time it is reached (what is shared counts as often as it is met; a slice's spare places count too). A statement '..UptoSaid' is the law's where the arguments, and the package variables that the reading takes, are together of bulk at most 1048576: NARROWER than '..Said'. Prove '..Said' where nothing that the law and all that it calls make is longer than what came in: it says more and counts as full. Else prove '..UptoSaid'. A law counts once. -/
mutual
def uptoBulk {H : Type} : DataW H → Nat
  | .lit (.string bytes) => bytes.length + 1
  | .lit _ => 1
  | .nil => 1
  | .ptr d => uptoBulk d + 1
  | .slice elems spare => uptoBulkAll elems + uptoBulkAll spare + 1
  | .agg parts => uptoBulkAll parts + 1
  | .iface _ d => uptoBulk d + 1
  | .map entries => uptoBulkEntries entries + 1
  | .held _ => 1
def uptoBulkAll {H : Type} : List (DataW H) → Nat
  | [] => 0
  | d :: r => uptoBulk d + uptoBulkAll r
def uptoBulkEntries {H : Type} : List (Lit × DataW H) → Nat
  | [] => 0
  | x :: r => uptoBulkEntry x + uptoBulkEntries r
def uptoBulkEntry {H : Type} : Lit × DataW H → Nat
  | (.string bytes, d) => bytes.length + uptoBulk d + 1
  | (_, d) => uptoBulk d + 1
 end
def uptoSmall : (H : Type) → List (DataW H) → Bool := fun _ ds => decide (uptoBulkAll ds ≤ 1048576)
def OpenSpec.upto (s : _root_.Go.ChangeSpec) : _root_.Go.OpenSpec := { _root_.Go.OpenSpec.ofChange s with cond := some uptoSmall }

/-- 'parapetlaw19.NamecSplits', WHERE WHAT IT READS IS OF BULK AT MOST 1048576: true; the input reads as it did. -/
def namecSplitsUptoRow : OpenClaim := { program := "ytjpojoflbjhjjaa", sum := "73006a3af938d113ac7e3aee9d7ba4ab7f87076500730fc486f7a0259cbcfcaa", func := "parapet/parapetlaw19.NamecSplits", spec := "namecSplits", inPlace := ["internal/bytealg.IndexByteString", "internal/bytealg.IndexString"], unfollowed := true, recurses := true, named := ["internal/bytealg.MaxLen"], plainKeys := false, apart := false, narrowed := true }
def NamecSplitsUptoSaid : Prop := namecSplitsUptoRow.holds Try.pinned (OpenSpec.upto namecSplitsSpec)

/-- 'parapetlaw19.NamecKeeps', WHERE WHAT IT READS IS OF BULK AT MOST 1048576: true; the input reads as it did. -/
def namecKeepsUptoRow : OpenClaim := { program := "ytjpojoflbjhjjaa", sum := "73006a3af938d113ac7e3aee9d7ba4ab7f87076500730fc486f7a0259cbcfcaa", func := "parapet/parapetlaw19.NamecKeeps", spec := "namecKeeps", inPlace := ["internal/bytealg.IndexByteString", "internal/bytealg.IndexString"], unfollowed := true, recurses := true, named := ["internal/bytealg.MaxLen"], plainKeys := false, apart := false, narrowed := true }
def NamecKeepsUptoSaid : Prop := namecKeepsUptoRow.holds Try.pinned (OpenSpec.upto namecKeepsSpec)

/-- 'parapetlaw19.NamecReaders', WHERE WHAT IT READS IS OF BULK AT MOST 1048576: true; the input reads as it did. -/
def namecReadersUptoRow : OpenClaim := { program := "ytjpojoflbjhjjaa", sum := "73006a3af938d113ac7e3aee9d7ba4ab7f87076500730fc486f7a0259cbcfcaa", func := "parapet/parapetlaw19.NamecReaders", spec := "namecReaders", inPlace := ["internal/bytealg.IndexByteString", "internal/bytealg.IndexString"], unfollowed := true, recurses := true, named := ["internal/bytealg.MaxLen"], plainKeys := false, apart := false, narrowed := true }
def NamecReadersUptoSaid : Prop := namecReadersUptoRow.holds Try.pinned (OpenSpec.upto namecReadersSpec)

end Rows
end Go.Proofs.Ytjpojoflbjhjjaa
