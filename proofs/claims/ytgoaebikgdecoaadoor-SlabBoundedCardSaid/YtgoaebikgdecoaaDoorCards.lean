/-
  DERIVED. GIVEN WITH THE SEED: THE CARDS: each row of YtgoaebikgdecoaaDoorRows.lean that lists a variable, with what it lists TIED to the program's text (the seventh form; the later family's looks); each row that meets fmt, with fmt's text TOLD by the authors' own Lean function (tested against real Go, not proved from fmt's source: count such statements apart). THE CARD IS WHAT COUNTS. Prove the row's statement (the work); the ties are given (YtgoaebikgdecoaaDoorTie.lean); close each card by the builder's one call (the guide's Derived/Test/ToyasCard.lean, 'card_holds'). Laid BY PROGRAM, IN A SANDBOX (cutbox-door.mjs). By AI agents, Wed Nov 11 2026. No macro, syntax, notation, axiom, sorry.
-/
import Derived.Test.YtgoaebikgdecoaaDoorRows
import GoSem.ClaimSeven
namespace Go.Proofs.YtgoaebikgdecoaaDoor
namespace Rows

/-- THE TIED CARD OF 'parapetlaw08.SlabDoes'. -/
def slabDoesCard : Claim7 := { stood := { row := slabDoesRow, standIns := [], harness := (true, "639e86f737851f1444675e1a2af9aefae80787823d1f58d34ae33a10fc0780fd"), looks := true }, kinds := [], alts := [], laidByText := true, laidKinds := [.data, .data], laidTests := true, laidLooks := .later }
def SlabDoesCardSaid : Prop := Claim7.holds Tryd.pinned (.plain (OpenSpec.ofChange slabDoesSpec)) slabDoesCard

/-- THE TIED CARD OF 'parapetlaw08.SlabReserved'. -/
def slabReservedCard : Claim7 := { stood := { row := slabReservedRow, standIns := [], harness := (true, "639e86f737851f1444675e1a2af9aefae80787823d1f58d34ae33a10fc0780fd"), looks := true }, kinds := [], alts := [], laidByText := true, laidKinds := [.data, .data], laidTests := true, laidLooks := .later }
def SlabReservedCardSaid : Prop := Claim7.holds Tryd.pinned (.plain (OpenSpec.ofChange slabReservedSpec)) slabReservedCard

/-- THE TIED CARD OF 'parapetlaw08.SlabBounded'. -/
def slabBoundedCard : Claim7 := { stood := { row := slabBoundedRow, standIns := [], harness := (true, "639e86f737851f1444675e1a2af9aefae80787823d1f58d34ae33a10fc0780fd"), looks := true }, kinds := [], alts := [], laidByText := true, laidKinds := [.data, .data], laidTests := true, laidLooks := .later }
def SlabBoundedCardSaid : Prop := Claim7.holds Tryd.pinned (.plain (OpenSpec.ofChange slabBoundedSpec)) slabBoundedCard

/-- THE TIED CARD OF 'parapetlaw08.SlabNobody'. -/
def slabNobodyCard : Claim7 := { stood := { row := slabNobodyRow, standIns := [], harness := (true, "639e86f737851f1444675e1a2af9aefae80787823d1f58d34ae33a10fc0780fd"), looks := true }, kinds := [], alts := [], laidByText := true, laidKinds := [.data, .data], laidTests := true, laidLooks := .later }
def SlabNobodyCardSaid : Prop := Claim7.holds Tryd.pinned (.plain (OpenSpec.ofChange slabNobodySpec)) slabNobodyCard

/-- THE SECOND FORM's CARD OF 'parapetlaw08.SlabDoes'. -/
def slabDoesUptoCard : Claim7 := { stood := { row := slabDoesUptoRow, standIns := [], harness := (true, "639e86f737851f1444675e1a2af9aefae80787823d1f58d34ae33a10fc0780fd"), looks := true }, kinds := [], alts := [], laidByText := true, laidKinds := [.data, .data], laidTests := true, laidLooks := .later }
def SlabDoesUptoCardSaid : Prop := Claim7.holds Tryd.pinned (.plain (OpenSpec.upto slabDoesSpec)) slabDoesUptoCard

/-- THE SECOND FORM's CARD OF 'parapetlaw08.SlabReserved'. -/
def slabReservedUptoCard : Claim7 := { stood := { row := slabReservedUptoRow, standIns := [], harness := (true, "639e86f737851f1444675e1a2af9aefae80787823d1f58d34ae33a10fc0780fd"), looks := true }, kinds := [], alts := [], laidByText := true, laidKinds := [.data, .data], laidTests := true, laidLooks := .later }
def SlabReservedUptoCardSaid : Prop := Claim7.holds Tryd.pinned (.plain (OpenSpec.upto slabReservedSpec)) slabReservedUptoCard

/-- THE SECOND FORM's CARD OF 'parapetlaw08.SlabBounded'. -/
def slabBoundedUptoCard : Claim7 := { stood := { row := slabBoundedUptoRow, standIns := [], harness := (true, "639e86f737851f1444675e1a2af9aefae80787823d1f58d34ae33a10fc0780fd"), looks := true }, kinds := [], alts := [], laidByText := true, laidKinds := [.data, .data], laidTests := true, laidLooks := .later }
def SlabBoundedUptoCardSaid : Prop := Claim7.holds Tryd.pinned (.plain (OpenSpec.upto slabBoundedSpec)) slabBoundedUptoCard

/-- THE SECOND FORM's CARD OF 'parapetlaw08.SlabNobody'. -/
def slabNobodyUptoCard : Claim7 := { stood := { row := slabNobodyUptoRow, standIns := [], harness := (true, "639e86f737851f1444675e1a2af9aefae80787823d1f58d34ae33a10fc0780fd"), looks := true }, kinds := [], alts := [], laidByText := true, laidKinds := [.data, .data], laidTests := true, laidLooks := .later }
def SlabNobodyUptoCardSaid : Prop := Claim7.holds Tryd.pinned (.plain (OpenSpec.upto slabNobodySpec)) slabNobodyUptoCard
end Rows
end Go.Proofs.YtgoaebikgdecoaaDoor
