/-
  DERIVED. GIVEN WITH THE SEED: THE CARDS: each row of YtccobbfinmlgdaaDoorRows.lean that lists a variable, with what it lists TIED to the program's text (the seventh form; the later family's looks); each row that meets fmt, with fmt's text TOLD by the authors' own Lean function (tested against real Go, not proved from fmt's source: count such statements apart). THE CARD IS WHAT COUNTS. Prove the row's statement (the work); the ties are given (YtccobbfinmlgdaaDoorTie.lean); close each card by the builder's one call (the guide's Derived/Test/ToyasCard.lean, 'card_holds'). Laid BY PROGRAM, IN A SANDBOX (cutbox-door.mjs). By AI agents, Wed Nov 11 2026. No macro, syntax, notation, axiom, sorry.
-/
import Derived.Test.YtccobbfinmlgdaaDoorRows
import GoSem.ClaimSeven
namespace Go.Proofs.YtccobbfinmlgdaaDoor
namespace Rows

/-- THE TIED CARD OF 'parapetlaw26.CallNames'. -/
def callNamesCard : Claim7 := { stood := { row := callNamesRow, standIns := [], harness := (true, "547cd3d7806bcf3f39d9c1a3075a411561fd96b8e9b437d76bbcf26c55f2d48b"), looks := false }, kinds := [], alts := [], laidByText := true, laidKinds := [.data], laidTests := true, laidLooks := .later }
def CallNamesCardSaid : Prop := Claim7.holds Tryd.pinned (.plain (OpenSpec.ofChange callNamesSpec)) callNamesCard

/-- THE TIED CARD OF 'parapetlaw26.CallTable'. -/
def callTableCard : Claim7 := { stood := { row := callTableRow, standIns := [], harness := (true, "547cd3d7806bcf3f39d9c1a3075a411561fd96b8e9b437d76bbcf26c55f2d48b"), looks := false }, kinds := [], alts := [], laidByText := true, laidKinds := [.data], laidTests := true, laidLooks := .later }
def CallTableCardSaid : Prop := Claim7.holds Tryd.pinned (.plain (OpenSpec.ofChange callTableSpec)) callTableCard

/-- THE TIED CARD OF 'parapetlaw26.CallDecodes'. -/
def callDecodesCard : Claim7 := { stood := { row := callDecodesRow, standIns := [], harness := (true, "547cd3d7806bcf3f39d9c1a3075a411561fd96b8e9b437d76bbcf26c55f2d48b"), looks := false }, kinds := [], alts := [], laidByText := true, laidKinds := [.data], laidTests := true, laidLooks := .later }
def CallDecodesCardSaid : Prop := Claim7.holds Tryd.pinned (.plain (OpenSpec.ofChange callDecodesSpec)) callDecodesCard

/-- THE TIED CARD OF 'parapetlaw26.CallTells'. -/
def callTellsCard : Claim7 := { stood := { row := callTellsRow, standIns := [], harness := (true, "547cd3d7806bcf3f39d9c1a3075a411561fd96b8e9b437d76bbcf26c55f2d48b"), looks := false }, kinds := [], alts := [], laidByText := true, laidKinds := [.data], laidTests := true, laidLooks := .later }
def CallTellsCardSaid : Prop := Claim7.holds Tryd.pinned (.plain (OpenSpec.ofChange callTellsSpec)) callTellsCard

/-- THE TIED CARD OF 'parapetlaw26.CallErrors'. -/
def callErrorsCard : Claim7 := { stood := { row := callErrorsRow, standIns := [], harness := (true, "547cd3d7806bcf3f39d9c1a3075a411561fd96b8e9b437d76bbcf26c55f2d48b"), looks := false }, kinds := [], alts := [], laidByText := true, laidKinds := [.data], laidTests := true, laidLooks := .later }
def CallErrorsCardSaid : Prop := Claim7.holds Tryd.pinned (.plain (OpenSpec.ofChange callErrorsSpec)) callErrorsCard

/-- THE SECOND FORM's CARD OF 'parapetlaw26.CallNames'. -/
def callNamesUptoCard : Claim7 := { stood := { row := callNamesUptoRow, standIns := [], harness := (true, "547cd3d7806bcf3f39d9c1a3075a411561fd96b8e9b437d76bbcf26c55f2d48b"), looks := false }, kinds := [], alts := [], laidByText := true, laidKinds := [.data], laidTests := true, laidLooks := .later }
def CallNamesUptoCardSaid : Prop := Claim7.holds Tryd.pinned (.plain (OpenSpec.upto callNamesSpec)) callNamesUptoCard

/-- THE SECOND FORM's CARD OF 'parapetlaw26.CallTable'. -/
def callTableUptoCard : Claim7 := { stood := { row := callTableUptoRow, standIns := [], harness := (true, "547cd3d7806bcf3f39d9c1a3075a411561fd96b8e9b437d76bbcf26c55f2d48b"), looks := false }, kinds := [], alts := [], laidByText := true, laidKinds := [.data], laidTests := true, laidLooks := .later }
def CallTableUptoCardSaid : Prop := Claim7.holds Tryd.pinned (.plain (OpenSpec.upto callTableSpec)) callTableUptoCard

/-- THE SECOND FORM's CARD OF 'parapetlaw26.CallDecodes'. -/
def callDecodesUptoCard : Claim7 := { stood := { row := callDecodesUptoRow, standIns := [], harness := (true, "547cd3d7806bcf3f39d9c1a3075a411561fd96b8e9b437d76bbcf26c55f2d48b"), looks := false }, kinds := [], alts := [], laidByText := true, laidKinds := [.data], laidTests := true, laidLooks := .later }
def CallDecodesUptoCardSaid : Prop := Claim7.holds Tryd.pinned (.plain (OpenSpec.upto callDecodesSpec)) callDecodesUptoCard

/-- THE SECOND FORM's CARD OF 'parapetlaw26.CallTells'. -/
def callTellsUptoCard : Claim7 := { stood := { row := callTellsUptoRow, standIns := [], harness := (true, "547cd3d7806bcf3f39d9c1a3075a411561fd96b8e9b437d76bbcf26c55f2d48b"), looks := false }, kinds := [], alts := [], laidByText := true, laidKinds := [.data], laidTests := true, laidLooks := .later }
def CallTellsUptoCardSaid : Prop := Claim7.holds Tryd.pinned (.plain (OpenSpec.upto callTellsSpec)) callTellsUptoCard

/-- THE SECOND FORM's CARD OF 'parapetlaw26.CallErrors'. -/
def callErrorsUptoCard : Claim7 := { stood := { row := callErrorsUptoRow, standIns := [], harness := (true, "547cd3d7806bcf3f39d9c1a3075a411561fd96b8e9b437d76bbcf26c55f2d48b"), looks := false }, kinds := [], alts := [], laidByText := true, laidKinds := [.data], laidTests := true, laidLooks := .later }
def CallErrorsUptoCardSaid : Prop := Claim7.holds Tryd.pinned (.plain (OpenSpec.upto callErrorsSpec)) callErrorsUptoCard
end Rows
end Go.Proofs.YtccobbfinmlgdaaDoor
