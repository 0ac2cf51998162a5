/-
  DERIVED. GIVEN WITH THE SEED: THE CARDS: each row of YtkjmbaoooeglkaaGreatDoorRows.lean that lists a variable, with what it lists TIED to the program's text (the seventh form; the later family's looks); each row that meets fmt, with fmt's text TOLD by the authors' own Lean function (tested against real Go, not proved from fmt's source: count such statements apart). THE CARD IS WHAT COUNTS. Prove the row's statement (the work); the ties are given (YtkjmbaoooeglkaaGreatDoorTie.lean); close each card by the builder's one call (the guide's Derived/Test/ToyasCard.lean, 'card_holds'). Laid BY PROGRAM, IN A SANDBOX (cutbox-door.mjs). By AI agents, Wed Nov 11 2026. No macro, syntax, notation, axiom, sorry.
-/
import Derived.Test.YtkjmbaoooeglkaaGreatDoorRows
import GoSem.ClaimSeven
namespace Go.Proofs.YtkjmbaoooeglkaaGreatDoor
namespace Rows

/-- THE TIED CARD OF 'parapetlaw19.NamecWalks'. -/
def namecWalksCard : Claim7 := { stood := { row := namecWalksRow, standIns := [], harness := (true, "abfbee15a6fb5f0f2d95d912ffdff57580ada27f6a2ae84e0689fe71ecca9048"), looks := false }, kinds := [], alts := [], laidByText := true, laidKinds := [.data, .pinned], laidTests := true, laidLooks := .later }
def NamecWalksCardSaid : Prop := Claim7.holds Tryz.pinned (.plain (OpenSpec.ofChange namecWalksSpec)) namecWalksCard

/-- THE TIED CARD OF 'parapetlaw19.NamecNobody'. -/
def namecNobodyCard : Claim7 := { stood := { row := namecNobodyRow, standIns := [], harness := (true, "abfbee15a6fb5f0f2d95d912ffdff57580ada27f6a2ae84e0689fe71ecca9048"), looks := false }, kinds := [], alts := [], laidByText := true, laidKinds := [.data, .pinned], laidTests := true, laidLooks := .later }
def NamecNobodyCardSaid : Prop := Claim7.holds Tryz.pinned (.plain (OpenSpec.ofChange namecNobodySpec)) namecNobodyCard

/-- THE SECOND FORM's CARD OF 'parapetlaw19.NamecWalks'. -/
def namecWalksUptoCard : Claim7 := { stood := { row := namecWalksUptoRow, standIns := [], harness := (true, "abfbee15a6fb5f0f2d95d912ffdff57580ada27f6a2ae84e0689fe71ecca9048"), looks := false }, kinds := [], alts := [], laidByText := true, laidKinds := [.data, .pinned], laidTests := true, laidLooks := .later }
def NamecWalksUptoCardSaid : Prop := Claim7.holds Tryz.pinned (.plain (OpenSpec.upto namecWalksSpec)) namecWalksUptoCard

/-- THE SECOND FORM's CARD OF 'parapetlaw19.NamecNobody'. -/
def namecNobodyUptoCard : Claim7 := { stood := { row := namecNobodyUptoRow, standIns := [], harness := (true, "abfbee15a6fb5f0f2d95d912ffdff57580ada27f6a2ae84e0689fe71ecca9048"), looks := false }, kinds := [], alts := [], laidByText := true, laidKinds := [.data, .pinned], laidTests := true, laidLooks := .later }
def NamecNobodyUptoCardSaid : Prop := Claim7.holds Tryz.pinned (.plain (OpenSpec.upto namecNobodySpec)) namecNobodyUptoCard
end Rows
end Go.Proofs.YtkjmbaoooeglkaaGreatDoor
