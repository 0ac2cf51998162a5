/-
  The tables that lie watched in the seat of 'NamecNobody': nothing is asked of them.
-/
import Derived.Test.YtkjmbaoooeglkaaGreatDoorRows
import Derived.Test.YtkjmbaoooeglkaaGreatDoorLib
import Derived.LaidMore
import Derived.Stop.LaidErr
namespace Go.Proofs.YtkjmbaoooeglkaaGreatDoor
open Go
def laidT : List (String × DataW Unit) := [("unicode/utf8.acceptRanges", Rows.laid_unicode_utf8_acceptRanges), ("unicode/utf8.first", Rows.laid_unicode_utf8_first)]
theorem of_laid8 {W : World} (_ : laidMetH Tryz.prog laidT W) : True := trivial
end Go.Proofs.YtkjmbaoooeglkaaGreatDoor
