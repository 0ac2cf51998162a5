/-
  The law's own 'looks': a disk and the document's own disk that hold the same: it answers true.
-/
import Derived.Test.YtpajdnjbeplneaaDiskAwake
import Derived.Test.YtpajdnjbeplneaaDiskSee
import Derived.Test.YtpajdnjbeplneaaRef02
import Derived.Test.YtpajdnjbeplneaaAppendNew
namespace Go.Proofs.Ytpajdnjbeplneaa
open Go.ChangeShapes Go.WideShapes Go.ChangeAt Go.RowKit
set_option linter.unusedVariables false

section
variable {w : World} {g pb pc mb : Nat} {pr : List Value} {pv : Value} {D : DataW Unit} {N : Nat} {plat : List Int} {ws : List WR} {left rd wt fl : Int} (h : IsDisk w g pb pc mb pr pv D N plat ws left rd wt fl)
  {g' pb' pc' : Nat} {pr' : List Value} {A : Option Addr} {cap : Nat} {left' : Int} {stops : Bool} (h' : IsRef2 w g' pb' pc' pr' A cap N plat (ofW ws) left' stops rd wt fl)
include h h'

end
end Go.Proofs.Ytpajdnjbeplneaa