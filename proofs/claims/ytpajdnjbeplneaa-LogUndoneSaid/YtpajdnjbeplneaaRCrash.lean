/-
  The document's own disk: Crash.
-/
import Derived.Test.YtpajdnjbeplneaaRFlush
import Derived.Test.YtpajdnjbeplneaaDiskCrash
import Derived.BigQuiet
import Derived.StillTailTactics
namespace Go.Proofs.Ytpajdnjbeplneaa
open Go.ChangeShapes Go.WideShapes Go.ChangeAt Go.RowKit
set_option linter.unusedVariables false

def RKeep (w0 : World) (m n : Nat) (l : List (Int × Int)) (i : Value) (wr : World) : Prop :=
  ∃ (k : Nat) (z : Int), k ≤ m ∧ i = .int .i64 k ∧ 0 ≤ z ∧ keepB n z (l.drop k) = keepB n 0 l ∧ (k = 0 → z = 0) ∧ (∀ p, 0 < k → l[k - 1]? = some p → z = p.1 + 1) ∧ Only [] w0 wr
def RCrR (w0 : World) (g pb pc : Nat) (pr : List Value) (pv : Value) (N : Nat) (plat : List Int) (ws : List WR) (left : Int) (stops : Bool) (rd wt fl : Int) (m : Nat) (t : List (Int × Int)) (i : Value) (wr : World) : Prop :=
  ∃ k : Nat, k ≤ m ∧ i = .int .i64 k ∧ Only [pb] w0 wr ∧ IsR2 wr g pb pc pr pv N (crashAll plat (ofW ws) (t.take k)) ws left stops rd wt fl

/-- What a crash leaves. -/
def RCrashed (w w' : World) (e : Ending) (g pb pc : Nat) (pr : List Value) (pv : Value) (N : Nat) (plat : List Int) (ws : List WR) (left : Int) (stops : Bool) (rd wt fl : Int) (l : List (Int × Int)) : Prop :=
  (keepB ws.length 0 l = false ∧ e = .returned (.int .i64 1) ∧ Only [] w w') ∨
  (keepB ws.length 0 l = true ∧ e = .returned (.int .i64 0) ∧ Only [g, pb] w w' ∧ IsR2 w' g pb pc pr (.slice none 0 0) N (crashAll plat (ofW ws) l) [] 0 false rd wt fl)

section
variable {w : World} {g pb pc : Nat} {pr : List Value} {pv : Value} {N : Nat} {plat : List Int} {ws : List WR} {left : Int} {stops : Bool} {rd wt fl : Int} (h : IsR2 w g pb pc pr pv N plat ws left stops rd wt fl)
include h

end
end Go.Proofs.Ytpajdnjbeplneaa