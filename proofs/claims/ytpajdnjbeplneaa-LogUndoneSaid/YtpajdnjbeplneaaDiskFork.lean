/-
  Fork of parapet/disk.
-/
import Derived.Test.YtpajdnjbeplneaaDiskCrash
import Derived.Laws.Externs
namespace Go.Proofs.Ytpajdnjbeplneaa
open Go.ChangeShapes Go.WideShapes Go.ChangeAt Go.RowKit Go.Maps
set_option linter.unusedVariables false



theorem run_eql_map (w : World) (p : Option Nat) : (binOp .eql 107 (.map p) (.map none)).run Try.prog w = .ok (.bool p.isNone) w := by
  have hd : ∀ d, (Op.equalIn (d + 1) 107 (.map p) (.map none)).run Try.prog w = .ok p.isNone w := fun d => by
    cases p <;> simp [Op.equalIn, run_underlying Try.underlying107]
  have h := hd 9999
  simp only [binOp]
  simp [show Op.equal 107 (.map p) (.map none) = Op.equalIn (9999 + 1) 107 (.map p) (.map none) from rfl, h]

theorem run_clone_map {w : World} {b : Nat} {es : Array MapEntry} {clock : Nat} (t : TypeId) (hb : w.heap[b]? = some (.map es clock)) :
    (Extern.MapsClone.clone #[.iface t (.map (some b))]).run Try.prog w = .ok (.iface t (.map (some w.heap.size))) (w.alloc (.map es clock)) := by
  have e : Extern.MapsClone.clone #[.iface t (.map (some b))] = (getObj b >>= fun o => match o with
      | .map entries clock => (newObj (.map entries clock) >>= fun n => pure (.iface t (.map (some n))))
      | _ => stuck "maps.clone: a map expected") := rfl
  rw [e]
  simp [MapKept.run_getObj_map hb, Result.andThen, go_sem]



section
variable {w : World} {g pb pc mb : Nat} {pr : List Value} {pv : Value} {D : DataW Unit} {N : Nat} {plat : List Int} {ws : List WR} {left rd wt fl : Int} (h : IsDisk w g pb pc mb pr pv D N plat ws left rd wt fl)
include h

omit h in
/-- What a fork gives: another disk that holds the same, whose blocks are new. -/
def Forked (w w' : World) (e : Ending) (D : DataW Unit) (N : Nat) (plat : List Int) (ws : List WR) (left rd wt fl : Int) : Prop :=
  ∃ g pb pc mb pr pv, e = .returned (.pointer (some ⟨g, 0, none⟩)) ∧ (∀ k ∈ foot g pb mb pv, w.heap.size ≤ k) ∧ Only [] w w' ∧ IsDisk w' g pb pc mb pr pv D N plat ws left rd wt fl

omit h in
theorem cells_one (ws : List WR) : ∀ u ∈ ws.flatMap WR.cells, u.oneCell' = true := by
  intro u hu
  obtain ⟨x, _, hx⟩ := List.mem_flatMap.1 hu
  simp only [WR.cells, List.mem_cons, List.not_mem_nil, or_false] at hx
  rcases hx with rfl | rfl <;> rfl

end
end Go.Proofs.Ytpajdnjbeplneaa