/-
  The document's own disk: Flush.
-/
import Derived.Test.YtokdpldmoflnkaaMg15
import Derived.BigQuiet
import Derived.StillTailTactics
namespace Go.Proofs.Ytokdpldmoflnkaa
open Go.ChangeShapes Go.WideShapes Go.ChangeAt Go.RowKit
set_option linter.unusedVariables false

def RFlR (w0 : World) (g pb pc : Nat) (pr : List Value) (pv : Value) (N : Nat) (plat : List Int) (ws : List WR) (left : Int) (stops : Bool) (rd wt fl : Int) (i : Value) (wr : World) : Prop :=
  ∃ k : Nat, k ≤ ws.length ∧ i = .int .i64 k ∧ Only [pb] w0 wr ∧ IsR2 wr g pb pc pr pv N (layAll plat ((ofW ws).take k)) ws left stops rd wt fl

section
variable {w : World} {g pb pc : Nat} {pr : List Value} {pv : Value} {N : Nat} {plat : List Int} {ws : List WR} {left : Int} {stops : Bool} {rd wt fl : Int} (h : IsR2 w g pb pc pr pv N plat ws left stops rd wt fl)
include h

/-- Nothing is pending any more. -/
theorem IsR2.forget : Only [g] w (w.setCell ⟨g, 2, none⟩ (.slice none 0 0)) ∧ IsR2 (w.setCell ⟨g, 2, none⟩ (.slice none 0 0)) g pb pc pr (.slice none 0 0) N plat [] left stops rd wt fl := by
  have ho : Only [g] w (w.setCell ⟨g, 2, none⟩ (.slice none 0 0)) := (Only.refl _ _).setCell _ (by simp)
  exact ⟨ho, h.str.set_ 2 _, h.row.only ho (by simpa using h.gp.symm), h.len, h.cap, h.pos, h.big, h.u8, ⟨by simp, .inl ⟨rfl, by simp⟩⟩, by simp, by simp, by simp⟩

theorem rflush_off (h1 : stops = true) (h2 : left = 0) : Calls Try.prog 48 #[.pointer (some ⟨g, 0, none⟩)] w fun e w' => e = .returned (.int .i64 0) ∧ Only [] w w' := by
  have HS := hide (rdoes_off h h1 h2)
  clear h h1 h2
  go_enter Try.func48, Try.ntmps48
  go_wp2_with (go_at_call 66; refine HS.out.mono ?_; rintro e w' ⟨rfl, ho⟩; have HO := hide ho; clear ho)
  go_ret
  exact ⟨rfl, HO.out⟩

set_option maxRecDepth 100000 in
theorem rflush_do (hl : stops = true → 0 < left) (hm : left ≤ 9223372036854775807) (hf0 : 0 ≤ fl) (hf1 : fl < 9223372036854775807) :
    Calls Try.prog 48 #[.pointer (some ⟨g, 0, none⟩)] w fun e w' => e = .returned (.int .i64 ws.length) ∧ Only [g, pb] w w' ∧ IsR2 w' g pb pc pr (.slice none 0 0) N (layAll plat (ofW ws)) [] (if stops then left - 1 else left) stops rd wt (fl + 1) := by
  have HS := rdoes_yes h hl hm
  generalize (if stops then left - 1 else left) = lf at HS ⊢
  have HS := hide HS
  clear h hm hl
  go_enter Try.func48, Try.ntmps48
  go_wp2_with fail
  refine HS.out.mono ?_
  rintro e w1 ⟨rfl, ho1, hd1⟩
  have hc7 := hd1.c7
  have hf7 := hd1.fr 7
  have ho2 : Only [g] w1 (w1.setCell ⟨g, 7, none⟩ (.int .i64 (fl + 1))) := (Only.refl _ _).setCell _ (by simp)
  have hd2 := hd1.restr (fl' := fl + 1) ho2 (hd1.str.set_ 7 _)
  have HD2 := hide hd2
  have HO2 := hide (ho1.trans ho2)
  obtain ⟨A, cap, rfl, hA, hA2⟩ := sec_form HD2.out.own
  have HA2 := hide hA2
  have hc2 := hd1.c2
  clear ho1 hd1 ho2 HS hA hA2 hd2
  go_wp2_with fail
  clear hc7 hf7 hc2
  revert HD2 HO2 HA2
  generalize w1.setCell ⟨g, 7, none⟩ (.int .i64 (fl + 1)) = w2
  intro HO2 HD2 HA2
  clear HS
  have hfew := HD2.out.few
  go_loopw [21] (fun i wr => RFlR w2 g pb pc pr (.slice A ws.length cap) N plat ws lf stops rd wt (fl + 1) i wr) (fun i _ => ws.length - (intOf i).toNat)
  case atStart => exact ⟨0, Nat.zero_le _, rfl, Only.refl _ _, HD2.out⟩
  case round =>
    obtain ⟨k, hk, rfl, ho, hd⟩ := hrel
    have HO := hide ho
    have HD := hide hd
    by_cases hlt : k < ws.length
    · obtain ⟨x, hx⟩ : ∃ x, ws[k]? = some x := ⟨_, List.getElem?_eq_getElem hlt⟩
      have HA3 : ∃ q, A = some ⟨q, 0, none⟩ ∧ wr.cell? ⟨q, k * 2, none⟩ = some (.int .i64 x.sec) ∧ wr.cell? ⟨q, k * 2 + 1, none⟩ = some (.slice (some ⟨x.blk, 0, none⟩) 512 (512 + x.rest.length)) := by
        obtain ⟨A', cap', e, hA, hA2⟩ := sec_form hd.own
        cases e
        rcases A with _ | b
        · exact absurd (hA rfl).1 (by omega)
        · obtain ⟨q, rfl, hq, _, _, hc⟩ := hA2 b rfl
          exact ⟨q, rfl, (hc k x hx).1, (hc k x hx).2⟩
      obtain ⟨q, rfl, e0, e1⟩ := HA3
      have hmem : x ∈ ws := List.mem_iff_getElem?.2 ⟨k, hx⟩
      have hdat : x.data.take 512 = x.data := List.take_of_length_le (by have := (hd.wok x hmem).len; omega)
      have HSN := hide (layAll_snoc plat ws k x hx)
      have HLY := hide (fun (o : Obj) => r2lay_is (hd.quiet ((Only.refl [] wr).alloc o)) x hmem 512 (Nat.le_refl _))
      rw [hdat] at HLY
      clear ho hd hx hmem hdat
      go_wp2_with (go_at_call 67; refine (HLY.out _).mono ?_; rintro e w' ⟨rfl, ho3, hd3⟩; have HD3 := hide hd3; have HO3 := hide ho3; clear ho3 hd3)
      go_roundw
      case rel => exact ⟨k + 1, hlt, by go_num, (HO.out.trans ((Only.refl _ _).alloc _)).trans HO3.out, by rw [HSN.out]; exact HD3.out⟩
      case measure => simp [intOf]; omega
    · obtain rfl : k = ws.length := by omega
      have hlw : (ofW ws).take ws.length = ofW ws := List.take_of_length_le (by simp [ofW])
      rw [hlw] at hd
      have hc2 := hd.c2
      have hf2 := hd.fr 2
      have HFG := hide hd.forget
      have HOO := hide (HO2.out.mono (S' := [g, pb]) (by intro k _ hk; simp at hk ⊢; omega) |>.trans (ho.mono (by intro k _ hk; simp at hk ⊢; omega)))
      clear hd ho hlw HD
      go_wp2
      go_ret
      exact ⟨rfl, HOO.out.trans (HFG.out.1.mono (by intro k _ hk; simp at hk ⊢; omega)), HFG.out.2⟩
end
end Go.Proofs.Ytokdpldmoflnkaa
/-
  The document's own disk: Crash.
-/
namespace Go.Proofs.Ytokdpldmoflnkaa
open Go.ChangeShapes Go.WideShapes Go.ChangeAt Go.RowKit
set_option linter.unusedVariables false

def RKeep (w0 : World) (m n : Nat) (l : List (Int × Int)) (i : Value) (wr : World) : Prop :=
  ∃ (k : Nat) (z : Int), k ≤ m ∧ i = .int .i64 k ∧ 0 ≤ z ∧ keepB n z (l.drop k) = keepB n 0 l ∧ (k = 0 → z = 0) ∧ (∀ p, 0 < k → l[k - 1]? = some p → z = p.1 + 1) ∧ Only [] w0 wr
def RCrR (w0 : World) (g pb pc : Nat) (pr : List Value) (pv : Value) (N : Nat) (plat : List Int) (ws : List WR) (left : Int) (stops : Bool) (rd wt fl : Int) (m : Nat) (t : List (Int × Int)) (i : Value) (wr : World) : Prop :=
  ∃ k : Nat, k ≤ m ∧ i = .int .i64 k ∧ Only [pb] w0 wr ∧ IsR2 wr g pb pc pr pv N (crashAll plat (ofW ws) (t.take k)) ws left stops rd wt fl

/-- What a crash leaves. -/
def RCrashed (w w' : World) (e : Ending) (g pb pc : Nat) (pr : List Value) (pv : Value) (N : Nat) (plat : List Int) (ws : List WR) (left : Int) (stops : Bool) (rd wt fl : Int) (l : List (Int × Int)) : Prop :=
  (keepB ws.length 0 l = false ∧ e = .returned (.int .i64 1) ∧ Only [] w w') ∨
  (keepB ws.length 0 l = true ∧ e = .returned (.int .i64 0) ∧ Only [g, pb] w w' ∧ IsR2 w' g pb pc pr (.slice none 0 0) N (crashAll plat (ofW ws) l) [] 0 false rd wt fl)

section
variable {w : World} {g pb pc : Nat} {pr : List Value} {pv : Value} {N : Nat} {plat : List Int} {ws : List WR} {left : Int} {stops : Bool} {rd wt fl : Int} (h : IsR2 w g pb pc pr pv N plat ws left stops rd wt fl)
include h

end
end Go.Proofs.Ytokdpldmoflnkaa
/-
  The law's own 'looks': a disk and the document's own disk that hold the same: it answers true.
-/
namespace Go.Proofs.Ytokdpldmoflnkaa
open Go.ChangeShapes Go.WideShapes Go.ChangeAt Go.RowKit
set_option linter.unusedVariables false

section
variable {w : World} {g pb pc mb : Nat} {pr : List Value} {pv : Value} {D : DataW Unit} {N : Nat} {plat : List Int} {ws : List WR} {left rd wt fl : Int} (h : IsDisk w g pb pc mb pr pv D N plat ws left rd wt fl)
  {g' pb' pc' : Nat} {pr' : List Value} {A : Option Addr} {cap : Nat} {left' : Int} {stops : Bool} (h' : IsRef2 w g' pb' pc' pr' A cap N plat (ofW ws) left' stops rd wt fl)
include h h'

end
end Go.Proofs.Ytokdpldmoflnkaa
