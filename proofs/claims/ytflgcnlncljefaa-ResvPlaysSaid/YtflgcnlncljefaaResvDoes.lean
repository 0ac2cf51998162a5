/-
  The gate (parapet/resv): Enter, Take, Give, Leave: what each tells, and what the gate says then.
-/
import Derived.Test.YtflgcnlncljefaaResvCalls
namespace Go.Proofs.Ytflgcnlncljefaa
open Go.ChangeShapes Go.WideShapes Go.ChangeAt Go.RowKit
set_option linter.unusedVariables false

def DidE (H : Int) (r : Bool × Int × GS) (w : World) (g : Nat) (F : List Nat) (e : Ending) (w' : World) : Prop :=
  e = .returned (.tuple #[.bool r.1, .int .i64 r.2.1]) ∧ ∃ F', TurnedG w w' F F' ∧ Gt w' g H r.2.2 F'
def DidT (H : Int) (r : Int × GS) (w : World) (g : Nat) (F : List Nat) (e : Ending) (w' : World) : Prop :=
  e = .returned (.int .i64 r.1) ∧ ∃ F', TurnedG w w' F F' ∧ Gt w' g H r.2 F'
def DidL (H : Int) (r : List Int × Int × GS) (w : World) (g : Nat) (F : List Nat) (e : Ending) (w' : World) : Prop :=
  ∃ v', e = .returned (.tuple #[v', .int .i64 r.2.1]) ∧ KRow .i64 3 w' w.heap.size v' r.1 ∧ ∃ F', TurnedG w w' F F' ∧ Gt w' g H r.2.2 F'

section
variable {w w' : World} {g : Nat} {H L R : Int} {v : Value} {ss : List ST} {S F : List Nat} {s : GS}
theorem Gt.did (h : Gt w g H s F) (ho : Only [] w w') : ∃ F', TurnedG w w' F F' ∧ Gt w' g H s F' :=
  ⟨F, .same (ho.mono (by simp)), h.only ho (by simp)⟩

theorem KRow.lower {k : IntKind} {e : TypeId} {B B' : Nat} {ns : List Int} (h : KRow k e w B v ns) (hB : B' ≤ B) : KRow k e w B' v ns := by
  obtain ⟨h1, ⟨e, h0⟩ | ⟨b, cap, cur, e, hb, rest⟩⟩ := h
  · exact ⟨h1, .inl ⟨e, h0⟩⟩
  · exact ⟨h1, .inr ⟨b, cap, cur, e, Nat.le_trans hB hb, rest⟩⟩
/-- Behind admit. -/
theorem admitted {w2 w5 : World} {v' : Value} (h12 : Only (g :: v.ownBlock.toList) w w2) (hv : ∀ q, v'.ownBlock = some q → v.ownBlock = some q ∨ w.heap.size ≤ q)
    (hg : IsGt w5 g H L (admitGo H L (resvL ss) ss).1 v' (admitGo H L (resvL ss) ss).2.1) (hok : GS.ok H ⟨L, ss⟩) (ho : Only (g :: v'.ownBlock.toList) w2 w5) :
    ∃ F', TurnedG w w5 (footG g v) F' ∧ Gt w5 g H ⟨L, (admS H L ss).1⟩ F' := by
  refine ⟨footG g v', ⟨h12.trans' ho (fun k hk hm => ?_), fun q hq => ?_⟩, v', ?_, hok.adm, rfl⟩
  · rcases List.mem_cons.1 hm with rfl | hm
    · simp
    · rcases hv k (Option.mem_toList.1 hm) with h | h
      · simp [h]
      · omega
  · rcases List.mem_cons.1 hq with rfl | hq
    · exact .inl (by simp [footG])
    · rcases hv q (Option.mem_toList.1 hq) with h | h
      · exact .inl (by simp [footG, h])
      · exact .inr h
  · rw [admS_resv] at hg
    exact hg

set_option maxHeartbeats 1500000 in
set_option maxRecDepth 100000 in
theorem gEnter_is (h : Gt w g H s F) (id bound : Int) : Calls Try.prog 14 #[.pointer (some ⟨g, 0, none⟩), .int .i64 id, .int .i64 bound] w fun e w' => DidE H (enterF H s id bound) w g F e w' := by
  have HG := hide h
  obtain ⟨v, hi, hok, rfl⟩ := h
  have HI := hide hi
  have HCL := hide (gclosed_is hi)
  have HAT := hide (gat_is hi id)
  have HOK := hide hok
  clear hok
  by_cases h1 : bound < 0
  · have HE := hide (show enterF H s id bound = (false, 1, s) by unfold enterF; rw [if_pos h1])
    clear hi
    go_enter Try.func14, Try.ntmps14
    go_wp2_with (go_at_call 31; refine HCL.out.mono ?_; rintro e w' ⟨rfl, rfl⟩)
    go_ret2
    rw [HE.out]
    exact ⟨rfl, HG.out.did (Only.refl _ _)⟩
  · by_cases h2 : 0 ≤ atI s.ss id
    · have HE := hide (show enterF H s id bound = (false, 5, s) by unfold enterF; rw [if_neg h1, if_pos h2])
      clear hi
      go_enter Try.func14, Try.ntmps14
      go_wp2_with (first | (go_at_call 31; refine HCL.out.mono ?_; rintro e w' ⟨rfl, rfl⟩) | (go_at_call 32; refine HAT.out.mono ?_; rintro e w' ⟨rfl, ho⟩; have HO := hide ho; clear ho))
      go_ret2
      rw [HE.out]
      exact ⟨rfl, HG.out.did HO.out⟩
    · have HC0 := hide (fun (w' : World) (ho : Only [] w w') => (show w'.cell? ⟨g, 0, none⟩ = some (.int .i64 H) ∧ w'.cell? ⟨g, 3, none⟩ = some v from ⟨(hi.blk.only ho (by simp)).cell 0, (hi.blk.only ho (by simp)).cell 3⟩))
      obtain ⟨A, cap, hv, _⟩ := hi.row.form
      subst hv
      by_cases h3 : H < bound
      · have HE := hide (show enterF H s id bound = (false, 3, s) by unfold enterF; rw [if_neg h1, if_neg h2, if_pos h3])
        clear hi
        go_enter Try.func14, Try.ntmps14
        go_wp2_with (first | (go_at_call 31; refine HCL.out.mono ?_; rintro e w' ⟨rfl, rfl⟩) | (go_at_call 32; refine HAT.out.mono ?_; rintro e w' ⟨rfl, ho⟩; have HO := hide ho; obtain ⟨k0, k3⟩ := HC0.out w' ho; clear ho))
        go_ret2
        rw [HE.out]
        exact ⟨rfl, HG.out.did HO.out⟩
      · by_cases h4 : s.ss.length = 64
        · have HE := hide (show enterF H s id bound = (false, 2, s) by unfold enterF; rw [if_neg h1, if_neg h2, if_neg h3, if_pos h4])
          have h4' : ((s.ss.length : Nat) : Int) = 64 := by omega
          clear hi
          go_enter Try.func14, Try.ntmps14
          go_wp2_with (first | (go_at_call 31; refine HCL.out.mono ?_; rintro e w' ⟨rfl, rfl⟩) | (go_at_call 32; refine HAT.out.mono ?_; rintro e w' ⟨rfl, ho⟩; have HO := hide ho; obtain ⟨k0, k3⟩ := HC0.out w' ho; clear ho))
          go_ret2
          rw [HE.out]
          exact ⟨rfl, HG.out.did HO.out⟩
        · have HE := hide (show enterF H s id bound = (decide (0 < (admS H s.L (s.ss ++ [⟨id, bound, 0, true⟩])).2.length), 0, ⟨s.L, (admS H s.L (s.ss ++ [⟨id, bound, 0, true⟩])).1⟩) by unfold enterF; rw [if_neg h1, if_neg h2, if_neg h3, if_neg h4])
          have h4' : ¬ ((s.ss.length : Nat) : Int) = 64 := by omega
          have hl : s.ss.length < 64 := by have := HOK.out.few; omega
          have HL := hide hl
          have HB := hide (show 0 ≤ bound ∧ bound ≤ H by omega)
          have hrv : resvL (s.ss ++ [⟨id, bound, 0, true⟩]) = resvL s.ss := by rw [resvL_append]; simp [resvL]
          have HSA := hide (fun (w1 : World) (ho : Only [] w w1) => (show SRw (w1.alloc (.cells #[.int .i64 id, .int .i64 bound, .int .i64 0, .bool true] 48)) (.slice A s.ss.length cap) s.ss ∧ SeatsAt (w1.alloc (.cells #[.int .i64 id, .int .i64 bound, .int .i64 0, .bool true] 48)) (.slice (some ⟨w1.heap.size, 0, none⟩) 1 1) [⟨id, bound, 0, true⟩] from by
            refine ⟨hi.row.only (ho.alloc _) (by simp), .inr ⟨_, 0, 1, rfl, fun _ => by simp, fun j u hu => ?_⟩⟩
            rw [Nat.zero_add, (Blk.new w1 48 _).cell, ← hu, List.getElem?_toArray]
            rfl))
          have HST := hide (fun (w1 : World) (ho : Only [] w w1) (A' : Option Addr) (n' c' : Nat) (w2 : World) (hr : SRw w2 (.slice A' n' c') (s.ss ++ [⟨id, bound, 0, true⟩])) (ho2 : Only (Value.slice A s.ss.length cap).ownBlock.toList (w1.alloc (.cells #[.int .i64 id, .int .i64 bound, .int .i64 0, .bool true] 48)) w2) =>
            (show w2.cell? ⟨g, 3, none⟩ = some (.slice A s.ss.length cap) ∧ w2.frozen? ⟨g, 3, none⟩ = false ∧ IsGt (w2.setCell ⟨g, 3, none⟩ (.slice A' n' c')) g H s.L (resvL (s.ss ++ [⟨id, bound, 0, true⟩])) (.slice A' n' c') (s.ss ++ [⟨id, bound, 0, true⟩]) from by
              rw [hrv]
              have h5 := hi.only (ho.alloc (.cells #[.int .i64 id, .int .i64 bound, .int .i64 0, .bool true] 48)) (by simp) (by simp)
              have hb : Blk w2 g 59 _ := h5.blk.only ho2 (fun hm => h5.far g (by simpa using hm) rfl)
              exact ⟨hb.cell 3, hb.frozen 3, h5.setV hr ho2 (by simp; omega)⟩))
          have HSM := hide (show Small H s.L (resvL (s.ss ++ [⟨id, bound, 0, true⟩])) (s.ss ++ [⟨id, bound, 0, true⟩]) from by
            rw [hrv]
            have h5 := HOK.out
            refine ⟨h5.size, h5.l0, h5.r0, h5.sum, fun x hx => ?_, by simp; omega⟩
            rcases List.mem_append.1 hx with hx | hx
            · exact h5.seat x hx
            · simp at hx
              subst hx
              have := HB.out
              simp
              omega)
          clear hi hl hrv
          go_enter Try.func14, Try.ntmps14
          go_wp2_with (first | (go_at_call 31; refine HCL.out.mono ?_; rintro e w' ⟨rfl, rfl⟩) | (go_at_call 32; refine HAT.out.mono ?_; rintro e w1 ⟨rfl, ho⟩; have HO := hide ho; obtain ⟨k0, k3⟩ := HC0.out w1 ho; clear ho) | (at_builtin; refine wpList_append_seats (v := .slice A s.ss.length cap) (zs := [⟨id, bound, 0, true⟩]) (x := .slice (some ⟨w1.heap.size, 0, none⟩) 1 1) rfl _ _ rfl rfl (HSA.out _ HO.out).1 rfl (HSA.out _ HO.out).2 (by have := HL.out; simp; omega) ?_; rintro v' w2 hr ho hk ⟨A', c', ev⟩; simp only [List.length_append, List.length_singleton] at ev; subst ev; obtain ⟨j1, j2, hj⟩ := HST.out _ HO.out _ _ _ _ hr ho; have HO2 := hide ho; have HK := hide hk; have HGT := hide hj; have HAD := hide (gadmit_is hj HSM.out); clear hr ho hk hj) | (go_at_call 33; refine HAD.out.mono ?_; rintro e w5 ⟨v5, rfl, hk5, hg5, ho5⟩; obtain ⟨A5, c5, rfl, _⟩ := hk5.form; have HK5 := hide hk5; have HG5 := hide hg5; have HO5 := hide ho5; clear hk5 hg5 ho5))
          go_ret2
          rw [HE.out]
          refine ⟨rfl, admitted (((HO.out.mono (by simp)).alloc _ |>.trans' (HO2.out.mono (S' := g :: (Value.slice A s.ss.length cap).ownBlock.toList) (fun k _ hk => by simp at hk ⊢; exact .inr hk)) (fun k _ hk => hk)).setCell _ (by simp)) (fun q hq => ?_) HG5.out HSM.out HO5.out⟩
          rcases HK.out q hq with h | h
          · exact .inl h
          · exact .inr (by have := HO.out.size; simp at h; omega)
end
end Go.Proofs.Ytflgcnlncljefaa
