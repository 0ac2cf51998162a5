/-
  The console (parapet/pipe): Write, Output, New, End, packed.
-/
import Derived.Test.YteljjngmhldfbaaPiConD
namespace Go.Proofs.Yteljjngmhldfbaa
open Go.ChangeShapes Go.WideShapes Go.ChangeAt Go.RowKit
set_option linter.unusedVariables false
set_option linter.unusedSimpArgs false
section
variable {w w' : World} {g B : Nat} {v1 v2 v1' v2' : Value} {I O I' O' : List Int} {en en' : Bool} {S F F' : List Nat}
set_option maxRecDepth 100000 in
set_option maxHeartbeats 1000000 in
theorem coWrite_is (h : Co w g B F I en O) (hB : B ≤ w.heap.size) {A1 : Option Addr} {m c : Nat} {zs : List Int} (hs : Sees w A1 m zs) (hA1 : A1 = none → m = 0 ∧ c = 0) (hu : U8 zs) (hm : m ≤ 140737488355328) :
    Calls Try.prog 22 #[.pointer (some ⟨g, 0, none⟩), .slice A1 m c] w fun e w' => e = .returned (.tuple #[.int .i64 (if 1048576 < O.length + m then 0 else (m : Int)), .int .i64 (if 1048576 < O.length + m then 2 else 0)]) ∧ CApp w w' g B F I en (if 1048576 < O.length + m then O else O ++ zs) := by
  have HCO := hide h
  obtain ⟨v1, v2, h, hF, hFl⟩ := h
  have H := hide h
  obtain ⟨A, d, e0, -⟩ := h.out.form
  subst e0
  have hfew := h.few.2
  have c3 := h.c3
  have f3 := h.blk.frozen 3
  have HC := hide (coclosed_is h)
  by_cases hno : 1048576 < O.length + m
  · simp only [if_pos hno]
    have FIN := hide (show CApp w w g B F I en O from ⟨F, ⟨Only.refl _ _, fun q hq => .inl hq⟩, HCO.out⟩)
    have hd : decide (1048576 - (O.length : Int) < m) = true := decide_eq_true (by omega)
    clear h hF hFl hno hs
    go_enter Try.func22, Try.ntmps22
    go_wp2_with (go_at_call 45; refine HC.out.mono ?_; rintro e w' ⟨rfl, rfl⟩)
    go_ret2
    exact ⟨rfl, FIN.out⟩
  · simp only [if_neg hno]
    have hfit : O.length + m ≤ 1048576 := by omega
    have hd : decide (1048576 - (O.length : Int) < m) = false := decide_eq_false (by omega)
    have HFIN := hide (fun (v' : Value) (w2 : World) (hr : BRow w2 B v' (O ++ zs)) (ho : Only (Value.slice A O.length d).ownBlock.toList w w2) (hk : ∀ q, v'.ownBlock = some q → (Value.slice A O.length d).ownBlock = some q ∨ w.heap.size ≤ q) =>
      (show ∃ A2 L d2, v' = .slice A2 L d2 ∧ w2.frozen? ⟨g, 3, none⟩ = false ∧ (∃ u, w2.cell? ⟨g, 3, none⟩ = some u) ∧ CApp w (w2.setCell ⟨g, 3, none⟩ (.slice A2 L d2)) g B F I en (O ++ zs) from by
        obtain ⟨A2, d2, e2, -⟩ := hr.sees
        subst e2
        have hg2 : g ∉ (Value.slice A O.length d).ownBlock.toList := fun hm => H.out.g_ne.2 (by simpa using hm)
        have hIs := H.out.setOut ho hg2 (fun q hq hm => H.out.apart q hq (by simpa using hm)) hr hk (by rw [List.length_append, hs.1]; exact hfit) (H.out.u8.2.append hu)
        obtain ⟨F', hC, hT⟩ := Co.pack (w := w) (F := F) hIs hFl (by simpa [World.setCell] using ho.size) hB (hF _ (by simp [coF])) (fun q hq => .inl (hF _ (by simp [coF]; exact .inr (.inl hq)))) (fun q hq => (hk q hq).elim (fun e => .inl (hF _ (by simp [coF]; exact .inr (.inr e)))) .inr)
        exact ⟨A2, _, d2, rfl, (H.out.blk.only ho hg2).frozen 3, ⟨_, (H.out.blk.only ho hg2).cell 3⟩, F', ⟨(ho.mono (fun q _ hm => hF _ (by simp [coF]; exact .inr (.inr (by simpa using hm))))).setCell _ (fun _ => hF _ (by simp [coF])), hT⟩, hC⟩))
    have HROW := hide h.out
    have HS := hide hs
    have HA1 := hide hA1
    have HBG := hide (show O.length + m ≤ 140737488355328 by omega)
    clear h hF hFl hno hs hA1 hfit
    go_enter Try.func22, Try.ntmps22
    go_wp2_with (first | (go_at_call 45; refine HC.out.mono ?_; rintro e w' ⟨rfl, rfl⟩) | (at_builtin; refine wpList_append_b (v := .slice A O.length d) rfl _ _ rfl rfl HROW.out A1 m c rfl HA1.out HS.out HBG.out hB ?_; intro v7 w7 hr7 ho7 hk7; obtain ⟨A2, L, d2, rfl, f7, ⟨u7, c7⟩, hX7⟩ := HFIN.out v7 w7 hr7 ho7 hk7; have HX7 := hide hX7; clear hr7 ho7 hk7 hX7))
    go_ret2
    exact ⟨rfl, HX7.out⟩
theorem coOutput_is (h : Co w g B F I en O) : Calls Try.prog 28 #[.pointer (some ⟨g, 0, none⟩)] w fun e w' => (∃ v, e = .returned v ∧ New w' w.heap.size v O) ∧ Only [] w w' := by
  obtain ⟨v1, v2, h, hF, hFl⟩ := h
  obtain ⟨A, d, e0, hs, hA, hb⟩ := h.out.sees
  subst e0
  have hfew := h.few.2
  have c3 := h.c3
  have HC := hide (coclosed_is h)
  rcases A with _ | ad
  · have h0 := hA rfl
    have hO : O = [] := List.eq_nil_of_length_eq_zero h0.1
    subst hO
    clear h hF hFl hs hA hb h0
    go_enter Try.func28, Try.ntmps28
    go_wp2_with (first | (go_at_call 45; refine HC.out.mono ?_; rintro e w' ⟨rfl, rfl⟩) | (go_at_call 46; refine (clone_nil _ _ _).mono ?_; rintro e w' ⟨rfl, rfl⟩))
    go_ret
    exact ⟨⟨_, rfl, .inl ⟨rfl, rfl⟩⟩, Only.refl _ _⟩
  · have HCL := hide (clone_ok ad O.length d O w rfl (by omega) (fun i hi => by
      obtain ⟨b, o, e, _, hc⟩ := hs.2 (by omega)
      injection e with e
      subst e
      rw [add_at]
      exact hc i hi))
    clear h hF hFl hs hA hb
    go_enter Try.func28, Try.ntmps28
    go_wp2_with (first | (go_at_call 45; refine HC.out.mono ?_; rintro e w' ⟨rfl, rfl⟩) | (go_at_call 46; refine HCL.out.mono ?_; rintro e w5 ⟨v5, rfl, hf5, ho5⟩; have HF5 := hide hf5; have HO5 := hide ho5; clear hf5 ho5))
    go_ret
    exact ⟨⟨_, rfl, .inr HF5.out⟩, HO5.out⟩
theorem coNewP_is (w : World) : Calls Try.prog 13 #[] w fun e w' => e = .returned (.pointer (some ⟨w.heap.size, 0, none⟩)) ∧ Only [] w w' ∧ Co w' w.heap.size w.heap.size [w.heap.size] [] false [] :=
  (coNew_is w).mono fun e w' ⟨h1, h2, h3⟩ => ⟨h1, h2, _, _, h3, by simp [coF, Value.ownBlock], fun q hq => by simp at hq; subst hq; exact ⟨Nat.le_refl _, h3.blk.lt⟩⟩
theorem coEndP_is (h : Co w g B F I en O) : Calls Try.prog 24 #[.pointer (some ⟨g, 0, none⟩)] w fun e w' => e = .returned (.tuple #[]) ∧ Only F w w' ∧ Co w' g B F I true O := by
  obtain ⟨v1, v2, h, hF, hFl⟩ := h
  refine (coEnd_is h).mono ?_
  rintro e w' ⟨rfl, ho, h2⟩
  exact ⟨rfl, ho.mono (fun q _ hq => by simp at hq; subst hq; exact hF _ (by simp [coF])), v1, v2, h2, hF, fun q hq => ⟨(hFl q hq).1, Nat.lt_of_lt_of_le (hFl q hq).2 ho.size⟩⟩
end
end Go.Proofs.Yteljjngmhldfbaa
