/-
  The console (parapet/pipe): Read, Type, Write, Output; packed.
-/
import Derived.Test.YteljjngmhldfbaaPiDel
import Derived.Test.YteljjngmhldfbaaPiSpoil
namespace Go.Proofs.Yteljjngmhldfbaa
open Go.ChangeShapes Go.WideShapes Go.ChangeAt Go.RowKit
set_option linter.unusedVariables false
set_option linter.unusedSimpArgs false
/-- A console, its blocks in F, none of them below B. -/
def Co (w : World) (g B : Nat) (F : List Nat) (I : List Int) (en : Bool) (O : List Int) : Prop :=
  ∃ v1 v2, IsCo w g B v1 v2 I en O ∧ (∀ q ∈ coF g v1 v2, q ∈ F) ∧ ∀ q ∈ F, B ≤ q ∧ q < w.heap.size
/-- Only F was turned; what is in F' was in F, or is new. -/
def TnF (w w' : World) (F F' : List Nat) : Prop := Only F w w' ∧ ∀ q ∈ F', q ∈ F ∨ w.heap.size ≤ q
section
variable {w w' : World} {g B : Nat} {v1 v2 v1' v2' : Value} {I O I' O' : List Int} {en en' : Bool} {S F F' : List Nat}
theorem Co.only (h : Co w g B F I en O) (ho : Only S w w') (hs : ∀ q ∈ F, q ∉ S) : Co w' g B F I en O := by
  obtain ⟨v1, v2, h1, h2, h3⟩ := h
  exact ⟨v1, v2, h1.only ho (fun q hq => hs q (h2 q hq)), h2, fun q hq => ⟨(h3 q hq).1, Nat.lt_of_lt_of_le (h3 q hq).2 ho.size⟩⟩
theorem Co.quiet (h : Co w g B F I en O) (ho : Only [] w w') : Co w' g B F I en O := h.only ho (by simp)
theorem IsCo.g_ne (h : IsCo w g B v1 v2 I en O) : v1.ownBlock ≠ some g ∧ v2.ownBlock ≠ some g :=
  ⟨fun e => h.in_.apart h.blk (by decide) g e rfl, fun e => h.out.apart h.blk (by decide) g e rfl⟩
/-- The row of what waits is another one. -/
theorem IsCo.setIn (h : IsCo w g B v1 v2 I en O) {w1 : World} {T : List Nat} (ho : Only T w w1) (hg : g ∉ T) (h2 : ∀ q, v2.ownBlock = some q → q ∉ T) (hr : BRow w1 B v1' I') (hn : ∀ q, v1'.ownBlock = some q → v1.ownBlock = some q ∨ w.heap.size ≤ q) (hl : I'.length ≤ 65536) (hu : U8 I') :
    IsCo (w1.setCell ⟨g, 1, none⟩ v1') g B v1' v2 I' en O := by
  have hb := h.blk.only ho hg
  have hn1 := hr.apart hb (by decide)
  have ho2 : Only [g] w1 (w1.setCell ⟨g, 1, none⟩ v1') := (Only.refl _ _).setCell _ (by simp)
  refine ⟨hb.set_ 1 v1', hr.only ho2 (fun q hq => by simpa using hn1 q hq), (h.out.only ho h2).only ho2 (fun q hq hm => ?_), fun q hq hq2 => ?_, ⟨hl, h.few.2⟩, ⟨hu, h.u8.2⟩⟩
  · simp at hm; subst hm; exact h.g_ne.2 hq
  · rcases hn q hq with e | e
    · exact h.apart q e hq2
    · have := (h.out.at_ hq2).2.1; omega
theorem IsCo.setOut (h : IsCo w g B v1 v2 I en O) {w1 : World} {T : List Nat} (ho : Only T w w1) (hg : g ∉ T) (h1 : ∀ q, v1.ownBlock = some q → q ∉ T) (hr : BRow w1 B v2' O') (hn : ∀ q, v2'.ownBlock = some q → v2.ownBlock = some q ∨ w.heap.size ≤ q) (hl : O'.length ≤ 1048576) (hu : U8 O') :
    IsCo (w1.setCell ⟨g, 3, none⟩ v2') g B v1 v2' I en O' := by
  have hb := h.blk.only ho hg
  have hn1 := hr.apart hb (by decide)
  have ho2 : Only [g] w1 (w1.setCell ⟨g, 3, none⟩ v2') := (Only.refl _ _).setCell _ (by simp)
  refine ⟨hb.set_ 3 v2', (h.in_.only ho h1).only ho2 (fun q hq hm => ?_), hr.only ho2 (fun q hq => by simpa using hn1 q hq), fun q hq hq2 => ?_, ⟨h.few.1, hl⟩, ⟨h.u8.1, hu⟩⟩
  · simp at hm; subst hm; exact h.g_ne.1 hq
  · rcases hn q hq2 with e | e
    · exact h.apart q hq e
    · have := (h.in_.at_ hq).2.1; omega
/-- Packed again. -/
theorem Co.pack (h : IsCo w' g B v1' v2' I' en' O') (hf : ∀ q ∈ F, B ≤ q ∧ q < w.heap.size) (hs : w.heap.size ≤ w'.heap.size) (hB : B ≤ w.heap.size) (hg : g ∈ F) (h1 : ∀ q, v1'.ownBlock = some q → q ∈ F ∨ w.heap.size ≤ q) (h2 : ∀ q, v2'.ownBlock = some q → q ∈ F ∨ w.heap.size ≤ q) :
    ∃ F', Co w' g B F' I' en' O' ∧ ∀ q ∈ F', q ∈ F ∨ w.heap.size ≤ q := by
  refine ⟨coF g v1' v2', ⟨v1', v2', h, fun q hq => hq, fun q hq => ?_⟩, fun q hq => ?_⟩
  · simp [coF] at hq
    rcases hq with e | e | e
    · subst e; exact ⟨(hf _ hg).1, h.blk.lt⟩
    · exact ⟨(h.in_.at_ e).1, (h.in_.at_ e).2.1⟩
    · exact ⟨(h.out.at_ e).1, (h.out.at_ e).2.1⟩
  · simp [coF] at hq
    rcases hq with e | e | e
    · subst e; exact .inl hg
    · exact h1 q e
    · exact h2 q e
/-- What a read of a console leaves. -/
def CRead (w w' : World) (e : Ending) (g B : Nat) (F : List Nat) (en : Bool) (O : List Int) (R : List Int × Int × List Int) : Prop :=
  ∃ v F', e = .returned (.tuple #[v, .int .i64 R.2.1]) ∧ New w' w.heap.size v R.1 ∧ TnF w w' F F' ∧ Co w' g B F' R.2.2 en O ∧ ∀ q ∈ F', v.ownBlock ≠ some q
set_option maxRecDepth 100000 in
set_option maxHeartbeats 1000000 in
theorem coRead_is (h : Co w g B F I en O) (n : Int) (hB : B ≤ w.heap.size) : Calls Try.prog 21 #[.pointer (some ⟨g, 0, none⟩), .int .i64 n] w fun e w' => CRead w w' e g B F en O (readP I (!en) n) := by
  have HCO := hide h
  obtain ⟨v1, v2, h, hF, hFl⟩ := h
  rcases grant_read I (!en) n with ⟨e1, eG, eR⟩ | ⟨m, hm1, hm2, eG, eR⟩
  · rw [eR]
    refine (coRead_none h eG).mono ?_
    rintro e w' ⟨rfl, ho⟩
    exact ⟨_, F, rfl, .inl ⟨rfl, rfl⟩, ⟨ho.mono (by simp), fun q hq => .inl hq⟩, HCO.out.quiet ho, fun q hq => by simp [Value.ownBlock]⟩
  · rw [eR]
    have H := hide h
    obtain ⟨A, c, rfl, hs, hA, hb⟩ := h.in_.sees
    have hfew := h.few.1
    have c1 := h.c1
    have c2 := h.c2
    have f1 := h.blk.frozen 1
    have HC := hide (coclosed_is h)
    have HG := hide (fun W => (granted_is n I.length (!en) W (by omega)).mono (R' := fun e w' => e = .returned (.tuple #[.int .i64 (grantP n I.length (!en)).1, .int .i64 (grantP n I.length (!en)).2]) ∧ w' = W) fun _ _ h => ⟨h.1, h.2.symm⟩)
    rw [eG] at HG
    obtain ⟨b, cap, cur, e, hblk, hcl, hcm, hBb⟩ := h.in_.blk (by omega)
    injection e with e1 e2 e3
    subst e1 e3
    have hm0 : ((m : Int) == 0) = false := beq_eq_false_iff_ne.2 (by omega)
    have hmc : (m : Int) ≤ c := by omega
    have hmI : (m : Int) ≤ I.length := by omega
    have HTL := hide (show (I.take m).length = m by rw [List.length_take]; omega)
    have HCL := hide (fun W (hW : Only [] w W) => clone_ok ⟨b, 0, none⟩ m c (I.take m) W HTL.out (by omega) (fun i hi => by
      rw [add_at, Nat.zero_add, hW.cell hblk.lt (by simp), hblk.cell, gb_take hi]
      exact u8l_get I cur i (by omega)))
    have HDL := hide (fun W (hW : Only [] w W) => deleteB_is (h.in_.only hW (by simp)) m (by omega) hm2)
    have HFF := hide (And.intro hF hFl)
    have HM := hide (And.intro hm1 hm2)
    clear h hs hA hb eG eR e2 hblk hcl hcm hF hFl hm1 hm2
    go_enter Try.func21, Try.ntmps21
    go_wp2_with (go_at_call 45; refine HC.out.mono ?_; rintro e w' ⟨rfl, rfl⟩)
    go_quiet (first | (go_at_call 41; exact Calls.quiet_of_same (HG.out _)))
    go_wp2_with (go_at_call 46; refine (HCL.out _ (by repeat (first | (with_reducible exact Only.refl _ _) | (with_reducible apply Only.drew) | (with_reducible apply Only.drewN)))).mono ?_; rintro e w5 ⟨v5, rfl, hf5, ho5⟩; have HF5 := hide hf5; have HO5 := hide (show Only [] w w5 from (show Only [] w _ from (by repeat (first | (with_reducible exact Only.refl _ _) | (with_reducible apply Only.drew) | (with_reducible apply Only.drewN)))).trans ho5); have c5 := (H.out.quiet HO5.out).c1; clear hf5 ho5)
    refine (HDL.out _ HO5.out).mono ?_
    rintro e w6 ⟨v6, rfl, hr6, how6, ho6⟩
    obtain ⟨A6, c6, e6, -⟩ := hr6.sees
    have HO6 := hide ho6
    have hg6 : g ∉ (Value.slice (some ⟨b, 0, none⟩) I.length c).ownBlock.toList := fun hm => H.out.g_ne.1 (by simpa using hm)
    have f6 := ((H.out.quiet HO5.out).blk.only ho6 hg6).frozen 1
    have d6 := ((H.out.quiet HO5.out).blk.only ho6 hg6).cell 1
    have HR6 := hide hr6
    have HW6 := hide how6
    rw [List.length_drop] at e6
    subst e6
    clear hr6 how6 ho6 hg6
    go_wp2
    go_ret2
    have hIs := (H.out.quiet HO5.out).setIn HO6.out (fun hm => H.out.g_ne.1 (by simpa using hm)) (fun q hq hm => H.out.apart q (by simpa using hm) hq) HR6.out (fun q hq => .inl (by rw [← HW6.out]; exact hq)) (by rw [List.length_drop]; omega) (H.out.u8.1.drop _)
    have hsz : w.heap.size ≤ w6.heap.size := Nat.le_trans HO5.out.size HO6.out.size
    obtain ⟨d5, e5, hd5x, hd5l⟩ := HF5.out.own
    have hd5 : w.heap.size ≤ d5 := hd5x
    have hgF : g ∈ F := HFF.out.1 _ (by simp [coF])
    have hbF : ∀ q, (Value.slice (some ⟨b, 0, none⟩) I.length c).ownBlock = some q → q ∈ F := fun q hq => HFF.out.1 _ (by simp [coF]; exact .inr (.inl hq))
    have hlt := fun q hq => (HFF.out.2 q hq).2
    refine ⟨v5, F, rfl, .inr ((HF5.out.only HO6.out (fun d hd hm => ?_)).only ((Only.refl [g] w6).setCell (p := ⟨g, 1, none⟩) _ (by simp)) (fun d hd hm => ?_)), ⟨((HO5.out.mono (by simp)).trans (HO6.out.mono (fun q _ hm => hbF q (by simpa using hm)))).setCell _ (fun _ => hgF), fun q hq => .inl hq⟩, ⟨_, _, hIs, fun q hq => ?_, fun q hq => ⟨(HFF.out.2 q hq).1, by simpa [World.setCell] using Nat.lt_of_lt_of_le (hlt q hq) hsz⟩⟩, fun q hq e => ?_⟩
    · rw [e5] at hd; injection hd with hd
      have := hlt _ (hbF d (by simpa using hm)); omega
    · rw [e5] at hd; injection hd with hd
      simp at hm
      have := hlt _ hgF; omega
    · simp [coF] at hq
      rcases hq with e | e | e
      · subst e; exact hgF
      · exact hbF q (by rw [← HW6.out]; exact e)
      · exact HFF.out.1 _ (by simp [coF]; exact .inr (.inr e))
    · rw [e5] at e; injection e with e
      have := hlt q hq; omega
/-- What a call leaves that appends. -/
def CApp (w w' : World) (g B : Nat) (F : List Nat) (I : List Int) (en : Bool) (O : List Int) : Prop := ∃ F', TnF w w' F F' ∧ Co w' g B F' I en O
set_option maxRecDepth 100000 in
set_option maxHeartbeats 1000000 in
theorem coType_is (h : Co w g B F I en O) (hB : B ≤ w.heap.size) {A1 : Option Addr} {m c : Nat} {zs : List Int} (hs : Sees w A1 m zs) (hA1 : A1 = none → m = 0 ∧ c = 0) (hu : U8 zs) (hm : m ≤ 140737488355328) :
    Calls Try.prog 26 #[.pointer (some ⟨g, 0, none⟩), .slice A1 m c] w fun e w' => e = .returned (.int .i64 (if en = true ∨ 65536 < I.length + m then 2 else 0)) ∧ CApp w w' g B F (if en = true ∨ 65536 < I.length + m then I else I ++ zs) en O := by
  have HCO := hide h
  obtain ⟨v1, v2, h, hF, hFl⟩ := h
  have H := hide h
  obtain ⟨A, d, e0, -⟩ := h.in_.form
  subst e0
  have hfew := h.few.1
  have c1 := h.c1
  have c2 := h.c2
  have f1 := h.blk.frozen 1
  have HC := hide (coclosed_is h)
  by_cases hno : en = true ∨ 65536 < I.length + m
  · rw [if_pos hno, if_pos hno]
    have fin : CApp w w g B F I en O := ⟨F, ⟨Only.refl _ _, fun q hq => .inl hq⟩, HCO.out⟩
    have FIN := hide fin
    by_cases hen : en = true
    · subst hen
      clear h hF hFl hno fin hs
      go_enter Try.func26, Try.ntmps26
      go_wp2_with (go_at_call 45; refine HC.out.mono ?_; rintro e w' ⟨rfl, rfl⟩)
      go_ret
      exact ⟨rfl, FIN.out⟩
    · have hen2 : en = false := by simpa using hen
      subst hen2
      have hd : decide (65536 - (I.length : Int) < m) = true := decide_eq_true (by simp at hno; omega)
      clear h hF hFl hno fin hs hen
      go_enter Try.func26, Try.ntmps26
      go_wp2_with (go_at_call 45; refine HC.out.mono ?_; rintro e w' ⟨rfl, rfl⟩)
      go_ret
      exact ⟨rfl, FIN.out⟩
  · rw [if_neg hno, if_neg hno]
    have hen2 : en = false := by cases en <;> simp_all
    subst hen2
    have hfit : I.length + m ≤ 65536 := by simp at hno; omega
    have hd : decide (65536 - (I.length : Int) < m) = false := decide_eq_false (by omega)
    have HFIN := hide (fun (v' : Value) (w2 : World) (hr : BRow w2 B v' (I ++ zs)) (ho : Only (Value.slice A I.length d).ownBlock.toList w w2) (hk : ∀ q, v'.ownBlock = some q → (Value.slice A I.length d).ownBlock = some q ∨ w.heap.size ≤ q) =>
      (show ∃ A2 L d2, v' = .slice A2 L d2 ∧ w2.frozen? ⟨g, 1, none⟩ = false ∧ (∃ u, w2.cell? ⟨g, 1, none⟩ = some u) ∧ CApp w (w2.setCell ⟨g, 1, none⟩ (.slice A2 L d2)) g B F (I ++ zs) false O from by
        obtain ⟨A2, d2, e2, -⟩ := hr.sees
        subst e2
        have hg2 : g ∉ (Value.slice A I.length d).ownBlock.toList := fun hm => H.out.g_ne.1 (by simpa using hm)
        have hIs := H.out.setIn ho hg2 (fun q hq hm => H.out.apart q (by simpa using hm) hq) hr hk (by rw [List.length_append, hs.1]; exact hfit) (H.out.u8.1.append hu)
        obtain ⟨F', hC, hT⟩ := Co.pack (w := w) (F := F) hIs hFl (by simpa [World.setCell] using ho.size) hB (hF _ (by simp [coF])) (fun q hq => (hk q hq).elim (fun e => .inl (hF _ (by simp [coF]; exact .inr (.inl e)))) .inr) (fun q hq => .inl (hF _ (by simp [coF]; exact .inr (.inr hq))))
        exact ⟨A2, _, d2, rfl, (H.out.blk.only ho hg2).frozen 1, ⟨_, (H.out.blk.only ho hg2).cell 1⟩, F', ⟨(ho.mono (fun q _ hm => hF _ (by simp [coF]; exact .inr (.inl (by simpa using hm))))).setCell _ (fun _ => hF _ (by simp [coF])), hT⟩, hC⟩))
    have HROW := hide h.in_
    have HS := hide hs
    have HA1 := hide hA1
    have HBG := hide (show I.length + m ≤ 140737488355328 by omega)
    clear h hF hFl hno hs hA1 hfit
    go_enter Try.func26, Try.ntmps26
    go_wp2_with (first | (go_at_call 45; refine HC.out.mono ?_; rintro e w' ⟨rfl, rfl⟩) | (at_builtin; refine wpList_append_b (v := .slice A I.length d) rfl _ _ rfl rfl HROW.out A1 m c rfl HA1.out HS.out HBG.out hB ?_; intro v7 w7 hr7 ho7 hk7; obtain ⟨A2, L, d2, rfl, f7, ⟨u7, c7⟩, hX7⟩ := HFIN.out v7 w7 hr7 ho7 hk7; have HX7 := hide hX7; clear hr7 ho7 hk7 hX7))
    go_ret
    exact ⟨rfl, HX7.out⟩
end
end Go.Proofs.Yteljjngmhldfbaa
