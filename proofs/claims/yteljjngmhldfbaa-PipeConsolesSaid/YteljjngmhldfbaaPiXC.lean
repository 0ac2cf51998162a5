/-
  The document's console (parapetref21): Read, Type, Write, Ready; packed.
-/
import Derived.Test.YteljjngmhldfbaaPiConW
namespace Go.Proofs.Yteljjngmhldfbaa
open Go.ChangeShapes Go.WideShapes Go.ChangeAt Go.RowKit
set_option linter.unusedVariables false
set_option linter.unusedSimpArgs false
/-- The document's console in block g. -/
structure IsXc (w : World) (g B : Nat) (v1 v2 : Value) (I : List Int) (en : Bool) (O : List Int) : Prop where
  blk : Blk w g 37 #[v1, .bool en, v2]
  in_ : BRow w B v1 I
  out : BRow w B v2 O
  apart : ∀ q, v1.ownBlock = some q → v2.ownBlock ≠ some q
  few : I.length ≤ 65536 ∧ O.length ≤ 1048576
  u8 : U8 I ∧ U8 O
section
variable {w w' : World} {g B : Nat} {v1 v2 : Value} {I O : List Int} {en : Bool} {S : List Nat}
theorem IsXc.c0 (h : IsXc w g B v1 v2 I en O) : w.cell? ⟨g, 0, none⟩ = some v1 := h.blk.cell 0
theorem IsXc.c1 (h : IsXc w g B v1 v2 I en O) : w.cell? ⟨g, 1, none⟩ = some (.bool en) := h.blk.cell 1
theorem IsXc.c2 (h : IsXc w g B v1 v2 I en O) : w.cell? ⟨g, 2, none⟩ = some v2 := h.blk.cell 2
theorem IsXc.only (h : IsXc w g B v1 v2 I en O) (ho : Only S w w') (hs : ∀ q ∈ coF g v1 v2, q ∉ S) : IsXc w' g B v1 v2 I en O :=
  ⟨h.blk.only ho (hs _ (by simp [coF])), h.in_.only ho (fun q hq => hs _ (by simp [coF, hq])), h.out.only ho (fun q hq => hs _ (by simp [coF, hq])), h.apart, h.few, h.u8⟩
theorem IsXc.quiet (h : IsXc w g B v1 v2 I en O) (ho : Only [] w w') : IsXc w' g B v1 v2 I en O := h.only ho (by simp)
end
/-- A console, its blocks in F, none of them below B. -/
def Xc (w : World) (g B : Nat) (F : List Nat) (I : List Int) (en : Bool) (O : List Int) : Prop :=
  ∃ v1 v2, IsXc w g B v1 v2 I en O ∧ (∀ q ∈ coF g v1 v2, q ∈ F) ∧ ∀ q ∈ F, B ≤ q ∧ q < w.heap.size
section
variable {w w' : World} {g B : Nat} {v1 v2 v1' v2' : Value} {I O I' O' : List Int} {en en' : Bool} {S F F' : List Nat}
theorem Xc.only (h : Xc w g B F I en O) (ho : Only S w w') (hs : ∀ q ∈ F, q ∉ S) : Xc w' g B F I en O := by
  obtain ⟨v1, v2, h1, h2, h3⟩ := h
  exact ⟨v1, v2, h1.only ho (fun q hq => hs q (h2 q hq)), h2, fun q hq => ⟨(h3 q hq).1, Nat.lt_of_lt_of_le (h3 q hq).2 ho.size⟩⟩
theorem Xc.quiet (h : Xc w g B F I en O) (ho : Only [] w w') : Xc w' g B F I en O := h.only ho (by simp)
theorem IsXc.g_ne (h : IsXc w g B v1 v2 I en O) : v1.ownBlock ≠ some g ∧ v2.ownBlock ≠ some g :=
  ⟨fun e => h.in_.apart h.blk (by decide) g e rfl, fun e => h.out.apart h.blk (by decide) g e rfl⟩
/-- The row of what waits is another one. -/
theorem IsXc.setIn (h : IsXc w g B v1 v2 I en O) {w1 : World} {T : List Nat} (ho : Only T w w1) (hg : g ∉ T) (h2 : ∀ q, v2.ownBlock = some q → q ∉ T) (hr : BRow w1 B v1' I') (hn : ∀ q, v1'.ownBlock = some q → v1.ownBlock = some q ∨ w.heap.size ≤ q) (hl : I'.length ≤ 65536) (hu : U8 I') :
    IsXc (w1.setCell ⟨g, 0, none⟩ v1') g B v1' v2 I' en O := by
  have hb := h.blk.only ho hg
  have hn1 := hr.apart hb (by decide)
  have ho2 : Only [g] w1 (w1.setCell ⟨g, 0, none⟩ v1') := (Only.refl _ _).setCell _ (by simp)
  refine ⟨hb.set_ 0 v1', hr.only ho2 (fun q hq => by simpa using hn1 q hq), (h.out.only ho h2).only ho2 (fun q hq hm => ?_), fun q hq hq2 => ?_, ⟨hl, h.few.2⟩, ⟨hu, h.u8.2⟩⟩
  · simp at hm; subst hm; exact h.g_ne.2 hq
  · rcases hn q hq with e | e
    · exact h.apart q e hq2
    · have := (h.out.at_ hq2).2.1; omega
theorem IsXc.setOut (h : IsXc w g B v1 v2 I en O) {w1 : World} {T : List Nat} (ho : Only T w w1) (hg : g ∉ T) (h1 : ∀ q, v1.ownBlock = some q → q ∉ T) (hr : BRow w1 B v2' O') (hn : ∀ q, v2'.ownBlock = some q → v2.ownBlock = some q ∨ w.heap.size ≤ q) (hl : O'.length ≤ 1048576) (hu : U8 O') :
    IsXc (w1.setCell ⟨g, 2, none⟩ v2') g B v1 v2' I en O' := by
  have hb := h.blk.only ho hg
  have hn1 := hr.apart hb (by decide)
  have ho2 : Only [g] w1 (w1.setCell ⟨g, 2, none⟩ v2') := (Only.refl _ _).setCell _ (by simp)
  refine ⟨hb.set_ 2 v2', (h.in_.only ho h1).only ho2 (fun q hq hm => ?_), hr.only ho2 (fun q hq => by simpa using hn1 q hq), fun q hq hq2 => ?_, ⟨h.few.1, hl⟩, ⟨h.u8.1, hu⟩⟩
  · simp at hm; subst hm; exact h.g_ne.1 hq
  · rcases hn q hq2 with e | e
    · exact h.apart q hq e
    · have := (h.in_.at_ hq).2.1; omega
/-- Packed again. -/
theorem Xc.pack (h : IsXc w' g B v1' v2' I' en' O') (hf : ∀ q ∈ F, B ≤ q ∧ q < w.heap.size) (hs : w.heap.size ≤ w'.heap.size) (hB : B ≤ w.heap.size) (hg : g ∈ F) (h1 : ∀ q, v1'.ownBlock = some q → q ∈ F ∨ w.heap.size ≤ q) (h2 : ∀ q, v2'.ownBlock = some q → q ∈ F ∨ w.heap.size ≤ q) :
    ∃ F', Xc w' g B F' I' en' O' ∧ ∀ q ∈ F', q ∈ F ∨ w.heap.size ≤ q := by
  refine ⟨coF g v1' v2', ⟨v1', v2', h, fun q hq => hq, fun q hq => ?_⟩, fun q hq => ?_⟩
  · simp [coF] at hq
    rcases hq with e | e | e
    · subst e; exact ⟨(hf _ hg).1, h.blk.lt⟩
    · exact ⟨(h.in_.at_ e).1, (h.in_.at_ e).2.1⟩
    · exact ⟨(h.out.at_ e).1, (h.out.at_ e).2.1⟩
  · simp [coF] at hq
    rcases hq with e | e | e
    · subst e; exact .inl hg
    · exact h1 q e
    · exact h2 q e
/-- What a read of the document's console leaves. -/
def XcRead (w w' : World) (e : Ending) (g B : Nat) (F : List Nat) (en : Bool) (O : List Int) (R : List Int × Int × List Int) : Prop :=
  ∃ v F', e = .returned (.tuple #[v, .int .i64 R.2.1]) ∧ New w' w.heap.size v R.1 ∧ TnF w w' F F' ∧ Xc w' g B F' R.2.2 en O
/-- What a call leaves that appends. -/
def XApp (w w' : World) (g B : Nat) (F : List Nat) (I : List Int) (en : Bool) (O : List Int) : Prop := ∃ F', TnF w w' F F' ∧ Xc w' g B F' I en O
theorem x21CReady_is (h : Xc w g B F I en O) (b : Bool) : Calls Try.prog 39 #[.pointer (some ⟨g, 0, none⟩), .bool b] w fun e w' => e = .returned (.bool (b || decide (0 < I.length) || en)) ∧ w = w' := by
  obtain ⟨v1, v2, h, hF, hFl⟩ := h
  obtain ⟨A, c, rfl, -⟩ := h.in_.form
  have c0 := h.c0
  have c1 := h.c1
  clear h hF hFl
  cases b
  · cases en
    · go_enter Try.func39, Try.ntmps39
      go_wp2
      go_ret
      exact ⟨by simp, rfl⟩
    · go_enter Try.func39, Try.ntmps39
      go_wp2
      go_ret
      exact ⟨by simp, rfl⟩
  · go_enter Try.func39, Try.ntmps39
    go_wp2
    go_ret
    exact ⟨rfl, rfl⟩
theorem TnF.same (w : World) (F : List Nat) : TnF w w F F := ⟨Only.refl _ _, fun q hq => .inl hq⟩
set_option maxRecDepth 100000 in
set_option maxHeartbeats 1000000 in
theorem x21CRead_is (h : Xc w g B F I en O) (n : Int) (hB : B ≤ w.heap.size) : Calls Try.prog 36 #[.pointer (some ⟨g, 0, none⟩), .int .i64 n] w fun e w' => XcRead w w' e g B F en O (readP I (!en) n) := by
  have HCO := hide h
  obtain ⟨v1, v2, h, hF, hFl⟩ := h
  have H := hide h
  obtain ⟨A, c, e0, -⟩ := h.in_.form
  subst e0
  have hfew := h.few.1
  have c0 := h.c0
  have c1 := h.c1
  by_cases k1 : n < 0
  · have HR := hide (show readP I (!en) n = ([], 1, I) by simp [readP, k1])
    clear h hF hFl
    go_enter Try.func36, Try.ntmps36
    go_wp2
    go_ret2
    rw [HR.out]
    exact ⟨_, F, rfl, .inl ⟨rfl, rfl⟩, TnF.same _ _, HCO.out⟩
  · by_cases k2 : n = 0
    · have HR := hide (show readP I (!en) n = ([], 0, I) by simp [readP, k2])
      subst k2
      clear h k1 hF hFl
      go_enter Try.func36, Try.ntmps36
      go_wp2
      go_ret2
      rw [HR.out]
      exact ⟨_, F, rfl, .inl ⟨rfl, rfl⟩, TnF.same _ _, HCO.out⟩
    · have k2b : (n == 0) = false := by simp [k2]
      by_cases k3 : I = []
      · subst k3
        cases en
        · have HR := hide (show readP [] true n = ([], 211, []) by simp [readP, k1, k2])
          clear h k2 hF hFl
          go_enter Try.func36, Try.ntmps36
          go_wp2
          go_ret2
          rw [HR.out]
          exact ⟨_, F, rfl, .inl ⟨rfl, rfl⟩, TnF.same _ _, HCO.out⟩
        · have HR := hide (show readP [] false n = ([], 0, []) by simp [readP, k1, k2])
          clear h k2 hF hFl
          go_enter Try.func36, Try.ntmps36
          go_wp2
          go_ret2
          rw [HR.out]
          exact ⟨_, F, rfl, .inl ⟨rfl, rfl⟩, TnF.same _ _, HCO.out⟩
      · have hpos : 0 < I.length := List.length_pos_iff.2 k3
        have HR := hide (show readP I (!en) n = (I.take n.toNat, 0, I.drop n.toNat) by simp [readP, k1, k2, k3])
        have k3b : ((I.length : Int) == 0) = false := by simp; omega
        have HT := hide (takes_is h.in_ hpos (by omega) (show 0 < n by omega))
        have HFF := hide (And.intro hF hFl)
        clear h k2 k3 hpos hF hFl
        go_enter Try.func36, Try.ntmps36
        go_wp2_with (go_at_call 48; refine HT.out.mono ?_; rintro e w5 ⟨v1, v2, rfl, hf, hb, hne, ho⟩; obtain ⟨A2, d2, e2, -⟩ := hb.sees; rw [List.length_drop] at e2; subst e2; have H5 := hide (And.intro hf (And.intro hb (And.intro hne ho))); have f5 := (H.out.quiet ho).blk.frozen 0; have c5 := (H.out.quiet ho).blk.cell 0; clear hf hb hne ho)
        go_ret2
        obtain ⟨hf, hb, hne, ho⟩ := H5.out
        have hbB : BRow w5 B (.slice A2 (I.length - n.toNat) d2) (I.drop n.toNat) := by
          obtain ⟨h2, h3⟩ := hb
          rcases h3 with h3 | ⟨g', cap, cur, e, hg, rest⟩
          · exact ⟨h2, .inl h3⟩
          · exact ⟨h2, .inr ⟨g', cap, cur, e, Nat.le_trans hB hg, rest⟩⟩
        have hIs := H.out.setIn ho (by simp) (by simp) hbB (fun q hq => .inr (hb.at_ hq).1) (by rw [List.length_drop]; omega) (H.out.u8.1.drop _)
        obtain ⟨F', hC, hT⟩ := Xc.pack (w := w) (F := F) hIs HFF.out.2 (by simpa [World.setCell] using ho.size) hB (HFF.out.1 _ (by simp [coF])) (fun q hq => .inr (hb.at_ hq).1) (fun q hq => .inl (HFF.out.1 _ (by simp [coF]; exact .inr (.inr hq))))
        rw [HR.out]
        refine ⟨v1, F', rfl, .inr (hf.only ((Only.refl [g] w5).setCell (p := ⟨g, 0, none⟩) _ (by simp)) (fun d hd hm => ?_)), ⟨(ho.mono (by simp)).setCell _ (fun _ => HFF.out.1 _ (by simp [coF])), hT⟩, hC⟩
        obtain ⟨d', e1, h1, h2⟩ := hf.own
        rw [hd] at e1; injection e1 with e1
        have := H.out.blk.lt
        simp at hm
        omega
set_option maxRecDepth 100000 in
set_option maxHeartbeats 1000000 in
theorem x21CType_is (h : Xc w g B F I en O) (hB : B ≤ w.heap.size) {A1 : Option Addr} {m c : Nat} {zs : List Int} (hs : Sees w A1 m zs) (hA1 : A1 = none → m = 0 ∧ c = 0) (hu : U8 zs) (hm : m ≤ 140737488355328) :
    Calls Try.prog 37 #[.pointer (some ⟨g, 0, none⟩), .slice A1 m c] w fun e w' => e = .returned (.int .i64 (if en = true ∨ 65536 < I.length + m then 2 else 0)) ∧ XApp w w' g B F (if en = true ∨ 65536 < I.length + m then I else I ++ zs) en O := by
  have HCO := hide h
  obtain ⟨v1, v2, h, hF, hFl⟩ := h
  have H := hide h
  obtain ⟨A, d, e0, -⟩ := h.in_.form
  subst e0
  have hfew := h.few.1
  have c0 := h.c0
  have c1 := h.c1
  have f1 := h.blk.frozen 0
  by_cases hno : en = true ∨ 65536 < I.length + m
  · rw [if_pos hno, if_pos hno]
    have fin : XApp w w g B F I en O := ⟨F, ⟨Only.refl _ _, fun q hq => .inl hq⟩, HCO.out⟩
    have FIN := hide fin
    by_cases hen : en = true
    · subst hen
      clear h hF hFl hno fin hs
      go_enter Try.func37, Try.ntmps37
      go_wp2
      go_ret
      exact ⟨rfl, FIN.out⟩
    · have hen2 : en = false := by simpa using hen
      subst hen2
      have hd : decide ((65536 : Int) < (I.length : Int) + m) = true := decide_eq_true (by simp at hno; omega)
      clear h hF hFl hno fin hs hen
      go_enter Try.func37, Try.ntmps37
      go_wp2
      go_ret
      exact ⟨rfl, FIN.out⟩
  · rw [if_neg hno, if_neg hno]
    have hen2 : en = false := by cases en <;> simp_all
    subst hen2
    have hfit : I.length + m ≤ 65536 := by simp at hno; omega
    have hd : decide ((65536 : Int) < (I.length : Int) + m) = false := decide_eq_false (by omega)
    have HFIN := hide (fun (v' : Value) (w2 : World) (hr : BRow w2 B v' (I ++ zs)) (ho : Only (Value.slice A I.length d).ownBlock.toList w w2) (hk : ∀ q, v'.ownBlock = some q → (Value.slice A I.length d).ownBlock = some q ∨ w.heap.size ≤ q) =>
      (show ∃ A2 L d2, v' = .slice A2 L d2 ∧ w2.frozen? ⟨g, 0, none⟩ = false ∧ (∃ u, w2.cell? ⟨g, 0, none⟩ = some u) ∧ XApp w (w2.setCell ⟨g, 0, none⟩ (.slice A2 L d2)) g B F (I ++ zs) false O from by
        obtain ⟨A2, d2, e2, -⟩ := hr.sees
        subst e2
        have hg2 : g ∉ (Value.slice A I.length d).ownBlock.toList := fun hm => H.out.g_ne.1 (by simpa using hm)
        have hIs := H.out.setIn ho hg2 (fun q hq hm => H.out.apart q (by simpa using hm) hq) hr hk (by rw [List.length_append, hs.1]; exact hfit) (H.out.u8.1.append hu)
        obtain ⟨F', hC, hT⟩ := Xc.pack (w := w) (F := F) hIs hFl (by simpa [World.setCell] using ho.size) hB (hF _ (by simp [coF])) (fun q hq => (hk q hq).elim (fun e => .inl (hF _ (by simp [coF]; exact .inr (.inl e)))) .inr) (fun q hq => .inl (hF _ (by simp [coF]; exact .inr (.inr hq))))
        exact ⟨A2, _, d2, rfl, (H.out.blk.only ho hg2).frozen 0, ⟨_, (H.out.blk.only ho hg2).cell 0⟩, F', ⟨(ho.mono (fun q _ hm => hF _ (by simp [coF]; exact .inr (.inl (by simpa using hm))))).setCell _ (fun _ => hF _ (by simp [coF])), hT⟩, hC⟩))
    have HROW := hide h.in_
    have HS := hide hs
    have HA1 := hide hA1
    have HBG := hide (show I.length + m ≤ 140737488355328 by omega)
    clear h hF hFl hno hs hA1 hfit
    go_enter Try.func37, Try.ntmps37
    go_wp2_with ((at_builtin; refine wpList_append_b (v := .slice A I.length d) rfl _ _ rfl rfl HROW.out A1 m c rfl HA1.out HS.out HBG.out hB ?_; intro v7 w7 hr7 ho7 hk7; obtain ⟨A2, L, d2, rfl, f7, ⟨u7, c7⟩, hX7⟩ := HFIN.out v7 w7 hr7 ho7 hk7; have HX7 := hide hX7; clear hr7 ho7 hk7 hX7))
    go_ret
    exact ⟨rfl, HX7.out⟩
set_option maxRecDepth 100000 in
set_option maxHeartbeats 1000000 in
theorem x21CWrite_is (h : Xc w g B F I en O) (hB : B ≤ w.heap.size) {A1 : Option Addr} {m c : Nat} {zs : List Int} (hs : Sees w A1 m zs) (hA1 : A1 = none → m = 0 ∧ c = 0) (hu : U8 zs) (hm : m ≤ 140737488355328) :
    Calls Try.prog 38 #[.pointer (some ⟨g, 0, none⟩), .slice A1 m c] w fun e w' => e = .returned (.tuple #[.int .i64 (if 1048576 < O.length + m then 0 else (m : Int)), .int .i64 (if 1048576 < O.length + m then 2 else 0)]) ∧ XApp w w' g B F I en (if 1048576 < O.length + m then O else O ++ zs) := by
  have HCO := hide h
  obtain ⟨v1, v2, h, hF, hFl⟩ := h
  have H := hide h
  obtain ⟨A, d, e0, -⟩ := h.out.form
  subst e0
  have hfew := h.few.2
  have c2 := h.c2
  have f3 := h.blk.frozen 2
  by_cases hno : 1048576 < O.length + m
  · simp only [if_pos hno]
    have FIN := hide (show XApp w w g B F I en O from ⟨F, ⟨Only.refl _ _, fun q hq => .inl hq⟩, HCO.out⟩)
    have hd : decide ((1048576 : Int) < (O.length : Int) + m) = true := decide_eq_true (by omega)
    clear h hF hFl hno hs
    go_enter Try.func38, Try.ntmps38
    go_wp2
    go_ret2
    exact ⟨rfl, FIN.out⟩
  · simp only [if_neg hno]
    have hfit : O.length + m ≤ 1048576 := by omega
    have hd : decide ((1048576 : Int) < (O.length : Int) + m) = false := decide_eq_false (by omega)
    have HFIN := hide (fun (v' : Value) (w2 : World) (hr : BRow w2 B v' (O ++ zs)) (ho : Only (Value.slice A O.length d).ownBlock.toList w w2) (hk : ∀ q, v'.ownBlock = some q → (Value.slice A O.length d).ownBlock = some q ∨ w.heap.size ≤ q) =>
      (show ∃ A2 L d2, v' = .slice A2 L d2 ∧ w2.frozen? ⟨g, 2, none⟩ = false ∧ (∃ u, w2.cell? ⟨g, 2, none⟩ = some u) ∧ XApp w (w2.setCell ⟨g, 2, none⟩ (.slice A2 L d2)) g B F I en (O ++ zs) from by
        obtain ⟨A2, d2, e2, -⟩ := hr.sees
        subst e2
        have hg2 : g ∉ (Value.slice A O.length d).ownBlock.toList := fun hm => H.out.g_ne.2 (by simpa using hm)
        have hIs := H.out.setOut ho hg2 (fun q hq hm => H.out.apart q hq (by simpa using hm)) hr hk (by rw [List.length_append, hs.1]; exact hfit) (H.out.u8.2.append hu)
        obtain ⟨F', hC, hT⟩ := Xc.pack (w := w) (F := F) hIs hFl (by simpa [World.setCell] using ho.size) hB (hF _ (by simp [coF])) (fun q hq => .inl (hF _ (by simp [coF]; exact .inr (.inl hq)))) (fun q hq => (hk q hq).elim (fun e => .inl (hF _ (by simp [coF]; exact .inr (.inr e)))) .inr)
        exact ⟨A2, _, d2, rfl, (H.out.blk.only ho hg2).frozen 2, ⟨_, (H.out.blk.only ho hg2).cell 2⟩, F', ⟨(ho.mono (fun q _ hm => hF _ (by simp [coF]; exact .inr (.inr (by simpa using hm))))).setCell _ (fun _ => hF _ (by simp [coF])), hT⟩, hC⟩))
    have HROW := hide h.out
    have HS := hide hs
    have HA1 := hide hA1
    have HBG := hide (show O.length + m ≤ 140737488355328 by omega)
    clear h hF hFl hno hs hA1 hfit
    go_enter Try.func38, Try.ntmps38
    go_wp2_with ((at_builtin; refine wpList_append_b (v := .slice A O.length d) rfl _ _ rfl rfl HROW.out A1 m c rfl HA1.out HS.out HBG.out hB ?_; intro v7 w7 hr7 ho7 hk7; obtain ⟨A2, L, d2, rfl, f7, ⟨u7, c7⟩, hX7⟩ := HFIN.out v7 w7 hr7 ho7 hk7; have HX7 := hide hX7; clear hr7 ho7 hk7 hX7))
    go_ret2
    exact ⟨rfl, HX7.out⟩
end
end Go.Proofs.Yteljjngmhldfbaa
