/-
  Translations (parapet/tlb): where a Tlb lies, and its small calls.
-/
import Derived.Test.YtdkbjnnflpopdaaTlbForget
import Derived.Test.YtdkbjnnflpopdaaMapL
namespace Go.Proofs.Ytdkbjnnflpopdaa
open Go.ChangeShapes Go.WideShapes Go.ChangeAt Go.RowKit Go.Maps
set_option linter.unusedVariables false

def updF {α : Type} (f : Nat → α) (i : Nat) (x : α) : Nat → α := fun j => if j = i then x else f j
theorem updF_same {α : Type} (f : Nat → α) (i : Nat) (x : α) : updF f i x i = x := if_pos rfl
theorem updF_far {α : Type} (f : Nat → α) {i j : Nat} (x : α) (h : j ≠ i) : updF f i x j = f j := if_neg h

/-- A shootdown: its space, who has not acknowledged. -/
abbrev Sh := Int × List Bool
abbrev sV (s : Sh) : Value := .agg (Value.int .i64 s.1 :: s.2.map Value.bool).toArray
def sD (s : Sh) : DataW Unit := .agg (.lit (.int .i64 s.1) :: s.2.map fun b => .lit (.bool b))
def boolOf : Value → Option Bool
  | .bool b => some b
  | _ => none
def elemS (v : Value) : Option (DataW Unit × List MemPlace) :=
  match v with
  | .agg ⟨.int .i64 s :: bs⟩ => match bs.mapM boolOf with
    | some ws => if ws.length = 8 then some (sD (s, ws), []) else none
    | none => none
  | _ => none
theorem mapM_bool : ∀ ws : List Bool, (ws.map Value.bool).mapM boolOf = some ws
  | [] => rfl
  | w :: ws => by simp [List.mapM_cons, boolOf, mapM_bool ws]
theorem mapM_bool_inv : ∀ (bs : List Value) (ws : List Bool), bs.mapM boolOf = some ws → bs = ws.map Value.bool
  | [], ws, h => by simp at h; subst h; rfl
  | b :: bs, ws, h => by
    rw [List.mapM_cons] at h
    cases hb : boolOf b with
    | none => simp [hb] at h
    | some x =>
      cases hm : bs.mapM boolOf with
      | none => simp [hb, hm] at h
      | some a =>
        simp [hb, hm] at h
        subst h
        have : b = .bool x := by
          unfold boolOf at hb
          split at hb
          · injection hb with hb; rw [hb]
          · cases hb
        rw [this, mapM_bool_inv _ _ hm]
        rfl
theorem elemS_mk (s : Sh) (h : s.2.length = 8) : elemS (sV s) = some (sD s, []) := by
  simp only [elemS]
  rw [mapM_bool]
  simp [h]
theorem elemS_inv {v : Value} {y : DataW Unit × List MemPlace} (h : elemS v = some y) : ∃ s : Sh, s.2.length = 8 ∧ v = sV s ∧ y = (sD s, []) := by
  unfold elemS at h
  split at h
  · rename_i s bs
    split at h
    · rename_i ws hw
      split at h
      · rename_i h8
        injection h with h
        exact ⟨(s, ws), h8, by rw [mapM_bool_inv _ _ hw], h.symm⟩
      · cases h
    · cases h
  · cases h
def encS : Enc Int Sh where
  wf k := (Lit.int .i64 k).wf = true
  kl k := .int .i64 k
  fd := sD
  inj h h' e := by injection e
  key k := trivial
  dinj := fun {f f'} h => by
    unfold sD at h
    injection h with h
    injection h with h1 h2
    injection h1 with h1
    injection h1 with _ h1
    refine Prod.ext h1 ?_
    have : ∀ (a b : List Bool), a.map (fun b => (DataW.lit (.bool b) : DataW Unit)) = b.map (fun b => .lit (.bool b)) → a = b := by
      intro a
      induction a with
      | nil => intro b h; cases b with
        | nil => rfl
        | cons x b => simp at h
      | cons x a ih => intro b h; cases b with
        | nil => simp at h
        | cons y b =>
          simp only [List.map_cons, List.cons.injEq] at h
          obtain ⟨h1, h2⟩ := h
          injection h1 with h1
          injection h1 with h1
          rw [h1, ih b h2]
    exact this _ _ h2
theorem lawInt : Keyed Try.prog 3 := int_keyed Try.underlying3

/-- The row of n harts. -/
def hRow (n : Nat) (bs : Nat → Nat) (nx : Nat → Int) : Array Value := ((List.range (2 * n)).map fun i => if i % 2 = 0 then Value.map (some (bs (i / 2))) else .int .i64 (nx (i / 2))).toArray
theorem hRow_map {n : Nat} {bs : Nat → Nat} {nx : Nat → Int} {j : Nat} (h : j < n) : (hRow n bs nx)[j * 2]? = some (.map (some (bs j))) := by
  simp [hRow, List.getElem?_map, List.getElem?_range (show j * 2 < 2 * n by omega)]
theorem hRow_int {n : Nat} {bs : Nat → Nat} {nx : Nat → Int} {j : Nat} (h : j < n) : (hRow n bs nx)[j * 2 + 1]? = some (.int .i64 (nx j)) := by
  have e1 : (j * 2 + 1) % 2 = 1 := by omega
  have e2 : (j * 2 + 1) / 2 = j := by omega
  simp [hRow, List.getElem?_map, List.getElem?_range (show j * 2 + 1 < 2 * n by omega), e1, e2]
theorem hRow_set {n : Nat} {bs : Nat → Nat} {nx : Nat → Int} {j : Nat} (h : j < n) (x : Int) : (hRow n bs nx).setIfInBounds (j * 2 + 1) (.int .i64 x) = hRow n bs (updF nx j x) := by
  unfold hRow
  rw [List.setIfInBounds_toArray]
  congr 1
  refine List.ext_getElem (by simp) fun i h1 h2 => ?_
  rw [List.getElem_set]
  by_cases e : j * 2 + 1 = i
  · subst e
    have e1 : (j * 2 + 1) % 2 = 1 := by omega
    have e2 : (j * 2 + 1) / 2 = j := by omega
    simp [e1, e2, updF]
  · rw [if_neg e]
    by_cases e1 : i % 2 = 0
    · simp [e1]
    · have e2 : i / 2 ≠ j := by omega
      simp [e1, updF, e2]
theorem hRow_same {n : Nat} {bs : Nat → Nat} {nx : Nat → Int} {j : Nat} : hRow n bs (updF nx j (nx j)) = hRow n bs nx := by
  have : updF nx j (nx j) = nx := by funext i; by_cases e : i = j <;> simp [updF, e]
  rw [this]

theorem HartAt.only {w w' : World} {b : Nat} {l : List (K2 × K2)} {next : Int} {S : List Nat} (h : HartAt w b l next) (ho : Only S w w') (hb : b ∉ S) : HartAt w' b l next := by
  obtain ⟨⟨D, h1, h2⟩, h3, h4⟩ := h
  exact ⟨⟨D, own_only h1 ho hb, h2⟩, h3, h4⟩
theorem own_onlyS {w w' : World} {b n : Nat} {D : DataW Unit} {S : List Nat} (hown : w.ownsMap Try.prog 3 elemS b n D) (ho : Only S w w') (hb : b ∉ S) : w'.ownsMap Try.prog 3 elemS b n D := by
  have hlt := hown.lt
  obtain ⟨es, clock, h1, F, hs, hD⟩ := hown
  exact ⟨es, clock, (ho.block b hlt hb).trans h1, F, hs, hD⟩

structure IsTlb (w : World) (t hb ob n size : Nat) (begun : Int) (bs : Nat → Nat) (ls : Nat → List (K2 × K2)) (nx : Nat → Int) (O : List (Int × Sh)) : Prop where
  blk : Blk w t 58 #[.slice (some ⟨hb, 0, none⟩) n n, .int .i64 size, .int .i64 begun, .map (some ob)]
  row : Blk w hb 61 (hRow n bs nx)
  hart : ∀ j, j < n → HartAt w (bs j) (ls j) (nx j)
  len : ∀ j, j < n → (ls j).length ≤ size
  nx0 : ∀ j, j < n → 0 ≤ nx j
  inj : ∀ i j, i < n → j < n → bs i = bs j → i = j
  obn : ∀ j, j < n → bs j ≠ ob
  opn : ∃ D, w.ownsMap Try.prog 3 elemS ob O.length D ∧ MHolds encS D O
  n1 : 1 ≤ n ∧ n ≤ 8
  s1 : 1 ≤ size ∧ size ≤ 64

section
variable {w w' : World} {t hb ob n size : Nat} {begun : Int} {bs : Nat → Nat} {ls : Nat → List (K2 × K2)} {nx : Nat → Int} {O : List (Int × Sh)} {S : List Nat}
theorem HartAt.ne {b : Nat} {l : List (K2 × K2)} {next : Int} {g : Nat} {ty : TypeId} {cs : Array Value} (h : HartAt w b l next) (hg : Blk w g ty cs) : b ≠ g := fun e => by
  obtain ⟨⟨D, ⟨es, clock, h1, _⟩, _⟩, _⟩ := h
  unfold Blk at hg
  rw [e, hg] at h1
  cases h1
theorem IsTlb.ne (T : IsTlb w t hb ob n size begun bs ls nx O) : ob ≠ t ∧ ob ≠ hb ∧ t ≠ hb ∧ ∀ j, j < n → bs j ≠ t ∧ bs j ≠ hb ∧ bs j ≠ ob := by
  have h1 : ∀ {g ty cs}, Blk w g ty cs → ob ≠ g := fun hg e => by
    obtain ⟨D, ⟨es, clock, h1, _⟩, _⟩ := T.opn
    unfold Blk at hg
    rw [e, hg] at h1
    cases h1
  exact ⟨h1 T.blk, h1 T.row, T.blk.ne_ T.row (by decide), fun j hj => ⟨(T.hart j hj).ne T.blk, (T.hart j hj).ne T.row, T.obn j hj⟩⟩
theorem IsTlb.only (T : IsTlb w t hb ob n size begun bs ls nx O) (ho : Only S w w') (h1 : t ∉ S) (h2 : hb ∉ S) (h3 : ob ∉ S) (h4 : ∀ j, j < n → bs j ∉ S) : IsTlb w' t hb ob n size begun bs ls nx O := by
  obtain ⟨D, ho1, ho2⟩ := T.opn
  exact ⟨T.blk.only ho h1, T.row.only ho h2, fun j hj => (T.hart j hj).only ho (h4 j hj), T.len, T.nx0, T.inj, T.obn, ⟨D, own_onlyS ho1 ho h3, ho2⟩, T.n1, T.s1⟩
theorem IsTlb.new (T : IsTlb w t hb ob n size begun bs ls nx O) (ho : Only [] w w') : IsTlb w' t hb ob n size begun bs ls nx O := T.only ho (by simp) (by simp) (by simp) (by simp)

theorem bclosed_is (T : IsTlb w t hb ob n size begun bs ls nx O) : Calls Try.prog 31 #[.pointer (some ⟨t, 0, none⟩)] w fun e w' => e = .returned (.bool false) ∧ w = w' := by
  have h1 := T.blk.cell 0
  have h2 := T.n1
  have hz : ((n : Int) == 0) = false := by simp; omega
  have hc : w.cell? ⟨t, 0, none⟩ = some (.slice (some ⟨hb, 0, none⟩) n n) := h1
  clear T h1 h2
  go_enter Try.func31, Try.ntmps31
  go_wp2
  go_ret
  exact ⟨rfl, rfl⟩
theorem bhas_is (T : IsTlb w t hb ob n size begun bs ls nx O) (h : Int) : Calls Try.prog 32 #[.pointer (some ⟨t, 0, none⟩), .int .i64 h] w fun e w' => e = .returned (.bool (decide (0 ≤ h ∧ h < n))) ∧ w = w' := by
  have HC := hide (bclosed_is T)
  have hc : w.cell? ⟨t, 0, none⟩ = some (.slice (some ⟨hb, 0, none⟩) n n) := T.blk.cell 0
  clear T
  by_cases h0 : 0 ≤ h
  · have hd : decide (0 ≤ h ∧ h < n) = decide (h < n) := by simp [h0]
    rw [hd]
    clear hd
    have hd0 : decide (0 ≤ h) = true := by simpa using h0
    go_enter Try.func32, Try.ntmps32
    go_wp2_with (go_at_call 31; refine HC.out.mono ?_; rintro e w' ⟨rfl, rfl⟩)
    go_ret
    exact ⟨rfl, rfl⟩
  · have hd : decide (0 ≤ h ∧ h < n) = false := by simp; omega
    rw [hd]
    clear hd
    have hd0 : decide (0 ≤ h) = false := by simpa using h0
    go_enter Try.func32, Try.ntmps32
    go_wp2_with (go_at_call 31; refine HC.out.mono ?_; rintro e w' ⟨rfl, rfl⟩)
    go_ret
    exact ⟨rfl, rfl⟩
end

/-- What a hart keeps behind a fill. -/
def fillL (size : Nat) (l : List (K2 × K2)) (k : K2) (e next : Int) : List (K2 × K2) := if k ∈ l.map (·.1) then setF l k e else (if l.length = size then l.tail else l) ++ [(k, (e, next))]
def nxL (l : List (K2 × K2)) (k : K2) (next : Int) : Int := if k ∈ l.map (·.1) then next else next + 1
theorem fillL_len {size : Nat} {l : List (K2 × K2)} {k : K2} {e next : Int} (h1 : 1 ≤ size) (h : l.length ≤ size) : (fillL size l k e next).length ≤ size := by
  unfold fillL
  split
  · unfold setF; rw [List.length_map]; exact h
  · rw [List.length_append]
    split
    · simp; omega
    · simp; omega
theorem fill_any {w : World} {hb o b size : Nat} {cs : Array Value} {l : List (K2 × K2)} {next : Int} {k : K2} {e : Int} (hB : Blk w hb 61 cs) (h0 : cs[o]? = some (.map (some b))) (h1 : cs[o + 1]? = some (.int .i64 next)) (hA : HartAt w b l next) (hs : 1 ≤ size ∧ size ≤ 64) (hlen : l.length ≤ size) (hk : k.wf) (hx0 : 0 ≤ next) (hx1 : next < 4611686018427387904) :
    Calls Try.prog 33 #[.pointer (some ⟨hb, o, none⟩), kV k, .int .u32 e, .int .i64 size] w fun r w' => r = .returned (.tuple #[]) ∧ HartAt w' b (fillL size l k e next) (nxL l k next) ∧ Blk w' hb 61 (cs.setIfInBounds (o + 1) (.int .i64 (nxL l k next))) ∧ Only [hb, b] w w' := by
  by_cases hn : k ∈ l.map (·.1)
  · obtain ⟨p, hp, rfl⟩ := List.mem_map.1 hn
    have hset : cs.setIfInBounds (o + 1) (.int .i64 next) = cs := by
      refine Array.ext (by simp) fun i hi1 hi2 => ?_
      rw [Array.getElem_setIfInBounds]
      split
      · rename_i e1
        subst e1
        rw [Array.getElem?_eq_getElem hi2] at h1
        injection h1 with h1
        exact h1.symm
      · rfl
    unfold fillL nxL
    rw [if_pos hn, if_pos hn, hset]
    refine (fill_old (f := p.2) hB h0 h1 hA (by omega) hp).mono ?_
    rintro r w' ⟨hr, h2, h3, h4⟩
    exact ⟨hr, h2, h3, h4.mono (fun q _ hq => by simp at hq; simp [hq])⟩
  · unfold fillL nxL
    rw [if_neg hn, if_neg hn]
    by_cases hf : l.length = size
    · rw [if_pos hf]
      obtain ⟨p, r, hl⟩ : ∃ p r, l = p :: r := by
        cases l with
        | nil => simp at hf; omega
        | cons p r => exact ⟨p, r, rfl⟩
      have := fill_full (k := k) (e := e) (size := (size : Int)) hB h0 h1 p r hl hA (by omega) (by omega) hk hn hx0 hx1
      rwa [show l.tail = r by rw [hl]; rfl]
    · rw [if_neg hf]
      exact fill_new (k := k) (e := e) (size := (size : Int)) hB h0 h1 hA (by omega) (by omega) hk hn hx0 hx1
end Go.Proofs.Ytdkbjnnflpopdaa
