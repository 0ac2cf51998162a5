/-
  Translations (parapet/tlb): keys of maps, and what is kept under them.
-/
import Derived.Test.YtdkbjnnflpopdaaLib
import Derived.Test.YtdkbjnnflpopdaaRows
import Derived.Maps.Own
import Derived.Maps.OwnSet
import Derived.Maps.OwnOps
import Derived.Maps.RangeWalk
import Derived.Maps.Ext
import Derived.DeepKeys4
namespace Go.Proofs.Ytdkbjnnflpopdaa
open Go.ChangeShapes Go.WideShapes Go.ChangeAt Go.RowKit Go.Maps
set_option linter.unusedVariables false

theorem laidOut : laidOutB Try.prog = true := by kernel_rfl
theorem rowKey : (33 : TypeId) < Try.prog.types.size := of_decide_eq_true (by kernel_rfl)
set_option maxRecDepth 100000 in
theorem deepKey : Try.prog.keyTypeAt 2 33 = true := by kernel_rfl
theorem lawKey : Keyed Try.prog 33 := Keyed.of_law (deep_law_laid laidOut (m := 2) (by omega) rowKey deepKey (by rw [Try.underlying33]))
theorem cellsKey : Try.prog.cellsOf 33 = 2 := by kernel_rfl
theorem cellsInt : Try.prog.cellsOf 3 = 1 := by kernel_rfl

abbrev K2 := Int × Int
/-- Both are ints. -/
def K2.wf (k : K2) : Prop := (Lit.int .i64 k.1).wf = true ∧ (Lit.int .i64 k.2).wf = true
abbrev kV (k : K2) : Value := .agg #[.int .i64 k.1, .int .i64 k.2]
def kL (k : K2) : Lit := .string (keyBytes [.int .i64 k.1, .int .i64 k.2])
theorem keyLits_int (m : Nat) {x : Int} (hx : (Lit.int .i64 x).wf = true) : Try.prog.keyLits (m + 1) 3 [.int .i64 x] = some [.int .i64 x] := by
  unfold Program.keyLits
  rw [Try.underlying3]
  simp [hx]
theorem keyLits_key (m : Nat) {k : K2} (h : k.wf) : Try.prog.keyLits (m + 2) 33 [.int .i64 k.1, .int .i64 k.2] = some [.int .i64 k.1, .int .i64 k.2] := by
  unfold Program.keyLits
  rw [Try.underlying33]
  simp [cellsKey, cellsInt, keyLits_int m h.1, keyLits_int m h.2]
theorem keyOf_kV {k : K2} (h : k.wf) : keyOf Try.prog 33 (kV k) = some (kL k) := by
  have h1 : Try.prog.keyType 33 = true := by kernel_rfl
  have hf : (kV k).formed Try.prog 33 = true := by simp [Value.formed, Try.underlying33, cellsKey]
  have hsz : Try.prog.types.size + 1 = (Try.prog.types.size - 1) + 2 := by
    have : 1 ≤ Try.prog.types.size := Nat.le_trans (by decide) rowKey
    omega
  unfold keyOf
  rw [Try.underlying33]
  simp only [h1, hf, Bool.and_self, if_true, hsz]
  rw [show (kV k).cells.toList = [.int .i64 k.1, .int .i64 k.2] from rfl, keyLits_key _ h]
  rfl
theorem kL_inj {k k' : K2} (h : k.wf) (h' : k'.wf) (e : kL k = kL k') : k = k' := by
  have := lawKey.inj (keyOf_kV h) (e ▸ keyOf_kV h')
  simp [kV] at this
  exact Prod.ext this.1 this.2
theorem kL_key (k : K2) : WideAt.IsKeyLit (kL k) := trivial

/-- What is kept under a key: an entry, a turn. -/
abbrev fV (f : K2) : Value := .agg #[.int .u32 f.1, .int .i64 f.2]
abbrev fD (f : K2) : DataW Unit := .agg [.lit (.int .u32 f.1), .lit (.int .i64 f.2)]
def elemF (v : Value) : Option (DataW Unit × List MemPlace) :=
  match v with
  | .agg ⟨[.int .u32 e, .int .i64 t]⟩ => some (fD (e, t), [])
  | _ => none
theorem elemF_mk (f : K2) : elemF (fV f) = some (fD f, []) := rfl
theorem elemF_inv {v : Value} {y : DataW Unit × List MemPlace} (h : elemF v = some y) : ∃ f : K2, v = fV f ∧ y = (fD f, []) := by
  unfold elemF at h
  split at h
  · rename_i e t
    injection h with h
    exact ⟨(e, t), rfl, h.symm⟩
  · cases h
theorem fD_inj {f f' : K2} (h : fD f = fD f') : f = f' := by
  simp [fD] at h
  exact Prod.ext h.1 h.2
theorem zeroF (w : World) : (zeroValue 81).run Try.prog w = .ok (fV (0, 0)) w := by kernel_rfl

/-- A map of translations holds just these. -/
structure Holds (D : DataW Unit) (l : List (K2 × K2)) : Prop where
  wf : ∀ p ∈ l, p.1.wf
  has : ∀ k : Lit, Maps.has D k = true ↔ ∃ p ∈ l, kL p.1 = k
  at_ : ∀ p ∈ l, ∀ z, D.atKey (kL p.1) z = fD p.2
  nd : (l.map (·.1)).Nodup
  size : Maps.size D = l.length
  tidy : Maps.Tidy D
section
variable {D : DataW Unit} {l : List (K2 × K2)} {k f : K2}
theorem Holds.empty : Holds (.map []) [] := ⟨by simp, fun k => by simp [Maps.has], by simp, by simp, rfl, Maps.tidy_empty⟩
theorem Holds.none (h : Holds D l) (hk : k.wf) (hn : k ∉ l.map (·.1)) : Maps.has D (kL k) = false := by
  cases e : Maps.has D (kL k)
  · rfl
  · obtain ⟨p, hp, ep⟩ := (h.has _).1 e
    exact absurd (List.mem_map.2 ⟨p, hp, kL_inj (h.wf p hp) hk ep⟩) hn
theorem Holds.some_ (h : Holds D l) (hp : (k, f) ∈ l) : Maps.has D (kL k) = true := (h.has _).2 ⟨_, hp, rfl⟩
theorem Holds.new (h : Holds D l) (hk : k.wf) (hn : k ∉ l.map (·.1)) : Holds (D.put (kL k) (fD f)) (l ++ [(k, f)]) := by
  have hno := h.none hk hn
  have hm := h.tidy.isMap
  refine ⟨fun p hp => ?_, fun q => ?_, fun p hp z => ?_, ?_, ?_, h.tidy.put (kL_key k) _⟩
  · rcases List.mem_append.1 hp with hp | hp
    · exact h.wf p hp
    · rw [List.mem_singleton.1 hp]; exact hk
  · by_cases e : q = kL k
    · subst e
      rw [Maps.has_put_same hm (kL_key k)]
      exact ⟨fun _ => ⟨(k, f), by simp, rfl⟩, fun _ => rfl⟩
    · rw [Maps.has_put_other e, h.has]
      constructor
      · rintro ⟨p, hp, ep⟩; exact ⟨p, by simp [hp], ep⟩
      · rintro ⟨p, hp, ep⟩
        rcases List.mem_append.1 hp with hp | hp
        · exact ⟨p, hp, ep⟩
        · rw [List.mem_singleton.1 hp] at ep; exact absurd ep.symm e
  · rcases List.mem_append.1 hp with hp | hp
    · rw [Maps.atKey_put_other (fun e => hn (List.mem_map.2 ⟨p, hp, kL_inj (h.wf p hp) hk e⟩)), h.at_ p hp]
    · rw [List.mem_singleton.1 hp, Maps.atKey_put_same hm (kL_key k)]
  · rw [List.map_append]
    refine List.nodup_append.2 ⟨h.nd, by simp, ?_⟩
    intro a ha b hb e
    simp at hb
    subst hb; subst e
    exact hn ha
  · rw [Maps.size_put h.tidy, hno, h.size]; simp
/-- What is kept under a key that is there is turned. -/
def setF (l : List (K2 × K2)) (k : K2) (e : Int) : List (K2 × K2) := l.map fun p => if p.1 = k then (k, (e, p.2.2)) else p
theorem setF_keys (l : List (K2 × K2)) (k : K2) (e : Int) : (setF l k e).map (·.1) = l.map (·.1) := by
  unfold setF
  rw [List.map_map]
  refine List.map_congr_left fun p _ => ?_
  show (if p.1 = k then (k, (e, p.2.2)) else p).1 = p.1
  split <;> simp_all
theorem Holds.uniq (h : Holds D l) {p q : K2 × K2} (hp : p ∈ l) (hq : q ∈ l) (e : p.1 = q.1) : p = q := by
  have h1 := h.at_ p hp (fD (0, 0))
  have h2 := h.at_ q hq (fD (0, 0))
  rw [e, h2] at h1
  exact Prod.ext e (fD_inj h1).symm
theorem Holds.old (h : Holds D l) (hp : (k, f) ∈ l) (e : Int) : Holds (D.put (kL k) (fD (e, f.2))) (setF l k e) := by
  have hm := h.tidy.isMap
  have hk := h.wf _ hp
  refine ⟨fun p hp => ?_, fun q => ?_, fun p hp' z => ?_, by rw [setF_keys]; exact h.nd, ?_, h.tidy.put (kL_key k) _⟩
  · obtain ⟨q, hq, rfl⟩ := List.mem_map.1 hp
    split
    · exact hk
    · exact h.wf q hq
  · by_cases eq : q = kL k
    · subst eq
      rw [Maps.has_put_same hm (kL_key k)]
      exact ⟨fun _ => ⟨(k, (e, f.2)), List.mem_map.2 ⟨(k, f), hp, by simp⟩, rfl⟩, fun _ => rfl⟩
    · rw [Maps.has_put_other eq, h.has]
      constructor
      · rintro ⟨p, hp', ep⟩
        refine ⟨p, List.mem_map.2 ⟨p, hp', if_neg (fun e1 => eq ?_)⟩, ep⟩
        rw [← ep, e1]
      · rintro ⟨p, hp', ep⟩
        obtain ⟨r, hr, er⟩ := List.mem_map.1 hp'
        split at er
        · rw [← er] at ep; exact absurd ep.symm eq
        · rw [← er] at ep; exact ⟨r, hr, ep⟩
  · obtain ⟨r, hr, er⟩ := List.mem_map.1 hp'
    split at er
    · rename_i e1
      have : r = (k, f) := h.uniq hr hp e1
      subst this
      rw [← er, Maps.atKey_put_same hm (kL_key k)]
    · rename_i e1
      rw [← er, Maps.atKey_put_other (fun e2 => e1 (kL_inj (h.wf r hr) hk e2)), h.at_ r hr]
  · rw [Maps.size_put h.tidy, h.some_ hp, if_pos rfl, h.size, setF, List.length_map]
/-- What was let go is not there. -/
def outF (l : List (K2 × K2)) (k : K2) : List (K2 × K2) := l.filter fun p => decide (p.1 ≠ k)
theorem Holds.del (h : Holds D l) (hp : (k, f) ∈ l) : Holds (D.del (kL k)) (outF l k) := by
  have hk := h.wf _ hp
  have hmem : ∀ p, p ∈ outF l k ↔ p ∈ l ∧ p.1 ≠ k := fun p => by simp [outF]
  have hnd : ((outF l k).map (·.1)).Nodup := List.Sublist.nodup (List.Sublist.map _ List.filter_sublist) h.nd
  have hlen : (outF l k).length + 1 = l.length := by
    have h1 := (l.length_eq_countP_add_countP (fun p => decide (p.1 ≠ k))).trans (by rw [List.countP_eq_length_filter, List.countP_eq_length_filter])
    have h2 : l.filter (fun a => decide ¬decide (a.1 ≠ k) = true) = [(k, f)] := by
      have hcount : ∀ (m : List (K2 × K2)), (m.map (·.1)).Nodup → (k, f) ∈ m → (∀ q ∈ m, q.1 = k → q = (k, f)) → m.filter (fun a => decide ¬decide (a.1 ≠ k) = true) = [(k, f)] := by
        intro m
        induction m with
        | nil => intro _ hm; simp at hm
        | cons x m ih =>
          intro hnd hm hu
          rw [List.map_cons, List.nodup_cons] at hnd
          by_cases e : x.1 = k
          · have hx := hu x (by simp) e
            subst hx
            rw [List.filter_cons, if_pos (by simp), List.filter_eq_nil_iff.2]
            intro q hq hqq
            simp at hqq
            exact hnd.1 (List.mem_map.2 ⟨q, hq, hqq⟩)
          · rw [List.filter_cons, if_neg (by simp [e])]
            refine ih hnd.2 ?_ (fun q hq => hu q (by simp [hq]))
            rcases List.mem_cons.1 hm with e1 | e1
            · rw [← e1] at e; exact absurd rfl e
            · exact e1
      exact hcount l h.nd hp (fun q hq e => h.uniq hq hp e)
    rw [h2] at h1
    unfold outF
    simp at h1 ⊢
    omega
  refine ⟨fun p hp => h.wf p ((hmem p).1 hp).1, fun q => ?_, fun p hp z => ?_, hnd, ?_, h.tidy.del _⟩
  · by_cases e : q = kL k
    · subst e
      rw [Maps.has_del_same]
      refine ⟨fun h => (by cases h), fun h3 => ?_⟩
      obtain ⟨p, hp, ep⟩ := h3
      obtain ⟨h1, h2⟩ := (hmem p).1 hp
      exact absurd (kL_inj (h.wf p h1) hk ep) h2
    · rw [Maps.has_del_other e, h.has]
      constructor
      · rintro ⟨p, hp, ep⟩
        refine ⟨p, (hmem p).2 ⟨hp, fun e1 => e ?_⟩, ep⟩
        rw [← ep, e1]
      · rintro ⟨p, hp, ep⟩
        exact ⟨p, ((hmem p).1 hp).1, ep⟩
  · obtain ⟨h1, h2⟩ := (hmem p).1 hp
    rw [Maps.atKey_del_other (fun e => h2 (kL_inj (h.wf p h1) hk e)), h.at_ p h1]
  · have := Maps.size_del (k := kL k) h.tidy
    rw [h.some_ hp, if_pos rfl, h.size] at this
    omega
end
end Go.Proofs.Ytdkbjnnflpopdaa
