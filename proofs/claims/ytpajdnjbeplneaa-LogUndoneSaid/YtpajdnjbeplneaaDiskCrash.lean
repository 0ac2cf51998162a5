/-
  Crash of parapet/disk.
-/
import Derived.Test.YtpajdnjbeplneaaDiskFlush
namespace Go.Proofs.Ytpajdnjbeplneaa
open Go.ChangeShapes Go.WideShapes Go.ChangeAt Go.RowKit Go.Maps
set_option linter.unusedVariables false

/-- A list of api.Torn as it lies in memory: places and numbers of bytes. -/
def Torns (w : World) (A : Option Addr) (m : Nat) (l : List (Int × Int)) : Prop :=
  l.length = m ∧ (0 < m → ∃ b o, A = some ⟨b, o, none⟩ ∧ b < w.heap.size ∧ ∀ (i : Nat) (p : Int × Int), l[i]? = some p → w.cell? ⟨b, o + i * 2, none⟩ = some (.int .i64 p.1) ∧ w.cell? ⟨b, o + i * 2 + 1, none⟩ = some (.int .i64 p.2))
theorem Torns.only {w w' : World} {A : Option Addr} {m : Nat} {l : List (Int × Int)} {S : List Nat} (h : Torns w A m l) (ho : Only S w w') (hs : 0 < m → ∀ b, A = some b → b.block < w.heap.size → b.block ∉ S) : Torns w' A m l := by
  refine ⟨h.1, fun hm => ?_⟩
  obtain ⟨b, o, rfl, hb, hc⟩ := h.2 hm
  exact ⟨b, o, rfl, Nat.lt_of_lt_of_le hb ho.size, fun i p hp => ⟨(ho.cell hb (hs hm _ rfl hb)).trans (hc i p hp).1, (ho.cell hb (hs hm _ rfl hb)).trans (hc i p hp).2⟩⟩

/-- May a crash keep these? -/
def keepB (n : Nat) : Int → List (Int × Int) → Bool
  | _, [] => true
  | least, p :: r => decide (least ≤ p.1 ∧ p.1 < n ∧ 1 ≤ p.2 ∧ p.2 ≤ 512) && keepB n (p.1 + 1) r

theorem keep_drop {l : List (Int × Int)} {i : Nat} {p : Int × Int} (hp : l[i]? = some p) : l.drop i = p :: l.drop (i + 1) := by
  have hi : i < l.length := (List.getElem?_eq_some_iff.1 hp).1
  rw [List.drop_eq_getElem_cons hi, (List.getElem?_eq_some_iff.1 hp).2]

section
variable {w : World} {g pb pc mb : Nat} {pr : List Value} {pv : Value} {D : DataW Unit} {N : Nat} {plat : List Int} {ws : List WR} {left rd wt fl : Int} (h : IsDisk w g pb pc mb pr pv D N plat ws left rd wt fl)
include h

omit h in
def KeepRel (w0 : World) (m n : Nat) (l : List (Int × Int)) (least i : Value) (wr : World) : Prop :=
  ∃ (k : Nat) (z : Int), k ≤ m ∧ i = .int .i64 k ∧ 0 ≤ z ∧ least = .int .i64 z ∧ keepB n z (l.drop k) = keepB n 0 l ∧ Only [] w0 wr



omit h in
theorem keep_valid {n : Nat} {l : List (Int × Int)} : ∀ {z : Int}, keepB n z l = true → 0 ≤ z → ∀ (i : Nat) (p : Int × Int), l[i]? = some p → 0 ≤ p.1 ∧ p.1 < n ∧ 1 ≤ p.2 ∧ p.2 ≤ 512 := by
  induction l with
  | nil => intro z _ _ i p hp; simp at hp
  | cons q r ih =>
    intro z hk hz i p hp
    simp only [keepB, Bool.and_eq_true, decide_eq_true_eq] at hk
    obtain ⟨⟨h1, h2, h3, h4⟩, hr⟩ := hk
    cases i with
    | zero => simp at hp; subst hp; exact ⟨by omega, h2, h3, h4⟩
    | succ i => rw [List.getElem?_cons_succ] at hp; exact ih hr (by omega) i p hp

omit h in
/-- What a crash lays down of the write at a place. -/
def crash1 (l : List (Nat × List Int)) (plat : List Int) (p : Int × Int) : List Int :=
  match l[p.1.toNat]? with
  | some x => Go.splice plat (512 * x.1) (x.2.take p.2.toNat)
  | none => plat
omit h in
def crashAll (plat : List Int) (l : List (Nat × List Int)) (t : List (Int × Int)) : List Int := t.foldl (crash1 l) plat
omit h in
theorem crash_snoc (plat : List Int) (ws : List WR) (t : List (Int × Int)) (k : Nat) (p : Int × Int) (hp : t[k]? = some p) (x : WR) (hx : ws[p.1.toNat]? = some x) :
    crashAll plat (ofW ws) (t.take (k + 1)) = Go.splice (crashAll plat (ofW ws) (t.take k)) (512 * x.sec) (x.data.take p.2.toNat) := by
  have hk : k < t.length := (List.getElem?_eq_some_iff.1 hp).1
  rw [List.take_succ_eq_append_getElem hk, crashAll, List.foldl_append, (List.getElem?_eq_some_iff.1 hp).2]
  have e : (ofW ws)[p.1.toNat]? = some (x.sec, x.data) := by simp [ofW, hx]
  simp only [List.foldl_cons, List.foldl_nil, crash1, e]
  rfl

omit h in
def CrashRel (g pb pc mb : Nat) (pr : List Value) (pv : Value) (D : DataW Unit) (N : Nat) (plat : List Int) (ws : List WR) (left rd wt fl : Int) (w0 : World) (m : Nat) (t : List (Int × Int)) (i : Value) (wr : World) : Prop :=
  ∃ k : Nat, k ≤ m ∧ i = .int .i64 k ∧ Only [pb] w0 wr ∧ IsDisk wr g pb pc mb pr pv D N (crashAll plat (ofW ws) (t.take k)) ws left rd wt fl



end
end Go.Proofs.Ytpajdnjbeplneaa