/-
  What is seen of slices of bytes and ints, as lists; strings of bytes; small calls of a disk in one form.
-/
import Derived.Test.YtpajdnjbeplneaaDiskAwake
import Derived.Test.YtpajdnjbeplneaaAppendNew
import Derived.Laws.IdiomStrings
import Derived.Lib.BufferRead
namespace Go.Proofs.Ytpajdnjbeplneaa
open Go.ChangeShapes Go.WideShapes Go.ChangeAt Go.RowKit
set_option linter.unusedVariables false

/-- The string of bytes. -/
def strB (xs : List Int) : ByteArray := ⟨(xs.map fun x => UInt8.ofNat x.toNat).toArray⟩

theorem conv_bytes (w : World) (A : Option Addr) (n c : Nat) (xs : List Int) (h : Sees w A n xs) (hA : A = none → n = 0) (hu : U8 xs) : (convert 39 9 (.slice A n c)).run Try.prog w = .ok (.string (strB xs)) w := by
  rcases A with _ | a
  · obtain rfl := hA rfl
    have : xs = [] := List.eq_nil_of_length_eq_zero h.1
    subst this
    exact Lib.run_convert_nil_bytes w 39 9 5 c Try.underlying39 Try.underlying5 Try.underlying9
  · have h8 : ∀ x ∈ xs, ((UInt8.ofNat x.toNat).toNat : Int) = x := fun x hx => by
      have := hu x hx
      rw [UInt8.toNat_ofNat']
      omega
    have := run_convert_bytes_back (P := Try.prog) w 39 9 5 a c (xs.map fun x => UInt8.ofNat x.toNat) Try.underlying39 Try.underlying5 Try.underlying9 (fun j hj => by
      have hjx : j < xs.length := by simpa using hj
      obtain ⟨b, o, hab, _, hcs⟩ := h.2 (by have := h.1; omega)
      injection hab with hab
      subst hab
      rw [add_at, hcs j (by have := h.1; omega)]
      simp only [List.getElem_map, h8 _ (List.getElem_mem hjx)]
      simp [gb, List.getD, List.getElem?_eq_getElem hjx])
    rw [List.length_map, h.1] at this
    exact this

/-- A row of ints that grows. -/
def PendRow (w : World) (B : Nat) (v : Value) (ns : List Int) : Prop := w.ownsRow B 3 1 v ns.length (ns.map (Value.int .i64))
theorem info_intD : (Try.prog.info? 3).map (fun i => (i.zero, i.size, i.bytes)) = some (some (.int .i64 0), 1, 8) := by kernel_rfl

/-- A slice of ints reads as a list; nil let in. -/
def IntsS (w : World) (A : Option Addr) (n : Nat) (ns : List Int) : Prop :=
  ns.length = n ∧ (0 < n → ∃ b o, A = some ⟨b, o, none⟩ ∧ b < w.heap.size ∧ ∀ i, i < n → w.cell? ⟨b, o + i, none⟩ = some (.int .i64 (gb ns i)))
theorem IntsS.only {w w' : World} {A : Option Addr} {n : Nat} {ns : List Int} (h : IntsS w A n ns) (ho : Only [] w w') : IntsS w' A n ns := by
  refine ⟨h.1, fun hn => ?_⟩
  obtain ⟨b, o, rfl, hb, hc⟩ := h.2 hn
  exact ⟨b, o, rfl, Nat.lt_of_lt_of_le hb ho.size, fun i hi => (ho.cell hb (by simp)).trans (hc i hi)⟩
theorem IntsAt.s {w : World} {d n : Nat} {ns : List Int} (h : IntsAt w d n ns) : IntsS w (some ⟨d, 0, none⟩) n ns := by
  refine ⟨h.1, fun hn => ⟨d, 0, rfl, Nat.lt_of_not_le fun hle => ?_, fun i hi => by rw [Nat.zero_add]; exact h.2 i hi⟩⟩
  have := h.2 0 hn
  simp [World.cell?, Array.getElem?_eq_none hle] at this
theorem PendRow.s {w : World} {B : Nat} {v : Value} {ns : List Int} (h : PendRow w B v ns) : ∃ A c, v = .slice A ns.length c ∧ IntsS w A ns.length ns := by
  rcases h.2 with ⟨e, h0⟩ | ⟨k, cap, cur, e, hB, hg, hn, hm, hs, ht⟩
  · exact ⟨none, 0, by rw [e, h0], rfl, fun hp => absurd hp (by omega)⟩
  · have hb : Blk w k 3 cur := hg
    refine ⟨_, _, e, rfl, fun _ => ⟨k, 0, rfl, hb.lt, fun i hi => ?_⟩⟩
    rw [Nat.zero_add, hb.cell]
    have h2 : (ns.map (Value.int .i64))[i]? = some (.int .i64 (gb ns i)) := by simp [gb, List.getD, List.getElem?_eq_getElem hi]
    rw [← ht, List.getElem?_take] at h2
    simp only [Nat.mul_one] at h2
    rw [if_pos hi] at h2
    simpa using h2

theorem PendRow.at {w : World} {B : Nat} {v : Value} {ns : List Int} (h : PendRow w B v ns) {n : Nat} (hn : ns.length = n) : ∃ A c, v = .slice A n c ∧ IntsS w A n ns := hn ▸ h.s



theorem Blk.setu_ {w : World} {D : Nat} {zs : List Int} {r : List Value} (h : Blk w D 5 (u8l zs ++ r).toArray) {k : Nat} (hk : k < zs.length) (v : Int) : Blk (w.setCell ⟨D, k, none⟩ (.int .u8 v)) D 5 (u8l (zs.set k v) ++ r).toArray := by
  have := h.set_ k (.int .u8 v)
  rw [List.setIfInBounds_toArray, List.set_append_left _ _ (by rw [u8l_length]; exact hk)] at this
  simpa [u8l, List.map_set] using this
theorem only_drew_iff {S : List Nat} {w w' : World} : Only S w w'.drew ↔ Only S w w' := ⟨fun h => ⟨h.os, h.tape, h.output, h.size, h.block⟩, fun h => h.drew⟩
theorem only_self {S : List Nat} {w : World} : Only S w w ↔ True := ⟨fun _ => trivial, fun _ => Only.refl _ _⟩

section
variable {w : World} {g pb pc mb : Nat} {pr : List Value} {pv : Value} {D : DataW Unit} {N : Nat} {plat : List Int} {ws : List WR} {left rd wt fl : Int} (h : IsDisk w g pb pc mb pr pv D N plat ws left rd wt fl)
include h



theorem dcount_o : Calls Try.prog 67 #[.pointer (some ⟨g, 0, none⟩)] w fun e w' => e = .returned (.int .i64 N) ∧ Only [] w w' := (dcount_is h).mono fun e w' ⟨a, b⟩ => ⟨a, b ▸ Only.refl [] w⟩

end
end Go.Proofs.Ytpajdnjbeplneaa
