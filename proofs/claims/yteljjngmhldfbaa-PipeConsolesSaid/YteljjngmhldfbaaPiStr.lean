/-
  Strings of bytes as lists (what DiskSee and TornStr hold of them, free of the disk); the laws' comparison of bytes (parapetlaw21: same).
-/
import Derived.Test.YteljjngmhldfbaaPiPure
import Derived.Laws.IdiomStrings
import Derived.Lib.BufferRead
namespace Go.Proofs.Yteljjngmhldfbaa
open Go.ChangeShapes Go.WideShapes Go.ChangeAt Go.RowKit
set_option linter.unusedVariables false
/-- The string of bytes. -/
def strB (xs : List Int) : ByteArray := ⟨(xs.map fun x => UInt8.ofNat x.toNat).toArray⟩
theorem conv_bytes (w : World) (A : Option Addr) (n c : Nat) (xs : List Int) (h : Sees w A n xs) (hA : A = none → n = 0) (hu : U8 xs) : (convert 29 9 (.slice A n c)).run Try.prog w = .ok (.string (strB xs)) w := by
  rcases A with _ | a
  · obtain rfl := hA rfl
    have : xs = [] := List.eq_nil_of_length_eq_zero h.1
    subst this
    exact Lib.run_convert_nil_bytes w 29 9 5 c Try.underlying29 Try.underlying5 Try.underlying9
  · have h8 : ∀ x ∈ xs, ((UInt8.ofNat x.toNat).toNat : Int) = x := fun x hx => by
      have := hu x hx
      rw [UInt8.toNat_ofNat']
      omega
    have := run_convert_bytes_back (P := Try.prog) w 29 9 5 a c (xs.map fun x => UInt8.ofNat x.toNat) Try.underlying29 Try.underlying5 Try.underlying9 (fun j hj => by
      have hjx : j < xs.length := by simpa using hj
      obtain ⟨b, o, hab, _, hcs⟩ := h.2 (by have := h.1; omega)
      injection hab with hab
      subst hab
      rw [add_at, hcs j (by have := h.1; omega)]
      simp only [List.getElem_map, h8 _ (List.getElem_mem hjx)]
      simp [gb, List.getD, List.getElem?_eq_getElem hjx])
    rw [List.length_map, h.1] at this
    exact this
theorem strB_size (xs : List Int) : (strB xs).size = xs.length := by simp [strB, ByteArray.size]
theorem strB_inj {a b : List Int} (ha : U8 a) (hb : U8 b) (h : strB a = strB b) : a = b := by
  have hl : a.length = b.length := by rw [← strB_size a, h, strB_size]
  have hd : (a.map fun x => UInt8.ofNat x.toNat) = b.map fun x => UInt8.ofNat x.toNat := by
    have := congrArg ByteArray.data h
    simpa [strB] using this
  refine List.ext_getElem hl fun i h1 h2 => ?_
  have he : (a.map fun x => UInt8.ofNat x.toNat)[i]? = (b.map fun x => UInt8.ofNat x.toNat)[i]? := by rw [hd]
  simp only [List.getElem?_map, List.getElem?_eq_getElem h1, List.getElem?_eq_getElem h2, Option.map_some, Option.some.injEq] at he
  have b1 := ha _ (List.getElem_mem h1)
  have b2 := hb _ (List.getElem_mem h2)
  have hn := congrArg UInt8.toNat he
  simp at hn
  omega
theorem sees_nil {w : World} {A : Option Addr} : Sees w A 0 [] := ⟨rfl, fun h => absurd h (by omega)⟩
/-- Two slices of the same bytes. -/
theorem same21_is {w : World} {A A' : Option Addr} {n n' c c' : Nat} {xs : List Int} (h : Sees w A n xs) (hA : A = none → n = 0) (h' : Sees w A' n' xs) (hA' : A' = none → n' = 0) (hu : U8 xs) : Calls Try.prog 18 #[.slice A n c, .slice A' n' c'] w fun e w' => e = .returned (.bool true) ∧ w = w' := by
  have k1 := conv_bytes w A n c xs h hA hu
  have k2 := conv_bytes w A' n' c' xs h' hA' hu
  clear h h' hA hA'
  go_enter Try.func18, Try.ntmps18
  go_wp2
  go_ret
  exact ⟨by simp, rfl⟩
end Go.Proofs.Yteljjngmhldfbaa
