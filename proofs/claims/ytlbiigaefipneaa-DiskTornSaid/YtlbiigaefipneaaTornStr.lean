/-
  Strings of bytes as lists: equality, and the byte at a place.
-/
import Derived.Test.YtlbiigaefipneaaTornList
import Derived.Test.YtlbiigaefipneaaDiskSee
namespace Go.Proofs.Ytlbiigaefipneaa
open Go.ChangeShapes Go.WideShapes Go.ChangeAt Go.RowKit
set_option linter.unusedVariables false

theorem byteArray_toList_inj {a b : ByteArray} (h : a.toList = b.toList) : a = b := by
  have ha : a.toList = a.data.toList := Lib.toList_data a
  have hb : b.toList = b.data.toList := Lib.toList_data b
  rw [ha, hb] at h
  cases a; cases b
  congr 1
  exact Array.ext' h
theorem strB_size (xs : List Int) : (strB xs).size = xs.length := by simp [strB, ByteArray.size]
theorem strB_inj {a b : List Int} (ha : U8 a) (hb : U8 b) (h : strB a = strB b) : a = b := by
  have hl : a.length = b.length := by rw [← strB_size a, h, strB_size]
  have hd : (a.map fun x => UInt8.ofNat x.toNat) = b.map fun x => UInt8.ofNat x.toNat := by
    have := congrArg ByteArray.data h
    simpa [strB] using this
  refine List.ext_getElem hl fun i h1 h2 => ?_
  have he : (a.map fun x => UInt8.ofNat x.toNat)[i]? = (b.map fun x => UInt8.ofNat x.toNat)[i]? := by rw [hd]
  simp only [List.getElem?_map, List.getElem?_eq_getElem h1, List.getElem?_eq_getElem h2, Option.map_some, Option.some.injEq] at he
  have b1 := ha _ (List.getElem_mem h1)
  have b2 := hb _ (List.getElem_mem h2)
  have hn := congrArg UInt8.toNat he
  simp at hn
  omega
theorem run_index_strB {xs : List Int} (hu : U8 xs) {i : Nat} (hi : i < xs.length) (w : World) : (Instr.index 9 (.string (strB xs)) (.int .i64 (i : Int))).run Try.prog w = .ok (.int .u8 (gb xs i)) w := by
  rw [run_index_string (P := Try.prog) (w := w) _ _ _ _ Try.underlying9]
  rw [dif_pos ⟨by omega, by rw [strB_size]; omega⟩]
  have hb := hu.get i
  have e : ((strB xs)[(i : Int).toNat]'(by rw [strB_size]; simpa using hi)).toNat = (gb xs i).toNat := by
    simp [strB, gb, List.getD, List.getElem?_eq_getElem hi, ByteArray.getElem_eq_getElem_data]
    have := hu _ (List.getElem_mem hi)
    omega
  rw [e]
  congr 2
  omega
end Go.Proofs.Ytlbiigaefipneaa
