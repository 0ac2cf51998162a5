/-
  copy of bytes, the destination's block known whole: as a step of a region that draws, and as an operation of the walk. What no program names.
-/
import Derived.Test.YteljjngmhldfbaaPiPure
import Derived.Deep.RegionLaw
namespace Go.Proofs.Yteljjngmhldfbaa
open Go.ChangeShapes Go.WideShapes Go.ChangeAt Go.RowKit
set_option linter.unusedVariables false
theorem size_u8p : (Try.prog.info? 5).map (·.size) = some 1 := by kernel_rfl

theorem wp_copy_u8 {o : Oper} {a : Act} {w : World} {K : Act → World → Prop} {Q : Exit → Act → World → Prop} (d s : Operand)
    (ho : o.op = .call { callee := .builtin .copy, args := #[d, s], argTypes := #[29, 29] })
    (dp sp : Option Addr) (dLen dCap sLen sCap : Nat) (hd : a.eval d = .slice dp dLen dCap) (hs : a.eval s = .slice sp sLen sCap)
    (g off : Nat) (t : TypeId) (cur : List Value) (hg : Blk w g t cur.toArray) (ys : List Int) (k : Nat) (hk : ys.length = k) (hn : k = Nat.min sLen dLen)
    (hpos : 0 < k → dp = some ⟨g, off, none⟩ ∧ Sees w sp k ys) (hfit : off + k ≤ cur.length)
    (h : ∀ w', Hid (Blk w' g t (Go.splice cur off (u8l ys)).toArray) → Only [g] w w' → K (a.put o.dst (goInt k)) w') : Oper.wp Try.prog o a w K Q := by
  subst hk
  by_cases h0 : ys.length = 0
  · obtain rfl : ys = [] := List.eq_nil_of_length_eq_zero h0
    have hrun := run_copy_none (P := Try.prog) w 29 29 o.type 5 dp sp dLen dCap sLen sCap Try.underlying29 size_u8p (by simpa using hn.symm)
    unfold Oper.wp
    simp [execOp, ho, resolve, invoke, builtin, hd, hs, hrun, Result.andThen]
    exact h w (show Blk w g t _ by simpa [Go.splice, u8l] using hg) (Only.refl _ _)
  · obtain ⟨rfl, hy⟩ := hpos (by omega)
    obtain ⟨b, q, rfl, hb, hc⟩ := hy.2 (by omega)
    have hrun := run_copy_row (P := Try.prog) w 29 29 o.type 5 g off dLen dCap ⟨b, q, none⟩ sLen sCap cur.toArray t (u8l ys) Try.underlying29 size_u8p hg (by rw [u8l_length]; exact hn) (by
      intro j v hj
      have hjn : j < ys.length := by
        have := (List.getElem?_eq_some_iff.1 hj).1
        rw [u8l_length] at this
        exact this
      rw [add_at, hc j hjn]
      have e : (u8l ys)[j]? = some (Value.int .u8 (gb ys j)) := by simp [u8l, gb, List.getD, List.getElem?_eq_getElem hjn]
      rw [e] at hj
      exact hj) (by rw [u8l_length]; simpa using hfit) (u8l_one _)
    have hl := u8l_length ys
    unfold Oper.wp
    simp [execOp, ho, resolve, invoke, builtin, hd, hs, hrun, Result.andThen]
    rw [hl]
    refine h _ (show Blk _ g t _ by simpa [Go.splice, hl] using hg.row _) ((Only.refl _ _).setRow _ (by simp))
theorem wpList_copy_u8 {ops : Array Oper} {rest : List Oper} {o : Oper} {a : Act} {w : World} {Q : Exit → Act → World → Prop} (hgd : o.guard = none) (d s : Operand)
    (ho : o.op = .call { callee := .builtin .copy, args := #[d, s], argTypes := #[29, 29] })
    (dp sp : Option Addr) (dLen dCap sLen sCap : Nat) (hd : a.eval d = .slice dp dLen dCap) (hs : a.eval s = .slice sp sLen sCap)
    (g off : Nat) (t : TypeId) (cur : List Value) (hg : Blk w g t cur.toArray) (ys : List Int) (k : Nat) (hk : ys.length = k) (hn : k = Nat.min sLen dLen)
    (hpos : 0 < k → dp = some ⟨g, off, none⟩ ∧ Sees w sp k ys) (hfit : off + k ≤ cur.length)
    (h : ∀ w', Hid (Blk w' g t (Go.splice cur off (u8l ys)).toArray) → Only [g] w w' → wpList Try.prog ops Q rest (a.put o.dst (goInt k)) w') : wpList Try.prog ops Q (o :: rest) a w :=
  wpList_plain hgd fun _ hK' => wp_copy_u8 d s ho dp sp dLen dCap sLen sCap hd hs g off t cur hg ys k hk hn hpos hfit fun w' h1 h2 => hK' _ _ (h w' h1 h2)
theorem step_copy_u8 {ops : Array Oper} {o : Oper} {a : Act} {w : World} {K : Act → World → Prop} {Q : Exit → Act → World → Prop} {E : Prop} (hgd : o.guard = none) (d s : Operand)
    (ho : o.op = .call { callee := .builtin .copy, args := #[d, s], argTypes := #[29, 29] })
    (dp sp : Option Addr) (dLen dCap sLen sCap : Nat) (hd : a.eval d = .slice dp dLen dCap) (hs : a.eval s = .slice sp sLen sCap)
    (g off : Nat) (t : TypeId) (cur : List Value) (hg : Blk w g t cur.toArray) (ys : List Int) (k : Nat) (hk : ys.length = k) (hn : k = Nat.min sLen dLen)
    (hpos : 0 < k → dp = some ⟨g, off, none⟩ ∧ Sees w sp k ys) (hfit : off + k ≤ cur.length)
    (h : ∀ w', Hid (Blk w' g t (Go.splice cur off (u8l ys)).toArray) → Only [g] w w' → K (a.put o.dst (goInt k)) w') :
    if Region.wanted o (yielded ops a.tmps) = true then Oper.wp Try.prog o a w K Q else E := by
  have hw : Region.wanted o (yielded ops a.tmps) = true := by simp [Region.wanted, hgd]
  rw [if_pos hw]
  exact wp_copy_u8 d s ho dp sp dLen dCap sLen sCap hd hs g off t cur hg ys k hk hn hpos hfit h
end Go.Proofs.Yteljjngmhldfbaa
