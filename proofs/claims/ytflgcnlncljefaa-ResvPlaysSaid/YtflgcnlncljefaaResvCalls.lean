/-
  The gate (parapet/resv): 'Gt w g H s F': a gate, its blocks F, as what it says (GS): what lives, the seats. New, Enter, Take, Give, Leave.
-/
import Derived.Test.YtflgcnlncljefaaResvAdmit
namespace Go.Proofs.Ytflgcnlncljefaa
open Go.ChangeShapes Go.WideShapes Go.ChangeAt Go.RowKit
set_option linter.unusedVariables false

/-- What is reserved. -/
def resvL : List ST → Int
  | [] => 0
  | s :: r => (if s.waits = true then 0 else s.bound) + resvL r
theorem resvL_append (a b : List ST) : resvL (a ++ b) = resvL a + resvL b := by
  induction a with
  | nil => simp [resvL]
  | cons s r ih => simp only [List.cons_append, resvL, ih]; omega
theorem resvL_pos {ss : List ST} (h : ∀ s ∈ ss, 0 ≤ s.bound) : 0 ≤ resvL ss := by
  induction ss with
  | nil => simp [resvL]
  | cons s r ih =>
    have h1 := h s (by simp)
    have h2 := ih fun x hx => h x (by simp [hx])
    simp only [resvL]
    split <;> omega
theorem resvL_split {ss : List ST} {i : Nat} {s : ST} (hs : ss[i]? = some s) : resvL ss = (if s.waits = true then 0 else s.bound) + resvL (ss.eraseIdx i) := by
  induction ss generalizing i with
  | nil => simp at hs
  | cons x r ih =>
    cases i with
    | zero =>
      simp only [List.getElem?_cons_zero, Option.some.injEq] at hs
      subst hs
      simp [resvL]
    | succ i =>
      have := ih (i := i) (by simpa using hs)
      simp only [List.eraseIdx_cons_succ, resvL]
      omega
theorem resvL_set {ss : List ST} {i : Nat} {s t : ST} (hs : ss[i]? = some s) : resvL (ss.set i t) = resvL ss - (if s.waits = true then 0 else s.bound) + (if t.waits = true then 0 else t.bound) := by
  induction ss generalizing i with
  | nil => simp at hs
  | cons x r ih =>
    cases i with
    | zero =>
      simp only [List.getElem?_cons_zero, Option.some.injEq] at hs
      subst hs
      simp only [List.set_cons_zero, resvL]
      omega
    | succ i =>
      have := ih (i := i) (by simpa using hs)
      simp only [List.set_cons_succ, resvL]
      omega
theorem admitGo_resv (H L : Int) : ∀ (ss : List ST) (R : Int), (admitGo H L R ss).1 = R + (resvL (admitGo H L R ss).2.1 - resvL ss)
  | [], R => by simp [admitGo, resvL]
  | s :: r, R => by
    rw [admitGo]
    split
    · rename_i hw
      split
      · simp
      · have := admitGo_resv H L r (R + s.bound)
        simp only [resvL, hw, if_true]
        simp
        omega
    · rename_i hw
      have := admitGo_resv H L r R
      simp only [resvL, hw]
      simp
      omega
/-- Who waits is let in: the seats then, and who they were. -/
def admS (H L : Int) (ss : List ST) : List ST × List Int := (admitGo H L (resvL ss) ss).2
theorem admS_resv (H L : Int) (ss : List ST) : (admitGo H L (resvL ss) ss).1 = resvL (admS H L ss).1 := by
  have := admitGo_resv H L ss (resvL ss)
  unfold admS
  omega

/-- What a gate says. -/
structure GS where
  L : Int
  ss : List ST
def GS.ok (H : Int) (s : GS) : Prop := Small H s.L (resvL s.ss) s.ss
theorem GS.ok.adm {H : Int} {s : GS} (h : s.ok H) : GS.ok H ⟨s.L, (admS H s.L s.ss).1⟩ := by
  have := admitGo_small h
  rw [admS_resv] at this
  exact this

def enterF (H : Int) (s : GS) (id bound : Int) : Bool × Int × GS :=
  if bound < 0 then (false, 1, s) else if 0 ≤ atI s.ss id then (false, 5, s) else if H < bound then (false, 3, s) else if s.ss.length = 64 then (false, 2, s)
  else (decide (0 < (admS H s.L (s.ss ++ [⟨id, bound, 0, true⟩])).2.length), 0, ⟨s.L, (admS H s.L (s.ss ++ [⟨id, bound, 0, true⟩])).1⟩)
def takeF (s : GS) (id n : Int) : Int × GS :=
  if n < 0 then (1, s) else if inB s.ss id = false then (4, s) else match s.ss[(atI s.ss id).toNat]? with
  | none => (4, s)
  | some t => if t.bound < n then (90, s) else (0, ⟨s.L + n, s.ss.set (atI s.ss id).toNat { t with bound := t.bound - n, taken := t.taken + n }⟩)
def giveF (H : Int) (s : GS) (n : Int) : List Int × Int × GS :=
  if n < 0 ∨ s.L < n then ([], 1, s) else ((admS H (s.L - n) s.ss).2, 0, ⟨s.L - n, (admS H (s.L - n) s.ss).1⟩)
def leaveF (H : Int) (s : GS) (id : Int) : List Int × Int × GS :=
  if atI s.ss id < 0 then ([], 4, s) else ((admS H s.L (s.ss.eraseIdx (atI s.ss id).toNat)).2, 0, ⟨s.L, (admS H s.L (s.ss.eraseIdx (atI s.ss id).toNat)).1⟩)

def footG (g : Nat) (v : Value) : List Nat := g :: v.ownBlock.toList
def Gt (w : World) (g : Nat) (H : Int) (s : GS) (F : List Nat) : Prop := ∃ v, IsGt w g H s.L (resvL s.ss) v s.ss ∧ s.ok H ∧ F = footG g v
def TurnedG (w w' : World) (F F' : List Nat) : Prop := Only F w w' ∧ ∀ q ∈ F', q ∈ F ∨ w.heap.size ≤ q
theorem TurnedG.same {w w' : World} {F : List Nat} (h : Only F w w') : TurnedG w w' F F := ⟨h, fun q hq => .inl hq⟩

section
variable {w w' : World} {g : Nat} {H L R : Int} {v : Value} {ss : List ST} {S F : List Nat} {s : GS}
theorem Gt.lt (h : Gt w g H s F) : ∀ q ∈ F, q < w.heap.size := by
  obtain ⟨v, h1, _, rfl⟩ := h
  intro q hq
  rcases List.mem_cons.1 hq with rfl | hq
  · exact h1.blk.lt
  · exact (h1.row.at_ (Option.mem_toList.1 hq)).1
theorem Gt.only (h : Gt w g H s F) (ho : Only S w w') (hs : ∀ q ∈ F, q ∉ S) : Gt w' g H s F := by
  obtain ⟨v, h1, h2, rfl⟩ := h
  exact ⟨v, h1.only ho (hs g (by simp [footG])) (fun k hk => hs k (by simp [footG, hk])), h2, rfl⟩
theorem Gt.ok (h : Gt w g H s F) : s.ok H := by obtain ⟨v, _, h2, _⟩ := h; exact h2

theorem IsGt.setV (h : IsGt w g H L R v ss) {w1 : World} {v' : Value} {ss' : List ST} (hr : SRw w1 v' ss') (ho : Only v.ownBlock.toList w w1) (hf : ss'.length ≤ 64) : IsGt (w1.setCell ⟨g, 3, none⟩ v') g H L R v' ss' := by
  have hb : Blk w1 g 59 #[.int .i64 H, .int .i64 L, .int .i64 R, v] := h.blk.only ho (fun hm => h.far g (by simpa using hm) rfl)
  refine ⟨hb.set_ 3 _, hr.only ((Only.refl [g] w1).setCell _ (by simp)) (fun q hq hm => hr.apart hb (by decide) q hq (by simpa using hm)), h.size, hf⟩

def MadeG (w : World) (n : Int) (e : Ending) (w' : World) : Prop :=
  ∃ g F, e = .returned (.tuple #[.pointer (some ⟨g, 0, none⟩), .int .i64 0]) ∧ Gt w' g n ⟨0, []⟩ F ∧ (∀ q ∈ F, w.heap.size ≤ q) ∧ Only [] w w'
theorem gNew_no (n : Int) (h : n < 1 ∨ 1073741824 < n) : Calls Try.prog 9 #[.int .i64 n] w fun e w' => e = .returned (.tuple #[.pointer none, .int .i64 1]) ∧ w = w' := by
  by_cases h1 : n < 1
  · go_enter Try.func9, Try.ntmps9
    go_wp2
    go_ret2
    exact ⟨rfl, rfl⟩
  · have h2 : 1073741824 < n := by omega
    go_enter Try.func9, Try.ntmps9
    go_wp2
    go_ret2
    exact ⟨rfl, rfl⟩
theorem gNew_ok (n : Int) (h : 1 ≤ n ∧ n ≤ 1073741824) : Calls Try.prog 9 #[.int .i64 n] w fun e w' => MadeG w n e w' := by
  have h1 : ¬ n < 1 := by omega
  have h2 : ¬ 1073741824 < n := by omega
  have HN := hide h
  clear h
  go_enter Try.func9, Try.ntmps9
  go_wp2
  go_ret2
  refine ⟨w.heap.size, [w.heap.size], rfl, ⟨.slice none 0 0, ⟨Blk.new w _ _, SRw.nil _, HN.out, by simp⟩, ⟨HN.out, by simp, by simp [resvL], by have := HN.out; simp [resvL]; omega, by simp, by simp⟩, rfl⟩, by simp, (Only.refl [] w).alloc _⟩
end
end Go.Proofs.Ytflgcnlncljefaa
