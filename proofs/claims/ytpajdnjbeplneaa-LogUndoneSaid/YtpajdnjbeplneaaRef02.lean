/-
  What the calls of the document's own disk (parapetref02) come to: Off, Pending, Load; strings of bytes.
-/
import Derived.Test.YtpajdnjbeplneaaDiskSee
import Derived.Test.YtpajdnjbeplneaaDiskWrite
import Derived.Laws.IdiomStrings
import Derived.Lib.BufferRead
namespace Go.Proofs.Ytpajdnjbeplneaa
open Go.ChangeShapes Go.WideShapes Go.ChangeAt Go.RowKit
set_option linter.unusedVariables false

/-- A slice of sectors reads as a list of writes. -/
def Secs (w : World) (A : Option Addr) (ws : List (Nat × List Int)) : Prop :=
  0 < ws.length → ∃ b, A = some ⟨b, 0, none⟩ ∧ b < w.heap.size ∧ ∀ (i : Nat) (x : Nat × List Int), ws[i]? = some x → ∃ d o c, w.cell? ⟨b, i * 2, none⟩ = some (.int .i64 x.1) ∧ w.cell? ⟨b, i * 2 + 1, none⟩ = some (.slice (some ⟨d, o, none⟩) 512 c) ∧ Sees w (some ⟨d, o, none⟩) 512 x.2

structure IsRef2 (w : World) (g pb pc : Nat) (pr : List Value) (A : Option Addr) (cap : Nat) (N : Nat) (plat : List Int) (ws : List (Nat × List Int)) (left : Int) (stops : Bool) (rd wt fl : Int) : Prop where
  str : Blk w g 77 #[.int .i64 N, .slice (some ⟨pb, 0, none⟩) (512 * N) pc, .slice A ws.length cap, .int .i64 left, .bool stops, .int .i64 rd, .int .i64 wt, .int .i64 fl]
  row : Blk w pb 5 (u8l plat ++ pr).toArray
  len : plat.length = 512 * N
  cap : 512 * N + pr.length = pc
  pos : 1 ≤ N
  big : N ≤ 4096
  u8 : U8 plat
  secs : Secs w A ws
  few : ws.length ≤ 4398046511000

section
variable {w w' : World} {g pb pc : Nat} {pr : List Value} {A : Option Addr} {cap N : Nat} {plat : List Int} {ws : List (Nat × List Int)} {left : Int} {stops : Bool} {rd wt fl : Int}
theorem IsRef2.c0 (h : IsRef2 w g pb pc pr A cap N plat ws left stops rd wt fl) : w.cell? ⟨g, 0, none⟩ = some (.int .i64 N) := by rw [h.str.cell]; rfl
theorem IsRef2.c1 (h : IsRef2 w g pb pc pr A cap N plat ws left stops rd wt fl) : w.cell? ⟨g, 1, none⟩ = some (.slice (some ⟨pb, 0, none⟩) (512 * N) pc) := by rw [h.str.cell]; rfl
theorem IsRef2.c2 (h : IsRef2 w g pb pc pr A cap N plat ws left stops rd wt fl) : w.cell? ⟨g, 2, none⟩ = some (.slice A ws.length cap) := by rw [h.str.cell]; rfl
theorem IsRef2.c3 (h : IsRef2 w g pb pc pr A cap N plat ws left stops rd wt fl) : w.cell? ⟨g, 3, none⟩ = some (.int .i64 left) := by rw [h.str.cell]; rfl
theorem IsRef2.c4 (h : IsRef2 w g pb pc pr A cap N plat ws left stops rd wt fl) : w.cell? ⟨g, 4, none⟩ = some (.bool stops) := by rw [h.str.cell]; rfl
theorem IsRef2.c5 (h : IsRef2 w g pb pc pr A cap N plat ws left stops rd wt fl) : w.cell? ⟨g, 5, none⟩ = some (.int .i64 rd) := by rw [h.str.cell]; rfl
theorem IsRef2.c6 (h : IsRef2 w g pb pc pr A cap N plat ws left stops rd wt fl) : w.cell? ⟨g, 6, none⟩ = some (.int .i64 wt) := by rw [h.str.cell]; rfl
theorem IsRef2.c7 (h : IsRef2 w g pb pc pr A cap N plat ws left stops rd wt fl) : w.cell? ⟨g, 7, none⟩ = some (.int .i64 fl) := by rw [h.str.cell]; rfl

/-- Nothing that was there has turned but for new blocks: it is still that disk. -/
theorem IsRef2.keep (h : IsRef2 w g pb pc pr A cap N plat ws left stops rd wt fl) (ho : Only [] w w') : IsRef2 w' g pb pc pr A cap N plat ws left stops rd wt fl :=
  ⟨h.str.only ho (by simp), h.row.only ho (by simp), h.len, h.cap, h.pos, h.big, h.u8, fun hp => by
    obtain ⟨b, hA, hb, hc⟩ := h.secs hp
    refine ⟨b, hA, Nat.lt_of_lt_of_le hb ho.size, fun i x hx => ?_⟩
    obtain ⟨d, o, c, h1, h2, h3⟩ := hc i x hx
    exact ⟨d, o, c, (ho.cell hb (by simp)).trans h1, (ho.cell hb (by simp)).trans h2, h3.only ho (by simp)⟩, h.few⟩

theorem roff_is (h : IsRef2 w g pb pc pr A cap N plat ws left stops rd wt fl) : Calls Try.prog 90 #[.pointer (some ⟨g, 0, none⟩)] w fun e w' => e = .returned (.bool (stops && decide (left = 0))) ∧ Only [] w w' := by
  have h3 := h.c3
  have h4 := h.c4
  clear h
  cases stops
  · go_enter Try.func90, Try.ntmps90
    go_wp2
    go_ret
    exact ⟨rfl, by repeat (first | exact Only.refl _ _ | apply Only.drew)⟩
  · by_cases h0 : left = 0
    · subst h0
      go_enter Try.func90, Try.ntmps90
      go_wp2
      go_ret
      exact ⟨rfl, by repeat (first | exact Only.refl _ _ | apply Only.drew)⟩
    · have HD := hide (decide_eq_false h0)
      have HB := beq_eq_false_iff_ne.2 h0
      clear h0
      go_enter Try.func90, Try.ntmps90
      go_wp2
      go_ret
      exact ⟨by rw [HD.out]; rfl, by repeat (first | exact Only.refl _ _ | apply Only.drew)⟩
end

section
variable {w w' : World} {g pb pc : Nat} {pr : List Value} {A : Option Addr} {cap N : Nat} {plat : List Int} {ws : List (Nat × List Int)} {left : Int} {stops : Bool} {rd wt fl : Int}

def RPendRel (w : World) (ws : List (Nat × List Int)) (i out : Value) (wr : World) : Prop :=
  ∃ k : Nat, k ≤ ws.length ∧ i = .int .i64 k ∧ Only [] w wr ∧ PendRow wr w.heap.size out ((ws.take k).map fun x => (x.1 : Int))

set_option maxRecDepth 100000 in
theorem rpending_is (h : IsRef2 w g pb pc pr A cap N plat ws left stops rd wt fl) : Calls Try.prog 41 #[.pointer (some ⟨g, 0, none⟩)] w fun e w' => ∃ v, e = .returned v ∧ PendRow w' w.heap.size v (ws.map fun x => (x.1 : Int)) ∧ Only [] w w' := by
  have h2 := h.c2
  have hfew := h.few
  have HD := hide h
  obtain ⟨i0, hi, hz0, hz1, hz2⟩ := info_parts info_intD
  clear h
  go_enter Try.func41, Try.ntmps41
  go_wp2
  clear h2
  go_loopw [3, 11] (fun out i wr => RPendRel w ws i out wr) (fun _ i _ => ws.length - (intOf i).toNat)
  case atStart => exact ⟨0, Nat.zero_le _, rfl, Only.refl _ _, by simp, .inl ⟨rfl, by simp⟩⟩
  case round =>
    obtain ⟨k, hk, rfl, ho, hrow⟩ := hrel
    have HO := hide ho
    have HR := hide hrow
    by_cases hlt : k < ws.length
    · obtain ⟨b, rfl, hbl, hcs⟩ := HD.out.secs (by omega)
      obtain ⟨x, hx⟩ : ∃ x, ws[k]? = some x := ⟨_, List.getElem?_eq_getElem hlt⟩
      obtain ⟨d, o, c, s0, s1, _⟩ := hcs k x hx
      have e0 := (ho.cell hbl (by simp)).trans s0
      have e1 := (ho.cell hbl (by simp)).trans s1
      have HX := hide hx
      have HOW := hide (fun (o1 o2 : Obj) => show PendRow ((wr.alloc o1).alloc o2) w.heap.size u3 ((ws.take k).map fun x => (x.1 : Int)) from ownsRow_only hrow (((Only.refl [] wr).alloc o1).alloc o2) (by simp))
      have HNK := hide (show ((ws.take k).map fun x => (x.1 : Int)).length = k by simp; omega)
      have HSZ := hide (show ∀ o1 o2 : Obj, w.heap.size ≤ ((wr.alloc o1).alloc o2).heap.size from fun o1 o2 => Nat.le_trans ho.size (by simp; omega))
      clear hcs s0 s1 hx hrow ho
      go_wp2_with (at_builtin; refine wpList_append_own _ rfl _ _ 42 rfl w.heap.size 3 i0 _ 1 8 Try.underlying42 hi hz0 hz1 hz2 rfl (by decide) _ _ _ rfl (HOW.out _ _) ⟨_, 0, none⟩ 1 1 [.int .i64 x.1] rfl rfl ?qc2 ?qc3 ?qc4 ?qc5 (HSZ.out _ _) ?_)
      case qc2 =>
        intro j u hj
        have h0 : j = 0 := by
          have := (List.getElem?_eq_some_iff.1 hj).1
          simp at this
          exact this
        subst h0
        rw [add_at]
        have hb := Blk.new (wr.alloc (.cells #[.int .i64 x.1, .slice (some ⟨d, o, none⟩) 512 c] 112)) 3 #[.int .i64 x.1]
        rw [show (wr.alloc (.cells #[.int .i64 x.1, .slice (some ⟨d, o, none⟩) 512 c] 112)).heap.size = wr.heap.size + 1 by simp] at hb
        rw [hb.cell]
        exact hj
      case qc3 =>
        intro u hu
        obtain rfl := List.mem_singleton.1 hu
        rfl
      case qc4 => rw [HNK.out]; unfold maxLen; omega
      case qc5 => rw [HNK.out]; omega
      intro v' w1 hown1 hgrow hnil
      have HO1 := hide (show Only [] w w1 from ((HO.out.alloc _).alloc _).trans' (only_grown hgrow) (fun q hq hm => by
        have hm' : u3.ownBlock = some q := by simpa using hm
        rcases HR.out.2 with ⟨e, _⟩ | ⟨q', cp, cur, e, hB, _⟩
        · rw [e] at hm'; simp [Value.ownBlock] at hm'
        · rw [e] at hm'
          simp only [Value.ownBlock, Option.some.injEq] at hm'
          omega))
      have HR1 := hide (show PendRow w1 w.heap.size v' ((ws.take (k + 1)).map fun x => (x.1 : Int)) from by
        have e : (ws.take (k + 1)).map (fun x => (x.1 : Int)) = ((ws.take k).map fun x => (x.1 : Int)) ++ [(x.1 : Int)] := by
          rw [List.take_succ_eq_append_getElem hlt]
          have := (List.getElem?_eq_some_iff.1 HX.out).2
          simp [this]
        unfold PendRow
        rw [e, List.length_append, List.length_singleton, HNK.out]
        simpa [List.map_take] using hown1)
      clear hown1 hgrow hnil
      go_wp2
      go_roundw
      case rel => exact ⟨k + 1, hlt, by go_num, HO1.out, HR1.out⟩
      case measure => simp [intOf]; omega
    · obtain rfl : k = ws.length := by omega
      have HR1 := hide (show PendRow wr w.heap.size u3 (ws.map fun x => (x.1 : Int)) from by
        have := hrow
        rw [List.take_length] at this
        exact this)
      clear hrow ho HR
      go_wp2
      go_ret
      exact ⟨_, rfl, HR1.out, HO.out⟩
end
/-- What makes a reference disk. -/
def Made2 (w w' : World) (e : Ending) (N : Nat) (plat : List Int) : Prop :=
  ∃ g pb pc pr, e = .returned (.tuple #[.pointer (some ⟨g, 0, none⟩), .int .i64 0]) ∧ w.heap.size ≤ g ∧ w.heap.size ≤ pb ∧ Only [] w w' ∧ IsRef2 w' g pb pc pr none 0 N plat [] 0 false 0 0 0
end Go.Proofs.Ytpajdnjbeplneaa
