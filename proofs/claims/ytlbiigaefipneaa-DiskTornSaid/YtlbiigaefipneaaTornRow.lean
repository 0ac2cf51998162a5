/-
  A slice of the reference's sectors that a law keeps of its own ('SRow'), and the law's own 'mixed'.
-/
import Derived.Test.YtlbiigaefipneaaTornStr
import Derived.Test.YtlbiigaefipneaaDiskOps
namespace Go.Proofs.Ytlbiigaefipneaa
open Go.ChangeShapes Go.WideShapes Go.ChangeAt Go.RowKit
set_option linter.unusedVariables false

/-- The string of a part of a block of bytes. -/
theorem conv_cut {w : World} {d : Nat} {xs : List Int} {r : List Value} (h : Blk w d 5 (u8l xs ++ r).toArray) (hu : U8 xs) (o m c : Nat) (hm : o + m ≤ xs.length) :
    (convert 33 9 (.slice (some ⟨d, o, none⟩) m c)).run Try.prog w = .ok (.string (strB ((xs.drop o).take m))) w :=
  conv_bytes w _ m c _ ⟨by simp; omega, fun _ => ⟨d, o, rfl, h.lt, fun i hi => by rw [h.cell, gb_cut _ _ _ _ hi]; exact u8l_get xs r (o + i) (by omega)⟩⟩ (by simp) ((hu.drop _).take _)
theorem conv_blk_ {w : World} {d c : Nat} {xs : List Int} {r : List Value} (h : Blk w d 5 (u8l xs ++ r).toArray) (hu : U8 xs) : (convert 33 9 (.slice (some ⟨d, 0, none⟩) xs.length c)).run Try.prog w = .ok (.string (strB xs)) w := by
  have := conv_cut h hu 0 xs.length c (by omega)
  rwa [List.drop_zero, List.take_length] at this

/-- A write that was kept: its sector, the block of its bytes, the bytes. -/
structure SW where
  sec : Nat
  blk : Nat
  data : List Int
def SW.cells (x : SW) : List Value := [.int .i64 x.sec, .slice (some ⟨x.blk, 0, none⟩) 512 512]
def SW.pair (x : SW) : Nat × List Int := (x.sec, x.data)
structure SW.ok (w : World) (N : Nat) (x : SW) : Prop where
  row : Blk w x.blk 5 (u8l x.data).toArray
  len : x.data.length = 512
  u8 : U8 x.data
  sec : x.sec < N

/-- The slice v of the writes ws; its blocks lie in G. -/
structure SRow (w : World) (B N : Nat) (v : Value) (ws : List SW) (G : List Nat) : Prop where
  own : w.ownsRow B 36 2 v ws.length (ws.flatMap SW.cells)
  ok : ∀ x ∈ ws, x.ok w N
  foot : ∀ q, v.ownBlock = some q → q ∈ G
  blks : ∀ x ∈ ws, x.blk ∈ G
  lt : ∀ q ∈ G, B ≤ q ∧ q < w.heap.size

theorem sflat_cell {ws : List SW} {i : Nat} {x : SW} (h : ws[i]? = some x) : (ws.flatMap SW.cells)[i * 2]? = some (.int .i64 x.sec) ∧ (ws.flatMap SW.cells)[i * 2 + 1]? = some (.slice (some ⟨x.blk, 0, none⟩) 512 512) := by
  induction ws generalizing i with
  | nil => simp at h
  | cons y r ih =>
    cases i with
    | zero =>
      simp only [List.getElem?_cons_zero, Option.some.injEq] at h
      subst h
      simp [SW.cells]
    | succ i =>
      have := ih (i := i) (by simpa using h)
      simp only [List.flatMap_cons, SW.cells]
      rw [show (i + 1) * 2 = i * 2 + 2 by omega]
      simpa using this

section
variable {w w' : World} {B N : Nat} {v : Value} {ws : List SW} {G S : List Nat}
theorem SRow.form (h : SRow w B N v ws G) : ∃ A cap, v = .slice A ws.length cap ∧ (0 < ws.length → ∃ b, A = some ⟨b, 0, none⟩ ∧ b < w.heap.size ∧ ∀ (i : Nat) (x : SW), ws[i]? = some x →
    w.cell? ⟨b, i * 2, none⟩ = some (.int .i64 x.sec) ∧ w.cell? ⟨b, i * 2 + 1, none⟩ = some (.slice (some ⟨x.blk, 0, none⟩) 512 512)) := by
  rcases h.own.2 with ⟨e, h0⟩ | ⟨b, cap, cur, e, _, hg, hn, hm, hs, ht⟩
  · exact ⟨none, 0, by rw [e, h0], fun hp => absurd hp (by omega)⟩
  · refine ⟨some ⟨b, 0, none⟩, cap, e, fun _ => ⟨b, rfl, Blk.lt (t := 36) hg, fun i x hx => ?_⟩⟩
    obtain ⟨h1, h2⟩ := sflat_cell hx
    have hil : i < ws.length := (List.getElem?_eq_some_iff.1 hx).1
    have hc : ∀ j, j < ws.length * 2 → w.cell? ⟨b, j, none⟩ = (ws.flatMap SW.cells)[j]? := fun j hj => by
      rw [Blk.cell (t := 36) hg, ← ht, List.getElem?_take]
      simp [hj]
    exact ⟨(hc _ (by omega)).trans h1, (hc _ (by omega)).trans h2⟩
theorem SRow.only (h : SRow w B N v ws G) (ho : Only S w w') (hs : ∀ q ∈ G, q ∉ S) : SRow w' B N v ws G :=
  ⟨ownsRow_only h.own ho (fun q hq => hs q (h.foot q hq)), fun x hx => ⟨(h.ok x hx).row.only ho (hs _ (h.blks x hx)), (h.ok x hx).len, (h.ok x hx).u8, (h.ok x hx).sec⟩, h.foot, h.blks, fun q hq => ⟨(h.lt q hq).1, Nat.lt_of_lt_of_le (h.lt q hq).2 ho.size⟩⟩
theorem SRow.nil (w : World) (B N : Nat) : SRow w B N (.slice none 0 0) [] [] :=
  ⟨World.ownsRow_nil _ _ _ _, by simp, by simp [Value.ownBlock], by simp, by simp⟩
theorem SRow.fits (h : SRow w B N v ws G) : Fits N (ws.map SW.pair) := fun p hp => by
  obtain ⟨x, hx, rfl⟩ := List.mem_map.1 hp
  exact ⟨(h.ok x hx).len, (h.ok x hx).sec⟩
end

/-- Is byte i of sector n the old one's, or one of the writes'? -/
def mixB (old now : List Int) (n : Nat) (ws : List SW) (i j : Nat) : Bool := (gb now i == gb old i) || (ws.take j).any fun x => (x.sec == n) && (gb x.data i == gb now i)
theorem mixB_succ {old now : List Int} {n : Nat} {ws : List SW} {i j : Nat} {x : SW} (hx : ws[j]? = some x) : mixB old now n ws i (j + 1) = (mixB old now n ws i j || ((x.sec == n) && (gb x.data i == gb now i))) := by
  have hj : j < ws.length := (List.getElem?_eq_some_iff.1 hx).1
  unfold mixB
  rw [List.take_succ_eq_append_getElem hj, (List.getElem?_eq_some_iff.1 hx).2, List.any_append]
  simp [Bool.or_assoc]

def MixIn (w0 : World) (old now : List Int) (n : Nat) (ws : List SW) (i : Nat) (ok jv : Value) (wr : World) : Prop :=
  ∃ j : Nat, j ≤ ws.length ∧ jv = .int .i64 j ∧ ok = .bool (mixB old now n ws i j) ∧ Only [] w0 wr

set_option maxRecDepth 100000 in
set_option maxHeartbeats 2000000 in
theorem mixed_ok {w : World} {B N : Nat} {v : Value} {ws : List SW} {G : List Nat} (h : SRow w B N v ws G) (old now : List Int) (n : Nat) (hn : n < 4096) (hbig : ws.length < 4398046511000) (ho : old.length = 512) (hw : now.length = 512) (uo : U8 old) (uw : U8 now)
    (hmix : ∀ i, i < 512 → mixB old now n ws i ws.length = true) :
    Calls Try.prog 12 #[.string (strB old), .string (strB now), .int .i64 (n : Int), v] w fun e w' => e = .returned (.bool true) ∧ Only [] w w' := by
  obtain ⟨A, cap, rfl, hA⟩ := h.form
  have HA := hide hA
  have HR := hide h
  have HM := hide hmix
  have hsn : (strB now).size = 512 := by rw [strB_size, hw]
  have hso : (strB old).size = 512 := by rw [strB_size, ho]
  have HIN := hide (fun (i : Nat) (hi : i < 512) (wr : World) => run_index_strB uw (by rw [hw]; exact hi : i < now.length) wr)
  have HIO := hide (fun (i : Nat) (hi : i < 512) (wr : World) => run_index_strB uo (by rw [ho]; exact hi : i < old.length) wr)
  have HUN := hide uw
  have HUO := hide uo
  clear h hA hmix uo uw hso
  go_enter Try.func12, Try.ntmps12
  go_wp2
  go_loopw [9] (fun iv wr => ∃ k : Nat, k ≤ 512 ∧ iv = .int .i64 k ∧ Only [] w wr) (fun iv _ => 512 - (intOf iv).toNat)
  case atStart => exact ⟨0, by decide, rfl, Only.refl _ _⟩
  case round =>
    obtain ⟨k, hk, rfl, hwr⟩ := hrel
    have HW := hide hwr
    clear hwr
    by_cases hlt : k < 512
    · have i1 := HIN.out k hlt
      have i2 := HIO.out k hlt
      obtain ⟨n0, n1⟩ := HUN.out.get k
      obtain ⟨m0, m1⟩ := HUO.out.get k
      go_wp2
      go_quiet (fail)
      have hm0 : (gb now k == gb old k) = mixB old now n ws k 0 := by simp [mixB]
      rw [hm0]
      clear hm0 i1 i2 m0 m1
      have HW2 := hide (HW.out.drewN nq)
      revert HW2
      generalize wr.drewN nq = wq
      intro HW2
      go_wp2
      go_loopw [10, 28] (fun ok jv wz => MixIn wq old now n ws k ok jv wz) (fun _ jv _ => ws.length - (intOf jv).toNat)
      case atStart => exact ⟨0, Nat.zero_le _, rfl, rfl, Only.refl _ _⟩
      case round =>
        obtain ⟨j, hj, rfl, rfl, hoz⟩ := hrel
        have HZ := hide hoz
        by_cases hjl : j < ws.length
        · obtain ⟨b, rfl, hb, hcs⟩ := HA.out (by omega)
          obtain ⟨x, hx⟩ : ∃ x, ws[j]? = some x := ⟨_, List.getElem?_eq_getElem hjl⟩
          obtain ⟨c0, c1⟩ := hcs j x hx
          have how : Only [] w wr := HW2.out.trans hoz
          have e0 := (how.cell hb (by simp)).trans c0
          have e1 := (how.cell hb (by simp)).trans c1
          have hxo := HR.out.ok x (List.mem_of_getElem? hx)
          have hbx := hxo.row.only how (by simp)
          have e2 : ∀ o : Obj, (wr.alloc o).cell? ⟨x.blk, k, none⟩ = some (.int .u8 (gb x.data k)) := fun o => by
            have := (hbx.alloc o).cell k
            rw [this]
            have hk2 : k < x.data.length := by rw [hxo.len]; exact hlt
            simp [u8l, gb, List.getD, List.getElem?_eq_getElem hk2]
          have HE := hide (mixB_succ (old := old) (now := now) (n := n) (i := k) hx)
          have i1 := HIN.out k hlt
          clear hcs c0 c1 hxo hbx how hoz hx
          revert HE
          generalize mixB old now n ws k j = mb
          generalize gb x.data k = xb at e2
          generalize gb now k = nb at i1 n0 n1
          intro HE
          have HI1 := hide i1
          clear i1
          cases mb with
          | true =>
            clear e2
            go_wp2
            go_quiet (fail)
            go_wp2
            go_roundw
            case rel => exact ⟨j + 1, hjl, by go_num, by rw [HE.out]; rfl, (HZ.out.alloc _).drewN _⟩
            case measure => simp [intOf]; omega
          | false =>
            by_cases hs : x.sec = n
            · have hs2 : ((x.sec : Int) == (n : Int)) = true := by rw [hs]; simp
              have hs3 : (x.sec == n) = true := by rw [hs]; simp
              have i1 := HI1.out
              go_wp2
              go_quiet (fail)
              go_wp2
              go_roundw
              case rel => exact ⟨j + 1, hjl, by go_num, by rw [HE.out, hs3]; simp, (HZ.out.alloc _).drewN _⟩
              case measure => simp [intOf]; omega
            · have hs2 : ((x.sec : Int) == (n : Int)) = false := beq_eq_false_iff_ne.2 (by omega)
              have hs3 : (x.sec == n) = false := beq_eq_false_iff_ne.2 hs
              clear e2
              go_wp2
              go_quiet (fail)
              go_wp2
              go_roundw
              case rel => exact ⟨j + 1, hjl, by go_num, by rw [HE.out, hs3]; simp, (HZ.out.alloc _).drewN _⟩
              case measure => simp [intOf]; omega
        · obtain rfl : j = ws.length := by omega
          rw [HM.out k hlt]
          clear hoz hjl hj
          go_wp2
          go_roundw
          case rel => exact ⟨k + 1, by omega, by go_num, HW2.out.trans HZ.out⟩
          case measure => simp [intOf]; omega
    · obtain rfl : k = 512 := by omega
      rw [show ((512 : Nat) : Int) = 512 from rfl]
      go_wp2
      go_ret
      exact ⟨rfl, HW.out⟩
end Go.Proofs.Ytlbiigaefipneaa
