/-
  The cache of names (parapet/namec): the struct; closed, letGo.
-/
import Derived.Test.YtjpojoflbjhjjaaNcRcu
import Derived.Test.YtjpojoflbjhjjaaNmKey
import Derived.Test.YtjpojoflbjhjjaaNmApp
import Derived.StillTailTactics
namespace Go.Proofs.Ytjpojoflbjhjjaa
open Go.ChangeShapes Go.WideShapes Go.ChangeAt Go.RowKit Go.Maps
set_option linter.unusedVariables false
set_option linter.unusedSimpArgs false
/-- The cache: its names in order, what is kept under each. -/
structure IsCa (w : World) (c d mm : Nat) (room : Int) (v : Value) (O : List NM) (M : List (NM × (Int × Int))) (made : Int) : Prop where
  blk : Blk w c 70 #[.pointer (some ⟨d, 0, none⟩), .int .i64 room, .map (some mm), v, .int .i64 made]
  row : NRw w v O
  own : ∃ D, w.ownsMap Try.prog 42 elemF mm M.length D ∧ MHolds encN D M
section
variable {w w' w1 : World} {c d mm : Nat} {room made : Int} {v : Value} {O : List NM} {M : List (NM × (Int × Int))} {S F FD T : List Nat} {s : RS} {k : NM} {f : Int × Int}
theorem IsCa.c0 (h : IsCa w c d mm room v O M made) : w.cell? ⟨c, 0, none⟩ = some (.pointer (some ⟨d, 0, none⟩)) := h.blk.cell 0
theorem IsCa.c1 (h : IsCa w c d mm room v O M made) : w.cell? ⟨c, 1, none⟩ = some (.int .i64 room) := h.blk.cell 1
theorem IsCa.c2 (h : IsCa w c d mm room v O M made) : w.cell? ⟨c, 2, none⟩ = some (.map (some mm)) := h.blk.cell 2
theorem IsCa.c3 (h : IsCa w c d mm room v O M made) : w.cell? ⟨c, 3, none⟩ = some v := h.blk.cell 3
theorem IsCa.c4 (h : IsCa w c d mm room v O M made) : w.cell? ⟨c, 4, none⟩ = some (.int .i64 made) := h.blk.cell 4
theorem IsCa.fr (h : IsCa w c d mm room v O M made) (o : Nat) : w.frozen? ⟨c, o, none⟩ = false := h.blk.frozen o
theorem IsCa.mc (h : IsCa w c d mm room v O M made) : mm ≠ c := by
  obtain ⟨D, d1, d2⟩ := h.own
  exact ownsMap_ne d1 h.blk
theorem IsCa.vc (h : IsCa w c d mm room v O M made) : ∀ q, v.ownBlock = some q → q ≠ c := h.row.apart h.blk (by decide)
theorem IsCa.vm (h : IsCa w c d mm room v O M made) : ∀ q, v.ownBlock = some q → q ≠ mm := fun q hq e => by
  subst e
  obtain ⟨D, d1, d2⟩ := h.own
  rcases h.row.2 with ⟨e, _⟩ | ⟨b, cap, cur, e, _, hg, _⟩
  · rw [e] at hq; simp [Value.ownBlock] at hq
  · rw [e] at hq
    simp only [Value.ownBlock, Option.some.injEq] at hq
    subst hq
    exact ownsMap_ne d1 hg rfl
theorem IsCa.only (h : IsCa w c d mm room v O M made) (ho : Only S w w') (h1 : c ∉ S) (h2 : mm ∉ S) (h3 : ∀ q, v.ownBlock = some q → q ∉ S) : IsCa w' c d mm room v O M made := by
  obtain ⟨D, d1, d2⟩ := h.own
  exact ⟨h.blk.only ho h1, h.row.only ho h3, D, ownsMap_only d1 ho h2, d2⟩
theorem IsCa.quiet (h : IsCa w c d mm room v O M made) (ho : Only [] w w') : IsCa w' c d mm room v O M made := h.only ho (by simp) (by simp) (by simp)
theorem IsCa.lt (h : IsCa w c d mm room v O M made) : c < w.heap.size ∧ mm < w.heap.size ∧ ∀ q, v.ownBlock = some q → q < w.heap.size := by
  obtain ⟨D, d1, d2⟩ := h.own
  exact ⟨h.blk.lt, ownsMap_lt d1, fun q hq => (h.row.at_ hq).1⟩
theorem ncclosed_is (h : IsCa w c d mm room v O M made) : Calls Try.prog 33 #[.pointer (some ⟨c, 0, none⟩)] w fun e w' => e = .returned (.bool false) ∧ w = w' := by
  have c0 := h.c0
  clear h
  go_enter Try.func33, Try.ntmps33
  go_wp2
  go_ret
  exact ⟨rfl, rfl⟩
theorem field19 (a b : Int) (W : World) : (Instr.field 72 (.agg #[.int .i64 a, .int .i64 b]) 1).run Try.prog W = .ok (.int .i64 b) W := by kernel_rfl
theorem iW_of {x : Int} (h0 : -9223372036854775808 ≤ x) (h1 : x ≤ 9223372036854775807) : iW x := by
  have e1 : IntKind.i64.min = -9223372036854775808 := by decide
  have e2 : IntKind.i64.max = 9223372036854775807 := by decide
  simp only [iW, Lit.wf, e1, e2, Bool.and_eq_true, decide_eq_true_eq]
  omega
set_option maxRecDepth 100000 in
set_option maxHeartbeats 1000000 in
/-- One name is let go. -/
theorem ncletGo_is (h : IsCa w c d mm room v O M made) (hr : Rc w d s FD) (hx : c ∉ FD ∧ mm ∉ FD ∧ ∀ q, v.ownBlock = some q → q ∉ FD) (hp : (k, f) ∈ M) (hid : iW f.2) (hn : f.2 ∉ s.L.map (·.1)) (hl : s.L.length + 1 < 3900000000000) :
    Calls Try.prog 39 #[.pointer (some ⟨c, 0, none⟩), kV k] w fun e w' => e = .returned (.tuple #[]) ∧ IsCa w' c d mm room v O (outV M k) made ∧ Only (mm :: FD) w w' ∧ ∃ FD', (∀ q ∈ FD', q ∈ FD ∨ w.heap.size ≤ q) ∧ Rc w' d { s with L := s.L ++ [(f.2, s.ep)] } FD' := by
  obtain ⟨D, d1, d2⟩ := h.own
  have HLK := hide (fun (W : World) (ho : Only FD w W) => lookN d2 (ownsMap_only d1 ho hx.2.1) hp false)
  have hcl := h.blk.lt
  have HC := hide (fun (W : World) (ho : Only FD w W) (hb : Blk W w.heap.size 42 #[.int .i64 k.dir, .string k.name]) => (show W.cell? ⟨c, 0, none⟩ = some (.pointer (some ⟨d, 0, none⟩)) ∧ W.cell? ⟨c, 2, none⟩ = some (.map (some mm)) ∧ W.cell? ⟨w.heap.size, 0, none⟩ = some (.int .i64 k.dir) ∧ W.cell? ⟨w.heap.size, 1, none⟩ = some (.string k.name) from
    ⟨(ho.cell hcl hx.1).trans h.c0, (ho.cell hcl hx.1).trans h.c2, (hb.cell 0).trans rfl, (hb.cell 1).trans rfl⟩))
  have HB := hide (fun (W : World) (ho : Only [] w W) (hb : Blk W w.heap.size 42 #[.int .i64 k.dir, .string k.name]) => (rDefer_new (hr.quiet ho) f.2 hid hn hl).mono (R' := fun e w' => e = .returned (.int .i64 0) ∧ Blk w' w.heap.size 42 #[.int .i64 k.dir, .string k.name] ∧ Only FD w w' ∧ ∃ FD', (∀ q ∈ FD', q ∈ FD ∨ w.heap.size < q) ∧ Rc w' d { s with L := s.L ++ [(f.2, s.ep)] } FD') (fun e w' ⟨q1, FD', t, r⟩ => ⟨q1, hb.only t.1 (fun hm => Nat.lt_irrefl _ (hr.lt _ hm)), (ho.mono (by simp)).trans t.1, FD', fun q hq => (t.2 q hq).imp_right (fun e => by have := hb.lt; omega), r⟩))
  have HS := hide (fun (W : World) (ho : Only FD w W) (hb : Blk W w.heap.size 42 #[.int .i64 k.dir, .string k.name]) => (show (Instr.lookup 68 (.map (some mm)) (.agg #[.int .i64 k.dir, .string k.name]) false).run Try.prog W = .ok (.agg #[.int .i64 f.1, .int .i64 f.2]) W ∧ W.cell? ⟨c, 0, none⟩ = some (.pointer (some ⟨d, 0, none⟩)) ∧ W.cell? ⟨c, 2, none⟩ = some (.map (some mm)) ∧ W.cell? ⟨w.heap.size, 0, none⟩ = some (.int .i64 k.dir) ∧ W.cell? ⟨w.heap.size, 1, none⟩ = some (.string k.name) from ⟨HLK.out W ho, HC.out W ho hb⟩))
  have HDR := hide (fun (W : World) (ho : Only FD w W) => dropN d2 (ownsMap_only d1 ho hx.2.1) hp 0)
  have hoa : Only [] w (w.alloc (.cells #[.int .i64 k.dir, .string k.name] 42)) := (Only.refl _ _).alloc _
  have HBX := hide (Blk.new w 42 #[.int .i64 k.dir, .string k.name])
  have HFD := hide hx
  have H := hide h
  have HR := hide hr
  have HD2 := hide (d2.del hp)
  have hcc := HS.out _ (hoa.mono (by simp)) HBX.out
  clear HLK HC
  clear h hr hx d1 d2 hid hn hp hcl
  have hfd := field19
  go_enter Try.func39, Try.ntmps39
  go_wp2_with fail
  generalize w.alloc (.cells #[.int .i64 k.dir, .string k.name] 42) = W1 at *
  generalize hq : w.heap.size = q at *
  have HQ := hide hq
  clear hq
  go_region_held3 (fun w' => (Instr.lookup 68 (.map (some mm)) (.agg #[.int .i64 k.dir, .string k.name]) false).run Try.prog w' = .ok (.agg #[.int .i64 f.1, .int .i64 f.2]) w' ∧ w'.cell? ⟨c, 0, none⟩ = some (.pointer (some ⟨d, 0, none⟩)) ∧ w'.cell? ⟨c, 2, none⟩ = some (.map (some mm)) ∧ w'.cell? ⟨q, 0, none⟩ = some (.int .i64 k.dir) ∧ w'.cell? ⟨q, 1, none⟩ = some (.string k.name)) (first | assumption | exact HS.out _ (Only.mono (Only.trans hoa (by repeat (first | exact Only.refl _ _ | apply Only.drew | apply Only.drewN))) (by simp)) (HBX.out.only (S := []) (by repeat (first | exact Only.refl _ _ | apply Only.drew | apply Only.drewN)) (by simp)) | exact HS.out _ (Only.trans HO3.out (Only.mono (S := []) (by repeat (first | exact Only.refl _ _ | apply Only.drew | apply Only.drewN)) (by simp))) (HB3.out.only (S := []) (by repeat (first | exact Only.refl _ _ | apply Only.drew | apply Only.drewN)) (by simp))) (
    (go_at_call 52; refine (HB.out _ (Only.trans hoa (by repeat (first | exact Only.refl _ _ | apply Only.drew | apply Only.drewN))) (HBX.out.only (S := []) (by repeat (first | exact Only.refl _ _ | apply Only.drew | apply Only.drewN)) (by simp))).mono ?_; rintro e w3 ⟨rfl, hb3, ho3, FD3, hf3, hr3⟩; have hcc3 := HS.out _ ho3 hb3; have HB3 := hide hb3; have HO3 := hide ho3; have HF3 := hide hf3; have HR3 := hide hr3; clear hb3 ho3 hf3 hr3))
  obtain ⟨-, d0, d2', d3, d4⟩ := hcc3
  obtain ⟨w4, hrun, hown, ho4⟩ := HDR.out w3.drew (HO3.out.trans ((Only.refl [] w3).drew.mono (by simp)))
  have HOWN := hide hown
  have HO4 := hide ho4
  unfold kV at hrun
  clear hown ho4 hcc HDR HB hfd
  go_wp2
  go_region
  go_wp2
  have hI := H.out
  have hx := HFD.out
  have h4 : Only (mm :: FD) w w4 := (HO3.out.mono (fun q _ hq => by simp [hq])).trans (((Only.refl [] w3).drew.mono (by simp)).trans (HO4.out.mono (fun q _ hq => by simp at hq; simp [hq])))
  have hmm3 : Only [mm] w3 w4 := ((Only.refl [] w3).drew.mono (by simp)).trans HO4.out
  have hcm := hI.mc
  have hR3lt := HR3.out.lt
  have hmF3 : mm ∉ FD3 := fun hm => by
    rcases HF3.out mm hm with e | e
    · exact hx.2.1 e
    · have := hI.lt.2.1; have := HQ.out; omega
  go_end0
  refine ⟨rfl, ⟨hI.blk.only h4 (by simp; exact ⟨fun e => hcm e.symm, hx.1⟩), hI.row.only h4 (fun q hq hm => ?_), _, HOWN.out, HD2.out⟩, h4, FD3, fun q hq => (HF3.out q hq).imp_right (fun e => by have := HQ.out; omega), HR3.out.only hmm3 (fun q hq hm => by simp at hm; subst hm; exact hmF3 hq)⟩
  rcases List.mem_cons.1 hm with e | e
  · exact hI.vm q hq e
  · exact hx.2.2 q hq e
end
end Go.Proofs.Ytjpojoflbjhjjaa
