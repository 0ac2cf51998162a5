/-
  The cache of names (parapet/namec): Forget.
-/
import Derived.Test.YtjpojoflbjhjjaaNcLook
namespace Go.Proofs.Ytjpojoflbjhjjaa
open Go.ChangeShapes Go.WideShapes Go.ChangeAt Go.RowKit Go.Maps
set_option linter.unusedVariables false
set_option linter.unusedSimpArgs false
section
variable {w w' w1 : World} {c d mm : Nat} {room made : Int} {v : Value} {O : List NM} {M : List (NM × (Int × Int))} {S F FD T : List Nat} {s : RS} {k : NM} {f : Int × Int}
/-- The order's row is another one. -/
theorem IsCa.setO {v' : Value} {O' : List NM} (h : IsCa w c d mm room v O M made) (ho : Only v.ownBlock.toList w w1) (hr : NRw w1 v' O') (hn : ∀ q, v'.ownBlock = some q → v.ownBlock = some q ∨ w.heap.size ≤ q) : IsCa (w1.setCell ⟨c, 3, none⟩ v') c d mm room v' O' M made ∧ w1.cell? ⟨c, 3, none⟩ = some v ∧ w1.frozen? ⟨c, 3, none⟩ = false := by
  have hm : ∀ (q : Nat), (∀ j, v.ownBlock = some j → j ≠ q) → q ∉ v.ownBlock.toList := fun q h hm => by
    cases e : v.ownBlock with
    | none => rw [e] at hm; simp at hm
    | some j => rw [e] at hm; simp at hm; exact h j e hm.symm
  obtain ⟨D, d1, d2⟩ := h.own
  have hb1 := h.blk.only ho (hm c h.vc)
  have ho6 : Only [c] w1 (w1.setCell ⟨c, 3, none⟩ v') := (Only.refl [c] w1).setCell (p := ⟨c, 3, none⟩) _ (by simp)
  have hlt := h.lt
  refine ⟨⟨hb1.set_ 3 v', hr.only ho6 (fun q hq hmm => ?_), D, ownsMap_only (ownsMap_only d1 ho (hm mm h.vm)) ho6 (by simpa using h.mc), d2⟩, hb1.cell 3, hb1.frozen 3⟩
  simp at hmm
  subst hmm
  rcases hn q hq with e | e
  · exact h.vc q e rfl
  · omega
/-- What a call of the cache left: the cache's own blocks, the domain's. -/
def DidCa (w w' : World) (c d : Nat) (room : Int) (mm : Nat) (v : Value) (FD : List Nat) (O : List NM) (M : List (NM × (Int × Int))) (made : Int) (s : RS) : Prop :=
  ∃ v' FD', IsCa w' c d mm room v' O M made ∧ Rc w' d s FD' ∧ Only (c :: mm :: (v.ownBlock.toList ++ FD)) w w' ∧ (∀ q, v'.ownBlock = some q → v.ownBlock = some q ∨ w.heap.size ≤ q) ∧ (∀ q ∈ FD', q ∈ FD ∨ w.heap.size ≤ q) ∧ (c ∉ FD' ∧ mm ∉ FD' ∧ ∀ q, v'.ownBlock = some q → q ∉ FD')
set_option maxRecDepth 100000 in
set_option maxHeartbeats 1000000 in
theorem ncForget_no (h : IsCa w c d mm room v O M made) (hk : k.wf) (hn : k ∉ M.map (·.1)) : Calls Try.prog 16 #[.pointer (some ⟨c, 0, none⟩), kV k] w fun e w' => e = .returned (.bool false) ∧ Only [] w w' := by
  have HC := hide (fun W (ho : Only [] w W) => ncclosed_is (h.quiet ho))
  obtain ⟨D, d1, d2⟩ := h.own
  have HLK := hide (fun (W : World) (ho : Only [] w W) => (show (Instr.lookup 68 (.map (some mm)) (.agg #[.int .i64 k.dir, .string k.name]) true).run Try.prog W = .ok (.tuple #[.agg #[.int .i64 0, .int .i64 0], .bool false]) W from lookN_no d2 (ownsMap_only d1 ho (by simp)) hk hn true))
  have H2 := hide (fun (W : World) (ho : Only [] w W) => (h.quiet ho).c2)
  have hoa : Only [] w (w.alloc (.cells #[.int .i64 k.dir, .string k.name] 42)) := (Only.refl _ _).alloc _
  have HBX := hide (Blk.new w 42 #[.int .i64 k.dir, .string k.name])
  have HOA := hide hoa
  clear h d1 d2 hk hn hoa
  unfold kV
  go_enter Try.func16, Try.ntmps16
  go_wp2_with (go_at_call 33; refine (HC.out _ HOA.out).mono ?_; rintro e w' ⟨rfl, rfl⟩)
  generalize w.alloc (.cells #[.int .i64 k.dir, .string k.name] 42) = W1 at *
  generalize hq : w.heap.size = q at *
  have HQ := hide hq
  clear hq
  have l1 := HLK.out W1 HOA.out
  have l2 := fun o => HLK.out (W1.alloc o) (HOA.out.alloc o)
  have l3 := HLK.out W1.drew HOA.out.drew
  have l4 := fun o => HLK.out (W1.alloc o).drew (HOA.out.alloc o).drew
  have c2 := H2.out W1 HOA.out
  have c2' := fun o => H2.out (W1.alloc o) (HOA.out.alloc o)
  have b0 := (HBX.out.cell 0).trans (b := some (Value.int .i64 k.dir)) rfl
  have b1 := (HBX.out.cell 1).trans (b := some (Value.string k.name)) rfl
  have b0' := fun o => ((HBX.out.alloc o).cell 0).trans (b := some (Value.int .i64 k.dir)) rfl
  have b1' := fun o => ((HBX.out.alloc o).cell 1).trans (b := some (Value.string k.name)) rfl
  go_region
  have HO2 := hide ((HOA.out.alloc (.cells #[.int .i64 0, .int .i64 0] 72)).drew)
  clear l1 l2 l3 l4 c2 c2' b0 b1 b0' b1'
  go_wp2
  go_ret
  exact ⟨rfl, HO2.out⟩
set_option maxRecDepth 100000 in
set_option maxHeartbeats 1500000 in
theorem ncForget_yes (h : IsCa w c d mm room v O M made) (hr : Rc w d s FD) (hx : c ∉ FD ∧ mm ∉ FD ∧ ∀ q, v.ownBlock = some q → q ∉ FD) (hf : O.length ≤ 4096) (i : Nat) (hi : O[i]? = some k) (hm : ∀ j, j < i → O[j]? ≠ some k) (hp : (k, f) ∈ M) (hid : iW f.2) (hn : f.2 ∉ s.L.map (·.1)) (hl : s.L.length + 1 < 3900000000000) :
    Calls Try.prog 16 #[.pointer (some ⟨c, 0, none⟩), kV k] w fun e w' => e = .returned (.bool true) ∧ DidCa w w' c d room mm v FD (O.eraseIdx i) (outV M k) made { s with L := s.L ++ [(f.2, s.ep)] } := by
  have HC := hide (fun W (ho : Only [] w W) => ncclosed_is (h.quiet ho))
  obtain ⟨D, d1, d2⟩ := h.own
  have HLK := hide (fun (W : World) (ho : Only [] w W) => (show (Instr.lookup 68 (.map (some mm)) (.agg #[.int .i64 k.dir, .string k.name]) true).run Try.prog W = .ok (.tuple #[.agg #[.int .i64 f.1, .int .i64 f.2], .bool true]) W from lookN d2 (ownsMap_only d1 ho (by simp)) hp true))
  have H2 := hide (fun (W : World) (ho : Only [] w W) => (h.quiet ho).c2)
  have hil := (List.getElem?_eq_some_iff.1 hi).1
  obtain ⟨A, cap, rfl, hA⟩ := h.row.form
  have H3 := hide (fun (W : World) (ho : Only [] w W) => (h.quiet ho).c3)
  have HIX := hide (fun (W : World) (ho : Only [] w W) => idxN_is (h.quiet ho).row hf i hi hm)
  have HDL := hide (fun (W : World) (ho : Only [] w W) => (deleteN_is (h.quiet ho).row hf i hil).mono (R' := fun e w' => ∃ A' c', e = .returned (.slice A' (O.eraseIdx i).length c') ∧ w'.cell? ⟨c, 3, none⟩ = some (.slice A O.length cap) ∧ w'.frozen? ⟨c, 3, none⟩ = false ∧ IsCa (w'.setCell ⟨c, 3, none⟩ (.slice A' (O.eraseIdx i).length c')) c d mm room (.slice A' (O.eraseIdx i).length c') (O.eraseIdx i) M made ∧ Only (c :: (Value.slice A O.length cap).ownBlock.toList) W (w'.setCell ⟨c, 3, none⟩ (.slice A' (O.eraseIdx i).length c')) ∧ (Value.slice A' (O.eraseIdx i).length c').ownBlock = (Value.slice A O.length cap).ownBlock) (fun e w' ⟨v', q1, q2, q3, q4⟩ => by
    obtain ⟨A', c', rfl, -⟩ := q2.form
    obtain ⟨r1, r2, r3⟩ := (h.quiet ho).setO q4 q2 (fun q hq => .inl (by rw [← q3]; exact hq))
    exact ⟨A', c', q1, r2, r3, r1, (q4.mono (fun q _ hq => List.mem_cons_of_mem _ hq)).setCell (p := ⟨c, 3, none⟩) _ (fun _ => by simp), q3⟩))
  have hoa : Only [] w (w.alloc (.cells #[.int .i64 k.dir, .string k.name] 42)) := (Only.refl _ _).alloc _
  have HBX := hide (Blk.new w 42 #[.int .i64 k.dir, .string k.name])
  have HOA := hide hoa
  have hcl := h.lt
  have HV := hide (And.intro h.vc (And.intro h.vm h.mc))
  have HCL := hide hcl
  have HX := hide hx
  have HR := hide hr
  have hiI : (i : Int) < 4096 := by omega
  have HLG := hide (fun (W : World) v' O' (hI : IsCa W c d mm room v' O' M made) (hR : Rc W d s FD) (hx' : c ∉ FD ∧ mm ∉ FD ∧ ∀ q, v'.ownBlock = some q → q ∉ FD) => ncletGo_is hI hR hx' hp hid hn hl)
  clear h hr hx d1 d2 hp hid hn hm hi hA hcl hoa
  unfold kV at HIX HLG ⊢
  go_enter Try.func16, Try.ntmps16
  go_wp2_with (go_at_call 33; refine (HC.out _ HOA.out).mono ?_; rintro e w' ⟨rfl, rfl⟩)
  generalize w.alloc (.cells #[.int .i64 k.dir, .string k.name] 42) = W1 at *
  generalize hq : w.heap.size = q at *
  have HQ := hide hq
  clear hq
  have l1 := HLK.out W1 HOA.out
  have l2 := fun o => HLK.out (W1.alloc o) (HOA.out.alloc o)
  have l3 := HLK.out W1.drew HOA.out.drew
  have l4 := fun o => HLK.out (W1.alloc o).drew (HOA.out.alloc o).drew
  have c2 := H2.out W1 HOA.out
  have c2' := fun o => H2.out (W1.alloc o) (HOA.out.alloc o)
  have b0 := (HBX.out.cell 0).trans (b := some (Value.int .i64 k.dir)) rfl
  have b1 := (HBX.out.cell 1).trans (b := some (Value.string k.name)) rfl
  have b0' := fun o => ((HBX.out.alloc o).cell 0).trans (b := some (Value.int .i64 k.dir)) rfl
  have b1' := fun o => ((HBX.out.alloc o).cell 1).trans (b := some (Value.string k.name)) rfl
  go_region
  have HO2 := hide ((HOA.out.alloc (.cells #[.int .i64 f.1, .int .i64 f.2] 72)).drew)
  have HBX2 := hide ((HBX.out.alloc (.cells #[.int .i64 f.1, .int .i64 f.2] 72)).drew)
  generalize (W1.alloc (.cells #[.int .i64 f.1, .int .i64 f.2] 72)).drew = W2 at *
  clear l1 l2 l3 l4 c2 c2' b0 b1 b0' b1'
  go_wp2_with fail
  have c3 := H3.out W2 HO2.out
  have b0 := (HBX2.out.cell 0).trans (b := some (Value.int .i64 k.dir)) rfl
  have b1 := (HBX2.out.cell 1).trans (b := some (Value.string k.name)) rfl
  have hcc := And.intro c3 (And.intro b0 b1)
  clear c3 b0 b1
  go_region_held3 (fun w' => w'.cell? ⟨c, 3, none⟩ = some (.slice A O.length cap) ∧ w'.cell? ⟨q, 0, none⟩ = some (.int .i64 k.dir) ∧ w'.cell? ⟨q, 1, none⟩ = some (.string k.name)) (first | assumption | go_keep) (
    (go_at_call 37; refine (HIX.out _ (Only.trans HO2.out (by repeat (first | exact Only.refl _ _ | apply Only.drew | apply Only.drewN)))).mono ?_; rintro e w3 ⟨rfl, ho3⟩; have k3 : Only [] W2 w3 := Only.trans (by repeat (first | exact Only.refl _ _ | apply Only.drew | apply Only.drewN)) ho3; have hcc3 := And.intro (H3.out w3 (HO2.out.trans k3)) (And.intro (((HBX2.out.only k3 (by simp)).cell 0).trans (b := some (Value.int .i64 k.dir)) rfl) (((HBX2.out.only k3 (by simp)).cell 1).trans (b := some (Value.string k.name)) rfl)); have HK3 := hide k3; clear ho3 k3))
  have HQN := hide (show q ∉ c :: (Value.slice A O.length cap).ownBlock.toList from fun hm => by
    have h1 := HCL.out
    rcases List.mem_cons.1 hm with e | e
    · omega
    · cases e' : (Value.slice A O.length cap).ownBlock with
      | none => rw [e'] at e; simp at e
      | some j => rw [e'] at e; simp at e; have := h1.2.2 j e'; omega)
  have HO3 := hide (HO2.out.trans HK3.out)
  have HBX3 := hide (HBX2.out.only HK3.out (by simp))
  have hw1 : IntKind.i64.wrap ((i : Int) + 1) = (i : Int) + 1 := by rw [IntKind.wrap_i64]; omega
  obtain ⟨c3, b0, b1⟩ := hcc3
  clear hcc
  go_wp2_with (go_at_call 38; refine (HDL.out _ HO3.out).mono ?_; rintro e w4 ⟨A', c', rfl, g3, gf, hI4, ho4, hv4⟩; have HI4 := hide hI4; have HO4 := hide ho4; have HV4 := hide hv4; have b0 := ((HBX3.out.only ho4 HQN.out).cell 0).trans (b := some (Value.int .i64 k.dir)) rfl; have b1 := ((HBX3.out.only ho4 HQN.out).cell 1).trans (b := some (Value.string k.name)) rfl; clear hI4 ho4 hv4)
  have hvF : ∀ q, (Value.slice A' (O.eraseIdx i).length c').ownBlock = some q → q ∉ FD := fun q hq => HX.out.2.2 q (by rw [← HV4.out]; exact hq)
  have hno : ∀ q ∈ FD, q ∉ c :: (Value.slice A O.length cap).ownBlock.toList := fun q hq hm => by
    rcases List.mem_cons.1 hm with e | e
    · subst e; exact HX.out.1 hq
    · cases e' : (Value.slice A O.length cap).ownBlock with
      | none => rw [e'] at e; simp at e
      | some j => rw [e'] at e; simp at e; subst e; exact HX.out.2.2 _ e' hq
  have hR5 := (HR.out.quiet HO3.out).only HO4.out hno
  refine (HLG.out _ _ _ HI4.out hR5 ⟨HX.out.1, HX.out.2.1, hvF⟩).mono ?_
  rintro e w6 ⟨rfl, hI6, ho6, FD6, hf6, hr6⟩
  have HI6 := hide hI6
  have HO6 := hide ho6
  have HF6 := hide hf6
  have HR6 := hide hr6
  clear hI6 ho6 hf6 hr6 hR5 c3 b0 b1 g3 gf
  go_wp2
  go_ret
  have hsz : w.heap.size ≤ (w4.setCell ⟨c, 3, none⟩ (.slice A' (O.eraseIdx i).length c')).heap.size := Nat.le_trans HO3.out.size HO4.out.size
  have hlt := HCL.out
  have hqq := HQ.out
  have hF6 : ∀ q ∈ FD6, q ∈ FD ∨ w.heap.size ≤ q := fun q hq => (HF6.out q hq).imp_right (fun e => Nat.le_trans hsz e)
  refine ⟨rfl, _, FD6, HI6.out, HR6.out, ((HO3.out.mono (by simp)).trans (HO4.out.mono (fun q _ hq => ?_))).trans' HO6.out (fun q _ hq => ?_), fun q hq => .inl (by rw [← HV4.out]; exact hq), hF6, fun hm => ?_, fun hm => ?_, fun q hq hm => ?_⟩
  · rcases List.mem_cons.1 hq with e | e
    · simp [e]
    · simp; exact .inr (.inr (.inl (by simpa using e)))
  · rcases List.mem_cons.1 hq with e | e
    · simp [e]
    · simp; exact .inr (.inr (.inr e))
  · rcases hF6 c hm with e | e
    · exact HX.out.1 e
    · omega
  · rcases hF6 mm hm with e | e
    · exact HX.out.2.1 e
    · omega
  · rcases hF6 q hm with e | e
    · exact hvF q hq e
    · have := hlt.2.2 q (by rw [← HV4.out]; exact hq)
      omega
end
end Go.Proofs.Ytjpojoflbjhjjaa
