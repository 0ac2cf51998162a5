/-
  The cache of names (parapet/namec): ForgetDir.
-/
import Derived.Test.YtjpojoflbjhjjaaNcForgD
import Derived.Test.YtjpojoflbjhjjaaNcDelF2
namespace Go.Proofs.Ytjpojoflbjhjjaa
open Go.ChangeShapes Go.WideShapes Go.ChangeAt Go.RowKit Go.Maps
set_option linter.unusedVariables false
set_option linter.unusedSimpArgs false
section
variable {w w' : World} {c d mm q : Nat} {v : Value} {FD G : List Nat} {p : CS} {dir : Int}
/-- In the midst of ForgetDir: the first i names were looked at. -/
def FdAt (w : World) (c d mm q : Nat) (v : Value) (FD : List Nat) (p : CS) (dir : Int) (i : Nat) (wr : World) : Prop :=
  ∃ FD', IsCa wr c d mm p.room v (p.L.map KE.key) ((p.upto dir i).L.map KE.ent) p.made ∧ Rc wr d (p.upto dir i).s FD' ∧ (∀ x ∈ FD', x ∈ FD ∨ w.heap.size < x) ∧ Only (mm :: FD) w wr ∧ Blk wr q 3 #[.int .i64 dir]
theorem FdAt.step {i : Nat} {e : KE} {wr : World} (hfl : ∀ x ∈ FD, x < w.heap.size) (hmm : mm < w.heap.size) (hcl : c < w.heap.size) (hvl : ∀ x, v.ownBlock = some x → x < w.heap.size) (hx : c ∉ FD ∧ mm ∉ FD ∧ ∀ x, v.ownBlock = some x → x ∉ FD) (hqe : q = w.heap.size) (hp : OkC p) (h : FdAt w c d mm q v FD p dir i wr) (hi : p.L[i]? = some e) (hd : (e.key.dir == dir) = true) (W : World) (hW : Only [] wr W) :
    Calls Try.prog 39 #[.pointer (some ⟨c, 0, none⟩), kV e.key] W fun r w' => r = .returned (.tuple #[]) ∧ FdAt w c d mm q v FD p dir (i + 1) w' := by
  obtain ⟨FD', h1, h2, h3, h4, h5⟩ := h
  have hil := (List.getElem?_eq_some_iff.1 hi).1
  have hu := hp.upto dir i (by omega)
  have hat := CS.upto_at (dir := dir) hi
  have hm := List.mem_of_getElem? hat
  have hids := hu.ids e hm
  have hmade : (p.upto dir i).made = p.made := rfl
  have htop := hu.top
  have hcnt := hu.cnt
  have hel := erase_len hat
  have hxx : c ∉ FD' ∧ mm ∉ FD' ∧ ∀ x, v.ownBlock = some x → x ∉ FD' := ⟨fun hm => by rcases h3 c hm with r | r; exact hx.1 r; omega, fun hm => by rcases h3 mm hm with r | r; exact hx.2.1 r; omega, fun x hx' hm => by rcases h3 x hm with r | r; exact hx.2.2 x hx' r; have := hvl x hx'; omega⟩
  have hlg := ncletGo_is (h1.quiet hW) (h2.quiet hW) hxx (k := e.key) (f := (e.inode, e.id)) (List.mem_map.2 ⟨e, hm, rfl⟩) (iW_of (by simp only; omega) (by simp only; omega)) (hu.apart e hm) (by omega)
  refine hlg.mono (fun r w' ⟨a1, a2, a3, FD'', a4, a5⟩ => ⟨a1, FD'', ?_, ?_, fun x hx2 => ?_, ?_, ?_⟩)
  · rw [nodup_erase hu.nd hat] at a2
    rw [CS.upto_yes hi hd, CS.drop_some hat]
    exact a2
  · rw [CS.upto_yes hi hd, CS.drop_some hat]
    exact a5
  · rcases a4 x hx2 with r | r
    · exact h3 x r
    · have := h4.size; have := hW.size; have := h5.lt; exact .inr (by omega)
  · refine (h4.trans (hW.mono (by simp))).trans' a3 (fun x hx2 hm2 => ?_)
    rcases List.mem_cons.1 hm2 with r | r
    · simp [r]
    · exact List.mem_cons_of_mem _ ((h3 x r).resolve_right (by omega))
  · refine (h5.only hW (by simp)).only a3 (fun hm2 => ?_)
    rcases List.mem_cons.1 hm2 with r | r
    · omega
    · rcases h3 q r with r | r
      · have := hfl q r; omega
      · omega
theorem FdAt.no {i : Nat} {e : KE} {wr w3 : World} (h : FdAt w c d mm q v FD p dir i wr) (hi : p.L[i]? = some e) (hd : (e.key.dir == dir) = false) (ho : Only [] wr w3) : FdAt w c d mm q v FD p dir (i + 1) w3 := by
  obtain ⟨FD', h1, h2, h3, h4, h5⟩ := h
  refine ⟨FD', ?_, ?_, h3, h4.trans (ho.mono (by simp)), h5.only ho (by simp)⟩
  · rw [CS.upto_no hi hd]; exact h1.quiet ho
  · rw [CS.upto_no hi hd]; exact h2.quiet ho
set_option maxRecDepth 100000 in
set_option maxHeartbeats 2500000 in
/-- All that is kept of a directory is let go. -/
theorem ca_forgetDir (h : Ca w c d p G) (dir : Int) : Calls Try.prog 18 #[.pointer (some ⟨c, 0, none⟩), .int .i64 dir] w fun e w' => e = .returned (.int .i64 ((p.L.length : Int) - (p.forgetDir dir).L.length)) ∧ DidC w w' c d (p.forgetDir dir) G := by
  obtain ⟨mm, v, FD, h1, h2, h3, h4, h5, h6⟩ := h
  obtain ⟨A, cap, rfl, hA⟩ := h1.row.form
  have HC := hide (fun W (ho : Only [] w W) => ncclosed_is (h1.quiet ho))
  have HO := hide ((Only.refl [] w).alloc (.cells #[.int .i64 dir] 3))
  have HBX := hide (Blk.new w 3 #[.int .i64 dir])
  have hlt := h1.lt
  have HSTEP := hide (fun (i : Nat) (e : KE) (wr : World) (q : Nat) (hqe : q = w.heap.size) (hf : FdAt w c d mm q (.slice A (p.L.map KE.key).length cap) FD p dir i wr) (hi : p.L[i]? = some e) (hd : (e.key.dir == dir) = true) => hf.step h2.lt hlt.2.1 hlt.1 hlt.2.2 h3 hqe h4 hi hd)
  have H1 := hide h1
  have H2 := hide h2
  have H4 := hide h4
  have HA := hide hA
  have hlen : (p.L.map KE.key).length = p.L.length := List.length_map _
  have hl4 : p.L.length ≤ 4096 := by have := h4.len; have := h4.r1; omega
  have HL := hide hlt
  clear hA
  go_enter Try.func18, Try.ntmps18
  go_upto_region 3 with (go_at_call 33; refine (HC.out _ HO.out).mono ?_; rintro e w' ⟨rfl, rfl⟩)
  have H0 := hide (show FdAt w c d mm w.heap.size (.slice A (p.L.map KE.key).length cap) FD p dir 0 (w.alloc (.cells #[.int .i64 dir] 3)) from ⟨FD, by rw [CS.upto_zero]; exact h1.quiet HO.out, by rw [CS.upto_zero]; exact h2.quiet HO.out, fun x hx => .inl hx, HO.out.mono (by simp), HBX.out⟩)
  have c3 := (h1.quiet HO.out).c3
  rw [hlen] at c3 H0 HSTEP
  clear h1 h2 hlt
  generalize w.alloc (.cells #[.int .i64 dir] 3) = W1 at *
  generalize hq : w.heap.size = q at *
  have HQ := hide hq
  clear hq
  go_wp2_with fail
  go_loopw [20] (fun iv wr => ∃ i : Nat, i ≤ p.L.length ∧ iv = .int .i64 i ∧ FdAt w c d mm q (.slice A p.L.length cap) FD p dir i wr) (fun iv _ => p.L.length - (intOf iv).toNat)
  case atStart => exact ⟨0, Nat.zero_le _, rfl, H0.out⟩
  case round =>
    obtain ⟨i, hi, rfl, hfd⟩ := hrel
    have HFD := hide hfd
    by_cases hlt : i < p.L.length
    · obtain ⟨e, he⟩ : ∃ e, p.L[i]? = some e := ⟨_, List.getElem?_eq_getElem hlt⟩
      have hltI : (i : Int) < p.L.length := by omega
      have hmx : (i : Int) + 1 ≤ 9223372036854775807 := by omega
      obtain ⟨b, rfl, -⟩ := HA.out (by rw [hlen]; omega)
      obtain ⟨FD', g1, g2, g3, g4, g5⟩ := hfd
      obtain ⟨e0, e1⟩ := g1.row.cell rfl rfl (i := i) (s := e.key) (by rw [List.getElem?_map, he]; rfl)
      have HB := hide (Blk.new wr 42 #[.int .i64 e.key.dir, .string e.key.name])
      have HOA := hide ((Only.refl [] wr).alloc (.cells #[.int .i64 e.key.dir, .string e.key.name] 42))
      have a0 := (HB.out.cell 0).trans (b := some (Value.int .i64 e.key.dir)) rfl
      have a1 := (HB.out.cell 1).trans (b := some (Value.string e.key.name)) rfl
      have q0 : (wr.alloc (.cells #[.int .i64 e.key.dir, .string e.key.name] 42)).cell? ⟨q, 0, none⟩ = some (.int .i64 dir) := (g5.only HOA.out (by simp)).cell 0
      have HE := hide he
      clear g1 g2 g3 g4 g5
      cases hd : (e.key.dir == dir)
      · go_wp2_with fail
        go_roundw
        case rel => exact ⟨i + 1, hlt, by go_num, HFD.out.no HE.out hd HOA.out⟩
        case measure => simp [intOf]; omega
      · have HLG := hide (HSTEP.out i e wr q rfl HFD.out he hd _ HOA.out)
        unfold kV at HLG
        clear he
        go_wp2_with (go_at_call 39; refine HLG.out.mono ?_; rintro r w3 ⟨rfl, hf3⟩; have HF3 := hide hf3; clear hf3)
        go_roundw
        case rel => exact ⟨i + 1, hlt, by go_num, HF3.out⟩
        case measure => simp [intOf]; omega
    · obtain rfl : i = p.L.length := by omega
      obtain ⟨FD', g1, g2, g3, g4, g5⟩ := hfd
      have hlt0 := HL.out
      have hqq := HQ.out
      have g1 : IsCa wr c d mm p.room (.slice A (p.L.map KE.key).length cap) (p.L.map KE.key) ((p.forgetDir dir).L.map KE.ent) p.made := by rw [hlen]; exact g1
      have hvq : ∀ x, (Value.slice A (p.L.map KE.key).length cap).ownBlock = some x → x ≠ q := fun x hx => by have := hlt0.2.2 x hx; have := HQ.out; omega
      have hkeys := CS.forgetDir_keys p dir
      have c3' : wr.cell? ⟨c, 3, none⟩ = some (.slice A p.L.length cap) := by rw [← hlen]; exact g1.c3
      have HDF := hide (fun (W : World) (hW : Only [] wr W) => (delFN_is (g1.quiet hW).row (by rw [hlen]; exact hl4) ((g5.only hW (by simp)).cell 0) hvq).mono (R' := fun e w' => ∃ A' c', e = .returned (.slice A' (p.forgetDir dir).L.length c') ∧ w'.cell? ⟨c, 3, none⟩ = some (.slice A p.L.length cap) ∧ w'.frozen? ⟨c, 3, none⟩ = false ∧ (w'.setCell ⟨c, 3, none⟩ (.slice A' (p.forgetDir dir).L.length c')).cell? ⟨c, 3, none⟩ = some (.slice A' (p.forgetDir dir).L.length c') ∧ DidC w (w'.setCell ⟨c, 3, none⟩ (.slice A' (p.forgetDir dir).L.length c')) c d (p.forgetDir dir) G) (fun e w' ⟨v', q1, q2, q3, q4⟩ => by
        rw [← hkeys] at q2
        obtain ⟨A', c', rfl, -⟩ := q2.form
        obtain ⟨j1, j2, j3⟩ := (g1.quiet hW).setO q4 q2 (fun x hx => .inl (q3 x hx))
        rw [List.length_map] at j1 q1
        have hown : ∀ x, x ∈ (Value.slice A (p.L.map KE.key).length cap).ownBlock.toList → (Value.slice A (p.L.map KE.key).length cap).ownBlock = some x := fun x hx => by simpa using hx
        have ho1 : Only (c :: (Value.slice A (p.L.map KE.key).length cap).ownBlock.toList) wr (w'.setCell ⟨c, 3, none⟩ (.slice A' (p.forgetDir dir).L.length c')) := ((hW.mono (by simp)).trans (q4.mono (fun x _ hx => List.mem_cons_of_mem _ hx))).setCell (p := ⟨c, 3, none⟩) _ (fun _ => by simp)
        have hno : ∀ x ∈ FD', x ∉ c :: (Value.slice A (p.L.map KE.key).length cap).ownBlock.toList := fun x hx hm => by
          rcases List.mem_cons.1 hm with r | r
          · subst r
            rcases g3 x hx with r | r
            · exact h3.1 r
            · have := hlt0.1; omega
          · have := hlt0.2.2 x (hown x r)
            rcases g3 x hx with r2 | r2
            · exact h3.2.2 x (hown x r) r2
            · omega
        have hG : ∀ x, (Value.slice A (p.L.map KE.key).length cap).ownBlock = some x → x ∈ G := fun x hx => h5 x (List.mem_cons_of_mem _ (List.mem_cons_of_mem _ (List.mem_append_left _ (by rw [hx]; simp))))
        have hFG : ∀ x ∈ FD, x ∈ G := fun x hx => h5 x (List.mem_cons_of_mem _ (List.mem_cons_of_mem _ (List.mem_append_right _ hx)))
        have hv' : ∀ x, (Value.slice A' (p.forgetDir dir).L.length c').ownBlock = some x → (Value.slice A (p.L.map KE.key).length cap).ownBlock = some x := fun x hx => q3 x (by rw [List.length_map]; exact hx)
        refine ⟨A', c', q1, by rw [← hlen]; exact j2, j3, j1.c3, c :: mm :: ((Value.slice A' (p.forgetDir dir).L.length c').ownBlock.toList ++ FD'), ⟨(g4.mono (fun x _ hx => ?_)).trans (ho1.mono (fun x _ hx => ?_)), fun x hx => ?_⟩, mm, _, FD', j1, g2.only ho1 hno, ⟨fun hm => hno c hm (by simp), fun hm => ?_, fun x hx hm => hno x hm (List.mem_cons_of_mem _ (by rw [hv' x hx]; simp))⟩, H4.out.upto dir _ (Nat.le_refl _), fun x hx => hx, fun x hx => ?_⟩
        · rcases List.mem_cons.1 hx with r | r
          · subst r; exact h5 _ (by simp)
          · exact hFG x r
        · rcases List.mem_cons.1 hx with r | r
          · subst r; exact h5 _ (by simp)
          · exact hG x (hown x r)
        · rcases List.mem_cons.1 hx with r | r
          · subst r; exact .inl (h5 _ (by simp))
          rcases List.mem_cons.1 r with r | r
          · subst r; exact .inl (h5 _ (by simp))
          rcases List.mem_append.1 r with r | r
          · exact .inl (hG x (hv' x (by simpa using r)))
          · exact (g3 x r).imp (hFG x) (fun t => Nat.le_of_lt t)
        · rcases g3 mm hm with r | r
          · exact h3.2.1 r
          · have := hlt0.2.1; omega
        · have hl := j1.lt
          rcases List.mem_cons.1 hx with r | r
          · subst r; exact hl.1
          rcases List.mem_cons.1 r with r | r
          · subst r; exact hl.2.1
          rcases List.mem_append.1 r with r | r
          · exact hl.2.2 x (by simpa using r)
          · exact Nat.lt_of_lt_of_le (g2.lt x r) ho1.size))
      rw [hlen] at HDF
      have hle : ((p.forgetDir dir).L.length : Int) ≤ p.L.length := by
        have := congrArg List.length hkeys
        rw [List.length_map] at this
        have h7 := List.length_filter_le (fun t : NM => !(t.dir == dir)) (p.L.map KE.key)
        omega
      have hwr : IntKind.i64.wrap ((p.L.length : Int) - (p.forgetDir dir).L.length) = (p.L.length : Int) - (p.forgetDir dir).L.length := by rw [IntKind.wrap_i64]; omega
      clear g1 g2 g3 g4 g5 hlt0 hvq hkeys h5 h3 hqq H0 HSTEP HFD
      generalize hP : p.forgetDir dir = P at *
      have HPP := hide hP
      clear hP
      go_wp2_with (go_at_call 40; refine (HDF.out _ (by repeat (first | exact Only.refl _ _ | apply Only.drew | apply Only.drewN))).mono ?_; rintro e w4 ⟨A', c', rfl, k1, k2, k3, k4⟩; have HK4 := hide k4; clear k4)
      go_ret
      obtain rfl := HPP.out
      exact ⟨rfl, HK4.out⟩
end
end Go.Proofs.Ytjpojoflbjhjjaa
