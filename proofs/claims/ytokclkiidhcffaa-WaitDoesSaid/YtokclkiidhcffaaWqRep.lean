/-
  Sleepers (parapet/waitq): repeats; Clone of any slice of channels.
-/
import Derived.Test.YtokclkiidhcffaaWqSame
namespace Go.Proofs.Ytokclkiidhcffaa
open Go.ChangeShapes Go.WideShapes Go.ChangeAt Go.RowKit Go.Maps
set_option linter.unusedVariables false

set_option maxHeartbeats 2000000 in
set_option maxRecDepth 100000 in
theorem repeats_is {w : World} {v : Value} {l : List CH} (h : ChansAt w v l) (hcap : ∀ A n c, v = .slice A n c → n ≤ c) (hf : l.length ≤ 1000) : Calls Try.prog 32 #[v] w fun e w' => e = .returned (.bool (!decide l.Nodup)) ∧ Only [] w w' := by
  obtain ⟨A, cap, rfl, hA⟩ := h.parts
  have hcl := hcap _ _ _ rfl
  have hclI : (l.length : Int) ≤ cap := by omega
  have HA := hide hA
  have HL := hide hf
  have HC := hide (fun (W : World) (hw : Only [] w W) (b o : Nat) (hb : A = some ⟨b, o, none⟩) (i : Nat) (s : CH) (hs : l[i]? = some s) => (hb ▸ h.quiet hw : ChansAt W (.slice (some ⟨b, o, none⟩) l.length cap) l).cells hs)
  have HI := hide (fun (W : World) (hw : Only [] w W) (i : Nat) (hi : i ≤ l.length) (c : CH) => (containsC_is ((h.quiet hw).pre i hi) (by rw [List.length_take]; omega) c).mono (R' := fun e w' => e = .returned (.bool (decide (c ∈ l.take i))) ∧ Only [] w w') (fun e w' ⟨h1, h2⟩ => ⟨h1, hw.trans h2⟩))
  clear h hA hf hcap
  go_enter Try.func32, Try.ntmps32
  go_wp2
  go_loopw [7] (fun iv wr => ∃ i : Nat, i ≤ l.length ∧ iv = .int .i64 i ∧ (l.take i).Nodup ∧ Only [] w wr) (fun iv _ => l.length - (intOf iv).toNat)
  case atStart => exact ⟨0, Nat.zero_le _, rfl, by simp, Only.refl _ _⟩
  case round =>
    obtain ⟨i, hi, rfl, hn, hw⟩ := hrel
    have HW := hide hw
    by_cases hlt : i < l.length
    · have hltI : (i : Int) < l.length := by omega
      have hci : (i : Int) ≤ cap := by omega
      obtain ⟨b, o, rfl⟩ := HA.out (by omega)
      obtain ⟨c0, c1, c2⟩ := HC.out wr hw b o rfl i l[i] (by simp [hlt])
      have HN := hide hn
      have HS := hide (show l = l.take i ++ l[i] :: l.drop (i + 1) by rw [List.getElem_cons_drop, List.take_append_drop])
      have HTK := hide (show l.take (i + 1) = l.take i ++ [l[i]] by rw [List.take_add_one]; simp [hlt])
      generalize l[i] = x at *
      have HI2 := hide (fun (W : World) (hW : Only [] (wr.alloc (.cells (cC x) 32)) W) => HI.out W ((HW.out.alloc (.cells (cC x) 32)).trans hW) i hi x)
      have k0 : (wr.alloc (.cells (cC x) 32)).cell? ⟨wr.heap.size, 0, none⟩ = some (.int .i64 x.kind) := (Blk.new wr 32 (cC x)).cell 0
      have k1 : (wr.alloc (.cells (cC x) 32)).cell? ⟨wr.heap.size, 1, none⟩ = some (.int .i64 x.a) := (Blk.new wr 32 (cC x)).cell 1
      have k2 : (wr.alloc (.cells (cC x) 32)).cell? ⟨wr.heap.size, 2, none⟩ = some (.int .i64 x.b) := (Blk.new wr 32 (cC x)).cell 2
      clear hn hw
      by_cases he : x ∈ l.take i
      · have e1 : decide (x ∈ l.take i) = true := by simp [he]
        rw [e1] at HI2
        go_wp2
        go_region_law (go_simp; go_at_call 34; refine (HI2.out _ (by repeat (first | exact Only.refl _ _ | apply Only.drew | apply Only.drewN))).mono ?_; rintro e w' ⟨rfl, ho⟩; have HJ := hide ho; clear ho)
        go_wp2
        go_ret
        refine ⟨?_, HJ.out⟩
        have e2 : ¬ l.Nodup := fun hd => by
          rw [HS.out, List.nodup_append] at hd
          exact hd.2.2 x he x (by simp) rfl
        show Ending.returned (.bool true) = _
        simp [e2]
      · have e1 : decide (x ∈ l.take i) = false := by simp [he]
        rw [e1] at HI2
        go_wp2
        go_region_law (go_simp; go_at_call 34; refine (HI2.out _ (by repeat (first | exact Only.refl _ _ | apply Only.drew | apply Only.drewN))).mono ?_; rintro e w' ⟨rfl, ho⟩; have HJ := hide ho; clear ho)
        go_wp2
        have e3 : wrap64 ((i : Int) + 1) = ((i + 1 : Nat) : Int) := by
          have := HL.out
          rw [wrap64]
          omega
        rw [e3]
        refine ⟨⟨i + 1, hlt, rfl, ?_, HJ.out⟩, ?_⟩
        · rw [HTK.out]
          refine List.nodup_append.2 ⟨HN.out, by simp, fun a ha b hb e => ?_⟩
          simp at hb
          subst hb; subst e
          exact he ha
        · simp [intOf]
          omega
    · go_wp2
      go_ret
      refine ⟨?_, hw⟩
      rw [List.take_of_length_le (by omega)] at hn
      simp [hn]

/-- A new row of the channels that a slice shows. -/
theorem cloneC_at {w : World} {v : Value} {ss : List CH} (h : ChansAt w v ss) (hf : ss.length ≤ 64) : Calls Try.prog 21 #[v] w fun e w' => ∃ v', e = .returned v' ∧ CRw w' v' ss ∧ (∀ q, v'.ownBlock = some q → w.heap.size ≤ q) ∧ Only [] w w' := by
  have q22 : ∀ (w : World) (a : Option Addr) (n c n' c' : Nat), (binOp .eql 30 (.slice a n c) (.slice none n' c')).run Try.prog w = .ok (.bool a.isNone) w := fun w a n c n' c' => Lib.run_eql_slice_nil w _ _ a n c n' c' Try.underlying30
  have hq := h
  rcases hq with ⟨rfl, rfl⟩ | ⟨b, o, c, rfl, _, _⟩
  · exact cloneC_is (CRw.nil w) (by simp)
  · have HS := hide (fun o => h.quiet ((Only.refl [] w).alloc o))
    have HE := hide (crow_empty (Blk.new w 32 #[]))
    have HF := hide hf
    clear h
    go_enter Try.func21, Try.ntmps21
    go_wp2_with (at_builtin; refine wpList_append_chans (v := .slice (some ⟨w.heap.size, 0, none⟩) 0 0) rfl _ _ rfl rfl HE.out rfl (HS.out _) (by have := HF.out; simp; omega) ?_; rintro v' w2 hr ho hk ⟨A', c', rfl⟩; have HR := hide hr; have HO := hide ho; have HK := hide hk; clear hr ho hk)
    go_ret
    refine ⟨_, rfl, by simpa using HR.out, fun q hq => ?_, (((Only.refl [] w).alloc _).trans' HO.out (fun k hk hm => ?_))⟩
    · rcases HK.out q hq with h | h
      · simp [Value.ownBlock] at h; omega
      · simp at h; omega
    · simp [Value.ownBlock] at hm; omega
end Go.Proofs.Ytokclkiidhcffaa
