/-
  Processes and threads (parapetlaw24): tree: what the law asks behind each call.
-/
import Derived.Test.YtdnnilpifnigiaaPrTreeWalk
namespace Go.Proofs.Ytdnnilpifnigiaa
open Go.ChangeShapes Go.WideShapes Go.ChangeAt Go.RowKit Go.Maps Go.Deep
set_option linter.unusedVariables false
set_option linter.unusedSimpArgs false
section
variable {w0 w w' : World} {t a b : Nat} {s : PS} {n : Int}
set_option maxRecDepth 100000 in
set_option maxHeartbeats 4000000 in
theorem tree_is (h : Pt w0 w t a b s n) (hb : n < 4611686018427387000) : Calls Try.prog 20 #[.pointer (some ⟨t, 0, none⟩)] w fun e w' => e = .returned (.bool true) ∧ Only [] w w' := by
  have HB61 := hide hb
  have HQ := hide h
  have hf1 := h.ok.fp
  have hf2 := h.ok.ft
  obtain ⟨n6, hn6⟩ : ∃ n6, (s.P.map (·.pid)).length = n6 := ⟨_, rfl⟩
  obtain ⟨n7, hn7⟩ : ∃ n7, (s.T.map (·.tid)).length = n7 := ⟨_, rfl⟩
  have hn6b : n6 ≤ 32 := by rw [← hn6, List.length_map]; exact hf1
  have hn7b : n7 ≤ 64 := by rw [← hn7, List.length_map]; exact hf2
  have HN6 := hide hn6
  have HN7 := hide hn7
  clear hn6 hn7 hf1 hf2 hb h
  go_enter Try.func20, Try.ntmps20
  go_wp2_with (go_at_call 23; refine (pt_procs HQ.out).mono ?_; rintro e w6 ⟨v6, rfl, hr, ho⟩; have hff := hr.form; rw [HN6.out] at hff; obtain ⟨A6, cp6, rfl, hA⟩ := hff; have HA6 := hide hA; have HO6 := hide ho; clear hr ho hA)
  have HQ7 := hide (HQ.out.quiet HO6.out)
  have HA6b := hide (fun (W : World) (ho : Only [] w6 W) (j : Nat) (hj : j < n6) => (show ∃ b k, A6 = some ⟨b, 0, none⟩ ∧ k ∈ s.P ∧ W.cell? ⟨b, j, none⟩ = some (.int .i64 k.pid) from by
    obtain ⟨b, e, h1, h2, h3⟩ := HA6.out (by omega)
    have hj3 : j < (s.P.map (·.pid)).length := by rw [HN6.out]; exact hj
    have hj2 : j < s.P.length := by simpa using hj3
    refine ⟨b, s.P[j], e, List.getElem_mem hj2, ?_⟩
    rw [ho.cell h2 (by simp), h3 j hj, gb_at hj3]
    simp))
  clear HA6 HQ
  go_loopw [20] (fun jv wz => ∃ j : Nat, j ≤ n6 ∧ jv = .int .i64 j ∧ Only [] w6 wz) (fun jv _ => n6 - (intOf jv).toNat)
  case atStart => exact ⟨0, Nat.zero_le _, rfl, Only.refl _ _⟩
  case round =>
    obtain ⟨j, hj, rfl, ho⟩ := hrel
    have HO := hide ho
    by_cases hltj : j < n6
    · have hltJ : (j : Int) < n6 := by omega
      obtain ⟨b6, k, rfl, hk, ck⟩ := HA6b.out wr ho j hltj
      have HK := hide (show (k.par = 0 ∨ k.par ∈ s.P.map (·.pid)) ∧ 0 + belowP s.P k.par ≤ s.P.length ∧ 0 ≤ k.par ∧ k.par < k.pid from ⟨HQ7.out.ok.up hk, by have := belowP_le s.P k.par; omega, HQ7.out.ok.par k hk⟩)
      have hproc := pt_proc (HQ7.out.quiet ho) (HQ7.out.wf HB61.out (List.mem_map.2 ⟨k, hk, (rfl : k.pid = k.pid)⟩))
      rw [procS_at HQ7.out.ok hk] at hproc
      have HPR := hide hproc
      have hthr := HQ7.out.ok.threads hk
      clear hproc hk ho
      obtain ⟨x0, up0, z0, cd0⟩ := k
      dsimp only at *
      cases z0
      · have hl1 : (((thP s.T x0).length : Int) == 0) = false := by
          have := hthr.2 rfl
          rw [beq_eq_false_iff_ne]; omega
        clear hthr
        go_wp2_with (go_at_call 22; refine HPR.out.mono ?_; rintro e w8 ⟨v8, rfl, hr, ho8⟩; obtain ⟨A8, cp8, rfl, -⟩ := hr.form; have HO8 := hide ((HO.out.trans ho8).alloc (.cells #[.int .i64 x0, .int .i64 up0, .bool false, .int .i64 cd0, .slice A8 (thP s.T x0).length cp8] 58)); clear hr ho8)
        go_loopw [7, 8] (fun av nv wz => ∃ (x : Int) (n : Nat), av = .int .i64 x ∧ nv = .int .i64 n ∧ (x = 0 ∨ x ∈ s.P.map (·.pid)) ∧ n + belowP s.P x ≤ s.P.length ∧ 0 ≤ x ∧ x < x0 ∧ Only [] w6 wz) (fun av _ _ => (intOf av).toNat)
        case atStart => exact ⟨up0, 0, rfl, rfl, HK.out.1, HK.out.2.1, HK.out.2.2.1, HK.out.2.2.2, HO8.out⟩
        case round =>
          obtain ⟨x1, n1, rfl, rfl, hx1, hn1, hx0, hxl, ho⟩ := hrel
          have HO1 := hide ho
          by_cases hz : x1 = 0
          · subst hz
            clear hx1 hn1 hx0 ho hxl
            go_wp2_with fail
            go_roundw
            case rel => exact ⟨j + 1, hltj, by go_num, HO1.out⟩
            case measure => simp [intOf]; omega
          · have hzb : (x1 != 0) = true := by simp [hz]
            have hm : x1 ∈ s.P.map (·.pid) := hx1.resolve_left hz
            obtain ⟨k1, hk1, rfl⟩ := List.mem_map.1 hm
            have hwf := HQ7.out.wf HB61.out hm
            have hbp := belowP_pos hk1
            have hfp := HQ7.out.ok.fp
            have hn40 : decide (40 < (n1 : Int)) = false := decide_eq_false (by omega)
            have hn41 : n1 ≤ 40 := by omega
            have hne : (k1.pid == x0) = false := by rw [beq_eq_false_iff_ne]; omega
            have HNX := hide (show (k1.par = 0 ∨ k1.par ∈ s.P.map (·.pid)) ∧ (n1 + 1) + belowP s.P k1.par ≤ s.P.length ∧ 0 ≤ k1.par ∧ k1.par < x0 ∧ k1.par < k1.pid from by
              have h1 := HQ7.out.ok.par k1 hk1
              have h2 := belowP_step hk1 h1.2
              exact ⟨HQ7.out.ok.up hk1, by omega, h1.1, by omega, h1.2⟩)
            have hproc := pt_proc (HQ7.out.quiet ho) hwf
            rw [procS_at HQ7.out.ok hk1] at hproc
            have HPR1 := hide hproc
            clear hproc hm hk1 hwf hbp hfp hn1 hx1 ho hz hxl
            obtain ⟨p1, p2, p3, p4⟩ := k1
            dsimp only at *
            go_wp2_with (go_at_call 22; refine HPR1.out.mono ?_; rintro e w18 ⟨v18, rfl, hr, ho18⟩; obtain ⟨A18, cp18, rfl, -⟩ := hr.form; have HO18 := hide (HO1.out.trans ho18); clear hr ho18)
            go_roundw
            case rel => exact ⟨p2, n1 + 1, rfl, by go_num, HNX.out.1, HNX.out.2.1, HNX.out.2.2.1, HNX.out.2.2.2.1, HO18.out.alloc _⟩
            case measure => have := HNX.out; simp [intOf]; omega
      · have HZ := hide (hthr.1 rfl)
        clear hthr
        go_wp2_with (go_at_call 22; refine HPR.out.mono ?_; rintro e w8 ⟨v8, rfl, hr, ho8⟩; have hff := hr.form; rw [HZ.out] at hff; obtain ⟨A8, cp8, rfl, -⟩ := hff; have HO8 := hide ((HO.out.trans ho8).alloc (.cells #[.int .i64 x0, .int .i64 up0, .bool true, .int .i64 cd0, .slice A8 0 cp8] 58)); clear hr ho8)
        go_loopw [7, 8] (fun av nv wz => ∃ (x : Int) (n : Nat), av = .int .i64 x ∧ nv = .int .i64 n ∧ (x = 0 ∨ x ∈ s.P.map (·.pid)) ∧ n + belowP s.P x ≤ s.P.length ∧ 0 ≤ x ∧ x < x0 ∧ Only [] w6 wz) (fun av _ _ => (intOf av).toNat)
        case atStart => exact ⟨up0, 0, rfl, rfl, HK.out.1, HK.out.2.1, HK.out.2.2.1, HK.out.2.2.2, HO8.out⟩
        case round =>
          obtain ⟨x1, n1, rfl, rfl, hx1, hn1, hx0, hxl, ho⟩ := hrel
          have HO1 := hide ho
          by_cases hz : x1 = 0
          · subst hz
            clear hx1 hn1 hx0 ho hxl
            go_wp2_with fail
            go_roundw
            case rel => exact ⟨j + 1, hltj, by go_num, HO1.out⟩
            case measure => simp [intOf]; omega
          · have hzb : (x1 != 0) = true := by simp [hz]
            have hm : x1 ∈ s.P.map (·.pid) := hx1.resolve_left hz
            obtain ⟨k1, hk1, rfl⟩ := List.mem_map.1 hm
            have hwf := HQ7.out.wf HB61.out hm
            have hbp := belowP_pos hk1
            have hfp := HQ7.out.ok.fp
            have hn40 : decide (40 < (n1 : Int)) = false := decide_eq_false (by omega)
            have hn41 : n1 ≤ 40 := by omega
            have hne : (k1.pid == x0) = false := by rw [beq_eq_false_iff_ne]; omega
            have HNX := hide (show (k1.par = 0 ∨ k1.par ∈ s.P.map (·.pid)) ∧ (n1 + 1) + belowP s.P k1.par ≤ s.P.length ∧ 0 ≤ k1.par ∧ k1.par < x0 ∧ k1.par < k1.pid from by
              have h1 := HQ7.out.ok.par k1 hk1
              have h2 := belowP_step hk1 h1.2
              exact ⟨HQ7.out.ok.up hk1, by omega, h1.1, by omega, h1.2⟩)
            have hproc := pt_proc (HQ7.out.quiet ho) hwf
            rw [procS_at HQ7.out.ok hk1] at hproc
            have HPR1 := hide hproc
            clear hproc hm hk1 hwf hbp hfp hn1 hx1 ho hz hxl
            obtain ⟨p1, p2, p3, p4⟩ := k1
            dsimp only at *
            go_wp2_with (go_at_call 22; refine HPR1.out.mono ?_; rintro e w18 ⟨v18, rfl, hr, ho18⟩; obtain ⟨A18, cp18, rfl, -⟩ := hr.form; have HO18 := hide (HO1.out.trans ho18); clear hr ho18)
            go_roundw
            case rel => exact ⟨p2, n1 + 1, rfl, by go_num, HNX.out.1, HNX.out.2.1, HNX.out.2.2.1, HNX.out.2.2.2.1, HO18.out.alloc _⟩
            case measure => have := HNX.out; simp [intOf]; omega
    · obtain rfl : j = n6 := by omega
      have HQ8 := hide (HQ7.out.quiet ho)
      have HOw := hide (HO6.out.trans ho)
      clear HO ho HA6b HQ7
      go_wp2_with (go_at_call 24; refine (pt_threads HQ8.out).mono ?_; rintro e w9 ⟨v9, rfl, hr, ho⟩; have hff := hr.form; rw [HN7.out] at hff; obtain ⟨A9, cp9, rfl, hA⟩ := hff; have HA9 := hide hA; have HO9 := hide ho; clear hr ho hA)
      have HQ9 := hide (HQ8.out.quiet HO9.out)
      have HA9b := hide (fun (W : World) (ho : Only [] w9 W) (j : Nat) (hj : j < n7) => (show ∃ b y, A9 = some ⟨b, 0, none⟩ ∧ y ∈ s.T ∧ W.cell? ⟨b, j, none⟩ = some (.int .i64 y.tid) from by
        obtain ⟨b, e, h1, h2, h3⟩ := HA9.out (by omega)
        have hj3 : j < (s.T.map (·.tid)).length := by rw [HN7.out]; exact hj
        have hj2 : j < s.T.length := by simpa using hj3
        refine ⟨b, s.T[j], e, List.getElem_mem hj2, ?_⟩
        rw [ho.cell h2 (by simp), h3 j hj, gb_at hj3]
        simp))
      have HOw9 := hide (HOw.out.trans HO9.out)
      clear HA9 HO9 HQ8 HOw
      go_loopw [82] (fun jv wz => ∃ j : Nat, j ≤ n7 ∧ jv = .int .i64 j ∧ Only [] w9 wz) (fun jv _ => n7 - (intOf jv).toNat)
      case atStart => exact ⟨0, Nat.zero_le _, rfl, Only.refl _ _⟩
      case round =>
        obtain ⟨l, hl, rfl, ho⟩ := hrel
        have HO := hide ho
        by_cases hltl : l < n7
        · have hltL : (l : Int) < n7 := by omega
          obtain ⟨b9, y, rfl, hy, cy⟩ := HA9b.out wr ho l hltl
          have hty := List.mem_map.2 ⟨y, hy, (rfl : y.tid = y.tid)⟩
          have hth := pt_thread (HQ9.out.quiet ho) (HQ9.out.wfT HB61.out hty)
          rw [threadS_at HQ9.out.ok hy] at hth
          have HTH := hide hth
          obtain ⟨k, hk, hke, hkz⟩ := HQ9.out.ok.thr y hy
          have HPR := hide (fun W (hW : Only [] w9 W) => (show Calls Try.prog 22 #[.pointer (some ⟨t, 0, none⟩), .int .i64 y.pid] W fun e w' => ∃ v, e = .returned (.tuple #[.agg (kTC k v), .int .i64 0]) ∧ KRow .i64 3 w' W.heap.size v (thP s.T k.pid) ∧ Only [] W w' from by
            have := pt_proc (HQ9.out.quiet hW) (HQ9.out.wf HB61.out (List.mem_map.2 ⟨k, hk, (rfl : k.pid = k.pid)⟩))
            rw [procS_at HQ9.out.ok hk] at this
            rw [← hke]
            exact this))
          clear hth hty hk hke hy ho
          obtain ⟨y1, y2, y3, y4⟩ := y
          obtain ⟨p1, p2, p3, p4⟩ := k
          dsimp only at hkz
          subst hkz
          dsimp only at *
          go_wp2_with (first | (go_at_call 16; refine HTH.out.mono ?_; rintro e w10 ⟨rfl, ho⟩; have HO10 := hide ((HO.out.trans ho).alloc (.cells #[.int .i64 y1, .int .i64 y2, .bool y3, .int .i64 y4] 43)); clear ho) | (go_at_call 22; refine (HPR.out _ HO10.out).mono ?_; rintro e w11 ⟨v11, rfl, hr, ho⟩; obtain ⟨A11, cp11, rfl, -⟩ := hr.form; have HO11 := hide (HO10.out.trans ho); clear hr ho))
          go_roundw
          case rel => exact ⟨l + 1, hltl, by go_num, HO11.out.alloc _⟩
          case measure => simp [intOf]; omega
        · obtain rfl : l = n7 := by omega
          have HQ10 := hide (HQ9.out.quiet ho)
          have HOw10 := hide (HOw9.out.trans ho)
          have hg1 : decide ((j : Int) ≤ 32) = true := decide_eq_true (by omega)
          have hg2 : decide ((l : Int) ≤ 64) = true := decide_eq_true (by omega)
          have hg3 : decide (j ≤ 32) = true := decide_eq_true (by omega)
          have hg4 : decide (l ≤ 64) = true := decide_eq_true (by omega)
          clear HO ho HA9b HQ9
          go_wp2_with (first | (go_at_call 23; refine (pt_procs HQ10.out).mono ?_; rintro e w12 ⟨v12, rfl, hr, ho⟩; have hff := hr.form; rw [HN6.out] at hff; obtain ⟨A12, cp12, rfl, -⟩ := hff; have HO12 := hide ho; clear hr ho) | (go_at_call 24; refine (pt_threads (HQ10.out.quiet HO12.out)).mono ?_; rintro e w13 ⟨v13, rfl, hr, ho⟩; have hff := hr.form; rw [HN7.out] at hff; obtain ⟨A13, cp13, rfl, -⟩ := hff; have HO13 := hide ho; clear hr ho))
          go_ret
          exact ⟨by first | rfl | simp [hg2, hg4] | (rw [hg2]; rfl), (HOw10.out.trans HO12.out).trans HO13.out⟩
end
end Go.Proofs.Ytdnnilpifnigiaa
