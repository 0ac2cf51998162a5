/-
  The walk of 'ProcTree'.
-/
import Derived.Test.YtdnnilpifnigiaaPrRd
namespace Go.Proofs.Ytdnnilpifnigiaa
open Go.ChangeShapes Go.WideShapes Go.ChangeAt Go.RowKit Go.Maps Go.Deep
set_option linter.unusedVariables false
set_option linter.unusedSimpArgs false
theorem countP_lt {α : Type} {p q : α → Bool} : ∀ (l : List α), (∀ z ∈ l, p z = true → q z = true) → ∀ y ∈ l, q y = true → p y = false → l.countP p + 1 ≤ l.countP q := by
  intro l
  induction l with
  | nil => intro _ y hy; cases hy
  | cons a r ih =>
    intro h y hy hq hp
    have hle : r.countP p ≤ r.countP q := List.countP_mono_left (fun z hz => h z (by simp [hz]))
    rw [List.countP_cons, List.countP_cons]
    rcases List.mem_cons.1 hy with rfl | hy
    · simp [hq, hp]
      exact hle
    · have h1 := ih (fun z hz => h z (by simp [hz])) y hy hq hp
      have h2 := h a (by simp)
      cases ha : p a
      · simp; omega
      · simp [h2 ha]; omega
/-- How many processes have this number or a lower one. -/
def belowP (P : List K5) (x : Int) : Nat := P.countP fun k => decide (k.pid ≤ x)
theorem belowP_le (P : List K5) (x : Int) : belowP P x ≤ P.length := List.countP_le_length
theorem belowP_step {P : List K5} {k : K5} (hk : k ∈ P) (h : k.par < k.pid) : belowP P k.par + 1 ≤ belowP P k.pid :=
  countP_lt P (fun z _ hz => by simp at hz ⊢; omega) k hk (by simp) (by simp; omega)
theorem belowP_pos {P : List K5} {k : K5} (hk : k ∈ P) : 1 ≤ belowP P k.pid := List.countP_pos_iff.2 ⟨k, hk, by simp⟩
theorem OkS.up {s : PS} (h : OkS s) {k : K5} (hk : k ∈ s.P) : k.par = 0 ∨ k.par ∈ s.P.map (·.pid) := by
  by_cases e : k.par = 0
  · exact .inl e
  · obtain ⟨q, hq, e1, _⟩ := h.live k hk e
    exact .inr (List.mem_map.2 ⟨q, hq, e1⟩)
theorem OkS.threads {s : PS} (h : OkS s) {k : K5} (hk : k ∈ s.P) : (k.zom = true → (thP s.T k.pid).length = 0) ∧ (k.zom = false → 1 ≤ (thP s.T k.pid).length) := by
  have nd := pw_nodup h.sp
  constructor
  · intro hz
    rw [List.length_eq_zero_iff]
    unfold thP
    rw [List.map_eq_nil_iff, List.filter_eq_nil_iff]
    intro y hy e
    obtain ⟨q, hq, e1, e2⟩ := h.thr y hy
    have e3 : y.pid = k.pid := by simpa using e
    rw [uniqK nd hq hk (e1.trans e3), hz] at e2
    cases e2
  · intro hz
    obtain ⟨y, hy, e1, _⟩ := h.run k hk hz
    exact List.length_pos_iff.2 (fun e => by
      have : y.tid ∈ thP s.T k.pid := List.mem_map.2 ⟨y, List.mem_filter.2 ⟨hy, by simp [e1]⟩, rfl⟩
      rw [e] at this
      cases this)
theorem procS_at {s : PS} (h : OkS s) {k : K5} (hk : k ∈ s.P) : procS s k.pid = (k, thP s.T k.pid, 0) := by
  unfold procS
  rw [if_pos (List.mem_map.2 ⟨k, hk, rfl⟩), getK_at (pw_nodup h.sp) hk]
theorem threadS_at {s : PS} (h : OkS s) {y : S4} (hy : y ∈ s.T) : threadS s y.tid = (y, 0) := by
  unfold threadS
  rw [if_pos (List.mem_map.2 ⟨y, hy, rfl⟩), getT_at (pw_nodup h.st) hy]
theorem Pt.wf {w0 w : World} {t a b : Nat} {s : PS} {n : Int} (h : Pt w0 w t a b s n) (hn : n < 4611686018427387000) {x : Int} (hx : x ∈ s.P.map (·.pid)) : iW x := by
  obtain ⟨k, hk, rfl⟩ := List.mem_map.1 hx
  have := h.ok.hp k hk
  have := h.bp
  exact iW_mid (by omega) (by omega)
theorem Pt.wfT {w0 w : World} {t a b : Nat} {s : PS} {n : Int} (h : Pt w0 w t a b s n) (hn : n < 4611686018427387000) {x : Int} (hx : x ∈ s.T.map (·.tid)) : iW x := by
  obtain ⟨k, hk, rfl⟩ := List.mem_map.1 hx
  have := h.ok.ht k hk
  have := h.bt
  exact iW_mid (by omega) (by omega)
section
variable {w w' : World} {t a b : Nat} {s : PS} {n : Int}
set_option maxRecDepth 100000 in
set_option maxHeartbeats 4000000 in
theorem procTree_walk {H : Type} {enc : TypeId × Value → H} {dd : DataW H} {A0 : Option Addr} {len cap : Nat} (rv : Rd enc Try.prog w 64 [.slice A0 len cap] dd) :
    Calls Try.prog 6 #[.slice A0 len cap] w fun e w' => e = .returned (.bool true) ∧ Below w.heap.size w w' := by
  obtain ⟨hlen, hops⟩ := Rd.deeds24 rv
  have HOP := hide hops
  clear rv hops
  go_enter Try.func6, Try.ntmps6
  go_wp2_with (go_at_call 7; refine (pt_new _).mono ?_; rintro e w1 ⟨t, a, b, rfl, h1⟩; have H1 := hide h1; clear h1)
  go_loopw [4] (fun iv wr => ∃ (i : Nat) (s : PS), i ≤ len ∧ iv = .int .i64 i ∧ Pt w wr t a b s (1 + i) ∧ (i = 0 → s = ps1)) (fun iv _ => len - (intOf iv).toNat)
  case atStart => exact ⟨0, ps1, Nat.zero_le _, rfl, H1.out, fun _ => rfl⟩
  case round =>
    obtain ⟨i, s, hi, rfl, hP, h0⟩ := hrel
    have HP := hide hP
    have H0 := hide h0
    by_cases hlt : i < len
    · have hltI : (i : Int) < len := by omega
      obtain ⟨q, o, kd, x, c, rfl, hq, hwx, hwc, c0, c1, c2⟩ := HOP.out i hlt
      have hba := hP.on
      have d0 := (hba.cell hq (by simp) (o := o + i * 3) (s := none)).trans c0
      have d1 := (hba.cell hq (by simp) (o := o + i * 3 + 1) (s := none)).trans c1
      have d2 := (hba.cell hq (by simp) (o := o + i * 3 + 2) (s := none)).trans c2
      clear c0 c1 c2 hba hP h0
      go_upto_block 2 with fail
      go_cut [] from 35 to 162 (fun wx => ∃ s', Pt w wx t a b s' (1 + (i + 1 : Nat)))
      case first =>
        have HPX := hide (HP.out.quiet ((Only.refl [] wr).alloc (.cells #[.int .i64 kd, .int .i64 x, .int .i64 c] 66)))
        have hb61 : (1 + (i : Int)) < 4611686018427387000 := by omega
        by_cases k1 : kd = 1
        · subst k1
          go_wp2_with (go_at_call 11; refine (pt_fork HPX.out hb61 hwx).mono ?_; rintro e w3 ⟨rfl, z3, -⟩; have HF := hide z3; clear z3)
          go_meet
          case rel => exact ⟨_, HF.out.later (by omega)⟩
        · have k1b : (kd == 1) = false := beq_eq_false_iff_ne.2 k1
          by_cases k2 : kd = 2
          · subst k2
            clear k1 k1b
            go_wp2_with (go_at_call 15; refine (pt_spawn HPX.out hb61 hwx).mono ?_; rintro e w3 ⟨rfl, z3, -⟩; have HF := hide z3; clear z3)
            go_meet
            case rel => exact ⟨_, HF.out.later (by omega)⟩
          · have k2b : (kd == 2) = false := beq_eq_false_iff_ne.2 k2
            by_cases k3 : kd = 3
            · subst k3
              clear k1 k1b k2 k2b
              go_wp2_with (go_at_call 17; refine (pt_tend HPX.out hb61 hwx c).mono ?_; rintro e w3 ⟨rfl, z3, -⟩; have HF := hide z3; clear z3)
              go_meet
              case rel => exact ⟨_, HF.out.later (by omega)⟩
            · have k3b : (kd == 3) = false := beq_eq_false_iff_ne.2 k3
              by_cases k4 : kd = 4
              · subst k4
                clear k1 k1b k2 k2b k3 k3b
                go_wp2_with (go_at_call 12; refine (pt_exit HPX.out hwx c).mono ?_; rintro e w3 ⟨v, rfl, -, z3, -⟩; have HF := hide z3; clear z3)
                go_meet
                case rel => exact ⟨_, HF.out.later (by omega)⟩
              · have k4b : (kd == 4) = false := beq_eq_false_iff_ne.2 k4
                by_cases k5 : kd = 5
                · subst k5
                  clear k1 k1b k2 k2b k3 k3b k4 k4b
                  go_wp2_with (go_at_call 19; refine (pt_wait HPX.out hwx).mono ?_; rintro e w3 ⟨rfl, z3, -⟩; have HF := hide z3; clear z3)
                  go_meet
                  case rel => exact ⟨_, HF.out.later (by omega)⟩
                · have k5b : (kd == 5) = false := beq_eq_false_iff_ne.2 k5
                  clear k1 k2 k3 k4 k5
                  go_wp2_with fail
                  go_meet
                  case rel => exact ⟨_, HPX.out.later (by omega)⟩
      case rest =>
        obtain ⟨s', hP'⟩ := hcut
        have HQ := hide hP'
        have hb61 : (1 + ((i + 1 : Nat) : Int)) < 4611686018427387000 := by omega
        have HB61 := hide hb61
        clear HP H0 hP' d0 d1 d2 hwx hwc hb61
        have hf1 := HQ.out.ok.fp
        have hf2 := HQ.out.ok.ft
        obtain ⟨n6, hn6⟩ : ∃ n6, (s'.P.map (·.pid)).length = n6 := ⟨_, rfl⟩
        obtain ⟨n7, hn7⟩ : ∃ n7, (s'.T.map (·.tid)).length = n7 := ⟨_, rfl⟩
        have hn6b : n6 ≤ 32 := by rw [← hn6, List.length_map]; exact hf1
        have hn7b : n7 ≤ 64 := by rw [← hn7, List.length_map]; exact hf2
        have hg1 : decide (32 < (n6 : Int)) = false := decide_eq_false (by omega)
        have hg2 : decide (64 < (n7 : Int)) = false := decide_eq_false (by omega)
        have hg3 : decide (32 < n6) = false := decide_eq_false (by omega)
        have hg4 : decide (64 < n7) = false := decide_eq_false (by omega)
        have HN6 := hide hn6
        have HN7 := hide hn7
        clear hn6 hn7 hf1 hf2
        go_wp2_with (first | (go_at_call 23; refine (pt_procs HQ.out).mono ?_; rintro e w6 ⟨v6, rfl, hr, ho⟩; have hff := hr.form; rw [HN6.out] at hff; obtain ⟨A6, cp6, rfl, hA⟩ := hff; have HA6 := hide hA; have HO6 := hide ho; clear hr ho hA) | (go_at_call 24; refine (pt_threads (HQ.out.quiet HO6.out)).mono ?_; rintro e w7 ⟨v7, rfl, hr, ho⟩; have hff := hr.form; rw [HN7.out] at hff; obtain ⟨A7, cp7, rfl, -⟩ := hff; have HO7 := hide ho; clear hr ho))
        have HQ7 := hide ((HQ.out.quiet HO6.out).quiet HO7.out)
        have HA6b := hide (fun (W : World) (ho : Only [] w7 W) (j : Nat) (hj : j < n6) => (show ∃ b k, A6 = some ⟨b, 0, none⟩ ∧ k ∈ s'.P ∧ W.cell? ⟨b, j, none⟩ = some (.int .i64 k.pid) from by
          obtain ⟨b, e, h1, h2, h3⟩ := HA6.out (by omega)
          have hj3 : j < (s'.P.map (·.pid)).length := by rw [HN6.out]; exact hj
          have hj2 : j < s'.P.length := by simpa using hj3
          refine ⟨b, s'.P[j], e, List.getElem_mem hj2, ?_⟩
          rw [ho.cell (Nat.lt_of_lt_of_le h2 HO7.out.size) (by simp), HO7.out.cell h2 (by simp), h3 j hj, gb_at hj3]
          simp))
        clear HA6 HO6 HO7 HQ
        clear hg1 hg2 hg3 hg4
        go_loopw [7] (fun jv wz => ∃ j : Nat, j ≤ n6 ∧ jv = .int .i64 j ∧ Only [] w7 wz) (fun jv _ => n6 - (intOf jv).toNat)
        case atStart => exact ⟨0, Nat.zero_le _, rfl, Only.refl _ _⟩
        case round =>
          obtain ⟨j, hj, rfl, ho⟩ := hrel
          have HO := hide ho
          by_cases hltj : j < n6
          · have hltJ : (j : Int) < n6 := by omega
            obtain ⟨b6, k, rfl, hk, ck⟩ := HA6b.out wr ho j hltj
            have HK := hide (show (k.pid = 0 ∨ k.pid ∈ s'.P.map (·.pid)) ∧ 0 + belowP s'.P k.pid ≤ s'.P.length ∧ 0 ≤ k.pid from ⟨.inr (List.mem_map.2 ⟨k, hk, rfl⟩), by have := belowP_le s'.P k.pid; omega, by have := HQ7.out.ok.hp k hk; omega⟩)
            clear ho hk
            generalize k.pid = x0 at *
            go_wp2_with fail
            go_loopw [8, 9] (fun av nv wz => ∃ (x : Int) (n : Nat), av = .int .i64 x ∧ nv = .int .i64 n ∧ (x = 0 ∨ x ∈ s'.P.map (·.pid)) ∧ n + belowP s'.P x ≤ s'.P.length ∧ 0 ≤ x ∧ Only [] w7 wz) (fun av _ _ => (intOf av).toNat)
            case atStart => exact ⟨x0, 0, rfl, rfl, HK.out.1, HK.out.2.1, HK.out.2.2, HO.out⟩
            case round =>
              obtain ⟨x1, n1, rfl, rfl, hx1, hn1, hx0, ho⟩ := hrel
              have HO1 := hide ho
              by_cases hz : x1 = 0
              · subst hz
                clear hx1 hn1 hx0 ho
                go_wp2_with fail
                go_roundw
                case rel => exact ⟨j + 1, hltj, by go_num, HO1.out⟩
                case measure => simp [intOf]; omega
              · have hzb : (x1 != 0) = true := by simp [hz]
                have hm : x1 ∈ s'.P.map (·.pid) := hx1.resolve_left hz
                obtain ⟨k1, hk1, rfl⟩ := List.mem_map.1 hm
                have hwf := HQ7.out.wf HB61.out hm
                have hbp := belowP_pos hk1
                have hfp := HQ7.out.ok.fp
                have hn40 : decide (40 < (n1 : Int)) = false := decide_eq_false (by omega)
                have hn41 : n1 ≤ 40 := by omega
                have hthr := HQ7.out.ok.threads hk1
                have HNX := hide (show (k1.par = 0 ∨ k1.par ∈ s'.P.map (·.pid)) ∧ (n1 + 1) + belowP s'.P k1.par ≤ s'.P.length ∧ 0 ≤ k1.par ∧ k1.par < k1.pid from by
                  have h1 := HQ7.out.ok.par k1 hk1
                  have h2 := belowP_step hk1 h1.2
                  exact ⟨HQ7.out.ok.up hk1, by omega, h1.1, h1.2⟩)
                have hproc := pt_proc (HQ7.out.quiet ho) hwf
                rw [procS_at HQ7.out.ok hk1] at hproc
                have HPR := hide hproc
                clear hproc hm hk1 hwf hbp hfp hn1 hx1 ho hz
                obtain ⟨p1, p2, p3, p4⟩ := k1
                dsimp only at *
                cases p3
                · have hl1 : (((thP s'.T p1).length : Int) == 0) = false := by
                    have := hthr.2 rfl
                    rw [beq_eq_false_iff_ne]; omega
                  clear hthr
                  go_wp2_with (go_at_call 22; refine HPR.out.mono ?_; rintro e w8 ⟨v8, rfl, hr, ho8⟩; obtain ⟨A8, cp8, rfl, -⟩ := hr.form; have HO8 := hide (HO1.out.trans ho8); clear hr ho8)
                  go_roundw
                  case rel => exact ⟨p2, n1 + 1, rfl, by go_num, HNX.out.1, HNX.out.2.1, HNX.out.2.2.1, HO8.out.alloc _⟩
                  case measure => have := HNX.out; simp [intOf]; omega
                · have HZ := hide (hthr.1 rfl)
                  clear hthr
                  go_wp2_with (go_at_call 22; refine HPR.out.mono ?_; rintro e w8 ⟨v8, rfl, hr, ho8⟩; have hff := hr.form; rw [HZ.out] at hff; obtain ⟨A8, cp8, rfl, -⟩ := hff; have HO8 := hide (HO1.out.trans ho8); clear hr ho8)
                  go_roundw
                  case rel => exact ⟨p2, n1 + 1, rfl, by go_num, HNX.out.1, HNX.out.2.1, HNX.out.2.2.1, HO8.out.alloc _⟩
                  case measure => have := HNX.out; simp [intOf]; omega
          · obtain rfl : j = n6 := by omega
            have HQ8 := hide (HQ7.out.quiet ho)
            clear HO ho HA6b HQ7
            go_wp2_with (go_at_call 24; refine (pt_threads HQ8.out).mono ?_; rintro e w9 ⟨v9, rfl, hr, ho⟩; have hff := hr.form; rw [HN7.out] at hff; obtain ⟨A9, cp9, rfl, hA⟩ := hff; have HA9 := hide hA; have HO9 := hide ho; clear hr ho hA)
            have HQ9 := hide (HQ8.out.quiet HO9.out)
            have HA9b := hide (fun (W : World) (ho : Only [] w9 W) (j : Nat) (hj : j < n7) => (show ∃ b y, A9 = some ⟨b, 0, none⟩ ∧ y ∈ s'.T ∧ W.cell? ⟨b, j, none⟩ = some (.int .i64 y.tid) from by
              obtain ⟨b, e, h1, h2, h3⟩ := HA9.out (by omega)
              have hj3 : j < (s'.T.map (·.tid)).length := by rw [HN7.out]; exact hj
              have hj2 : j < s'.T.length := by simpa using hj3
              refine ⟨b, s'.T[j], e, List.getElem_mem hj2, ?_⟩
              rw [ho.cell h2 (by simp), h3 j hj, gb_at hj3]
              simp))
            clear HA9 HO9 HQ8
            go_loopw [13] (fun jv wz => ∃ j : Nat, j ≤ n7 ∧ jv = .int .i64 j ∧ Only [] w9 wz) (fun jv _ => n7 - (intOf jv).toNat)
            case atStart => exact ⟨0, Nat.zero_le _, rfl, Only.refl _ _⟩
            case round =>
              obtain ⟨l, hl, rfl, ho⟩ := hrel
              have HO := hide ho
              by_cases hltl : l < n7
              · have hltL : (l : Int) < n7 := by omega
                obtain ⟨b9, y, rfl, hy, cy⟩ := HA9b.out wr ho l hltl
                have hty := List.mem_map.2 ⟨y, hy, (rfl : y.tid = y.tid)⟩
                have hth := pt_thread (HQ9.out.quiet ho) (HQ9.out.wfT HB61.out hty)
                rw [threadS_at HQ9.out.ok hy] at hth
                have HTH := hide hth
                obtain ⟨k, hk, hke, hkz⟩ := HQ9.out.ok.thr y hy
                have HPR := hide (fun W (hW : Only [] w9 W) => (show Calls Try.prog 22 #[.pointer (some ⟨t, 0, none⟩), .int .i64 y.pid] W fun e w' => ∃ v, e = .returned (.tuple #[.agg (kTC k v), .int .i64 0]) ∧ KRow .i64 3 w' W.heap.size v (thP s'.T k.pid) ∧ Only [] W w' from by
                  have := pt_proc (HQ9.out.quiet hW) (HQ9.out.wf HB61.out (List.mem_map.2 ⟨k, hk, (rfl : k.pid = k.pid)⟩))
                  rw [procS_at HQ9.out.ok hk] at this
                  rw [← hke]
                  exact this))
                clear hth hty hk hke hy ho
                obtain ⟨y1, y2, y3, y4⟩ := y
                obtain ⟨p1, p2, p3, p4⟩ := k
                dsimp only at hkz
                subst hkz
                dsimp only at *
                go_wp2_with (first | (go_at_call 16; refine HTH.out.mono ?_; rintro e w10 ⟨rfl, ho⟩; have HO10 := hide ((HO.out.trans ho).alloc (.cells #[.int .i64 y1, .int .i64 y2, .bool y3, .int .i64 y4] 43)); clear ho) | (go_at_call 22; refine (HPR.out _ HO10.out).mono ?_; rintro e w11 ⟨v11, rfl, hr, ho⟩; obtain ⟨A11, cp11, rfl, -⟩ := hr.form; have HO11 := hide (HO10.out.trans ho); clear hr ho))
                go_roundw
                case rel => exact ⟨l + 1, hltl, by go_num, HO11.out.alloc _⟩
                case measure => simp [intOf]; omega
              · obtain rfl : l = n7 := by omega
                have HQ10 := hide (HQ9.out.quiet ho)
                clear HO ho HA9b HQ9
                go_wp2_with fail
                go_roundw
                case rel => exact ⟨i + 1, s', hlt, by go_num, HQ10.out, fun h => by omega⟩
                case measure => simp [intOf]; omega
    · obtain rfl : i = len := by omega
      have hpr := pt_proc hP (pid := 1) (by decide)
      by_cases hz : i = 0
      · subst hz
        rw [h0 rfl] at hpr
        have HPR := hide (show Calls Try.prog 22 #[.pointer (some ⟨t, 0, none⟩), .int .i64 1] wr fun e w' => ∃ v, e = .returned (.tuple #[.agg (kTC ⟨1, 0, false, 0⟩ v), .int .i64 0]) ∧ KRow .i64 3 w' wr.heap.size v [1] ∧ Only [] wr w' from hpr)
        clear hpr hP h0 HOP H0
        go_wp2_with (go_at_call 22; refine HPR.out.mono ?_; rintro e w8 ⟨v8, rfl, hr, ho8⟩; obtain ⟨A8, cp8, rfl, -⟩ := hr.form; have HO8 := hide (HP.out.on.trans ho8); clear hr ho8; dsimp only [List.length_cons, List.length_nil])
        go_ret
        exact ⟨rfl, (HO8.out.alloc _).below (Nat.le_refl _) (by simp)⟩
      · have HPR := hide hpr
        have hposN : 0 < i := by omega
        have hpos : decide (0 < (i : Int)) = true := decide_eq_true (by omega)
        have hpos2 : decide (0 < i) = true := decide_eq_true hposN
        clear hpr hP h0 HOP H0 hz
        go_wp2_with (go_at_call 22; refine HPR.out.mono ?_; rintro e w8 ⟨v8, rfl, hr, ho8⟩; obtain ⟨A8, cp8, rfl, -⟩ := hr.form; have HO8 := hide (HP.out.on.trans ho8); clear hr ho8)
        go_ret
        exact ⟨rfl, (HO8.out.alloc _).below (Nat.le_refl _) (by simp)⟩
end
end Go.Proofs.Ytdnnilpifnigiaa
