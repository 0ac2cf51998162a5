/-
  Crash of parapet/disk.
-/
import Derived.Test.YtpkoihbebhmicaaDiskFlush
namespace Go.Proofs.Ytpkoihbebhmicaa
open Go.ChangeShapes Go.WideShapes Go.ChangeAt Go.RowKit Go.Maps
set_option linter.unusedVariables false

/-- A list of api.Torn as it lies in memory: places and numbers of bytes. -/
def Torns (w : World) (A : Option Addr) (m : Nat) (l : List (Int × Int)) : Prop :=
  l.length = m ∧ (0 < m → ∃ b o, A = some ⟨b, o, none⟩ ∧ b < w.heap.size ∧ ∀ (i : Nat) (p : Int × Int), l[i]? = some p → w.cell? ⟨b, o + i * 2, none⟩ = some (.int .i64 p.1) ∧ w.cell? ⟨b, o + i * 2 + 1, none⟩ = some (.int .i64 p.2))
theorem Torns.only {w w' : World} {A : Option Addr} {m : Nat} {l : List (Int × Int)} {S : List Nat} (h : Torns w A m l) (ho : Only S w w') (hs : 0 < m → ∀ b, A = some b → b.block < w.heap.size → b.block ∉ S) : Torns w' A m l := by
  refine ⟨h.1, fun hm => ?_⟩
  obtain ⟨b, o, rfl, hb, hc⟩ := h.2 hm
  exact ⟨b, o, rfl, Nat.lt_of_lt_of_le hb ho.size, fun i p hp => ⟨(ho.cell hb (hs hm _ rfl hb)).trans (hc i p hp).1, (ho.cell hb (hs hm _ rfl hb)).trans (hc i p hp).2⟩⟩

/-- May a crash keep these? -/
def keepB (n : Nat) : Int → List (Int × Int) → Bool
  | _, [] => true
  | least, p :: r => decide (least ≤ p.1 ∧ p.1 < n ∧ 1 ≤ p.2 ∧ p.2 ≤ 512) && keepB n (p.1 + 1) r

theorem keep_drop {l : List (Int × Int)} {i : Nat} {p : Int × Int} (hp : l[i]? = some p) : l.drop i = p :: l.drop (i + 1) := by
  have hi : i < l.length := (List.getElem?_eq_some_iff.1 hp).1
  rw [List.drop_eq_getElem_cons hi, (List.getElem?_eq_some_iff.1 hp).2]

section
variable {w : World} {g pb pc mb : Nat} {pr : List Value} {pv : Value} {D : DataW Unit} {N : Nat} {plat : List Int} {ws : List WR} {left rd wt fl : Int} (h : IsDisk w g pb pc mb pr pv D N plat ws left rd wt fl)
include h

omit h in
def KeepRel (w0 : World) (m n : Nat) (l : List (Int × Int)) (least i : Value) (wr : World) : Prop :=
  ∃ (k : Nat) (z : Int), k ≤ m ∧ i = .int .i64 k ∧ 0 ≤ z ∧ least = .int .i64 z ∧ keepB n z (l.drop k) = keepB n 0 l ∧ Only [] w0 wr

set_option maxRecDepth 100000 in
set_option maxHeartbeats 1000000 in
theorem dkeeps_is (A : Option Addr) (m c : Nat) (l : List (Int × Int)) (ht : Torns w A m l) (hm : m ≤ 9223372036854775807) :
    Calls Try.prog 39 #[.pointer (some ⟨g, 0, none⟩), .slice A m c] w fun e w' => e = .returned (.bool (keepB ws.length 0 l)) ∧ Only [] w w' := by
  obtain ⟨A', cap, rfl, _⟩ := pend_form h
  have hfew : ws.length ≤ 9223372036854775807 := by have := h.few; omega
  have HT := hide ht
  have HD := hide h
  clear h ht
  go_enter Try.func39, Try.ntmps39
  go_wp2
  go_loopw [5, 10] (fun least i wr => KeepRel w m ws.length l least i wr) (fun _ i _ => m - (intOf i).toNat)
  case atStart => exact ⟨0, 0, Nat.zero_le _, rfl, Int.le_refl _, rfl, rfl, Only.refl _ _⟩
  case round =>
    obtain ⟨k, z, hk, rfl, hz, rfl, hkp, ho⟩ := hrel
    have HO := hide ho
    have HKP := hide hkp
    by_cases hlt : k < m
    · obtain ⟨b, o, rfl, hbl, hcs⟩ := HT.out.2 (by omega)
      obtain ⟨p, hp⟩ : ∃ p, l[k]? = some p := ⟨_, List.getElem?_eq_getElem (by rw [HT.out.1]; exact hlt)⟩
      obtain ⟨s0, s1⟩ := hcs k p hp
      have e0 := (ho.cell hbl (by simp)).trans s0
      have e1 := (ho.cell hbl (by simp)).trans s1
      have HC1 := hide (fun o => ((HD.out.only ho (by simp) (by simp)).str.alloc o).cell 1)
      have hc1 : ∀ o, (wr.alloc o).cell? ⟨g, 1, none⟩ = some (.slice A' ws.length cap) := fun o => (HC1.out o).trans rfl
      have HKD := hide (show keepB ws.length z (l.drop k) = (decide (z ≤ p.1 ∧ p.1 < ws.length ∧ 1 ≤ p.2 ∧ p.2 ≤ 512) && keepB ws.length (p.1 + 1) (l.drop (k + 1))) from by rw [keep_drop hp]; rfl)
      clear ho hkp hcs s0 s1 hp
      obtain ⟨pa, pn⟩ := p
      simp only at e0 e1 HKD
      by_cases hok : z ≤ pa ∧ pa < ws.length ∧ 1 ≤ pn ∧ pn ≤ 512
      · have HK2 := hide (show keepB ws.length (pa + 1) (l.drop (k + 1)) = keepB ws.length 0 l from by rw [← HKP.out, HKD.out, decide_eq_true hok, Bool.true_and])
        obtain ⟨q1, q2, q3, q4⟩ := hok
        have d1 : decide (pa < z) = false := by simp; omega
        have d2 : decide ((ws.length : Int) ≤ pa) = false := by simp; omega
        have d3 : decide (pn < 1) = false := by simp; omega
        have d4 : decide (512 < pn) = false := by simp; omega
        go_wp2
        go_quiet (fail)
        go_wp2
        go_roundw
        case rel => exact ⟨k + 1, pa + 1, hlt, by go_num, by omega, rfl, HK2.out, (HO.out.alloc _).drewN _⟩
        case measure => simp [intOf]; omega
      · have HK2 := hide (show keepB ws.length 0 l = false from by rw [← HKP.out, HKD.out, decide_eq_false hok, Bool.false_and])
        by_cases t1 : pa < z
        · have d1 : decide (pa < z) = true := by simp; omega
          clear hok
          go_wp2
          go_quiet (fail)
          go_wp2
          go_ret
          exact ⟨by rw [HK2.out]; rfl, (HO.out.alloc _).drewN _⟩
        · have d1 : decide (pa < z) = false := by simp; omega
          by_cases t2 : (ws.length : Int) ≤ pa
          · have d2 : decide ((ws.length : Int) ≤ pa) = true := by simp; omega
            clear hok t1
            go_wp2
            go_quiet (fail)
            go_wp2
            go_ret
            exact ⟨by rw [HK2.out]; rfl, (HO.out.alloc _).drewN _⟩
          · have d2 : decide ((ws.length : Int) ≤ pa) = false := by simp; omega
            by_cases t3 : pn < 1
            · have d3 : decide (pn < 1) = true := by simp; omega
              clear hok t1 t2
              go_wp2
              go_quiet (fail)
              go_wp2
              go_ret
              exact ⟨by rw [HK2.out]; rfl, (HO.out.alloc _).drewN _⟩
            · have d3 : decide (pn < 1) = false := by simp; omega
              have d4 : decide (512 < pn) = true := by simp; omega
              clear hok t1 t2 t3
              go_wp2
              go_quiet (fail)
              go_wp2
              go_ret
              exact ⟨by rw [HK2.out]; rfl, (HO.out.alloc _).drewN _⟩
    · obtain rfl : k = m := by omega
      have hl : l.drop k = [] := List.drop_eq_nil_of_le (by rw [HT.out.1]; exact Nat.le_refl _)
      have HK2 := hide (show keepB ws.length 0 l = true from by rw [← hkp, hl]; rfl)
      clear ho hkp hl
      go_wp2
      go_ret
      exact ⟨by rw [HK2.out]; rfl, HO.out⟩

omit h in
theorem keep_valid {n : Nat} {l : List (Int × Int)} : ∀ {z : Int}, keepB n z l = true → 0 ≤ z → ∀ (i : Nat) (p : Int × Int), l[i]? = some p → 0 ≤ p.1 ∧ p.1 < n ∧ 1 ≤ p.2 ∧ p.2 ≤ 512 := by
  induction l with
  | nil => intro z _ _ i p hp; simp at hp
  | cons q r ih =>
    intro z hk hz i p hp
    simp only [keepB, Bool.and_eq_true, decide_eq_true_eq] at hk
    obtain ⟨⟨h1, h2, h3, h4⟩, hr⟩ := hk
    cases i with
    | zero => simp at hp; subst hp; exact ⟨by omega, h2, h3, h4⟩
    | succ i => rw [List.getElem?_cons_succ] at hp; exact ih hr (by omega) i p hp

omit h in
/-- What a crash lays down of the write at a place. -/
def crash1 (l : List (Nat × List Int)) (plat : List Int) (p : Int × Int) : List Int :=
  match l[p.1.toNat]? with
  | some x => Go.splice plat (512 * x.1) (x.2.take p.2.toNat)
  | none => plat
omit h in
def crashAll (plat : List Int) (l : List (Nat × List Int)) (t : List (Int × Int)) : List Int := t.foldl (crash1 l) plat
omit h in
theorem crash_snoc (plat : List Int) (ws : List WR) (t : List (Int × Int)) (k : Nat) (p : Int × Int) (hp : t[k]? = some p) (x : WR) (hx : ws[p.1.toNat]? = some x) :
    crashAll plat (ofW ws) (t.take (k + 1)) = Go.splice (crashAll plat (ofW ws) (t.take k)) (512 * x.sec) (x.data.take p.2.toNat) := by
  have hk : k < t.length := (List.getElem?_eq_some_iff.1 hp).1
  rw [List.take_succ_eq_append_getElem hk, crashAll, List.foldl_append, (List.getElem?_eq_some_iff.1 hp).2]
  have e : (ofW ws)[p.1.toNat]? = some (x.sec, x.data) := by simp [ofW, hx]
  simp only [List.foldl_cons, List.foldl_nil, crash1, e]
  rfl

omit h in
def CrashRel (g pb pc mb : Nat) (pr : List Value) (pv : Value) (D : DataW Unit) (N : Nat) (plat : List Int) (ws : List WR) (left rd wt fl : Int) (w0 : World) (m : Nat) (t : List (Int × Int)) (i : Value) (wr : World) : Prop :=
  ∃ k : Nat, k ≤ m ∧ i = .int .i64 k ∧ Only [pb] w0 wr ∧ IsDisk wr g pb pc mb pr pv D N (crashAll plat (ofW ws) (t.take k)) ws left rd wt fl

theorem dcrash_no (A : Option Addr) (m c : Nat) (l : List (Int × Int)) (ht : Torns w A m l) (hm : m ≤ 9223372036854775807) (hk : keepB ws.length 0 l = false) :
    Calls Try.prog 15 #[.pointer (some ⟨g, 0, none⟩), .slice A m c] w fun e w' => e = .returned (.int .i64 1) ∧ Only [] w w' := by
  have HC := hide (dclosed_is h)
  have HK := dkeeps_is h A m c l ht hm
  rw [hk] at HK
  replace HK := hide HK
  clear h ht hk
  go_enter Try.func15, Try.ntmps15
  go_wp2_with (first | (go_at_call 20; refine HC.out.mono ?_; rintro e w' ⟨rfl, rfl⟩) | (go_at_call 39; refine HK.out.mono ?_; rintro e w1 ⟨rfl, ho⟩))
  go_ret
  exact ⟨rfl, ho⟩

set_option maxRecDepth 100000 in
set_option maxHeartbeats 2000000 in
theorem dcrash_yes (A : Option Addr) (m c : Nat) (l : List (Int × Int)) (ht : Torns w A m l) (hm : m ≤ 9223372036854775807) (hk : keepB ws.length 0 l = true) (hx : ∀ x ∈ ws, x.blk ≠ pb) (hA : 0 < m → ∀ b, A = some b → b.block ≠ pb) :
    Calls Try.prog 15 #[.pointer (some ⟨g, 0, none⟩), .slice A m c] w fun e w' => e = .returned (.int .i64 0) ∧ Only [g, pb, mb] w w' ∧ IsDisk w' g pb pc mb pr (.slice none 0 0) (.map []) N (crashAll plat (ofW ws) l) [] (-1) rd wt fl := by
  have HC := hide (dclosed_is h)
  have HK := dkeeps_is h A m c l ht hm
  rw [hk] at HK
  replace HK := hide HK
  have HV := hide (keep_valid hk (Int.le_refl 0))
  have HX := hide hx
  have HT := hide ht
  have HA := hide hA
  obtain ⟨A', cap, rfl, _⟩ := pend_form h
  have HD0 := hide h
  clear h ht hk hx hA
  go_enter Try.func15, Try.ntmps15
  go_wp2_with (first | (go_at_call 20; refine HC.out.mono ?_; rintro e w' ⟨rfl, rfl⟩) | (go_at_call 39; refine HK.out.mono ?_; rintro e w1 ⟨rfl, ho1⟩; have HO1 := hide ho1; clear ho1))
  have HD := hide (HD0.out.only HO1.out (by simp) (by simp))
  obtain ⟨A2, cap2, e2, hp2⟩ := pend_form HD.out
  have hA2 : A' = A2 := by injection e2
  subst hA2
  have HP := hide hp2
  have HPS := hide (pb_ne HD.out)
  clear e2 hp2
  have HT1 := hide (HT.out.only HO1.out (by simp))
  go_loopw [16] (fun i wr => CrashRel g pb pc mb pr (.slice A' ws.length cap) D N plat ws left rd wt fl w1 m l i wr) (fun i _ => m - (intOf i).toNat)
  case atStart => exact ⟨0, Nat.zero_le _, rfl, Only.refl _ _, HD.out⟩
  case round =>
    obtain ⟨k, hk, rfl, ho, hd⟩ := hrel
    have HO := hide ho
    by_cases hlt : k < m
    · obtain ⟨b, o, rfl, hbl, hcs⟩ := HT1.out.2 (by omega)
      obtain ⟨p, hp⟩ : ∃ p, l[k]? = some p := ⟨_, List.getElem?_eq_getElem (by rw [HT1.out.1]; exact hlt)⟩
      obtain ⟨s0, s1⟩ := hcs k p hp
      have hbp := HA.out (by omega) _ rfl
      have e0 := (ho.cell hbl (by simpa using hbp)).trans s0
      have e1 := (ho.cell hbl (by simpa using hbp)).trans s1
      obtain ⟨v1, v2, v3, v4⟩ := HV.out k p hp
      obtain ⟨x, hxk⟩ : ∃ x, ws[p.1.toNat]? = some x := ⟨_, List.getElem?_eq_getElem (by omega)⟩
      have HSN := hide (crash_snoc plat ws l k p hp x hxk)
      obtain ⟨pb2, rfl, hpl, hpc⟩ := HP.out (by omega)
      obtain ⟨q0, q1⟩ := hpc _ x hxk
      have hp2 := HPS.out.2.2 pb2 rfl
      have HQ := hide (fun w' (q : Only [] wr w') => (show w'.cell? ⟨g, 1, none⟩ = some (.slice (some ⟨pb2, 0, none⟩) ws.length cap) ∧ w'.cell? ⟨pb2, p.1.toNat * 2, none⟩ = some (.int .i64 x.sec) ∧ w'.cell? ⟨pb2, p.1.toNat * 2 + 1, none⟩ = some (.slice (some ⟨x.blk, 0, none⟩) 512 (512 + x.rest.length)) from by
        have hall : Only [pb] w1 w' := ho.trans (q.mono (by simp))
        exact ⟨(hd.only q (by simp) (by simp)).c1, (hall.cell hpl (by simpa using hp2)).trans q0, (hall.cell hpl (by simpa using hp2)).trans q1⟩))
      have hmem : x ∈ ws := List.mem_iff_getElem?.2 ⟨_, hxk⟩
      have HDS := hide (fun w' (q : Only [] wr w') => dsector_is (hd.only q (by simp) (by simp)) x.sec (hd.wok x hmem).sec)
      have HCP := hide (fun w' (q : Only [] wr w') => (by
        have hw := (hd.wok x hmem).only q (by simp)
        have hlen : (x.data.take p.2.toNat).length = p.2.toNat := by rw [List.length_take, hw.len]; omega
        obtain ⟨w3, h1, h2, h3⟩ := run_copy_disk (hd.only q (by simp) (by simp)) x.sec hw.sec HX.out p.2.toNat (512 + x.rest.length) (by omega) ⟨x.blk, 0, none⟩ (x.data.take p.2.toNat) hlen (hw.u8.take _) (fun j hj => by
          rw [hlen] at hj
          rw [add_at, Nat.zero_add, hw.row.cell, u8l_get _ _ j (by rw [hw.len]; omega)]
          have := gb_cut x.data 0 p.2.toNat j hj
          rw [List.drop_zero, Nat.zero_add] at this
          rw [this])
        exact ⟨w3, h1, (q.mono (by simp)).trans h2, h3⟩ :
          ∃ w3, (∀ ty, (Builtin.copy_ #[37, 37] ty #[.slice (some ⟨pb, 512 * x.sec, none⟩) 512 512, .slice (some ⟨x.blk, 0, none⟩) p.2.toNat (512 + x.rest.length)]).run Try.prog w' = .ok (goInt (x.data.take p.2.toNat).length) w3) ∧
            Only [pb] wr w3 ∧ IsDisk w3 g pb pc mb pr (.slice (some ⟨pb2, 0, none⟩) ws.length cap) D N (Go.splice (crashAll plat (ofW ws) (l.take k)) (512 * x.sec) (x.data.take p.2.toNat)) ws left rd wt fl))
      clear ho hd hcs s0 s1 hp hbp hxk q0 q1 hpc hpl hp2 hmem
      obtain ⟨pa, pn⟩ := p
      simp only at v1 v2 v3 v4 e0 e1 HQ HCP HSN
      have ho0 : Only [] wr (wr.alloc (.cells #[.int .i64 pa, .int .i64 pn] 52)) := (Only.refl [] _).alloc _
      have HO0 := hide ho0
      have hbv := Blk.new wr 52 #[.int .i64 pa, .int .i64 pn]
      have hlv : wr.heap.size < (wr.alloc (.cells #[.int .i64 pa, .int .i64 pn] 52)).heap.size := by simp
      have HV1 := hide (fun w' (q : Only [] (wr.alloc (.cells #[.int .i64 pa, .int .i64 pn] 52)) w') => (show w'.cell? ⟨wr.heap.size, 0, none⟩ = some (.int .i64 pa) ∧ w'.cell? ⟨wr.heap.size, 1, none⟩ = some (.int .i64 pn) from
        ⟨((hbv.only q (by simp)).cell 0).trans rfl, ((hbv.only q (by simp)).cell 1).trans rfl⟩))
      clear hbv ho0 hlv
      go_wp2_with fail
      revert HO0 HV1
      generalize wr.alloc (.cells #[.int .i64 pa, .int .i64 pn] 52) = W0
      intro HO0 HV1
      have g1 := (HQ.out W0 HO0.out).1
      have g2 := (HQ.out W0 HO0.out).2.1
      have g3 := (HQ.out W0 HO0.out).2.2
      have g4 := (HV1.out W0 (Only.refl _ _)).1
      have k1 := fun o => (HQ.out (W0.alloc o) (HO0.out.alloc o)).1
      have k2 := fun o => (HQ.out (W0.alloc o) (HO0.out.alloc o)).2.1
      have k3 := fun o => (HQ.out (W0.alloc o) (HO0.out.alloc o)).2.2
      have k4 := fun o => (HV1.out (W0.alloc o) ((Only.refl _ _).alloc o)).1
      have hbw := Blk.new W0 64 #[.int .i64 x.sec, .slice (some ⟨x.blk, 0, none⟩) 512 (512 + x.rest.length)]
      have HW1 := hide (fun w' (q : Only [] (W0.alloc (.cells #[.int .i64 x.sec, .slice (some ⟨x.blk, 0, none⟩) 512 (512 + x.rest.length)] 64)) w') => (show w'.cell? ⟨W0.heap.size, 0, none⟩ = some (.int .i64 x.sec) ∧ w'.cell? ⟨W0.heap.size, 1, none⟩ = some (.slice (some ⟨x.blk, 0, none⟩) 512 (512 + x.rest.length)) from
        ⟨((hbw.only q (by simp)).cell 0).trans rfl, ((hbw.only q (by simp)).cell 1).trans rfl⟩))
      clear hbw
      go_region
      clear g1 g2 g3 g4 k1 k2 k3 k4
      have hq1 : Only [] (W0.alloc (.cells #[.int .i64 x.sec, .slice (some ⟨x.blk, 0, none⟩) 512 (512 + x.rest.length)] 64)) (W0.alloc (.cells #[.int .i64 x.sec, .slice (some ⟨x.blk, 0, none⟩) 512 (512 + x.rest.length)] 64)).drew := (Only.refl _ _).drew
      have f0 := (HW1.out _ hq1).1
      have f1 := (HW1.out _ hq1).2
      have HO1b := hide (HO0.out.trans (((Only.refl [] W0).alloc (.cells #[.int .i64 x.sec, .slice (some ⟨x.blk, 0, none⟩) 512 (512 + x.rest.length)] 64)).drew))
      have f2 := (HV1.out _ (((Only.refl [] W0).alloc (.cells #[.int .i64 x.sec, .slice (some ⟨x.blk, 0, none⟩) 512 (512 + x.rest.length)] 64)).drew)).2
      clear hq1
      go_wp2_with fail
      revert f0 f1 HO1b f2
      generalize (W0.alloc (.cells #[.int .i64 x.sec, .slice (some ⟨x.blk, 0, none⟩) 512 (512 + x.rest.length)] 64)).drew = W1
      intro f0 f1 HO1b f2
      have hle0 : 0 ≤ pn := by omega
      have hle2 : pn ≤ 512 + (x.rest.length : Int) := by omega
      go_region_law (first | (refine step_copy_ex rfl _ _ _ _ rfl _ _ rfl rfl _ _ (HCP.out _ (HO1b.out.trans (by repeat (first | exact Only.refl _ _ | apply Only.drew | apply Only.alloc)))) ?_; rintro w3 ⟨ho3, hd3⟩) | (go_simp; go_at_call 26; refine (HDS.out _ (HO1b.out.trans (by repeat (first | exact Only.refl _ _ | apply Only.drew | apply Only.alloc)))).mono ?_; rintro e w' ⟨rfl, rfl⟩))
      all_goals
        have HD3 := hide hd3
        have HO3 := hide ho3
        clear hd3 ho3
        go_wp2
        go_roundw
        case rel => exact ⟨k + 1, hlt, by go_num, HO.out.trans HO3.out, by rw [HSN.out]; exact HD3.out⟩
        case measure => simp [intOf]; omega
    · obtain rfl : k = m := by omega
      have hlw : l.take k = l := List.take_of_length_le (by rw [HT.out.1]; exact Nat.le_refl _)
      rw [hlw] at hd
      have HFG := hide (dforget_is hd)
      have HOO := hide ((HO1.out.mono (S' := [g, pb, mb]) (by simp)).trans (HO.out.mono (by intro k _ hk; simp at hk ⊢; omega)))
      clear hd ho hlw
      go_wp2_with fail
      refine HFG.out.mono ?_
      rintro e w5 ⟨rfl, ho5, hd5⟩
      have hc3 := hd5.c3
      have hf3 := hd5.str.frozen 3
      have ho6 : Only [g] w5 (w5.setCell ⟨g, 3, none⟩ (.int .i64 (-1))) := (Only.refl _ _).setCell _ (by simp)
      have HF5 := hide (And.intro ((ho5.mono (S' := [g, pb, mb]) (by intro k _ hk; simp at hk ⊢; omega)).trans (ho6.mono (by intro k _ hk; simp at hk ⊢; omega))) (hd5.restr (left' := -1) ho6 (hd5.str.set_ 3 _)))
      clear ho5 hd5 ho6
      go_wp2
      go_ret
      exact ⟨rfl, HOO.out.trans HF5.out.1, HF5.out.2⟩
end
end Go.Proofs.Ytpkoihbebhmicaa
