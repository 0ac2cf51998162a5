/-
  Fork of parapet/disk.
-/
import Derived.Test.YtpkoihbebhmicaaDiskCrash
import Derived.Laws.Externs
namespace Go.Proofs.Ytpkoihbebhmicaa
open Go.ChangeShapes Go.WideShapes Go.ChangeAt Go.RowKit Go.Maps
set_option linter.unusedVariables false

theorem slclone_is (w : World) (pv : Value) (n : Nat) (xs : List Value) (hown : w.ownsRow 0 64 2 pv n xs) (hn : n ≤ 4398046511000) (h1 : ∀ u ∈ xs, u.oneCell' = true) :
    Calls Try.prog 22 #[pv] w fun e w' => ∃ v, e = .returned v ∧ w'.ownsRow 0 64 2 v n xs ∧ (∀ k, v.ownBlock = some k → w.heap.size ≤ k) ∧ Only [] w w' := by
  have q22 : ∀ (w : World) (a : Option Addr) (n c n' c' : Nat), (binOp .eql 57 (.slice a n c) (.slice none n' c')).run Try.prog w = .ok (.bool a.isNone) w := fun w a n c n' c' => Lib.run_eql_slice_nil w _ _ a n c n' c' Try.underlying57
  obtain ⟨i0, hi, hz0, hz1, hz2⟩ := info_parts info_write
  have HO := hide hown
  rcases hown.2 with ⟨rfl, rfl⟩ | ⟨k, cap, cur, rfl, _, hg, hnc, hm, hs, ht⟩
  · clear hown
    go_enter Try.func22, Try.ntmps22
    go_wp2
    go_ret
    exact ⟨.slice none 0 0, rfl, HO.out, by simp [Value.ownBlock], Only.refl _ _⟩
  · have HC := hide (fun j u (hu : xs[j]? = some u) => (show w.cell? ⟨k, j, none⟩ = some u from by
      rw [Blk.cell (t := 64) hg]
      have hj : j < xs.length := (List.getElem?_eq_some_iff.1 hu).1
      rw [HO.out.1] at hj
      rw [← ht, List.getElem?_take] at hu
      simpa [hj] using hu))
    have HL := hide HO.out.1
    have HN := hide hn
    clear hown hg hnc hm hs ht hn
    go_enter Try.func22, Try.ntmps22
    go_wp2_with (at_builtin; refine wpList_append_own _ rfl _ _ 57 rfl w.heap.size 64 i0 _ 2 32 Try.underlying57 hi hz0 hz1 hz2 rfl (by decide) _ 0 [] rfl (World.ownsRow_made w #[] 0 (Nat.le_refl _) (Nat.zero_le _) rfl) ⟨k, 0, none⟩ n cap xs rfl HL.out ?qc2 h1 ?qc4 ?qc5 ?qc6 ?_)
    case qc2 =>
      intro j u hj
      rw [add_at, Nat.zero_add]
      exact Lib.cell?_alloc_some _ (HC.out j u hj)
    case qc4 => have := HN.out; unfold maxLen; omega
    case qc5 => have := HN.out; omega
    case qc6 => simp
    intro v' w1 hown1 hgrow hnil
    have HW := hide (show w1.ownsRow 0 64 2 v' n xs ∧ (∀ k, v'.ownBlock = some k → w.heap.size ≤ k) ∧ Only [] w w1 from by
      refine ⟨?_, fun k hk => (hown1.lt k hk).1, Only.of_below (((Below.refl _ w).alloc (Nat.le_refl _) _).grown hgrow (by simp) (by intro k hk; simp [Value.ownBlock] at hk; omega))⟩
      have this : w1.ownsRow w.heap.size 64 2 v' n xs := by simpa using hown1
      obtain ⟨l, r⟩ := this
      refine ⟨l, ?_⟩
      rcases r with r | ⟨a1, a2, a3, a4, a5, a6⟩
      · exact .inl r
      · exact .inr ⟨a1, a2, a3, a4, Nat.zero_le _, a6⟩)
    clear hown1 hgrow hnil q22
    go_wp2
    go_ret
    exact ⟨v', rfl, HW.out.1, HW.out.2.1, HW.out.2.2⟩

theorem run_eql_map (w : World) (p : Option Nat) : (binOp .eql 58 (.map p) (.map none)).run Try.prog w = .ok (.bool p.isNone) w := by
  have hd : ∀ d, (Op.equalIn (d + 1) 58 (.map p) (.map none)).run Try.prog w = .ok p.isNone w := fun d => by
    cases p <;> simp [Op.equalIn, run_underlying Try.underlying58]
  have h := hd 9999
  simp only [binOp]
  simp [show Op.equal 58 (.map p) (.map none) = Op.equalIn (9999 + 1) 58 (.map p) (.map none) from rfl, h]

theorem run_clone_map {w : World} {b : Nat} {es : Array MapEntry} {clock : Nat} (t : TypeId) (hb : w.heap[b]? = some (.map es clock)) :
    (Extern.MapsClone.clone #[.iface t (.map (some b))]).run Try.prog w = .ok (.iface t (.map (some w.heap.size))) (w.alloc (.map es clock)) := by
  have e : Extern.MapsClone.clone #[.iface t (.map (some b))] = (getObj b >>= fun o => match o with
      | .map entries clock => (newObj (.map entries clock) >>= fun n => pure (.iface t (.map (some n))))
      | _ => stuck "maps.clone: a map expected") := rfl
  rw [e]
  simp [MapKept.run_getObj_map hb, Result.andThen, go_sem]

set_option maxHeartbeats 2000000 in
theorem mpclone_is (w : World) (b : Nat) (es : Array MapEntry) (clock : Nat) (hb : w.heap[b]? = some (.map es clock)) : Calls Try.prog 23 #[.map (some b)] w fun e w' => e = .returned (.map (some w.heap.size)) ∧ w' = w.alloc (.map es clock) := by
  have hq := fun w => run_eql_map w (some b)
  have hta : ∀ (w : World) (v : Value), (Instr.typeAssert (.iface 58 v) 20 58 false).run Try.prog w = .ok v w := fun w v => by
    simp [Instr.typeAssert, run_underlying Try.underlying58, go_sem, Result.andThen]
  go_enter Try.func23, Try.ntmps23
  go_wp2
  rw [run_callFunc_extern Try.func40 (by kernel_rfl) (by kernel_rfl) (by kernel_rfl) (e := Extern.MapsClone.clone) (by kernel_rfl), run_clone_map 58 hb]
  simp only [Result.andThen]
  rw [Oper.upon_value]
  go_wp2
  go_ret
  exact ⟨rfl, rfl⟩

section
variable {w : World} {g pb pc mb : Nat} {pr : List Value} {pv : Value} {D : DataW Unit} {N : Nat} {plat : List Int} {ws : List WR} {left rd wt fl : Int} (h : IsDisk w g pb pc mb pr pv D N plat ws left rd wt fl)
include h

omit h in
/-- What a fork gives: another disk that holds the same, whose blocks are new. -/
def Forked (w w' : World) (e : Ending) (D : DataW Unit) (N : Nat) (plat : List Int) (ws : List WR) (left rd wt fl : Int) : Prop :=
  ∃ g pb pc mb pr pv, e = .returned (.pointer (some ⟨g, 0, none⟩)) ∧ (∀ k ∈ foot g pb mb pv, w.heap.size ≤ k) ∧ Only [] w w' ∧ IsDisk w' g pb pc mb pr pv D N plat ws left rd wt fl

omit h in
theorem cells_one (ws : List WR) : ∀ u ∈ ws.flatMap WR.cells, u.oneCell' = true := by
  intro u hu
  obtain ⟨x, _, hx⟩ := List.mem_flatMap.1 hu
  simp only [WR.cells, List.mem_cons, List.not_mem_nil, or_false] at hx
  rcases hx with rfl | rfl <;> rfl

set_option maxRecDepth 100000 in
set_option maxHeartbeats 1000000 in
theorem dfork_is : Calls Try.prog 8 #[.pointer (some ⟨g, 0, none⟩)] w fun e w' => Forked w w' e D N plat ws left rd wt fl := by
  obtain ⟨A, cap, rfl, _⟩ := pend_form h
  have HC := hide (dclosed_is h)
  have c0 := h.c0
  have c1 := h.c1
  have c2 := h.c2
  have c3 := h.c3
  have c4 := h.c4
  have c5 := h.c5
  have c6 := h.c6
  have HD := hide h
  have k0 := fun o => (IsDisk.alloc h o).c0
  have HW := hide (fun w' (q : Only [] w w') => h.only q (by simp) (by simp))
  have hplat := h.len
  clear h
  go_enter Try.func8, Try.ntmps8
  go_wp2_with (go_at_call 20; refine HC.out.mono ?_; rintro e w' ⟨rfl, rfl⟩)
  have HB0 := hide (Blk.new w 60 #[.slice (some ⟨pb, 0, none⟩) (512 * N) pc, .slice A ws.length cap, .map (some mb), .int .i64 left, .int .i64 rd, .int .i64 wt, .int .i64 fl])
  have HQ0 := hide ((Only.refl [] w).alloc (.cells #[.slice (some ⟨pb, 0, none⟩) (512 * N) pc, .slice A ws.length cap, .map (some mb), .int .i64 left, .int .i64 rd, .int .i64 wt, .int .i64 fl] 60))
  have HG0 := hide (show w.heap.size < (w.alloc (.cells #[.slice (some ⟨pb, 0, none⟩) (512 * N) pc, .slice A ws.length cap, .map (some mb), .int .i64 left, .int .i64 rd, .int .i64 wt, .int .i64 fl] 60)).heap.size by simp)
  clear c0 c1 c2 c3 c4 c5 c6 k0
  revert HB0 HQ0 HG0
  generalize w.alloc (.cells #[.slice (some ⟨pb, 0, none⟩) (512 * N) pc, .slice A ws.length cap, .map (some mb), .int .i64 left, .int .i64 rd, .int .i64 wt, .int .i64 fl] 60) = w0
  intro HB0 HQ0 HG0
  refine (clone_ok ⟨pb, 0, none⟩ (512 * N) pc plat w0 hplat (by have := HD.out.big; omega) (fun j hj => by rw [add_at, Nat.zero_add, (HW.out w0 HQ0.out).row.cell]; exact u8l_get _ _ j (by rw [hplat]; exact hj))).mono ?_
  rintro e w1 ⟨v1, rfl, ⟨pb1, pc1, pr1, rfl, hpB, hpk, hpl⟩, ho1⟩
  have HB1 := hide (HB0.out.only ho1 (by simp))
  have b1 := HB1.out.cell 0
  have f1 := HB1.out.frozen 0
  have HQ1 := hide (HQ0.out.trans ho1)
  rw [hplat] at hpl ⊢
  have HG1 := hide (Nat.lt_of_lt_of_le HG0.out ho1.size)
  have hs1 : Only [] w (w1.setCell ⟨w.heap.size, 0, none⟩ (.slice (some ⟨pb1, 0, none⟩) (512 * N) pc1)) := HQ1.out.setCell _ (fun hh => absurd hh (by simp))
  have HI1 := hide (HW.out _ hs1)
  have HS1 := hide hs1
  have c11 := HI1.out.c1
  have HBS1 := hide (HB1.out.set_ 0 (.slice (some ⟨pb1, 0, none⟩) (512 * N) pc1))
  have HPK1 := hide (hpk.far (p := ⟨w.heap.size, 0, none⟩) ((hpk.ne_ HB1.out (by decide))) (.slice (some ⟨pb1, 0, none⟩) (512 * N) pc1))
  have HPB := hide (show w.heap.size ≤ pb1 from Nat.le_trans HQ0.out.size hpB)
  have HPL := hide hpl
  clear ho1 hs1 hpk hpB hpl
  go_wp2_with fail
  revert HI1 HS1 HBS1 HPK1
  generalize w1.setCell ⟨w.heap.size, 0, none⟩ (.slice (some ⟨pb1, 0, none⟩) (512 * N) pc1) = w2
  intro HI1 HS1 HBS1 HPK1
  refine (slclone_is w2 _ ws.length _ HI1.out.own HD.out.few (cells_one ws)).mono ?_
  rintro e w3 ⟨pv3, rfl, hown3, hlo3, ho3⟩
  obtain ⟨A3, cap3, rfl⟩ : ∃ A3 cap3, pv3 = .slice A3 ws.length cap3 := by
    rcases hown3.2 with ⟨e, h0⟩ | ⟨b, cp, cur, e, _⟩
    · exact ⟨none, 0, by rw [e, h0]⟩
    · exact ⟨_, _, e⟩
  have hb3 := HBS1.out.only ho3 (by simp)
  have b3 := hb3.cell 1
  have f3 := hb3.frozen 1
  have hs3 : Only [] w (w3.setCell ⟨w.heap.size, 1, none⟩ (.slice A3 ws.length cap3)) := (HS1.out.trans ho3).setCell _ (fun hh => absurd hh (by simp))
  have HI3 := hide (HW.out _ hs3)
  have HS3 := hide hs3
  have c13 := HI3.out.c2
  have HBS3 := hide (hb3.set_ 1 (.slice A3 ws.length cap3))
  have HOW3 := hide hown3
  have HLO3 := hide (show ∀ k, (Value.slice A3 ws.length cap3).ownBlock = some k → w.heap.size ≤ k from fun k hk => Nat.le_trans HS1.out.size (hlo3 k hk))
  have o33 : Only [w.heap.size] w3 (w3.setCell ⟨w.heap.size, 1, none⟩ (.slice A3 ws.length cap3)) := (Only.refl _ _).setCell _ (by simp)
  have HO33 := hide o33
  have HO23 := hide ho3
  clear hb3 hs3 hown3 hlo3 ho3 o33 c11 b1 f1
  go_wp2_with fail
  obtain ⟨es, clock, hm, hrest⟩ := HI3.out.map
  have HR := hide hrest
  clear hrest b3 f3
  revert HI3 HS3 HBS3 HO33 c13 hm
  generalize w3.setCell ⟨w.heap.size, 1, none⟩ (.slice A3 ws.length cap3) = w4
  intro HI3 HS3 c13 HBS3 HO33 hm
  have b4 := fun o => (HBS3.out.alloc o).cell 2
  have f4 := fun o => (HBS3.out.alloc o).frozen 2
  have HM := hide hm
  clear hm
  refine (mpclone_is w4 mb es clock HM.out).mono ?_
  rintro e w5 ⟨rfl, rfl⟩
  have HBF := hide ((HBS3.out.alloc (.map es clock)).set_ 2 (.map (some w4.heap.size)))
  have HLT := hide HBS3.out.lt
  have hne4 : w.heap.size ≠ w4.heap.size := by have := HLT.out; omega
  have HSF := hide ((HS3.out.alloc (.map es clock)).setCell (p := ⟨w.heap.size, 2, none⟩) (.map (some w4.heap.size)) (fun hh => absurd hh (by simp)))
  have o35 : Only [w.heap.size] w3 ((w4.alloc (.map es clock)).setCell ⟨w.heap.size, 2, none⟩ (.map (some w4.heap.size))) := (HO33.out.alloc _).setCell _ (by simp)
  have H35 := hide o35
  have HNG := hide hne4
  have HMF := hide (show ((w4.alloc (.map es clock)).setCell ⟨w.heap.size, 2, none⟩ (.map (some w4.heap.size))).heap[w4.heap.size]? = some (.map es clock) from (Below.heap_setCell _ _ _ _ (Ne.symm hne4)).trans (heap_alloc_new w4 _))
  clear o35 hne4
  go_wp2_with fail
  revert HBF HSF H35 HMF
  generalize (w4.alloc (.map es clock)).setCell ⟨w.heap.size, 2, none⟩ (.map (some w4.heap.size)) = w6
  intro HBF HSF H35 HMF
  go_ret
  have hgp : pb1 ≠ w.heap.size := HPK1.out.ne_ HBS1.out (by decide)
  have hb3 := HBS1.out.only HO23.out (by simp)
  have hown : w6.ownsRow 0 64 2 (.slice A3 ws.length cap3) ws.length (ws.flatMap WR.cells) := ownsRow_only HOW3.out H35.out (fun k hk hh => by
    rw [List.mem_singleton] at hh
    rcases HOW3.out.2 with ⟨e, _⟩ | ⟨k', cp, cur, e, _, hg, _⟩
    · rw [e] at hk; simp [Value.ownBlock] at hk
    · rw [e] at hk
      simp only [Value.ownBlock, Option.some.injEq] at hk
      exact Blk.ne_ (t := 64) hg hb3 (by decide) (by rw [hk, hh]))
  refine ⟨w.heap.size, pb1, pc1, w4.heap.size, pr1, .slice A3 ws.length cap3, rfl, ?_, HSF.out, ?_⟩
  · intro k hk
    simp only [foot, List.mem_cons] at hk
    rcases hk with rfl | rfl | rfl | hk
    · exact Nat.le_refl _
    · exact HPB.out
    · have := HLT.out; omega
    · refine HLO3.out k ?_
      revert hk
      cases (Value.slice A3 ws.length cap3).ownBlock <;> simp (config := { contextual := true })
  · exact ⟨by simpa using HBF.out, (HPK1.out.only HO23.out (by simp)).only H35.out (by simpa using hgp), HD.out.len, HPL.out, HD.out.pos, HD.out.big, HD.out.u8, hown, fun x hx => (HD.out.wok x hx).only HSF.out (by simp), ⟨es, clock, HMF.out, HR.out⟩, HD.out.last, HD.out.few⟩
end
end Go.Proofs.Ytpkoihbebhmicaa
