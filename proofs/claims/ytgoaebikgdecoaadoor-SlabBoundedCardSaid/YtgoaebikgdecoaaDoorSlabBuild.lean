/-
  Slabs (parapet/slab): build: a slab of the least number that none has.
-/
import Derived.Test.YtgoaebikgdecoaaDoorSlabApp
import Derived.Deep.RegionLaw
namespace Go.Proofs.YtgoaebikgdecoaaDoor
open Go.ChangeShapes Go.WideShapes Go.ChangeAt Go.RowKit Go.Maps
set_option linter.unusedVariables false

def newS (kind : Int) : SL := ⟨kind, 2 ^ (plF kind).toNat - 1⟩
def buildL (ss : List SL) (kind : Int) : List SL := if firstI noK ss < 0 then ss ++ [newS kind] else ss.set (firstI noK ss).toNat (newS kind)
def buildN (ss : List SL) : Nat := if firstI noK ss < 0 then ss.length else (firstI noK ss).toNat
def BuiltH (w : World) (g : Nat) (L : Int) (v : Value) (ss : List SL) (m : Nat) (O : List (Int × Int)) (kind : Int) (e : Ending) (w' : World) : Prop :=
  ∃ v', e = .returned (.int .i64 (buildN ss)) ∧ IsHp w' g L v' (buildL ss kind) m O ∧ Only (g :: v.ownBlock.toList) w w' ∧ (∀ q, v'.ownBlock = some q → v.ownBlock = some q ∨ w.heap.size ≤ q)
section
variable {w w' : World} {g m : Nat} {L : Int} {v : Value} {ss : List SL} {O : List (Int × Int)} {S : List Nat}
theorem IsHp.far (h : IsHp w g L v ss m O) : ∀ q, v.ownBlock = some q → q ≠ g := h.row.apart h.blk (by decide)
theorem IsHp.farM (h : IsHp w g L v ss m O) : ∀ q, v.ownBlock = some q → q ≠ m := by
  rintro q hq rfl
  obtain ⟨D, ho, _⟩ := h.own
  obtain ⟨es, clock, hb, _⟩ := ho
  rcases h.row.2 with ⟨e', h0⟩ | ⟨b, cap, cur, e', hB, hg, _⟩
  · rw [e'] at hq; simp [Value.ownBlock] at hq
  · rw [e'] at hq
    simp only [Value.ownBlock, Option.some.injEq] at hq
    subst hq
    rw [hg] at hb
    cases hb
theorem IsHp.gm (h : IsHp w g L v ss m O) : g ≠ m := by
  rintro rfl
  obtain ⟨D, ho, _⟩ := h.own
  obtain ⟨es, clock, hb, _⟩ := ho
  have hb2 := h.blk
  unfold Blk at hb2
  rw [hb2] at hb
  cases hb
theorem IsHp.ownLt (h : IsHp w g L v ss m O) : ∀ q, v.ownBlock = some q → q < w.heap.size := fun q hq => (h.row.at_ hq).1
/-- A slab's two cells are written. -/
theorem IsHp.putS (h : IsHp w g L v ss m O) {A : Option Addr} {n cap : Nat} (hv : v = .slice A n cap) {b : Nat} {o : Nat} (hA : A = some ⟨b, o, none⟩) {i : Nat} {s s' : SL} (hs : ss[i]? = some s) :
    IsHp ((w.setCell ⟨b, i * 2, none⟩ (.int .i64 s'.kind)).setCell ⟨b, i * 2 + 1, none⟩ (.int .u64 s'.free)) g L v (ss.set i s') m O := by
  have hob : v.ownBlock = some b := by
    have hi := (List.getElem?_eq_some_iff.1 hs).1
    obtain ⟨b', cap', cur, e, _⟩ := h.row.blk (by omega)
    rw [hv, hA] at e
    injection e with e
    injection e with e
    injection e with e
    rw [hv, hA, e]
    rfl
  have hi := (List.getElem?_eq_some_iff.1 hs).1
  have h1 := h.row.put hv hA (k := 0) (s' := { s with kind := s'.kind }) (u := .int .i64 s'.kind) (by decide) hs rfl
  have hs1 : (ss.set i { s with kind := s'.kind })[i]? = some { s with kind := s'.kind } := by simp [hi]
  have h2 := h1.put hv hA (k := 1) (s' := s') (u := .int .u64 s'.free) (by decide) hs1 rfl
  rw [List.set_set] at h2
  have ho : Only [b] w ((w.setCell ⟨b, i * 2, none⟩ (.int .i64 s'.kind)).setCell ⟨b, i * 2 + 1, none⟩ (.int .u64 s'.free)) := ((Only.refl [b] w).setCell _ (by simp)).setCell _ (by simp)
  obtain ⟨D, hD1, hD2⟩ := h.own
  exact ⟨h.blk.only ho (by simpa using fun e => h.far b hob e.symm), h2, D, ownsMap_only8 hD1 ho (by simpa using fun e => h.farM b hob e.symm), hD2⟩
theorem LRw.seat (h : LRw w v ss) {A : Option Addr} {n cap : Nat} (hv : v = .slice A n cap) {b : Nat} {o : Nat} (hA : A = some ⟨b, o, none⟩) {i : Nat} {s : SL} (hs : ss[i]? = some s) :
    w.cell? ⟨b, i * 2, none⟩ = some (.int .i64 s.kind) ∧ w.cell? ⟨b, i * 2 + 1, none⟩ = some (.int .u64 s.free) ∧ w.frozen? ⟨b, i * 2, none⟩ = false ∧ w.frozen? ⟨b, i * 2 + 1, none⟩ = false := by
  have hi := (List.getElem?_eq_some_iff.1 hs).1
  have hc := h.cell hv hA hs
  obtain ⟨b', cap', cur, e, hb, _⟩ := h.blk (by omega)
  rw [hv, hA] at e
  injection e with e
  injection e with e
  injection e with e
  subst e
  exact ⟨hc.1, hc.2, hb.frozen _, hb.frozen _⟩
/-- The row is another one. -/
theorem IsHp.setV (h : IsHp w g L v ss m O) {w1 : World} {v' : Value} {ss' : List SL} (hr : LRw w1 v' ss') (ho : Only v.ownBlock.toList w w1) : IsHp (w1.setCell ⟨g, 1, none⟩ v') g L v' ss' m O := by
  have hb := h.blk.only ho (by simpa using fun e => h.far g e rfl)
  have h1 := hb.set_ 1 v'
  have h2 : Only [g] w1 (w1.setCell ⟨g, 1, none⟩ v') := (Only.refl [g] w1).setCell _ (by simp)
  obtain ⟨D, hD1, hD2⟩ := h.own
  refine ⟨h1, hr.only h2 (fun q hq => by have := hr.apart hb (by decide) q hq; simpa using this), D, ownsMap_only8 (ownsMap_only8 hD1 ho (by simpa using fun e => h.farM m e rfl)) h2 (by simpa using h.gm.symm), hD2⟩

theorem newS_wrap (kind : Int) : IntKind.u64.wrap (IntKind.u64.wrap (2 ^ (plF kind).toNat) - 1) = ((newS kind).free : Int) := by
  unfold newS
  have h : plF kind = 0 ∨ plF kind = 8 ∨ plF kind = 16 ∨ plF kind = 32 ∨ plF kind = 64 ∨ plF kind = 3 := by
    by_cases h : plF kind = 0
    · exact .inl h
    · exact .inr (plF_vals kind h)
  rcases h with e | e | e | e | e | e <;> simp only [e] <;> decide
theorem hbuild_old (h : IsHp w g L v ss m O) (hO : OkH L ss O) (hT : TabS w) (kind : Int) {i : Nat} {s : SL} (hs : ss[i]? = some s) (hn : firstI noK ss = i) :
    Calls Tryd.prog 32 #[.pointer (some ⟨g, 0, none⟩), .int .i64 kind] w fun e w' => BuiltH w g L v ss m O kind e w' := by
  have c1 : w.cell? ⟨g, 1, none⟩ = some v := h.blk.cell 1
  have hi := (List.getElem?_eq_some_iff.1 hs).1
  have HI := hide (idxBuild_is h.row (by have := hO.few; omega))
  have HH := hide h
  have hgl : g < w.heap.size := Blk.lt h.blk
  have HF := hide (fun (wA : World) (kA : Only [] w wA) => (kA.cell hgl (by simp)).trans c1)
  have HP := hide (fun (wA : World) (kA : Only [] w wA) => hplaces_is (hT.only kA (by simp)) kind)
  have hp := plF_le kind
  have HR := hide h.row
  obtain ⟨A, cap, rfl, hA⟩ := h.row.form
  obtain ⟨b, rfl, hbl⟩ := hA (by omega)
  have HS := hide hs
  have HQ := hide (fun (wA : World) (kA : Only [] w wA) => (HR.out.only kA (by simp)).seat rfl rfl hs)
  have HBN := hide (show buildN ss = i by unfold buildN; rw [hn, if_neg (by omega)]; simp)
  have HBL := hide (show buildL ss kind = ss.set i (newS kind) by unfold buildL; rw [hn, if_neg (by omega)]; simp)
  have hnw := newS_wrap kind
  rw [hn] at HI
  have hnn : ¬ ((i : Int) < 0) := by omega
  have hil : (i : Int) < ss.length := by omega
  clear h hO hT hA hs hn
  go_enter Tryd.func32, Tryd.ntmps32
  go_wp2_with (go_at_call 29; refine HI.out.mono ?_; rintro e w1 ⟨rfl, ho⟩; have c2 := HF.out _ ho; obtain ⟨q0, q1, z0, z1⟩ := HQ.out _ ho; have HW := hide ho; clear ho)
  go_region_law (first | (go_simp; go_at_call 45; refine (HP.out _ (by repeat (first | exact HW.out | apply Only.drew | apply Only.drewN))).mono ?_; rintro e w2 ⟨rfl, rfl⟩))
  all_goals
    have HW2 := HW.out
    clear c2 q0 q1 z0 z1
    go_wp2
    go_ret
    refine ⟨_, by rw [HBN.out]; rfl, ?_, ?_, fun q hq => .inl hq⟩
    · have h1 := (HH.out.only HW2 (by simp) (by simp) (by simp)).putS rfl rfl (s' := newS kind) HS.out
      rw [HBL.out]
      exact ⟨h1.blk, h1.row, h1.own⟩
    · exact ((((HW2.mono (by simp)).setCell (p := ⟨b, i * 2, none⟩) _ (by simp [Value.ownBlock])).setCell (p := ⟨b, i * 2 + 1, none⟩) _ (by simp [Value.ownBlock])).drew)

theorem one_slab (w : World) : SlabsAt (w.alloc (.cells #[.int .i64 0, .int .u64 0] 62)) (.slice (some ⟨w.heap.size, 0, none⟩) 1 1) [⟨0, 0⟩] := by
  refine .inr ⟨w.heap.size, 0, 1, rfl, fun _ => by simp, fun j u hu => ?_⟩
  have hb := Blk.new w 62 #[.int .i64 0, .int .u64 0]
  rw [Nat.zero_add, hb.cell]
  rw [show flatL [⟨0, 0⟩] = [Value.int .i64 0, .int .u64 0] from rfl] at hu
  rw [← hu]
  simp
set_option maxRecDepth 100000 in
set_option maxHeartbeats 1500000 in
theorem hbuild_new (h : IsHp w g L v ss m O) (hO : OkH L ss O) (hT : TabS w) (hlow : ∀ q ∈ g :: v.ownBlock.toList, 2 ≤ q) (kind : Int) (hn : firstI noK ss = -1) :
    Calls Tryd.prog 32 #[.pointer (some ⟨g, 0, none⟩), .int .i64 kind] w fun e w' => BuiltH w g L v ss m O kind e w' := by
  have c1 : w.cell? ⟨g, 1, none⟩ = some v := h.blk.cell 1
  have HI := hide (idxBuild_is h.row (by have := hO.few; omega))
  have HH := hide h
  have hgl : g < w.heap.size := Blk.lt h.blk
  have HF := hide (fun (wA : World) (kA : Only [] w wA) => (kA.cell hgl (by simp)).trans c1)
  have HP := hide (fun (wA : World) (kA : Only (g :: v.ownBlock.toList) w wA) => hplaces_is (hT.only (S := g :: v.ownBlock.toList) kA hlow) kind)
  have hp := plF_le kind
  have HR := hide h.row
  have HFW := hide hO.few
  have HZ := hide (fun (wA : World) (kA : Only v.ownBlock.toList w wA) => h.blk.only kA (by simpa using fun e => h.far g e rfl))
  have HO := hide (fun (w1 w2 : World) (k1 : Only [] w w1) (k2 : Only v.ownBlock.toList (w1.alloc (.cells #[.int .i64 0, .int .u64 0] 62)) w2) => (show Only v.ownBlock.toList w w2 ∧ w2.frozen? ⟨g, 1, none⟩ = false ∧ w2.cell? ⟨g, 1, none⟩ = some v from
    have k3 : Only v.ownBlock.toList w w2 := ((k1.alloc _).mono (by simp)).trans k2
    ⟨k3, (HZ.out _ k3).frozen 1, (HZ.out _ k3).cell 1⟩))
  have HR1 := hide (fun (w1 : World) (k1 : Only [] w w1) => h.row.only (k1.alloc (.cells #[.int .i64 0, .int .u64 0] 62)) (by simp))
  have HBG := hide (show ss.length + [(⟨0, 0⟩ : SL)].length < 1000000 by have := HFW.out; simp; omega)
  obtain ⟨A, cap, rfl, hA⟩ := h.row.form
  have HBN := hide (show buildN ss = ss.length by unfold buildN; rw [hn, if_pos (by decide)])
  have HBL := hide (show buildL ss kind = ss ++ [newS kind] by unfold buildL; rw [hn, if_pos (by decide)])
  have hnw := newS_wrap kind
  rw [hn] at HI
  clear h hO hT hA hn
  go_enter Tryd.func32, Tryd.ntmps32
  go_wp2_with (first | (go_at_call 29; refine HI.out.mono ?_; rintro e w1 ⟨rfl, ho⟩; have c2 := HF.out _ ho; have HW := hide ho; clear ho) | (at_builtin; refine wpList_append_slabs (v := .slice A ss.length cap) (zs := [⟨0, 0⟩]) rfl _ _ rfl rfl (HR1.out _ HW.out) rfl (one_slab _) HBG.out ?_; rintro v2 w2 hr ho2 hk2 ⟨A2, cap2, rfl⟩; obtain ⟨o2, zg, cg⟩ := HO.out _ _ HW.out ho2; have HO2 := hide o2; have HR2 := hide hr; have HK2 := hide hk2; clear hr ho2 hk2 o2))
  have hlen : (ss ++ [(⟨0, 0⟩ : SL)]).length = ss.length + 1 := by simp
  have hR2 := HR2.out
  have hK2 := HK2.out
  rw [hlen] at hR2 hK2
  have H3 := HH.out.setV hR2 HO2.out
  have HOW := hide (show ∀ q, (Value.slice A2 (ss.length + 1) cap2).ownBlock = some q → (Value.slice A ss.length cap).ownBlock = some q ∨ w.heap.size ≤ q from fun q hq => by
    rcases hK2 q hq with h | h
    · exact .inl h
    · have := HW.out.size
      simp at h
      exact .inr (by omega))
  obtain ⟨A3, cap3, e3, hA3⟩ := hR2.form
  have e4 : A2 = A3 := by injection e3
  subst e4
  clear e3
  obtain ⟨b2, rfl, hbl2⟩ := hA3 (by simp)
  have hs3 : (ss ++ [(⟨0, 0⟩ : SL)])[ss.length]? = some ⟨0, 0⟩ := by simp
  have O3 : Only (g :: (Value.slice A ss.length cap).ownBlock.toList) w (w2.setCell ⟨g, 1, none⟩ (.slice (some ⟨b2, 0, none⟩) (ss.length + 1) cap2)) := (HO2.out.mono (fun q _ hq => List.mem_cons_of_mem _ hq)).setCell _ (by simp)
  clear hR2 hK2 HR2 HK2 HO2 zg cg hA3 hbl2
  revert H3 O3
  generalize (w2.setCell ⟨g, 1, none⟩ (.slice (some ⟨b2, 0, none⟩) (ss.length + 1) cap2)) = w3
  intro H3 O3
  obtain ⟨q0, q1, z0, z1⟩ := H3.row.seat rfl rfl hs3
  have c3 : w3.cell? ⟨g, 1, none⟩ = some (.slice (some ⟨b2, 0, none⟩) (ss.length + 1) cap2) := H3.blk.cell 1
  have HH3 := hide H3
  have HO3 := hide O3
  have HS3 := hide hs3
  clear H3 O3 hs3 c1 hlen HI HR1 HO HF c2 HBG
  obtain ⟨k, hk⟩ : ∃ k : Nat, ss.length = k := ⟨_, rfl⟩
  have hnum : (k : Int) < (ss.length : Int) + 1 := by omega
  have HKK := hide hk
  rw [show (Value.int .i64 (ss.length : Int)) = .int .i64 (k : Int) by rw [hk]]
  rw [hk] at q0 q1 z0 z1
  clear hk
  go_wp2_with fail
  go_region_law (first | (go_simp; go_at_call 45; refine (HP.out _ (by repeat (first | exact HO3.out | apply Only.drew | apply Only.drewN))).mono ?_; rintro e w5 ⟨rfl, rfl⟩))
  all_goals
    have hs3k : (ss ++ [(⟨0, 0⟩ : SL)])[k]? = some ⟨0, 0⟩ := by rw [← HKK.out]; exact HS3.out
    have hset : (ss ++ [(⟨0, 0⟩ : SL)]).set k (newS kind) = ss ++ [newS kind] := by rw [← HKK.out]; simp
    clear q0 q1 z0 z1 c3 hnum
    go_wp2
    go_ret
    refine ⟨.slice (some ⟨b2, 0, none⟩) (ss.length + 1) cap2, by rw [HBN.out, HKK.out]; rfl, ?_, ?_, HOW.out⟩
    · have h1 := HH3.out.putS rfl rfl (s' := newS kind) hs3k
      rw [hset] at h1
      rw [HBL.out]
      exact ⟨h1.blk, h1.row, h1.own⟩
    · exact HO3.out.trans' ((((Only.refl [b2] w3).setCell (p := ⟨b2, k * 2, none⟩) _ (by simp)).setCell (p := ⟨b2, k * 2 + 1, none⟩) _ (by simp)).drew) (fun q h1 h2 => by
        have h3 : q = b2 := by simpa using h2
        rcases HOW.out b2 rfl with h | h
        · rw [h3]; simp [h]
        · omega)
end
end Go.Proofs.YtgoaebikgdecoaaDoor
