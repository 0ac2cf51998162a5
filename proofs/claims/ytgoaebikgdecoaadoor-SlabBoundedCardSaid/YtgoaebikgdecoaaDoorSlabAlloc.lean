/-
  Slabs (parapet/slab): Alloc.
-/
import Derived.Test.YtgoaebikgdecoaaDoorSlabPure
import Derived.RegionTactic
namespace Go.Proofs.YtgoaebikgdecoaaDoor
open Go.ChangeShapes Go.WideShapes Go.ChangeAt Go.RowKit Go.Maps
set_option linter.unusedVariables false

theorem nodup_len : ∀ (n : Nat) (L : List Int), L.Nodup → (∀ x ∈ L, 0 ≤ x ∧ x < n) → L.length ≤ n
  | 0, L, _, h => by
    cases L with
    | nil => simp
    | cons x r => have := h x (by simp); omega
  | n + 1, L, hd, h => by
    by_cases hm : (n : Int) ∈ L
    · have h1 := nodup_len n (L.erase (n : Int)) (hd.erase _) fun x hx => by
        obtain ⟨hne, hx⟩ := (hd.mem_erase_iff).1 hx
        have := h x hx
        omega
      have h2 := List.length_erase_of_mem hm
      have h3 := List.length_pos_of_mem hm
      omega
    · have h1 := nodup_len n L hd fun x hx => by
        have := h x hx
        have hne : x ≠ (n : Int) := fun e => hm (e ▸ hx)
        omega
      omega
theorem OkH.olen {L : Int} {ss : List SL} {O : List (Int × Int)} (h : OkH L ss O) (hd : (O.map (·.1)).Nodup) : O.length ≤ 32768 := by
  have := nodup_len 32768 (O.map (·.1)) hd fun x hx => by
    obtain ⟨n, s, p, h1, h2, _, _, h5⟩ := liveAt_low ((h.keys x).1 hx)
    have := (List.getElem?_eq_some_iff.1 h1).1
    have := h.few
    omega
  simpa using this
theorem iW_of {x : Int} (h0 : 0 ≤ x) (h1 : x ≤ 32768) : iW x := by
  have e1 : IntKind.i64.min = -9223372036854775808 := by decide
  have e2 : IntKind.i64.max = 9223372036854775807 := by decide
  simp only [iW, Lit.wf, e1, e2, Bool.and_eq_true, decide_eq_true_eq]
  omega
def tupA (a b : Int) : Value := .tuple #[.int .i64 a, .int .i64 b]
def AllocH (w : World) (g : Nat) (L : Int) (v : Value) (m : Nat) (O : List (Int × Int)) (owner : Int) (ss1 : List SL) (n : Nat) (s1 : SL) (e : Ending) (w' : World) : Prop :=
  ∃ v', e = .returned (tupA ((n : Int) * 64 + (Lib.ctz 64 s1.free : Nat)) 0) ∧ IsHp w' g L v' (ss1.set n (takeS s1)) m (O ++ [((n : Int) * 64 + (Lib.ctz 64 s1.free : Nat), owner)]) ∧ Only (g :: m :: v.ownBlock.toList) w w' ∧ (∀ q, v'.ownBlock = some q → v.ownBlock = some q ∨ w.heap.size ≤ q)
section
variable {w w' : World} {g m : Nat} {L : Int} {v : Value} {ss : List SL} {O : List (Int × Int)} {S : List Nat}
theorem hAlloc_kind (h : IsHp w g L v ss m O) (hT : TabS w) (kind owner : Int) (hk : szF kind = 0) :
    Calls Tryd.prog 11 #[.pointer (some ⟨g, 0, none⟩), .int .i64 kind, .int .i64 owner] w fun e w' => e = .returned (tupA 0 80) ∧ Only [] w w' := by
  have HC := hide (fun o => hclosed_is (h.alloc o))
  have HZ := hide (fun o => hSize_is (hT.only ((Only.refl [] w).alloc o) (by simp)) kind)
  rw [hk] at HZ
  have HO := hide (fun o => (Only.refl [] w).alloc o)
  clear h hT
  go_enter Tryd.func11, Tryd.ntmps11
  go_wp2_with (first | (go_at_call 26; refine (HC.out _).mono ?_; rintro e w' ⟨rfl, rfl⟩) | (go_at_call 16; refine (HZ.out _).mono ?_; rintro e w' ⟨rfl, rfl⟩))
  go_ret2
  exact ⟨rfl, HO.out _⟩
theorem hAlloc_full (h : IsHp w g L v ss m O) (hO : OkH L ss O) (hT : TabS w) (kind owner : Int) (hk : szF kind ≠ 0) (hn : firstI (hasK kind) ss = -1) (hm : moreF L ss = 0) :
    Calls Tryd.prog 11 #[.pointer (some ⟨g, 0, none⟩), .int .i64 kind, .int .i64 owner] w fun e w' => e = .returned (tupA 0 2) ∧ Only [] w w' := by
  have HC := hide (fun o => hclosed_is (h.alloc o))
  have HZ := hide (fun o => hSize_is (hT.only ((Only.refl [] w).alloc o) (by simp)) kind)
  have hkb : (szF kind == 0) = false := beq_eq_false_iff_ne.2 hk
  have hb : (w.alloc (.cells #[.int .i64 kind] 3)).cell? ⟨w.heap.size, 0, none⟩ = some (.int .i64 kind) := (Blk.new w 3 #[.int .i64 kind]).cell 0
  have HI := hide (idxAlloc_is (h.alloc (.cells #[.int .i64 kind] 3)).row (by have := hO.few; omega) kind w.heap.size hb)
  rw [hn] at HI
  have HM := hide (fun (wA : World) (kA : Only [] w wA) => hmore_is (h.only kA (by simp) (by simp) (by simp)) hO)
  rw [hm] at HM
  have HO := hide (fun o => (Only.refl [] w).alloc o)
  have hc1 : ∀ o, (w.alloc o).cell? ⟨g, 1, none⟩ = some v := fun o => (h.alloc o).blk.cell 1
  have hmf : ∀ (fn : Fn) (first cap : Array Value) (w : World), (Instr.makeFunc fn first cap).run Tryd.prog w = .ok (.func fn first cap) w := fun _ _ _ _ => rfl
  obtain ⟨A, cap, rfl, _⟩ := h.row.form
  clear h hT hO hb
  go_enter Tryd.func11, Tryd.ntmps11
  go_wp2_with (first | (go_at_call 26; refine (HC.out _).mono ?_; rintro e w' ⟨rfl, rfl⟩) | (go_at_call 16; refine (HZ.out _).mono ?_; rintro e w' ⟨rfl, rfl⟩) | (go_at_call 29; refine HI.out.mono ?_; rintro e w1 ⟨rfl, ho⟩; have HW := hide ((HO.out _).trans ho); clear ho) | (go_at_call 31; refine (HM.out _ HW.out).mono ?_; rintro e w2 ⟨rfl, ho⟩; have HW2 := hide (HW.out.trans ho); clear ho))
  go_ret2
  exact ⟨rfl, HW2.out⟩

/-- A slab's places are written. -/
theorem IsHp.putF (h : IsHp w g L v ss m O) {A : Option Addr} {n cap : Nat} (hv : v = .slice A n cap) {b : Nat} {o : Nat} (hA : A = some ⟨b, o, none⟩) {i : Nat} {s : SL} (hs : ss[i]? = some s) (f : Nat) :
    IsHp (w.setCell ⟨b, i * 2 + 1, none⟩ (.int .u64 f)) g L v (ss.set i { s with free := f }) m O ∧ v.ownBlock = some b := by
  have hob : v.ownBlock = some b := by
    have hi := (List.getElem?_eq_some_iff.1 hs).1
    obtain ⟨b', cap', cur, e, _⟩ := h.row.blk (by omega)
    rw [hv, hA] at e
    injection e with e
    injection e with e
    injection e with e
    rw [hv, hA, e]
    rfl
  have h2 := h.row.put hv hA (k := 1) (s' := { s with free := f }) (u := .int .u64 f) (by decide) hs rfl
  have ho : Only [b] w (w.setCell ⟨b, i * 2 + 1, none⟩ (.int .u64 f)) := (Only.refl [b] w).setCell _ (by simp)
  obtain ⟨D, hD1, hD2⟩ := h.own
  exact ⟨⟨h.blk.only ho (by simpa using fun e => h.far b hob e.symm), h2, D, ownsMap_only8 hD1 ho (by simpa using fun e => h.farM b hob e.symm), hD2⟩, hob⟩
set_option maxRecDepth 100000 in
set_option maxHeartbeats 1500000 in
theorem hAlloc_found (h : IsHp w g L v ss m O) (hO : OkH L ss O) (hT : TabS w) (kind owner : Int) (how : iW owner) (hk : szF kind ≠ 0) {i : Nat} {s : SL} (hs : ss[i]? = some s) (hf0 : s.free ≠ 0) (hn : firstI (hasK kind) ss = i) :
    Calls Tryd.prog 11 #[.pointer (some ⟨g, 0, none⟩), .int .i64 kind, .int .i64 owner] w fun e w' => AllocH w g L v m O owner ss i s e w' := by
  have HC := hide (fun o => hclosed_is (h.alloc o))
  have HZ := hide (fun o => hSize_is (hT.only ((Only.refl [] w).alloc o) (by simp)) kind)
  have hkb : (szF kind == 0) = false := beq_eq_false_iff_ne.2 hk
  have hb : (w.alloc (.cells #[.int .i64 kind] 3)).cell? ⟨w.heap.size, 0, none⟩ = some (.int .i64 kind) := (Blk.new w 3 #[.int .i64 kind]).cell 0
  have HI := hide (idxAlloc_is (h.alloc (.cells #[.int .i64 kind] 3)).row (by have := hO.few; omega) kind w.heap.size hb)
  rw [hn] at HI
  have HO := hide (fun o => (Only.refl [] w).alloc o)
  have hc1 : ∀ o, (w.alloc o).cell? ⟨g, 1, none⟩ = some v := fun o => (h.alloc o).blk.cell 1
  have hmf : ∀ (fn : Fn) (first cap : Array Value) (w : World), (Instr.makeFunc fn first cap).run Tryd.prog w = .ok (.func fn first cap) w := fun _ _ _ _ => rfl
  have hok := hO.good s (List.mem_of_getElem? hs)
  obtain ⟨hp64, _, _⟩ := ctz_spec hf0 hok.lt
  have hil : i < ss.length := (List.getElem?_eq_some_iff.1 hs).1
  have hi512 : i < 512 := by have := hO.few; omega
  obtain ⟨A, cap, rfl, hA⟩ := h.row.form
  obtain ⟨b, rfl, hbl⟩ := hA (by omega)
  have HQ := hide (fun (wA : World) (kA : Only [] w wA) => (h.only kA (by simp) (by simp) (by simp)))
  have HTZ := hide (fun (wA : World) (kA : Only [] w wA) => tz64_is (hT.only kA (by simp)) s.free hok.lt hf0)
  have hcl := andNot_clr s.free (Lib.ctz 64 s.free) hok.lt hp64
  have HFR := hide (hO.fresh hs hf0)
  have HOL := hide (fun D (hD : MHolds encI D O) => hO.olen hD.nd)
  have HS := hide hs
  have hnn : ¬ ((i : Int) < 0) := by omega
  have hilI : (i : Int) < ss.length := by omega
  have e1 : IntKind.i64.wrap ((i : Int) * 64) = (i : Int) * 64 := by rw [IntKind.wrap_i64]; omega
  have e2 : IntKind.i64.wrap ((i : Int) * 64 + (Lib.ctz 64 s.free : Nat)) = (i : Int) * 64 + (Lib.ctz 64 s.free : Nat) := by rw [IntKind.wrap_i64]; omega
  have HID := hide (iW_of (x := (i : Int) * 64 + (Lib.ctz 64 s.free : Nat)) (by omega) (by omega))
  clear h hT hO hb hok hA hs
  go_enter Tryd.func11, Tryd.ntmps11
  go_wp2_with (first | (go_at_call 26; refine (HC.out _).mono ?_; rintro e w' ⟨rfl, rfl⟩) | (go_at_call 16; refine (HZ.out _).mono ?_; rintro e w' ⟨rfl, rfl⟩) | (go_at_call 29; refine HI.out.mono ?_; rintro e w1 ⟨rfl, ho⟩; have H1 := HQ.out _ ((HO.out _).trans ho); obtain ⟨q0, q1, z0, z1⟩ := H1.row.seat rfl rfl HS.out; have c1 := H1.blk.cell 1; have c2 := H1.blk.cell 2; have HH1 := hide H1; have HW := hide ((HO.out _).trans ho); clear ho H1) | (go_at_call 33; refine (HTZ.out _ HW.out).mono ?_; rintro e w2 ⟨rfl, rfl⟩))
  go_region
  obtain ⟨h3, hob⟩ := HH1.out.putF rfl rfl HS.out (clrB s.free (Lib.ctz 64 s.free))
  have H3 : IsHp ((w1.setCell ⟨b, i * 2 + 1, none⟩ (.int .u64 (clrB s.free (Lib.ctz 64 s.free) : Nat))).drew) g L (.slice (some ⟨b, 0, none⟩) ss.length cap) (ss.set i (takeS s)) m O := ⟨h3.blk, h3.row, h3.own⟩
  have O3 : Only [b] w1 ((w1.setCell ⟨b, i * 2 + 1, none⟩ (.int .u64 (clrB s.free (Lib.ctz 64 s.free) : Nat))).drew) := ((Only.refl [b] w1).setCell _ (by simp)).drew
  clear h3 q0 q1 z0 z1 c1 c2
  revert H3 O3
  generalize ((w1.setCell ⟨b, i * 2 + 1, none⟩ (.int .u64 (clrB s.free (Lib.ctz 64 s.free) : Nat))).drew) = w3
  intro H3 O3
  obtain ⟨D, hD1, hD2⟩ := H3.own
  obtain ⟨w4, hrun, hown, honly⟩ := storeI_new hD2 hD1 (Nat.lt_of_le_of_lt (HOL.out _ hD2) (by decide)) HID.out HFR.out how
  have c3 : w3.cell? ⟨g, 2, none⟩ = some (.map (some m)) := H3.blk.cell 2
  have HF := hide (show IsHp w4 g L (.slice (some ⟨b, 0, none⟩) ss.length cap) (ss.set i (takeS s)) m (O ++ [((i : Int) * 64 + (Lib.ctz 64 s.free : Nat), owner)]) from
    ⟨H3.blk.only honly (by simpa using H3.gm), H3.row.only honly (fun q hq => by simpa using H3.farM q hq), _, hown, hD2.new HID.out HFR.out⟩)
  have HO4 := hide (show Only (g :: m :: (Value.slice (some ⟨b, 0, none⟩) ss.length cap).ownBlock.toList) w w4 from
    ((HW.out.mono (by simp)).trans (O3.mono (fun q _ hq => by simp at hq; subst hq; simp [Value.ownBlock]))).trans (honly.mono (fun q _ hq => by simp at hq; subst hq; simp)))
  clear H3 O3 hD1 hD2 hown honly hcl hob
  go_wp2
  go_ret2
  exact ⟨_, rfl, HF.out, HO4.out, fun q hq => .inl hq⟩
theorem hbuild_is (h : IsHp w g L v ss m O) (hO : OkH L ss O) (hT : TabS w) (hlow : ∀ q ∈ g :: v.ownBlock.toList, 2 ≤ q) (kind : Int) :
    Calls Tryd.prog 32 #[.pointer (some ⟨g, 0, none⟩), .int .i64 kind] w fun e w' => BuiltH w g L v ss m O kind e w' := by
  rcases firstI_cases noK ss with ⟨e, hno⟩ | ⟨i, s, hs, hp, e, _⟩
  · exact hbuild_new h hO hT hlow kind e
  · exact hbuild_old h hO hT kind hs e
theorem newS_pos {kind : Int} (hk : szF kind ≠ 0) : (newS kind).free ≠ 0 := by
  have hp : plF kind ≠ 0 := by
    have := szF_vals kind hk
    unfold plF
    rw [if_neg hk]
    rcases this with e | e | e | e | e <;> rw [e] <;> decide
  rcases plF_vals kind hp with e | e | e | e | e <;> (unfold newS; simp only [e]; decide)
set_option maxRecDepth 100000 in
set_option maxHeartbeats 1500000 in
theorem hAlloc_built (h : IsHp w g L v ss m O) (hO : OkH L ss O) (hT : TabS w) (hlow : ∀ q ∈ g :: v.ownBlock.toList, 2 ≤ q) (kind owner : Int) (how : iW owner) (hk : szF kind ≠ 0) (hn : firstI (hasK kind) ss = -1) (hm : moreF L ss ≠ 0) :
    Calls Tryd.prog 11 #[.pointer (some ⟨g, 0, none⟩), .int .i64 kind, .int .i64 owner] w fun e w' => AllocH w g L v m O owner (buildL ss kind) (buildN ss) (newS kind) e w' := by
  have HC := hide (fun o => hclosed_is (h.alloc o))
  have HZ := hide (fun o => hSize_is (hT.only ((Only.refl [] w).alloc o) (by simp)) kind)
  have hkb : (szF kind == 0) = false := beq_eq_false_iff_ne.2 hk
  have hb : (w.alloc (.cells #[.int .i64 kind] 3)).cell? ⟨w.heap.size, 0, none⟩ = some (.int .i64 kind) := (Blk.new w 3 #[.int .i64 kind]).cell 0
  have HI := hide (idxAlloc_is (h.alloc (.cells #[.int .i64 kind] 3)).row (by have := hO.few; omega) kind w.heap.size hb)
  rw [hn] at HI
  have HO := hide (fun o => (Only.refl [] w).alloc o)
  have hc1 : ∀ o, (w.alloc o).cell? ⟨g, 1, none⟩ = some v := fun o => (h.alloc o).blk.cell 1
  have HCK := hide (fun (wA : World) (kA : Only [] (w.alloc (.cells #[.int .i64 kind] 3)) wA) => (kA.cell (World.block_lt_of_cell? _ _ hb) (by simp)).trans hb)
  have hmf : ∀ (fn : Fn) (first cap : Array Value) (w : World), (Instr.makeFunc fn first cap).run Tryd.prog w = .ok (.func fn first cap) w := fun _ _ _ _ => rfl
  have hmb : (moreF L ss == 0) = false := beq_eq_false_iff_ne.2 hm
  obtain ⟨hO2, hs2⟩ := hO.build hk hm
  have hf0 := newS_pos hk
  have hok := hO2.good _ (List.mem_of_getElem? hs2)
  obtain ⟨hp64, _, _⟩ := ctz_spec hf0 hok.lt
  have hil : buildN ss < (buildL ss kind).length := (List.getElem?_eq_some_iff.1 hs2).1
  have hi512 : buildN ss < 512 := by have := hO2.few; omega
  obtain ⟨A, cap, hv, hA⟩ := h.row.form
  have HQ := hide (fun (wA : World) (kA : Only [] w wA) => (h.only kA (by simp) (by simp) (by simp)))
  have HM := hide (fun (wA : World) (kA : Only [] w wA) => hmore_is (HQ.out _ kA) hO)
  have HBD := hide (fun (wA : World) (kA : Only [] w wA) => hbuild_is (HQ.out _ kA) hO (hT.only kA (by simp)) hlow kind)
  have HTZ := hide (fun (wA : World) (kA : Only (g :: v.ownBlock.toList) w wA) => tz64_is (hT.only kA hlow) (newS kind).free hok.lt hf0)
  have hcl := andNot_clr (newS kind).free (Lib.ctz 64 (newS kind).free) hok.lt hp64
  have HFR := hide (hO2.fresh hs2 hf0)
  have HOL := hide (fun D (hD : MHolds encI D O) => hO2.olen hD.nd)
  have HS := hide hs2
  have hnn : ¬ (((buildN ss : Nat) : Int) < 0) := by omega
  have e1 : IntKind.i64.wrap (((buildN ss : Nat) : Int) * 64) = ((buildN ss : Nat) : Int) * 64 := by rw [IntKind.wrap_i64]; omega
  have e2 : IntKind.i64.wrap (((buildN ss : Nat) : Int) * 64 + (Lib.ctz 64 (newS kind).free : Nat)) = ((buildN ss : Nat) : Int) * 64 + (Lib.ctz 64 (newS kind).free : Nat) := by rw [IntKind.wrap_i64]; omega
  have HID := hide (iW_of (x := ((buildN ss : Nat) : Int) * 64 + (Lib.ctz 64 (newS kind).free : Nat)) (by omega) (by omega))
  have HOB := hide (show ∀ (wA : World), Only [] w wA → Only (g :: v.ownBlock.toList) w wA from fun wA kA => kA.mono (by simp))
  revert hs2 hO2 hil hi512 hnn e1 e2 HID HFR HOL HS HBD
  unfold BuiltH AllocH
  generalize buildN ss = i
  generalize buildL ss kind = ss2
  intro hO2 hs2 hil hi512 HBD HFR HOL HS hnn e1 e2 HID
  have hilI : (i : Int) < ss2.length := by omega
  generalize newS kind = s at *
  subst hv
  clear h hT hO hb hok hA hs2 hO2 hm hn
  go_enter Tryd.func11, Tryd.ntmps11
  go_wp2_with (first | (go_at_call 26; refine (HC.out _).mono ?_; rintro e w' ⟨rfl, rfl⟩) | (go_at_call 16; refine (HZ.out _).mono ?_; rintro e w' ⟨rfl, rfl⟩) | (go_at_call 29; refine HI.out.mono ?_; rintro e w1 ⟨rfl, ho⟩; have HW := hide ((HO.out _).trans ho); have HWB := hide ho; clear ho) | (go_at_call 31; refine (HM.out _ HW.out).mono ?_; rintro e w2 ⟨rfl, ho⟩; have ck := HCK.out _ (HWB.out.trans ho); have HW2 := hide (HW.out.trans ho); clear ho) | (go_at_call 32; refine (HBD.out _ HW2.out).mono ?_; rintro e w3 ⟨v3, rfl, hB, hoB, hvB⟩; obtain ⟨A3, cap3, rfl, hA3⟩ := hB.row.form; obtain ⟨b, rfl, hbl⟩ := hA3 (by omega); obtain ⟨q0, q1, z0, z1⟩ := hB.row.seat rfl rfl HS.out; have c1 := hB.blk.cell 1; have c2 := hB.blk.cell 2; have HH1 := hide hB; have HW3 := hide ((HOB.out _ HW2.out).trans hoB); have HV3 := hide hvB; clear hB hoB hvB hA3) | (go_at_call 33; refine (HTZ.out _ HW3.out).mono ?_; rintro e w4 ⟨rfl, rfl⟩))
  go_region
  obtain ⟨h3, hob⟩ := HH1.out.putF rfl rfl HS.out (clrB s.free (Lib.ctz 64 s.free))
  have H3 : IsHp ((w3.setCell ⟨b, i * 2 + 1, none⟩ (.int .u64 (clrB s.free (Lib.ctz 64 s.free) : Nat))).drew) g L (.slice (some ⟨b, 0, none⟩) ss2.length cap3) (ss2.set i (takeS s)) m O := ⟨h3.blk, h3.row, h3.own⟩
  have O3 : Only [b] w3 ((w3.setCell ⟨b, i * 2 + 1, none⟩ (.int .u64 (clrB s.free (Lib.ctz 64 s.free) : Nat))).drew) := ((Only.refl [b] w3).setCell _ (by simp)).drew
  clear h3 q0 q1 z0 z1 c1 c2
  revert H3 O3
  generalize ((w3.setCell ⟨b, i * 2 + 1, none⟩ (.int .u64 (clrB s.free (Lib.ctz 64 s.free) : Nat))).drew) = w5
  intro H3 O3
  obtain ⟨D, hD1, hD2⟩ := H3.own
  obtain ⟨w6, hrun, hown, honly⟩ := storeI_new hD2 hD1 (Nat.lt_of_le_of_lt (HOL.out _ hD2) (by decide)) HID.out HFR.out how
  have c3 : w5.cell? ⟨g, 2, none⟩ = some (.map (some m)) := H3.blk.cell 2
  have HF := hide (show IsHp w6 g L (.slice (some ⟨b, 0, none⟩) ss2.length cap3) (ss2.set i (takeS s)) m (O ++ [((i : Int) * 64 + (Lib.ctz 64 s.free : Nat), owner)]) from
    ⟨H3.blk.only honly (by simpa using H3.gm), H3.row.only honly (fun q hq => by simpa using H3.farM q hq), _, hown, hD2.new HID.out HFR.out⟩)
  have HV4 := hide (show ∀ q, (Value.slice (some ⟨b, 0, none⟩) ss2.length cap3).ownBlock = some q → (Value.slice A ss.length cap).ownBlock = some q ∨ w.heap.size ≤ q from fun q hq => by
    rcases HV3.out q hq with h | h
    · exact .inl h
    · have := HW2.out.size
      exact .inr (by omega))
  have HO4 := hide (show Only (g :: m :: (Value.slice A ss.length cap).ownBlock.toList) w w6 from
    ((HW3.out.mono (S' := g :: m :: (Value.slice A ss.length cap).ownBlock.toList) (fun q _ hq => by
        rcases List.mem_cons.1 hq with h | h
        · simp [h]
        · simp [h])).trans' O3 (fun q h1 h2 => by
        have h3 : q = b := by simpa using h2
        rcases HV4.out b rfl with h | h
        · rw [h3]; simp [h]
        · omega)).trans (honly.mono (fun q _ hq => by simp at hq; subst hq; simp)))
  clear H3 O3 hD1 hD2 hown honly hcl hob
  go_wp2
  go_ret2
  exact ⟨_, rfl, HF.out, HO4.out, HV4.out⟩
end
end Go.Proofs.YtgoaebikgdecoaaDoor
