/-
  Translations (parapet/tlb): what a hart keeps.
-/
import Derived.Test.YtdkbjnnflpopdaaTlbFirst
import Derived.Deep.RegionHeld3
namespace Go.Proofs.Ytdkbjnnflpopdaa
open Go.ChangeShapes Go.WideShapes Go.ChangeAt Go.RowKit Go.Maps
set_option linter.unusedVariables false

section
variable {W : World} {b n : Nat} {D : DataW Unit} {l : List (K2 × K2)} {k f : K2}
set_option maxRecDepth 100000 in
theorem Holds.look (H : Holds D l) (hown : W.ownsMap Try.prog 33 elemF b n D) (hp : (k, f) ∈ l) : (Instr.lookup 59 (.map (some b)) (kV k) true).run Try.prog W = .ok (.tuple #[fV f, .bool true]) W := by
  obtain ⟨v, ps, hrun, hv⟩ := hown.look_ok lawKey Try.underlying59 (zeroF W) (elemF_mk (0, 0)) (keyOf_kV (H.wf _ hp))
  rw [H.at_ _ hp] at hv
  obtain ⟨f', rfl, e⟩ := elemF_inv hv
  injection e with e _
  have e1 := fD_inj e
  subst e1
  rw [H.some_ hp] at hrun
  exact hrun
set_option maxRecDepth 100000 in
theorem Holds.look_no (H : Holds D l) (hown : W.ownsMap Try.prog 33 elemF b n D) (hk : k.wf) (hn : k ∉ l.map (·.1)) : (Instr.lookup 59 (.map (some b)) (kV k) true).run Try.prog W = .ok (.tuple #[fV (0, 0), .bool false]) W := by
  obtain ⟨v, ps, hrun, hv⟩ := hown.look_ok lawKey Try.underlying59 (zeroF W) (elemF_mk (0, 0)) (keyOf_kV hk)
  rw [Maps.atKey_of_not_has (H.none hk hn)] at hv
  obtain ⟨f', rfl, e⟩ := elemF_inv hv
  injection e with e _
  have e1 := fD_inj e
  subst e1
  rw [H.none hk hn] at hrun
  exact hrun
theorem Holds.len (H : Holds D l) (hown : W.ownsMap Try.prog 33 elemF b n D) (ty : TypeId) : (Builtin.len_ #[59] ty #[.map (some b)]).run Try.prog W = .ok (.int .i64 l.length) W := by
  have := hown.len Try.underlying59 ty
  rwa [H.size] at this
theorem own_tight (hown : W.ownsMap Try.prog 33 elemF b n D) : W.ownsMap Try.prog 33 elemF b (Maps.size D) D := by
  obtain ⟨es, clock, hb, F, hs, rfl⟩ := hown
  refine ⟨es, clock, hb, F, ?_, rfl⟩
  rw [Maps.size_eq, length_read]
  exact Nat.le_refl _
/-- A store at a key that is there, or is not. -/
theorem Holds.store_old (H : Holds D l) (hown : W.ownsMap Try.prog 33 elemF b l.length D) (hl : l.length < maxLen) (hp : (k, f) ∈ l) (e : Int) :
    ∃ W', (Instr.mapUpdate 59 (.map (some b)) (kV k) (fV (e, f.2))).run Try.prog W = .ok () W' ∧ W'.ownsMap Try.prog 33 elemF b (setF l k e).length (D.put (kL k) (fD (e, f.2))) ∧ Only [b] W W' := by
  obtain ⟨W', h1, h2, h3⟩ := hown.store lawKey Try.underlying59 hl (keyOf_kV (H.wf _ hp)) (elemF_mk (e, f.2))
  have h4 := own_tight h2
  rw [(H.old hp e).size] at h4
  exact ⟨W', h1, h4, Only.of_grown h3.grown (fun k hk _ => by injection hk with hk; simp [hk])⟩
theorem Holds.store_new (H : Holds D l) (hown : W.ownsMap Try.prog 33 elemF b l.length D) (hl : l.length < maxLen) (hk : k.wf) (hn : k ∉ l.map (·.1)) (f : K2) :
    ∃ W', (Instr.mapUpdate 59 (.map (some b)) (kV k) (fV f)).run Try.prog W = .ok () W' ∧ W'.ownsMap Try.prog 33 elemF b (l ++ [(k, f)]).length (D.put (kL k) (fD f)) ∧ Only [b] W W' := by
  obtain ⟨W', h1, h2, h3⟩ := hown.store lawKey Try.underlying59 hl (keyOf_kV hk) (elemF_mk f)
  have h4 := own_tight h2
  rw [(H.new (f := f) hk hn).size] at h4
  exact ⟨W', h1, h4, Only.of_grown h3.grown (fun k hk _ => by injection hk with hk; simp [hk])⟩
theorem Holds.drop (H : Holds D l) (hown : W.ownsMap Try.prog 33 elemF b l.length D) (hp : (k, f) ∈ l) (ty : TypeId) :
    ∃ W', (Builtin.delete_ #[59, 33] ty #[.map (some b), kV k]).run Try.prog W = .ok (.tuple #[]) W' ∧ W'.ownsMap Try.prog 33 elemF b (outF l k).length (D.del (kL k)) ∧ Only [b] W W' := by
  obtain ⟨W', h1, h2, h3⟩ := hown.drop lawKey Try.underlying59 (keyOf_kV (H.wf _ hp)) ty
  have h4 := own_tight h2
  rw [(H.del hp).size] at h4
  exact ⟨W', h1, h4, Only.of_grown h3.grown (fun k hk _ => by injection hk with hk; simp [hk])⟩
theorem own_only {W' : World} {S : List Nat} (hown : W.ownsMap Try.prog 33 elemF b n D) (ho : Only S W W') (hb : b ∉ S) : W'.ownsMap Try.prog 33 elemF b n D := by
  have hlt := hown.lt
  obtain ⟨es, clock, h1, F, hs, hD⟩ := hown
  exact ⟨es, clock, (ho.block b hlt hb).trans h1, F, hs, hD⟩
end

/-- A hart's map, and its next turn, in cells o, o + 1 of the row. -/
structure HartAt (w : World) (b : Nat) (l : List (K2 × K2)) (next : Int) : Prop where
  own : ∃ D, w.ownsMap Try.prog 33 elemF b l.length D ∧ Holds D l
  turns : Turns l
  lt : ∀ q ∈ l, q.2.2 < next

section
variable {w : World} {hb o b : Nat} {cs : Array Value} {l : List (K2 × K2)} {next size : Int} {k f : K2} {e : Int}
set_option maxRecDepth 100000 in
theorem fill_old (hB : Blk w hb 61 cs) (h0 : cs[o]? = some (.map (some b))) (h1 : cs[o + 1]? = some (.int .i64 next)) (hA : HartAt w b l next) (hlen : l.length ≤ 64) (hp : (k, f) ∈ l) :
    Calls Try.prog 33 #[.pointer (some ⟨hb, o, none⟩), kV k, .int .u32 e, .int .i64 size] w fun r w' => r = .returned (.tuple #[]) ∧ HartAt w' b (setF l k e) next ∧ Blk w' hb 61 cs ∧ Only [b] w w' := by
  obtain ⟨D, hown, H⟩ := hA.own
  have hbl := hown.lt
  have hbh : b ≠ hb := fun e => by
    obtain ⟨es, clock, h, _⟩ := hown
    unfold Blk at hB
    rw [e, hB] at h
    cases h
  have HH := hide H
  have HO := hide hown
  have HA := hide hA
  have HP := hide hp
  have HB := hide hB
  have HBH := hide hbh
  have hlm : l.length < maxLen := by unfold maxLen; omega
  have hlk : ∀ o1, (Instr.lookup 59 (.map (some b)) (kV k) true).run Try.prog (w.alloc o1).drew = .ok (.tuple #[fV f, .bool true]) (w.alloc o1).drew := fun o1 => H.look (hown.alloc o1).drew hp
  have hlk2 : ∀ o1 o2, (Instr.lookup 59 (.map (some b)) (kV k) true).run Try.prog ((w.alloc o1).alloc o2).drew = .ok (.tuple #[fV f, .bool true]) ((w.alloc o1).alloc o2).drew := fun o1 o2 => H.look ((hown.alloc o1).alloc o2).drew hp
  have hc0 : ∀ o1, (w.alloc o1).cell? ⟨hb, o, none⟩ = some (.map (some b)) := fun o1 => ((hB.alloc o1).cell o).trans h0
  have hc1 : ∀ o1 o2, ((w.alloc o1).alloc o2).cell? ⟨hb, o, none⟩ = some (.map (some b)) := fun o1 o2 => (((hB.alloc o1).alloc o2).cell o).trans h0
  clear hown H hA hp hB h0 h1
  go_enter Try.func33, Try.ntmps33
  go_wp2_with fail
  go_region
  obtain ⟨w8, hw8⟩ : ∃ w8 : World, ((w.alloc (.cells #[.int .i64 k.1, .int .i64 k.2] 33)).alloc (.cells #[.int .u32 e, .int .i64 f.2] 81)).drew.drew = w8 := ⟨_, rfl⟩
  have ho8 : Only [] w w8 := by rw [← hw8]; exact ((((Only.refl [] w).alloc _).alloc _).drew).drew
  obtain ⟨w9, hrun9, hown9, ho9⟩ := HH.out.store_old (own_only HO.out ho8 (by simp)) hlm HP.out e
  have HE := hide (show HartAt w9 b (setF l k e) next ∧ Blk w9 hb 61 cs ∧ Only [b] w w9 from by
    refine ⟨⟨⟨_, hown9, HH.out.old HP.out e⟩, ?_, fun q hq => ?_⟩, (HB.out.only ho8 (by simp)).only ho9 (by simpa using Ne.symm HBH.out), (ho8.mono (by simp)).trans ho9⟩
    · unfold Turns setF
      rw [List.pairwise_map]
      exact HA.out.turns.imp (fun {p q} h => by split <;> split <;> exact h)
    · obtain ⟨r, hr, rfl⟩ := List.mem_map.1 hq
      have := HA.out.lt r hr
      split <;> exact this)
  rw [← hw8] at hrun9
  clear hown9 ho9 hw8 ho8
  go_wp2_with fail
  go_region
  go_wp2
  exact bodyPost_end (results_none rfl _ _ _) rfl ⟨rfl, HE.out⟩

set_option maxRecDepth 100000 in
theorem fill_new (hB : Blk w hb 61 cs) (h0 : cs[o]? = some (.map (some b))) (h1 : cs[o + 1]? = some (.int .i64 next)) (hA : HartAt w b l next) (hlen : l.length < 64) (hsz : (l.length : Int) < size) (hk : k.wf) (hn : k ∉ l.map (·.1)) (hx0 : 0 ≤ next) (hx1 : next < 4611686018427387904) :
    Calls Try.prog 33 #[.pointer (some ⟨hb, o, none⟩), kV k, .int .u32 e, .int .i64 size] w fun r w' => r = .returned (.tuple #[]) ∧ HartAt w' b (l ++ [(k, (e, next))]) (next + 1) ∧ Blk w' hb 61 (cs.setIfInBounds (o + 1) (.int .i64 (next + 1))) ∧ Only [hb, b] w w' := by
  obtain ⟨D, hown, H⟩ := hA.own
  have hbl := hown.lt
  have hbh : b ≠ hb := fun e => by
    obtain ⟨es, clock, h, _⟩ := hown
    unfold Blk at hB
    rw [e, hB] at h
    cases h
  have HH := hide H
  have HO := hide hown
  have HA := hide hA
  have HB := hide hB
  have HBH := hide hbh
  have HC0 := hide h0
  have HNK := hide hn
  have HKW := hide hk
  have hlm : l.length < maxLen := by unfold maxLen; omega
  have hlt := hB.lt
  have hlk : ∀ o1, (Instr.lookup 59 (.map (some b)) (kV k) true).run Try.prog (w.alloc o1).drew = .ok (.tuple #[fV (0, 0), .bool false]) (w.alloc o1).drew := fun o1 => H.look_no (hown.alloc o1).drew hk hn
  have hlk2 : ∀ o1 o2, (Instr.lookup 59 (.map (some b)) (kV k) true).run Try.prog ((w.alloc o1).alloc o2).drew = .ok (.tuple #[fV (0, 0), .bool false]) ((w.alloc o1).alloc o2).drew := fun o1 o2 => H.look_no ((hown.alloc o1).alloc o2).drew hk hn
  have hln : ∀ o1 o2 ty, (Builtin.len_ #[59] ty #[.map (some b)]).run Try.prog ((w.alloc o1).alloc o2).drew = .ok (.int .i64 l.length) ((w.alloc o1).alloc o2).drew := fun o1 o2 ty => H.len ((hown.alloc o1).alloc o2).drew ty
  have hc0 : ∀ o1, (w.alloc o1).cell? ⟨hb, o, none⟩ = some (.map (some b)) := fun o1 => ((hB.alloc o1).cell o).trans h0
  have hc1 : ∀ o1 o2, ((w.alloc o1).alloc o2).cell? ⟨hb, o, none⟩ = some (.map (some b)) := fun o1 o2 => (((hB.alloc o1).alloc o2).cell o).trans h0
  have hd1 : ∀ o1 o2, ((w.alloc o1).alloc o2).cell? ⟨hb, o + 1, none⟩ = some (.int .i64 next) := fun o1 o2 => (((hB.alloc o1).alloc o2).cell (o + 1)).trans h1
  have hz1 : ∀ o1 o2, ((w.alloc o1).alloc o2).frozen? ⟨hb, o + 1, none⟩ = false := fun o1 o2 => ((hB.alloc o1).alloc o2).frozen (o + 1)
  have hbe : ((l.length : Int) == size) = false := by simp; omega
  have hws : IntKind.i64.wrap (next + 1) = next + 1 := by rw [IntKind.wrap_i64]; omega
  clear hown H hA hB h0 h1 hk hn
  go_enter Try.func33, Try.ntmps33
  go_wp2_with fail
  go_region
  obtain ⟨w8, hw8⟩ : ∃ w8 : World, (((w.setCell ⟨hb, o + 1, none⟩ (.int .i64 (next + 1))).alloc (.cells #[.int .i64 k.1, .int .i64 k.2] 33)).alloc (.cells #[.int .u32 e, .int .i64 next] 81)).drew.drew = w8 := ⟨_, rfl⟩
  have ho8 : Only [hb] w w8 := by rw [← hw8]; exact (((((Only.refl [hb] w).setCell _ (by simp)).alloc _).alloc _).drew).drew
  have hb8 : Blk w8 hb 61 (cs.setIfInBounds (o + 1) (.int .i64 (next + 1))) := by
    rw [← hw8]
    exact ((((HB.out.set_ (o + 1) (.int .i64 (next + 1))).alloc _).alloc _).drew).drew
  obtain ⟨w9, hrun9, hown9, ho9⟩ := HH.out.store_new (own_only HO.out ho8 (by simpa using HBH.out)) hlm HKW.out HNK.out (e, next)
  have HE := hide (show HartAt w9 b (l ++ [(k, (e, next))]) (next + 1) ∧ Blk w9 hb 61 (cs.setIfInBounds (o + 1) (.int .i64 (next + 1))) ∧ Only [hb, b] w w9 from by
    refine ⟨⟨⟨_, hown9, HH.out.new HKW.out HNK.out⟩, ?_, fun q hq => ?_⟩, hb8.only ho9 (by simpa using Ne.symm HBH.out), (ho8.mono (fun q _ hq => by simp at hq; simp [hq])).trans (ho9.mono (fun q _ hq => by simp at hq; simp [hq]))⟩
    · unfold Turns
      rw [List.pairwise_append]
      refine ⟨HA.out.turns, by simp, fun p hp q hq => ?_⟩
      rw [List.mem_singleton.1 hq]
      exact HA.out.lt p hp
    · rcases List.mem_append.1 hq with hq | hq
      · have := HA.out.lt q hq; omega
      · rw [List.mem_singleton.1 hq]; show next < next + 1; omega)
  rw [← hw8] at hrun9
  have hc8 : ∀ u o1 o2, (((w.setCell ⟨hb, o + 1, none⟩ u).alloc o1).alloc o2).cell? ⟨hb, o, none⟩ = some (.map (some b)) := fun u o1 o2 => by
    have := (((HB.out.set_ (o + 1) u).alloc o1).alloc o2).cell o
    rw [this, Array.getElem?_setIfInBounds_ne (by omega)]
    exact HC0.out
  clear hown9 ho9 hw8 ho8 hb8
  go_wp2_with fail
  go_region
  go_wp2
  exact bodyPost_end (results_none rfl _ _ _) rfl ⟨rfl, HE.out⟩

set_option maxRecDepth 100000 in
theorem fill_full (hB : Blk w hb 61 cs) (h0 : cs[o]? = some (.map (some b))) (h1 : cs[o + 1]? = some (.int .i64 next)) (p : K2 × K2) (r : List (K2 × K2)) (hl : l = p :: r) (hA : HartAt w b l next) (hlen : l.length ≤ 64) (hsz : (l.length : Int) = size) (hk : k.wf) (hn : k ∉ l.map (·.1)) (hx0 : 0 ≤ next) (hx1 : next < 4611686018427387904) :
    Calls Try.prog 33 #[.pointer (some ⟨hb, o, none⟩), kV k, .int .u32 e, .int .i64 size] w fun r' w' => r' = .returned (.tuple #[]) ∧ HartAt w' b (r ++ [(k, (e, next))]) (next + 1) ∧ Blk w' hb 61 (cs.setIfInBounds (o + 1) (.int .i64 (next + 1))) ∧ Only [hb, b] w w' := by
  obtain ⟨D, hown, H⟩ := hA.own
  have hbl := hown.lt
  have hbh : b ≠ hb := fun e => by
    obtain ⟨es, clock, h, _⟩ := hown
    unfold Blk at hB
    rw [e, hB] at h
    cases h
  have hout : outF l p.1 = r := by
    have hnd := H.nd
    rw [hl, List.map_cons, List.nodup_cons] at hnd
    unfold outF
    rw [hl, List.filter_cons, if_neg (by simp), List.filter_eq_self.2]
    intro q hq
    simp
    exact fun e => hnd.1 (List.mem_map.2 ⟨q, hq, e⟩)
  have HH := hide H
  have HO := hide hown
  have HA := hide hA
  have HB := hide hB
  have HBH := hide hbh
  have HC0 := hide h0
  have HC1 := hide h1
  have HL := hide hl
  have HNK := hide hn
  have HKW := hide hk
  have HOUT := hide hout
  have hlm : l.length < maxLen := by unfold maxLen; omega
  have hlt := hB.lt
  have HPM := hide (show (p.1, p.2) ∈ l by rw [hl]; simp)
  have HF := hide (fun W (ho : Only [] w W) => first_is (hb := hb) (o := o) (((hB.only ho (by simp)).cell o).trans h0) (((hB.only ho (by simp)).cell (o + 1)).trans h1) (own_only hown ho (by simp)) H p r hl hA.turns hA.lt)
  have HDR := hide (fun W (ho : Only [] w W) => H.drop (own_only hown ho (by simp)) (k := p.1) (f := p.2) (by rw [hl]; simp) 0)
  have HS := hide (fun W (ho : Only [b] w W) => (show W.cell? ⟨hb, o, none⟩ = some (.map (some b)) from ((hB.only ho (by simpa using Ne.symm hbh)).cell o).trans h0))
  have hlk : ∀ o1, (Instr.lookup 59 (.map (some b)) (kV k) true).run Try.prog (w.alloc o1).drew = .ok (.tuple #[fV (0, 0), .bool false]) (w.alloc o1).drew := fun o1 => H.look_no (hown.alloc o1).drew hk hn
  have hlk2 : ∀ o1 o2, (Instr.lookup 59 (.map (some b)) (kV k) true).run Try.prog ((w.alloc o1).alloc o2).drew = .ok (.tuple #[fV (0, 0), .bool false]) ((w.alloc o1).alloc o2).drew := fun o1 o2 => H.look_no ((hown.alloc o1).alloc o2).drew hk hn
  have hln : ∀ o1 o2 ty, (Builtin.len_ #[59] ty #[.map (some b)]).run Try.prog ((w.alloc o1).alloc o2).drew = .ok (.int .i64 l.length) ((w.alloc o1).alloc o2).drew := fun o1 o2 ty => H.len ((hown.alloc o1).alloc o2).drew ty
  have hc0 : ∀ o1, (w.alloc o1).cell? ⟨hb, o, none⟩ = some (.map (some b)) := fun o1 => ((hB.alloc o1).cell o).trans h0
  have hc1 : ∀ o1 o2, ((w.alloc o1).alloc o2).cell? ⟨hb, o, none⟩ = some (.map (some b)) := fun o1 o2 => (((hB.alloc o1).alloc o2).cell o).trans h0
  have hbe : ((l.length : Int) == size) = true := by simp; omega
  have hws : IntKind.i64.wrap (next + 1) = next + 1 := by rw [IntKind.wrap_i64]; omega
  clear hown H hA hB h0 h1 hk hn hl hout
  go_enter Try.func33, Try.ntmps33
  go_wp2_with fail
  go_region
  go_wp2_with fail
  go_region_held3 (fun w' => w'.cell? ⟨hb, o, none⟩ = some (.map (some b))) (first | assumption | exact HS.out _ (by repeat (first | exact Only.refl _ _ | exact HO1.out.mono (by simp) | apply Only.drew | apply Only.alloc)) | exact HK2.out | go_keep) (first | (go_at_call 43; refine (HF.out _ (by repeat (first | exact Only.refl _ _ | apply Only.drew | apply Only.alloc))).mono ?_; rintro e' w1 ⟨rfl, hb1⟩; have HO1 := hide (show Only [] w w1 from Only.trans (by repeat (first | exact Only.refl _ _ | apply Only.drew | apply Only.alloc)) (Only.of_below hb1)); have HX1 := hide hb1; clear hb1; obtain ⟨w2, hrun2, hown2, ho2⟩ := HDR.out w1 HO1.out; have HOW2 := hide hown2; have HO2 := hide ho2; clear hown2 ho2; have HK2 := hide (HS.out w2 ((HO1.out.mono (by simp)).trans HO2.out))))
  have kb : Blk w2 w.heap.size 33 #[.int .i64 k.1, .int .i64 k.2] := by
    refine Blk.only (Blk.only ?_ (Only.of_below HX1.out) (by simp)) HO2.out (by simp; omega)
    exact (Blk.new w 33 #[.int .i64 k.1, .int .i64 k.2]).alloc (.cells #[.int .u32 0, .int .i64 0] 81)
  have fb : Blk w2 (w.heap.size + 1) 81 #[.int .u32 0, .int .i64 0] := by
    refine Blk.only (Blk.only ?_ (Only.of_below HX1.out) (by simp)) HO2.out (by simp; omega)
    have h1 := Blk.new (w.alloc (.cells #[.int .i64 k.1, .int .i64 k.2] 33)) 81 #[.int .u32 0, .int .i64 0]
    rw [show (w.alloc (.cells #[.int .i64 k.1, .int .i64 k.2] 33)).heap.size = w.heap.size + 1 by simp] at h1
    exact h1
  have hw2 : Only [b] w w2 := (HO1.out.mono (by simp)).trans HO2.out
  have hB2 : Blk w2 hb 61 cs := HB.out.only hw2 (by simpa using Ne.symm HBH.out)
  have HKB := hide kb
  have HFB := hide fb
  have HB2 := hide hB2
  have HW2 := hide hw2
  have q0 := kb.cell 0
  have q1 := kb.cell 1
  have q2 := fb.cell 0
  have q3 := fb.cell 1
  have q4 := fb.frozen 0
  have q5 := fb.frozen 1
  have q6 := (hB2.cell o).trans HC0.out
  have q7 := (hB2.cell (o + 1)).trans HC1.out
  have q8 := hB2.frozen (o + 1)
  have hs1 := fb.lt
  have n1 : ¬ (hb = w.heap.size) := by omega
  have n2 : ¬ (hb = w.heap.size + 1) := by omega
  have n3 : ¬ (w.heap.size = hb) := by omega
  have n4 : ¬ (w.heap.size + 1 = hb) := by omega
  clear kb fb hB2 hw2 hrun2 hlk hlk2 hln hc0 hc1
  obtain ⟨w8, hw8⟩ : ∃ w8 : World, (((w2.setCell ⟨w.heap.size + 1, 1, none⟩ (.int .i64 next)).setCell ⟨hb, o + 1, none⟩ (.int .i64 (next + 1))).setCell ⟨w.heap.size + 1, 0, none⟩ (.int .u32 e)).drew = w8 := ⟨_, rfl⟩
  have ho8 : Only [hb, w.heap.size + 1] w2 w8 := by rw [← hw8]; exact ((((Only.refl [hb, w.heap.size + 1] w2).setCell _ (by simp)).setCell _ (by simp)).setCell _ (by simp)).drew
  have hb8 : Blk w8 hb 61 (cs.setIfInBounds (o + 1) (.int .i64 (next + 1))) := by
    rw [← hw8]
    exact (((HB2.out.far (p := ⟨w.heap.size + 1, 1, none⟩) (by simpa using n2) _).set_ (o + 1) _).far (p := ⟨w.heap.size + 1, 0, none⟩) (by simpa using n2) _).drew
  have H1 := HH.out.del HPM.out
  rw [HOUT.out] at H1
  have hown2 := HOW2.out
  rw [HOUT.out] at hown2
  have hll : r.length < maxLen := by have := congrArg List.length HL.out; simp at this; omega
  have hnr : k ∉ r.map (·.1) := fun h => HNK.out (by rw [HL.out, List.map_cons]; exact List.mem_cons_of_mem _ h)
  obtain ⟨w9, hrun9, hown9, ho9⟩ := H1.store_new (own_only hown2 ho8 (by have := HBH.out; simp; omega)) hll HKW.out hnr (e, next)
  have HE := hide (show HartAt w9 b (r ++ [(k, (e, next))]) (next + 1) ∧ Blk w9 hb 61 (cs.setIfInBounds (o + 1) (.int .i64 (next + 1))) ∧ Only [hb, b] w w9 from by
    have htr := HA.out.turns
    have hltr := HA.out.lt
    rw [HL.out] at htr hltr
    refine ⟨⟨⟨_, hown9, H1.new HKW.out hnr⟩, ?_, fun q hq => ?_⟩, hb8.only ho9 (by simpa using Ne.symm HBH.out), ?_⟩
    · unfold Turns
      rw [List.pairwise_append]
      refine ⟨(List.pairwise_cons.1 htr).2, by simp, fun q hq q' hq' => ?_⟩
      rw [List.mem_singleton.1 hq']
      exact hltr q (List.mem_cons_of_mem _ hq)
    · rcases List.mem_append.1 hq with hq | hq
      · have := hltr q (List.mem_cons_of_mem _ hq); omega
      · rw [List.mem_singleton.1 hq]; show next < next + 1; omega
    · have h1 : Only [hb, b] w w2 := HW2.out.mono (fun q _ hq => by simp at hq; simp [hq])
      have h2 := h1.trans' ho8 (fun q h3 h4 => by simp at h4; rcases h4 with h4 | h4; (· simp [h4]); (· omega))
      exact h2.trans (ho9.mono (fun q _ hq => by simp at hq; simp [hq])))
  rw [← hw8] at hrun9
  clear hown9 ho9 hw8 ho8 hb8 H1 hown2 hll hnr
  go_wp2_with fail
  go_region
  go_wp2
  exact bodyPost_end (results_none rfl _ _ _) rfl ⟨rfl, HE.out⟩
end
end Go.Proofs.Ytdkbjnnflpopdaa
