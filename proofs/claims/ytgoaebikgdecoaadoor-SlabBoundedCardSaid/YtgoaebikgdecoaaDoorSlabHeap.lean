/-
  Slabs (parapet/slab): the heap: 'IsHp w g L v ss m O': its struct in block g, its slabs ss in v, its owners O in map m. closed, has, Live, Limit, live, Bytes, more.
-/
import Derived.Test.YtgoaebikgdecoaaDoorSlabIdx
import Derived.BigQuiet
import Derived.Deep.RegionHeld3
namespace Go.Proofs.YtgoaebikgdecoaaDoor
open Go.ChangeShapes Go.WideShapes Go.ChangeAt Go.RowKit Go.Maps
set_option linter.unusedVariables false

def cntK (ss : List SL) : Nat := ss.countP (fun s => decide (s.kind ≠ 0))
theorem cntK_le (ss : List SL) : cntK ss ≤ ss.length := List.countP_le_length
theorem cntK_append (a b : List SL) : cntK (a ++ b) = cntK a + cntK b := List.countP_append
theorem cntK_take {ss : List SL} {i : Nat} {s : SL} (hs : ss[i]? = some s) : cntK (ss.take (i + 1)) = cntK (ss.take i) + (if s.kind ≠ 0 then 1 else 0) := by
  rw [List.take_add_one, hs, Option.toList_some, cntK_append]
  by_cases h : s.kind = 0 <;> simp [cntK, h]
/-- A slab is as it should be. -/
def okL (s : SL) : Prop := (s.kind = 0 ∨ szF s.kind ≠ 0) ∧ s.free < 2 ^ (plF s.kind).toNat
/-- There is an object of that id. -/
def liveAt (ss : List SL) (id : Int) : Prop := ∃ (n : Nat) (s : SL) (p : Nat), ss[n]? = some s ∧ p < (plF s.kind).toNat ∧ s.free.testBit p = false ∧ id = n * 64 + p
structure OkH (L : Int) (ss : List SL) (O : List (Int × Int)) : Prop where
  lim : 0 ≤ L ∧ L ≤ 1048576
  few : ss.length ≤ 512
  good : ∀ s ∈ ss, okL s
  fit : 2048 * (cntK ss : Int) ≤ L
  keys : ∀ id, id ∈ O.map (·.1) ↔ liveAt ss id
structure IsHp (w : World) (g : Nat) (L : Int) (v : Value) (ss : List SL) (m : Nat) (O : List (Int × Int)) : Prop where
  blk : Blk w g 50 #[.int .i64 L, v, .map (some m)]
  row : LRw w v ss
  own : ∃ D, w.ownsMap Tryd.prog 3 elemI m O.length D ∧ MHolds encI D O

section
variable {w w' : World} {g m : Nat} {L : Int} {v : Value} {ss : List SL} {O : List (Int × Int)} {S : List Nat}
theorem IsHp.lt (h : IsHp w g L v ss m O) : m < w.heap.size := by
  obtain ⟨D, ho, _⟩ := h.own
  obtain ⟨es, clock, hb, _⟩ := ho
  exact (Array.getElem?_eq_some_iff.1 hb).1
theorem ownsMap_only8 {w w' : World} {P : Program} {k : TypeId} {R : Value → Option (DataW Unit × List MemPlace)} {b n : Nat} {D : DataW Unit} {S : List Nat} (h : w.ownsMap P k R b n D) (ho : Only S w w') (hs : b ∉ S) : w'.ownsMap P k R b n D := by
  have hlt := h.lt
  obtain ⟨es, clock, hb, rest⟩ := h
  exact ⟨es, clock, (ho.block b hlt hs).trans hb, rest⟩
theorem IsHp.only (h : IsHp w g L v ss m O) (ho : Only S w w') (hg : g ∉ S) (hm : m ∉ S) (hs : ∀ k, v.ownBlock = some k → k ∉ S) : IsHp w' g L v ss m O := by
  refine ⟨h.blk.only ho hg, h.row.only ho hs, ?_⟩
  have hlt := h.lt
  obtain ⟨D, hown, hh⟩ := h.own
  refine ⟨D, ?_, hh⟩
  obtain ⟨es, clock, hb, rest⟩ := hown
  exact ⟨es, clock, (ho.block m hlt hm).trans hb, rest⟩
theorem IsHp.alloc (h : IsHp w g L v ss m O) (o : Obj) : IsHp (w.alloc o) g L v ss m O := h.only ((Only.refl [] w).alloc o) (by simp) (by simp) (by simp)
theorem IsHp.drewN (h : IsHp w g L v ss m O) (n : Nat) : IsHp (w.drewN n) g L v ss m O := ⟨h.blk, h.row, h.own⟩

theorem hclosed_is (h : IsHp w g L v ss m O) : Calls Tryd.prog 26 #[.pointer (some ⟨g, 0, none⟩)] w fun e w' => e = .returned (.bool false) ∧ w = w' := by
  have hc : w.cell? ⟨g, 2, none⟩ = some (.map (some m)) := h.blk.cell 2
  clear h
  have qM : ∀ (w : World) (r : Option Nat), (binOp .eql 48 (.map r) (.map none)).run Tryd.prog w = .ok (.bool r.isNone) w := fun w r => run_eql_map_nil w _ _ _ r Tryd.underlying48
  go_enter Tryd.func26, Tryd.ntmps26
  go_wp2
  go_ret
  exact ⟨rfl, rfl⟩
theorem hhas_yes (h : IsHp w g L v ss m O) {id f : Int} (hp : (id, f) ∈ O) : Calls Tryd.prog 42 #[.pointer (some ⟨g, 0, none⟩), .int .i64 id] w fun e w' => e = .returned (.bool true) ∧ w = w' := by
  have HC := hide (hclosed_is h)
  have hc : w.cell? ⟨g, 2, none⟩ = some (.map (some m)) := h.blk.cell 2
  obtain ⟨D, ho1, ho2⟩ := h.own
  have hlk := lookI ho2 ho1 hp true
  simp only [if_true] at hlk
  clear h ho1 ho2 hp
  go_enter Tryd.func42, Tryd.ntmps42
  go_wp2_with (go_at_call 26; refine HC.out.mono ?_; rintro e w' ⟨rfl, rfl⟩)
  go_ret
  exact ⟨rfl, rfl⟩
theorem hhas_no (h : IsHp w g L v ss m O) {id : Int} (hk : iW id) (hn : id ∉ O.map (·.1)) : Calls Tryd.prog 42 #[.pointer (some ⟨g, 0, none⟩), .int .i64 id] w fun e w' => e = .returned (.bool false) ∧ w = w' := by
  have HC := hide (hclosed_is h)
  have hc : w.cell? ⟨g, 2, none⟩ = some (.map (some m)) := h.blk.cell 2
  obtain ⟨D, ho1, ho2⟩ := h.own
  have hlk := lookI_no ho2 ho1 hk hn
  clear h ho1 ho2 hn
  go_enter Tryd.func42, Tryd.ntmps42
  go_wp2_with (go_at_call 26; refine HC.out.mono ?_; rintro e w' ⟨rfl, rfl⟩)
  go_ret
  exact ⟨rfl, rfl⟩
theorem hLive_is (h : IsHp w g L v ss m O) : Calls Tryd.prog 19 #[.pointer (some ⟨g, 0, none⟩)] w fun e w' => e = .returned (.int .i64 O.length) ∧ w = w' := by
  have HC := hide (hclosed_is h)
  have hc : w.cell? ⟨g, 2, none⟩ = some (.map (some m)) := h.blk.cell 2
  obtain ⟨D, ho1, ho2⟩ := h.own
  have hln := fun ty => lenI ho2 ho1 ty
  clear h ho1 ho2
  go_enter Tryd.func19, Tryd.ntmps19
  go_wp2_with (go_at_call 26; refine HC.out.mono ?_; rintro e w' ⟨rfl, rfl⟩)
  go_ret
  exact ⟨rfl, rfl⟩
theorem hLimit_is (h : IsHp w g L v ss m O) : Calls Tryd.prog 23 #[.pointer (some ⟨g, 0, none⟩)] w fun e w' => e = .returned (.int .i64 L) ∧ w = w' := by
  have HC := hide (hclosed_is h)
  have hc : w.cell? ⟨g, 0, none⟩ = some (.int .i64 L) := h.blk.cell 0
  clear h
  go_enter Tryd.func23, Tryd.ntmps23
  go_wp2_with (go_at_call 26; refine HC.out.mono ?_; rintro e w' ⟨rfl, rfl⟩)
  go_ret
  exact ⟨rfl, rfl⟩
theorem hlive_is (hT : TabS w) (s : SL) (hs : okL s) : Calls Tryd.prog 43 #[.agg #[.int .i64 s.kind, .int .u64 s.free]] w fun e w' => e = .returned (.int .i64 (plF s.kind - pop s.free)) ∧ Only [] w w' := by
  have hp := plF_le s.kind
  have hpl : pop s.free ≤ 64 := popN_le 64 s.free
  have hf : s.free < 18446744073709551616 := Nat.lt_of_lt_of_le hs.2 (show 2 ^ (plF s.kind).toNat ≤ 2 ^ 64 from Nat.pow_le_pow_right (by decide) (by omega))
  have HP := hide (fun (o : Obj) (n : Nat) => hplaces_is (w := (w.alloc o).drewN n) ⟨(hT.only ((Only.refl [] w).alloc o) (by simp)).size, (hT.only ((Only.refl [] w).alloc o) (by simp)).bru⟩ s.kind)
  have HO := hide (fun (o : Obj) (n : Nat) => ones64_is ((w.alloc o).drewN n) s.free hf)
  have k0 : (w.alloc (.cells #[.int .i64 s.kind, .int .u64 s.free] 62)).cell? ⟨w.heap.size, 0, none⟩ = some (.int .i64 s.kind) := (Blk.new w 62 _).cell 0
  have k1 : (w.alloc (.cells #[.int .i64 s.kind, .int .u64 s.free] 62)).cell? ⟨w.heap.size, 1, none⟩ = some (.int .u64 s.free) := (Blk.new w 62 _).cell 1
  have e1 : IntKind.i64.wrap (plF s.kind - (pop s.free : Nat)) = plF s.kind - (pop s.free : Nat) := by rw [IntKind.wrap_i64]; omega
  have HA := hide (fun o => (Only.refl [] w).alloc o)
  clear hT hf hs
  go_enter Tryd.func43, Tryd.ntmps43
  go_wp2_with fail
  go_quiet (first | (go_at_call 45; exact Calls.quiet_of_same (((HP.out _ _).mono fun _ _ h => ⟨h.1, h.2.symm⟩))) | (go_at_call 51; exact Calls.quiet_of_same ((HO.out _ _).mono fun _ _ h => ⟨h.1, h.2.symm⟩)))
  go_wp2
  go_ret
  exact ⟨rfl, (HA.out _).drewN _⟩

theorem cntK_part {ss : List SL} (i : Nat) : cntK (ss.take i) ≤ cntK ss := by
  have : cntK ss = cntK (ss.take i) + cntK (ss.drop i) := by rw [← cntK_append, List.take_append_drop]
  omega
theorem hBytes_is (h : IsHp w g L v ss m O) (hf : ss.length ≤ 1000) : Calls Tryd.prog 18 #[.pointer (some ⟨g, 0, none⟩)] w fun e w' => e = .returned (.int .i64 (2048 * (cntK ss : Nat))) ∧ Only [] w w' := by
  have HC := hide (hclosed_is h)
  have c1 : w.cell? ⟨g, 1, none⟩ = some v := h.blk.cell 1
  have HR := hide h.row
  obtain ⟨A, cap, rfl, hA⟩ := h.row.form
  have HA := hide hA
  clear h hA
  go_enter Tryd.func18, Tryd.ntmps18
  go_wp2_with (go_at_call 26; refine HC.out.mono ?_; rintro e w' ⟨rfl, rfl⟩)
  go_loopw [3, 13] (fun nv iv wr => ∃ i : Nat, i ≤ ss.length ∧ iv = .int .i64 i ∧ nv = .int .i64 (2048 * (cntK (ss.take i) : Nat)) ∧ Only [] w wr) (fun _ iv _ => ss.length - (intOf iv).toNat)
  case atStart => exact ⟨0, Nat.zero_le _, rfl, rfl, Only.refl _ _⟩
  case round =>
    obtain ⟨i, hi, rfl, rfl, ho⟩ := hrel
    by_cases hlt : i < ss.length
    · obtain ⟨b, rfl, _⟩ := HA.out (by omega)
      obtain ⟨s, hsi⟩ : ∃ s, ss[i]? = some s := ⟨_, List.getElem?_eq_getElem hlt⟩
      obtain ⟨q0, q1⟩ := (HR.out.only ho (by simp)).cell rfl rfl hsi
      have HT := hide (cntK_take hsi)
      have HO := hide (fun o => ho.alloc o)
      have hp2 : cntK (ss.take i) ≤ ss.length := Nat.le_trans (cntK_part i) (cntK_le ss)
      have e1 : IntKind.i64.wrap (2048 * ((cntK (ss.take i) : Nat) : Int) + 2048) = 2048 * ((cntK (ss.take i) : Nat) : Int) + 2048 := by rw [IntKind.wrap_i64]; omega
      clear hp2 ho hsi
      by_cases hk : s.kind = 0
      · have hkb : (s.kind != 0) = false := by simp [hk]
        have HK := hide hk
        clear hk
        go_wp2
        go_roundw
        case rel => exact ⟨i + 1, hlt, by go_num, by rw [HT.out]; simp [HK.out], HO.out _⟩
        case measure => simp [intOf]; omega
      · have hkb : (s.kind != 0) = true := by simp [hk]
        have HK := hide hk
        clear hk
        go_wp2
        go_roundw
        case rel => exact ⟨i + 1, hlt, by go_num, by rw [HT.out]; simp [HK.out]; omega, HO.out _⟩
        case measure => simp [intOf]; omega
    · obtain rfl : i = ss.length := by omega
      have HO := hide ho
      clear ho
      go_wp2
      go_ret
      exact ⟨by rw [List.take_length]; rfl, HO.out⟩

/-- How many slabs more there may be. -/
def moreF (L : Int) (ss : List SL) : Int := (L - 2048 * (cntK ss : Nat)) / 2048
theorem hmore_is (h : IsHp w g L v ss m O) (hO : OkH L ss O) : Calls Tryd.prog 31 #[.pointer (some ⟨g, 0, none⟩)] w fun e w' => e = .returned (.int .i64 (moreF L ss)) ∧ Only [] w w' := by
  have c0 : w.cell? ⟨g, 0, none⟩ = some (.int .i64 L) := h.blk.cell 0
  have hgl : g < w.heap.size := Blk.lt h.blk
  have HB := hide (fun (n : Nat) => hBytes_is (h.drewN n) (by have := hO.few; omega))
  have hl := hO.lim
  have hft := hO.fit
  have e1 : IntKind.i64.wrap (L - 2048 * ((cntK ss : Nat) : Int)) = L - 2048 * ((cntK ss : Nat) : Int) := by rw [IntKind.wrap_i64]; omega
  have e2 : IntKind.i64.wrap ((L - 2048 * ((cntK ss : Nat) : Int)).tdiv 2048) = moreF L ss := by
    unfold moreF
    rw [Int.tdiv_eq_ediv_of_nonneg (by omega), IntKind.wrap_i64]
    omega
  have HC := hide (fun (wA : World) (kA : Only [] w wA) => (kA.cell hgl (by simp)).trans c0)
  have f0 := c0
  clear h hO hl hft c0
  go_enter Tryd.func31, Tryd.ntmps31
  go_wp2_with fail
  go_region_held3 (fun w' => w'.cell? ⟨g, 0, none⟩ = some (.int .i64 L)) (first | go_keep | exact HC.out _ kA) (first | (go_at_call 18; refine (HB.out _).mono ?_; rintro e wA ⟨rfl, hoA⟩; have kA : Only [] w wA := Only.trans (by repeat (first | exact Only.refl _ _ | apply Only.drew | apply Only.drewN)) hoA))
  have HK := hide kA
  clear kA hoA
  go_wp2
  go_ret
  exact ⟨rfl, HK.out⟩
end
end Go.Proofs.YtgoaebikgdecoaaDoor
