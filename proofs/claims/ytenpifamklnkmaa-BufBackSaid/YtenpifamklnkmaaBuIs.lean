/-
  Buffers (parapet/buf): where a cache lies: its struct's eight cells (the disk, the room, the map, the order, four counts); slices.IndexFunc, ContainsFunc, DeleteFunc with 'clean'; the calls that only look.
-/
import Derived.Test.YtenpifamklnkmaaBuMap
import Derived.Test.YtenpifamklnkmaaDiskDk
import Derived.RegionTactic
import Derived.Deep.RegionLaw
namespace Go.Proofs.Ytenpifamklnkmaa
open Go.ChangeShapes Go.WideShapes Go.ChangeAt Go.RowKit Go.Maps
set_option linter.unusedVariables false

structure IsBu (w : World) (g m gd : Nat) (room : Int) (v : Value) (ns : List Int) (O : List (Int × BV)) (hi mi ev wr : Int) : Prop where
  blk : Blk w g 55 #[.pointer (some ⟨gd, 0, none⟩), .int .i64 room, .map (some m), v, .int .i64 hi, .int .i64 mi, .int .i64 ev, .int .i64 wr]
  row : IRow w v ns
  own : ∃ D, w.ownsMap Try.prog 3 elemB m O.length D ∧ MHolds encBV D O
/-- The blocks of it. -/
def footB (g m : Nat) (v : Value) : List Nat := g :: m :: v.ownBlock.toList
theorem mem_footB {g m : Nat} {v : Value} {k : Nat} : k ∈ footB g m v ↔ k = g ∨ k = m ∨ v.ownBlock = some k := by
  simp [footB]
theorem mem_own {v : Value} {k : Nat} : k ∈ v.ownBlock.toList ↔ v.ownBlock = some k := by
  cases v.ownBlock with
  | none => simp
  | some q => simp [eq_comm]
theorem ownsMap_onlyB {w w' : World} {b n : Nat} {D : DataW Unit} {S : List Nat} (h : w.ownsMap Try.prog 3 elemB b n D) (ho : Only S w w') (hs : b ∉ S) : w'.ownsMap Try.prog 3 elemB b n D := ownsMap_only h ho hs

section
variable {w w' w1 : World} {g m gd : Nat} {room : Int} {v : Value} {ns : List Int} {O : List (Int × BV)} {hi mi ev wr : Int} {S : List Nat}
theorem IsBu.c0 (h : IsBu w g m gd room v ns O hi mi ev wr) : w.cell? ⟨g, 0, none⟩ = some (.pointer (some ⟨gd, 0, none⟩)) := h.blk.cell 0
theorem IsBu.c1 (h : IsBu w g m gd room v ns O hi mi ev wr) : w.cell? ⟨g, 1, none⟩ = some (.int .i64 room) := h.blk.cell 1
theorem IsBu.c2 (h : IsBu w g m gd room v ns O hi mi ev wr) : w.cell? ⟨g, 2, none⟩ = some (.map (some m)) := h.blk.cell 2
theorem IsBu.c3 (h : IsBu w g m gd room v ns O hi mi ev wr) : w.cell? ⟨g, 3, none⟩ = some v := h.blk.cell 3
theorem IsBu.c4 (h : IsBu w g m gd room v ns O hi mi ev wr) : w.cell? ⟨g, 4, none⟩ = some (.int .i64 hi) := h.blk.cell 4
theorem IsBu.c5 (h : IsBu w g m gd room v ns O hi mi ev wr) : w.cell? ⟨g, 5, none⟩ = some (.int .i64 mi) := h.blk.cell 5
theorem IsBu.c6 (h : IsBu w g m gd room v ns O hi mi ev wr) : w.cell? ⟨g, 6, none⟩ = some (.int .i64 ev) := h.blk.cell 6
theorem IsBu.c7 (h : IsBu w g m gd room v ns O hi mi ev wr) : w.cell? ⟨g, 7, none⟩ = some (.int .i64 wr) := h.blk.cell 7
theorem IsBu.fr (h : IsBu w g m gd room v ns O hi mi ev wr) (o : Nat) : w.frozen? ⟨g, o, none⟩ = false := h.blk.frozen o
theorem IsBu.ltg (h : IsBu w g m gd room v ns O hi mi ev wr) : g < w.heap.size := h.blk.lt
theorem IsBu.ltm (h : IsBu w g m gd room v ns O hi mi ev wr) : m < w.heap.size := by
  obtain ⟨D, h1, _⟩ := h.own
  exact h1.lt
theorem IsBu.ltv (h : IsBu w g m gd room v ns O hi mi ev wr) {k : Nat} (e : v.ownBlock = some k) : k < w.heap.size := (h.row.at_ e).2.1
theorem IsBu.gm (h : IsBu w g m gd room v ns O hi mi ev wr) : g ≠ m := by
  rintro rfl
  obtain ⟨D, ⟨es, clock, hb, _⟩, _⟩ := h.own
  have := h.blk
  unfold Blk at this
  rw [this] at hb
  cases hb
theorem IsBu.vg (h : IsBu w g m gd room v ns O hi mi ev wr) {k : Nat} (e : v.ownBlock = some k) : k ≠ g := h.row.apart h.blk (by decide) k e
theorem irow_mapB {v : Value} {ns : List Int} {n : Nat} {D : DataW Unit} (hr : IRow w v ns) (ho : w.ownsMap Try.prog 3 elemB m n D) {k : Nat} (e : v.ownBlock = some k) : k ≠ m := by
  rintro rfl
  obtain ⟨es, clock, hb, _⟩ := ho
  rcases hr.2 with ⟨e', _⟩ | ⟨b, cap, cur, e', _, hg, _⟩
  · rw [e'] at e; simp [Value.ownBlock] at e
  · rw [e'] at e
    simp only [Value.ownBlock, Option.some.injEq] at e
    subst e
    rw [hg] at hb
    cases hb
theorem IsBu.vm (h : IsBu w g m gd room v ns O hi mi ev wr) {k : Nat} (e : v.ownBlock = some k) : k ≠ m := by
  obtain ⟨D, ho, _⟩ := h.own
  exact irow_mapB h.row ho e
theorem IsBu.nd (h : IsBu w g m gd room v ns O hi mi ev wr) : (O.map (·.1)).Nodup := by
  obtain ⟨D, _, h2⟩ := h.own
  exact h2.nd
theorem IsBu.wf (h : IsBu w g m gd room v ns O hi mi ev wr) {p : Int × BV} (hp : p ∈ O) : iW p.1 := by
  obtain ⟨D, _, h2⟩ := h.own
  exact h2.wf p hp
theorem IsBu.only (h : IsBu w g m gd room v ns O hi mi ev wr) (ho : Only S w w') (hs : ∀ k, k ∈ footB g m v → k ∉ S) : IsBu w' g m gd room v ns O hi mi ev wr := by
  refine ⟨h.blk.only ho (hs g (mem_footB.2 (.inl rfl))), KRow.only h.row ho (fun q hq => hs q (mem_footB.2 (.inr (.inr hq)))), ?_⟩
  obtain ⟨D, h1, h2⟩ := h.own
  exact ⟨D, ownsMap_onlyB h1 ho (hs m (mem_footB.2 (.inr (.inl rfl)))), h2⟩
theorem IsBu.quiet (h : IsBu w g m gd room v ns O hi mi ev wr) (ho : Only [] w w') : IsBu w' g m gd room v ns O hi mi ev wr := h.only ho (by simp)
theorem IsBu.perm (h : IsBu w g m gd room v ns O hi mi ev wr) {O' : List (Int × BV)} (hp : O'.Perm O) : IsBu w g m gd room v ns O' hi mi ev wr := by
  obtain ⟨D, h1, h2⟩ := h.own
  exact ⟨h.blk, h.row, D, by rw [hp.length_eq]; exact h1, h2.perm hp⟩
theorem IsBu.foot_lt (h : IsBu w g m gd room v ns O hi mi ev wr) {k : Nat} (hk : k ∈ footB g m v) : k < w.heap.size := by
  rcases mem_footB.1 hk with rfl | rfl | e
  · exact h.ltg
  · exact h.ltm
  · exact h.ltv e
/-- The order turned, and its cell is set. -/
theorem IsBu.putN (h : IsBu w g m gd room v ns O hi mi ev wr) {x : Value} {xs : List Int} (ho : Only v.ownBlock.toList w w1) (hx : IRow w1 x xs) :
    IsBu (w1.setCell ⟨g, 3, none⟩ x) g m gd room x xs O hi mi ev wr ∧ Only (footB g m v) w (w1.setCell ⟨g, 3, none⟩ x) := by
  have hgS : g ∉ v.ownBlock.toList := fun e => h.vg (mem_own.1 e) rfl
  have hmS : m ∉ v.ownBlock.toList := fun e => h.vm (mem_own.1 e) rfl
  have hb1 := h.blk.only ho hgS
  have hset : Only [g] w1 (w1.setCell ⟨g, 3, none⟩ x) := (Only.refl _ _).setCell _ (by simp)
  have hxg : ∀ k, x.ownBlock = some k → k ≠ g := hx.apart hb1 (by decide)
  obtain ⟨D, h1, h2⟩ := h.own
  refine ⟨⟨hb1.set_ 3 x, KRow.only hx hset (fun q hq hm => hxg q hq (by simpa using hm)), D, ownsMap_onlyB (ownsMap_onlyB h1 ho hmS) hset (by simpa using h.gm.symm), h2⟩, ?_⟩
  exact (ho.mono (fun k _ hk => mem_footB.2 (.inr (.inr (mem_own.1 hk))))).trans (hset.mono (fun k _ hk => by simp at hk; exact mem_footB.2 (.inl hk)))
/-- The map turned. -/
theorem IsBu.putM (h : IsBu w g m gd room v ns O hi mi ev wr) {O' : List (Int × BV)} (ho : Only [m] w w1) (h1 : ∃ D', w1.ownsMap Try.prog 3 elemB m O'.length D' ∧ MHolds encBV D' O') : IsBu w1 g m gd room v ns O' hi mi ev wr :=
  ⟨h.blk.only ho (by simpa using h.gm), KRow.only h.row ho (fun q hq hm => h.vm hq (by simpa using hm)), h1⟩
/-- A count is set. -/
theorem IsBu.restr (h : IsBu w g m gd room v ns O hi mi ev wr) {hi' mi' ev' wr' : Int} (ho : Only [g] w w1) (hb : Blk w1 g 55 #[.pointer (some ⟨gd, 0, none⟩), .int .i64 room, .map (some m), v, .int .i64 hi', .int .i64 mi', .int .i64 ev', .int .i64 wr']) : IsBu w1 g m gd room v ns O hi' mi' ev' wr' := by
  obtain ⟨D, h1, h2⟩ := h.own
  exact ⟨hb, KRow.only h.row ho (fun q hq hm => h.vg hq (by simpa using hm)), D, ownsMap_onlyB h1 ho (by simpa using h.gm.symm), h2⟩
end

theorem field1B (sv : Value) (dd : Bool) (w : World) : (Instr.field 57 (.agg #[sv, .bool dd]) 1).run Try.prog w = .ok (.bool dd) w := by kernel_rfl

theorem buclosed_nil (w : World) : Calls Try.prog 25 #[.pointer none] w fun e w' => e = .returned (.bool true) ∧ w = w' := by
  go_enter Try.func25, Try.ntmps25
  go_wp2
  go_ret
  exact ⟨rfl, rfl⟩

section
variable {w w' w1 : World} {g m gd : Nat} {room : Int} {v : Value} {ns : List Int} {O : List (Int × BV)} {hi mi ev wr : Int} (h : IsBu w g m gd room v ns O hi mi ev wr)
include h

theorem buclosed_is : Calls Try.prog 25 #[.pointer (some ⟨g, 0, none⟩)] w fun e w' => e = .returned (.bool false) ∧ w = w' := by
  have c0 := h.c0
  clear h
  go_enter Try.func25, Try.ntmps25
  go_wp2
  go_ret
  exact ⟨rfl, rfl⟩

theorem buclean_is {t : Int} {f : BV} (hp : (t, f) ∈ O) : Calls Try.prog 32 #[.pointer (some ⟨g, 0, none⟩), .int .i64 t] w fun e w' => e = .returned (.bool (!f.2)) ∧ w = w' := by
  have c2 := h.c2
  obtain ⟨D, h1, h2⟩ := h.own
  have hl : (Instr.lookup 53 (.map (some m)) (.int .i64 t) false).run Try.prog w = .ok (.agg #[svO f.1, .bool f.2]) w := lookB h2 h1 hp
  clear h h1 h2 hp
  generalize svO f.1 = sv at hl
  generalize f.2 = dd at *
  have hf := field1B sv dd w
  go_enter Try.func32, Try.ntmps32
  go_wp2
  go_ret
  exact ⟨rfl, rfl⟩

theorem buKept_is (hf : ns.length ≤ 1024) : Calls Try.prog 20 #[.pointer (some ⟨g, 0, none⟩)] w fun e w' => ∃ v', e = .returned v' ∧ IRow w' v' ns ∧ (∀ q, v'.ownBlock = some q → w.heap.size ≤ q) ∧ Only [] w w' := by
  have HC := hide (buclosed_is h)
  have c3 := h.c3
  have HK := hide (cloneI_is h.row (Nat.le_trans hf (by decide)))
  obtain ⟨A, c, rfl, _⟩ := h.row.form2
  clear h
  go_enter Try.func20, Try.ntmps20
  go_wp2_with (first | (go_at_call 25; refine HC.out.mono ?_; rintro e w' ⟨rfl, rfl⟩) | (go_at_call 42; refine HK.out.mono ?_; rintro e w' ⟨v', rfl, hr, hb, ho⟩; have HR := hide hr; have HB := hide hb; have HO := hide ho; clear hr hb ho))
  go_ret
  exact ⟨_, rfl, HR.out, HB.out, HO.out⟩
end

/-- The first number that is so; below 0 if none is. -/
def fstI (p : Int → Bool) (ns : List Int) : Int := match ns.findIdx? p with | some i => (i : Int) | none => -1
section
variable {p : Int → Bool}
theorem fstI_yes {ns : List Int} {i : Nat} {s : Int} (hs : ns[i]? = some s) (he : p s = true) (hf : ∀ j s', j < i → ns[j]? = some s' → p s' = false) : fstI p ns = i := by
  have hi := (List.getElem?_eq_some_iff.1 hs).1
  have : ns.findIdx? p = some i := by
    rw [List.findIdx?_eq_some_iff_getElem]
    refine ⟨hi, ?_, fun j hj => ?_⟩
    · rw [(List.getElem?_eq_some_iff.1 hs).2]; exact he
    · have := hf j _ hj (List.getElem?_eq_getElem (by omega))
      simpa using this
  unfold fstI
  rw [this]
theorem fstI_no {ns : List Int} (hf : ∀ s ∈ ns, p s = false) : fstI p ns = -1 := by
  have : ns.findIdx? p = none := by
    rw [List.findIdx?_eq_none_iff]
    intro x hx
    simpa using hf x hx
  unfold fstI
  rw [this]
theorem fstI_cases (p : Int → Bool) (ns : List Int) : (fstI p ns = -1 ∧ ∀ s ∈ ns, p s = false) ∨ ∃ (i : Nat) (s : Int), ns[i]? = some s ∧ p s = true ∧ fstI p ns = i ∧ ∀ (j : Nat) (s' : Int), j < i → ns[j]? = some s' → p s' = false := by
  cases hF : ns.findIdx? p with
  | none =>
    left
    have hG := hF
    rw [List.findIdx?_eq_none_iff] at hG
    have hG' : ∀ s ∈ ns, p s = false := fun s hs => by simpa using hG s hs
    exact ⟨fstI_no hG', hG'⟩
  | some i =>
    right
    have hF' := hF
    rw [List.findIdx?_eq_some_iff_getElem] at hF
    obtain ⟨hi, h1, h2⟩ := hF
    refine ⟨i, ns[i], List.getElem?_eq_getElem hi, h1, by unfold fstI; rw [hF'], fun j s' hj hs => ?_⟩
    have := h2 j hj
    rw [(List.getElem?_eq_some_iff.1 hs).2] at this
    simpa using this
end
/-- What 'clean' says of each of these. -/
def ClOn (cl : Int → Bool) (O : List (Int × BV)) (xs : List Int) : Prop := ∀ t ∈ xs, ∃ f, (t, f) ∈ O ∧ cl t = !f.2
section
variable {w w' w1 : World} {g m gd : Nat} {room : Int} {v u : Value} {ns xs : List Int} {O : List (Int × BV)} {hi mi ev wr : Int} {cl : Int → Bool}
theorem clean_of (h : IsBu w g m gd room v ns O hi mi ev wr) (hc : ClOn cl O xs) {t : Int} (ht : t ∈ xs) : Calls Try.prog 32 #[.pointer (some ⟨g, 0, none⟩), .int .i64 t] w fun e w' => e = .returned (.bool (cl t)) ∧ w = w' := by
  obtain ⟨f, hf, e⟩ := hc t ht
  rw [e]
  exact buclean_is h hf

theorem idxCl_is (h : IsBu w g m gd room v ns O hi mi ev wr) (hr : IRow w u xs) (hf : xs.length ≤ 1024) (hc : ClOn cl O xs) :
    Calls Try.prog 47 #[u, .func (.func 32) #[.pointer (some ⟨g, 0, none⟩)] #[]] w fun e w' => e = .returned (.int .i64 (fstI cl xs)) ∧ w = w' := by
  obtain ⟨A, c, rfl, hA, _, _, hcl⟩ := hr.form2
  have HA := hide hcl
  have HAN := hide hA
  have HB := hide (fun t (ht : t ∈ xs) => clean_of h hc ht)
  clear h hr hcl hA hc
  go_enter Try.func47, Try.ntmps47
  go_wp2_with fail
  go_loopw [8] (fun iv wr => ∃ i : Nat, i ≤ xs.length ∧ iv = .int .i64 i ∧ (∀ j s', j < i → xs[j]? = some s' → cl s' = false) ∧ wr = w) (fun iv _ => xs.length - (intOf iv).toNat)
  case atStart => exact ⟨0, Nat.zero_le _, rfl, fun j s' hj => absurd hj (by omega), rfl⟩
  case round =>
    obtain ⟨i, hi, rfl, hn, rfl⟩ := hrel
    have HN := hide hn
    clear hn
    by_cases hlt : i < xs.length
    · have hltI : (i : Int) < xs.length := by omega
      obtain ⟨ad, rfl⟩ : ∃ ad, A = some ad := by
        rcases A with _ | ad
        · have := (HAN.out rfl).1; omega
        · exact ⟨ad, rfl⟩
      obtain ⟨b, rfl, _, hcell⟩ := HA.out ad rfl
      have ci := hcell i (.int .i64 xs[i]) (by simp [i64l, hlt])
      have HS := hide (show xs[i]? = some xs[i] from List.getElem?_eq_getElem hlt)
      have HC := hide (HB.out xs[i] (List.getElem_mem hlt))
      generalize xs[i] = x at *
      clear hcell
      cases he : cl x
      · rw [he] at HC
        have HE := hide he
        clear he
        go_wp2_with (go_at_call 32; refine HC.out.mono ?_; rintro e w' ⟨rfl, rfl⟩)
        go_roundw
        case rel =>
          refine ⟨i + 1, hlt, by go_num, fun j s' hj hs' => ?_, trivial⟩
          by_cases hjk : j = i
          · subst hjk
            rw [HS.out] at hs'
            injection hs' with hs'
            rw [← hs']; exact HE.out
          · exact HN.out j s' (by omega) hs'
        case measure => simp [intOf]; omega
      · rw [he] at HC
        have HE := hide he
        clear he
        go_wp2_with (go_at_call 32; refine HC.out.mono ?_; rintro e w' ⟨rfl, rfl⟩)
        go_ret
        exact ⟨by rw [fstI_yes HS.out HE.out HN.out]; rfl, rfl⟩
    · obtain rfl : i = xs.length := by omega
      go_wp2
      go_ret
      exact ⟨by rw [fstI_no fun s hs => by obtain ⟨j, hj, e⟩ := List.getElem_of_mem hs; exact HN.out j s hj (by rw [List.getElem?_eq_getElem hj, e])]; rfl, rfl⟩

theorem hasCl_is (h : IsBu w g m gd room v ns O hi mi ev wr) (hr : IRow w u xs) (hf : xs.length ≤ 1024) (hc : ClOn cl O xs) :
    Calls Try.prog 46 #[u, .func (.func 32) #[.pointer (some ⟨g, 0, none⟩)] #[]] w fun e w' => e = .returned (.bool (xs.any cl)) ∧ w = w' := by
  have HI := hide (idxCl_is h hr hf hc)
  clear h hr
  rcases fstI_cases cl xs with ⟨e1, e2⟩ | ⟨i, s, hs, e1, e2, _⟩
  · rw [e1] at HI
    have HE := hide (show xs.any cl = false from List.any_eq_false.2 (fun x hx => by simp [e2 x hx]))
    clear e1 e2
    go_enter Try.func46, Try.ntmps46
    go_wp2_with (go_at_call 47; refine HI.out.mono ?_; rintro e w' ⟨rfl, rfl⟩)
    go_ret
    exact ⟨by rw [HE.out]; rfl, rfl⟩
  · rw [e2] at HI
    have HE := hide (show xs.any cl = true from List.any_eq_true.2 ⟨s, List.mem_of_getElem? hs, e1⟩)
    clear e1 e2 hs
    go_enter Try.func46, Try.ntmps46
    go_wp2_with (go_at_call 47; refine HI.out.mono ?_; rintro e w' ⟨rfl, rfl⟩)
    go_ret
    exact ⟨by rw [HE.out]; simp, rfl⟩
end
end Go.Proofs.Ytenpifamklnkmaa
