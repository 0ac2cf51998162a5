/-
  Buffers (parapet/buf): Back, Forget, Dirty.
-/
import Derived.Test.YtenpifamklnkmaaBuMDel
import Derived.Test.YtenpifamklnkmaaSortRow
namespace Go.Proofs.Ytenpifamklnkmaa
open Go.ChangeShapes Go.WideShapes Go.ChangeAt Go.RowKit Go.Maps
set_option linter.unusedVariables false

/-- A block is clean from now on. -/
def cleanV (L : List VB) (n : Int) : List VB := L.map fun x => if x.n = n then ⟨x.n, x.d, false⟩ else x
def cleanK (L : List BK) (n : Int) : List BK := L.map fun x => if x.n = n then ⟨x.n, x.b, x.r, x.d, false⟩ else x
theorem cleanK_v (L : List BK) (n : Int) : (cleanK L n).map BK.v = cleanV (L.map BK.v) n := by
  unfold cleanK cleanV
  rw [List.map_map, List.map_map]
  refine List.map_congr_left fun x _ => ?_
  show BK.v (if x.n = n then _ else _) = if x.v.n = n then _ else _
  by_cases e : x.n = n
  · rw [if_pos e, if_pos (show x.v.n = n from e)]; rfl
  · rw [if_neg e, if_neg (show ¬ x.v.n = n from e)]
theorem cleanK_ns (L : List BK) (n : Int) : nsK (cleanK L n) = nsK L := by
  unfold nsK cleanK
  rw [List.map_map]
  refine List.map_congr_left fun x _ => ?_
  show (if x.n = n then _ else _ : BK).n = x.n
  split <;> rfl
theorem cleanK_pr {L : List BK} (hn : (nsK L).Nodup) {x : BK} (hx : x ∈ L) : setV (prK L) x.n (some ⟨x.b, 512, 512 + x.r.length⟩, false) = prK (cleanK L x.n) := by
  unfold prK cleanK setV
  rw [List.map_map, List.map_map]
  refine List.map_congr_left fun z hz => ?_
  show (if z.n = x.n then _ else _) = BK.pr (if z.n = x.n then _ else _)
  by_cases e : z.n = x.n
  · rw [if_pos e, if_pos e]
    have := nd_uniq hn hz hx e
    subst this
    rfl
  · rw [if_neg e, if_neg e]
theorem mem_cleanK {L : List BK} {n : Int} {y : BK} (hy : y ∈ cleanK L n) : ∃ x ∈ L, y.n = x.n ∧ y.b = x.b ∧ y.r = x.r ∧ y.d = x.d := by
  obtain ⟨x, hx, rfl⟩ := List.mem_map.1 hy
  refine ⟨x, hx, ?_⟩
  split <;> simp

section
variable {w w' w1 : World} {g m gd N room : Nat} {v v' : Value} {LL LL' : List BK} {hi mi ev wr : Int} {plat : List Int} {l : List (Nat × List Int)} {rd wt fl : Int} {k k' : Nat} {FD F S : List Nat} {L : List VB}
set_option maxRecDepth 100000 in
theorem back_clean_run (hc0 : Calls Try.prog 25 #[.pointer (some ⟨g, 0, none⟩)] w fun e w' => e = .returned (.bool false) ∧ w = w') (c2 : w.cell? ⟨g, 2, none⟩ = some (.map (some m))) {n : Int} {A : Option Addr} {a c : Nat} (hl : (Instr.lookup 53 (.map (some m)) (.int .i64 n) false).run Try.prog w = .ok (.agg #[.slice A a c, .bool false]) w) :
    Calls Try.prog 14 #[.pointer (some ⟨g, 0, none⟩), .int .i64 n] w fun e w' => e = .returned (.tuple #[.bool false, .int .i64 0]) ∧ Only [] w w' := by
  have HC := hide hc0
  have HO := hide (fun o => (Only.refl [] w).alloc o)
  clear hc0
  go_enter Try.func14, Try.ntmps14
  go_wp2_with (go_at_call 25; refine HC.out.mono ?_; rintro e w' ⟨rfl, rfl⟩)
  go_ret2
  exact ⟨rfl, HO.out _⟩
theorem back_no (h : BuI w g m gd N room v LL hi mi ev wr plat l rd wt fl k FD) {n : Int} (hn : iW n) (hno : ∀ x ∈ LL, x.n = n → x.y = false) :
    Calls Try.prog 14 #[.pointer (some ⟨g, 0, none⟩), .int .i64 n] w fun e w' => e = .returned (.tuple #[.bool false, .int .i64 0]) ∧ Only [] w w' := by
  obtain ⟨D, k1, k2⟩ := h.is.own
  by_cases hm : n ∈ nsK LL
  · obtain ⟨x, hx, rfl⟩ := List.mem_map.1 hm
    have hy := hno x hx rfl
    have hl : (Instr.lookup 53 (.map (some m)) (.int .i64 x.n) false).run Try.prog w = .ok (.agg #[.slice (some ⟨x.b, 0, none⟩) 512 (512 + x.r.length), .bool x.y]) w := lookB k2 k1 (List.mem_map.2 ⟨x, hx, rfl⟩)
    rw [hy] at hl
    exact back_clean_run (buclosed_is h.is) h.is.c2 hl
  · exact back_clean_run (buclosed_is h.is) h.is.c2 (lookB_no k2 k1 hn (by rw [keys_pr]; exact hm))
/-- What Back leaves of a dirty block: the disk has one write more. -/
def BackF (w w' : World) (g gd N room : Nat) (plat : List Int) (l : List (Nat × List Int)) (L : List VB) (k : Nat) (F : List Nat) (x : VB) : Prop :=
  ∃ F', Turned w w' F F' ∧ Bu w' g gd N room plat (l ++ [(x.n.toNat, x.d)]) (cleanV L x.n) (k + 1) F'
set_option maxRecDepth 100000 in
theorem back_tail {x : BK} {q : Nat} {FD' : List Nat} {w2 w3 : World} (h : BuI w g m gd N room v LL hi mi ev wr plat l rd wt fl k FD) (hF : ∀ q, q ∈ footB g m v ∨ q ∈ FD ∨ (∃ x ∈ LL, x.b = q) → q ∈ F) (hx : x ∈ LL) (ho : Only [] w w1) (hq : Blk w1 q 57 #[.slice (some ⟨x.b, 0, none⟩) 512 (512 + x.r.length), .bool x.y]) (hqw : w.heap.size ≤ q)
    (hT : Turned w1 w2 FD FD') (hd : Dk w2 gd N plat (l ++ [(x.n.toNat, x.d)]) (-1) rd (wt + 1) fl (k + 1) FD') (h3 : w3 = w2.setCell ⟨q, 1, none⟩ (.bool false)) :
    w2.frozen? ⟨q, 1, none⟩ = false ∧ w2.cell? ⟨q, 1, none⟩ = some (.bool x.y) ∧ w2.cell? ⟨q, 0, none⟩ = some (.slice (some ⟨x.b, 0, none⟩) 512 (512 + x.r.length)) ∧ w3.cell? ⟨q, 0, none⟩ = some (.slice (some ⟨x.b, 0, none⟩) 512 (512 + x.r.length)) ∧ w3.cell? ⟨q, 1, none⟩ = some (.bool false) ∧ (w2.cell? ⟨g, 2, none⟩ = some (.map (some m)) ∧ w3.cell? ⟨g, 2, none⟩ = some (.map (some m))) ∧ q ≠ g ∧
      ∃ fW : World → World, ∀ W, Only [] w3 W → (Instr.mapUpdate 53 (.map (some m)) (.int .i64 x.n) (.agg #[.slice (some ⟨x.b, 0, none⟩) 512 (512 + x.r.length), .bool false])).run Try.prog W = .ok () (fW W) ∧ (fW W).cell? ⟨g, 7, none⟩ = some (.int .i64 wr) ∧ (fW W).frozen? ⟨g, 7, none⟩ = false ∧
        BackF w ((fW W).setCell ⟨g, 7, none⟩ (.int .i64 (wr + 1))) g gd N room plat l (LL.map BK.v) k F x.v := by
  have hqF : q ∉ FD := fun e => by have := h.dk.lt q e; omega
  have h1 := h.quiet ho
  have hq2 := hq.only hT.1 hqF
  have hI2 := h1.is.only hT.1 h.dis
  have hqg : q ≠ g := hq2.ne_ hI2.blk (by decide)
  have ho3 : Only [q] w2 w3 := by rw [h3]; exact (Only.refl _ _).setCell _ (by simp)
  have hq3 : Blk w3 q 57 #[.slice (some ⟨x.b, 0, none⟩) 512 (512 + x.r.length), .bool false] := by rw [h3]; exact hq2.set_ 1 (.bool false)
  have hqf : ∀ z ∈ footB g m v, z ∉ [q] := fun z hz hm => by simp at hm; subst hm; have := h.is.foot_lt hz; omega
  have hI3 := hI2.only ho3 hqf
  have hd3 := hd.only ho3 (fun z hz hm => by
    simp at hm; subst hm
    rcases hT.2 z hz with e | e
    · exact hqF e
    · have := hq.lt; omega)
  have hdis : ∀ z ∈ footB g m v, z ∉ FD' := fun z hz e => by
    rcases hT.2 z e with e | e
    · exact h.dis z hz e
    · have := h1.is.foot_lt hz; omega
  have hok3 : ∀ z ∈ LL, z.ok w3 N FD' := fun z hz => by
    have hz1 := h1.ok z hz
    have hz2 := (hz1.only hT.1 hz1.far).only ho3 (fun e => by simp at e; have := (h.ok z hz).row.lt; omega)
    exact ⟨hz2.row, hz2.len, hz2.u8, fun e => by
      rcases hT.2 _ e with e | e
      · exact hz1.far e
      · have := hz1.row.lt; omega, hz2.rng⟩
  refine ⟨hq2.frozen 1, hq2.cell 1, hq2.cell 0, hq3.cell 0, hq3.cell 1, ⟨hI2.c2, hI3.c2⟩, hqg, ?_⟩
  refine skolemB (A := fun W => Only [] w3 W) (P := fun W V => (Instr.mapUpdate 53 (.map (some m)) (.int .i64 x.n) (.agg #[.slice (some ⟨x.b, 0, none⟩) 512 (512 + x.r.length), .bool false])).run Try.prog W = .ok () V ∧ V.cell? ⟨g, 7, none⟩ = some (.int .i64 wr) ∧ V.frozen? ⟨g, 7, none⟩ = false ∧ BackF w (V.setCell ⟨g, 7, none⟩ (.int .i64 (wr + 1))) g gd N room plat l (LL.map BK.v) k F x.v) (fun W hW => ?_)
  have hIW := hI3.quiet hW
  obtain ⟨V, r1, r2, r3⟩ := putO_store (n := x.n) (f := (some ⟨x.b, 512, 512 + x.r.length⟩, false)) hIW (h.iw (h.ok x hx).rng) h.small.2
  have hpo : putO (prK LL) x.n (some ⟨x.b, 512, 512 + x.r.length⟩, false) = prK (cleanK LL x.n) := by
    unfold putO
    rw [if_pos (by rw [keys_pr]; exact List.mem_map.2 ⟨x, hx, rfl⟩), cleanK_pr h.nd hx]
  rw [hpo, ← cleanK_ns LL x.n] at r2
  have ho7 : Only [g] V (V.setCell ⟨g, 7, none⟩ (.int .i64 (wr + 1))) := (Only.refl _ _).setCell _ (by simp)
  have hI7 := r2.restr (wr' := wr + 1) ho7 (r2.blk.set_ 7 _)
  have hgF : g ∉ FD' := hdis g (mem_footB.2 (.inl rfl))
  have hmF : m ∉ FD' := hdis m (mem_footB.2 (.inr (.inl rfl)))
  have hd7 := (((hd3.quiet hW).only r3 (fun z hz e => hmF (by simp at e; rw [← e]; exact hz))).only ho7 (fun z hz e => hgF (by simp at e; rw [← e]; exact hz)))
  have hok7 : ∀ z ∈ LL, z.ok (V.setCell ⟨g, 7, none⟩ (.int .i64 (wr + 1))) N FD' := fun z hz => by
    have hz3 := (hok3 z hz).only hW (by simp)
    have hf := h.u8_far (h.ok z hz).row
    exact (hz3.only r3 (fun e => hf (by simp at e; rw [e]; exact mem_footB.2 (.inr (.inl rfl))))).only ho7 (fun e => hf (by simp at e; rw [e]; exact mem_footB.2 (.inl rfl)))
  have hcn := h.cnt
  have hB : BuI (V.setCell ⟨g, 7, none⟩ (.int .i64 (wr + 1))) g m gd N room v (cleanK LL x.n) hi mi ev (wr + 1) plat (l ++ [(x.n.toNat, x.d)]) rd (wt + 1) fl (k + 1) FD' :=
    ⟨hI7, hd7, fun z hz => by
      obtain ⟨y, hy, e1, e2, e3, e4⟩ := mem_cleanK hz
      have := hok7 y hy
      exact ⟨by rw [e2, e3, e4]; exact this.row, by rw [e4]; exact this.len, by rw [e4]; exact this.u8, by rw [e2]; exact this.far, by rw [e1]; exact this.rng⟩, by unfold cleanK; rw [List.length_map]; exact h.len, h.rm, by omega, hdis⟩
  refine ⟨V, r1, r2.c7, r2.fr 7, ?_⟩
  have hO : Only F w (V.setCell ⟨g, 7, none⟩ (.int .i64 (wr + 1))) := by
    have o1 : Only F w w2 := (ho.mono (by simp)).trans (hT.1.mono (fun z _ hz => hF z (.inr (.inl hz))))
    have o2 : Only F w w3 := o1.trans' ho3 (fun z hz hm => by simp at hm; omega)
    exact ((o2.trans (hW.mono (by simp))).trans (r3.mono (fun z _ hz => by simp at hz; subst hz; exact hF _ (.inl (mem_footB.2 (.inr (.inl rfl))))))).trans (ho7.mono (fun z _ hz => by simp at hz; subst hz; exact hF _ (.inl (mem_footB.2 (.inl rfl)))))
  have := Bu.mk2 (F := F) hB hO (fun z hz => .inl (hF z (.inl hz))) (fun z hz => (hT.2 z hz).imp (fun e => hF z (.inr (.inl e))) (fun e => Nat.le_trans ho.size e)) (fun z hz => by
    obtain ⟨y, hy, e1, e2, e3, e4⟩ := mem_cleanK hz
    exact .inl (hF _ (.inr (.inr ⟨y, hy, e2.symm⟩))))
  rw [cleanK_v] at this
  exact this
set_option maxRecDepth 100000 in
set_option maxHeartbeats 1500000 in
theorem back_yes (h : BuI w g m gd N room v LL hi mi ev wr plat l rd wt fl k FD) (hF : ∀ q, q ∈ footB g m v ∨ q ∈ FD ∨ (∃ x ∈ LL, x.b = q) → q ∈ F) (hk : k < 4398046511000) {x : BK} (hx : x ∈ LL) (hy : x.y = true) :
    Calls Try.prog 14 #[.pointer (some ⟨g, 0, none⟩), .int .i64 x.n] w fun e w' => e = .returned (.tuple #[.bool true, .int .i64 0]) ∧ BackF w w' g gd N room plat l (LL.map BK.v) k F x.v := by
  have HC := hide (buclosed_is h.is)
  have c2 := h.is.c2
  obtain ⟨D, k1, k2⟩ := h.is.own
  have hl : (Instr.lookup 53 (.map (some m)) (.int .i64 x.n) false).run Try.prog w = .ok (.agg #[.slice (some ⟨x.b, 0, none⟩) 512 (512 + x.r.length), .bool x.y]) w := lookB k2 k1 (List.mem_map.2 ⟨x, hx, rfl⟩)
  rw [hy] at hl
  have hA : Only [] w (w.alloc (.cells #[.slice (some ⟨x.b, 0, none⟩) 512 (512 + x.r.length), .bool true] 57)) := (Only.refl [] w).alloc _
  have hq := Blk.new w 57 #[.slice (some ⟨x.b, 0, none⟩) 512 (512 + x.r.length), .bool true]
  have c0 := (h.quiet hA).is.c0
  have hcn := h.cnt
  have hrg := (h.ok x hx).rng
  have hDW := h.dk.counts
  have HD := hide (fun W (hW : Only [] (w.alloc (.cells #[.slice (some ⟨x.b, 0, none⟩) 512 (512 + x.r.length), .bool true] 57)) W) => by
    have h1 := (h.quiet hA).quiet hW
    have hxo := h1.ok x hx
    have hwr := dk_write h1.dk x.n.toNat x.b 0 (512 + x.r.length) x.d (by omega) (by decide) (by decide) hxo.len hxo.u8 (fun i hi => by rw [Nat.zero_add, hxo.row.cell]; exact u8l_get _ _ i (by rw [hxo.len]; exact hi)) hxo.row.lt hxo.far (by omega)
    rw [show ((x.n.toNat : Nat) : Int) = x.n by omega] at hwr
    exact (hwr.mono (R' := fun e w2 => e = .returned (.int .i64 0) ∧ w2.frozen? ⟨w.heap.size, 1, none⟩ = false ∧ w2.cell? ⟨w.heap.size, 1, none⟩ = some (.bool true) ∧ w2.cell? ⟨w.heap.size, 0, none⟩ = some (.slice (some ⟨x.b, 0, none⟩) 512 (512 + x.r.length)) ∧ (w2.setCell ⟨w.heap.size, 1, none⟩ (.bool false)).cell? ⟨w.heap.size, 0, none⟩ = some (.slice (some ⟨x.b, 0, none⟩) 512 (512 + x.r.length)) ∧ (w2.setCell ⟨w.heap.size, 1, none⟩ (.bool false)).cell? ⟨w.heap.size, 1, none⟩ = some (.bool false) ∧ (w2.cell? ⟨g, 2, none⟩ = some (.map (some m)) ∧ (w2.setCell ⟨w.heap.size, 1, none⟩ (.bool false)).cell? ⟨g, 2, none⟩ = some (.map (some m))) ∧ w.heap.size ≠ g ∧
      ∃ fW : World → World, ∀ W, Only [] (w2.setCell ⟨w.heap.size, 1, none⟩ (.bool false)) W → (Instr.mapUpdate 53 (.map (some m)) (.int .i64 x.n) (.agg #[.slice (some ⟨x.b, 0, none⟩) 512 (512 + x.r.length), .bool false])).run Try.prog W = .ok () (fW W) ∧ (fW W).cell? ⟨g, 7, none⟩ = some (.int .i64 wr) ∧ (fW W).frozen? ⟨g, 7, none⟩ = false ∧
        BackF w ((fW W).setCell ⟨g, 7, none⟩ (.int .i64 (wr + 1))) g gd N room plat l (LL.map BK.v) k F x.v)
      (fun e w2 ⟨he, FD', hT, hd⟩ => ⟨he, by
        have hqW := hq.only hW (by simp)
        rw [← hy] at hqW
        have := back_tail (FD' := FD') h hF hx (hA.trans hW) hqW (Nat.le_refl _) hT hd rfl
        rw [hy] at this
        exact this⟩)))
  clear h k1 k2 hA hq hF hx hrg hDW
  go_enter Try.func14, Try.ntmps14
  go_wp2_with (go_at_call 25; refine HC.out.mono ?_; rintro e w' ⟨rfl, rfl⟩)
  go_region_law (go_simp; go_at_call 30; refine (HD.out _ (by repeat (first | exact Only.refl _ _ | apply Only.drew | apply Only.drewN))).mono ?_; rintro e w2 ⟨rfl, f0, b1, b0, d0, d1, ⟨d2, d2'⟩, hqg, fW, hfW⟩; have u0 := (hfW _ (Only.refl _ _)).1; have u1 := (hfW _ (Only.refl _ _).drew).1; have u2 := fun n => (hfW _ ((Only.refl _ _).drewN n)).1; have v0 := (hfW _ (Only.refl _ _)).2.1; have v1 := (hfW _ (Only.refl _ _).drew).2.1; have v2 := fun n => (hfW _ ((Only.refl _ _).drewN n)).2.1; have x0 := (hfW _ (Only.refl _ _)).2.2.1; have x1 := (hfW _ (Only.refl _ _).drew).2.2.1; have x2 := fun n => (hfW _ ((Only.refl _ _).drewN n)).2.2.1; have HFW := hide hfW; clear hfW)
  all_goals
    go_wp2
    go_region
    all_goals
      go_wp2
      go_ret2
      exact ⟨rfl, (HFW.out _ (by repeat (first | exact Only.refl _ _ | apply Only.drew | apply Only.drewN))).2.2.2⟩
end
end Go.Proofs.Ytenpifamklnkmaa
