/-
  What it is for a world to hold a disk (parapet/disk): its struct, its platter, its pending writes, its map; and the small calls on it.
-/
import Derived.Test.YtpajdnjbeplneaaAppendNew
import Derived.Maps.OwnSet
namespace Go.Proofs.Ytpajdnjbeplneaa
open Go.ChangeShapes Go.WideShapes Go.ChangeAt Go.RowKit Go.Maps
set_option linter.unusedVariables false

/-- A pending write: its sector, its bytes, where they lie. -/
structure WR where
  sec : Nat
  blk : Nat
  rest : List Value
  data : List Int
def WR.cells (x : WR) : List Value := [.int .i64 x.sec, .slice (some ⟨x.blk, 0, none⟩) 512 (512 + x.rest.length)]
structure WR.ok (w : World) (N : Nat) (x : WR) : Prop where
  row : Blk w x.blk 5 (u8l x.data ++ x.rest).toArray
  len : x.data.length = 512
  sec : x.sec < N
  u8 : U8 x.data
theorem WR.ok.only {w w' : World} {N : Nat} {x : WR} {S : List Nat} (h : x.ok w N) (ho : Only S w w') (hs : x.blk ∉ S) : x.ok w' N := ⟨h.row.only ho hs, h.len, h.sec, h.u8⟩

/-- Place i is the last write of sector n. -/
def IsLast (ws : List WR) (n i : Nat) : Prop := ∃ x : WR, ws[i]? = some x ∧ x.sec = n ∧ ∀ (j : Nat) (y : WR), i < j → ws[j]? = some y → y.sec ≠ n
/-- The map says of each sector the place of its last write. -/
def Lasts (D : DataW Unit) (ws : List WR) : Prop :=
  IsMap D ∧ (∀ n i, IsLast ws n i → has D (.int .i64 n) = true ∧ D.atKey (.int .i64 n) (.lit (.int .i64 0)) = .lit (.int .i64 i)) ∧
  ∀ n : Nat, (∀ (i : Nat) (x : WR), ws[i]? = some x → x.sec ≠ n) → has D (.int .i64 n) = false

/-- A disk: N sectors, the platter's bytes, the pending writes, what is left, the counts. g: the struct's block; pb: the platter's; mb: the map's; pv: the slice of writes. -/
structure IsDisk (w : World) (g pb pc mb : Nat) (pr : List Value) (pv : Value) (D : DataW Unit) (N : Nat) (plat : List Int) (ws : List WR) (left rd wt fl : Int) : Prop where
  str : Blk w g 109 #[.slice (some ⟨pb, 0, none⟩) (512 * N) pc, pv, .map (some mb), .int .i64 left, .int .i64 rd, .int .i64 wt, .int .i64 fl]
  row : Blk w pb 5 (u8l plat ++ pr).toArray
  len : plat.length = 512 * N
  cap : 512 * N + pr.length = pc
  pos : 1 ≤ N
  big : N ≤ 4096
  u8 : U8 plat
  own : w.ownsRow 0 111 2 pv ws.length (ws.flatMap WR.cells)
  wok : ∀ x ∈ ws, x.ok w N
  map : w.ownsMap Try.prog 3 (plainElem Try.prog 3) mb ws.length D
  last : Lasts D ws
  few : ws.length ≤ 4398046511000

/-- The blocks that a call on it may turn. -/
def foot (g pb mb : Nat) (pv : Value) : List Nat := g :: pb :: mb :: (match pv.ownBlock with | some k => [k] | none => [])

theorem ownsRow_only {w w' : World} {base e size n : Nat} {v : Value} {xs : List Value} {S : List Nat} (h : w.ownsRow base e size v n xs) (ho : Only S w w') (hs : ∀ k, v.ownBlock = some k → k ∉ S) : w'.ownsRow base e size v n xs := by
  obtain ⟨hl, h⟩ := h
  refine ⟨hl, ?_⟩
  rcases h with hn | ⟨k, cap, cur, rfl, hb, hg, rest⟩
  · exact .inl hn
  · exact .inr ⟨k, cap, cur, rfl, hb, Blk.only hg ho (hs k rfl), rest⟩
theorem ownsMap_only {w w' : World} {P : Program} {k : TypeId} {R : Value → Option (DataW Unit × List MemPlace)} {b n : Nat} {D : DataW Unit} {S : List Nat} (h : w.ownsMap P k R b n D) (ho : Only S w w') (hs : b ∉ S) : w'.ownsMap P k R b n D := by
  have hlt := h.lt
  obtain ⟨es, clock, hb, rest⟩ := h
  exact ⟨es, clock, (ho.block b hlt hs).trans hb, rest⟩

section
variable {w w' : World} {g pb pc mb : Nat} {pr : List Value} {pv : Value} {D : DataW Unit} {N : Nat} {plat : List Int} {ws : List WR} {left rd wt fl : Int} {S : List Nat}
theorem IsDisk.only (h : IsDisk w g pb pc mb pr pv D N plat ws left rd wt fl) (ho : Only S w w') (hf : ∀ k ∈ foot g pb mb pv, k ∉ S) (hr : ∀ x ∈ ws, x.blk ∉ S) : IsDisk w' g pb pc mb pr pv D N plat ws left rd wt fl :=
  ⟨h.str.only ho (hf g (by simp [foot])), h.row.only ho (hf pb (by simp [foot])), h.len, h.cap, h.pos, h.big, h.u8, ownsRow_only h.own ho (fun k hk => hf k (by simp [foot, hk])), fun x hx => (h.wok x hx).only ho (hr x hx),
    ownsMap_only h.map ho (hf mb (by simp [foot])), h.last, h.few⟩
theorem IsDisk.c0 (h : IsDisk w g pb pc mb pr pv D N plat ws left rd wt fl) : w.cell? ⟨g, 0, none⟩ = some (.slice (some ⟨pb, 0, none⟩) (512 * N) pc) := by rw [h.str.cell]; rfl
theorem IsDisk.c1 (h : IsDisk w g pb pc mb pr pv D N plat ws left rd wt fl) : w.cell? ⟨g, 1, none⟩ = some pv := by rw [h.str.cell]; rfl
theorem IsDisk.c2 (h : IsDisk w g pb pc mb pr pv D N plat ws left rd wt fl) : w.cell? ⟨g, 2, none⟩ = some (.map (some mb)) := by rw [h.str.cell]; rfl
theorem IsDisk.c3 (h : IsDisk w g pb pc mb pr pv D N plat ws left rd wt fl) : w.cell? ⟨g, 3, none⟩ = some (.int .i64 left) := by rw [h.str.cell]; rfl
theorem IsDisk.c4 (h : IsDisk w g pb pc mb pr pv D N plat ws left rd wt fl) : w.cell? ⟨g, 4, none⟩ = some (.int .i64 rd) := by rw [h.str.cell]; rfl
theorem IsDisk.c5 (h : IsDisk w g pb pc mb pr pv D N plat ws left rd wt fl) : w.cell? ⟨g, 5, none⟩ = some (.int .i64 wt) := by rw [h.str.cell]; rfl
theorem IsDisk.c6 (h : IsDisk w g pb pc mb pr pv D N plat ws left rd wt fl) : w.cell? ⟨g, 6, none⟩ = some (.int .i64 fl) := by rw [h.str.cell]; rfl
end

theorem dclosed_nil (w : World) : Calls Try.prog 65 #[.pointer none] w fun e w' => e = .returned (.bool true) ∧ w = w' := by
  go_enter Try.func65, Try.ntmps65
  go_wp2
  go_ret
  exact ⟨rfl, rfl⟩

section
variable {w : World} {g pb pc mb : Nat} {pr : List Value} {pv : Value} {D : DataW Unit} {N : Nat} {plat : List Int} {ws : List WR} {left rd wt fl : Int} (h : IsDisk w g pb pc mb pr pv D N plat ws left rd wt fl)
include h

theorem dclosed_is : Calls Try.prog 65 #[.pointer (some ⟨g, 0, none⟩)] w fun e w' => e = .returned (.bool false) ∧ w = w' := by
  have hc := h.c0
  have h0 : ((512 * (N : Int)) == 0) = false := beq_eq_false_iff_ne.2 (by have := h.pos; omega)
  have hb := h.big
  clear h
  go_enter Try.func65, Try.ntmps65
  go_wp2
  go_ret
  exact ⟨rfl, rfl⟩

theorem dcount_is : Calls Try.prog 67 #[.pointer (some ⟨g, 0, none⟩)] w fun e w' => e = .returned (.int .i64 N) ∧ w = w' := by
  have HC := hide (dclosed_is h)
  have hc := h.c0
  have HE := hide (show (512 * (N : Int)) / 512 = N by omega)
  have hb := h.big
  clear h
  go_enter Try.func67, Try.ntmps67
  go_wp2_with (go_at_call 65; refine HC.out.mono ?_; rintro e w' ⟨rfl, rfl⟩)
  go_ret
  exact ⟨by rw [← HE.out]; rfl, rfl⟩

theorem dhas_yes (n : Int) (h0 : 0 ≤ n) (h1 : n < N) : Calls Try.prog 69 #[.pointer (some ⟨g, 0, none⟩), .int .i64 n] w fun e w' => e = .returned (.bool true) ∧ w = w' := by
  have HC := hide (dcount_is h)
  clear h
  go_enter Try.func69, Try.ntmps69
  go_wp2_with (go_at_call 67; refine HC.out.mono ?_; rintro e w' ⟨rfl, rfl⟩)
  go_ret
  exact ⟨by simp, rfl⟩

theorem dhas_no (n : Int) (hn : n < 0 ∨ N ≤ n) : Calls Try.prog 69 #[.pointer (some ⟨g, 0, none⟩), .int .i64 n] w fun e w' => e = .returned (.bool false) ∧ w = w' := by
  have HC := hide (dcount_is h)
  clear h
  by_cases h0 : n < 0
  · clear hn
    go_enter Try.func69, Try.ntmps69
    go_wp2_with (go_at_call 67; refine HC.out.mono ?_; rintro e w' ⟨rfl, rfl⟩)
    go_ret
    exact ⟨by simp, rfl⟩
  · have h1 : (N : Int) ≤ n := by omega
    clear hn
    go_enter Try.func69, Try.ntmps69
    go_wp2_with (go_at_call 67; refine HC.out.mono ?_; rintro e w' ⟨rfl, rfl⟩)
    go_ret
    exact ⟨by simp; omega, rfl⟩

theorem dsector_is (n : Nat) (hn : n < N) : Calls Try.prog 70 #[.pointer (some ⟨g, 0, none⟩), .int .i64 n] w fun e w' => e = .returned (.slice (some ⟨pb, 512 * n, none⟩) 512 512) ∧ w = w' := by
  have hc := h.c0
  have hb := h.big
  have hcap := h.cap
  have HE := hide (show n * 512 = 512 * n ∧ n * 512 + 512 - n * 512 = 512 by omega)
  have hle : 512 * N ≤ pc := by omega
  clear h hcap
  go_enter Try.func70, Try.ntmps70
  go_wp2
  go_ret
  exact ⟨by rw [← HE.out.1]; simp, rfl⟩

theorem dimage_is : Calls Try.prog 42 #[.pointer (some ⟨g, 0, none⟩)] w fun e w' => ∃ v, e = .returned v ∧ Fresh w' w.heap.size v plat ∧ Only [] w w' := by
  have HC := hide (dclosed_is h)
  have hc := h.c0
  have hb := h.big
  have HL := hide (clone_ok ⟨pb, 0, none⟩ (512 * N) pc plat w h.len (by omega) (fun i hi => by rw [add_at, Nat.zero_add, h.row.cell]; exact u8l_get plat pr i (by rw [h.len]; exact hi)))
  clear h
  go_enter Try.func42, Try.ntmps42
  go_wp2_with (first | (go_at_call 65; refine HC.out.mono ?_; rintro e w' ⟨rfl, rfl⟩) | (go_at_call 46; refine HL.out.mono ?_; rintro e w1 ⟨v, rfl, hf, ho⟩))
  go_ret
  exact ⟨v, rfl, hf, ho⟩



end

/-- Only the struct has turned. -/
theorem IsDisk.restr {w w' : World} {g pb pc mb : Nat} {pr : List Value} {pv : Value} {D : DataW Unit} {N : Nat} {plat : List Int} {ws : List WR} {left rd wt fl left' rd' wt' fl' : Int} (h : IsDisk w g pb pc mb pr pv D N plat ws left rd wt fl) (ho : Only [g] w w')
    (hs : Blk w' g 109 #[.slice (some ⟨pb, 0, none⟩) (512 * N) pc, pv, .map (some mb), .int .i64 left', .int .i64 rd', .int .i64 wt', .int .i64 fl']) : IsDisk w' g pb pc mb pr pv D N plat ws left' rd' wt' fl' := by
  have h1 : pb ≠ g := (h.str.ne_ h.row (by decide)).symm
  have h2 : mb ≠ g := by
    rintro rfl
    obtain ⟨es, clock, hb, _⟩ := h.map
    have := h.str
    unfold Blk at this
    rw [this] at hb
    cases hb
  have h3 : ∀ k, pv.ownBlock = some k → k ≠ g := by
    intro k hk e
    subst e
    rcases h.own.2 with ⟨e, _⟩ | ⟨k', cap, cur, e, _, hg, _⟩
    · subst e; cases hk
    · subst e
      simp [Value.ownBlock] at hk
      subst hk
      exact Blk.ne_ (t := 111) (t' := 109) hg h.str (by decide) rfl
  have h4 : ∀ x ∈ ws, x.blk ≠ g := fun x hx => ((h.str.ne_ (h.wok x hx).row (by decide))).symm
  exact ⟨hs, h.row.only ho (by simpa using h1), h.len, h.cap, h.pos, h.big, h.u8, ownsRow_only h.own ho (fun k hk => by simpa using h3 k hk), fun x hx => (h.wok x hx).only ho (by simpa using h4 x hx),
    ownsMap_only h.map ho (by simpa using h2), h.last, h.few⟩

section
variable {w : World} {g pb pc mb : Nat} {pr : List Value} {pv : Value} {D : DataW Unit} {N : Nat} {plat : List Int} {ws : List WR} {left rd wt fl : Int} (h : IsDisk w g pb pc mb pr pv D N plat ws left rd wt fl)
include h

theorem dspend_no (h0 : left = 0) : Calls Try.prog 92 #[.pointer (some ⟨g, 0, none⟩)] w fun e w' => e = .returned (.bool false) ∧ w = w' := by
  subst h0
  have hc := h.c3
  clear h
  go_enter Try.func92, Try.ntmps92
  go_wp2
  go_ret
  exact ⟨rfl, rfl⟩

theorem dspend_free (h0 : left < 0) : Calls Try.prog 92 #[.pointer (some ⟨g, 0, none⟩)] w fun e w' => e = .returned (.bool true) ∧ w = w' := by
  have hc := h.c3
  have h1 : (left == 0) = false := beq_eq_false_iff_ne.2 (by omega)
  clear h
  go_enter Try.func92, Try.ntmps92
  go_wp2
  go_ret
  exact ⟨rfl, rfl⟩

theorem dspend_one (h0 : 0 < left) (hm : left ≤ 9223372036854775807) : Calls Try.prog 92 #[.pointer (some ⟨g, 0, none⟩)] w fun e w' => e = .returned (.bool true) ∧ Only [g] w w' ∧ IsDisk w' g pb pc mb pr pv D N plat ws (left - 1) rd wt fl := by
  have hc := h.c3
  have hf := h.str.frozen 3
  have h1 : (left == 0) = false := beq_eq_false_iff_ne.2 (by omega)
  have HD := hide h
  clear h
  go_enter Try.func92, Try.ntmps92
  go_wp2
  go_ret
  have ho : Only [g] w (w.setCell ⟨g, 3, none⟩ (.int .i64 (left - 1))) := (Only.refl _ _).setCell _ (by simp)
  exact ⟨rfl, ho, HD.out.restr ho (HD.out.str.set_ 3 _)⟩



omit h in
theorem run_clear_map {w : World} {mb : Nat} {es : Array MapEntry} {clock : Nat} (hb : w.heap[mb]? = some (.map es clock)) (ty : TypeId) :
    (Builtin.clear_ #[107] ty #[.map (some mb)]).run Try.prog w = .ok (.tuple #[]) (Go.ChangeMaps.setBlock w mb (.map #[] clock)) := by
  simp [Builtin.clear_, run_underlying Try.underlying107, MapKept.run_getObj_map hb, MapKept.run_setObj_map _ hb, Result.andThen]
  rfl

omit h in
theorem only_setBlock {w : World} {mb : Nat} (o : Obj) : Only [mb] w (Go.ChangeMaps.setBlock w mb o) :=
  ⟨rfl, rfl, rfl, by simp [Go.ChangeMaps.setBlock], fun k _ hk => by simp only [Go.ChangeMaps.setBlock]; rw [Array.getElem?_setIfInBounds_ne (by simp at hk; omega)]⟩

omit h in
theorem lasts_nil : Lasts (.map []) [] :=
  ⟨isMap_empty, fun n i ⟨x, hx, _⟩ => by simp at hx, fun n _ => rfl⟩

set_option maxRecDepth 100000 in
theorem dforget_is : Calls Try.prog 93 #[.pointer (some ⟨g, 0, none⟩)] w fun e w' => e = .returned (.tuple #[]) ∧ Only [g, mb] w w' ∧ IsDisk w' g pb pc mb pr (.slice none 0 0) (.map []) N plat [] left rd wt fl := by
  have hc1 := h.c1
  have hf := h.str.frozen 1
  have hc2 := h.c2
  obtain ⟨es, clock, hb, _⟩ := h.map
  have hmg : mb ≠ g := by
    rintro rfl
    have := h.str
    unfold Blk at this
    rw [this] at hb
    cases hb
  have hb1 : (w.setCell ⟨g, 1, none⟩ (.slice none 0 0)).heap[mb]? = some (.map es clock) := (Below.heap_setCell w ⟨g, 1, none⟩ _ mb hmg).trans hb
  have hc2' : (w.setCell ⟨g, 1, none⟩ (.slice none 0 0)).cell? ⟨g, 2, none⟩ = some (.map (some mb)) := by rw [(h.str.set_ 1 (.slice none 0 0)).cell]; rfl
  have HCL := hide (run_clear_map hb1)
  have HB := hide (show (Go.ChangeMaps.setBlock (w.setCell ⟨g, 1, none⟩ (.slice none 0 0)) mb (.map #[] clock)).heap[mb]? = some (.map #[] clock) from by
    simp only [Go.ChangeMaps.setBlock]; rw [Array.getElem?_setIfInBounds_self_of_lt]; exact (Array.getElem?_eq_some_iff.1 hb1).1)
  have HMG := hide hmg
  have HD := hide h
  clear h hb hb1 hmg
  go_enter Try.func93, Try.ntmps93
  go_wp2_with (simp only [HCL.out])
  go_end0
  have o1 : Only [g, mb] w (w.setCell ⟨g, 1, none⟩ (.slice none 0 0)) := (Only.refl _ _).setCell _ (by simp)
  have o2 := (only_setBlock (w := w.setCell ⟨g, 1, none⟩ (.slice none 0 0)) (mb := mb) (.map #[] clock)).mono (S' := [g, mb]) (by simp +contextual)
  have ho := o1.trans o2
  have hd := HD.out
  have hpg : pb ≠ g := (hd.str.ne_ hd.row (by decide)).symm
  have hpm : pb ≠ mb := by
    rintro rfl
    obtain ⟨es, clock, hb, _⟩ := hd.map
    have := hd.row
    unfold Blk at this
    rw [this] at hb
    cases hb
  refine ⟨rfl, ho, (hd.str.set_ 1 (.slice none 0 0)).only (only_setBlock _) (by simpa using HMG.out.symm), hd.row.only ho (by simp; exact ⟨hpg, hpm⟩), hd.len, hd.cap, hd.pos, hd.big, hd.u8, World.ownsRow_nil _ _ _ _, by simp, ?_, lasts_nil, Nat.zero_le _⟩
  exact ⟨#[], clock, HB.out, ⟨by simp, MapKept.stamped_empty clock, by simp⟩, Nat.le_refl _, rfl⟩
end
end Go.Proofs.Ytpajdnjbeplneaa
