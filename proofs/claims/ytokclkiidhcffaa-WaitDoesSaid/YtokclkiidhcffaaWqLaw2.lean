/-
  The laws of the sleepers: the other calls; what must come of every program (awake).
-/
import Derived.Test.YtokclkiidhcffaaWqLaw
namespace Go.Proofs.Ytokclkiidhcffaa
open Go.ChangeShapes Go.WideShapes Go.ChangeAt Go.RowKit Go.Maps
set_option linter.unusedVariables false

theorem outL_none {L : List (Int × List CH)} {t : Int} (h : t ∉ L.map (·.1)) : outL L t = L := by
  unfold outL
  rw [List.filter_eq_self]
  intro p hp
  simp only [decide_eq_true_eq]
  exact fun e => h (List.mem_map.2 ⟨p, hp, e⟩)
section
variable {w0 w w' : World} {g m : Nat} {s s' : LW} {bs S F : List Nat}
theorem at1_ne {s : LW} (o : OkW s.1 s.2) {t : Int} (h : t ∈ s.1.map (·.1)) : atL s.1 t ≠ [] := by
  obtain ⟨p, hp, rfl⟩ := List.mem_map.1 h
  rw [atL_of_mem o.k1 hp]
  exact o.ne1 p hp
theorem lq_wcancel (h : LQ w0 w g s m bs) (hm : m < 100000000000000000) {t : Int} (ht : iW t) :
    Calls Try.prog 11 #[.pointer (some ⟨g, 0, none⟩), .int .i64 t] w fun e w' => e = .returned (.bool (decide (t ∈ s.1.map (·.1)))) ∧ DidQ w0 w w' g (offS s t) m bs := by
  obtain ⟨F, h⟩ := h
  have hf := h.few
  have hsm : SmallL s.2 := h.ok.smallL (by unfold maxLen; omega)
  by_cases hin : t ∈ s.1.map (·.1)
  · rw [show decide (t ∈ s.1.map (·.1)) = true by simpa using hin]
    refine (wq_cancel h.q (fun p hp => Nat.le_trans (h.ok.on16 p hp) (by decide)) hsm t ht (at1_ne h.ok hin) (h.ok.nd1 t) (fun c hc => (h.ok.both t c).1 hc)).mono ?_
    rintro e w' ⟨rfl, hd⟩
    exact ⟨rfl, h.didW (s' := offS s t) hd (h.ok.cancel t) (Nat.le_trans (leaveAll_length t _ _) hf)⟩
  · rw [show decide (t ∈ s.1.map (·.1)) = false by simpa using hin]
    refine (wq_cancel_no h.q (fun p hp => Nat.le_trans (h.ok.on16 p hp) (by decide)) t ht (atL_none hin)).mono ?_
    rintro e w' ⟨rfl, hd⟩
    have e1 : offS s t = s := by
      unfold offS
      rw [atL_none hin, outL_none hin]
      rfl
    rw [e1]
    exact ⟨rfl, h.didW hd h.ok hf⟩
theorem lq_wmove (h : LQ w0 w g s m bs) (hm : m < 100000000000000000) {c d : CH} (hc : c.wf) (hd : d.wf) (n : Int) :
    Calls Try.prog 15 #[.pointer (some ⟨g, 0, none⟩), kV c, kV d, .int .i64 n] w fun e w' => e = .returned (.int .i64 (moveQ s c d n).2) ∧ DidQ w0 w w' g (moveQ s c d n).1 (m + 1) bs := by
  obtain ⟨F, h⟩ := h
  have hf := h.few
  refine (wq_move h.q h.ok (by unfold maxLen; omega) hc hd n).mono ?_
  rintro e w' ⟨rfl, hd⟩
  have h1 := moveF_invs (c := c) (d := d) (n := n) h.ok rfl (atL s.2 c).length (Nat.le_refl _)
  rw [List.take_length] at h1
  have h2 := wake_in h.ok c n
  exact ⟨rfl, h.didW (s' := (moveQ s c d n).1) hd h1.1 (by
    have h3 := h1.2.2
    show (moveF c d n s (atL s.2 c)).1.2.length ≤ _
    omega)⟩
theorem lq_wlen (h : LQ w0 w g s m bs) : Calls Try.prog 16 #[.pointer (some ⟨g, 0, none⟩)] w fun e w' => e = .returned (.int .i64 s.1.length) ∧ w = w' := by
  obtain ⟨F, h⟩ := h
  exact wq_len h.q
theorem lq_wsleepers (h : LQ w0 w g s m bs) (hm : m < 100000000000000000) {c : CH} (hc : c.wf) : Calls Try.prog 14 #[.pointer (some ⟨g, 0, none⟩), kV c] w fun e w' => ∃ v', e = .returned v' ∧ IRow w' v' (atL s.2 c) ∧ (∀ q, v'.ownBlock = some q → w.heap.size ≤ q) ∧ Only [] w w' := by
  obtain ⟨F, h⟩ := h
  have hf := h.few
  exact wq_sleepers h.q (h.ok.smallL (by unfold maxLen; omega)).each c hc
theorem lq_won (h : LQ w0 w g s m bs) {t : Int} (ht : iW t) : Calls Try.prog 19 #[.pointer (some ⟨g, 0, none⟩), .int .i64 t] w fun e w' => ∃ v', e = .returned v' ∧ CRw w' v' (atL s.1 t) ∧ (∀ q, v'.ownBlock = some q → w.heap.size ≤ q) ∧ Only [] w w' := by
  obtain ⟨F, h⟩ := h
  exact wq_on h.q (fun p hp => Nat.le_trans (h.ok.on16 p hp) (by decide)) t ht
end
abbrev cA12 : CH := ⟨1, 0, 0⟩
abbrev cB12 : CH := ⟨2, 0, 0⟩
/-- In the midst of awake: the queue, and the law's two channels. -/
structure AW (w0 : World) (g : Nat) (s : LW) (m x y : Nat) (W : World) : Prop where
  q : LQ w0 W g s m [x, y]
  a : Blk W x 32 (cC cA12)
  b : Blk W y 32 (cC cB12)
section
variable {w0 w w' W : World} {g m x y : Nat} {s s' : LW} {bs S F : List Nat}
theorem AW.did (h : AW w0 g s m x y w) {m' : Nat} (hd : DidQ w0 w w' g s' m' [x, y]) : AW w0 g s' m' x y w' :=
  ⟨hd.1, (hd.2 x (by simp)).trans h.a, (hd.2 y (by simp)).trans h.b⟩
theorem AW.quiet (h : AW w0 g s m x y w) (ho : Only [] w w') : AW w0 g s m x y w' := ⟨h.q.quiet ho, h.a.only ho (by simp), h.b.only ho (by simp)⟩
theorem AW.cells (h : AW w0 g s m x y W) : W.cell? ⟨x, 0, none⟩ = some (.int .i64 1) ∧ W.cell? ⟨x, 1, none⟩ = some (.int .i64 0) ∧ W.cell? ⟨x, 2, none⟩ = some (.int .i64 0) ∧ W.cell? ⟨y, 0, none⟩ = some (.int .i64 2) ∧ W.cell? ⟨y, 1, none⟩ = some (.int .i64 0) ∧ W.cell? ⟨y, 2, none⟩ = some (.int .i64 0) :=
  ⟨h.a.cell 0, h.a.cell 1, h.a.cell 2, h.b.cell 0, h.b.cell 1, h.b.cell 2⟩
theorem chans_new (w : World) (l : List CH) (hl : 0 < l.length) : ChansAt (w.alloc (.cells (flatC l).toArray 32)) (.slice (some ⟨w.heap.size, 0, none⟩) l.length l.length) l :=
  .inr ⟨w.heap.size, 0, l.length, rfl, fun _ => by simp, fun j u hu => by rw [Nat.zero_add, (Blk.new w 32 _).cell, List.getElem?_toArray]; exact hu⟩
theorem aw_sleep (h : AW w0 g s m x y w) (hm : m < 1000) {t : Int} (ht : iW t) (l : List CH) (hl : 0 < l.length) (hwf : ∀ c ∈ l, c.wf) (he : sleepE s t l = 0) {cs : Array Value} (hcs : (flatC l).toArray = cs) {k n : Nat} (hk : w.heap.size = k) (hn : l.length = n) :
    Calls Try.prog 13 #[.pointer (some ⟨g, 0, none⟩), .int .i64 t, .slice (some ⟨k, 0, none⟩) n n] (w.alloc (.cells cs 32)) fun e w' => e = .returned (.int .i64 0) ∧ AW w0 g (sleepS s t l) (m + 1) x y w' := by
  subst hcs hk hn
  have hq := h.q.add (.cells (flatC l).toArray 32)
  have h2 := h.quiet ((Only.refl [] w).alloc (.cells (flatC l).toArray 32))
  refine (lq_wsleep hq (by omega) ht rfl (Nat.le_refl _) (fun _ => chans_new w l hl) (fun _ b o e => by injection e with e; injection e with e _; subst e; exact .inr (by simp)) hwf).mono ?_
  rintro e w' ⟨rfl, hd, hb⟩
  rw [he]
  exact ⟨rfl, h2.did ⟨hd.less (by simp), fun b hb' => hb b (by simp at hb' ⊢; right; exact hb')⟩⟩
theorem aw_wake (h : AW w0 g s m x y w) (hm : m < 1000) {c : CH} (hc : c.wf) (n : Int) :
    Calls Try.prog 10 #[.pointer (some ⟨g, 0, none⟩), kV c, .int .i64 n] w fun e w' => ∃ v, e = .returned v ∧ ZsAt w' v ((atL s.2 c).take (wakeK s c n)) ∧ AW w0 g (wakeS s c n) m x y w' := by
  refine (lq_wwake h.q (by omega) hc n).mono ?_
  rintro e w' ⟨v, rfl, hz, _, F', hf, _, hb⟩
  exact ⟨v, rfl, hz, h.did ⟨⟨F', hf⟩, hb⟩⟩
theorem aw_move (h : AW w0 g s m x y w) (hm : m < 1000) {c d : CH} (hc : c.wf) (hd : d.wf) (n : Int) :
    Calls Try.prog 15 #[.pointer (some ⟨g, 0, none⟩), kV c, kV d, .int .i64 n] w fun e w' => e = .returned (.int .i64 (moveQ s c d n).2) ∧ AW w0 g (moveQ s c d n).1 (m + 1) x y w' := by
  refine (lq_wmove h.q (by omega) hc hd n).mono ?_
  rintro e w' ⟨rfl, hdd⟩
  exact ⟨rfl, h.did hdd⟩
theorem aw_len (h : AW w0 g s m x y w) : Calls Try.prog 16 #[.pointer (some ⟨g, 0, none⟩)] w fun e w' => e = .returned (.int .i64 s.1.length) ∧ w = w' := lq_wlen h.q
/-- A slice of one int, made where the world ends. -/
theorem zs_new (w : World) (z : Int) {k : Nat} (hk : w.heap.size = k) : ZsAt (w.alloc (.cells #[.int .i64 z] 3)) (.slice (some ⟨k, 0, none⟩) 1 1) [z] := by
  subst hk
  refine ⟨_, 1, rfl, (fun e => by cases e), Nat.le_refl _, fun ad e => ?_⟩
  injection e with e
  refine ⟨w.heap.size, 0, e.symm, by simp, fun j u hu => ?_⟩
  rw [Nat.zero_add, (Blk.new w 3 _).cell]
  match j with
  | 0 => exact hu
  | j + 1 => simp [i64l] at hu
theorem aw_same (h : AW w0 g s m x y w) {v : Value} {zs : List Int} (hz : ZsAt w v zs) (z : Int) (he : zs = [z]) {k : Nat} (hk : w.heap.size = k) :
    Calls Try.prog 18 #[v, .slice (some ⟨k, 0, none⟩) 1 1] (w.alloc (.cells #[.int .i64 z] 3)) fun e w' => e = .returned (.bool true) ∧ AW w0 g s m x y w' := by
  have ho := (Only.refl [] w).alloc (.cells #[.int .i64 z] 3)
  refine (same12_is (hz.quiet ho) (zs_new w z hk) (by rw [he]; simp) (by simp)).mono ?_
  rintro e w' ⟨rfl, ho2⟩
  exact ⟨by rw [he]; simp, h.quiet (ho.trans ho2)⟩
end
set_option maxHeartbeats 2000000 in
set_option maxRecDepth 100000 in
theorem awake12 (w : World) : Calls Try.prog 8 #[] w fun e w' => e = .returned (.bool true) ∧ Only [] w w' := by
  have wA : cA12.wf := ⟨by decide, by decide, by decide⟩
  have wB : cB12.wf := ⟨by decide, by decide, by decide⟩
  have HWA := hide wA
  have HWB := hide wB
  clear wA wB
  go_enter Try.func8, Try.ntmps8
  go_wp2_with (go_at_call 7; refine (lq_wnew _).mono ?_; rintro e w1 ⟨g, rfl, h1⟩; have H1 := hide h1; clear h1)
  have HA0 : Hid (AW w g ([], []) 0 w1.heap.size (w1.heap.size + 1) ((w1.alloc (.cells #[.int .i64 1, .int .i64 0, .int .i64 0] 32)).alloc (.cells #[.int .i64 2, .int .i64 0, .int .i64 0] 32))) := by
    have h2 := (H1.out.add (.cells #[.int .i64 1, .int .i64 0, .int .i64 0] 32)).add (.cells #[.int .i64 2, .int .i64 0, .int .i64 0] 32)
    rw [show (w1.alloc (.cells #[.int .i64 1, .int .i64 0, .int .i64 0] 32)).heap.size = w1.heap.size + 1 by simp] at h2
    have h3 := Blk.new (w1.alloc (.cells #[.int .i64 1, .int .i64 0, .int .i64 0] 32)) 32 (cC cB12)
    rw [show (w1.alloc (.cells #[.int .i64 1, .int .i64 0, .int .i64 0] 32)).heap.size = w1.heap.size + 1 by simp] at h3
    exact hide ⟨h2.less (by simp), (Blk.new w1 32 (cC cA12)).alloc _, h3⟩
  with_reducible refine (aw_sleep (t := 1) (n := 1) (k := w1.heap.size + 1 + 1) (cs := #[.int .i64 1, .int .i64 0, .int .i64 0]) HA0.out (by decide) (by decide) [cA12] (by decide) (by simpa using HWA.out) (by decide +kernel) rfl (by simp) rfl).mono ?_
  rintro e w2 ⟨rfl, h2⟩
  obtain ⟨x0, x1, x2, y0, y1, y2⟩ := h2.cells
  have HA2 := hide h2
  clear h2
  simp only []
  go_wp2_with fail
  with_reducible refine (aw_sleep (t := 2) (n := 2) (k := w2.heap.size) (cs := #[.int .i64 1, .int .i64 0, .int .i64 0, .int .i64 2, .int .i64 0, .int .i64 0]) HA2.out (by decide) (by decide) [cA12, cB12] (by decide) (by simpa using And.intro HWA.out HWB.out) (by decide +kernel) rfl rfl rfl).mono ?_
  rintro e w3 ⟨rfl, h3⟩
  obtain ⟨x0, x1, x2, y0, y1, y2⟩ := h3.cells
  have HA3 := hide h3
  clear h3
  simp only []
  go_wp2_with fail
  with_reducible refine (aw_sleep (t := 3) (n := 1) (k := w3.heap.size) (cs := #[.int .i64 1, .int .i64 0, .int .i64 0]) HA3.out (by decide) (by decide) [cA12] (by decide) (by simpa using HWA.out) (by decide +kernel) rfl rfl rfl).mono ?_
  rintro e w4 ⟨rfl, h4⟩
  obtain ⟨x0, x1, x2, y0, y1, y2⟩ := h4.cells
  have HA4 := hide h4
  clear h4
  simp only []
  go_wp2_with fail
  with_reducible refine (aw_wake HA4.out (by decide) (c := cB12) HWB.out 5).mono ?_
  rintro e w5 ⟨v5, rfl, z5, h5⟩
  obtain ⟨x0, x1, x2, y0, y1, y2⟩ := h5.cells
  have HA5 := hide h5
  have HZ5 := hide z5
  clear h5 z5
  simp only []
  go_wp2_with fail
  with_reducible refine (aw_same (k := w5.heap.size) HA5.out HZ5.out 2 (by decide +kernel) rfl).mono ?_
  rintro e w6 ⟨rfl, h6⟩
  obtain ⟨x0, x1, x2, y0, y1, y2⟩ := h6.cells
  have HA6 := hide h6
  clear h6
  simp only []
  go_wp2_with fail
  with_reducible refine (aw_wake HA6.out (by decide) (c := cA12) HWA.out 1).mono ?_
  rintro e w7 ⟨v7, rfl, z7, h7⟩
  obtain ⟨x0, x1, x2, y0, y1, y2⟩ := h7.cells
  have HA7 := hide h7
  have HZ7 := hide z7
  clear h7 z7
  simp only []
  go_wp2_with fail
  with_reducible refine (aw_same (k := w7.heap.size) HA7.out HZ7.out 1 (by decide +kernel) rfl).mono ?_
  rintro e w8 ⟨rfl, h8⟩
  obtain ⟨x0, x1, x2, y0, y1, y2⟩ := h8.cells
  have HA8 := hide h8
  clear h8
  simp only []
  go_wp2_with fail
  have e9 : (moveQ (wakeS (wakeS (sleepS (sleepS (sleepS ([], []) 1 [cA12]) 2 [cA12, cB12]) 3 [cA12]) cB12 5) cA12 1) cA12 cB12 9).2 = 1 := by decide +kernel
  have HMV := hide (aw_move HA8.out (by decide) HWA.out HWB.out 9)
  rw [e9] at HMV
  with_reducible refine HMV.out.mono ?_
  rintro e w9 ⟨rfl, h9⟩
  obtain ⟨x0, x1, x2, y0, y1, y2⟩ := h9.cells
  have HA9 := hide h9
  clear h9
  simp only []
  go_wp2_with fail
  with_reducible refine (aw_wake HA9.out (by decide) (c := cB12) HWB.out 1).mono ?_
  rintro e w10 ⟨v10, rfl, z10, h10⟩
  have HA10 := hide h10
  have HZ10 := hide z10
  clear h10 z10
  simp only []
  go_wp2_with fail
  with_reducible refine (aw_same (k := w10.heap.size) HA10.out HZ10.out 3 (by decide +kernel) rfl).mono ?_
  rintro e w11 ⟨rfl, h11⟩
  have HA11 := hide h11
  clear h11
  simp only []
  go_wp2_with fail
  have HLN := hide (aw_len HA11.out)
  rw [show (wakeS (moveQ (wakeS (wakeS (sleepS (sleepS (sleepS ([], []) 1 [cA12]) 2 [cA12, cB12]) 3 [cA12]) cB12 5) cA12 1) cA12 cB12 9).1 cB12 1).1.length = 0 by decide +kernel] at HLN
  with_reducible refine HLN.out.mono ?_
  rintro e w12 ⟨rfl, rfl⟩
  simp only []
  go_wp2_with fail
  go_ret
  exact ⟨rfl, HA11.out.q.base⟩
end Go.Proofs.Ytokclkiidhcffaa
