/-
  RunqPlays: one call of the law's step, each kind but the look (written by gen_rqstep.py).
-/
import Derived.Test.YtdinndpeoankdaaRq11Pair
import Derived.Deep.RegionHeld3
namespace Go.Proofs.Ytdinndpeoankdaa
open Go.ChangeShapes Go.WideShapes Go.ChangeAt Go.RowKit Go.Maps
set_option linter.unusedVariables false
section
variable {w0 w w' : World} {g gx hx : Nat} {s s' t t' : RQ} {xs xs' : Nat → Value} {ys S : List Nat}
theorem Bq.add (h : Bq w0 w g gx hx s t ys xs) (o : Obj) : Bq w0 (w.alloc o) g gx hx s t (w.heap.size :: ys) xs :=
  ⟨h.q.add o, h.x.quiet ((Only.refl [] w).alloc o), fun k hk hm => (List.mem_cons.1 hk).elim (fun e => by have := h.x.foot_lt hm; omega) (fun hk => h.ap k hk hm)⟩
theorem Bq.less (h : Bq w0 w g gx hx s t ys xs) {zs : List Nat} (hs : ∀ k ∈ zs, k ∈ ys) : Bq w0 w g gx hx s t zs xs := ⟨h.q.less (fun k hk => by
    rcases List.mem_append.1 hk with hk | hk
    · simp [hs k hk]
    · simp [hk]), h.x, fun k hk => h.ap k (hs k hk)⟩
def DidP (w0 w w' : World) (g gx hx : Nat) (ys : List Nat) : Prop := ∃ s' xs', Bq w0 w' g gx hx s' s' ys xs' ∧ ∀ k ∈ ys, w'.heap[k]? = w.heap[k]?
set_option maxHeartbeats 2000000 in
set_option maxRecDepth 100000 in
theorem step11_1 (h : Bq w0 w g gx hx s s ys xs) {kd a b : Int} (hb2 : iW b) (hk : kd = 1) :
    Calls Try.prog 7 #[.pointer (some ⟨g, 0, none⟩), .pointer (some ⟨gx, 0, none⟩), .agg #[.int .i64 kd, .int .i64 a, .int .i64 b]] w fun e w' => e = .returned (.bool true) ∧ DidP w0 w w' g gx hx ys := by
  have k1 : (kd == 1) = true := by simp [hk]
  have hok := h.q.ok
  have hB := h.add (.cells #[.int .i64 kd, .int .i64 a, .int .i64 b] 33)
  have hBX := Blk.new w 33 #[.int .i64 kd, .int .i64 a, .int .i64 b]
  have HC := hide (fun (W : World) (hW : ∀ k ∈ w.heap.size :: ys, W.heap[k]? = (w.alloc (.cells #[.int .i64 kd, .int .i64 a, .int .i64 b] 33)).heap[k]?) => (show W.cell? ⟨w.heap.size, 0, none⟩ = some (.int .i64 kd) ∧ W.cell? ⟨w.heap.size, 1, none⟩ = some (.int .i64 a) ∧ W.cell? ⟨w.heap.size, 2, none⟩ = some (.int .i64 b) from by
    have hblk : Blk W w.heap.size 33 #[.int .i64 kd, .int .i64 a, .int .i64 b] := (hW w.heap.size (by simp)).trans hBX
    exact ⟨hblk.cell 0, hblk.cell 1, hblk.cell 2⟩))
  have HT := hide (fun (W : World) (hW : ∀ k ∈ w.heap.size :: ys, W.heap[k]? = (w.alloc (.cells #[.int .i64 kd, .int .i64 a, .int .i64 b] 33)).heap[k]?) => (show ∀ k ∈ ys, W.heap[k]? = w.heap[k]? from fun k hk => (hW k (by simp [hk])).trans (((Only.refl [] w).alloc _).block k (h.lt hk) (by simp))))
  have HQ := hide (fun (W : World) (hW : Only [] (w.alloc (.cells #[.int .i64 kd, .int .i64 a, .int .i64 b] 33)) W) => (lq_put (hB.quiet hW).q a b hb2).mono (R' := fun e w' => e = .returned (.int .i64 (putF s a b).2) ∧ Bq w0 w' g gx hx (putF s a b).1 s (w.heap.size :: ys) xs ∧ ∀ k ∈ w.heap.size :: ys, w'.heap[k]? = W.heap[k]?) (fun e w' ⟨p1, p2⟩ => ⟨p1, (hB.quiet hW).didq p2⟩))
  have HX := hide (fun (W : World) (hb : Bq w0 W g gx hx (putF s a b).1 s (w.heap.size :: ys) xs) => (xPut_is hb.x hok a b).mono (R' := fun e w' => e = .returned (.int .i64 (putF s a b).2) ∧ ∃ xs', Bq w0 w' g gx hx (putF s a b).1 (putF s a b).1 (w.heap.size :: ys) xs' ∧ ∀ k ∈ w.heap.size :: ys, w'.heap[k]? = W.heap[k]?) (fun e w' ⟨p1, p2⟩ => ⟨p1, hb.didx p2⟩))
  have HD := hide (fun (W : World) (xs' : Nat → Value) (hb : Bq w0 W g gx hx (putF s a b).1 (putF s a b).1 (w.heap.size :: ys) xs') (hs : ∀ k ∈ ys, W.heap[k]? = w.heap[k]?) => (show DidP w0 w W g gx hx ys from ⟨_, xs', hb.less (fun k hk => by simp [hk]), hs⟩))
  generalize putF s a b = rr at *
  obtain ⟨r1, r2⟩ := rr
  simp only [] at HQ HX HD
  clear h hB hBX hk hok
  go_enter Try.func7, Try.ntmps7
  obtain ⟨d0, d1, d2⟩ := HC.out (w.alloc _) (fun _ _ => rfl)
  go_wp2_with fail
  generalize w.alloc (.cells #[.int .i64 kd, .int .i64 a, .int .i64 b] 33) = W1 at *
  have hcur : ∀ k ∈ w.heap.size :: ys, W1.heap[k]? = W1.heap[k]? := fun _ _ => rfl
  go_region_held3 (fun w' => w'.cell? ⟨w.heap.size, 1, none⟩ = some (.int .i64 a) ∧ w'.cell? ⟨w.heap.size, 2, none⟩ = some (.int .i64 b)) (first | go_keep | exact ⟨(HC.out _ hcur).2.1, (HC.out _ hcur).2.2⟩) (first | (go_at_call 9; refine (HQ.out _ (by repeat (first | exact Only.refl _ _ | apply Only.drew | apply Only.drewN))).mono ?_; rintro e w3 ⟨rfl, hb, hs⟩; have HB3 := hide hb; have hc3 : ∀ k ∈ w.heap.size :: ys, w3.heap[k]? = W1.heap[k]? := hs; clear hcur hb hs; have hcur := hc3; clear hc3) | (go_at_call 13; refine (HX.out _ (HB3.out.quiet (by repeat (first | exact Only.refl _ _ | apply Only.drew | apply Only.drewN)))).mono ?_; rintro e w4 ⟨rfl, xs4, hb, hs⟩; have HB4 := hide hb; have hc4 : ∀ k ∈ w.heap.size :: ys, w4.heap[k]? = W1.heap[k]? := fun k hk => (hs k hk).trans (hcur k hk); clear hcur hb hs; have hcur := hc4; clear hc4))
  all_goals
    go_wp2
    go_ret
    exact ⟨by simp, HD.out _ _ (HB4.out.quiet (by repeat (first | exact Only.refl _ _ | apply Only.drew | apply Only.drewN))) (HT.out _ hcur)⟩
set_option maxHeartbeats 2000000 in
set_option maxRecDepth 100000 in
theorem step11_2 (h : Bq w0 w g gx hx s s ys xs) {kd a b : Int} (hb2 : iW b) (hk : kd = 2) :
    Calls Try.prog 7 #[.pointer (some ⟨g, 0, none⟩), .pointer (some ⟨gx, 0, none⟩), .agg #[.int .i64 kd, .int .i64 a, .int .i64 b]] w fun e w' => e = .returned (.bool true) ∧ DidP w0 w w' g gx hx ys := by
  have k1 : (kd == 1) = false := by simp [hk]
  have k2 : (kd == 2) = true := by simp [hk]
  have hok := h.q.ok
  have hB := h.add (.cells #[.int .i64 kd, .int .i64 a, .int .i64 b] 33)
  have hBX := Blk.new w 33 #[.int .i64 kd, .int .i64 a, .int .i64 b]
  have HC := hide (fun (W : World) (hW : ∀ k ∈ w.heap.size :: ys, W.heap[k]? = (w.alloc (.cells #[.int .i64 kd, .int .i64 a, .int .i64 b] 33)).heap[k]?) => (show W.cell? ⟨w.heap.size, 0, none⟩ = some (.int .i64 kd) ∧ W.cell? ⟨w.heap.size, 1, none⟩ = some (.int .i64 a) ∧ W.cell? ⟨w.heap.size, 2, none⟩ = some (.int .i64 b) from by
    have hblk : Blk W w.heap.size 33 #[.int .i64 kd, .int .i64 a, .int .i64 b] := (hW w.heap.size (by simp)).trans hBX
    exact ⟨hblk.cell 0, hblk.cell 1, hblk.cell 2⟩))
  have HT := hide (fun (W : World) (hW : ∀ k ∈ w.heap.size :: ys, W.heap[k]? = (w.alloc (.cells #[.int .i64 kd, .int .i64 a, .int .i64 b] 33)).heap[k]?) => (show ∀ k ∈ ys, W.heap[k]? = w.heap[k]? from fun k hk => (hW k (by simp [hk])).trans (((Only.refl [] w).alloc _).block k (h.lt hk) (by simp))))
  have HQ := hide (fun (W : World) (hW : Only [] (w.alloc (.cells #[.int .i64 kd, .int .i64 a, .int .i64 b] 33)) W) => (lq_wake (hB.quiet hW).q b hb2).mono (R' := fun e w' => e = .returned (.tuple #[.int .i64 (wakeF s b).2.1, .int .i64 (wakeF s b).2.2]) ∧ Bq w0 w' g gx hx (wakeF s b).1 s (w.heap.size :: ys) xs ∧ ∀ k ∈ w.heap.size :: ys, w'.heap[k]? = W.heap[k]?) (fun e w' ⟨p1, p2⟩ => ⟨p1, (hB.quiet hW).didq p2⟩))
  have HX := hide (fun (W : World) (hb : Bq w0 W g gx hx (wakeF s b).1 s (w.heap.size :: ys) xs) => (xWake_is hb.x hok b).mono (R' := fun e w' => e = .returned (.tuple #[.int .i64 (wakeF s b).2.1, .int .i64 (wakeF s b).2.2]) ∧ ∃ xs', Bq w0 w' g gx hx (wakeF s b).1 (wakeF s b).1 (w.heap.size :: ys) xs' ∧ ∀ k ∈ w.heap.size :: ys, w'.heap[k]? = W.heap[k]?) (fun e w' ⟨p1, p2⟩ => ⟨p1, hb.didx p2⟩))
  have HD := hide (fun (W : World) (xs' : Nat → Value) (hb : Bq w0 W g gx hx (wakeF s b).1 (wakeF s b).1 (w.heap.size :: ys) xs') (hs : ∀ k ∈ ys, W.heap[k]? = w.heap[k]?) => (show DidP w0 w W g gx hx ys from ⟨_, xs', hb.less (fun k hk => by simp [hk]), hs⟩))
  generalize wakeF s b = rr at *
  obtain ⟨r1, r2, r3⟩ := rr
  simp only [] at HQ HX HD
  clear h hB hBX hk hok
  go_enter Try.func7, Try.ntmps7
  obtain ⟨d0, d1, d2⟩ := HC.out (w.alloc _) (fun _ _ => rfl)
  go_wp2_with (first | (go_at_call 14; refine (HQ.out _ (by repeat (first | exact Only.refl _ _ | apply Only.drew | apply Only.drewN))).mono ?_; rintro e w3 ⟨rfl, hb, hs⟩; have HB3 := hide hb; have HS3 := hide hs; obtain ⟨c0, c1, c2⟩ := HC.out w3 hs; clear hb hs) | (go_at_call 15; refine (HX.out _ HB3.out).mono ?_; rintro e w4 ⟨rfl, xs4, hb, hs⟩; have HB4 := hide hb; have HS4 := hide (fun k hk => (hs k hk).trans (HS3.out k hk)); clear hb hs))
  go_ret
  exact ⟨by simp, HD.out _ _ HB4.out (HT.out _ HS4.out)⟩
set_option maxHeartbeats 2000000 in
set_option maxRecDepth 100000 in
theorem step11_3 (h : Bq w0 w g gx hx s s ys xs) {kd a b : Int} (hb2 : iW b) (hk : kd = 3) :
    Calls Try.prog 7 #[.pointer (some ⟨g, 0, none⟩), .pointer (some ⟨gx, 0, none⟩), .agg #[.int .i64 kd, .int .i64 a, .int .i64 b]] w fun e w' => e = .returned (.bool true) ∧ DidP w0 w w' g gx hx ys := by
  have k1 : (kd == 1) = false := by simp [hk]
  have k2 : (kd == 2) = false := by simp [hk]
  have k3 : (kd == 3) = true := by simp [hk]
  have hok := h.q.ok
  have hB := h.add (.cells #[.int .i64 kd, .int .i64 a, .int .i64 b] 33)
  have hBX := Blk.new w 33 #[.int .i64 kd, .int .i64 a, .int .i64 b]
  have HC := hide (fun (W : World) (hW : ∀ k ∈ w.heap.size :: ys, W.heap[k]? = (w.alloc (.cells #[.int .i64 kd, .int .i64 a, .int .i64 b] 33)).heap[k]?) => (show W.cell? ⟨w.heap.size, 0, none⟩ = some (.int .i64 kd) ∧ W.cell? ⟨w.heap.size, 1, none⟩ = some (.int .i64 a) ∧ W.cell? ⟨w.heap.size, 2, none⟩ = some (.int .i64 b) from by
    have hblk : Blk W w.heap.size 33 #[.int .i64 kd, .int .i64 a, .int .i64 b] := (hW w.heap.size (by simp)).trans hBX
    exact ⟨hblk.cell 0, hblk.cell 1, hblk.cell 2⟩))
  have HT := hide (fun (W : World) (hW : ∀ k ∈ w.heap.size :: ys, W.heap[k]? = (w.alloc (.cells #[.int .i64 kd, .int .i64 a, .int .i64 b] 33)).heap[k]?) => (show ∀ k ∈ ys, W.heap[k]? = w.heap[k]? from fun k hk => (hW k (by simp [hk])).trans (((Only.refl [] w).alloc _).block k (h.lt hk) (by simp))))
  have HQ := hide (fun (W : World) (hW : Only [] (w.alloc (.cells #[.int .i64 kd, .int .i64 a, .int .i64 b] 33)) W) => (lq_next (hB.quiet hW).q a).mono (R' := fun e w' => e = .returned (.tuple #[.int .i64 (nextF s a).2.1, .bool (nextF s a).2.2]) ∧ Bq w0 w' g gx hx (nextF s a).1 s (w.heap.size :: ys) xs ∧ ∀ k ∈ w.heap.size :: ys, w'.heap[k]? = W.heap[k]?) (fun e w' ⟨p1, p2⟩ => ⟨p1, (hB.quiet hW).didq p2⟩))
  have HX := hide (fun (W : World) (hb : Bq w0 W g gx hx (nextF s a).1 s (w.heap.size :: ys) xs) => (xNext_is hb.x hok a).mono (R' := fun e w' => e = .returned (.tuple #[.int .i64 (nextF s a).2.1, .bool (nextF s a).2.2]) ∧ ∃ xs', Bq w0 w' g gx hx (nextF s a).1 (nextF s a).1 (w.heap.size :: ys) xs' ∧ ∀ k ∈ w.heap.size :: ys, w'.heap[k]? = W.heap[k]?) (fun e w' ⟨p1, p2⟩ => ⟨p1, hb.didx p2⟩))
  have HD := hide (fun (W : World) (xs' : Nat → Value) (hb : Bq w0 W g gx hx (nextF s a).1 (nextF s a).1 (w.heap.size :: ys) xs') (hs : ∀ k ∈ ys, W.heap[k]? = w.heap[k]?) => (show DidP w0 w W g gx hx ys from ⟨_, xs', hb.less (fun k hk => by simp [hk]), hs⟩))
  generalize nextF s a = rr at *
  obtain ⟨r1, r2, r3⟩ := rr
  simp only [] at HQ HX HD
  clear h hB hBX hk hok
  go_enter Try.func7, Try.ntmps7
  obtain ⟨d0, d1, d2⟩ := HC.out (w.alloc _) (fun _ _ => rfl)
  go_wp2_with (first | (go_at_call 10; refine (HQ.out _ (by repeat (first | exact Only.refl _ _ | apply Only.drew | apply Only.drewN))).mono ?_; rintro e w3 ⟨rfl, hb, hs⟩; have HB3 := hide hb; have HS3 := hide hs; obtain ⟨c0, c1, c2⟩ := HC.out w3 hs; clear hb hs) | (go_at_call 16; refine (HX.out _ HB3.out).mono ?_; rintro e w4 ⟨rfl, xs4, hb, hs⟩; have HB4 := hide hb; have HS4 := hide (fun k hk => (hs k hk).trans (HS3.out k hk)); clear hb hs))
  go_ret
  exact ⟨by simp, HD.out _ _ HB4.out (HT.out _ HS4.out)⟩
set_option maxHeartbeats 2000000 in
set_option maxRecDepth 100000 in
theorem step11_4 (h : Bq w0 w g gx hx s s ys xs) {kd a b : Int} (hb2 : iW b) (hk : kd = 4) :
    Calls Try.prog 7 #[.pointer (some ⟨g, 0, none⟩), .pointer (some ⟨gx, 0, none⟩), .agg #[.int .i64 kd, .int .i64 a, .int .i64 b]] w fun e w' => e = .returned (.bool true) ∧ DidP w0 w w' g gx hx ys := by
  have k1 : (kd == 1) = false := by simp [hk]
  have k2 : (kd == 2) = false := by simp [hk]
  have k3 : (kd == 3) = false := by simp [hk]
  have k4 : (kd == 4) = true := by simp [hk]
  have hok := h.q.ok
  have hB := h.add (.cells #[.int .i64 kd, .int .i64 a, .int .i64 b] 33)
  have hBX := Blk.new w 33 #[.int .i64 kd, .int .i64 a, .int .i64 b]
  have HC := hide (fun (W : World) (hW : ∀ k ∈ w.heap.size :: ys, W.heap[k]? = (w.alloc (.cells #[.int .i64 kd, .int .i64 a, .int .i64 b] 33)).heap[k]?) => (show W.cell? ⟨w.heap.size, 0, none⟩ = some (.int .i64 kd) ∧ W.cell? ⟨w.heap.size, 1, none⟩ = some (.int .i64 a) ∧ W.cell? ⟨w.heap.size, 2, none⟩ = some (.int .i64 b) from by
    have hblk : Blk W w.heap.size 33 #[.int .i64 kd, .int .i64 a, .int .i64 b] := (hW w.heap.size (by simp)).trans hBX
    exact ⟨hblk.cell 0, hblk.cell 1, hblk.cell 2⟩))
  have HT := hide (fun (W : World) (hW : ∀ k ∈ w.heap.size :: ys, W.heap[k]? = (w.alloc (.cells #[.int .i64 kd, .int .i64 a, .int .i64 b] 33)).heap[k]?) => (show ∀ k ∈ ys, W.heap[k]? = w.heap[k]? from fun k hk => (hW k (by simp [hk])).trans (((Only.refl [] w).alloc _).block k (h.lt hk) (by simp))))
  have HQ := hide (fun (W : World) (hW : Only [] (w.alloc (.cells #[.int .i64 kd, .int .i64 a, .int .i64 b] 33)) W) => (lq_tick (hB.quiet hW).q a).mono (R' := fun e w' => e = .returned (.bool (tickF s a).2) ∧ Bq w0 w' g gx hx (tickF s a).1 s (w.heap.size :: ys) xs ∧ ∀ k ∈ w.heap.size :: ys, w'.heap[k]? = W.heap[k]?) (fun e w' ⟨p1, p2⟩ => ⟨p1, (hB.quiet hW).didq p2⟩))
  have HX := hide (fun (W : World) (hb : Bq w0 W g gx hx (tickF s a).1 s (w.heap.size :: ys) xs) => (xTick_is hb.x hok a).mono (R' := fun e w' => e = .returned (.bool (tickF s a).2) ∧ ∃ xs', Bq w0 w' g gx hx (tickF s a).1 (tickF s a).1 (w.heap.size :: ys) xs' ∧ ∀ k ∈ w.heap.size :: ys, w'.heap[k]? = W.heap[k]?) (fun e w' ⟨p1, p2⟩ => ⟨p1, hb.didx p2⟩))
  have HD := hide (fun (W : World) (xs' : Nat → Value) (hb : Bq w0 W g gx hx (tickF s a).1 (tickF s a).1 (w.heap.size :: ys) xs') (hs : ∀ k ∈ ys, W.heap[k]? = w.heap[k]?) => (show DidP w0 w W g gx hx ys from ⟨_, xs', hb.less (fun k hk => by simp [hk]), hs⟩))
  generalize tickF s a = rr at *
  obtain ⟨r1, r2⟩ := rr
  simp only [] at HQ HX HD
  clear h hB hBX hk hok
  go_enter Try.func7, Try.ntmps7
  obtain ⟨d0, d1, d2⟩ := HC.out (w.alloc _) (fun _ _ => rfl)
  go_wp2_with fail
  generalize w.alloc (.cells #[.int .i64 kd, .int .i64 a, .int .i64 b] 33) = W1 at *
  have hcur : ∀ k ∈ w.heap.size :: ys, W1.heap[k]? = W1.heap[k]? := fun _ _ => rfl
  go_region_held3 (fun w' => w'.cell? ⟨w.heap.size, 1, none⟩ = some (.int .i64 a)) (first | go_keep | exact (HC.out _ hcur).2.1) (first | (go_at_call 11; refine (HQ.out _ (by repeat (first | exact Only.refl _ _ | apply Only.drew | apply Only.drewN))).mono ?_; rintro e w3 ⟨rfl, hb, hs⟩; have HB3 := hide hb; have hc3 : ∀ k ∈ w.heap.size :: ys, w3.heap[k]? = W1.heap[k]? := hs; clear hcur hb hs; have hcur := hc3; clear hc3) | (go_at_call 17; refine (HX.out _ (HB3.out.quiet (by repeat (first | exact Only.refl _ _ | apply Only.drew | apply Only.drewN)))).mono ?_; rintro e w4 ⟨rfl, xs4, hb, hs⟩; have HB4 := hide hb; have hc4 : ∀ k ∈ w.heap.size :: ys, w4.heap[k]? = W1.heap[k]? := fun k hk => (hs k hk).trans (hcur k hk); clear hcur hb hs; have hcur := hc4; clear hc4))
  all_goals
    go_wp2
    go_ret
    exact ⟨by simp, HD.out _ _ (HB4.out.quiet (by repeat (first | exact Only.refl _ _ | apply Only.drew | apply Only.drewN))) (HT.out _ hcur)⟩
set_option maxHeartbeats 2000000 in
set_option maxRecDepth 100000 in
theorem step11_5 (h : Bq w0 w g gx hx s s ys xs) {kd a b : Int} (hb2 : iW b) (hk : kd = 5) :
    Calls Try.prog 7 #[.pointer (some ⟨g, 0, none⟩), .pointer (some ⟨gx, 0, none⟩), .agg #[.int .i64 kd, .int .i64 a, .int .i64 b]] w fun e w' => e = .returned (.bool true) ∧ DidP w0 w w' g gx hx ys := by
  have k1 : (kd == 1) = false := by simp [hk]
  have k2 : (kd == 2) = false := by simp [hk]
  have k3 : (kd == 3) = false := by simp [hk]
  have k4 : (kd == 4) = false := by simp [hk]
  have k5 : (kd == 5) = true := by simp [hk]
  have hok := h.q.ok
  have hB := h.add (.cells #[.int .i64 kd, .int .i64 a, .int .i64 b] 33)
  have hBX := Blk.new w 33 #[.int .i64 kd, .int .i64 a, .int .i64 b]
  have HC := hide (fun (W : World) (hW : ∀ k ∈ w.heap.size :: ys, W.heap[k]? = (w.alloc (.cells #[.int .i64 kd, .int .i64 a, .int .i64 b] 33)).heap[k]?) => (show W.cell? ⟨w.heap.size, 0, none⟩ = some (.int .i64 kd) ∧ W.cell? ⟨w.heap.size, 1, none⟩ = some (.int .i64 a) ∧ W.cell? ⟨w.heap.size, 2, none⟩ = some (.int .i64 b) from by
    have hblk : Blk W w.heap.size 33 #[.int .i64 kd, .int .i64 a, .int .i64 b] := (hW w.heap.size (by simp)).trans hBX
    exact ⟨hblk.cell 0, hblk.cell 1, hblk.cell 2⟩))
  have HT := hide (fun (W : World) (hW : ∀ k ∈ w.heap.size :: ys, W.heap[k]? = (w.alloc (.cells #[.int .i64 kd, .int .i64 a, .int .i64 b] 33)).heap[k]?) => (show ∀ k ∈ ys, W.heap[k]? = w.heap[k]? from fun k hk => (hW k (by simp [hk])).trans (((Only.refl [] w).alloc _).block k (h.lt hk) (by simp))))
  have HQ := hide (fun (W : World) (hW : Only [] (w.alloc (.cells #[.int .i64 kd, .int .i64 a, .int .i64 b] 33)) W) => (lq_sleep (hB.quiet hW).q a).mono (R' := fun e w' => e = .returned (.tuple #[.int .i64 (sleepF s a).2.1, .int .i64 (sleepF s a).2.2]) ∧ Bq w0 w' g gx hx (sleepF s a).1 s (w.heap.size :: ys) xs ∧ ∀ k ∈ w.heap.size :: ys, w'.heap[k]? = W.heap[k]?) (fun e w' ⟨p1, p2⟩ => ⟨p1, (hB.quiet hW).didq p2⟩))
  have HX := hide (fun (W : World) (hb : Bq w0 W g gx hx (sleepF s a).1 s (w.heap.size :: ys) xs) => (xSleep_is hb.x hok a).mono (R' := fun e w' => e = .returned (.tuple #[.int .i64 (sleepF s a).2.1, .int .i64 (sleepF s a).2.2]) ∧ ∃ xs', Bq w0 w' g gx hx (sleepF s a).1 (sleepF s a).1 (w.heap.size :: ys) xs' ∧ ∀ k ∈ w.heap.size :: ys, w'.heap[k]? = W.heap[k]?) (fun e w' ⟨p1, p2⟩ => ⟨p1, hb.didx p2⟩))
  have HD := hide (fun (W : World) (xs' : Nat → Value) (hb : Bq w0 W g gx hx (sleepF s a).1 (sleepF s a).1 (w.heap.size :: ys) xs') (hs : ∀ k ∈ ys, W.heap[k]? = w.heap[k]?) => (show DidP w0 w W g gx hx ys from ⟨_, xs', hb.less (fun k hk => by simp [hk]), hs⟩))
  generalize sleepF s a = rr at *
  obtain ⟨r1, r2, r3⟩ := rr
  simp only [] at HQ HX HD
  clear h hB hBX hk hok
  go_enter Try.func7, Try.ntmps7
  obtain ⟨d0, d1, d2⟩ := HC.out (w.alloc _) (fun _ _ => rfl)
  go_wp2_with (first | (go_at_call 18; refine (HQ.out _ (by repeat (first | exact Only.refl _ _ | apply Only.drew | apply Only.drewN))).mono ?_; rintro e w3 ⟨rfl, hb, hs⟩; have HB3 := hide hb; have HS3 := hide hs; obtain ⟨c0, c1, c2⟩ := HC.out w3 hs; clear hb hs) | (go_at_call 19; refine (HX.out _ HB3.out).mono ?_; rintro e w4 ⟨rfl, xs4, hb, hs⟩; have HB4 := hide hb; have HS4 := hide (fun k hk => (hs k hk).trans (HS3.out k hk)); clear hb hs))
  go_ret
  exact ⟨by simp, HD.out _ _ HB4.out (HT.out _ HS4.out)⟩
set_option maxHeartbeats 2000000 in
set_option maxRecDepth 100000 in
theorem step11_6 (h : Bq w0 w g gx hx s s ys xs) {kd a b : Int} (hb2 : iW b) (hk : kd = 6) :
    Calls Try.prog 7 #[.pointer (some ⟨g, 0, none⟩), .pointer (some ⟨gx, 0, none⟩), .agg #[.int .i64 kd, .int .i64 a, .int .i64 b]] w fun e w' => e = .returned (.bool true) ∧ DidP w0 w w' g gx hx ys := by
  have k1 : (kd == 1) = false := by simp [hk]
  have k2 : (kd == 2) = false := by simp [hk]
  have k3 : (kd == 3) = false := by simp [hk]
  have k4 : (kd == 4) = false := by simp [hk]
  have k5 : (kd == 5) = false := by simp [hk]
  have k6 : (kd == 6) = true := by simp [hk]
  have hok := h.q.ok
  have hB := h.add (.cells #[.int .i64 kd, .int .i64 a, .int .i64 b] 33)
  have hBX := Blk.new w 33 #[.int .i64 kd, .int .i64 a, .int .i64 b]
  have HC := hide (fun (W : World) (hW : ∀ k ∈ w.heap.size :: ys, W.heap[k]? = (w.alloc (.cells #[.int .i64 kd, .int .i64 a, .int .i64 b] 33)).heap[k]?) => (show W.cell? ⟨w.heap.size, 0, none⟩ = some (.int .i64 kd) ∧ W.cell? ⟨w.heap.size, 1, none⟩ = some (.int .i64 a) ∧ W.cell? ⟨w.heap.size, 2, none⟩ = some (.int .i64 b) from by
    have hblk : Blk W w.heap.size 33 #[.int .i64 kd, .int .i64 a, .int .i64 b] := (hW w.heap.size (by simp)).trans hBX
    exact ⟨hblk.cell 0, hblk.cell 1, hblk.cell 2⟩))
  have HT := hide (fun (W : World) (hW : ∀ k ∈ w.heap.size :: ys, W.heap[k]? = (w.alloc (.cells #[.int .i64 kd, .int .i64 a, .int .i64 b] 33)).heap[k]?) => (show ∀ k ∈ ys, W.heap[k]? = w.heap[k]? from fun k hk => (hW k (by simp [hk])).trans (((Only.refl [] w).alloc _).block k (h.lt hk) (by simp))))
  have HQ := hide (fun (W : World) (hW : Only [] (w.alloc (.cells #[.int .i64 kd, .int .i64 a, .int .i64 b] 33)) W) => (lq_remove (hB.quiet hW).q b hb2).mono (R' := fun e w' => e = .returned (.bool (removeF s b).2) ∧ Bq w0 w' g gx hx (removeF s b).1 s (w.heap.size :: ys) xs ∧ ∀ k ∈ w.heap.size :: ys, w'.heap[k]? = W.heap[k]?) (fun e w' ⟨p1, p2⟩ => ⟨p1, (hB.quiet hW).didq p2⟩))
  have HX := hide (fun (W : World) (hb : Bq w0 W g gx hx (removeF s b).1 s (w.heap.size :: ys) xs) => (xRemove_is hb.x hok b).mono (R' := fun e w' => e = .returned (.bool (removeF s b).2) ∧ ∃ xs', Bq w0 w' g gx hx (removeF s b).1 (removeF s b).1 (w.heap.size :: ys) xs' ∧ ∀ k ∈ w.heap.size :: ys, w'.heap[k]? = W.heap[k]?) (fun e w' ⟨p1, p2⟩ => ⟨p1, hb.didx p2⟩))
  have HD := hide (fun (W : World) (xs' : Nat → Value) (hb : Bq w0 W g gx hx (removeF s b).1 (removeF s b).1 (w.heap.size :: ys) xs') (hs : ∀ k ∈ ys, W.heap[k]? = w.heap[k]?) => (show DidP w0 w W g gx hx ys from ⟨_, xs', hb.less (fun k hk => by simp [hk]), hs⟩))
  generalize removeF s b = rr at *
  obtain ⟨r1, r2⟩ := rr
  simp only [] at HQ HX HD
  clear h hB hBX hk hok
  go_enter Try.func7, Try.ntmps7
  obtain ⟨d0, d1, d2⟩ := HC.out (w.alloc _) (fun _ _ => rfl)
  go_wp2_with fail
  generalize w.alloc (.cells #[.int .i64 kd, .int .i64 a, .int .i64 b] 33) = W1 at *
  have hcur : ∀ k ∈ w.heap.size :: ys, W1.heap[k]? = W1.heap[k]? := fun _ _ => rfl
  go_region_held3 (fun w' => w'.cell? ⟨w.heap.size, 2, none⟩ = some (.int .i64 b)) (first | go_keep | exact (HC.out _ hcur).2.2) (first | (go_at_call 20; refine (HQ.out _ (by repeat (first | exact Only.refl _ _ | apply Only.drew | apply Only.drewN))).mono ?_; rintro e w3 ⟨rfl, hb, hs⟩; have HB3 := hide hb; have hc3 : ∀ k ∈ w.heap.size :: ys, w3.heap[k]? = W1.heap[k]? := hs; clear hcur hb hs; have hcur := hc3; clear hc3) | (go_at_call 21; refine (HX.out _ (HB3.out.quiet (by repeat (first | exact Only.refl _ _ | apply Only.drew | apply Only.drewN)))).mono ?_; rintro e w4 ⟨rfl, xs4, hb, hs⟩; have HB4 := hide hb; have hc4 : ∀ k ∈ w.heap.size :: ys, w4.heap[k]? = W1.heap[k]? := fun k hk => (hs k hk).trans (hcur k hk); clear hcur hb hs; have hcur := hc4; clear hc4))
  all_goals
    go_wp2
    go_ret
    exact ⟨by simp, HD.out _ _ (HB4.out.quiet (by repeat (first | exact Only.refl _ _ | apply Only.drew | apply Only.drewN))) (HT.out _ hcur)⟩
end
end Go.Proofs.Ytdinndpeoankdaa
