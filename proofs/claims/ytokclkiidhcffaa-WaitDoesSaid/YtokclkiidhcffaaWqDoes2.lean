/-
  WaitDoes: one call of the law's does: Wake, Cancel, Move.
-/
import Derived.Test.YtokclkiidhcffaaWqDoes
namespace Go.Proofs.Ytokclkiidhcffaa
open Go.ChangeShapes Go.WideShapes Go.ChangeAt Go.RowKit Go.Maps
set_option linter.unusedVariables false
section
variable {w0 w w' W : World} {g r m m' : Nat} {s s' : LW} {R R' : List SE} {xs ys F F' S : List Nat}
set_option maxHeartbeats 2000000 in
set_option maxRecDepth 100000 in
theorem does_wake (h : Bm w0 w g r m s R xs F) (hR : RelW s R) (hm : m < 100000000000000000) {x : OP12} (hf : x.f.wf) (h1 : x.kind = 1) :
    Calls Try.prog 12 #[.pointer (some ⟨g, 0, none⟩), .pointer (some ⟨r, 0, none⟩), .agg x.cells.toArray] w fun e w' => e = .returned (.bool true) ∧ DidB w0 w w' g r (m + 1) xs := by
  have k0 : (x.kind == 0) = false := by simp [h1]
  have k1 : (x.kind == 1) = true := by simp [h1]
  have hB := h.add (.cells x.cells.toArray 34)
  have hBX := Blk.new w 34 x.cells.toArray
  have hn := seats_few hR
  have HX := hide (fun (W : World) (hW : ∀ k ∈ w.heap.size :: xs, W.heap[k]? = (w.alloc (.cells x.cells.toArray 34)).heap[k]?) => opD_cells (x := x) ((hW w.heap.size (by simp)).trans hBX))
  have HT := hide (fun (W : World) (hW : ∀ k ∈ w.heap.size :: xs, W.heap[k]? = (w.alloc (.cells x.cells.toArray 34)).heap[k]?) => (show ∀ k ∈ xs, W.heap[k]? = w.heap[k]? from fun k hk => (hW k (by simp [hk])).trans (((Only.refl [] w).alloc _).block k (h.lt hk) (by simp))))
  have HQ := hide (fun (W : World) (hW : Only [] (w.alloc (.cells x.cells.toArray 34)) W) => bm_wake (hB.quiet hW) hm hf x.n)
  have HXW := hide (fun (W : World) (zs : List Nat) (hb : Bm w0 W g r m (wakeS s x.f x.n) R zs F) => (show Calls Try.prog 25 #[.pointer (some ⟨r, 0, none⟩), kV x.f, .int .i64 x.n] W fun e w' => ∃ v ys F', e = .returned v ∧ Bm w0 w' g r m (wakeS s x.f x.n) (canAll R ((atL s.2 x.f).take (wakeK s x.f x.n))) (ys ++ zs) F' ∧ (∀ k ∈ zs, w'.heap[k]? = W.heap[k]?) ∧ ∀ W', (∀ k ∈ ys, W'.heap[k]? = w'.heap[k]?) → ZsAt W' v ((atL s.2 x.f).take (wakeK s x.f x.n)) from by
    have := bx_wake hb hn x.f x.n
    rw [hR.ord x.f] at this
    exact this))
  have HD := hide (fun (W : World) (zs F' : List Nat) (hb : Bm w0 W g r m (wakeS s x.f x.n) (canAll R ((atL s.2 x.f).take (wakeK s x.f x.n))) (zs ++ w.heap.size :: xs) F') (hs : ∀ k ∈ xs, W.heap[k]? = w.heap[k]?) => (show DidB w0 w W g r (m + 1) xs from ⟨_, _, F', (hb.more (Nat.le_succ m)).less (fun k hk => by simp [hk]), RelW.cancelAll _ hR, hs⟩))
  have HFS := hide (show ((atL s.2 x.f).take (wakeK s x.f x.n)).length < 4000000000000 from by rw [List.length_take]; have := wake_in hR.ok x.f 0; omega)
  generalize (atL s.2 x.f).take (wakeK s x.f x.n) = ls at *
  clear h hB hBX hn hR h1
  unfold OP12.cells at *
  go_enter Try.func12, Try.ntmps12
  obtain ⟨d0, d1, d2, d3, d4, d5, d6, d7, d8, d9⟩ := HX.out (w.alloc _) (fun _ _ => rfl)
  go_wp2_with fail
  generalize w.alloc (.cells ([.int .i64 x.kind, .int .i64 x.tid, .slice x.A x.l.length x.c, .int .i64 x.f.kind, .int .i64 x.f.a, .int .i64 x.f.b, .int .i64 x.g.kind, .int .i64 x.g.a, .int .i64 x.g.b, .int .i64 x.n] : List Value).toArray 34) = W1 at *
  have hcur : ∀ k ∈ w.heap.size :: xs, W1.heap[k]? = W1.heap[k]? := fun _ _ => rfl
  go_region_held3 (fun w' => w'.cell? ⟨w.heap.size, 3, none⟩ = some (.int .i64 x.f.kind) ∧ w'.cell? ⟨w.heap.size, 4, none⟩ = some (.int .i64 x.f.a) ∧ w'.cell? ⟨w.heap.size, 5, none⟩ = some (.int .i64 x.f.b) ∧ w'.cell? ⟨w.heap.size, 9, none⟩ = some (.int .i64 x.n)) (first | go_keep | exact ⟨(HX.out _ hcur).2.2.2.1, (HX.out _ hcur).2.2.2.2.1, (HX.out _ hcur).2.2.2.2.2.1, (HX.out _ hcur).2.2.2.2.2.2.2.2.2⟩) (first | (go_at_call 10; refine (HQ.out _ (by repeat (first | exact Only.refl _ _ | apply Only.drew | apply Only.drewN))).mono ?_; rintro e w3 ⟨v3, y3, rfl, hb, hs, hz⟩; have HB3 := hide hb; have HZ3 := hide hz; have hc3 : ∀ k ∈ w.heap.size :: xs, w3.heap[k]? = W1.heap[k]? := hs; clear hcur hb hs hz; have hcur := hc3; clear hc3) | (go_at_call 25; refine (HXW.out _ _ (HB3.out.quiet (by repeat (first | exact Only.refl _ _ | apply Only.drew | apply Only.drewN)))).mono ?_; rintro e w4 ⟨v4, y4, F4, rfl, hb, hs, hz⟩; have HB4 := hide hb; have HZ := hide (fun (W : World) (hW : Only [] w4 W) => And.intro ((HZ3.out w4 (fun k hk => hs k (List.mem_append.2 (.inl hk)))).quiet hW) ((hz w4 (fun _ _ => rfl)).quiet hW)); have hc4 : ∀ k ∈ w.heap.size :: xs, w4.heap[k]? = W1.heap[k]? := fun k hk => (hs k (List.mem_append.2 (.inr hk))).trans (hcur k hk); clear hcur hb hs hz; have hcur := hc4; clear hc4) | (go_at_call 18; refine (same12_is (HZ.out _ (by repeat (first | exact Only.refl _ _ | apply Only.drew | apply Only.drewN))).1 (HZ.out _ (by repeat (first | exact Only.refl _ _ | apply Only.drew | apply Only.drewN))).2 HFS.out HFS.out).mono ?_; rintro e w5 ⟨rfl, ho⟩; have HB5 := hide (HB4.out.quiet (Only.trans (by repeat (first | exact Only.refl _ _ | apply Only.drew | apply Only.drewN)) ho)); have hc5 : ∀ k ∈ w.heap.size :: xs, w5.heap[k]? = W1.heap[k]? := fun k hk => (ho.block k (HB4.out.lt (List.mem_append.2 (.inr (List.mem_append.2 (.inr hk))))) (by simp)).trans (hcur k hk); clear hcur ho HB4; have hcur := hc5; have HB4 := HB5; clear hc5 HB5))
  all_goals
    go_wp2
    go_ret
    refine ⟨by simp, HD.out _ (y4 ++ y3) _ (by rw [List.append_assoc]; exact HB4.out.quiet (by repeat (first | exact Only.refl _ _ | apply Only.drew | apply Only.drewN))) (HT.out _ hcur)⟩
set_option maxHeartbeats 2000000 in
set_option maxRecDepth 100000 in
theorem does_cancel (h : Bm w0 w g r m s R xs F) (hR : RelW s R) (hm : m < 100000000000000000) {x : OP12} (ht : iW x.tid) (h2 : x.kind = 2) :
    Calls Try.prog 12 #[.pointer (some ⟨g, 0, none⟩), .pointer (some ⟨r, 0, none⟩), .agg x.cells.toArray] w fun e w' => e = .returned (.bool true) ∧ DidB w0 w w' g r (m + 1) xs := by
  have k0 : (x.kind == 0) = false := by simp [h2]
  have k1 : (x.kind == 1) = false := by simp [h2]
  have k2 : (x.kind == 2) = true := by simp [h2]
  have hB := h.add (.cells x.cells.toArray 34)
  have hBX := Blk.new w 34 x.cells.toArray
  have hn := seats_few hR
  have HX := hide (fun (W : World) (hW : ∀ k ∈ w.heap.size :: xs, W.heap[k]? = (w.alloc (.cells x.cells.toArray 34)).heap[k]?) => opD_cells (x := x) ((hW w.heap.size (by simp)).trans hBX))
  have HT := hide (fun (W : World) (hW : ∀ k ∈ w.heap.size :: xs, W.heap[k]? = (w.alloc (.cells x.cells.toArray 34)).heap[k]?) => (show ∀ k ∈ xs, W.heap[k]? = w.heap[k]? from fun k hk => (hW k (by simp [hk])).trans (((Only.refl [] w).alloc _).block k (h.lt hk) (by simp))))
  have HQ := hide (fun (W : World) (hW : Only [] (w.alloc (.cells x.cells.toArray 34)) W) => bm_cancel (hB.quiet hW) hm ht)
  have HXW := hide (fun (W : World) (zs : List Nat) (hb : Bm w0 W g r m (offS s x.tid) R zs F) => (show Calls Try.prog 26 #[.pointer (some ⟨r, 0, none⟩), .int .i64 x.tid] W fun e w' => e = .returned (.bool (decide (x.tid ∈ s.1.map (·.1)))) ∧ ∃ F', Bm w0 w' g r m (offS s x.tid) (canR R x.tid) zs F' ∧ ∀ k ∈ zs, w'.heap[k]? = W.heap[k]? from by
    have := bx_cancel hb hn x.tid
    rw [can_less hR] at this
    exact this))
  have HD := hide (fun (W : World) (F' : List Nat) (hb : Bm w0 W g r m (offS s x.tid) (canR R x.tid) (w.heap.size :: xs) F') (hs : ∀ k ∈ xs, W.heap[k]? = w.heap[k]?) => (show DidB w0 w W g r (m + 1) xs from ⟨_, _, F', (hb.more (Nat.le_succ m)).less (fun k hk => by simp [hk]), hR.cancel _, hs⟩))
  generalize decide (x.tid ∈ s.1.map (·.1)) = bq at *
  clear h hB hBX hn hR h2
  unfold OP12.cells at *
  go_enter Try.func12, Try.ntmps12
  obtain ⟨d0, d1, d2, d3, d4, d5, d6, d7, d8, d9⟩ := HX.out (w.alloc _) (fun _ _ => rfl)
  go_wp2_with fail
  generalize w.alloc (.cells ([.int .i64 x.kind, .int .i64 x.tid, .slice x.A x.l.length x.c, .int .i64 x.f.kind, .int .i64 x.f.a, .int .i64 x.f.b, .int .i64 x.g.kind, .int .i64 x.g.a, .int .i64 x.g.b, .int .i64 x.n] : List Value).toArray 34) = W1 at *
  have hcur : ∀ k ∈ w.heap.size :: xs, W1.heap[k]? = W1.heap[k]? := fun _ _ => rfl
  go_region_held3 (fun w' => w'.cell? ⟨w.heap.size, 1, none⟩ = some (.int .i64 x.tid)) (first | go_keep | exact (HX.out _ hcur).2.1) (first | (go_at_call 11; refine (HQ.out _ (by repeat (first | exact Only.refl _ _ | apply Only.drew | apply Only.drewN))).mono ?_; rintro e w3 ⟨rfl, hb, hs⟩; have HB3 := hide hb; have hc3 : ∀ k ∈ w.heap.size :: xs, w3.heap[k]? = W1.heap[k]? := hs; clear hcur hb hs; have hcur := hc3; clear hc3) | (go_at_call 26; refine (HXW.out _ _ (HB3.out.quiet (by repeat (first | exact Only.refl _ _ | apply Only.drew | apply Only.drewN)))).mono ?_; rintro e w4 ⟨rfl, F4, hb, hs⟩; have HB4 := hide hb; have hc4 : ∀ k ∈ w.heap.size :: xs, w4.heap[k]? = W1.heap[k]? := fun k hk => (hs k hk).trans (hcur k hk); clear hcur hb hs; have hcur := hc4; clear hc4))
  all_goals
    go_wp2
    go_ret
    refine ⟨by simp, HD.out _ _ (HB4.out.quiet (by repeat (first | exact Only.refl _ _ | apply Only.drew | apply Only.drewN))) (HT.out _ hcur)⟩
set_option maxHeartbeats 2000000 in
set_option maxRecDepth 100000 in
theorem does_move (h : Bm w0 w g r m s R xs F) (hR : RelW s R) (hm : m < 100000000000000000) {x : OP12} (hf : x.f.wf) (hg : x.g.wf) (h3 : x.kind = 3) :
    Calls Try.prog 12 #[.pointer (some ⟨g, 0, none⟩), .pointer (some ⟨r, 0, none⟩), .agg x.cells.toArray] w fun e w' => e = .returned (.bool true) ∧ DidB w0 w w' g r (m + 1) xs := by
  have k0 : (x.kind == 0) = false := by simp [h3]
  have k1 : (x.kind == 1) = false := by simp [h3]
  have k2 : (x.kind == 2) = false := by simp [h3]
  have k3 : (x.kind == 3) = true := by simp [h3]
  have hB := h.add (.cells x.cells.toArray 34)
  have hBX := Blk.new w 34 x.cells.toArray
  have hn := seats_few hR
  have HX := hide (fun (W : World) (hW : ∀ k ∈ w.heap.size :: xs, W.heap[k]? = (w.alloc (.cells x.cells.toArray 34)).heap[k]?) => opD_cells (x := x) ((hW w.heap.size (by simp)).trans hBX))
  have HT := hide (fun (W : World) (hW : ∀ k ∈ w.heap.size :: xs, W.heap[k]? = (w.alloc (.cells x.cells.toArray 34)).heap[k]?) => (show ∀ k ∈ xs, W.heap[k]? = w.heap[k]? from fun k hk => (hW k (by simp [hk])).trans (((Only.refl [] w).alloc _).block k (h.lt hk) (by simp))))
  have HQ := hide (fun (W : World) (hW : Only [] (w.alloc (.cells x.cells.toArray 34)) W) => bm_move (hB.quiet hW) hm hf hg x.n)
  have HXW := hide (fun (W : World) (zs : List Nat) (hb : Bm w0 W g r (m + 1) (moveQ s x.f x.g x.n).1 R zs F) => (show Calls Try.prog 27 #[.pointer (some ⟨r, 0, none⟩), kV x.f, kV x.g, .int .i64 x.n] W fun e w' => e = .returned (.int .i64 (moveQ s x.f x.g x.n).2) ∧ ∃ F', Bm w0 w' g r (m + 1) (moveQ s x.f x.g x.n).1 (moveR x.f x.g x.n R).1 zs F' ∧ ∀ k ∈ zs, w'.heap[k]? = W.heap[k]? from by
    have := bx_move hb hR x.f x.g x.n
    rw [(hR.move x.f x.g x.n).2] at this
    exact this))
  have HD := hide (fun (W : World) (F' : List Nat) (hb : Bm w0 W g r (m + 1) (moveQ s x.f x.g x.n).1 (moveR x.f x.g x.n R).1 (w.heap.size :: xs) F') (hs : ∀ k ∈ xs, W.heap[k]? = w.heap[k]?) => (show DidB w0 w W g r (m + 1) xs from ⟨_, _, F', hb.less (fun k hk => by simp [hk]), (hR.move _ _ _).1, hs⟩))
  generalize (moveQ s x.f x.g x.n).2 = nq at *
  clear h hB hBX hn hR h3
  unfold OP12.cells at *
  go_enter Try.func12, Try.ntmps12
  obtain ⟨d0, d1, d2, d3, d4, d5, d6, d7, d8, d9⟩ := HX.out (w.alloc _) (fun _ _ => rfl)
  go_wp2_with fail
  generalize w.alloc (.cells ([.int .i64 x.kind, .int .i64 x.tid, .slice x.A x.l.length x.c, .int .i64 x.f.kind, .int .i64 x.f.a, .int .i64 x.f.b, .int .i64 x.g.kind, .int .i64 x.g.a, .int .i64 x.g.b, .int .i64 x.n] : List Value).toArray 34) = W1 at *
  have hcur : ∀ k ∈ w.heap.size :: xs, W1.heap[k]? = W1.heap[k]? := fun _ _ => rfl
  go_region_held3 (fun w' => w'.cell? ⟨w.heap.size, 3, none⟩ = some (.int .i64 x.f.kind) ∧ w'.cell? ⟨w.heap.size, 4, none⟩ = some (.int .i64 x.f.a) ∧ w'.cell? ⟨w.heap.size, 5, none⟩ = some (.int .i64 x.f.b) ∧ w'.cell? ⟨w.heap.size, 6, none⟩ = some (.int .i64 x.g.kind) ∧ w'.cell? ⟨w.heap.size, 7, none⟩ = some (.int .i64 x.g.a) ∧ w'.cell? ⟨w.heap.size, 8, none⟩ = some (.int .i64 x.g.b) ∧ w'.cell? ⟨w.heap.size, 9, none⟩ = some (.int .i64 x.n)) (first | go_keep | exact ⟨(HX.out _ hcur).2.2.2.1, (HX.out _ hcur).2.2.2.2.1, (HX.out _ hcur).2.2.2.2.2.1, (HX.out _ hcur).2.2.2.2.2.2.1, (HX.out _ hcur).2.2.2.2.2.2.2.1, (HX.out _ hcur).2.2.2.2.2.2.2.2.1, (HX.out _ hcur).2.2.2.2.2.2.2.2.2⟩) (first | (go_at_call 15; refine (HQ.out _ (by repeat (first | exact Only.refl _ _ | apply Only.drew | apply Only.drewN))).mono ?_; rintro e w3 ⟨rfl, hb, hs⟩; have HB3 := hide hb; have hc3 : ∀ k ∈ w.heap.size :: xs, w3.heap[k]? = W1.heap[k]? := hs; clear hcur hb hs; have hcur := hc3; clear hc3) | (go_at_call 27; refine (HXW.out _ _ (HB3.out.quiet (by repeat (first | exact Only.refl _ _ | apply Only.drew | apply Only.drewN)))).mono ?_; rintro e w4 ⟨rfl, F4, hb, hs⟩; have HB4 := hide hb; have hc4 : ∀ k ∈ w.heap.size :: xs, w4.heap[k]? = W1.heap[k]? := fun k hk => (hs k hk).trans (hcur k hk); clear hcur hb hs; have hcur := hc4; clear hc4))
  all_goals
    go_wp2
    go_ret
    refine ⟨by simp, HD.out _ _ (HB4.out.quiet (by repeat (first | exact Only.refl _ _ | apply Only.drew | apply Only.drewN))) (HT.out _ hcur)⟩
end
end Go.Proofs.Ytokclkiidhcffaa
