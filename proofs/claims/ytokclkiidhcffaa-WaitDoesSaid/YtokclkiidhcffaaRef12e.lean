/-
  The document's sleepers (parapetref12): Move.
-/
import Derived.Test.YtokclkiidhcffaaRef12d
namespace Go.Proofs.Ytokclkiidhcffaa
open Go.ChangeShapes Go.WideShapes Go.ChangeAt Go.RowKit Go.Maps
set_option linter.unusedVariables false
structure AccR where
  left : List SE
  behind : List SE
  moved : Nat
def movesR (c d : CH) (n : Int) (R0 : List SE) (a : AccR) (x : SE) : Bool := decide (x.on = c) && !decide (d ∈ onR R0 x.tid) && decide ((a.moved : Int) < n)
def stepR (c d : CH) (n : Int) (R0 : List SE) (a : AccR) (x : SE) : AccR :=
  if movesR c d n R0 a x then ⟨a.left, a.behind ++ [⟨x.tid, d, x.nth⟩], a.moved + 1⟩ else ⟨a.left ++ [x], a.behind, a.moved⟩
def foldR (c d : CH) (n : Int) (R0 : List SE) (l : List SE) : AccR := l.foldl (stepR c d n R0) ⟨[], [], 0⟩
theorem foldR_snoc (c d : CH) (n : Int) (R0 l : List SE) (x : SE) : foldR c d n R0 (l ++ [x]) = stepR c d n R0 (foldR c d n R0 l) x := by simp [foldR]
theorem foldR_len (c d : CH) (n : Int) (R0 : List SE) : ∀ (i : Nat) (l : List SE), (foldR c d n R0 (l.take i)).left.length + (foldR c d n R0 (l.take i)).behind.length ≤ i ∧ (foldR c d n R0 (l.take i)).moved ≤ i
  | 0, l => by simp [foldR]
  | i + 1, l => by
    rcases Nat.lt_or_ge i l.length with h | h
    · rw [List.take_add_one, show l[i]?.toList = [l[i]] by simp [h], foldR_snoc]
      have := foldR_len c d n R0 i l
      unfold stepR
      split
      · simp only [List.length_append, List.length_cons, List.length_nil]; omega
      · simp only [List.length_append, List.length_cons, List.length_nil]; omega
    · have := foldR_len c d n R0 i l
      rw [List.take_of_length_le (by omega)]
      rw [List.take_of_length_le h] at this
      omega
def moveR (c d : CH) (n : Int) (R : List SE) : List SE × Nat := if c = d then (R, 0) else ((foldR c d n R R).left ++ (foldR c d n R R).behind, (foldR c d n R R).moved)
/-- Two rows of seats, made behind world w. -/
structure Two (w W : World) (lv bv : Value) (L B : List SE) : Prop where
  rl : ERw W lv L
  rb : ERw W bv B
  ol : ∀ q, lv.ownBlock = some q → w.heap.size ≤ q
  ob : ∀ q, bv.ownBlock = some q → w.heap.size ≤ q
  ap : ∀ q, lv.ownBlock = some q → bv.ownBlock ≠ some q
  only : Only [] w W
section
variable {w W W2 : World} {lv bv v' : Value} {L B L' B' : List SE}
theorem Two.quiet (h : Two w W lv bv L B) (ho : Only [] W W2) : Two w W2 lv bv L B := ⟨h.rl.only ho (by simp), h.rb.only ho (by simp), h.ol, h.ob, h.ap, h.only.trans ho⟩
theorem Two.left (h : Two w W lv bv L B) (hr : ERw W2 v' L') (ho : Only lv.ownBlock.toList W W2) (hf : ∀ k, v'.ownBlock = some k → lv.ownBlock = some k ∨ W.heap.size ≤ k) : Two w W2 v' bv L' B := by
  refine ⟨hr, h.rb.only ho (fun q hq hm => h.ap q (by simpa only [Option.mem_toList] using hm) hq), fun q hq => ?_, h.ob, fun q hq e => ?_, h.only.trans' ho (fun k hk hm => ?_)⟩
  · rcases hf q hq with h1 | h1
    · exact h.ol q h1
    · exact Nat.le_trans h.only.size h1
  · rcases hf q hq with h1 | h1
    · exact h.ap q h1 e
    · have := (h.rb.at_ e).1; omega
  · have := h.ol k (by simpa only [Option.mem_toList] using hm); omega
theorem Two.behind (h : Two w W lv bv L B) (hr : ERw W2 v' B') (ho : Only bv.ownBlock.toList W W2) (hf : ∀ k, v'.ownBlock = some k → bv.ownBlock = some k ∨ W.heap.size ≤ k) : Two w W2 lv v' L B' := by
  refine ⟨h.rl.only ho (fun q hq hm => h.ap q hq (by simpa only [Option.mem_toList] using hm)), hr, h.ol, fun q hq => ?_, fun q hq e => ?_, h.only.trans' ho (fun k hk hm => ?_)⟩
  · rcases hf q hq with h1 | h1
    · exact h.ob q h1
    · exact Nat.le_trans h.only.size h1
  · rcases hf q e with h1 | h1
    · exact h.ap q hq h1
    · have := (h.rl.at_ hq).1; omega
  · have := h.ob k (by simpa only [Option.mem_toList] using hm); omega
end
section
variable {w w' w1 : World} {r : Nat} {R R' : List SE} {F S : List Nat} {s : LW}
set_option maxHeartbeats 1000000 in
set_option maxRecDepth 100000 in
theorem xmove_is (h : Rf w r R F) (hR : RelW s R) (c d : CH) (n : Int) :
    Calls Try.prog 27 #[.pointer (some ⟨r, 0, none⟩), kV c, kV d, .int .i64 n] w fun e w' => e = .returned (.int .i64 (moveR c d n R).2) ∧ DidF w w' r F (moveR c d n R).1 := by
  have H := hide h
  have HO := hide ((((Only.refl [] w).alloc (.cells (cC c) 32)).alloc (.cells (cC d) 32)))
  have HBC := hide (fun (W : World) (hW : Only [] ((w.alloc (.cells (cC c) 32)).alloc (.cells (cC d) 32)) W) => (show W.cell? ⟨w.heap.size, 0, none⟩ = some (.int .i64 c.kind) ∧ W.cell? ⟨w.heap.size, 1, none⟩ = some (.int .i64 c.a) ∧ W.cell? ⟨w.heap.size, 2, none⟩ = some (.int .i64 c.b) from by
    have k := (((Blk.new w 32 (cC c)).alloc (.cells (cC d) 32))).only hW (by simp)
    exact ⟨k.cell 0, k.cell 1, k.cell 2⟩))
  have HBD := hide (fun (W : World) (hW : Only [] ((w.alloc (.cells (cC c) 32)).alloc (.cells (cC d) 32)) W) => (show W.cell? ⟨w.heap.size + 1, 0, none⟩ = some (.int .i64 d.kind) ∧ W.cell? ⟨w.heap.size + 1, 1, none⟩ = some (.int .i64 d.a) ∧ W.cell? ⟨w.heap.size + 1, 2, none⟩ = some (.int .i64 d.b) from by
    have k := (Blk.new (w.alloc (.cells (cC c) 32)) 32 (cC d)).only hW (by simp)
    rw [show (w.alloc (.cells (cC c) 32)).heap.size = w.heap.size + 1 by simp] at k
    exact ⟨k.cell 0, k.cell 1, k.cell 2⟩))
  by_cases hcd : c = d
  · have hq : ∀ w : World, (binOp .eql 32 (.agg (cC c)) (.agg (cC d))).run Try.prog w = .ok (.bool true) w := chan_eql (by simpa using hcd)
    have hM : moveR c d n R = (R, 0) := by unfold moveR; rw [if_pos hcd]
    obtain ⟨c0, c1, c2⟩ := HBC.out _ (Only.refl _ _)
    obtain ⟨d0, d1, d2⟩ := HBD.out _ (Only.refl _ _)
    rw [hM]
    clear h hR hcd hM
    go_enter Try.func27, Try.ntmps27
    go_wp2
    go_ret
    exact ⟨rfl, F, H.out.quiet HO.out, TurnW.same F HO.out⟩
  · have hq : ∀ w : World, (binOp .eql 32 (.agg (cC c)) (.agg (cC d))).run Try.prog w = .ok (.bool false) w := chan_eql (by simpa using hcd)
    have hM : moveR c d n R = ((foldR c d n R R).left ++ (foldR c d n R R).behind, (foldR c d n R R).moved) := by unfold moveR; rw [if_neg hcd]
    obtain ⟨c0, c1, c2⟩ := HBC.out _ (Only.refl _ _)
    obtain ⟨d0, d1, d2⟩ := HBD.out _ (Only.refl _ _)
    obtain ⟨A, cap, hc, hA⟩ := h.cell
    obtain ⟨x0, _, _⟩ := hc _ HO.out
    have HC := hide hc
    have HA := hide hA
    have HRF := hide (seats_few hR)
    have HR0 := hide hR
    have HM := hide hM
    clear h hR hcd hc hA hM
    rw [HM.out]
    go_enter Try.func27, Try.ntmps27
    go_wp2
    go_loopw [9, 10, 11, 25] (fun mv lv bv iv wr => ∃ i : Nat, i ≤ R.length ∧ iv = .int .i64 i ∧ mv = .int .i64 (foldR c d n R (R.take i)).moved ∧ Two ((w.alloc (.cells (cC c) 32)).alloc (.cells (cC d) 32)) wr lv bv (foldR c d n R (R.take i)).left (foldR c d n R (R.take i)).behind) (fun mv lv bv iv _ => R.length - (intOf iv).toNat)
    case atStart => exact ⟨0, Nat.zero_le _, rfl, rfl, ERw.nil _, ERw.nil _, by simp [Value.ownBlock], by simp [Value.ownBlock], by simp [Value.ownBlock], Only.refl _ _⟩
    case round =>
      rename_i mv lv bv iv
      obtain ⟨i, hi, rfl, rfl, hT⟩ := hrel
      by_cases hlt : i < R.length
      · have hltI : (i : Int) < R.length := by omega
        obtain ⟨b, rfl, _⟩ := HA.out (by omega)
        obtain ⟨e0, e1, e2, e3, e4⟩ := (HC.out wr (HO.out.trans hT.only)).2.2.cell rfl rfl (show R[i]? = some R[i] by simp [hlt])
        have HTK := hide (show foldR c d n R (R.take (i + 1)) = stepR c d n R (foldR c d n R (R.take i)) R[i] by rw [List.take_add_one, show R[i]?.toList = [R[i]] by simp [hlt], foldR_snoc])
        have hlen := foldR_len c d n R i R
        generalize R[i] = x at *
        generalize foldR c d n R (R.take i) = a at *
        have HLEN := hide hlen
        obtain ⟨p0, hp0⟩ : ∃ p0, wr.heap.size = p0 := ⟨_, rfl⟩
        have HP0 := hide hp0
        have HBX := hide (fun (W : World) (hW : Only [] (wr.alloc (.cells x.cells.toArray 40)) W) => (show W.cell? ⟨p0, 0, none⟩ = some (.int .i64 x.tid) ∧ W.cell? ⟨p0, 1, none⟩ = some (.int .i64 x.on.kind) ∧ W.cell? ⟨p0, 2, none⟩ = some (.int .i64 x.on.a) ∧ W.cell? ⟨p0, 3, none⟩ = some (.int .i64 x.on.b) ∧ W.cell? ⟨p0, 4, none⟩ = some (.int .i64 x.nth) from by
          have k := (Blk.new wr 40 x.cells.toArray).only hW (by simp)
          rw [hp0] at k
          exact ⟨k.cell 0, k.cell 1, k.cell 2, k.cell 3, k.cell 4⟩))
        have HT := hide (hT.quiet ((Only.refl [] wr).alloc (.cells x.cells.toArray 40)))
        have HON := hide (xon_is (H.out.quiet (HO.out.trans HT.out.only)) HRF.out x.tid)
        unfold SE.cells at HBX HT HON
        have HA16 := hide (show (onR R x.tid).length ≤ 16 by
          rw [onR_is HR0.out]
          by_cases he : atL s.1 x.tid = []
          · rw [he]; simp
          · obtain ⟨p, hp, hpe⟩ := List.mem_map.1 (mem_atL he)
            rw [← hpe, atL_of_mem HR0.out.ok.k1 hp]
            exact HR0.out.ok.on16 p hp)
        generalize hal : onR R x.tid = al at *
        have HAL := hide hal
        clear hT hlen hp0 hal
        go_wp2_with (go_at_call 31; refine HON.out.mono ?_; rintro e w5 ⟨v5, rfl, hr, _, ho⟩; obtain ⟨A5, c5, rfl, hA5⟩ := hr.form; have HR5 := hide hr; have HA5 := hide hA5; have HO5 := hide ho; clear hr ho hA5)
        rw [HP0.out]
        go_loopw [14, 34] (fun av jv wr2 => ∃ j : Nat, j ≤ al.length ∧ jv = .int .i64 j ∧ av = .bool (decide (d ∈ al.take j)) ∧ Only [] w5 wr2) (fun av jv _ => al.length - (intOf jv).toNat)
        case atStart => exact ⟨0, Nat.zero_le _, rfl, by simp, Only.refl _ _⟩
        case round =>
          obtain ⟨j, hj, rfl, rfl, hw2⟩ := hrel
          by_cases hlt2 : j < al.length
          · have hltI2 : (j : Int) < al.length := by omega
            obtain ⟨b5, rfl, _⟩ := HA5.out (by omega)
            obtain ⟨f0, f1, f2⟩ := (HR5.out.only hw2 (by simp)).cell rfl rfl (show al[j]? = some al[j] by simp [hlt2])
            have HTJ := hide (show al.take (j + 1) = al.take j ++ [al[j]] by rw [List.take_add_one]; simp [hlt2])
            generalize al[j] = y at *
            obtain ⟨g0, g1, g2⟩ := HBD.out _ (((HT.out.only.trans HO5.out).trans hw2).alloc (.cells (cC y) 32))
            have HW2 := hide (hw2.alloc (.cells (cC y) 32))
            by_cases hal2 : d ∈ al.take j
            · have b1 : decide (d ∈ al.take j) = true := by simpa using hal2
              have e9 : decide (d ∈ al.take (j + 1)) = true := by rw [HTJ.out]; simp [hal2]
              have HE9 := hide e9
              rw [b1]
              clear hal2 b1 e9 hw2
              go_wp2
              rw [show wrap64 ((j : Int) + 1) = ((j + 1 : Nat) : Int) by have := HA16.out; rw [wrap64]; omega]
              refine ⟨⟨j + 1, hlt2, rfl, by rw [HE9.out], HW2.out⟩, ?_⟩
              simp [intOf]
              omega
            · have b1 : decide (d ∈ al.take j) = false := by simpa using hal2
              have e9 : decide (d ∈ al.take (j + 1)) = decide (y = d) := by
                rw [HTJ.out]
                simp [hal2, eq_comm]
              have HE9 := hide e9
              have hq9 : ∀ w : World, (binOp .eql 32 (.agg (cC y)) (.agg (cC d))).run Try.prog w = .ok (.bool (decide (y = d))) w := chan_eql rfl
              rw [b1]
              clear hal2 b1 e9 hw2
              generalize decide (y = d) = q9 at *
              go_wp2
              rw [show wrap64 ((j : Int) + 1) = ((j + 1 : Nat) : Int) by have := HA16.out; rw [wrap64]; omega]
              refine ⟨⟨j + 1, hlt2, rfl, by rw [HE9.out], HW2.out⟩, ?_⟩
              simp [intOf]
              omega
          · obtain rfl : j = al.length := by omega
            rw [List.take_length]
            have HT2 := hide (HT.out.quiet (HO5.out.trans hw2))
            obtain ⟨k0, k1, k2, k3, k4⟩ := HBX.out wr (HO5.out.trans hw2 |> fun h => (Only.refl [] _).trans h)
            have e9 : al.take al.length = al := List.take_length
            obtain ⟨m0, m1, m2⟩ := HBC.out _ HT2.out.only
            obtain ⟨g0, g1, g2⟩ := HBD.out _ HT2.out.only
            have hqc : ∀ w : World, (binOp .eql 32 (.agg (cC x.on)) (.agg (cC c))).run Try.prog w = .ok (.bool (decide (x.on = c))) w := chan_eql rfl
            obtain ⟨Al, cl, hlv, _⟩ := HT2.out.rl.form
            obtain ⟨Ab, cb, hbv, _⟩ := HT2.out.rb.form
            subst hlv hbv
            have HWB := hide (show wrap64 (((a.moved : Nat) : Int) + 1) = ((a.moved + 1 : Nat) : Int) by have := HLEN.out; have := HRF.out; rw [wrap64]; omega)
            have HWI := hide (show wrap64 ((i : Int) + 1) = ((i + 1 : Nat) : Int) by have := HRF.out; rw [wrap64]; omega)
            have HTL := hide (HT2.out.quiet ((Only.refl [] wr).alloc (.cells x.cells.toArray 40)))
            have HTB := hide (HT2.out.quiet ((Only.refl [] wr).alloc (.cells (SE.cells ⟨x.tid, d, x.nth⟩).toArray 40)))
            have HNL := hide (seats_new wr [x] (by simp))
            have HNB := hide (seats_new wr [⟨x.tid, d, x.nth⟩] (by simp))
            rw [show (flatE [x]).toArray = x.cells.toArray from rfl, show ([x] : List SE).length = 1 from rfl] at HNL
            rw [show (flatE [(⟨x.tid, d, x.nth⟩ : SE)]).toArray = (SE.cells ⟨x.tid, d, x.nth⟩).toArray from rfl, show ([(⟨x.tid, d, x.nth⟩ : SE)] : List SE).length = 1 from rfl] at HNB
            have HBL := hide (show a.left.length + ([x] : List SE).length < 1000000 by have := HLEN.out; have := HRF.out; simp only [List.length_cons, List.length_nil]; omega)
            have HBB := hide (show a.behind.length + ([⟨x.tid, d, x.nth⟩] : List SE).length < 1000000 by have := HLEN.out; have := HRF.out; simp only [List.length_cons, List.length_nil]; omega)
            unfold SE.cells at HTL HTB HNL HNB
            have HMV := hide (show movesR c d n R a x = (decide (x.on = c) && !decide (d ∈ al) && decide (((a.moved : Nat) : Int) < n)) by unfold movesR; rw [HAL.out])
            clear hw2 e9
            by_cases hx1 : x.on = c
            · by_cases hx2 : d ∈ al
              · skip
                have hmv : stepR c d n R a x = ⟨a.left ++ [x], a.behind, a.moved⟩ := by unfold stepR; rw [HMV.out, if_neg (by simp [hx1, hx2])]
                have HST := hide hmv
                have p1 : decide (x.on = c) = true := by simpa using hx1
                rw [p1] at hqc
                have p2 : decide (d ∈ al) = true := by simpa using hx2
                rw [p2]
                clear hx1 hx2 p1 p2 hmv
                go_wp2_with (at_builtin; refine wpList_append_seats12 (v := .slice Al a.left.length cl) rfl _ _ rfl rfl HTL.out.rl rfl HNL.out HBL.out ?_; rintro v7 w7 h1 h2 h3 ⟨A7, c7, rfl⟩; have HT7 := hide (HTL.out.left h1 h2 h3); clear h1 h2 h3)
                rw [HWI.out, show a.left.length + 1 = (a.left ++ [x]).length by simp]
                refine ⟨⟨i + 1, hlt, rfl, by rw [HTK.out, HST.out], ?_⟩, ?_⟩
                · rw [HTK.out, HST.out]
                  exact HT7.out
                · simp [intOf]
                  omega
              · by_cases hx3 : ((a.moved : Nat) : Int) < n
                · have hmv : stepR c d n R a x = ⟨a.left, a.behind ++ [⟨x.tid, d, x.nth⟩], a.moved + 1⟩ := by unfold stepR; rw [HMV.out, if_pos (by simp [hx1, hx2, hx3])]
                  have HST := hide hmv
                  have p1 : decide (x.on = c) = true := by simpa using hx1
                  have p2 : decide (d ∈ al) = false := by simpa using hx2
                  have p3 : decide (((a.moved : Nat) : Int) < n) = true := by simpa using hx3
                  rw [p1] at hqc
                  rw [p2]
                  clear hx1 hx2 hmv p1 p2
                  go_wp2_with (at_builtin; refine wpList_append_seats12 (v := .slice Ab a.behind.length cb) rfl _ _ rfl rfl HTB.out.rb rfl HNB.out HBB.out ?_; rintro v7 w7 h1 h2 h3 ⟨A7, c7, rfl⟩; have HT7 := hide (HTB.out.behind h1 h2 h3); clear h1 h2 h3)
                  rw [HWI.out, HWB.out, show a.behind.length + 1 = (a.behind ++ [(⟨x.tid, d, x.nth⟩ : SE)]).length by simp]
                  refine ⟨⟨i + 1, hlt, rfl, by rw [HTK.out, HST.out], ?_⟩, ?_⟩
                  · rw [HTK.out, HST.out]
                    exact HT7.out
                  · simp [intOf]
                    omega
                · skip
                  have hmv : stepR c d n R a x = ⟨a.left ++ [x], a.behind, a.moved⟩ := by unfold stepR; rw [HMV.out, if_neg (by simp [hx1, hx2, hx3])]
                  have HST := hide hmv
                  have p1 : decide (x.on = c) = true := by simpa using hx1
                  rw [p1] at hqc
                  have p2 : decide (d ∈ al) = false := by simpa using hx2
                  rw [p2]
                  have p3 : decide (((a.moved : Nat) : Int) < n) = false := by simpa using hx3
                  clear hx1 hx2 p1 p2 hmv
                  go_wp2_with (at_builtin; refine wpList_append_seats12 (v := .slice Al a.left.length cl) rfl _ _ rfl rfl HTL.out.rl rfl HNL.out HBL.out ?_; rintro v7 w7 h1 h2 h3 ⟨A7, c7, rfl⟩; have HT7 := hide (HTL.out.left h1 h2 h3); clear h1 h2 h3)
                  rw [HWI.out, show a.left.length + 1 = (a.left ++ [x]).length by simp]
                  refine ⟨⟨i + 1, hlt, rfl, by rw [HTK.out, HST.out], ?_⟩, ?_⟩
                  · rw [HTK.out, HST.out]
                    exact HT7.out
                  · simp [intOf]
                    omega
            · skip
              have hmv : stepR c d n R a x = ⟨a.left ++ [x], a.behind, a.moved⟩ := by unfold stepR; rw [HMV.out, if_neg (by simp [hx1])]
              have HST := hide hmv
              have p1 : decide (x.on = c) = false := by simpa using hx1
              rw [p1] at hqc
              generalize decide (d ∈ al) = q5 at *
              clear hx1 p1 hmv
              go_wp2_with (at_builtin; refine wpList_append_seats12 (v := .slice Al a.left.length cl) rfl _ _ rfl rfl HTL.out.rl rfl HNL.out HBL.out ?_; rintro v7 w7 h1 h2 h3 ⟨A7, c7, rfl⟩; have HT7 := hide (HTL.out.left h1 h2 h3); clear h1 h2 h3)
              rw [HWI.out, show a.left.length + 1 = (a.left ++ [x]).length by simp]
              refine ⟨⟨i + 1, hlt, rfl, by rw [HTK.out, HST.out], ?_⟩, ?_⟩
              · rw [HTK.out, HST.out]
                exact HT7.out
              · simp [intOf]
                omega
      · obtain rfl : i = R.length := by omega
        rw [List.take_length] at hT ⊢
        have hlen := foldR_len c d n R R.length R
        rw [List.take_length] at hlen
        generalize hga : foldR c d n R R = a at *
        have HGA := hide hga
        clear hga
        obtain ⟨Al, cl, hlv, _⟩ := hT.rl.form
        obtain ⟨Ab, cb, hbv, _⟩ := hT.rb.form
        subst hlv hbv
        have HT := hide hT
        have HBL := hide (show a.left.length + a.behind.length < 1000000 by have := HRF.out; omega)
        clear hT hlen
        go_wp2_with (at_builtin; refine wpList_append_seats12 (v := .slice Al a.left.length cl) rfl _ _ rfl rfl HT.out.rl rfl HT.out.rb.sees HBL.out ?_; rintro v7 w7 h1 h2 h3 ⟨A7, c7, rfl⟩; have h7 := HT.out.left h1 h2 h3; obtain ⟨y0, y1, _⟩ := HC.out w7 (HO.out.trans h7.only); have HT7 := hide (H.out.set_ (HO.out.trans h7.only) h7.rl (fun q hq => Nat.le_trans HO.out.size (h7.ol q hq))); clear h1 h2 h3 h7)
        go_ret
        rw [show a.left.length + a.behind.length = (a.left ++ a.behind).length by simp, HGA.out]
        exact ⟨rfl, HT7.out⟩
end
end Go.Proofs.Ytokclkiidhcffaa
