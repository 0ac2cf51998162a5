/-
  The document's pipe (parapetref21): New, Open, Close, Ready, Read, Write.
-/
import Derived.Test.YteljjngmhldfbaaPiX
namespace Go.Proofs.Yteljjngmhldfbaa
open Go.ChangeShapes Go.WideShapes Go.ChangeAt Go.RowKit
set_option linter.unusedVariables false
set_option linter.unusedSimpArgs false
/-- The document's pipe in block x. -/
structure XP (w : World) (x B0 : Nat) (v : Value) (B : List Int) (r q : Int) : Prop where
  blk : Blk w x 62 #[v, .int .i64 r, .int .i64 q]
  row : BRow w B0 v B
  few : B.length ≤ 512
  rd : 0 ≤ r ∧ r ≤ 2147483647
  wr : 0 ≤ q ∧ q ≤ 2147483647
section
variable {w w' : World} {x B0 : Nat} {v : Value} {B : List Int} {r q : Int} {S : List Nat}
theorem XP.only (h : XP w x B0 v B r q) (ho : Only S w w') (hx : x ∉ S) (hv : ∀ k, v.ownBlock = some k → k ∉ S) : XP w' x B0 v B r q := ⟨h.blk.only ho hx, h.row.only ho hv, h.few, h.rd, h.wr⟩
theorem XP.quiet (h : XP w x B0 v B r q) (ho : Only [] w w') : XP w' x B0 v B r q := h.only ho (by simp) (by simp)
theorem x21New_is (w : World) : Calls Try.prog 10 #[] w fun e w' => e = .returned (.pointer (some ⟨w.heap.size, 0, none⟩)) ∧ Only [] w w' ∧ XP w' w.heap.size w.heap.size (.slice none 0 0) [] 1 1 := by
  have HF := hide (show XP (w.alloc (.cells #[.slice none 0 0, .int .i64 1, .int .i64 1] 62)) w.heap.size w.heap.size (.slice none 0 0) [] 1 1 from ⟨Blk.new _ _ _, KRow.nil _ _ _ _, Nat.zero_le _, by decide, by decide⟩)
  have HO := hide ((Only.refl [] w).alloc (.cells #[.slice none 0 0, .int .i64 1, .int .i64 1] 62))
  go_enter Try.func10, Try.ntmps10
  go_wp2
  go_ret
  exact ⟨rfl, HO.out, HF.out⟩
theorem x21Open_is (h : XP w x B0 v B r q) (b : Bool) (hr : r < 2147483647) (hq : q < 2147483647) : Calls Try.prog 30 #[.pointer (some ⟨x, 0, none⟩), .bool b] w fun e w' => e = .returned (.int .i64 0) ∧ Only [x] w w' ∧ XP w' x B0 v B (openP r q b).2.1 (openP r q b).2.2 := by
  have c1 := h.blk.cell 1
  have c2 := h.blk.cell 2
  have f1 := h.blk.frozen 1
  have f2 := h.blk.frozen 2
  have hr0 := h.rd
  have hq0 := h.wr
  have hn := h.row.apart h.blk (by decide)
  cases b
  · have ho : Only [x] w (w.setCell ⟨x, 1, none⟩ (.int .i64 (r + 1))) := (Only.refl _ _).setCell _ (by simp)
    have HF := hide (show XP (w.setCell ⟨x, 1, none⟩ (.int .i64 (r + 1))) x B0 v B (r + 1) q from ⟨h.blk.set_ 1 _, h.row.only ho (fun k hk => by simpa using hn k hk), h.few, by omega, hq0⟩)
    have HO := hide ho
    have HE := hide (show openP r q false = (0, r + 1, q) by simp [openP]; omega)
    clear h ho
    go_enter Try.func30, Try.ntmps30
    go_wp2
    go_ret
    rw [HE.out]
    exact ⟨rfl, HO.out, HF.out⟩
  · have ho : Only [x] w (w.setCell ⟨x, 2, none⟩ (.int .i64 (q + 1))) := (Only.refl _ _).setCell _ (by simp)
    have HF := hide (show XP (w.setCell ⟨x, 2, none⟩ (.int .i64 (q + 1))) x B0 v B r (q + 1) from ⟨h.blk.set_ 2 _, h.row.only ho (fun k hk => by simpa using hn k hk), h.few, hr0, by omega⟩)
    have HO := hide ho
    have HE := hide (show openP r q true = (0, r, q + 1) by simp [openP]; omega)
    clear h ho
    go_enter Try.func30, Try.ntmps30
    go_wp2
    go_ret
    rw [HE.out]
    exact ⟨rfl, HO.out, HF.out⟩
set_option maxRecDepth 100000 in
theorem x21Close_is (h : XP w x B0 v B r q) (b : Bool) : Calls Try.prog 31 #[.pointer (some ⟨x, 0, none⟩), .bool b] w fun e w' => e = .returned (.tuple #[.bool (closeP r q b).1, .int .i64 (closeP r q b).2.1]) ∧ Only [x] w w' ∧ XP w' x B0 v B (closeP r q b).2.2.1 (closeP r q b).2.2.2 := by
  have HX := hide h
  have c1 := h.blk.cell 1
  have c2 := h.blk.cell 2
  have f1 := h.blk.frozen 1
  have f2 := h.blk.frozen 2
  have hr0 := h.rd
  have hq0 := h.wr
  have hn := h.row.apart h.blk (by decide)
  cases b
  · by_cases k1 : r = 0
    · have k2 : (r == 0) = true := by simp [k1]
      have HR := hide (show closeP r q false = (false, 4, r, q) by simp [closeP, k1])
      clear k1 h
      go_enter Try.func31, Try.ntmps31
      go_wp2
      go_ret2
      rw [HR.out]
      exact ⟨rfl, Only.refl _ _, HX.out⟩
    · have k2 : (r == 0) = false := by simp [k1]
      have HR := hide (show closeP r q false = (r - 1 == 0 && q == 0, 0, r - 1, q) by simp [closeP, k1])
      have ho : Only [x] w (w.setCell ⟨x, 1, none⟩ (.int .i64 (r - 1))) := (Only.refl _ _).setCell _ (by simp)
      have HF := hide (show XP (w.setCell ⟨x, 1, none⟩ (.int .i64 (r - 1))) x B0 v B (r - 1) q from ⟨h.blk.set_ 1 _, h.row.only ho (fun k hk => by simpa using hn k hk), h.few, by omega, hq0⟩)
      have HO := hide ho
      clear k1 h ho
      cases hz : (r - 1 == 0)
      · go_enter Try.func31, Try.ntmps31
        go_wp2
        go_ret2
        rw [HR.out, hz]
        exact ⟨rfl, HO.out, HF.out⟩
      · go_enter Try.func31, Try.ntmps31
        go_wp2
        go_ret2
        rw [HR.out, hz]
        exact ⟨rfl, HO.out, HF.out⟩
  · by_cases k1 : q = 0
    · have k2 : (q == 0) = true := by simp [k1]
      have HR := hide (show closeP r q true = (false, 4, r, q) by simp [closeP, k1])
      clear k1 h
      go_enter Try.func31, Try.ntmps31
      go_wp2
      go_ret2
      rw [HR.out]
      exact ⟨rfl, Only.refl _ _, HX.out⟩
    · have k2 : (q == 0) = false := by simp [k1]
      have HR := hide (show closeP r q true = (r == 0 && q - 1 == 0, 0, r, q - 1) by simp [closeP, k1])
      have ho : Only [x] w (w.setCell ⟨x, 2, none⟩ (.int .i64 (q - 1))) := (Only.refl _ _).setCell _ (by simp)
      have HF := hide (show XP (w.setCell ⟨x, 2, none⟩ (.int .i64 (q - 1))) x B0 v B r (q - 1) from ⟨h.blk.set_ 2 _, h.row.only ho (fun k hk => by simpa using hn k hk), h.few, hr0, by omega⟩)
      have HO := hide ho
      clear k1 h ho
      cases hz : (r == 0)
      · go_enter Try.func31, Try.ntmps31
        go_wp2
        go_ret2
        rw [HR.out, hz]
        exact ⟨rfl, HO.out, HF.out⟩
      · go_enter Try.func31, Try.ntmps31
        go_wp2
        go_ret2
        rw [HR.out, hz]
        exact ⟨rfl, HO.out, HF.out⟩
theorem x21Ready_is (h : XP w x B0 v B r q) (b : Bool) : Calls Try.prog 35 #[.pointer (some ⟨x, 0, none⟩), .bool b] w fun e w' => e = .returned (.bool (readyP B r q b)) ∧ w = w' := by
  obtain ⟨A, c, rfl, -⟩ := h.row.form
  have c0 := h.blk.cell 0
  have c1 := h.blk.cell 1
  have c2 := h.blk.cell 2
  clear h
  cases b
  · cases hz : (q == 0)
    · have HF := hide (show readyP B r q false = decide (0 < B.length) by simp only [readyP, hz]; simp)
      go_enter Try.func35, Try.ntmps35
      go_wp2
      go_ret
      exact ⟨by rw [HF.out]; rfl, rfl⟩
    · have HF := hide (show readyP B r q false = true by simp only [readyP, hz]; simp)
      go_enter Try.func35, Try.ntmps35
      go_wp2
      go_ret
      exact ⟨by rw [HF.out]; rfl, rfl⟩
  · cases hz : (r == 0)
    · have HF := hide (show readyP B r q true = decide (B.length < 512) by simp only [readyP, hz]; simp)
      go_enter Try.func35, Try.ntmps35
      go_wp2
      go_ret
      exact ⟨by rw [HF.out]; simp; omega, rfl⟩
    · have HF := hide (show readyP B r q true = true by simp only [readyP, hz]; simp)
      go_enter Try.func35, Try.ntmps35
      go_wp2
      go_ret
      exact ⟨by rw [HF.out]; rfl, rfl⟩
theorem XP.put {X : List Int} {B1 : Nat} {v2 : Value} (h : XP w x B0 v B r q) (hb : BRow w B1 v2 X) (hB : B0 ≤ B1) (hl : X.length ≤ 512) : XP (w.setCell ⟨x, 0, none⟩ v2) x B0 v2 X r q := by
  have hn := hb.apart h.blk (by decide)
  refine ⟨h.blk.set_ 0 v2, ?_, hl, h.rd, h.wr⟩
  have h1 := hb.only ((Only.refl [x] w).setCell (p := ⟨x, 0, none⟩) v2 (by simp)) (fun k hk => by simpa using hn k hk)
  obtain ⟨h2, h3⟩ := h1
  rcases h3 with h3 | ⟨g, cap, cur, e, hg, rest⟩
  · exact ⟨h2, .inl h3⟩
  · exact ⟨h2, .inr ⟨g, cap, cur, e, Nat.le_trans hB hg, rest⟩⟩
/-- What a read of the document's pipe leaves. -/
def XRead (w w' : World) (e : Ending) (x B0 : Nat) (v : Value) (r q : Int) (R : List Int × Int × List Int) : Prop :=
  ∃ v1 v2, e = .returned (.tuple #[v1, .int .i64 R.2.1]) ∧ New w' w.heap.size v1 R.1 ∧ Only [x] w w' ∧ XP w' x B0 v2 R.2.2 r q ∧ (v2 = v ∨ ∀ k, v2.ownBlock = some k → w.heap.size ≤ k ∧ v1.ownBlock ≠ some k)
set_option maxRecDepth 100000 in
theorem x21Read_is (h : XP w x B0 v B r q) (n : Int) (hB : B0 ≤ w.heap.size) : Calls Try.prog 32 #[.pointer (some ⟨x, 0, none⟩), .int .i64 n] w fun e w' => XRead w w' e x B0 v r q (readP B (decide (0 < q)) n) := by
  have HX := hide h
  obtain ⟨A, c, e0, -⟩ := h.row.form
  have c0 := h.blk.cell 0
  have c2 := h.blk.cell 2
  have hfew := h.few
  have hq0 := h.wr
  subst e0
  by_cases k1 : n < 0
  · have HR := hide (show readP B (decide (0 < q)) n = ([], 1, B) by simp [readP, k1])
    clear h
    go_enter Try.func32, Try.ntmps32
    go_wp2
    go_ret2
    rw [HR.out]
    exact ⟨_, _, rfl, .inl ⟨rfl, rfl⟩, Only.refl _ _, HX.out, .inl rfl⟩
  · by_cases k2 : n = 0
    · have HR := hide (show readP B (decide (0 < q)) n = ([], 0, B) by simp [readP, k2])
      subst k2
      clear h k1
      go_enter Try.func32, Try.ntmps32
      go_wp2
      go_ret2
      rw [HR.out]
      exact ⟨_, _, rfl, .inl ⟨rfl, rfl⟩, Only.refl _ _, HX.out, .inl rfl⟩
    · have k2b : (n == 0) = false := by simp [k2]
      by_cases k3 : B = []
      · subst k3
        by_cases k4 : q = 0
        · have HR := hide (show readP [] (decide (0 < q)) n = ([], 0, []) by simp [readP, k1, k2, k4])
          have k4b : (q == 0) = true := by simp [k4]
          clear h k2 k4
          go_enter Try.func32, Try.ntmps32
          go_wp2
          go_ret2
          rw [HR.out]
          exact ⟨_, _, rfl, .inl ⟨rfl, rfl⟩, Only.refl _ _, HX.out, .inl rfl⟩
        · have HR := hide (show readP [] (decide (0 < q)) n = ([], 211, []) by simp [readP, k1, k2, show 0 < q by omega])
          have k4b : (q == 0) = false := by simp [k4]
          clear h k2 k4
          go_enter Try.func32, Try.ntmps32
          go_wp2
          go_ret2
          rw [HR.out]
          exact ⟨_, _, rfl, .inl ⟨rfl, rfl⟩, Only.refl _ _, HX.out, .inl rfl⟩
      · have hpos : 0 < B.length := List.length_pos_iff.2 k3
        have HR := hide (show readP B (decide (0 < q)) n = (B.take n.toNat, 0, B.drop n.toNat) by simp [readP, k1, k2, k3])
        have k3b : ((B.length : Int) == 0) = false := by simp; omega
        have HT := hide (takes_is h.row hpos (by omega) (show 0 < n by omega))
        clear h k2 k3 hpos
        go_enter Try.func32, Try.ntmps32
        go_wp2_with (go_at_call 48; refine HT.out.mono ?_; rintro e w5 ⟨v1, v2, rfl, hf, hb, hne, ho⟩; obtain ⟨A2, d2, rfl, -⟩ := hb.sees; have H5 := hide (And.intro hf (And.intro hb (And.intro hne ho))); have f5 := (HX.out.quiet ho).blk.frozen 0; have c5 := (HX.out.quiet ho).blk.cell 0; clear hf hb hne ho)
        go_ret2
        obtain ⟨hf, hb, hne, ho⟩ := H5.out
        have hb2 := hb
        rw [List.length_drop] at hb2 hne
        rw [HR.out]
        refine ⟨v1, _, rfl, .inr (hf.only ((Only.refl [x] w5).setCell (p := ⟨x, 0, none⟩) _ (by simp)) (fun d hd hm => ?_)), ?_, (HX.out.quiet ho).put hb2 hB (by rw [List.length_drop]; omega), .inr fun k hk => ⟨(hb2.at_ hk).1, by rw [← hk]; exact hne⟩⟩
        · obtain ⟨d', e1, h1, h2⟩ := hf.own
          rw [hd] at e1; injection e1 with e1
          have := HX.out.blk.lt
          simp at hm
          omega
        · exact (ho.mono (by simp)).setCell _ (by simp)
/-- What a write to the document's pipe leaves. -/
def XWrote (w w' : World) (e : Ending) (x B0 : Nat) (v : Value) (r q : Int) (R : Int × Int × List Int) : Prop :=
  ∃ v2, e = .returned (.tuple #[.int .i64 R.1, .int .i64 R.2.1]) ∧ Only (x :: v.ownBlock.toList) w w' ∧ XP w' x B0 v2 R.2.2 r q ∧ (∀ k, v2.ownBlock = some k → v.ownBlock = some k ∨ w.heap.size ≤ k)
set_option maxRecDepth 100000 in
set_option maxHeartbeats 1000000 in
theorem x21Write_is (h : XP w x B0 v B r q) (hB : B0 ≤ w.heap.size) {A1 : Option Addr} {m c : Nat} {zs : List Int} (hs : Sees w A1 m zs) (hA1 : A1 = none → m = 0 ∧ c = 0) (hmc : m ≤ c) (hm : m ≤ 140737488355328) :
    Calls Try.prog 34 #[.pointer (some ⟨x, 0, none⟩), .slice A1 m c] w fun e w' => XWrote w w' e x B0 v r q (writeP B r zs) := by
  have HX := hide h
  obtain ⟨A, d, e0, -⟩ := h.row.form
  have c0 := h.blk.cell 0
  have c1 := h.blk.cell 1
  have hfew := h.few
  have hzl := hs.1
  subst e0
  by_cases k1 : r = 0
  · have HR := hide (show writeP B r zs = (0, 210, B) by simp [writeP, k1])
    have k1b : (r == 0) = true := by simp [k1]
    clear k1 h hs
    go_enter Try.func34, Try.ntmps34
    go_wp2
    go_ret2
    rw [HR.out]
    exact ⟨_, rfl, Only.refl _ _, HX.out, fun k hk => .inl hk⟩
  · have k1b : (r == 0) = false := by simp [k1]
    by_cases k2 : zs = []
    · have HR := hide (show writeP B r zs = (0, 0, B) by simp [writeP, k1, k2])
      obtain rfl : m = 0 := by rw [← hzl, k2]; rfl
      clear k1 k2 h hs hzl
      go_enter Try.func34, Try.ntmps34
      go_wp2
      go_ret2
      rw [HR.out]
      exact ⟨_, rfl, Only.refl _ _, HX.out, fun k hk => .inl hk⟩
    · have hpos : 0 < m := by rw [← hzl]; exact List.length_pos_iff.2 k2
      have k2b : ((m : Int) == 0) = false := by simp; omega
      by_cases k3 : B.length = 512
      · have HR := hide (show writeP B r zs = (0, 211, B) by simp [writeP, k1, k2, k3])
        have k3b : (512 - (B.length : Int) == 0) = true := by simp; omega
        clear k1 k2 k3 h hs hzl
        go_enter Try.func34, Try.ntmps34
        go_wp2
        go_ret2
        rw [HR.out]
        exact ⟨_, rfl, Only.refl _ _, HX.out, fun k hk => .inl hk⟩
      · have k3b : (512 - (B.length : Int) == 0) = false := by simp; omega
        obtain ⟨n, hn⟩ : ∃ n, n = min m (512 - B.length) := ⟨_, rfl⟩
        have HR := hide (show writeP B r zs = ((n : Int), 0, B ++ zs.take n) by simp only [writeP, k1, k2, k3, if_false, hzl, ← hn])
        have HSZ := hide (fun W (hW : Only [] w W) => (show Sees W A1 n (zs.take n) from ⟨by rw [List.length_take]; omega, fun h0 => by
          obtain ⟨b, o, e, hb, hc⟩ := hs.2 hpos
          exact ⟨b, o, e, Nat.lt_of_lt_of_le hb hW.size, fun i hi => by rw [hW.cell hb (by simp), gb_take hi]; exact hc i (by omega)⟩⟩))
        have HA1 := hide (show A1 = none → n = 0 ∧ c = 0 from fun e => by have := hA1 e; omega)
        have HBG := hide (show B.length + n ≤ 140737488355328 by omega)
        have HB := hide hB
        have HROW := hide (fun W (hW : Only [] w W) => h.row.only hW (by simp))
        obtain ⟨L, hL⟩ : ∃ L, L = (B ++ zs.take n).length := ⟨_, rfl⟩
        have HFIN := hide (fun (W : World) (hW : Only [] w W) (v' : Value) (w2 : World) (hr : BRow w2 B0 v' (B ++ zs.take n)) (ho : Only (Value.slice A B.length d).ownBlock.toList W w2) (hk : ∀ k, v'.ownBlock = some k → (Value.slice A B.length d).ownBlock = some k ∨ W.heap.size ≤ k) =>
          (show ∃ A2 d2, v' = .slice A2 L d2 ∧ w2.frozen? ⟨x, 0, none⟩ = false ∧ (∃ u, w2.cell? ⟨x, 0, none⟩ = some u) ∧ XWrote w (w2.setCell ⟨x, 0, none⟩ (.slice A2 L d2)) (.returned (.tuple #[.int .i64 n, .int .i64 0])) x B0 (.slice A B.length d) r q ((n : Int), 0, B ++ zs.take n) from by
            obtain ⟨A2, d2, e2, -⟩ := hr.sees
            rw [← hL] at e2
            subst e2
            have hx2 : XP w2 x B0 (.slice A B.length d) B r q → True := fun _ => trivial
            have hn1 := h.row.apart h.blk (by decide)
            have hb2 : Blk w2 x 62 #[.slice A B.length d, .int .i64 r, .int .i64 q] := (h.blk.only hW (by simp)).only ho (fun hm => hn1 x (by simpa using hm) rfl)
            have hn2 := hr.apart hb2 (by decide)
            refine ⟨A2, d2, rfl, hb2.frozen 0, ⟨_, hb2.cell 0⟩, _, rfl, ?_, ⟨hb2.set_ 0 _, hr.only ((Only.refl [x] w2).setCell (p := ⟨x, 0, none⟩) _ (by simp)) (fun k hk => by simpa using hn2 k hk), by rw [List.length_append, List.length_take]; omega, h.rd, h.wr⟩, fun k hk' => ?_⟩
            · exact ((hW.mono (by simp)).trans (ho.mono (fun k _ hk => by simp at hk ⊢; exact .inr hk))).setCell _ (by simp)
            · rcases hk k hk' with e | e
              · exact .inl e
              · exact .inr (Nat.le_trans hW.size e)))
        have hnc : (n : Int) ≤ c := by omega
        clear hL
        by_cases hmin : m < 512 - B.length
        · obtain rfl : n = m := by omega
          have hd : decide ((n : Int) < 512 - (B.length : Int)) = true := decide_eq_true (by omega)
          clear k1 k2 k3 h hs hzl hn hmin
          go_enter Try.func34, Try.ntmps34
          go_wp2_with fail
          go_region_law (refine step_append_b (v := .slice A B.length d) rfl _ _ rfl ?_ (HROW.out _ ?_) A1 (n) c ?_ HA1.out (HSZ.out _ ?_) HBG.out (Nat.le_trans HB.out (Only.size (S := []) ?_)) ?_; (· simp [Act.eval, Act.put]); (· repeat (first | (with_reducible exact Only.refl _ _) | (with_reducible apply Only.drew))); (· simp [Act.eval, Act.put]); (· repeat (first | (with_reducible exact Only.refl _ _) | (with_reducible apply Only.drew))); (· repeat (first | (with_reducible exact Only.refl _ _) | (with_reducible apply Only.drew))); intro v7 w7 hr7 ho7 hk7; obtain ⟨A2, d2, rfl, f7, ⟨u7, c7⟩, hX7⟩ := HFIN.out _ (by repeat (first | (with_reducible exact Only.refl _ _) | (with_reducible apply Only.drew))) v7 w7 hr7 ho7 hk7; have HX7 := hide hX7; clear hr7 ho7 hk7 hX7)
          all_goals
            go_wp2
            go_ret2
            rw [HR.out]
            exact HX7.out
        · obtain rfl : n = 512 - B.length := by omega
          have hd : decide ((m : Int) < 512 - (B.length : Int)) = false := decide_eq_false (by omega)
          have HE := hide (show ((512 - B.length : Nat) : Int) = 512 - (B.length : Int) by omega)
          have hnc2 : 512 - (B.length : Int) ≤ c := by omega
          have hB5 : (B.length : Int) ≤ 512 := by omega
          rw [HE.out] at HR HFIN
          clear k1 k2 k3 h hs hzl hmin hnc hn
          go_enter Try.func34, Try.ntmps34
          go_wp2_with fail
          go_region_law (refine step_append_b (v := .slice A B.length d) rfl _ _ rfl ?_ (HROW.out _ ?_) A1 (512 - B.length) c ?_ HA1.out (HSZ.out _ ?_) HBG.out (Nat.le_trans HB.out (Only.size (S := []) ?_)) ?_; (· simp [Act.eval, Act.put]); (· repeat (first | (with_reducible exact Only.refl _ _) | (with_reducible apply Only.drew))); (· simp [Act.eval, Act.put]); (· repeat (first | (with_reducible exact Only.refl _ _) | (with_reducible apply Only.drew))); (· repeat (first | (with_reducible exact Only.refl _ _) | (with_reducible apply Only.drew))); intro v7 w7 hr7 ho7 hk7; obtain ⟨A2, d2, rfl, f7, ⟨u7, c7⟩, hX7⟩ := HFIN.out _ (by repeat (first | (with_reducible exact Only.refl _ _) | (with_reducible apply Only.drew))) v7 w7 hr7 ho7 hk7; have HX7 := hide hX7; clear hr7 ho7 hk7 hX7)
          all_goals
            go_wp2
            go_ret2
            rw [HR.out]
            exact HX7.out
end
end Go.Proofs.Yteljjngmhldfbaa
