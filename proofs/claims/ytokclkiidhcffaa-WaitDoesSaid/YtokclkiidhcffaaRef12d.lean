/-
  The document's sleepers (parapetref12): Sleep.
-/
import Derived.Test.YtokclkiidhcffaaRef12c
namespace Go.Proofs.Ytokclkiidhcffaa
open Go.ChangeShapes Go.WideShapes Go.ChangeAt Go.RowKit Go.Maps
set_option linter.unusedVariables false
section
variable {w w' W W1 W2 : World} {v x v' : Value} {r : Nat} {R R' ss zs : List SE} {F : List Nat}
theorem step_append_seats12 {ops : Array Oper} {o : Oper} {a : Act} {K : Act → World → Prop} {Q : Exit → Act → World → Prop} {E : Prop} (hgd : o.guard = none) (s y : Operand)
    (ho : o.op = .call { callee := .builtin .append, args := #[s, y], argTypes := #[27, 27] }) (hs : a.eval s = v) (hr : ERw w v ss)
    (hx : a.eval y = x) (hz : SeatsAt w x zs) (hbig : ss.length + zs.length < 1000000)
    (hK : ∀ v' w2, ERw w2 v' (ss ++ zs) → Only v.ownBlock.toList w w2 → (∀ k, v'.ownBlock = some k → v.ownBlock = some k ∨ w.heap.size ≤ k) → (∃ A c, v' = .slice A (ss ++ zs).length c) → K (a.put o.dst v') w2) :
    if Region.wanted o (yielded ops a.tmps) = true then Oper.wp Try.prog o a w K Q else E := by
  have hw : Region.wanted o (yielded ops a.tmps) = true := by simp [Region.wanted, hgd]
  rw [if_pos hw]
  exact wp_append_seats12 s y ho hs hr hx hz hbig hK
/-- The seats as they stand: the value, what it means to append to it. -/
theorem Rf.val (h : Rf w r R F) : ∃ A cap, (∀ W, Only [] w W → W.cell? ⟨r, 0, none⟩ = some (.slice A R.length cap) ∧ ERw W (.slice A R.length cap) R) ∧
    ∀ W W2 v', Only [] w W → ERw W2 v' R' → Only (Value.slice A R.length cap).ownBlock.toList W W2 → (∀ k, v'.ownBlock = some k → (Value.slice A R.length cap).ownBlock = some k ∨ W.heap.size ≤ k) → W2.cell? ⟨r, 0, none⟩ = some (.slice A R.length cap) ∧ W2.frozen? ⟨r, 0, none⟩ = false ∧ DidF w (W2.setCell ⟨r, 0, none⟩ v') r F R' := by
  obtain ⟨v, hb, hr, rfl⟩ := h
  obtain ⟨A, cap, rfl, hA⟩ := hr.form
  have hne : ∀ k, (Value.slice A R.length cap).ownBlock = some k → k ≠ r := hr.apart hb (by decide)
  refine ⟨A, cap, fun W hW => ⟨(hb.only hW (by simp)).cell 0, hr.only hW (by simp)⟩, fun W W2 v' hW hr' ho hf => ?_⟩
  have hb2 := (hb.only hW (by simp)).only ho (fun hm => hne r (by simpa only [Option.mem_toList] using hm) rfl)
  have hb3 := hb2.set_ 0 v'
  have o1 : Only [r] W2 (W2.setCell ⟨r, 0, none⟩ v') := (Only.refl [r] W2).setCell v' (fun _ => by simp)
  have hrlt : r < w.heap.size := hb.lt
  have hsz := hW.size
  refine ⟨hb2.cell 0, hb2.frozen 0, r :: v'.ownBlock.toList, ⟨v', hb3, hr'.only o1 (fun k hk => ?_), rfl⟩, ⟨((hW.mono (by simp)).trans' (S := r :: (Value.slice A R.length cap).ownBlock.toList) ho (fun k _ hk => List.mem_cons_of_mem _ hk)).trans' o1 (fun k _ hk => by simp at hk; simp [hk]), fun k hk => ?_⟩⟩
  · simp only [List.mem_singleton]
    rcases hf k hk with h | h
    · exact hne k h
    · omega
  · rcases List.mem_cons.1 hk with rfl | hk
    · exact .inl (by simp)
    · rcases hf k (by simpa only [Option.mem_toList] using hk) with h | h
      · exact .inl (by simp [h])
      · exact .inr (by omega)
end
def seatsFrom (t : Int) : List CH → Nat → List SE
  | [], _ => []
  | c :: r, k => ⟨t, c, (k : Int)⟩ :: seatsFrom t r (k + 1)
theorem seatsFrom_snoc (t : Int) (c : CH) : ∀ (l : List CH) (k : Nat), seatsFrom t (l ++ [c]) k = seatsFrom t l k ++ [⟨t, c, ((k + l.length : Nat) : Int)⟩]
  | [], k => by simp [seatsFrom]
  | x :: r, k => by
    show (_ :: seatsFrom t (r ++ [c]) (k + 1)) = _ :: (seatsFrom t r (k + 1) ++ _)
    rw [seatsFrom_snoc t c r (k + 1), show k + 1 + r.length = k + (x :: r).length by simp; omega]
theorem seatsFrom_len (t : Int) : ∀ (l : List CH) (k : Nat), (seatsFrom t l k).length = l.length
  | [], _ => rfl
  | x :: r, k => by
    show (_ :: seatsFrom t r (k + 1)).length = _
    rw [List.length_cons, seatsFrom_len t r, List.length_cons]
theorem mem_seatsFrom (t : Int) {x : SE} : ∀ (l : List CH) (k : Nat), x ∈ seatsFrom t l k ↔ x.tid = t ∧ ∃ n : Nat, x.nth = ((k + n : Nat) : Int) ∧ l[n]? = some x.on
  | [], k => by simp [seatsFrom]
  | c :: r, k => by
    show x ∈ (_ :: seatsFrom t r (k + 1)) ↔ _
    rw [List.mem_cons, mem_seatsFrom t r (k + 1)]
    constructor
    · rintro (rfl | ⟨h1, n, h2, h3⟩)
      · exact ⟨rfl, 0, rfl, rfl⟩
      · exact ⟨h1, n + 1, by rw [h2]; congr 1; omega, by simpa using h3⟩
    · rintro ⟨h1, n, h2, h3⟩
      match n with
      | 0 =>
        left
        obtain ⟨a, b, d⟩ := x
        simp only at h1 h2 h3
        simp at h3
        rw [h1, h2, h3]
        rfl
      | n + 1 => exact .inr ⟨h1, n, by rw [h2]; congr 1; omega, by simpa using h3⟩
def seatsOf (t : Int) (l : List CH) : List SE := seatsFrom t l 0
theorem seatsOf_take (t : Int) (l : List CH) {i : Nat} (h : i < l.length) : seatsOf t (l.take (i + 1)) = seatsOf t (l.take i) ++ [⟨t, l[i], (i : Int)⟩] := by
  unfold seatsOf
  rw [List.take_add_one, show l[i]?.toList = [l[i]] by simp [h], seatsFrom_snoc, List.length_take]
  rw [show 0 + min i l.length = i by omega]
theorem seatsOf_len (t : Int) (l : List CH) : (seatsOf t l).length ≤ l.length := Nat.le_of_eq (seatsFrom_len t l 0)
def sleepRf (s : LW) (R : List SE) (t : Int) (l : List CH) : List SE := if sleepE s t l = 0 then R ++ seatsOf t l else R
section
variable {w w' w1 : World} {r : Nat} {R R' : List SE} {F S : List Nat} {s : LW}
set_option maxHeartbeats 1000000 in
set_option maxRecDepth 100000 in
theorem xsleep_is (h : Rf w r R F) (hR : RelW s R) (t : Int) {A : Option Addr} {n c : Nat} {l : List CH} (hl : l.length = n) (hcap : n ≤ c) (hat : 0 < n → ChansAt w (.slice A n c) l ∧ ∃ b o, A = some ⟨b, o, none⟩ ∧ b < w.heap.size) (hAF : 0 < n → ∀ b o, A = some ⟨b, o, none⟩ → b ∉ F) :
    Calls Try.prog 24 #[.pointer (some ⟨r, 0, none⟩), .int .i64 t, .slice A n c] w fun e w' => e = .returned (.int .i64 (sleepE s t l)) ∧ DidF w w' r F (sleepRf s R t l) := by
  subst hl
  have H := hide h
  have no : ∀ e : Int, sleepE s t l = e → e ≠ 0 → ∀ w', Only [] w w' → DidF w w' r F (sleepRf s R t l) := fun e he hne w' ho => by
    unfold sleepRf
    rw [if_neg (by rw [he]; exact hne)]
    exact ⟨F, H.out.quiet ho, TurnW.same F ho⟩
  have HNO := hide no
  clear no
  by_cases z1 : t < 1
  · have hE : sleepE s t l = 1 := by unfold sleepE; rw [if_pos (.inl z1)]
    have z2 : decide (t < 1) = true := by simpa using z1
    rw [hE] at HNO ⊢
    have HD := hide (HNO.out 1 rfl (by decide) w (Only.refl _ _))
    clear h hR hat hAF hcap hE
    go_enter Try.func24, Try.ntmps24
    go_wp2
    go_ret
    exact ⟨rfl, HD.out⟩
  have z1' : decide (t < 1) = false := by simpa using z1
  by_cases z2 : l = []
  · have hE : sleepE s t l = 1 := by unfold sleepE; rw [if_pos (.inr (.inl z2))]
    rw [hE] at HNO ⊢
    have HD := hide (HNO.out 1 rfl (by decide) w (Only.refl _ _))
    subst z2
    clear h hR hat hAF hcap hE
    go_enter Try.func24, Try.ntmps24
    go_wp2
    go_ret
    exact ⟨rfl, HD.out⟩
  have hpos : 0 < l.length := List.length_pos_iff.2 z2
  have z2I : ¬ (l.length : Int) < 1 := by omega
  have z2D : decide ((l.length : Int) < 1) = false := by simpa using z2I
  by_cases z3 : 16 < l.length
  · have hE : sleepE s t l = 1 := by unfold sleepE; rw [if_pos (.inr (.inr (.inl z3)))]
    have z3I : (16 : Int) < l.length := by omega
    have z3D : decide ((16 : Int) < l.length) = true := by simpa using z3I
    rw [hE] at HNO ⊢
    have HD := hide (HNO.out 1 rfl (by decide) w (Only.refl _ _))
    clear h hR hat hAF hcap hE
    go_enter Try.func24, Try.ntmps24
    go_wp2
    go_ret
    exact ⟨rfl, HD.out⟩
  have z3I : ¬ (16 : Int) < l.length := by omega
  have z3D : decide ((16 : Int) < l.length) = false := by simpa using z3I
  obtain ⟨hch, b, o, rfl, hb⟩ := hat hpos
  have HCH := hide (fun (W : World) (hW : Only [] w W) => hch.quiet hW)
  have HCF := hide (fun (W : World) (hW : Only F w W) => hch.only hW (fun b' o' n' c' e _ => by injection e with e _ _; exact hAF hpos b' o' e))
  have HE := hide (show sleepE s t l = if ¬ l.Nodup then 1 else if t ∈ s.1.map (·.1) then 101 else if s.1.length = 64 then 2 else 0 by
    unfold sleepE
    simp only [z1, z2, z3, false_or])
  have HR := hide hR
  have HL := hide (And.intro hpos (show l.length ≤ 16 by omega))
  have hcI : (l.length : Int) ≤ c := by omega
  clear h hR hat hAF hch hpos z1 z2 z3
  go_enter Try.func24, Try.ntmps24
  go_wp2
  go_loopw [27] (fun iv wr => ∃ i : Nat, i ≤ l.length ∧ iv = .int .i64 i ∧ (l.take i).Nodup ∧ Only [] w wr) (fun iv _ => l.length - (intOf iv).toNat)
  case atStart => exact ⟨0, Nat.zero_le _, rfl, by simp, Only.refl _ _⟩
  case round =>
    obtain ⟨i, hi, rfl, hnd, hw⟩ := hrel
    by_cases hlt : i < l.length
    · have hltI : (i : Int) < l.length := by omega
      have hic : (i : Int) ≤ c := by omega
      obtain ⟨e0, e1, e2⟩ := (HCH.out wr hw).cells (show l[i]? = some l[i] by simp [hlt])
      have HTK := hide (show l.take (i + 1) = l.take i ++ [l[i]] by rw [List.take_add_one]; simp [hlt])
      have HSP := hide (show l = l.take i ++ l[i] :: l.drop (i + 1) by rw [List.getElem_cons_drop, List.take_append_drop])
      obtain ⟨p0, hp0⟩ : ∃ p0, wr.heap.size = p0 := ⟨_, rfl⟩
      have HP0 := hide hp0
      have HBC := hide (fun (W : World) (hW : Only [] (wr.alloc (.cells (cC l[i]) 32)) W) => (show W.cell? ⟨p0, 0, none⟩ = some (.int .i64 (l[i]).kind) ∧ W.cell? ⟨p0, 1, none⟩ = some (.int .i64 (l[i]).a) ∧ W.cell? ⟨p0, 2, none⟩ = some (.int .i64 (l[i]).b) from by
        have k := (Blk.new wr 32 (cC l[i])).only hW (by simp)
        rw [hp0] at k
        exact ⟨k.cell 0, k.cell 1, k.cell 2⟩))
      have HW := hide (hw.alloc (.cells (cC l[i]) 32))
      have HND := hide hnd
      generalize l[i] = y at *
      clear hnd hw hp0
      go_wp2
      rw [HP0.out]
      go_loopw [36] (fun jv wr2 => ∃ j : Nat, j ≤ i ∧ jv = .int .i64 j ∧ y ∉ l.take j ∧ Only [] (wr.alloc (.cells (cC y) 32)) wr2) (fun jv _ => i - (intOf jv).toNat)
      case atStart => exact ⟨0, Nat.zero_le _, rfl, by simp, Only.refl _ _⟩
      case round =>
        obtain ⟨j, hj, rfl, hny, hw2⟩ := hrel
        by_cases hlt2 : j < i
        · have hltI2 : (j : Int) < i := by omega
          have hjl : j < l.length := by omega
          obtain ⟨f0, f1, f2⟩ := (HCH.out wr (HW.out.trans hw2)).cells (show l[j]? = some l[j] by simp [hjl])
          obtain ⟨k0, k1, k2⟩ := HBC.out _ (hw2.alloc (.cells (cC l[j]) 32))
          have HTJ := hide (show l.take (j + 1) = l.take j ++ [l[j]] by rw [List.take_add_one]; simp [hjl])
          have HMJ := hide (show l[j] ∈ l.take i from List.mem_take_iff_getElem.2 ⟨j, by omega, rfl⟩)
          have HNY := hide hny
          have HW2 := hide (hw2.alloc (.cells (cC l[j]) 32))
          generalize l[j] = z at *
          clear hny hw2
          by_cases hyz : y = z
          · have hq : ∀ w : World, (binOp .eql 32 (.agg (cC y)) (.agg (cC z))).run Try.prog w = .ok (.bool true) w := chan_eql (by simpa using hyz)
            have HYZ := hide hyz
            clear hyz
            go_wp2
            go_ret
            have hE : sleepE s t l = 1 := by
              rw [HE.out, if_pos]
              intro hd
              rw [HSP.out, List.nodup_append] at hd
              exact hd.2.2 z HMJ.out y (by simp) HYZ.out.symm
            rw [hE]
            exact ⟨rfl, HNO.out 1 hE (by decide) _ (HW.out.trans HW2.out)⟩
          · have hq : ∀ w : World, (binOp .eql 32 (.agg (cC y)) (.agg (cC z))).run Try.prog w = .ok (.bool false) w := chan_eql (by simpa using hyz)
            have HYZ := hide hyz
            clear hyz
            go_wp2
            rw [show (j : Int) + 1 = ((j + 1 : Nat) : Int) by omega]
            refine ⟨⟨j + 1, hlt2, rfl, ?_, HW2.out⟩, ?_⟩
            · rw [HTJ.out]
              intro hm
              rcases List.mem_append.1 hm with hm | hm
              · exact HNY.out hm
              · simp at hm
                exact HYZ.out hm
            · simp [intOf]
              omega
        · obtain rfl : j = i := by omega
          have HNY := hide hny
          have HW2 := hide (HW.out.trans hw2)
          clear hny hw2
          go_wp2
          rw [show (j : Int) + 1 = ((j + 1 : Nat) : Int) by omega]
          refine ⟨⟨j + 1, hlt, rfl, ?_, HW2.out⟩, ?_⟩
          · rw [HTK.out]
            refine List.nodup_append.2 ⟨HND.out, by simp, fun a ha b hb e => ?_⟩
            simp at hb
            subst hb; subst e
            exact HNY.out ha
          · simp [intOf]
            omega
    · obtain rfl : i = l.length := by omega
      rw [List.take_length] at hnd
      have hE := HE.out
      rw [if_neg (by simpa using hnd)] at hE
      have HON := hide (xon_is (H.out.quiet hw) (seats_few HR.out) t)
      rw [onR_is HR.out] at HON
      have HND := hide hnd
      have HW := hide hw
      clear hnd hw
      by_cases hin : t ∈ s.1.map (·.1)
      · rw [if_pos hin] at hE
        have hpos : (0 : Int) < (atL s.1 t).length := by
          have := List.length_pos_iff.2 (at1_ne HR.out.ok hin)
          omega
        have HE2 := hide hE
        clear hin hE
        generalize atL s.1 t = al at *
        go_wp2_with (go_at_call 31; refine HON.out.mono ?_; rintro e w3 ⟨v3, rfl, hr, _, ho⟩; obtain ⟨A3, c3, rfl, _⟩ := hr.form; have HO3 := hide ho; clear hr ho)
        go_ret
        rw [HE2.out]
        exact ⟨rfl, HNO.out 101 HE2.out (by decide) _ (HW.out.trans HO3.out)⟩
      · rw [if_neg hin] at hE
        rw [atL_none hin] at HON
        have HIN := hide hin
        have hal : (allR R).length = s.1.length := by rw [← allR_is HR.out, sort12_length, List.length_map]
        have HAL := hide (fun (W : World) (hW : Only [] w W) => xall_is (H.out.quiet hW) (seats_few HR.out))
        by_cases h64 : s.1.length = 64
        · rw [if_pos h64] at hE
          have h64I : (64 : Int) ≤ (allR R).length := by omega
          have HE2 := hide hE
          clear hin hE h64 hal
          generalize allR R = al at *
          go_wp2_with (first | (go_at_call 31; refine HON.out.mono ?_; rintro e w3 ⟨v3, rfl, hr, _, ho⟩; obtain ⟨A3, c3, rfl, _⟩ := hr.form; have HO3 := hide (HW.out.trans ho); clear hr ho) | (go_at_call 28; refine (HAL.out _ HO3.out).mono ?_; rintro e w4 ⟨v4, rfl, hr, _, ho⟩; obtain ⟨A4, c4, rfl, _⟩ := hr.form2; have HO4 := hide (HO3.out.trans ho); clear hr ho))
          go_ret
          rw [HE2.out]
          exact ⟨rfl, HNO.out 2 HE2.out (by decide) _ HO4.out⟩
        · rw [if_neg h64] at hE
          have h64I : ¬ (64 : Int) ≤ (allR R).length := by have := HR.out.ok.few; omega
          have HE2 := hide hE
          have HRF := hide (show sleepRf s R t l = R ++ seatsOf t l by unfold sleepRf; rw [if_pos hE])
          obtain ⟨A0, cap0, hv1, _⟩ := H.out.cell
          have HV1 := hide hv1
          have hbigR := seats_few HR.out
          have HBR := hide (show ([] : List SE).length + R.length < 1000000 by simp; omega)
          clear hin hE h64 hal hv1 hbigR
          generalize allR R = al at *
          go_wp2_with (first | (go_at_call 31; refine HON.out.mono ?_; rintro e w3 ⟨v3, rfl, hr, _, ho⟩; obtain ⟨A3, c3, rfl, _⟩ := hr.form; have HO3 := hide (HW.out.trans ho); clear hr ho) | (go_at_call 28; refine (HAL.out _ HO3.out).mono ?_; rintro e w4 ⟨v4, rfl, hr, _, ho⟩; obtain ⟨A4, c4, rfl, _⟩ := hr.form2; have HO4 := hide (HO3.out.trans ho); obtain ⟨x0, _⟩ := HV1.out _ ((HO3.out.trans ho).alloc (.cells #[] 40)); clear hr ho) | (at_builtin; refine wpList_append_seats12 (v := .slice (some ⟨w4.heap.size, 0, none⟩) 0 0) (ss := []) rfl _ _ rfl rfl (erow_empty (Blk.new w4 40 #[])) rfl ((HV1.out _ (HO4.out.alloc (.cells #[] 40))).2.2.sees) HBR.out ?_; rintro v5 w5 h1 h2 h3 ⟨A5, c5, rfl⟩; have o5 : Only [] w w5 := (HO4.out.alloc (.cells #[] 40)).trans' h2 (fun k hk hm => by have := HO4.out.size; simp [Value.ownBlock] at hm; omega); obtain ⟨y0, y1, _⟩ := HV1.out w5 o5; have HD5 := hide (H.out.set_ o5 (by simpa using h1) (fun q hq => by have := HO4.out.size; rcases h3 q hq with h | h; (· simp [Value.ownBlock] at h; omega); (· simp at h; omega))); clear h1 h2 h3 o5))
          go_loopw [65] (fun iv wr2 => ∃ i : Nat, i ≤ l.length ∧ iv = .int .i64 i ∧ DidF w wr2 r F (R ++ seatsOf t (l.take i))) (fun iv _ => l.length - (intOf iv).toNat)
          case atStart =>
            refine ⟨0, Nat.zero_le _, rfl, ?_⟩
            rw [show R ++ seatsOf t (l.take 0) = R by simp [seatsOf, seatsFrom]]
            exact HD5.out
          case round =>
            obtain ⟨i, hi, rfl, F2, hf, hT⟩ := hrel
            by_cases hlt : i < l.length
            · have hltI : (i : Int) < l.length := by omega
              obtain ⟨e0, e1, e2⟩ := (HCF.out wr hT.only).cells (show l[i]? = some l[i] by simp [hlt])
              have HTK := hide (seatsOf_take t l hlt)
              generalize l[i] = x at *
              obtain ⟨A1, cap1, hv1, hv2⟩ := hf.val (R' := R ++ seatsOf t (l.take i) ++ [⟨t, x, (i : Int)⟩])
              have HV2 := hide hv2
              have HV3 := hide hv1
              have hbig : (R ++ seatsOf t (l.take i)).length + ([⟨t, x, (i : Int)⟩] : List SE).length < 1000000 := by
                have h1 := seatsOf_len t (l.take i)
                have h2 := seats_few HR.out
                rw [List.length_take] at h1
                have := HL.out.2
                rw [List.length_append]
                simp only [List.length_cons, List.length_nil]
                omega
              have HBIG := hide hbig
              have HT := hide hT
              have o1 : Only [] wr (wr.alloc (.cells (cC x) 32)) := (Only.refl [] wr).alloc _
              have HNW := hide (seats_new (wr.alloc (.cells (cC x) 32)).drew [⟨t, x, (i : Int)⟩] (by simp))
              rw [show ((wr.alloc (.cells (cC x) 32)).drew).heap.size = wr.heap.size + 1 from (by simp : (wr.alloc (.cells (cC x) 32)).heap.size = wr.heap.size + 1), show (flatE [(⟨t, x, (i : Int)⟩ : SE)]).toArray = #[.int .i64 t, .int .i64 x.kind, .int .i64 x.a, .int .i64 x.b, .int .i64 i] from rfl, show ([⟨t, x, (i : Int)⟩] : List SE).length = 1 from rfl] at HNW
              have HNW' := hide HNW.out
              have s0 := (hv1 _ o1).1
              have s1 := (hv1 _ (o1.alloc (.cells #[.int .i64 t, .int .i64 x.kind, .int .i64 x.a, .int .i64 x.b, .int .i64 i] 40))).1
              have kk := Blk.new wr 32 (cC x)
              have k0 := kk.cell 0
              have k1 := kk.cell 1
              have k2 := kk.cell 2
              rw [show (cC x)[0]? = some (.int .i64 x.kind) from rfl] at k0
              rw [show (cC x)[1]? = some (.int .i64 x.a) from rfl] at k1
              rw [show (cC x)[2]? = some (.int .i64 x.b) from rfl] at k2
              clear hf hT hv1 hv2 hbig kk o1
              go_wp2
              go_region_law (refine step_append_seats12 (v := .slice A1 (R ++ seatsOf t (l.take i)).length cap1) rfl _ _ rfl (by simp [Act.eval]) (HV3.out _ (by repeat (first | exact Only.refl _ _ | apply Only.drew | apply Only.alloc))).2 (by simp [Act.eval]) HNW'.out HBIG.out ?_; rintro v2 w2 h1 h2 h3 ⟨A2, c2, rfl⟩; obtain ⟨x0, x1, x2⟩ := HV2.out _ w2 _ (by repeat (first | exact Only.refl _ _ | apply Only.drew | apply Only.alloc)) h1 h2 h3; have HX2 := hide x2; clear h1 h2 h3 x2)
              all_goals
                go_wp2
                rw [show (i : Int) + 1 = ((i + 1 : Nat) : Int) by omega, show R.length + ((seatsOf t (l.take i)).length + 1) = (R ++ seatsOf t (l.take i) ++ [(⟨t, x, (i : Int)⟩ : SE)]).length by simp]
                obtain ⟨F5, q1, q2⟩ := HX2.out
                refine ⟨⟨i + 1, hlt, rfl, F5, ?_, HT.out.trans q2⟩, ?_⟩
                · rw [HTK.out, ← List.append_assoc]
                  exact q1
                · simp [intOf]
                  omega
            · obtain rfl : i = l.length := by omega
              rw [List.take_length] at hf
              have HF := hide hf
              have HT := hide hT
              clear hf hT
              go_wp2
              go_ret
              rw [HE2.out, HRF.out]
              exact ⟨rfl, F2, HF.out, HT.out⟩
end
end Go.Proofs.Ytokclkiidhcffaa
