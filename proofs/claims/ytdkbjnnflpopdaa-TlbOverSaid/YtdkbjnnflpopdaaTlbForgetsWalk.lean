/-
  The walk of 'TlbForgets'.
-/
import Derived.Test.YtdkbjnnflpopdaaTlbApartWalk
namespace Go.Proofs.Ytdkbjnnflpopdaa
open Go.ChangeShapes Go.WideShapes Go.ChangeAt Go.RowKit Go.Maps Go.Shelf
set_option linter.unusedVariables false

def other (sp : Int) (x : K2) : Bool := decide (x.1 ≠ sp)
def cntF (sp : Int) (L : List K2) (i : Nat) : Nat := ((L.take i).filter (other sp)).length
theorem gk_at {L : List K2} {i : Nat} (h : i < L.length) : gk L i = L[i] := by
  unfold gk; rw [List.getD_eq_getElem?_getD, List.getElem?_eq_getElem h, Option.getD_some]
theorem cntF_no {sp : Int} {L : List K2} {i : Nat} (h : i < L.length) (e : (gk L i).1 = sp) : cntF sp L (i + 1) = cntF sp L i := by
  unfold cntF
  rw [gk_at h] at e
  rw [List.take_succ_eq_append_getElem h, List.filter_append]
  have : other sp L[i] = false := by simp [other, e]
  simp [this]
theorem cntF_yes {sp : Int} {L : List K2} {i : Nat} (h : i < L.length) (e : (gk L i).1 ≠ sp) : cntF sp L (i + 1) = cntF sp L i + 1 ∧ cntF sp L i < (L.filter (other sp)).length ∧ (L.filter (other sp))[cntF sp L i]? = some (gk L i) := by
  have ho : other sp (gk L i) = true := by simp [other, e]
  have e1 : (L.take (i + 1)).filter (other sp) = (L.take i).filter (other sp) ++ [gk L i] := by
    rw [List.take_succ_eq_append_getElem h, List.filter_append, ← gk_at h]
    simp [ho]
  have e2 : L.filter (other sp) = (L.take i).filter (other sp) ++ ([gk L i] ++ (L.drop (i + 1)).filter (other sp)) := by
    rw [← List.append_assoc, ← e1, ← List.filter_append, List.take_append_drop]
  refine ⟨by unfold cntF; rw [e1]; simp, ?_, ?_⟩
  · rw [e2]; unfold cntF; simp
  · rw [e2]; unfold cntF; simp
theorem cntF_all (sp : Int) (L : List K2) : cntF sp L L.length = (L.filter (other sp)).length := by
  unfold cntF; rw [List.take_length]
theorem notSp_keys (sp : Int) (l : List (K2 × K2)) : (notSp sp l).map (·.1) = (l.map (·.1)).filter (other sp) := by
  unfold notSp
  rw [List.filter_map]
  rfl

def KRb (B : Nat) (W : World) (A : Option Addr) (L : List K2) : Prop := 0 < L.length → ∃ b, A = some ⟨b, 0, none⟩ ∧ B ≤ b ∧ b < W.heap.size ∧ ∀ (i : Nat) (x : K2), L[i]? = some x → W.cell? ⟨b, i * 2, none⟩ = some (.int .i64 x.1) ∧ W.cell? ⟨b, i * 2 + 1, none⟩ = some (.int .i64 x.2)
theorem KRb.only {B : Nat} {W W' : World} {A : Option Addr} {L : List K2} {S : List Nat} (h : KRb B W A L) (ho : Only S W W') (hs : ∀ q ∈ S, q < B) : KRb B W' A L := fun hp => by
  obtain ⟨b, e, hB, hb, hc⟩ := h hp
  have hn : b ∉ S := fun hh => by have := hs b hh; omega
  exact ⟨b, e, hB, Nat.lt_of_lt_of_le hb ho.size, fun i x hx => ⟨(ho.cell hb hn).trans (hc i x hx).1, (ho.cell hb hn).trans (hc i x hx).2⟩⟩
section
variable {w w' : World} {t hb ob n size : Nat} {begun : Int} {bs : Nat → Nat} {ls : Nat → List (K2 × K2)} {nx : Nat → Int} {O : List (Int × Sh)} {S : List Nat}
theorem bKept_rowB (T : IsTlb w t hb ob n size begun bs ls nx O) (j : Nat) (hj : j < n) (hl : size ≤ 12) {L : List K2} (hL : (ls j).map (·.1) = L) :
    Calls Try.prog 18 #[.pointer (some ⟨t, 0, none⟩), .int .i64 j] w fun e w' => ∃ A c, e = .returned (.slice A L.length c) ∧ KRb w.heap.size w' A L ∧ Only [] w w' := by
  subst hL
  refine (bKept_is T j hj (Nat.le_trans (T.len j hj) hl)).mono ?_
  rintro e w' ⟨v, rfl, hr, ho⟩
  obtain ⟨A, c, rfl, hA⟩ := GRow.form hr
  exact ⟨A, c, rfl, fun hp => by obtain ⟨b, e, h0, h1, h2⟩ := hA hp; exact ⟨b, e, h0, h1, h2⟩, ho⟩
end
def foot4 (hb : Nat) (bs : Nat → Nat) : List Nat := [hb, bs 0, bs 1, bs 2, bs 3]
theorem foot4_ok (hb : Nat) (bs : Nat → Nat) : hb ∈ foot4 hb bs ∧ ∀ j, j < 4 → bs j ∈ foot4 hb bs := by
  refine ⟨by simp [foot4], fun j hj => ?_⟩
  obtain rfl | rfl | rfl | rfl : j = 0 ∨ j = 1 ∨ j = 2 ∨ j = 3 := by omega
  all_goals simp [foot4]
def FgRel (w3 : World) (n t hb ob : Nat) (bs : Nat → Nat) (i : Value) (wr : World) : Prop :=
  ∃ (k : Nat) (ls : Nat → List (K2 × K2)) (nx : Nat → Int), k ≤ n ∧ i = .int .i64 k ∧ IsTlb wr t hb ob 4 8 0 bs ls nx [] ∧ (∀ j, nx j ≤ k) ∧ Only (foot4 hb bs) w3 wr
def FhRel (w3 : World) (t hb ob : Nat) (bs : Nat → Nat) (i : Value) (wr : World) : Prop :=
  ∃ (k : Nat) (ls : Nat → List (K2 × K2)) (nx : Nat → Int), k ≤ 4 ∧ i = .int .i64 k ∧ IsTlb wr t hb ob 4 8 0 bs ls nx [] ∧ Only (foot4 hb bs) w3 wr
def FiRel (w7 : World) (sp : Int) (L : List K2) (c i : Value) (wr : World) : Prop :=
  ∃ k : Nat, k ≤ L.length ∧ i = .int .i64 k ∧ c = .int .i64 (cntF sp L k) ∧ Only [] w7 wr
theorem FiRel_intro {w7 wr : World} {sp : Int} {L : List K2} {x : Int} {i : Nat} (h1 : i < L.length) (h2 : x = (cntF sp L (i + 1) : Nat)) (h3 : Only [] w7 wr) : FiRel w7 sp L (.int .i64 x) (.int .i64 ((i : Int) + 1)) wr := ⟨i + 1, h1, rfl, by rw [h2], h3⟩

set_option maxRecDepth 100000 in
set_option maxHeartbeats 1500000 in
theorem forgets_walk (A : Option Addr) (n cp : Nat) (sp : Int) (w : World) (hn : n < 2000000000000) (hops : ∀ i, i < n → OpAt7 w A i) :
    Calls Try.prog 7 #[.slice A n cp, .int .i64 sp] w fun e w' => e = .returned (.bool true) ∧ Below w.heap.size w w' := by
  have HOPS := hide hops
  clear hops
  go_enter Try.func7, Try.ntmps7
  go_wp2_with fail
  refine (show Calls Try.prog 8 #[.int .i64 4, .int .i64 8] w _ from bNew_ok 4 8 w ⟨by decide, by decide⟩ ⟨by decide, by decide⟩).mono ?_
  rintro e w1 ⟨t, hb, ob, bs, rfl, hT, a1, a2, a3, a4, o1⟩
  have HT1 := hide hT
  have HFT := hide (show (∀ q ∈ foot4 hb bs, w.heap.size ≤ q ∧ q < w1.heap.size) from by
    have rr : ∀ j, j < 4 → bs j < w1.heap.size := fun j hj => by
      obtain ⟨D, h1, _⟩ := (hT.hart j hj).own
      exact h1.lt
    have r1 := hT.row.lt
    have c0 := a4 0 (by decide)
    have c1 := a4 1 (by decide)
    have c2 := a4 2 (by decide)
    have c3 := a4 3 (by decide)
    have d0 := rr 0 (by decide)
    have d1 := rr 1 (by decide)
    have d2 := rr 2 (by decide)
    have d3 := rr 3 (by decide)
    intro q hq
    unfold foot4 at hq
    simp at hq
    omega)
  have HO1 := hide o1
  clear hT a1 a2 a3 a4 o1
  go_wp2_with (go_at_call 10; refine (lives7 _).mono ?_; rintro e w3 ⟨rfl, o3⟩; have HO3 := hide o3; clear o3)
  have HT3 := hide (HT1.out.new HO3.out)
  have HOW := hide (HO1.out.trans HO3.out)
  have HSZ := hide HO3.out.size
  clear HT1 HO1 HO3
  go_loopw [7] (fun i wr => FgRel w3 n t hb ob bs i wr) (fun i _ => n - (intOf i).toNat)
  case atStart => exact ⟨0, _, _, Nat.zero_le _, rfl, HT3.out, fun j => by simp, Only.refl _ _⟩
  case round =>
    clear HT3
    obtain ⟨k, ls, nx, hk, rfl, hT, hnx, ho⟩ := hrel
    by_cases hlt : k < n
    · obtain ⟨q, o, kd, h, key, en, m, V, vn, vc, rfl, hq, hkw, c0, c1, c2, c3, c4, c5, c6⟩ := HOPS.out k hlt
      have hq3 : q < w3.heap.size := Nat.lt_of_lt_of_le hq HOW.out.size
      have hqf : q ∉ foot4 hb bs := fun hh => by have := (HFT.out q hh).1; omega
      have hqr : q < wr.heap.size := Nat.lt_of_lt_of_le hq3 ho.size
      have hcc : ∀ x, wr.cell? ⟨q, x, none⟩ = w.cell? ⟨q, x, none⟩ := fun x => (ho.cell hq3 hqf).trans (HOW.out.cell hq (by simp))
      have HS := hide (fun W (hW : Only (foot4 hb bs) wr W) => (show W.cell? ⟨q, o + k * 7 + 1, none⟩ = some (.int .i64 h) ∧ W.cell? ⟨q, o + k * 7 + 2, none⟩ = some (.int .i64 key.1) ∧ W.cell? ⟨q, o + k * 7 + 3, none⟩ = some (.int .i64 key.2) ∧ W.cell? ⟨q, o + k * 7 + 4, none⟩ = some (.int .u32 en) from
        ⟨(hW.cell hqr hqf).trans ((hcc _).trans c1), (hW.cell hqr hqf).trans ((hcc _).trans c2), (hW.cell hqr hqf).trans ((hcc _).trans c3), (hW.cell hqr hqf).trans ((hcc _).trans c4)⟩))
      have HF := hide (fun W (hW : Only [] wr W) => bFill_any (hT.new hW) (foot4_ok hb bs) h hkw en (fun j _ => by have := hnx j; omega))
      have HOO := hide ho
      have HNX := hide hnx
      have hkn : (k : Int) < n := by omega
      obtain ⟨x1, x2, x3, x4⟩ := HS.out wr (Only.refl _ _)
      clear c0 c1 c2 c3 c4 c5 c6 hcc hq hqf hq3 hqr hT ho hnx hkw
      go_wp2_with fail
      go_region_held3 (fun w' => w'.cell? ⟨q, o + k * 7 + 1, none⟩ = some (.int .i64 h) ∧ w'.cell? ⟨q, o + k * 7 + 2, none⟩ = some (.int .i64 key.1) ∧ w'.cell? ⟨q, o + k * 7 + 3, none⟩ = some (.int .i64 key.2) ∧ w'.cell? ⟨q, o + k * 7 + 4, none⟩ = some (.int .u32 en)) (first | assumption | exact HK2.out | exact HS.out _ (by repeat (first | exact Only.refl _ _ | apply Only.drew)) | go_keep) (first | (go_at_call 13; refine (HF.out _ (by repeat (first | exact Only.refl _ _ | apply Only.drew))).mono ?_; rintro e w4 ⟨⟨x, rfl⟩, hT4, ho4⟩; have HO4 := hide (show Only (foot4 hb bs) wr w4 from Only.trans (by repeat (first | exact Only.refl _ _ | apply Only.drew)) ho4); have HK2 := hide (HS.out w4 HO4.out); have HT4 := hide hT4; clear hT4 ho4))
      have HD := hide (show FgRel w3 n t hb ob bs (.int .i64 ((k : Int) + 1)) w4 from ⟨k + 1, _, _, hlt, rfl, HT4.out, fun j => by have := fillNx_le 4 ls nx h key j; have := HNX.out j; omega, HOO.out.trans HO4.out⟩)
      clear HS HF HK2 HT4 x1 x2 x3 x4
      go_wp2
      go_roundw
      case rel => exact HD.out
      case measure => simp [intOf]; omega
    · have HTR := hide hT
      have HOO := hide ho
      have hkn : ¬ (k : Int) < n := by omega
      clear hT ho hnx hlt hk
      go_wp2_with fail
      go_loopw [8] (fun i wq => FhRel w3 t hb ob bs i wq) (fun i _ => 4 - (intOf i).toNat)
      case atStart => exact ⟨0, _, _, Nat.zero_le _, rfl, HTR.out, HOO.out⟩
      case round =>
        clear HTR HOO
        obtain ⟨m, ls, nx, hm, rfl, hT, ho⟩ := hrel
        by_cases hml : m < 4
        · obtain ⟨L, hL⟩ : ∃ L, (ls m).map (·.1) = L := ⟨_, rfl⟩
          have hL8 : L.length ≤ 8 := by
            have := hT.len m hml
            rw [← hL, List.length_map]
            omega
          have hle : ((ls m).length : Int) = L.length := by rw [← hL, List.length_map]
          have hn2 : ((notSp sp (ls m)).map (·.1)) = L.filter (other sp) := by rw [notSp_keys, hL]
          have hle2 : ((notSp sp (ls m)).length : Int) = (L.filter (other sp)).length := by rw [← hn2, List.length_map]
          have hf8 : (L.filter (other sp)).length ≤ L.length := List.length_filter_le _ _
          have hup : (updF ls m (notSp sp (ls m)) m).map (·.1) = L.filter (other sp) := by rw [updF_same]; exact hn2
          have HK1 := hide (bKept_rowB hT m hml (by decide) hL)
          have HFL := hide (fun W (hW : Only [] wr W) => (hle ▸ hle2 ▸ bFlush_is (hT.new hW) m hml sp : Calls Try.prog 19 #[.pointer (some ⟨t, 0, none⟩), .int .i64 m, .int .i64 sp] W fun r w' => r = .returned (.int .i64 ((L.length : Int) - (L.filter (other sp)).length)) ∧ IsTlb w' t hb ob 4 8 0 bs (updF ls m (notSp sp (ls m))) nx [] ∧ Only [bs m] W w'))
          have HK2 := hide (fun W (hW : IsTlb W t hb ob 4 8 0 bs (updF ls m (notSp sp (ls m))) nx []) => bKept_rowB hW m hml (by decide) hup)
          have HLK := hide (fun W (hW : IsTlb W t hb ob 4 8 0 bs (updF ls m (notSp sp (ls m))) nx []) (x : K2) (hx : x ∈ L) (he : x.1 = sp) => bLook_no hW m hml (k := x) (by
            rw [← hL] at hx
            obtain ⟨p, hp, rfl⟩ := List.mem_map.1 hx
            obtain ⟨D, _, H⟩ := (hT.hart m hml).own
            exact H.wf _ hp) (by
            rw [hup]
            intro hh
            have := (List.mem_filter.1 hh).2
            simp [other, he] at this))
          have hbl : bs m < wr.heap.size := by
            obtain ⟨D, h1, _⟩ := (hT.hart m hml).own
            exact h1.lt
          have HBM := hide (And.intro hbl ((foot4_ok hb bs).2 m hml))
          have HOQ := hide ho
          have hmi : (m : Int) < 4 := by omega
          clear hT hL hle hn2 hle2 hup ho hbl
          go_wp2_with fail
          refine HK1.out.mono ?_
          rintro e w4 ⟨A4, p4, rfl, hr4, ho4⟩
          have HR4 := hide hr4
          have HO4 := hide ho4
          clear hr4 ho4 HK1
          go_wp2_with fail
          refine (HFL.out _ HO4.out).mono ?_
          rintro e w5 ⟨rfl, hT5, ho5⟩
          have HT5 := hide hT5
          have HR5 := hide (HR4.out.only ho5 (by have := HBM.out.1; simpa using this))
          have HO5 := hide (show Only (foot4 hb bs) w3 w5 from HOQ.out.trans ((HO4.out.mono (by simp)).trans (ho5.mono (by intro q _ hq; simp at hq; subst hq; exact HBM.out.2))))
          clear hT5 ho5 HFL HR4 HO4
          go_wp2_with fail
          refine (HK2.out _ HT5.out).mono ?_
          rintro e w6 ⟨A6, p6, rfl, hr6, ho6⟩
          have HR6 := hide hr6
          have HR5' := hide (HR5.out.only ho6 (by simp))
          have HT6 := hide (HT5.out.new ho6)
          have HO6 := hide (HO5.out.trans (ho6.mono (by simp)))
          clear hr6 ho6 HK2 HT5 HR5 HO5
          go_wp2_with fail
          go_loopw [12, 13] (fun c i wz => FiRel w6 sp L c i wz) (fun _ i _ => L.length - (intOf i).toNat)
          case atStart => exact ⟨0, Nat.zero_le _, rfl, rfl, Only.refl _ _⟩
          case round =>
            obtain ⟨i, hi, rfl, rfl, hoz⟩ := hrel
            by_cases hil : i < L.length
            · have hx := gk_get hil
              obtain ⟨b4, rfl, _, hb4, hc4⟩ := HR5'.out (by omega)
              have k0 := (hoz.cell hb4 (by simp)).trans (hc4 i _ hx).1
              have k1 := (hoz.cell hb4 (by simp)).trans (hc4 i _ hx).2
              have HOZ := hide hoz
              have hii : (i : Int) < L.length := by omega
              by_cases he : (gk L i).1 = sp
              · have HCN := hide (cntF_no hil he)
                have hla := HLK.out _ (HT6.out.new hoz) _ (gk_mem hil) he
                rw [he] at hla k0
                have HLA := hide hla
                clear hx hb4 hc4 hoz hla he
                go_wp2_with (go_at_call 20; refine HLA.out.mono ?_; rintro e w8 ⟨rfl, ho8⟩; have HO8 := hide (HOZ.out.trans ho8); clear ho8 HLA)
                have HD := hide (FiRel_intro (sp := sp) (L := L) (x := (cntF sp L i : Nat)) hil (by rw [HCN.out]) HO8.out)
                clear HO8 HOZ HCN HR5' HR6 HT6 HO6 HLK
                go_roundw
                case rel => exact HD.out
                case measure =>
                  show L.length - ((i : Int) + 1).toNat < L.length - (i : Int).toNat
                  omega
              · obtain ⟨hc1, hc2, hc3⟩ := cntF_yes hil he
                have HCN := hide hc1
                obtain ⟨b6, rfl, _, hb6, hc6⟩ := HR6.out (by omega)
                have z0 := (hoz.cell hb6 (by simp)).trans (hc6 _ _ hc3).1
                have z1 := (hoz.cell hb6 (by simp)).trans (hc6 _ _ hc3).2
                have hcl : (cntF sp L i : Int) < (L.filter (other sp)).length := by omega
                clear hx hb4 hc4 hb6 hc6 hoz hc1 hc2 hc3
                have HD := hide (fun m => FiRel_intro (sp := sp) (L := L) (x := (cntF sp L i : Int) + 1) hil (by rw [HCN.out]; rfl) (HOZ.out.drewN m))
                clear HCN HOZ
                generalize cntF sp L i = cn at *
                have hd1 : decide (((L.filter (other sp)).length : Int) ≤ (cn : Int)) = false := by rw [decide_eq_false_iff_not]; omega
                have hd2 : decide ((L.filter (other sp)).length ≤ cn) = false := by rw [decide_eq_false_iff_not]; omega
                go_wp2_with fail
                go_quiet (fail)
                go_wp2
                go_roundw
                case rel => exact HD.out _
                case measure =>
                  show L.length - ((i : Int) + 1).toNat < L.length - (i : Int).toNat
                  omega
            · have hie : i = L.length := by omega
              subst hie
              rw [cntF_all]
              have HOZ := hide hoz
              have HD := hide (show FhRel w3 t hb ob bs (.int .i64 ((m : Int) + 1)) wr from ⟨m + 1, _, _, hml, rfl, HT6.out.new hoz, HO6.out.trans (hoz.mono (by simp))⟩)
              have hw1 : IntKind.i64.wrap ((L.length : Int) - (L.filter (other sp)).length) = (L.length : Int) - (L.filter (other sp)).length := by rw [IntKind.wrap_i64]; omega
              clear hoz HOZ HR5' HR6 HT6 HO6 HLK
              go_wp2
              go_roundw
              case rel => exact HD.out
              case measure => simp [intOf]; omega
        · have HOQ := hide ho
          have hmi : ¬ (m : Int) < 4 := by omega
          clear hT ho
          go_wp2
          go_ret
          exact ⟨rfl, (HOW.out.below (Nat.le_refl _) (by simp)).trans (HOQ.out.below HOW.out.size (fun q hq => (HFT.out q hq).1))⟩

theorem tlbForgets_law {H : Type} {enc : TypeId × Value → H} {D : DataW H} (sp : Int) (A : Option Addr) (n cp : Nat) (w : World) (h : Rd enc Try.prog w 22 [.slice A n cp] D) :
    Calls Try.prog 7 #[.slice A n cp, .int .i64 sp] w fun e w' => e = .returned (.bool true) ∧ Below w.heap.size w w' := by
  obtain ⟨hn, hops⟩ := Rd.ops7 h
  exact forgets_walk A n cp sp w hn hops
end Go.Proofs.Ytdkbjnnflpopdaa
