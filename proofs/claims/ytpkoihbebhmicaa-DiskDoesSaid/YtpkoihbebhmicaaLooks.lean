/-
  The law's own 'looks': a disk and the document's own disk that hold the same: it answers true.
-/
import Derived.Test.YtpkoihbebhmicaaDiskAwake
import Derived.Test.YtpkoihbebhmicaaDiskSee
import Derived.Test.YtpkoihbebhmicaaRef02
import Derived.Test.YtpkoihbebhmicaaAppendNew
namespace Go.Proofs.Ytpkoihbebhmicaa
open Go.ChangeShapes Go.WideShapes Go.ChangeAt Go.RowKit
set_option linter.unusedVariables false

section
variable {w : World} {g pb pc mb : Nat} {pr : List Value} {pv : Value} {D : DataW Unit} {N : Nat} {plat : List Int} {ws : List WR} {left rd wt fl : Int} (h : IsDisk w g pb pc mb pr pv D N plat ws left rd wt fl)
  {g' pb' pc' : Nat} {pr' : List Value} {A : Option Addr} {cap : Nat} {left' : Int} {stops : Bool} (h' : IsRef2 w g' pb' pc' pr' A cap N plat (ofW ws) left' stops rd wt fl)
include h h'

set_option maxRecDepth 100000 in
set_option maxHeartbeats 2000000 in
theorem looks_ok (hs : (stops && decide (left' = 0)) = decide (left = 0)) : Calls Try.prog 14 #[.pointer (some ⟨g, 0, none⟩), .pointer (some ⟨g', 0, none⟩)] w fun e w' => e = .returned (.bool true) ∧ Only [] w w' := by
  have HD := hide h
  have HR := hide h'
  have HS := hide hs
  clear h h' hs
  go_enter Try.func14, Try.ntmps14
  go_wp2_with (go_at_call 33; refine (dcounts_is HD.out).mono ?_; rintro e w1 ⟨rfl, ho1⟩)
  have HO1 := hide ho1
  clear ho1
  refine (dimage_is (HD.out.only HO1.out (by simp) (by simp))).mono ?_
  rintro e w2 ⟨v, rfl, hv, ho2⟩
  have HO2 := hide (HO1.out.trans ho2)
  obtain ⟨d, c, r, rfl, hdB, hbk, hcl⟩ := hv
  have HBK := hide hbk
  have HR2 := hide (fun w' (q : Only [] w2 w') => HR.out.keep (HO2.out.trans q))
  have HD2 := hide (fun w' (q : Only [] w2 w') => HD.out.only (HO2.out.trans q) (by simp) (by simp))
  have hlen := HD.out.len
  have hq1 : ∀ w', Only [] w2 w' → (convert 37 9 (.slice (some ⟨d, 0, none⟩) plat.length c)).run Try.prog w' = .ok (.string (strB plat)) w' := fun w' q =>
    conv_bytes w' _ _ _ plat ⟨rfl, fun _ => ⟨d, 0, rfl, (HBK.out.only q (by simp)).lt, fun i hi => by rw [Nat.zero_add, (HBK.out.only q (by simp)).cell]; exact u8l_get _ _ i hi⟩⟩ (by simp) HD.out.u8
  have hq2 : ∀ w', Only [] w2 w' → (convert 37 9 (.slice (some ⟨pb', 0, none⟩) (512 * N) pc')).run Try.prog w' = .ok (.string (strB plat)) w' := fun w' q => 
    conv_bytes w' _ _ _ plat ⟨hlen, fun _ => ⟨pb', 0, rfl, (HR2.out w' q).row.lt, fun i hi => by rw [Nat.zero_add, (HR2.out w' q).row.cell]; exact u8l_get _ _ i (by rw [hlen]; exact hi)⟩⟩ (by simp) HD.out.u8
  have HCL := hide (fun w' (q : Only [] w2 w') => And.intro (hq1 w' q) <| And.intro (hq2 w' q) <| And.intro (HR2.out w' q).c1 (And.intro (HR2.out w' q).c0 (And.intro (HR2.out w' q).c5 (And.intro (HR2.out w' q).c6 (HR2.out w' q).c7))))
  obtain ⟨off, HOFF⟩ : ∃ off : Bool, Hid (∀ w', Only [] w2 w' → (Calls Try.prog 36 #[.pointer (some ⟨g, 0, none⟩)] w' fun e w'' => e = .returned (.bool off) ∧ Only [] w' w'') ∧ (Calls Try.prog 37 #[.pointer (some ⟨g', 0, none⟩)] w' fun e w'' => e = .returned (.bool off) ∧ Only [] w' w'')) :=
    ⟨decide (left = 0), hide fun w' q => ⟨doff_o (HD2.out w' q), by have := roff_is (HR2.out w' q); rw [HS.out] at this; exact this⟩⟩
  have HFEW := hide (show ws.length ≤ 9223372036854775807 by have := HD.out.few; omega)
  have d1 := (HR2.out w2 (Only.refl _ _)).c1
  have d0 := (HR2.out w2 (Only.refl _ _)).c0
  have d5 := (HR2.out w2 (Only.refl _ _)).c5
  have d6 := (HR2.out w2 (Only.refl _ _)).c6
  have d7 := (HR2.out w2 (Only.refl _ _)).c7
  have hq1' := hq1 _ (Only.refl [] w2).drew
  have hq2' := hq2 _ (Only.refl [] w2).drew
  clear ho2 hbk hcl hlen hq1 hq2
  go_wp2_with fail
  go_region_held3 (fun w' => (convert 37 9 (.slice (some ⟨d, 0, none⟩) plat.length c)).run Try.prog w' = .ok (.string (strB plat)) w' ∧ (convert 37 9 (.slice (some ⟨pb', 0, none⟩) (512 * N) pc')).run Try.prog w' = .ok (.string (strB plat)) w' ∧ w'.cell? ⟨g', 1, none⟩ = some (.slice (some ⟨pb', 0, none⟩) (512 * N) pc') ∧ w'.cell? ⟨g', 0, none⟩ = some (.int .i64 N) ∧ w'.cell? ⟨g', 5, none⟩ = some (.int .i64 rd) ∧ w'.cell? ⟨g', 6, none⟩ = some (.int .i64 wt) ∧ w'.cell? ⟨g', 7, none⟩ = some (.int .i64 fl)) (first | go_keep | exact HCL.out _ kF | exact HCL.out _ kE | exact HCL.out _ kD | exact HCL.out _ kC | exact HCL.out _ kB | exact HCL.out _ kA) (first | (go_at_call 17; refine (dpending_is (HD2.out _ (by repeat (first | exact Only.refl _ _ | apply Only.drew)))).mono ?_; rintro e wA ⟨dA, rfl, hdA, hiA, hoA⟩; have kA : Only [] w2 wA := Only.trans (by repeat (first | exact Only.refl _ _ | apply Only.drew)) hoA) | (go_at_call 35; refine (rpending_is (HR2.out _ (by repeat (first | exact kA | apply Only.drew)))).mono ?_; rintro e wB ⟨vB, rfl, hvB, hoB⟩; obtain ⟨AB, cB, rfl, hsB⟩ := hvB.at (n := ws.length) (by simp [ofW]); have iB : Only [] wA wB := Only.trans (by repeat (first | exact Only.refl _ _ | apply Only.drew)) hoB; have kB : Only [] w2 wB := kA.trans iB) | (go_at_call 18; refine (same_ints _ _ _ ws.length ws.length _ _ (ws.map fun x => (x.sec : Int)) ((ofW ws).map fun x => (x.1 : Int)) (hiA.s.only (by repeat (first | exact iB | apply Only.drew))) (hsB.only (by repeat (first | exact Only.refl _ _ | apply Only.drew))) (by simp [ofW]) HFEW.out).mono ?_; rintro e wC ⟨rfl, hoC⟩; have kC : Only [] w2 wC := Only.trans (by repeat (first | exact kB | apply Only.drew)) hoC) | (go_at_call 36; refine (HOFF.out _ (by repeat (first | exact kC | apply Only.drew))).1.mono ?_; rintro e wD ⟨rfl, hoD⟩; have kD : Only [] w2 wD := Only.trans (by repeat (first | exact kC | apply Only.drew)) hoD) | (go_at_call 37; refine (HOFF.out _ (by repeat (first | exact kD | apply Only.drew))).2.mono ?_; rintro e wE ⟨rfl, hoE⟩; have kE : Only [] w2 wE := Only.trans (by repeat (first | exact kD | apply Only.drew)) hoE) | (go_at_call 38; refine (dcount_o (HD2.out _ (by repeat (first | exact kE | apply Only.drew)))).mono ?_; rintro e wF ⟨rfl, hoF⟩; have kF : Only [] w2 wF := Only.trans (by repeat (first | exact kE | apply Only.drew)) hoF))
  have HO3 := hide (HO2.out.trans kF)
  have HB3 := hide (HBK.out.only kF (by simp))
  have HPL := hide (show plat.length ≤ 2097152 by have := HD.out.len; have := HD.out.big; omega)
  have HGD := hide (show w.heap.size ≤ d from Nat.le_trans HO1.out.size hdB)
  clear kA kB kC kD kE kF iB hoA hoB hoC hoD hoE hoF hiA hsB hvB hq1' hq2' d0 d1 d5 d6 d7 hdA hdB
  go_wp2
  go_loopw [76] (fun i wr => ∃ k : Nat, k ≤ plat.length ∧ i = .int .i64 k ∧ Only [] w wr ∧ ∃ zs : List Int, zs.length = plat.length ∧ Blk wr d 5 (u8l zs ++ r).toArray) (fun i _ => plat.length - (intOf i).toNat)
  case atStart => exact ⟨0, Nat.zero_le _, rfl, by repeat (first | exact HO3.out | apply Only.drew), plat, rfl, by repeat (first | exact HB3.out | apply Blk.drew)⟩
  case round =>
    obtain ⟨k, hk, rfl, ho, zs, hzl, hbk⟩ := hrel
    have HO := hide ho
    have HB := hide hbk
    have HZL := hide hzl
    by_cases hlt : k < plat.length
    · have hck : wr.cell? ⟨d, k, none⟩ = some (.int .u8 (gb zs k)) := by
        rw [hbk.cell]
        exact u8l_get _ _ k (by omega)
      have hfk := hbk.frozen k
      have hpl := HPL.out
      have hk2 : (k : Int) < plat.length := by omega
      clear hbk ho hzl
      generalize gb zs k = x at hck
      go_wp2
      go_roundw
      case rel => exact ⟨k + 1, hlt, by go_num, HO.out.setCell _ (fun hh => absurd hh (by have := HGD.out; simp; omega)), _, (List.length_set ..).trans HZL.out, HB.out.setu_ (by rw [HZL.out]; exact hlt) _⟩
      case measure => simp [intOf]; omega
    · clear hbk ho
      go_wp2
      go_ret
      exact ⟨rfl, HO.out⟩
end
end Go.Proofs.Ytpkoihbebhmicaa
