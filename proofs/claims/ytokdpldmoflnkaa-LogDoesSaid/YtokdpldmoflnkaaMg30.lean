/-
  LogDoes: does, of the kind Open: the walk.
-/
import Derived.Test.YtokdpldmoflnkaaMg29
import Derived.LaidEqlPtr
namespace Go.Proofs.Ytokdpldmoflnkaa
open Go.ChangeShapes Go.WideShapes Go.ChangeAt Go.RowKit Go.Maps
set_option linter.unusedVariables false
set_option linter.unusedSimpArgs false
section
variable {w0 w w' w1 w2 : World} {gw gd g gr gx g' gx' N a sz K K' : Nat} {S S' : Option PG} {p p' : LP} {F G F' G' : List Nat}
def Store9 (w2 : World) (gw : Nat) : Prop := (∃ v, w2.cell? ⟨gw, 1, none⟩ = some v) ∧ w2.frozen? ⟨gw, 1, none⟩ = false ∧ w2.frozen? ⟨gw, 3, none⟩ = false
set_option maxRecDepth 100000 in
set_option maxHeartbeats 1500000 in
theorem does_open (h : Bl w0 w gw gd g gr gx N a sz S p K F G) {gen : Int} {ns : List Int} (hs : sect p.plat p.l a = hdrF gen ns) (g0 : 0 ≤ gen) (g1 : gen < 18446744073709551616) (hl : ns.length + 1 ≤ sz) (hnd : ns.Nodup) (hok : ∀ x ∈ ns, blkB N a sz x = true) (hk : K < 4611686018426000000) (hlen : p.l.length < 4398045000000) (n b m : Int) : Calls Try.prog 5 #[.pointer (some ⟨gw, 0, none⟩), op16V 9 n b m] w fun e w' => e = .returned (.bool true) ∧ DidBl w0 w' gw gd N a sz none (endP a (openP a gen ns p.plat p.l)) (K + 1 + ns.length + leftP (openP a gen ns p.plat p.l)) := by
  have HC := hide (fun W (ho : Only [] w W) => (show OCells W gw gd gr gx a sz from by
    obtain ⟨GD, _, _, _, c1, c2, _⟩ := (h.quiet ho).xl.xd
    exact ⟨(h.quiet ho).wd.cell 0, (h.quiet ho).wd.cell 2, (h.quiet ho).wd.cell 3, c1, c2⟩))
  have hrng := h.lg.rng
  have HB := hide (fun W (ho : Only [] w W) => (show Calls Try.prog 28 #[.pointer (some ⟨gd, 0, none⟩), .int .i64 a, .int .i64 sz] W (fun e w1 => ∃ g', e = .returned (.tuple #[.pointer (some ⟨g', 0, none⟩), .int .i64 ns.length, .int .i64 0]) ∧ OCells w1 gw gd gr gx a sz ∧ ∀ W2, Only [] w1 W2 → Calls Try.prog 29 #[.pointer (some ⟨gr, 0, none⟩), .int .i64 a, .int .i64 sz] W2 (fun e w2 => ∃ gx', e = .returned (.tuple #[.pointer (some ⟨gx', 0, none⟩), .int .i64 ns.length, .int .i64 0]) ∧ OCells w2 gw gd gr gx a sz ∧ Store9 w2 gw ∧ DidBl w0 ((w2.setCell ⟨gw, 1, none⟩ (.pointer (some ⟨g', 0, none⟩))).setCell ⟨gw, 3, none⟩ (.pointer (some ⟨gx', 0, none⟩))) gw gd N a sz none (endP a (openP a gen ns p.plat p.l)) (K + 1 + ns.length + leftP (openP a gen ns p.plat p.l)))) from by
    have hq := h.quiet ho
    have kp := Keep.iter (by omega) (by omega) (leftP (openP a gen ns p.plat p.l)) (openP a gen ns p.plat p.l) (hdr_open hq.lg hq.hdr g0 g1 hl hnd hok) (Nat.le_refl _)
    obtain ⟨rd, wt, fl, FD, hdk⟩ := hq.lg.disk
    have hu : ∀ m, m < N → (sect p.plat p.l m).length = 512 ∧ U8 (sect p.plat p.l m) := fun m hm => hdk.secOk hm
    refine (lgp_open hq.lg hs g0 g1 hl hnd hok hk hlen).mono ?_
    rintro e w1 ⟨g', F1, q1, t1, l1⟩
    have hw1 := hq.wd.only t1.1 hq.gwF.1
    obtain ⟨GD, xd, xn, xs, xc1, xc2, xlt⟩ := (hq.xl1 t1).xd
    refine ⟨g', q1, ⟨hw1.cell 0, hw1.cell 2, hw1.cell 3, xc1, xc2⟩, fun W2 ho2 => ?_⟩
    have t2 := turned_quiet t1 ho2
    refine (xopen_ok (xd.quiet ho2) hu (by unfold mayL; simp; omega) hs g0 g1 hl hnd hok hk hlen).mono ?_
    rintro e w2 ⟨gx', q2, hn, G2, t3, x3⟩
    have t3' : Turned W2 w2 G G2 := ⟨t3.1.mono (fun q _ hq => xs q hq), fun q hq => (t3.2 q hq).imp_left (xs q)⟩
    have hw2 := (hw1.only ho2 (by simp)).only t3'.1 hq.gwF.2
    have c1 := (ho2.cell xlt (s := none) (o := 1) (by simp)).trans xc1
    have c2 := (ho2.cell xlt (s := none) (o := 2) (by simp)).trans xc2
    have hlt2 : gx < W2.heap.size := Nat.lt_of_lt_of_le xlt ho2.size
    refine ⟨gx', q2, ⟨hw2.cell 0, hw2.cell 2, hw2.cell 3, (t3.1.cell hlt2 xn).trans c1, (t3.1.cell hlt2 xn).trans c2⟩, ⟨⟨_, hw2.cell 1⟩, hw2.frozen 1, hw2.frozen 3⟩, ?_⟩
    exact ⟨g', gr, gx', F1, G2, hq.opened t2 (show LgP W2 g' gd N a sz none _ _ F1 from l1.quiet ho2) t3' x3 kp.run kp.hdr⟩))
  clear h hs hnd hok
  generalize endP a (openP a gen ns p.plat p.l) = p' at *
  generalize K + 1 + ns.length + leftP (openP a gen ns p.plat p.l) = K' at *
  unfold op16V
  go_enter Try.func5, Try.ntmps5
  have HC1 := hide (HC.out (w.alloc (.cells #[.int .i64 9, .int .i64 n, .int .u8 b, .int .i64 m] 27)) ((Only.refl _ _).alloc _))
  have hoa : Only [] w (w.alloc (.cells #[.int .i64 9, .int .i64 n, .int .u8 b, .int .i64 m] 27)) := (Only.refl _ _).alloc _
  go_wp2_with fail
  generalize w.alloc (.cells #[.int .i64 9, .int .i64 n, .int .u8 b, .int .i64 m] 27) = W1 at *
  have hcc0 := HC1.out
  unfold OCells at hcc0
  go_region_held3 (fun w' => w'.cell? ⟨gw, 0, none⟩ = some (.pointer (some ⟨gd, 0, none⟩)) ∧ w'.cell? ⟨gw, 2, none⟩ = some (.pointer (some ⟨gr, 0, none⟩)) ∧ w'.cell? ⟨gw, 3, none⟩ = some (.pointer (some ⟨gx, 0, none⟩)) ∧ w'.cell? ⟨gx, 1, none⟩ = some (.int .i64 a) ∧ w'.cell? ⟨gx, 2, none⟩ = some (.int .i64 sz)) (first | go_keep | assumption) (
    (go_at_call 28; refine (HB.out _ (Only.trans hoa (by repeat (first | exact Only.refl _ _ | apply Only.drew | apply Only.drewN)))).mono ?_; rintro e w2 ⟨gq, rfl, hcc, hn2⟩; unfold OCells at hcc; have HN2 := hide hn2; clear hn2))
  clear hcc0
  go_wp2_with fail
  go_region_held3 (fun w' => w'.cell? ⟨gw, 0, none⟩ = some (.pointer (some ⟨gd, 0, none⟩)) ∧ w'.cell? ⟨gw, 2, none⟩ = some (.pointer (some ⟨gr, 0, none⟩)) ∧ w'.cell? ⟨gw, 3, none⟩ = some (.pointer (some ⟨gx, 0, none⟩)) ∧ w'.cell? ⟨gx, 1, none⟩ = some (.int .i64 a) ∧ w'.cell? ⟨gx, 2, none⟩ = some (.int .i64 sz)) (first | go_keep | assumption) (
    (go_at_call 29; refine (HN2.out _ (by repeat (first | exact Only.refl _ _ | apply Only.drew | apply Only.drewN))).mono ?_; rintro e w3 ⟨gq2, rfl, hcc3, ⟨⟨v1, c1⟩, f1, f3⟩, hd⟩; unfold OCells at hcc3; have HD := hide hd; clear hd))
  have c3 := hcc3.2.2.1
  go_wp2
  go_ret
  exact ⟨rfl, HD.out⟩
end
end Go.Proofs.Ytokdpldmoflnkaa
/-
  LogDoes: how many writes are pending, plainly.
-/
namespace Go.Proofs.Ytokdpldmoflnkaa
open Go.ChangeShapes Go.WideShapes Go.ChangeAt Go.RowKit
set_option linter.unusedVariables false
set_option linter.unusedSimpArgs false
def potP (p : LP) : Nat := if p.st = 0 then p.G.length else if p.st = 1 then p.G.length - p.nx else 0
/-- Behind i calls. -/
def Pend (i : Nat) (p : LP) : Prop := 2 * p.l.length + potP p ≤ i + 1010 ∧ (3 ≤ p.st → p.l.length + leftP p ≤ 502)
theorem Pend.mono {i j : Nat} {p : LP} (h : Pend i p) (hij : i ≤ j) : Pend j p := ⟨by have := h.1; omega, h.2⟩
theorem Pend.len {i : Nat} {p : LP} (h : Pend i p) : 2 * p.l.length ≤ i + 1010 := by have := h.1; omega
theorem Pend.zero {i : Nat} {p : LP} (h1 : p.st = 0) (h2 : p.G = []) (h3 : 2 * p.l.length ≤ i + 1010) : Pend i p := ⟨by unfold potP; rw [if_pos h1, h2]; simpa using h3, fun e => by omega⟩
theorem Pend.step {i a : Nat} {p : LP} (h : Pend i p) (hr : RunsP p) (hG : p.G.length ≤ 247) : Pend (i + 1) (stepP a p) := by
  obtain ⟨hd1, hd2, hd3⟩ := doP_same a p
  obtain ⟨p1, p2⟩ := h
  have hst := step_runs a hr
  have hsl := stepP_len a p
  obtain ⟨h1, h2, h3, h4, h5⟩ := id hr
  by_cases e1 : p.st = 1
  · have hnx := h3 (by simp [eachP, e1])
    have hp : potP p = p.G.length - p.nx := by unfold potP; rw [if_neg (by omega), if_pos e1]
    have hs : (stepP a p).st = 1 ∧ (stepP a p).nx = p.nx + 1 ∧ (stepP a p).G = p.G ∨ (stepP a p).st = 2 := by
      unfold stepP nextP
      rw [show eachP (doP a p) = true from by unfold eachP; rw [hd1]; simp [e1]]
      by_cases hc : p.nx + 1 = p.G.length
      · right
        rw [if_neg (by rw [hd2, hd3]; exact fun hq => hq.2 hc), if_neg (by rw [hd1]; omega)]
        show (doP a p).st + 1 = 2
        rw [hd1]; omega
      · left
        rw [if_pos ⟨rfl, by rw [hd2, hd3]; exact hc⟩]
        exact ⟨hd1.trans e1, by show (doP a p).nx + 1 = _; rw [hd2], hd3⟩
    rcases hs with ⟨s1, s2, s3⟩ | s1
    · refine ⟨?_, fun e => by omega⟩
      unfold potP
      rw [if_neg (by omega), if_pos s1, s2, s3]
      omega
    · refine ⟨?_, fun e => by omega⟩
      unfold potP
      rw [if_neg (by omega), if_neg (by omega)]
      omega
  · by_cases e2 : p.st = 2
    · have hl : (stepP a p).l = [] := by
        unfold stepP
        rw [(nextP_same _).2.2, show doP a p = { p with plat := layAll p.plat p.l, l := [] } from by unfold doP; rw [e2]; rfl]
      have hs : (stepP a p).st = 3 := by
        unfold stepP nextP
        rw [if_neg (by unfold eachP; rw [hd1]; simp [e2]), if_neg (by rw [hd1]; omega)]
        show (doP a p).st + 1 = 3
        rw [hd1]; omega
      have hle := hst.2
      have hle2 : leftP p ≤ 6 + p.G.length := by unfold leftP; rw [e2]; simp [tailC]
      refine ⟨?_, fun _ => by rw [hl]; simp; omega⟩
      unfold potP
      rw [if_neg (by omega), if_neg (by omega), hl]
      simp
    · have q2 := p2 (by omega)
      have hp : potP (stepP a p) = 0 := by
        unfold potP
        by_cases e8 : p.st = 8
        · have hg : (stepP a p).G = [] ∧ (stepP a p).st = 0 := by
            unfold stepP
            rw [show doP a p = { p with plat := layAll p.plat p.l, l := [] } from by unfold doP; rw [e8]; rfl]
            unfold nextP
            rw [if_neg (by simp [eachP, e8]), if_pos e8]
            exact ⟨rfl, rfl⟩
          rw [if_pos hg.2, hg.1]; rfl
        · have h0 := (stepP_st a hr e8).1
          have hge : p.st ≤ (stepP a p).st := by
            unfold stepP nextP
            split
            · rw [hd1]; exact Nat.le_refl _
            · split
              · rename_i hh; rw [hd1] at hh; omega
              · show p.st ≤ (doP a p).st + 1; rw [hd1]; omega
          rw [if_neg h0, if_neg (by omega)]
      refine ⟨by rw [hp]; have := hst.2; omega, fun _ => by have := hst.2; omega⟩
/-- What a commit leaves behind. -/
theorem end_runs (a : Nat) : ∀ (n : Nat) (p : LP), leftP p = n → RunsP p → (iterP a n p).l = [] ∧ (iterP a n p).G = [] ∧ (iterP a n p).st = 0
  | 0, p, h, hr => by have := left_pos hr; omega
  | n + 1, p, h, hr => by
    obtain ⟨h1, h2⟩ := step_runs a hr
    rcases h1 with e | e
    · have hz : leftP (stepP a p) = 0 := left_idle e.1
      have hn : n = 0 := by omega
      subst hn
      by_cases h8 : p.st = 8
      · show (stepP a p).l = [] ∧ (stepP a p).G = [] ∧ (stepP a p).st = 0
        unfold stepP
        rw [show doP a p = { p with plat := layAll p.plat p.l, l := [] } from by unfold doP; rw [h8]; rfl]
        unfold nextP
        rw [if_neg (by simp [eachP, h8]), if_pos h8]
        exact ⟨rfl, rfl, rfl⟩
      · exact absurd e.1 (stepP_st a hr h8).1
    · exact end_runs a n (stepP a p) (by omega) e
theorem Pend.commit {i a : Nat} {p : LP} (h : Pend i p) (hr : IdleP p ∨ RunsP p) : Pend (i + 1) (endP a (startP none p)) := by
  rcases start_runs (S := none) hr with e | e
  · have hz : leftP (startP none p) = 0 := left_idle e.1
    unfold endP
    rw [hz]
    show Pend (i + 1) (startP none p)
    cases hb : startB p.G none p.st with
    | false => rw [startP_eq hb]; exact h.mono (Nat.le_succ i)
    | true =>
      exfalso
      unfold startP at e
      rw [if_pos hb] at e
      have := e.1
      simp at this
  · obtain ⟨h1, h2, h3⟩ := end_runs a _ (startP none p) rfl e
    exact Pend.zero h3 h2 (by show 2 * (iterP a _ (startP none p)).l.length ≤ _; rw [h1]; simp)
theorem Pend.start {i : Nat} {S : Option PG} {p : LP} (h : Pend i p) : Pend i (startP S p) := by
  cases hb : startB p.G S p.st with
  | false => rw [startP_eq hb]; exact h
  | true =>
    have hb0 := hb
    unfold startB at hb
    simp at hb
    obtain ⟨⟨b1, b2⟩, b3⟩ := hb
    obtain ⟨p1, p2⟩ := h
    obtain ⟨s1, s2, s3, s4, s5, s6⟩ := startP_same S p
    have hs : (startP S p).st = 1 := by unfold startP; rw [if_pos hb0]
    unfold potP at p1
    rw [if_pos b1] at p1
    refine ⟨?_, fun e => by omega⟩
    unfold potP
    rw [if_neg (by omega), if_pos hs, s2, s5]
    omega
theorem Pend.opened {i a : Nat} {p : LP} {gen : Int} {ns : List Int} (h : Pend i p) : Pend (i + 1) (endP a (openP a gen ns p.plat p.l)) := by
  by_cases hne : ns = []
  · subst hne
    rw [(open_none a gen p.plat p.l).2]
    exact Pend.zero rfl rfl (by have := h.len; show 2 * p.l.length ≤ _; omega)
  · rw [(open_end a gen ns p.plat p.l hne).2]
    exact Pend.zero rfl rfl (by simp)
theorem putG_len (G : PG) (n : Int) (d : List Int) : G.length ≤ (putG G n d).length ∧ (putG G n d).length ≤ G.length + 1 := by
  unfold putG
  split <;> simp
theorem Pend.write {i N a sz : Nat} {p : LP} (n : Int) (m : Nat) (zs : List Int) (h : Pend i p) : Pend (i + 1) (wrP N a sz p n m zs) ∧ p.G.length ≤ (wrP N a sz p n m zs).G.length := by
  unfold wrP
  split
  · rename_i hc
    unfold writeP
    split
    · obtain ⟨p1, p2⟩ := h
      have hl := putG_len p.G n zs
      refine ⟨⟨?_, fun e => absurd e (by show ¬ 3 ≤ p.st; omega)⟩, hl.1⟩
      unfold potP at p1 ⊢
      rw [if_pos hc.2] at p1
      rw [if_pos (show ({ p with G := putG p.G n zs } : LP).st = 0 from hc.2)]
      show 2 * p.l.length + (putG p.G n zs).length ≤ _
      omega
    · exact ⟨h.mono (Nat.le_succ i), Nat.le_refl _⟩
  · exact ⟨h.mono (Nat.le_succ i), Nat.le_refl _⟩
theorem Pend.abort {i : Nat} {p : LP} {G0 : PG} (h : Pend i p) (h0 : p.st = 0) (hl : G0.length ≤ p.G.length) : Pend i { p with G := G0 } := by
  obtain ⟨p1, p2⟩ := h
  unfold potP at p1
  rw [if_pos h0] at p1
  refine ⟨?_, fun e => absurd e (by show ¬ 3 ≤ p.st; omega)⟩
  unfold potP
  rw [if_pos (show ({ p with G := G0 } : LP).st = 0 from h0)]
  show 2 * p.l.length + G0.length ≤ _
  omega
end Go.Proofs.Ytokdpldmoflnkaa
/-
  LogDoes: looks.
-/
namespace Go.Proofs.Ytokdpldmoflnkaa
open Go.ChangeShapes Go.WideShapes Go.ChangeAt Go.RowKit Go.Maps
set_option linter.unusedVariables false
set_option linter.unusedSimpArgs false
set_option maxRecDepth 100000 in
theorem same16_s (w : World) (A A' : Option Addr) (n c c' : Nat) (zs : List Int) (h : IntsS w A n zs) (h' : IntsS w A' n zs) (hn : n ≤ 9223372036854775807) :
    Calls Try.prog 30 #[.slice A n c, .slice A' n c'] w fun e w' => e = .returned (.bool true) ∧ Only [] w w' := by
  have H := hide h.2
  have H' := hide h'.2
  clear h h'
  have hb : ((n : Int) != (n : Int)) = false := by simp
  go_enter Try.func30, Try.ntmps30
  go_wp2
  go_loopw [13, 5] (fun i _ wr => ∃ k : Nat, k ≤ n ∧ i = .int .i64 k ∧ Only [] w wr) (fun i _ _ => n - (intOf i).toNat)
  case atStart => exact ⟨0, Nat.zero_le _, rfl, Only.refl _ _⟩
  case round =>
    obtain ⟨k, hk, rfl, ho⟩ := hrel
    have HO := hide ho
    by_cases hlt : k < n
    · obtain ⟨b, o, rfl, hbb, hc⟩ := H.out (by omega)
      obtain ⟨b2, o2, rfl, hbb2, hc2⟩ := H'.out (by omega)
      have c1 := (ho.cell hbb (by simp)).trans (hc k hlt)
      have c2 := (ho.cell hbb2 (by simp)).trans (hc2 k hlt)
      have hlt2 : (k : Int) < n := by omega
      clear ho hc hc2 hbb hbb2
      generalize gb zs k = v at c1 c2
      go_wp2
      go_quiet (fail)
      go_wp2
      go_roundw
      case rel => exact ⟨k + 1, hlt, by go_num, HO.out.drewN _⟩
      case measure => simp [intOf]; omega
    · obtain rfl : k = n := by omega
      clear ho
      go_wp2
      go_ret
      exact ⟨rfl, HO.out⟩
theorem disk_eq (a : Addr) (w : World) : (binOp .eql 31 (.pointer (some a)) (.pointer (some a))).run Try.prog w = .ok (.bool true) w := by
  have h : (Try.prog.info? 106).isSome = true := by kernel_rfl
  obtain ⟨j, hj⟩ := Option.isSome_iff_exists.1 h
  exact run_eql_ptr_same w a Try.underlying31 hj
theorem IRow.ints {w : World} {v : Value} {ns : List Int} {n : Nat} (h : IRow w v ns) (hn : ns.length = n) : ∃ A c, v = .slice A n c ∧ IntsS w A n ns := by
  subst hn
  obtain ⟨A, c, rfl, hA, _, _, hc⟩ := h.form2
  refine ⟨A, c, rfl, rfl, fun hp => ?_⟩
  rcases A with _ | ad
  · have := (hA rfl).1; omega
  · obtain ⟨b, rfl, hb, hcl⟩ := hc ad rfl
    exact ⟨b, 0, rfl, hb, fun i hi => by rw [Nat.zero_add]; exact hcl i _ (by simp [i64l, gb, List.getD, hi])⟩
section
variable {w0 w w' w1 w2 : World} {gw gd g gr gx N a sz K K' : Nat} {S S' : Option PG} {p p' : LP} {F G F' G' T : List Nat}
theorem xd_pending {k : Nat} {plat : List Int} {l : List (Nat × List Int)} (h : Xd w gr N plat l k G) : Calls Try.prog 38 #[.pointer (some ⟨gr, 0, none⟩)] w fun e w' => ∃ A c, e = .returned (.slice A l.length c) ∧ IntsS w' A l.length (l.map fun x => (x.1 : Int)) ∧ Only [] w w' := by
  obtain ⟨rd, wt, fl, ⟨pb, pc, pr, pv, ws, hd, rfl, _⟩, _⟩ := h
  obtain ⟨A, cap, h2⟩ := hd.ref2
  refine (rpending_is h2).mono ?_
  rintro e w' ⟨v, rfl, hv, ho⟩
  obtain ⟨A', c', rfl, hs⟩ := hv.at (n := (ofW ws).length) (by simp)
  exact ⟨A', c', rfl, hs, ho⟩
/-- The cells that looks reads. -/
def LkC (W : World) (gw gd g gr gx N sz : Nat) (p : LP) (A : Option Addr) (cap pb pc : Nat) (rb : Bool) : Prop :=
  W.cell? ⟨gw, 0, none⟩ = some (.pointer (some ⟨gd, 0, none⟩)) ∧ W.cell? ⟨gw, 1, none⟩ = some (.pointer (some ⟨g, 0, none⟩)) ∧ W.cell? ⟨gw, 2, none⟩ = some (.pointer (some ⟨gr, 0, none⟩)) ∧ W.cell? ⟨gw, 3, none⟩ = some (.pointer (some ⟨gx, 0, none⟩)) ∧
  W.cell? ⟨gx, 2, none⟩ = some (.int .i64 sz) ∧ W.cell? ⟨gx, 3, none⟩ = some (.int .u64 p.gen) ∧ W.cell? ⟨gx, 4, none⟩ = some (.slice A p.G.length cap) ∧ W.cell? ⟨gx, 7, none⟩ = some (.bool rb) ∧
  W.cell? ⟨gr, 1, none⟩ = some (.slice (some ⟨pb, 0, none⟩) (512 * N) pc) ∧ (convert 46 9 (.slice (some ⟨pb, 0, none⟩) (512 * N) pc)).run Try.prog W = .ok (.string (strB p.plat)) W
theorem Bl.lkc (h : Bl w0 w gw gd g gr gx N a sz S p K F G) : ∃ A cap pb pc, ∀ W, Only [] w W → LkC W gw gd g gr gx N sz p A cap pb pc (!decide (((p.st : Nat) : Int) = 0)) := by
  obtain ⟨nx, ⟨vG, ws, vS, ss, op, GD, h1, h2, h3, h4, h5⟩, _⟩ := h.xl
  obtain ⟨A, cap, rfl, -⟩ := xb_form h1.grp.own
  obtain ⟨rd, wt, fl, ⟨pb, pc, pr, pv, ws', hd, _⟩, _⟩ := h1.xd
  have hl : ws.length = p.G.length := by rw [← h2]; simp
  refine ⟨A, cap, pb, pc, fun W ho => ?_⟩
  have hq := h1.quiet ho
  have c4 := hq.c4
  rw [hl] at c4
  have c7 := hq.c7
  rw [show (!decide (p.st = 0)) = (!decide (((p.st : Nat) : Int) = 0)) from by simp] at c7
  have hd2 := hd.only ho (by simp) (by simp) (by simp) (by simp)
  refine ⟨(h.quiet ho).wd.cell 0, (h.quiet ho).wd.cell 1, (h.quiet ho).wd.cell 2, (h.quiet ho).wd.cell 3, hq.c2, hq.c3, c4, c7, hd2.c1, conv_bytes W _ _ _ p.plat ⟨hd2.len, fun _ => ⟨pb, 0, rfl, hd2.row.lt, fun i hi => by rw [Nat.zero_add, hd2.row.cell]; exact u8l_get _ _ i (by rw [hd2.len]; exact hi)⟩⟩ (by simp) hd2.u8⟩
set_option maxRecDepth 100000 in
set_option maxHeartbeats 20000000 in
theorem looks16 (h : Bl w0 w gw gd g gr gx N a sz S p K F G) (hlen : p.l.length ≤ 4398046511104) : Calls Try.prog 6 #[.pointer (some ⟨gw, 0, none⟩)] w fun e w' => e = .returned (.bool true) ∧ Only [] w w' := by
  obtain ⟨A, cap, pb, pc, hlk⟩ := h.lkc
  have HL := hide hlk
  have HD := hide (fun W (ho : Only [] w W) => (lg_dirty (h.quiet ho).lg).mono (R' := fun e w' => ∃ A c, e = .returned (.slice A p.G.length c) ∧ IntsS w' A p.G.length (p.G.map (·.1)) ∧ Only [] W w') (fun e w' ⟨v, q1, q2, q3, q4⟩ => by
    obtain ⟨A, c, rfl, hi⟩ := q2.ints (n := p.G.length) (by simp)
    exact ⟨A, c, q1, hi, q4⟩))
  have HDX := hide (fun W (ho : Only [] w W) => (xlp_dirty (h.quiet ho).xl).mono (R' := fun e w' => ∃ A c, e = .returned (.slice A p.G.length c) ∧ IntsS w' A p.G.length (p.G.map (·.1)) ∧ Only [] W w') (fun e w' ⟨v, q1, q2, q3, q4⟩ => by
    obtain ⟨A, c, rfl, hi⟩ := q2.ints (n := p.G.length) (by simp)
    exact ⟨A, c, q1, hi, q4⟩))
  have HRM := hide (fun W (ho : Only [] w W) => lg_room (h.quiet ho).lg)
  have HRN := hide (fun W (ho : Only [] w W) => lg_running (h.quiet ho).lg)
  have HGN := hide (fun W (ho : Only [] w W) => lg_gen (h.quiet ho).lg)
  have HDK := hide (fun W (ho : Only [] w W) => lg_disk (h.quiet ho).lg)
  have HPD := hide (fun W (ho : Only [] w W) => (lg_dpending (h.quiet ho).lg).mono (R' := fun e w' => ∃ A c, e = .returned (.slice A p.l.length c) ∧ IntsS w' A p.l.length (p.l.map fun x => (x.1 : Int)) ∧ Only [] W w') (fun e w' ⟨d, q1, q2, q3, q4⟩ => ⟨_, _, q1, q3.s, q4⟩))
  have HPX := hide (fun W (ho : Only [] w W) => (show Calls Try.prog 38 #[.pointer (some ⟨gr, 0, none⟩)] W (fun e w' => ∃ A c, e = .returned (.slice A p.l.length c) ∧ IntsS w' A p.l.length (p.l.map fun x => (x.1 : Int)) ∧ Only [] W w') from by
    obtain ⟨nx, ⟨vG, ws, vS, ss, op, GD, h1, _⟩, _⟩ := (h.quiet ho).xl
    exact xd_pending h1.xd))
  have hu : U8 p.plat := by
    obtain ⟨nx, ⟨vG, ws, vS, ss, op, GD, h1, _⟩, _⟩ := h.xl
    obtain ⟨rd, wt, fl, ⟨pb, pc, pr, pv, ws', hd, _⟩, _⟩ := h1.xd
    exact hd.u8
  have HIM := hide (fun W (ho : Only [] w W) => (lg_dimage (h.quiet ho).lg).mono (R' := fun e w' => ∃ d c, e = .returned (.slice (some ⟨d, 0, none⟩) p.plat.length c) ∧ (convert 46 9 (.slice (some ⟨d, 0, none⟩) p.plat.length c)).run Try.prog w' = .ok (.string (strB p.plat)) w' ∧ Only [] W w') (fun e w' ⟨v, q1, ⟨d, c, r, q2, _, hb, _⟩, q4⟩ => ⟨d, c, by rw [q1, q2], conv_bytes w' _ _ _ p.plat ⟨rfl, fun _ => ⟨d, 0, rfl, hb.lt, fun i hi => by rw [Nat.zero_add, hb.cell]; exact u8l_get _ _ i hi⟩⟩ (by simp) hu, q4⟩))
  have hsz := h.lg.rng
  have hgl := h.lg.okp.1
  have HL1 := hide (show p.G.length ≤ 9223372036854775807 ∧ p.l.length ≤ 9223372036854775807 by omega)
  have hw1 : (p.G.length : Int) ≤ 248 := by omega
  have hw2 : (sz : Int) ≤ 248 := by omega
  have hw3 : IntKind.i64.wrap ((sz : Int) - 1) = (sz : Int) - 1 := by rw [IntKind.wrap_i64]; omega
  have hw4 : IntKind.i64.wrap ((sz : Int) - 1 - (p.G.length : Int)) = (sz : Int) - 1 - (p.G.length : Int) := by rw [IntKind.wrap_i64]; omega
  have hpe := disk_eq ⟨gd, 0, none⟩
  clear h hlk hu
  generalize (!decide (((p.st : Nat) : Int) = 0)) = rb at *
  go_enter Try.func6, Try.ntmps6
  go_wp2_with fail
  have kk : Only [] w w.drew := (Only.refl _ _).drew
  refine wp_region_held_drew (S := fun w' => LkC w' gw gd g gr gx N sz p A cap pb pc rb) (by as_aux_lemma => kernel_rfl) (HL.out _ kk) (fun hHeld => ?_)
  refine wpAnyH_take (i := 0) (oi := ⟨some 3, .move (.tmp 0), _, _, _, none⟩) (v := ?_) rfl (by as_aux_lemma => kernel_rfl) (by as_aux_lemma => kernel_rfl) (by as_aux_lemma => kernel_rfl) (fun _ _ _ h => h) (Or.inl ⟨by rfl, ?hy⟩) hHeld ?_
  case hy => (intro w hSw; obtain ⟨q0, q1, q2, q3, q4, q5, q6, q7, q8, q9⟩ := hSw; go_simp; (try with_reducible rfl))
  try simp only [Act.put, List.setIfInBounds_toArray, List.set_cons_zero, List.set_cons_succ]
  refine wpAnyH_take (i := 1) (oi := ⟨some 4, .nilCheck (.tmp 3), _, _, _, none⟩) (v := ?_) rfl (by as_aux_lemma => kernel_rfl) (by as_aux_lemma => kernel_rfl) (by as_aux_lemma => kernel_rfl) (fun _ _ _ h => h) (Or.inl ⟨by rfl, ?hy⟩) hHeld ?_
  case hy => (intro w hSw; obtain ⟨q0, q1, q2, q3, q4, q5, q6, q7, q8, q9⟩ := hSw; go_simp; (try with_reducible rfl))
  try simp only [Act.put, List.setIfInBounds_toArray, List.set_cons_zero, List.set_cons_succ]
  refine wpAnyH_take (i := 2) (oi := ⟨some 5, .fieldAddr _ (.tmp 4) 1, _, _, _, none⟩) (v := ?_) rfl (by as_aux_lemma => kernel_rfl) (by as_aux_lemma => kernel_rfl) (by as_aux_lemma => kernel_rfl) (fun _ _ _ h => h) (Or.inl ⟨by rfl, ?hy⟩) hHeld ?_
  case hy => (intro w hSw; obtain ⟨q0, q1, q2, q3, q4, q5, q6, q7, q8, q9⟩ := hSw; go_simp; (try with_reducible rfl))
  try simp only [Act.put, List.setIfInBounds_toArray, List.set_cons_zero, List.set_cons_succ]
  refine wpAnyH_take (i := 3) (oi := ⟨some 6, .load _ (.tmp 5), _, _, _, none⟩) (v := ?_) rfl (by as_aux_lemma => kernel_rfl) (by as_aux_lemma => kernel_rfl) (by as_aux_lemma => kernel_rfl) (fun _ _ _ h => h) (Or.inl ⟨by rfl, ?hy⟩) hHeld ?_
  case hy => (intro w hSw; obtain ⟨q0, q1, q2, q3, q4, q5, q6, q7, q8, q9⟩ := hSw; go_simp; (try with_reducible rfl))
  try simp only [Act.put, List.setIfInBounds_toArray, List.set_cons_zero, List.set_cons_succ]
  refine wpAnyH_take (i := 5) (oi := ⟨some 8, .move (.tmp 0), _, _, _, none⟩) (v := ?_) rfl (by as_aux_lemma => kernel_rfl) (by as_aux_lemma => kernel_rfl) (by as_aux_lemma => kernel_rfl) (fun _ _ _ h => h) (Or.inl ⟨by rfl, ?hy⟩) hHeld ?_
  case hy => (intro w hSw; obtain ⟨q0, q1, q2, q3, q4, q5, q6, q7, q8, q9⟩ := hSw; go_simp; (try with_reducible rfl))
  try simp only [Act.put, List.setIfInBounds_toArray, List.set_cons_zero, List.set_cons_succ]
  refine wpAnyH_take (i := 6) (oi := ⟨some 9, .nilCheck (.tmp 8), _, _, _, none⟩) (v := ?_) rfl (by as_aux_lemma => kernel_rfl) (by as_aux_lemma => kernel_rfl) (by as_aux_lemma => kernel_rfl) (fun _ _ _ h => h) (Or.inl ⟨by rfl, ?hy⟩) hHeld ?_
  case hy => (intro w hSw; obtain ⟨q0, q1, q2, q3, q4, q5, q6, q7, q8, q9⟩ := hSw; go_simp; (try with_reducible rfl))
  try simp only [Act.put, List.setIfInBounds_toArray, List.set_cons_zero, List.set_cons_succ]
  refine wpAnyH_take (i := 7) (oi := ⟨some 10, .fieldAddr _ (.tmp 9) 3, _, _, _, none⟩) (v := ?_) rfl (by as_aux_lemma => kernel_rfl) (by as_aux_lemma => kernel_rfl) (by as_aux_lemma => kernel_rfl) (fun _ _ _ h => h) (Or.inl ⟨by rfl, ?hy⟩) hHeld ?_
  case hy => (intro w hSw; obtain ⟨q0, q1, q2, q3, q4, q5, q6, q7, q8, q9⟩ := hSw; go_simp; (try with_reducible rfl))
  try simp only [Act.put, List.setIfInBounds_toArray, List.set_cons_zero, List.set_cons_succ]
  refine wpAnyH_take (i := 8) (oi := ⟨some 11, .load _ (.tmp 10), _, _, _, none⟩) (v := ?_) rfl (by as_aux_lemma => kernel_rfl) (by as_aux_lemma => kernel_rfl) (by as_aux_lemma => kernel_rfl) (fun _ _ _ h => h) (Or.inl ⟨by rfl, ?hy⟩) hHeld ?_
  case hy => (intro w hSw; obtain ⟨q0, q1, q2, q3, q4, q5, q6, q7, q8, q9⟩ := hSw; go_simp; (try with_reducible rfl))
  try simp only [Act.put, List.setIfInBounds_toArray, List.set_cons_zero, List.set_cons_succ]
  refine wpAnyH_ready (rs := [4]) (by as_aux_lemma => kernel_rfl) (by simp) ?_
  refine (AllReadyH.cons (o := ⟨some 7, .call { callee := .value (.func 31), args := #[(.tmp 6)], argTypes := _ }, _, _, _, none⟩) rfl (fun K hK => ?_) AllReadyH.nil)
  go_simp
  go_at_call 31
  refine (HD.out _ kk).mono ?_
  rintro e wA ⟨A1, c1, rfl, hi1, ho⟩
  have HI1 := hide hi1
  clear hi1
  have k1 := kk.trans ho
  clear kk
  have kk := k1
  clear k1 ho
  refine hK.out _ _ (HL.out _ kk) (fun hHeld => ?_)
  clear hK K
  try simp only [Act.put, List.setIfInBounds_toArray, List.set_cons_zero, List.set_cons_succ]
  refine wpAnyH_ready (rs := [9]) (by as_aux_lemma => kernel_rfl) (by simp) ?_
  refine (AllReadyH.cons (o := ⟨some 12, .call { callee := .value (.func 32), args := #[(.tmp 11)], argTypes := _ }, _, _, _, none⟩) rfl (fun K hK => ?_) AllReadyH.nil)
  go_simp
  go_at_call 32
  refine (HDX.out _ kk).mono ?_
  rintro e wB ⟨A2, c2, rfl, hi2, ho⟩
  have HI2 := hide hi2
  have HI3 := hide (HI1.out.only ho)
  clear hi2 HI1
  have k1 := kk.trans ho
  clear kk
  have kk := k1
  clear k1 ho
  refine hK.out _ _ (HL.out _ kk) (fun hHeld => ?_)
  clear hK K
  try simp only [Act.put, List.setIfInBounds_toArray, List.set_cons_zero, List.set_cons_succ]
  refine wpAnyH_ready (rs := [10]) (by as_aux_lemma => kernel_rfl) (by simp) ?_
  refine (AllReadyH.cons (o := ⟨some 13, .call { callee := .value (.func 30), args := #[(.tmp 7), (.tmp 12)], argTypes := _ }, _, _, _, none⟩) rfl (fun K hK => ?_) AllReadyH.nil)
  go_simp
  go_at_call 30
  refine (same16_s _ _ _ p.G.length _ _ _ HI3.out HI2.out HL1.out.1).mono ?_
  rintro e wC ⟨rfl, ho⟩
  have k1 := kk.trans ho
  clear kk
  have kk := k1
  clear k1 ho
  refine hK.out _ _ (HL.out _ kk) (fun hHeld => ?_)
  clear hK K
  try simp only [Act.put, List.setIfInBounds_toArray, List.set_cons_zero, List.set_cons_succ]
  refine wpAnyH_take (i := 11) (oi := ⟨some 14, .move (.tmp 13), _, _, _, none⟩) (v := ?_) rfl (by as_aux_lemma => kernel_rfl) (by as_aux_lemma => kernel_rfl) (by as_aux_lemma => kernel_rfl) (fun _ _ _ h => h) (Or.inl ⟨by rfl, ?hy⟩) hHeld ?_
  case hy => (intro w hSw; obtain ⟨q0, q1, q2, q3, q4, q5, q6, q7, q8, q9⟩ := hSw; go_simp; (try with_reducible rfl))
  try simp only [Act.put, List.setIfInBounds_toArray, List.set_cons_zero, List.set_cons_succ]
  refine wpAnyH_take (i := 12) (oi := ⟨some 15, .move (.tmp 0), _, _, _, some (11, true)⟩) (v := ?_) rfl (by as_aux_lemma => kernel_rfl) (by as_aux_lemma => kernel_rfl) (by as_aux_lemma => kernel_rfl) (fun _ _ _ h => h) (Or.inl ⟨by rfl, ?hy⟩) hHeld ?_
  case hy => (intro w hSw; obtain ⟨q0, q1, q2, q3, q4, q5, q6, q7, q8, q9⟩ := hSw; go_simp; (try with_reducible rfl))
  try simp only [Act.put, List.setIfInBounds_toArray, List.set_cons_zero, List.set_cons_succ]
  refine wpAnyH_take (i := 13) (oi := ⟨some 16, .nilCheck (.tmp 15), _, _, _, some (11, true)⟩) (v := ?_) rfl (by as_aux_lemma => kernel_rfl) (by as_aux_lemma => kernel_rfl) (by as_aux_lemma => kernel_rfl) (fun _ _ _ h => h) (Or.inl ⟨by rfl, ?hy⟩) hHeld ?_
  case hy => (intro w hSw; obtain ⟨q0, q1, q2, q3, q4, q5, q6, q7, q8, q9⟩ := hSw; go_simp; (try with_reducible rfl))
  try simp only [Act.put, List.setIfInBounds_toArray, List.set_cons_zero, List.set_cons_succ]
  refine wpAnyH_take (i := 14) (oi := ⟨some 17, .fieldAddr _ (.tmp 16) 1, _, _, _, some (11, true)⟩) (v := ?_) rfl (by as_aux_lemma => kernel_rfl) (by as_aux_lemma => kernel_rfl) (by as_aux_lemma => kernel_rfl) (fun _ _ _ h => h) (Or.inl ⟨by rfl, ?hy⟩) hHeld ?_
  case hy => (intro w hSw; obtain ⟨q0, q1, q2, q3, q4, q5, q6, q7, q8, q9⟩ := hSw; go_simp; (try with_reducible rfl))
  try simp only [Act.put, List.setIfInBounds_toArray, List.set_cons_zero, List.set_cons_succ]
  refine wpAnyH_take (i := 15) (oi := ⟨some 18, .load _ (.tmp 17), _, _, _, some (11, true)⟩) (v := ?_) rfl (by as_aux_lemma => kernel_rfl) (by as_aux_lemma => kernel_rfl) (by as_aux_lemma => kernel_rfl) (fun _ _ _ h => h) (Or.inl ⟨by rfl, ?hy⟩) hHeld ?_
  case hy => (intro w hSw; obtain ⟨q0, q1, q2, q3, q4, q5, q6, q7, q8, q9⟩ := hSw; go_simp; (try with_reducible rfl))
  try simp only [Act.put, List.setIfInBounds_toArray, List.set_cons_zero, List.set_cons_succ]
  refine wpAnyH_take (i := 17) (oi := ⟨some 20, .move (.tmp 0), _, _, _, some (11, true)⟩) (v := ?_) rfl (by as_aux_lemma => kernel_rfl) (by as_aux_lemma => kernel_rfl) (by as_aux_lemma => kernel_rfl) (fun _ _ _ h => h) (Or.inl ⟨by rfl, ?hy⟩) hHeld ?_
  case hy => (intro w hSw; obtain ⟨q0, q1, q2, q3, q4, q5, q6, q7, q8, q9⟩ := hSw; go_simp; (try with_reducible rfl))
  try simp only [Act.put, List.setIfInBounds_toArray, List.set_cons_zero, List.set_cons_succ]
  refine wpAnyH_take (i := 18) (oi := ⟨some 21, .nilCheck (.tmp 20), _, _, _, some (11, true)⟩) (v := ?_) rfl (by as_aux_lemma => kernel_rfl) (by as_aux_lemma => kernel_rfl) (by as_aux_lemma => kernel_rfl) (fun _ _ _ h => h) (Or.inl ⟨by rfl, ?hy⟩) hHeld ?_
  case hy => (intro w hSw; obtain ⟨q0, q1, q2, q3, q4, q5, q6, q7, q8, q9⟩ := hSw; go_simp; (try with_reducible rfl))
  try simp only [Act.put, List.setIfInBounds_toArray, List.set_cons_zero, List.set_cons_succ]
  refine wpAnyH_take (i := 19) (oi := ⟨some 22, .fieldAddr _ (.tmp 21) 3, _, _, _, some (11, true)⟩) (v := ?_) rfl (by as_aux_lemma => kernel_rfl) (by as_aux_lemma => kernel_rfl) (by as_aux_lemma => kernel_rfl) (fun _ _ _ h => h) (Or.inl ⟨by rfl, ?hy⟩) hHeld ?_
  case hy => (intro w hSw; obtain ⟨q0, q1, q2, q3, q4, q5, q6, q7, q8, q9⟩ := hSw; go_simp; (try with_reducible rfl))
  try simp only [Act.put, List.setIfInBounds_toArray, List.set_cons_zero, List.set_cons_succ]
  refine wpAnyH_take (i := 20) (oi := ⟨some 23, .load _ (.tmp 22), _, _, _, some (11, true)⟩) (v := ?_) rfl (by as_aux_lemma => kernel_rfl) (by as_aux_lemma => kernel_rfl) (by as_aux_lemma => kernel_rfl) (fun _ _ _ h => h) (Or.inl ⟨by rfl, ?hy⟩) hHeld ?_
  case hy => (intro w hSw; obtain ⟨q0, q1, q2, q3, q4, q5, q6, q7, q8, q9⟩ := hSw; go_simp; (try with_reducible rfl))
  try simp only [Act.put, List.setIfInBounds_toArray, List.set_cons_zero, List.set_cons_succ]
  refine wpAnyH_take (i := 21) (oi := ⟨some 24, .nilCheck (.tmp 23), _, _, _, some (11, true)⟩) (v := ?_) rfl (by as_aux_lemma => kernel_rfl) (by as_aux_lemma => kernel_rfl) (by as_aux_lemma => kernel_rfl) (fun _ _ _ h => h) (Or.inl ⟨by rfl, ?hy⟩) hHeld ?_
  case hy => (intro w hSw; obtain ⟨q0, q1, q2, q3, q4, q5, q6, q7, q8, q9⟩ := hSw; go_simp; (try with_reducible rfl))
  try simp only [Act.put, List.setIfInBounds_toArray, List.set_cons_zero, List.set_cons_succ]
  refine wpAnyH_take (i := 22) (oi := ⟨some 25, .fieldAddr _ (.tmp 24) 2, _, _, _, some (11, true)⟩) (v := ?_) rfl (by as_aux_lemma => kernel_rfl) (by as_aux_lemma => kernel_rfl) (by as_aux_lemma => kernel_rfl) (fun _ _ _ h => h) (Or.inl ⟨by rfl, ?hy⟩) hHeld ?_
  case hy => (intro w hSw; obtain ⟨q0, q1, q2, q3, q4, q5, q6, q7, q8, q9⟩ := hSw; go_simp; (try with_reducible rfl))
  try simp only [Act.put, List.setIfInBounds_toArray, List.set_cons_zero, List.set_cons_succ]
  refine wpAnyH_take (i := 23) (oi := ⟨some 26, .load _ (.tmp 25), _, _, _, some (11, true)⟩) (v := ?_) rfl (by as_aux_lemma => kernel_rfl) (by as_aux_lemma => kernel_rfl) (by as_aux_lemma => kernel_rfl) (fun _ _ _ h => h) (Or.inl ⟨by rfl, ?hy⟩) hHeld ?_
  case hy => (intro w hSw; obtain ⟨q0, q1, q2, q3, q4, q5, q6, q7, q8, q9⟩ := hSw; go_simp; (try with_reducible rfl))
  try simp only [Act.put, List.setIfInBounds_toArray, List.set_cons_zero, List.set_cons_succ]
  refine wpAnyH_take (i := 24) (oi := ⟨some 27, .binOp .sub _ (.tmp 26) (.const _) _, _, _, _, some (11, true)⟩) (v := ?_) rfl (by as_aux_lemma => kernel_rfl) (by as_aux_lemma => kernel_rfl) (by as_aux_lemma => kernel_rfl) (fun _ _ _ h => h) (Or.inl ⟨by rfl, ?hy⟩) hHeld ?_
  case hy => (intro w hSw; obtain ⟨q0, q1, q2, q3, q4, q5, q6, q7, q8, q9⟩ := hSw; go_simp; (try with_reducible rfl))
  try simp only [Act.put, List.setIfInBounds_toArray, List.set_cons_zero, List.set_cons_succ]
  refine wpAnyH_take (i := 25) (oi := ⟨some 28, .move (.tmp 0), _, _, _, some (11, true)⟩) (v := ?_) rfl (by as_aux_lemma => kernel_rfl) (by as_aux_lemma => kernel_rfl) (by as_aux_lemma => kernel_rfl) (fun _ _ _ h => h) (Or.inl ⟨by rfl, ?hy⟩) hHeld ?_
  case hy => (intro w hSw; obtain ⟨q0, q1, q2, q3, q4, q5, q6, q7, q8, q9⟩ := hSw; go_simp; (try with_reducible rfl))
  try simp only [Act.put, List.setIfInBounds_toArray, List.set_cons_zero, List.set_cons_succ]
  refine wpAnyH_take (i := 26) (oi := ⟨some 29, .nilCheck (.tmp 28), _, _, _, some (11, true)⟩) (v := ?_) rfl (by as_aux_lemma => kernel_rfl) (by as_aux_lemma => kernel_rfl) (by as_aux_lemma => kernel_rfl) (fun _ _ _ h => h) (Or.inl ⟨by rfl, ?hy⟩) hHeld ?_
  case hy => (intro w hSw; obtain ⟨q0, q1, q2, q3, q4, q5, q6, q7, q8, q9⟩ := hSw; go_simp; (try with_reducible rfl))
  try simp only [Act.put, List.setIfInBounds_toArray, List.set_cons_zero, List.set_cons_succ]
  refine wpAnyH_take (i := 27) (oi := ⟨some 30, .fieldAddr _ (.tmp 29) 3, _, _, _, some (11, true)⟩) (v := ?_) rfl (by as_aux_lemma => kernel_rfl) (by as_aux_lemma => kernel_rfl) (by as_aux_lemma => kernel_rfl) (fun _ _ _ h => h) (Or.inl ⟨by rfl, ?hy⟩) hHeld ?_
  case hy => (intro w hSw; obtain ⟨q0, q1, q2, q3, q4, q5, q6, q7, q8, q9⟩ := hSw; go_simp; (try with_reducible rfl))
  try simp only [Act.put, List.setIfInBounds_toArray, List.set_cons_zero, List.set_cons_succ]
  refine wpAnyH_take (i := 28) (oi := ⟨some 31, .load _ (.tmp 30), _, _, _, some (11, true)⟩) (v := ?_) rfl (by as_aux_lemma => kernel_rfl) (by as_aux_lemma => kernel_rfl) (by as_aux_lemma => kernel_rfl) (fun _ _ _ h => h) (Or.inl ⟨by rfl, ?hy⟩) hHeld ?_
  case hy => (intro w hSw; obtain ⟨q0, q1, q2, q3, q4, q5, q6, q7, q8, q9⟩ := hSw; go_simp; (try with_reducible rfl))
  try simp only [Act.put, List.setIfInBounds_toArray, List.set_cons_zero, List.set_cons_succ]
  refine wpAnyH_take (i := 29) (oi := ⟨some 32, .nilCheck (.tmp 31), _, _, _, some (11, true)⟩) (v := ?_) rfl (by as_aux_lemma => kernel_rfl) (by as_aux_lemma => kernel_rfl) (by as_aux_lemma => kernel_rfl) (fun _ _ _ h => h) (Or.inl ⟨by rfl, ?hy⟩) hHeld ?_
  case hy => (intro w hSw; obtain ⟨q0, q1, q2, q3, q4, q5, q6, q7, q8, q9⟩ := hSw; go_simp; (try with_reducible rfl))
  try simp only [Act.put, List.setIfInBounds_toArray, List.set_cons_zero, List.set_cons_succ]
  refine wpAnyH_take (i := 30) (oi := ⟨some 33, .fieldAddr _ (.tmp 32) 4, _, _, _, some (11, true)⟩) (v := ?_) rfl (by as_aux_lemma => kernel_rfl) (by as_aux_lemma => kernel_rfl) (by as_aux_lemma => kernel_rfl) (fun _ _ _ h => h) (Or.inl ⟨by rfl, ?hy⟩) hHeld ?_
  case hy => (intro w hSw; obtain ⟨q0, q1, q2, q3, q4, q5, q6, q7, q8, q9⟩ := hSw; go_simp; (try with_reducible rfl))
  try simp only [Act.put, List.setIfInBounds_toArray, List.set_cons_zero, List.set_cons_succ]
  refine wpAnyH_take (i := 31) (oi := ⟨some 34, .load _ (.tmp 33), _, _, _, some (11, true)⟩) (v := ?_) rfl (by as_aux_lemma => kernel_rfl) (by as_aux_lemma => kernel_rfl) (by as_aux_lemma => kernel_rfl) (fun _ _ _ h => h) (Or.inl ⟨by rfl, ?hy⟩) hHeld ?_
  case hy => (intro w hSw; obtain ⟨q0, q1, q2, q3, q4, q5, q6, q7, q8, q9⟩ := hSw; go_simp; (try with_reducible rfl))
  try simp only [Act.put, List.setIfInBounds_toArray, List.set_cons_zero, List.set_cons_succ]
  refine wpAnyH_take (i := 32) (oi := ⟨some 35, .call { callee := .builtin .len, args := #[(.tmp 34)], argTypes := _ }, _, _, _, some (11, true)⟩) (v := ?_) rfl (by as_aux_lemma => kernel_rfl) (by as_aux_lemma => kernel_rfl) (by as_aux_lemma => kernel_rfl) (fun _ _ _ h => h) (Or.inl ⟨by rfl, ?hy⟩) hHeld ?_
  case hy => (intro w hSw; obtain ⟨q0, q1, q2, q3, q4, q5, q6, q7, q8, q9⟩ := hSw; go_simp; (try with_reducible rfl))
  try simp only [Act.put, List.setIfInBounds_toArray, List.set_cons_zero, List.set_cons_succ]
  refine wpAnyH_take (i := 33) (oi := ⟨some 36, .binOp .sub _ (.tmp 27) (.tmp 35) _, _, _, _, some (11, true)⟩) (v := ?_) rfl (by as_aux_lemma => kernel_rfl) (by as_aux_lemma => kernel_rfl) (by as_aux_lemma => kernel_rfl) (fun _ _ _ h => h) (Or.inl ⟨by rfl, ?hy⟩) hHeld ?_
  case hy => (intro w hSw; obtain ⟨q0, q1, q2, q3, q4, q5, q6, q7, q8, q9⟩ := hSw; go_simp; (try with_reducible rfl))
  try simp only [Act.put, List.setIfInBounds_toArray, List.set_cons_zero, List.set_cons_succ]
  refine wpAnyH_ready (rs := [16]) (by as_aux_lemma => kernel_rfl) (by simp) ?_
  refine (AllReadyH.cons (o := ⟨some 19, .call { callee := .value (.func 33), args := #[(.tmp 18)], argTypes := _ }, _, _, _, some (11, true)⟩) rfl (fun K hK => ?_) AllReadyH.nil)
  go_simp
  go_at_call 33
  refine (HRM.out _ kk).mono ?_
  rintro e wD ⟨rfl, ho⟩
  have k1 := kk.trans ho
  clear kk
  have kk := k1
  clear k1 ho
  refine hK.out _ _ (HL.out _ kk) (fun hHeld => ?_)
  clear hK K
  try simp only [Act.put, List.setIfInBounds_toArray, List.set_cons_zero, List.set_cons_succ]
  refine wpAnyH_take (i := 34) (oi := ⟨some 37, .binOp .eql _ (.tmp 19) (.tmp 36) _, _, _, _, some (11, true)⟩) (v := ?_) rfl (by as_aux_lemma => kernel_rfl) (by as_aux_lemma => kernel_rfl) (by as_aux_lemma => kernel_rfl) (fun _ _ _ h => h) (Or.inl ⟨by rfl, ?hy⟩) hHeld ?_
  case hy => (intro w hSw; obtain ⟨q0, q1, q2, q3, q4, q5, q6, q7, q8, q9⟩ := hSw; go_simp; (try with_reducible rfl))
  try simp only [Act.put, List.setIfInBounds_toArray, List.set_cons_zero, List.set_cons_succ]
  refine wpAnyH_take (i := 35) (oi := ⟨some 38, .pick (.tmp 14) (.tmp 37) (.const _), _, _, _, none⟩) (v := ?_) rfl (by as_aux_lemma => kernel_rfl) (by as_aux_lemma => kernel_rfl) (by as_aux_lemma => kernel_rfl) (fun _ _ _ h => h) (Or.inl ⟨by rfl, ?hy⟩) hHeld ?_
  case hy => (intro w hSw; obtain ⟨q0, q1, q2, q3, q4, q5, q6, q7, q8, q9⟩ := hSw; go_simp; (try with_reducible rfl))
  try simp only [Act.put, List.setIfInBounds_toArray, List.set_cons_zero, List.set_cons_succ]
  refine wpAnyH_take (i := 36) (oi := ⟨some 39, .move (.tmp 38), _, _, _, none⟩) (v := ?_) rfl (by as_aux_lemma => kernel_rfl) (by as_aux_lemma => kernel_rfl) (by as_aux_lemma => kernel_rfl) (fun _ _ _ h => h) (Or.inl ⟨by rfl, ?hy⟩) hHeld ?_
  case hy => (intro w hSw; obtain ⟨q0, q1, q2, q3, q4, q5, q6, q7, q8, q9⟩ := hSw; go_simp; (try with_reducible rfl))
  try simp only [Act.put, List.setIfInBounds_toArray, List.set_cons_zero, List.set_cons_succ]
  refine wpAnyH_take (i := 37) (oi := ⟨some 40, .move (.tmp 0), _, _, _, some (36, true)⟩) (v := ?_) rfl (by as_aux_lemma => kernel_rfl) (by as_aux_lemma => kernel_rfl) (by as_aux_lemma => kernel_rfl) (fun _ _ _ h => h) (Or.inl ⟨by rfl, ?hy⟩) hHeld ?_
  case hy => (intro w hSw; obtain ⟨q0, q1, q2, q3, q4, q5, q6, q7, q8, q9⟩ := hSw; go_simp; (try with_reducible rfl))
  try simp only [Act.put, List.setIfInBounds_toArray, List.set_cons_zero, List.set_cons_succ]
  refine wpAnyH_take (i := 38) (oi := ⟨some 41, .nilCheck (.tmp 40), _, _, _, some (36, true)⟩) (v := ?_) rfl (by as_aux_lemma => kernel_rfl) (by as_aux_lemma => kernel_rfl) (by as_aux_lemma => kernel_rfl) (fun _ _ _ h => h) (Or.inl ⟨by rfl, ?hy⟩) hHeld ?_
  case hy => (intro w hSw; obtain ⟨q0, q1, q2, q3, q4, q5, q6, q7, q8, q9⟩ := hSw; go_simp; (try with_reducible rfl))
  try simp only [Act.put, List.setIfInBounds_toArray, List.set_cons_zero, List.set_cons_succ]
  refine wpAnyH_take (i := 39) (oi := ⟨some 42, .fieldAddr _ (.tmp 41) 1, _, _, _, some (36, true)⟩) (v := ?_) rfl (by as_aux_lemma => kernel_rfl) (by as_aux_lemma => kernel_rfl) (by as_aux_lemma => kernel_rfl) (fun _ _ _ h => h) (Or.inl ⟨by rfl, ?hy⟩) hHeld ?_
  case hy => (intro w hSw; obtain ⟨q0, q1, q2, q3, q4, q5, q6, q7, q8, q9⟩ := hSw; go_simp; (try with_reducible rfl))
  try simp only [Act.put, List.setIfInBounds_toArray, List.set_cons_zero, List.set_cons_succ]
  refine wpAnyH_take (i := 40) (oi := ⟨some 43, .load _ (.tmp 42), _, _, _, some (36, true)⟩) (v := ?_) rfl (by as_aux_lemma => kernel_rfl) (by as_aux_lemma => kernel_rfl) (by as_aux_lemma => kernel_rfl) (fun _ _ _ h => h) (Or.inl ⟨by rfl, ?hy⟩) hHeld ?_
  case hy => (intro w hSw; obtain ⟨q0, q1, q2, q3, q4, q5, q6, q7, q8, q9⟩ := hSw; go_simp; (try with_reducible rfl))
  try simp only [Act.put, List.setIfInBounds_toArray, List.set_cons_zero, List.set_cons_succ]
  refine wpAnyH_take (i := 42) (oi := ⟨some 45, .move (.tmp 0), _, _, _, some (36, true)⟩) (v := ?_) rfl (by as_aux_lemma => kernel_rfl) (by as_aux_lemma => kernel_rfl) (by as_aux_lemma => kernel_rfl) (fun _ _ _ h => h) (Or.inl ⟨by rfl, ?hy⟩) hHeld ?_
  case hy => (intro w hSw; obtain ⟨q0, q1, q2, q3, q4, q5, q6, q7, q8, q9⟩ := hSw; go_simp; (try with_reducible rfl))
  try simp only [Act.put, List.setIfInBounds_toArray, List.set_cons_zero, List.set_cons_succ]
  refine wpAnyH_take (i := 43) (oi := ⟨some 46, .nilCheck (.tmp 45), _, _, _, some (36, true)⟩) (v := ?_) rfl (by as_aux_lemma => kernel_rfl) (by as_aux_lemma => kernel_rfl) (by as_aux_lemma => kernel_rfl) (fun _ _ _ h => h) (Or.inl ⟨by rfl, ?hy⟩) hHeld ?_
  case hy => (intro w hSw; obtain ⟨q0, q1, q2, q3, q4, q5, q6, q7, q8, q9⟩ := hSw; go_simp; (try with_reducible rfl))
  try simp only [Act.put, List.setIfInBounds_toArray, List.set_cons_zero, List.set_cons_succ]
  refine wpAnyH_take (i := 44) (oi := ⟨some 47, .fieldAddr _ (.tmp 46) 3, _, _, _, some (36, true)⟩) (v := ?_) rfl (by as_aux_lemma => kernel_rfl) (by as_aux_lemma => kernel_rfl) (by as_aux_lemma => kernel_rfl) (fun _ _ _ h => h) (Or.inl ⟨by rfl, ?hy⟩) hHeld ?_
  case hy => (intro w hSw; obtain ⟨q0, q1, q2, q3, q4, q5, q6, q7, q8, q9⟩ := hSw; go_simp; (try with_reducible rfl))
  try simp only [Act.put, List.setIfInBounds_toArray, List.set_cons_zero, List.set_cons_succ]
  refine wpAnyH_take (i := 45) (oi := ⟨some 48, .load _ (.tmp 47), _, _, _, some (36, true)⟩) (v := ?_) rfl (by as_aux_lemma => kernel_rfl) (by as_aux_lemma => kernel_rfl) (by as_aux_lemma => kernel_rfl) (fun _ _ _ h => h) (Or.inl ⟨by rfl, ?hy⟩) hHeld ?_
  case hy => (intro w hSw; obtain ⟨q0, q1, q2, q3, q4, q5, q6, q7, q8, q9⟩ := hSw; go_simp; (try with_reducible rfl))
  try simp only [Act.put, List.setIfInBounds_toArray, List.set_cons_zero, List.set_cons_succ]
  refine wpAnyH_take (i := 46) (oi := ⟨some 49, .nilCheck (.tmp 48), _, _, _, some (36, true)⟩) (v := ?_) rfl (by as_aux_lemma => kernel_rfl) (by as_aux_lemma => kernel_rfl) (by as_aux_lemma => kernel_rfl) (fun _ _ _ h => h) (Or.inl ⟨by rfl, ?hy⟩) hHeld ?_
  case hy => (intro w hSw; obtain ⟨q0, q1, q2, q3, q4, q5, q6, q7, q8, q9⟩ := hSw; go_simp; (try with_reducible rfl))
  try simp only [Act.put, List.setIfInBounds_toArray, List.set_cons_zero, List.set_cons_succ]
  refine wpAnyH_take (i := 47) (oi := ⟨some 50, .fieldAddr _ (.tmp 49) 7, _, _, _, some (36, true)⟩) (v := ?_) rfl (by as_aux_lemma => kernel_rfl) (by as_aux_lemma => kernel_rfl) (by as_aux_lemma => kernel_rfl) (fun _ _ _ h => h) (Or.inl ⟨by rfl, ?hy⟩) hHeld ?_
  case hy => (intro w hSw; obtain ⟨q0, q1, q2, q3, q4, q5, q6, q7, q8, q9⟩ := hSw; go_simp; (try with_reducible rfl))
  try simp only [Act.put, List.setIfInBounds_toArray, List.set_cons_zero, List.set_cons_succ]
  refine wpAnyH_take (i := 48) (oi := ⟨some 51, .load _ (.tmp 50), _, _, _, some (36, true)⟩) (v := ?_) rfl (by as_aux_lemma => kernel_rfl) (by as_aux_lemma => kernel_rfl) (by as_aux_lemma => kernel_rfl) (fun _ _ _ h => h) (Or.inl ⟨by rfl, ?hy⟩) hHeld ?_
  case hy => (intro w hSw; obtain ⟨q0, q1, q2, q3, q4, q5, q6, q7, q8, q9⟩ := hSw; go_simp; (try with_reducible rfl))
  try simp only [Act.put, List.setIfInBounds_toArray, List.set_cons_zero, List.set_cons_succ]
  refine wpAnyH_ready (rs := [41]) (by as_aux_lemma => kernel_rfl) (by simp) ?_
  refine (AllReadyH.cons (o := ⟨some 44, .call { callee := .value (.func 34), args := #[(.tmp 43)], argTypes := _ }, _, _, _, some (36, true)⟩) rfl (fun K hK => ?_) AllReadyH.nil)
  go_simp
  go_at_call 34
  refine (HRN.out _ kk).mono ?_
  rintro e wE ⟨rfl, rfl⟩
  refine hK.out _ _ (HL.out _ kk) (fun hHeld => ?_)
  clear hK K
  try simp only [Act.put, List.setIfInBounds_toArray, List.set_cons_zero, List.set_cons_succ]
  refine wpAnyH_take (i := 49) (oi := ⟨some 52, .binOp .eql _ (.tmp 44) (.tmp 51) _, _, _, _, some (36, true)⟩) (v := ?_) rfl (by as_aux_lemma => kernel_rfl) (by as_aux_lemma => kernel_rfl) (by as_aux_lemma => kernel_rfl) (fun _ _ _ h => h) (Or.inl ⟨by rfl, ?hy⟩) hHeld ?_
  case hy => (intro w hSw; obtain ⟨q0, q1, q2, q3, q4, q5, q6, q7, q8, q9⟩ := hSw; go_simp; (try with_reducible rfl))
  try simp only [Act.put, List.setIfInBounds_toArray, List.set_cons_zero, List.set_cons_succ]
  refine wpAnyH_take (i := 50) (oi := ⟨some 53, .pick (.tmp 39) (.tmp 52) (.const _), _, _, _, none⟩) (v := ?_) rfl (by as_aux_lemma => kernel_rfl) (by as_aux_lemma => kernel_rfl) (by as_aux_lemma => kernel_rfl) (fun _ _ _ h => h) (Or.inl ⟨by rfl, ?hy⟩) hHeld ?_
  case hy => (intro w hSw; obtain ⟨q0, q1, q2, q3, q4, q5, q6, q7, q8, q9⟩ := hSw; go_simp; (try with_reducible rfl))
  try simp only [Act.put, List.setIfInBounds_toArray, List.set_cons_zero, List.set_cons_succ]
  refine wpAnyH_take (i := 51) (oi := ⟨some 54, .move (.tmp 53), _, _, _, none⟩) (v := ?_) rfl (by as_aux_lemma => kernel_rfl) (by as_aux_lemma => kernel_rfl) (by as_aux_lemma => kernel_rfl) (fun _ _ _ h => h) (Or.inl ⟨by rfl, ?hy⟩) hHeld ?_
  case hy => (intro w hSw; obtain ⟨q0, q1, q2, q3, q4, q5, q6, q7, q8, q9⟩ := hSw; go_simp; (try with_reducible rfl))
  try simp only [Act.put, List.setIfInBounds_toArray, List.set_cons_zero, List.set_cons_succ]
  refine wpAnyH_take (i := 52) (oi := ⟨some 55, .move (.tmp 0), _, _, _, some (51, true)⟩) (v := ?_) rfl (by as_aux_lemma => kernel_rfl) (by as_aux_lemma => kernel_rfl) (by as_aux_lemma => kernel_rfl) (fun _ _ _ h => h) (Or.inl ⟨by rfl, ?hy⟩) hHeld ?_
  case hy => (intro w hSw; obtain ⟨q0, q1, q2, q3, q4, q5, q6, q7, q8, q9⟩ := hSw; go_simp; (try with_reducible rfl))
  try simp only [Act.put, List.setIfInBounds_toArray, List.set_cons_zero, List.set_cons_succ]
  refine wpAnyH_take (i := 53) (oi := ⟨some 56, .nilCheck (.tmp 55), _, _, _, some (51, true)⟩) (v := ?_) rfl (by as_aux_lemma => kernel_rfl) (by as_aux_lemma => kernel_rfl) (by as_aux_lemma => kernel_rfl) (fun _ _ _ h => h) (Or.inl ⟨by rfl, ?hy⟩) hHeld ?_
  case hy => (intro w hSw; obtain ⟨q0, q1, q2, q3, q4, q5, q6, q7, q8, q9⟩ := hSw; go_simp; (try with_reducible rfl))
  try simp only [Act.put, List.setIfInBounds_toArray, List.set_cons_zero, List.set_cons_succ]
  refine wpAnyH_take (i := 54) (oi := ⟨some 57, .fieldAddr _ (.tmp 56) 1, _, _, _, some (51, true)⟩) (v := ?_) rfl (by as_aux_lemma => kernel_rfl) (by as_aux_lemma => kernel_rfl) (by as_aux_lemma => kernel_rfl) (fun _ _ _ h => h) (Or.inl ⟨by rfl, ?hy⟩) hHeld ?_
  case hy => (intro w hSw; obtain ⟨q0, q1, q2, q3, q4, q5, q6, q7, q8, q9⟩ := hSw; go_simp; (try with_reducible rfl))
  try simp only [Act.put, List.setIfInBounds_toArray, List.set_cons_zero, List.set_cons_succ]
  refine wpAnyH_take (i := 55) (oi := ⟨some 58, .load _ (.tmp 57), _, _, _, some (51, true)⟩) (v := ?_) rfl (by as_aux_lemma => kernel_rfl) (by as_aux_lemma => kernel_rfl) (by as_aux_lemma => kernel_rfl) (fun _ _ _ h => h) (Or.inl ⟨by rfl, ?hy⟩) hHeld ?_
  case hy => (intro w hSw; obtain ⟨q0, q1, q2, q3, q4, q5, q6, q7, q8, q9⟩ := hSw; go_simp; (try with_reducible rfl))
  try simp only [Act.put, List.setIfInBounds_toArray, List.set_cons_zero, List.set_cons_succ]
  refine wpAnyH_take (i := 57) (oi := ⟨some 60, .move (.tmp 0), _, _, _, some (51, true)⟩) (v := ?_) rfl (by as_aux_lemma => kernel_rfl) (by as_aux_lemma => kernel_rfl) (by as_aux_lemma => kernel_rfl) (fun _ _ _ h => h) (Or.inl ⟨by rfl, ?hy⟩) hHeld ?_
  case hy => (intro w hSw; obtain ⟨q0, q1, q2, q3, q4, q5, q6, q7, q8, q9⟩ := hSw; go_simp; (try with_reducible rfl))
  try simp only [Act.put, List.setIfInBounds_toArray, List.set_cons_zero, List.set_cons_succ]
  refine wpAnyH_take (i := 58) (oi := ⟨some 61, .nilCheck (.tmp 60), _, _, _, some (51, true)⟩) (v := ?_) rfl (by as_aux_lemma => kernel_rfl) (by as_aux_lemma => kernel_rfl) (by as_aux_lemma => kernel_rfl) (fun _ _ _ h => h) (Or.inl ⟨by rfl, ?hy⟩) hHeld ?_
  case hy => (intro w hSw; obtain ⟨q0, q1, q2, q3, q4, q5, q6, q7, q8, q9⟩ := hSw; go_simp; (try with_reducible rfl))
  try simp only [Act.put, List.setIfInBounds_toArray, List.set_cons_zero, List.set_cons_succ]
  refine wpAnyH_take (i := 59) (oi := ⟨some 62, .fieldAddr _ (.tmp 61) 3, _, _, _, some (51, true)⟩) (v := ?_) rfl (by as_aux_lemma => kernel_rfl) (by as_aux_lemma => kernel_rfl) (by as_aux_lemma => kernel_rfl) (fun _ _ _ h => h) (Or.inl ⟨by rfl, ?hy⟩) hHeld ?_
  case hy => (intro w hSw; obtain ⟨q0, q1, q2, q3, q4, q5, q6, q7, q8, q9⟩ := hSw; go_simp; (try with_reducible rfl))
  try simp only [Act.put, List.setIfInBounds_toArray, List.set_cons_zero, List.set_cons_succ]
  refine wpAnyH_take (i := 60) (oi := ⟨some 63, .load _ (.tmp 62), _, _, _, some (51, true)⟩) (v := ?_) rfl (by as_aux_lemma => kernel_rfl) (by as_aux_lemma => kernel_rfl) (by as_aux_lemma => kernel_rfl) (fun _ _ _ h => h) (Or.inl ⟨by rfl, ?hy⟩) hHeld ?_
  case hy => (intro w hSw; obtain ⟨q0, q1, q2, q3, q4, q5, q6, q7, q8, q9⟩ := hSw; go_simp; (try with_reducible rfl))
  try simp only [Act.put, List.setIfInBounds_toArray, List.set_cons_zero, List.set_cons_succ]
  refine wpAnyH_take (i := 61) (oi := ⟨some 64, .nilCheck (.tmp 63), _, _, _, some (51, true)⟩) (v := ?_) rfl (by as_aux_lemma => kernel_rfl) (by as_aux_lemma => kernel_rfl) (by as_aux_lemma => kernel_rfl) (fun _ _ _ h => h) (Or.inl ⟨by rfl, ?hy⟩) hHeld ?_
  case hy => (intro w hSw; obtain ⟨q0, q1, q2, q3, q4, q5, q6, q7, q8, q9⟩ := hSw; go_simp; (try with_reducible rfl))
  try simp only [Act.put, List.setIfInBounds_toArray, List.set_cons_zero, List.set_cons_succ]
  refine wpAnyH_take (i := 62) (oi := ⟨some 65, .fieldAddr _ (.tmp 64) 3, _, _, _, some (51, true)⟩) (v := ?_) rfl (by as_aux_lemma => kernel_rfl) (by as_aux_lemma => kernel_rfl) (by as_aux_lemma => kernel_rfl) (fun _ _ _ h => h) (Or.inl ⟨by rfl, ?hy⟩) hHeld ?_
  case hy => (intro w hSw; obtain ⟨q0, q1, q2, q3, q4, q5, q6, q7, q8, q9⟩ := hSw; go_simp; (try with_reducible rfl))
  try simp only [Act.put, List.setIfInBounds_toArray, List.set_cons_zero, List.set_cons_succ]
  refine wpAnyH_take (i := 63) (oi := ⟨some 66, .load _ (.tmp 65), _, _, _, some (51, true)⟩) (v := ?_) rfl (by as_aux_lemma => kernel_rfl) (by as_aux_lemma => kernel_rfl) (by as_aux_lemma => kernel_rfl) (fun _ _ _ h => h) (Or.inl ⟨by rfl, ?hy⟩) hHeld ?_
  case hy => (intro w hSw; obtain ⟨q0, q1, q2, q3, q4, q5, q6, q7, q8, q9⟩ := hSw; go_simp; (try with_reducible rfl))
  try simp only [Act.put, List.setIfInBounds_toArray, List.set_cons_zero, List.set_cons_succ]
  refine wpAnyH_ready (rs := [56]) (by as_aux_lemma => kernel_rfl) (by simp) ?_
  refine (AllReadyH.cons (o := ⟨some 59, .call { callee := .value (.func 35), args := #[(.tmp 58)], argTypes := _ }, _, _, _, some (51, true)⟩) rfl (fun K hK => ?_) AllReadyH.nil)
  go_simp
  go_at_call 35
  refine (HGN.out _ kk).mono ?_
  rintro e wF ⟨rfl, rfl⟩
  refine hK.out _ _ (HL.out _ kk) (fun hHeld => ?_)
  clear hK K
  try simp only [Act.put, List.setIfInBounds_toArray, List.set_cons_zero, List.set_cons_succ]
  refine wpAnyH_take (i := 64) (oi := ⟨some 67, .binOp .eql _ (.tmp 59) (.tmp 66) _, _, _, _, some (51, true)⟩) (v := ?_) rfl (by as_aux_lemma => kernel_rfl) (by as_aux_lemma => kernel_rfl) (by as_aux_lemma => kernel_rfl) (fun _ _ _ h => h) (Or.inl ⟨by rfl, ?hy⟩) hHeld ?_
  case hy => (intro w hSw; obtain ⟨q0, q1, q2, q3, q4, q5, q6, q7, q8, q9⟩ := hSw; go_simp; (try with_reducible rfl))
  try simp only [Act.put, List.setIfInBounds_toArray, List.set_cons_zero, List.set_cons_succ]
  refine wpAnyH_take (i := 65) (oi := ⟨some 68, .pick (.tmp 54) (.tmp 67) (.const _), _, _, _, none⟩) (v := ?_) rfl (by as_aux_lemma => kernel_rfl) (by as_aux_lemma => kernel_rfl) (by as_aux_lemma => kernel_rfl) (fun _ _ _ h => h) (Or.inl ⟨by rfl, ?hy⟩) hHeld ?_
  case hy => (intro w hSw; obtain ⟨q0, q1, q2, q3, q4, q5, q6, q7, q8, q9⟩ := hSw; go_simp; (try with_reducible rfl))
  try simp only [Act.put, List.setIfInBounds_toArray, List.set_cons_zero, List.set_cons_succ]
  refine wpAnyH_take (i := 66) (oi := ⟨some 69, .move (.tmp 68), _, _, _, none⟩) (v := ?_) rfl (by as_aux_lemma => kernel_rfl) (by as_aux_lemma => kernel_rfl) (by as_aux_lemma => kernel_rfl) (fun _ _ _ h => h) (Or.inl ⟨by rfl, ?hy⟩) hHeld ?_
  case hy => (intro w hSw; obtain ⟨q0, q1, q2, q3, q4, q5, q6, q7, q8, q9⟩ := hSw; go_simp; (try with_reducible rfl))
  try simp only [Act.put, List.setIfInBounds_toArray, List.set_cons_zero, List.set_cons_succ]
  refine wpAnyH_take (i := 67) (oi := ⟨some 70, .move (.tmp 0), _, _, _, some (66, true)⟩) (v := ?_) rfl (by as_aux_lemma => kernel_rfl) (by as_aux_lemma => kernel_rfl) (by as_aux_lemma => kernel_rfl) (fun _ _ _ h => h) (Or.inl ⟨by rfl, ?hy⟩) hHeld ?_
  case hy => (intro w hSw; obtain ⟨q0, q1, q2, q3, q4, q5, q6, q7, q8, q9⟩ := hSw; go_simp; (try with_reducible rfl))
  try simp only [Act.put, List.setIfInBounds_toArray, List.set_cons_zero, List.set_cons_succ]
  refine wpAnyH_take (i := 68) (oi := ⟨some 71, .nilCheck (.tmp 70), _, _, _, some (66, true)⟩) (v := ?_) rfl (by as_aux_lemma => kernel_rfl) (by as_aux_lemma => kernel_rfl) (by as_aux_lemma => kernel_rfl) (fun _ _ _ h => h) (Or.inl ⟨by rfl, ?hy⟩) hHeld ?_
  case hy => (intro w hSw; obtain ⟨q0, q1, q2, q3, q4, q5, q6, q7, q8, q9⟩ := hSw; go_simp; (try with_reducible rfl))
  try simp only [Act.put, List.setIfInBounds_toArray, List.set_cons_zero, List.set_cons_succ]
  refine wpAnyH_take (i := 69) (oi := ⟨some 72, .fieldAddr _ (.tmp 71) 1, _, _, _, some (66, true)⟩) (v := ?_) rfl (by as_aux_lemma => kernel_rfl) (by as_aux_lemma => kernel_rfl) (by as_aux_lemma => kernel_rfl) (fun _ _ _ h => h) (Or.inl ⟨by rfl, ?hy⟩) hHeld ?_
  case hy => (intro w hSw; obtain ⟨q0, q1, q2, q3, q4, q5, q6, q7, q8, q9⟩ := hSw; go_simp; (try with_reducible rfl))
  try simp only [Act.put, List.setIfInBounds_toArray, List.set_cons_zero, List.set_cons_succ]
  refine wpAnyH_take (i := 70) (oi := ⟨some 73, .load _ (.tmp 72), _, _, _, some (66, true)⟩) (v := ?_) rfl (by as_aux_lemma => kernel_rfl) (by as_aux_lemma => kernel_rfl) (by as_aux_lemma => kernel_rfl) (fun _ _ _ h => h) (Or.inl ⟨by rfl, ?hy⟩) hHeld ?_
  case hy => (intro w hSw; obtain ⟨q0, q1, q2, q3, q4, q5, q6, q7, q8, q9⟩ := hSw; go_simp; (try with_reducible rfl))
  try simp only [Act.put, List.setIfInBounds_toArray, List.set_cons_zero, List.set_cons_succ]
  refine wpAnyH_take (i := 72) (oi := ⟨some 75, .move (.tmp 0), _, _, _, some (66, true)⟩) (v := ?_) rfl (by as_aux_lemma => kernel_rfl) (by as_aux_lemma => kernel_rfl) (by as_aux_lemma => kernel_rfl) (fun _ _ _ h => h) (Or.inl ⟨by rfl, ?hy⟩) hHeld ?_
  case hy => (intro w hSw; obtain ⟨q0, q1, q2, q3, q4, q5, q6, q7, q8, q9⟩ := hSw; go_simp; (try with_reducible rfl))
  try simp only [Act.put, List.setIfInBounds_toArray, List.set_cons_zero, List.set_cons_succ]
  refine wpAnyH_take (i := 73) (oi := ⟨some 76, .nilCheck (.tmp 75), _, _, _, some (66, true)⟩) (v := ?_) rfl (by as_aux_lemma => kernel_rfl) (by as_aux_lemma => kernel_rfl) (by as_aux_lemma => kernel_rfl) (fun _ _ _ h => h) (Or.inl ⟨by rfl, ?hy⟩) hHeld ?_
  case hy => (intro w hSw; obtain ⟨q0, q1, q2, q3, q4, q5, q6, q7, q8, q9⟩ := hSw; go_simp; (try with_reducible rfl))
  try simp only [Act.put, List.setIfInBounds_toArray, List.set_cons_zero, List.set_cons_succ]
  refine wpAnyH_take (i := 74) (oi := ⟨some 77, .fieldAddr _ (.tmp 76) 0, _, _, _, some (66, true)⟩) (v := ?_) rfl (by as_aux_lemma => kernel_rfl) (by as_aux_lemma => kernel_rfl) (by as_aux_lemma => kernel_rfl) (fun _ _ _ h => h) (Or.inl ⟨by rfl, ?hy⟩) hHeld ?_
  case hy => (intro w hSw; obtain ⟨q0, q1, q2, q3, q4, q5, q6, q7, q8, q9⟩ := hSw; go_simp; (try with_reducible rfl))
  try simp only [Act.put, List.setIfInBounds_toArray, List.set_cons_zero, List.set_cons_succ]
  refine wpAnyH_take (i := 75) (oi := ⟨some 78, .load _ (.tmp 77), _, _, _, some (66, true)⟩) (v := ?_) rfl (by as_aux_lemma => kernel_rfl) (by as_aux_lemma => kernel_rfl) (by as_aux_lemma => kernel_rfl) (fun _ _ _ h => h) (Or.inl ⟨by rfl, ?hy⟩) hHeld ?_
  case hy => (intro w hSw; obtain ⟨q0, q1, q2, q3, q4, q5, q6, q7, q8, q9⟩ := hSw; go_simp; (try with_reducible rfl))
  try simp only [Act.put, List.setIfInBounds_toArray, List.set_cons_zero, List.set_cons_succ]
  refine wpAnyH_ready (rs := [71]) (by as_aux_lemma => kernel_rfl) (by simp) ?_
  refine (AllReadyH.cons (o := ⟨some 74, .call { callee := .value (.func 36), args := #[(.tmp 73)], argTypes := _ }, _, _, _, some (66, true)⟩) rfl (fun K hK => ?_) AllReadyH.nil)
  go_simp
  go_at_call 36
  refine (HDK.out _ kk).mono ?_
  rintro e wG ⟨rfl, rfl⟩
  refine hK.out _ _ (HL.out _ kk) (fun hHeld => ?_)
  clear hK K
  try simp only [Act.put, List.setIfInBounds_toArray, List.set_cons_zero, List.set_cons_succ]
  refine wpAnyH_take (i := 76) (oi := ⟨some 79, .binOp .eql _ (.tmp 74) (.tmp 78) _, _, _, _, some (66, true)⟩) (v := ?_) rfl (by as_aux_lemma => kernel_rfl) (by as_aux_lemma => kernel_rfl) (by as_aux_lemma => kernel_rfl) (fun _ _ _ h => h) (Or.inl ⟨by rfl, ?hy⟩) hHeld ?_
  case hy => (intro w hSw; obtain ⟨q0, q1, q2, q3, q4, q5, q6, q7, q8, q9⟩ := hSw; go_simp; (try with_reducible rfl))
  try simp only [Act.put, List.setIfInBounds_toArray, List.set_cons_zero, List.set_cons_succ]
  refine wpAnyH_take (i := 77) (oi := ⟨some 80, .pick (.tmp 69) (.tmp 79) (.const _), _, _, _, none⟩) (v := ?_) rfl (by as_aux_lemma => kernel_rfl) (by as_aux_lemma => kernel_rfl) (by as_aux_lemma => kernel_rfl) (fun _ _ _ h => h) (Or.inl ⟨by rfl, ?hy⟩) hHeld ?_
  case hy => (intro w hSw; obtain ⟨q0, q1, q2, q3, q4, q5, q6, q7, q8, q9⟩ := hSw; go_simp; (try with_reducible rfl))
  try simp only [Act.put, List.setIfInBounds_toArray, List.set_cons_zero, List.set_cons_succ]
  refine wpAnyH_take (i := 78) (oi := ⟨some 81, .move (.tmp 80), _, _, _, none⟩) (v := ?_) rfl (by as_aux_lemma => kernel_rfl) (by as_aux_lemma => kernel_rfl) (by as_aux_lemma => kernel_rfl) (fun _ _ _ h => h) (Or.inl ⟨by rfl, ?hy⟩) hHeld ?_
  case hy => (intro w hSw; obtain ⟨q0, q1, q2, q3, q4, q5, q6, q7, q8, q9⟩ := hSw; go_simp; (try with_reducible rfl))
  try simp only [Act.put, List.setIfInBounds_toArray, List.set_cons_zero, List.set_cons_succ]
  refine wpAnyH_take (i := 79) (oi := ⟨some 82, .move (.tmp 0), _, _, _, some (78, true)⟩) (v := ?_) rfl (by as_aux_lemma => kernel_rfl) (by as_aux_lemma => kernel_rfl) (by as_aux_lemma => kernel_rfl) (fun _ _ _ h => h) (Or.inl ⟨by rfl, ?hy⟩) hHeld ?_
  case hy => (intro w hSw; obtain ⟨q0, q1, q2, q3, q4, q5, q6, q7, q8, q9⟩ := hSw; go_simp; (try with_reducible rfl))
  try simp only [Act.put, List.setIfInBounds_toArray, List.set_cons_zero, List.set_cons_succ]
  refine wpAnyH_take (i := 80) (oi := ⟨some 83, .nilCheck (.tmp 82), _, _, _, some (78, true)⟩) (v := ?_) rfl (by as_aux_lemma => kernel_rfl) (by as_aux_lemma => kernel_rfl) (by as_aux_lemma => kernel_rfl) (fun _ _ _ h => h) (Or.inl ⟨by rfl, ?hy⟩) hHeld ?_
  case hy => (intro w hSw; obtain ⟨q0, q1, q2, q3, q4, q5, q6, q7, q8, q9⟩ := hSw; go_simp; (try with_reducible rfl))
  try simp only [Act.put, List.setIfInBounds_toArray, List.set_cons_zero, List.set_cons_succ]
  refine wpAnyH_take (i := 81) (oi := ⟨some 84, .fieldAddr _ (.tmp 83) 0, _, _, _, some (78, true)⟩) (v := ?_) rfl (by as_aux_lemma => kernel_rfl) (by as_aux_lemma => kernel_rfl) (by as_aux_lemma => kernel_rfl) (fun _ _ _ h => h) (Or.inl ⟨by rfl, ?hy⟩) hHeld ?_
  case hy => (intro w hSw; obtain ⟨q0, q1, q2, q3, q4, q5, q6, q7, q8, q9⟩ := hSw; go_simp; (try with_reducible rfl))
  try simp only [Act.put, List.setIfInBounds_toArray, List.set_cons_zero, List.set_cons_succ]
  refine wpAnyH_take (i := 82) (oi := ⟨some 85, .load _ (.tmp 84), _, _, _, some (78, true)⟩) (v := ?_) rfl (by as_aux_lemma => kernel_rfl) (by as_aux_lemma => kernel_rfl) (by as_aux_lemma => kernel_rfl) (fun _ _ _ h => h) (Or.inl ⟨by rfl, ?hy⟩) hHeld ?_
  case hy => (intro w hSw; obtain ⟨q0, q1, q2, q3, q4, q5, q6, q7, q8, q9⟩ := hSw; go_simp; (try with_reducible rfl))
  try simp only [Act.put, List.setIfInBounds_toArray, List.set_cons_zero, List.set_cons_succ]
  refine wpAnyH_take (i := 84) (oi := ⟨some 87, .move (.tmp 0), _, _, _, some (78, true)⟩) (v := ?_) rfl (by as_aux_lemma => kernel_rfl) (by as_aux_lemma => kernel_rfl) (by as_aux_lemma => kernel_rfl) (fun _ _ _ h => h) (Or.inl ⟨by rfl, ?hy⟩) hHeld ?_
  case hy => (intro w hSw; obtain ⟨q0, q1, q2, q3, q4, q5, q6, q7, q8, q9⟩ := hSw; go_simp; (try with_reducible rfl))
  try simp only [Act.put, List.setIfInBounds_toArray, List.set_cons_zero, List.set_cons_succ]
  refine wpAnyH_take (i := 85) (oi := ⟨some 88, .nilCheck (.tmp 87), _, _, _, some (78, true)⟩) (v := ?_) rfl (by as_aux_lemma => kernel_rfl) (by as_aux_lemma => kernel_rfl) (by as_aux_lemma => kernel_rfl) (fun _ _ _ h => h) (Or.inl ⟨by rfl, ?hy⟩) hHeld ?_
  case hy => (intro w hSw; obtain ⟨q0, q1, q2, q3, q4, q5, q6, q7, q8, q9⟩ := hSw; go_simp; (try with_reducible rfl))
  try simp only [Act.put, List.setIfInBounds_toArray, List.set_cons_zero, List.set_cons_succ]
  refine wpAnyH_take (i := 86) (oi := ⟨some 89, .fieldAddr _ (.tmp 88) 2, _, _, _, some (78, true)⟩) (v := ?_) rfl (by as_aux_lemma => kernel_rfl) (by as_aux_lemma => kernel_rfl) (by as_aux_lemma => kernel_rfl) (fun _ _ _ h => h) (Or.inl ⟨by rfl, ?hy⟩) hHeld ?_
  case hy => (intro w hSw; obtain ⟨q0, q1, q2, q3, q4, q5, q6, q7, q8, q9⟩ := hSw; go_simp; (try with_reducible rfl))
  try simp only [Act.put, List.setIfInBounds_toArray, List.set_cons_zero, List.set_cons_succ]
  refine wpAnyH_take (i := 87) (oi := ⟨some 90, .load _ (.tmp 89), _, _, _, some (78, true)⟩) (v := ?_) rfl (by as_aux_lemma => kernel_rfl) (by as_aux_lemma => kernel_rfl) (by as_aux_lemma => kernel_rfl) (fun _ _ _ h => h) (Or.inl ⟨by rfl, ?hy⟩) hHeld ?_
  case hy => (intro w hSw; obtain ⟨q0, q1, q2, q3, q4, q5, q6, q7, q8, q9⟩ := hSw; go_simp; (try with_reducible rfl))
  try simp only [Act.put, List.setIfInBounds_toArray, List.set_cons_zero, List.set_cons_succ]
  refine wpAnyH_ready (rs := [83]) (by as_aux_lemma => kernel_rfl) (by simp) ?_
  refine (AllReadyH.cons (o := ⟨some 86, .call { callee := .value (.func 37), args := #[(.tmp 85)], argTypes := _ }, _, _, _, some (78, true)⟩) rfl (fun K hK => ?_) AllReadyH.nil)
  go_simp
  go_at_call 37
  refine (HPD.out _ kk).mono ?_
  rintro e wH ⟨A4, c4, rfl, hi4, ho⟩
  have HI4 := hide hi4
  clear hi4
  have k1 := kk.trans ho
  clear kk
  have kk := k1
  clear k1 ho
  refine hK.out _ _ (HL.out _ kk) (fun hHeld => ?_)
  clear hK K
  try simp only [Act.put, List.setIfInBounds_toArray, List.set_cons_zero, List.set_cons_succ]
  refine wpAnyH_ready (rs := [88]) (by as_aux_lemma => kernel_rfl) (by simp) ?_
  refine (AllReadyH.cons (o := ⟨some 91, .call { callee := .value (.func 38), args := #[(.tmp 90)], argTypes := _ }, _, _, _, some (78, true)⟩) rfl (fun K hK => ?_) AllReadyH.nil)
  go_simp
  go_at_call 38
  refine (HPX.out _ kk).mono ?_
  rintro e wI ⟨A5, c5, rfl, hi5, ho⟩
  have HI5 := hide hi5
  have HI6 := hide (HI4.out.only ho)
  clear hi5 HI4
  have k1 := kk.trans ho
  clear kk
  have kk := k1
  clear k1 ho
  refine hK.out _ _ (HL.out _ kk) (fun hHeld => ?_)
  clear hK K
  try simp only [Act.put, List.setIfInBounds_toArray, List.set_cons_zero, List.set_cons_succ]
  refine wpAnyH_ready (rs := [89]) (by as_aux_lemma => kernel_rfl) (by simp) ?_
  refine (AllReadyH.cons (o := ⟨some 92, .call { callee := .value (.func 30), args := #[(.tmp 86), (.tmp 91)], argTypes := _ }, _, _, _, some (78, true)⟩) rfl (fun K hK => ?_) AllReadyH.nil)
  go_simp
  go_at_call 30
  refine (same16_s _ _ _ p.l.length _ _ _ HI6.out HI5.out HL1.out.2).mono ?_
  rintro e wJ ⟨rfl, ho⟩
  have k1 := kk.trans ho
  clear kk
  have kk := k1
  clear k1 ho
  refine hK.out _ _ (HL.out _ kk) (fun hHeld => ?_)
  clear hK K
  try simp only [Act.put, List.setIfInBounds_toArray, List.set_cons_zero, List.set_cons_succ]
  refine wpAnyH_take (i := 90) (oi := ⟨some 93, .pick (.tmp 81) (.tmp 92) (.const _), _, _, _, none⟩) (v := ?_) rfl (by as_aux_lemma => kernel_rfl) (by as_aux_lemma => kernel_rfl) (by as_aux_lemma => kernel_rfl) (fun _ _ _ h => h) (Or.inl ⟨by rfl, ?hy⟩) hHeld ?_
  case hy => (intro w hSw; obtain ⟨q0, q1, q2, q3, q4, q5, q6, q7, q8, q9⟩ := hSw; go_simp; (try with_reducible rfl))
  try simp only [Act.put, List.setIfInBounds_toArray, List.set_cons_zero, List.set_cons_succ]
  refine wpAnyH_take (i := 91) (oi := ⟨some 94, .move (.tmp 93), _, _, _, none⟩) (v := ?_) rfl (by as_aux_lemma => kernel_rfl) (by as_aux_lemma => kernel_rfl) (by as_aux_lemma => kernel_rfl) (fun _ _ _ h => h) (Or.inl ⟨by rfl, ?hy⟩) hHeld ?_
  case hy => (intro w hSw; obtain ⟨q0, q1, q2, q3, q4, q5, q6, q7, q8, q9⟩ := hSw; go_simp; (try with_reducible rfl))
  try simp only [Act.put, List.setIfInBounds_toArray, List.set_cons_zero, List.set_cons_succ]
  refine wpAnyH_take (i := 92) (oi := ⟨some 95, .move (.tmp 0), _, _, _, some (91, true)⟩) (v := ?_) rfl (by as_aux_lemma => kernel_rfl) (by as_aux_lemma => kernel_rfl) (by as_aux_lemma => kernel_rfl) (fun _ _ _ h => h) (Or.inl ⟨by rfl, ?hy⟩) hHeld ?_
  case hy => (intro w hSw; obtain ⟨q0, q1, q2, q3, q4, q5, q6, q7, q8, q9⟩ := hSw; go_simp; (try with_reducible rfl))
  try simp only [Act.put, List.setIfInBounds_toArray, List.set_cons_zero, List.set_cons_succ]
  refine wpAnyH_take (i := 93) (oi := ⟨some 96, .nilCheck (.tmp 95), _, _, _, some (91, true)⟩) (v := ?_) rfl (by as_aux_lemma => kernel_rfl) (by as_aux_lemma => kernel_rfl) (by as_aux_lemma => kernel_rfl) (fun _ _ _ h => h) (Or.inl ⟨by rfl, ?hy⟩) hHeld ?_
  case hy => (intro w hSw; obtain ⟨q0, q1, q2, q3, q4, q5, q6, q7, q8, q9⟩ := hSw; go_simp; (try with_reducible rfl))
  try simp only [Act.put, List.setIfInBounds_toArray, List.set_cons_zero, List.set_cons_succ]
  refine wpAnyH_take (i := 94) (oi := ⟨some 97, .fieldAddr _ (.tmp 96) 0, _, _, _, some (91, true)⟩) (v := ?_) rfl (by as_aux_lemma => kernel_rfl) (by as_aux_lemma => kernel_rfl) (by as_aux_lemma => kernel_rfl) (fun _ _ _ h => h) (Or.inl ⟨by rfl, ?hy⟩) hHeld ?_
  case hy => (intro w hSw; obtain ⟨q0, q1, q2, q3, q4, q5, q6, q7, q8, q9⟩ := hSw; go_simp; (try with_reducible rfl))
  try simp only [Act.put, List.setIfInBounds_toArray, List.set_cons_zero, List.set_cons_succ]
  refine wpAnyH_take (i := 95) (oi := ⟨some 98, .load _ (.tmp 97), _, _, _, some (91, true)⟩) (v := ?_) rfl (by as_aux_lemma => kernel_rfl) (by as_aux_lemma => kernel_rfl) (by as_aux_lemma => kernel_rfl) (fun _ _ _ h => h) (Or.inl ⟨by rfl, ?hy⟩) hHeld ?_
  case hy => (intro w hSw; obtain ⟨q0, q1, q2, q3, q4, q5, q6, q7, q8, q9⟩ := hSw; go_simp; (try with_reducible rfl))
  try simp only [Act.put, List.setIfInBounds_toArray, List.set_cons_zero, List.set_cons_succ]
  refine wpAnyH_take (i := 98) (oi := ⟨some 101, .move (.tmp 0), _, _, _, some (91, true)⟩) (v := ?_) rfl (by as_aux_lemma => kernel_rfl) (by as_aux_lemma => kernel_rfl) (by as_aux_lemma => kernel_rfl) (fun _ _ _ h => h) (Or.inl ⟨by rfl, ?hy⟩) hHeld ?_
  case hy => (intro w hSw; obtain ⟨q0, q1, q2, q3, q4, q5, q6, q7, q8, q9⟩ := hSw; go_simp; (try with_reducible rfl))
  try simp only [Act.put, List.setIfInBounds_toArray, List.set_cons_zero, List.set_cons_succ]
  refine wpAnyH_take (i := 99) (oi := ⟨some 102, .nilCheck (.tmp 101), _, _, _, some (91, true)⟩) (v := ?_) rfl (by as_aux_lemma => kernel_rfl) (by as_aux_lemma => kernel_rfl) (by as_aux_lemma => kernel_rfl) (fun _ _ _ h => h) (Or.inl ⟨by rfl, ?hy⟩) hHeld ?_
  case hy => (intro w hSw; obtain ⟨q0, q1, q2, q3, q4, q5, q6, q7, q8, q9⟩ := hSw; go_simp; (try with_reducible rfl))
  try simp only [Act.put, List.setIfInBounds_toArray, List.set_cons_zero, List.set_cons_succ]
  refine wpAnyH_take (i := 100) (oi := ⟨some 103, .fieldAddr _ (.tmp 102) 2, _, _, _, some (91, true)⟩) (v := ?_) rfl (by as_aux_lemma => kernel_rfl) (by as_aux_lemma => kernel_rfl) (by as_aux_lemma => kernel_rfl) (fun _ _ _ h => h) (Or.inl ⟨by rfl, ?hy⟩) hHeld ?_
  case hy => (intro w hSw; obtain ⟨q0, q1, q2, q3, q4, q5, q6, q7, q8, q9⟩ := hSw; go_simp; (try with_reducible rfl))
  try simp only [Act.put, List.setIfInBounds_toArray, List.set_cons_zero, List.set_cons_succ]
  refine wpAnyH_take (i := 101) (oi := ⟨some 104, .load _ (.tmp 103), _, _, _, some (91, true)⟩) (v := ?_) rfl (by as_aux_lemma => kernel_rfl) (by as_aux_lemma => kernel_rfl) (by as_aux_lemma => kernel_rfl) (fun _ _ _ h => h) (Or.inl ⟨by rfl, ?hy⟩) hHeld ?_
  case hy => (intro w hSw; obtain ⟨q0, q1, q2, q3, q4, q5, q6, q7, q8, q9⟩ := hSw; go_simp; (try with_reducible rfl))
  try simp only [Act.put, List.setIfInBounds_toArray, List.set_cons_zero, List.set_cons_succ]
  refine wpAnyH_take (i := 102) (oi := ⟨some 105, .nilCheck (.tmp 104), _, _, _, some (91, true)⟩) (v := ?_) rfl (by as_aux_lemma => kernel_rfl) (by as_aux_lemma => kernel_rfl) (by as_aux_lemma => kernel_rfl) (fun _ _ _ h => h) (Or.inl ⟨by rfl, ?hy⟩) hHeld ?_
  case hy => (intro w hSw; obtain ⟨q0, q1, q2, q3, q4, q5, q6, q7, q8, q9⟩ := hSw; go_simp; (try with_reducible rfl))
  try simp only [Act.put, List.setIfInBounds_toArray, List.set_cons_zero, List.set_cons_succ]
  refine wpAnyH_take (i := 103) (oi := ⟨some 106, .fieldAddr _ (.tmp 105) 1, _, _, _, some (91, true)⟩) (v := ?_) rfl (by as_aux_lemma => kernel_rfl) (by as_aux_lemma => kernel_rfl) (by as_aux_lemma => kernel_rfl) (fun _ _ _ h => h) (Or.inl ⟨by rfl, ?hy⟩) hHeld ?_
  case hy => (intro w hSw; obtain ⟨q0, q1, q2, q3, q4, q5, q6, q7, q8, q9⟩ := hSw; go_simp; (try with_reducible rfl))
  try simp only [Act.put, List.setIfInBounds_toArray, List.set_cons_zero, List.set_cons_succ]
  refine wpAnyH_take (i := 104) (oi := ⟨some 107, .load _ (.tmp 106), _, _, _, some (91, true)⟩) (v := ?_) rfl (by as_aux_lemma => kernel_rfl) (by as_aux_lemma => kernel_rfl) (by as_aux_lemma => kernel_rfl) (fun _ _ _ h => h) (Or.inl ⟨by rfl, ?hy⟩) hHeld ?_
  case hy => (intro w hSw; obtain ⟨q0, q1, q2, q3, q4, q5, q6, q7, q8, q9⟩ := hSw; go_simp; (try with_reducible rfl))
  try simp only [Act.put, List.setIfInBounds_toArray, List.set_cons_zero, List.set_cons_succ]
  refine wpAnyH_take (i := 105) (oi := ⟨some 108, .convert _ _ (.tmp 107), _, _, _, some (91, true)⟩) (v := ?_) rfl (by as_aux_lemma => kernel_rfl) (by as_aux_lemma => kernel_rfl) (by as_aux_lemma => kernel_rfl) (fun _ _ _ h => h) (Or.inl ⟨by rfl, ?hy⟩) hHeld ?_
  case hy => (intro w hSw; obtain ⟨q0, q1, q2, q3, q4, q5, q6, q7, q8, q9⟩ := hSw; go_simp; (try with_reducible rfl))
  try simp only [Act.put, List.setIfInBounds_toArray, List.set_cons_zero, List.set_cons_succ]
  refine wpAnyH_ready (rs := [96]) (by as_aux_lemma => kernel_rfl) (by simp) ?_
  refine (AllReadyH.cons (o := ⟨some 99, .call { callee := .value (.func 39), args := #[(.tmp 98)], argTypes := _ }, _, _, _, some (91, true)⟩) rfl (fun K hK => ?_) AllReadyH.nil)
  go_simp
  go_at_call 39
  refine (HIM.out _ kk).mono ?_
  rintro e wK ⟨d8, c8, rfl, hcv, ho⟩
  have k1 := kk.trans ho
  clear kk
  have kk := k1
  clear k1 ho
  refine hK.out _ _ (HL.out _ kk) (fun hHeld => ?_)
  clear hK K
  try simp only [Act.put, List.setIfInBounds_toArray, List.set_cons_zero, List.set_cons_succ]
  refine wpAnyH_ready (rs := [97]) (by as_aux_lemma => kernel_rfl) (by simp) ?_
  refine (AllReadyH.cons (o := ⟨some 100, .convert _ _ (.tmp 99), _, _, _, some (91, true)⟩) rfl (fun K hK => ?_) AllReadyH.nil)
  go_simp
  refine hK.out _ _ (HL.out _ kk) (fun hHeld => ?_)
  clear hK K
  try simp only [Act.put, List.setIfInBounds_toArray, List.set_cons_zero, List.set_cons_succ]
  refine wpAnyH_take (i := 106) (oi := ⟨some 109, .binOp .eql _ (.tmp 100) (.tmp 108) _, _, _, _, some (91, true)⟩) (v := ?_) rfl (by as_aux_lemma => kernel_rfl) (by as_aux_lemma => kernel_rfl) (by as_aux_lemma => kernel_rfl) (fun _ _ _ h => h) (Or.inl ⟨by rfl, ?hy⟩) hHeld ?_
  case hy => (intro w hSw; obtain ⟨q0, q1, q2, q3, q4, q5, q6, q7, q8, q9⟩ := hSw; go_simp; (try with_reducible rfl))
  try simp only [Act.put, List.setIfInBounds_toArray, List.set_cons_zero, List.set_cons_succ]
  refine wpAnyH_take (i := 107) (oi := ⟨some 110, .pick (.tmp 94) (.tmp 109) (.const _), _, _, _, none⟩) (v := ?_) rfl (by as_aux_lemma => kernel_rfl) (by as_aux_lemma => kernel_rfl) (by as_aux_lemma => kernel_rfl) (fun _ _ _ h => h) (Or.inl ⟨by rfl, ?hy⟩) hHeld ?_
  case hy => (intro w hSw; obtain ⟨q0, q1, q2, q3, q4, q5, q6, q7, q8, q9⟩ := hSw; go_simp; (try with_reducible rfl))
  try simp only [Act.put, List.setIfInBounds_toArray, List.set_cons_zero, List.set_cons_succ]
  refine wpAnyH_take (i := 108) (oi := ⟨some 2, .assign (.tmp 110), _, _, _, none⟩) (v := ?_) rfl (by as_aux_lemma => kernel_rfl) (by as_aux_lemma => kernel_rfl) (by as_aux_lemma => kernel_rfl) (fun _ _ _ h => h) (Or.inl ⟨by rfl, ?hy⟩) hHeld ?_
  case hy => (intro w hSw; obtain ⟨q0, q1, q2, q3, q4, q5, q6, q7, q8, q9⟩ := hSw; go_simp; (try with_reducible rfl))
  try simp only [Act.put, List.setIfInBounds_toArray, List.set_cons_zero, List.set_cons_succ]
  refine wpAnyH_done (by as_aux_lemma => kernel_rfl) ?_ _
  try simp only [List.getElem_toArray, List.getElem_cons_zero, List.getElem_cons_succ]
  go_wp2
  go_ret
  exact ⟨rfl, kk⟩
end
end Go.Proofs.Ytokdpldmoflnkaa
