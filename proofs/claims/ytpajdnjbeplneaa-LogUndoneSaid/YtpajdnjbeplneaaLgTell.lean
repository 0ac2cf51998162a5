/-
  The log: the laws' 'tell' and 'sameInts'; Write, whatever comes.
-/
import Derived.Test.YtpajdnjbeplneaaLgAwake
import Derived.Maps.AppendAt
namespace Go.Proofs.Ytpajdnjbeplneaa
open Go.ChangeShapes Go.WideShapes Go.ChangeAt Go.RowKit Go.Maps
set_option linter.unusedVariables false
abbrev YRow (w : World) (B : Nat) (v : Value) (zs : List Int) : Prop := KRow .u8 5 w B v zs
theorem wpList_append_y {ops : Array Oper} {rest : List Oper} {o : Oper} {a : Act} {w : World} {Q : Exit → Act → World → Prop} (hgd : o.guard = none) (s x : Operand)
    (ho : o.op = .call { callee := .builtin .append, args := #[s, x], argTypes := #[39, 39] }) (B : Nat) (hB : B ≤ w.heap.size) (v : Value) (ns : List Int) (hs : a.eval s = v) (hr : YRow w B v ns)
    (ad : Addr) (m c : Nat) (hx : a.eval x = .slice (some ad) m c) (zs : List Int) (hz : zs.length = m) (hnews : ∀ j, j < m → w.cell? (ad.add j) = some (.int .u8 (gb zs j))) (hbig : ns.length + m < 4000000000000)
    (hK : ∀ v' w2, YRow w2 B v' (ns ++ zs) → Only v.ownBlock.toList w w2 → (∀ k, v'.ownBlock = some k → v.ownBlock = some k ∨ w.heap.size ≤ k) → wpList Try.prog ops Q rest (a.put o.dst v') w2) : wpList Try.prog ops Q (o :: rest) a w := by
  obtain ⟨i0, hi0, hz0, hz1, hz2⟩ := info_parts info_u8
  obtain ⟨v', w', hrun, h2, h3, _, h5⟩ := run_append_own_at (P := Try.prog) (w := w) B 39 o.type 5 i0 _ 1 1 Try.underlying39 hi0 hz0 hz1 hz2 rfl (by decide) v ns.length (u8l ns) hr ad m c (u8l zs) (by rw [u8l_length, hz, Nat.mul_one]) (fun j u hu => by
    have hj : j < m := by
      have := (List.getElem?_eq_some_iff.1 hu).1
      rw [u8l_length] at this
      omega
    rw [hnews j hj, ← hu]
    simp [u8l, gb, List.getD, List.getElem?_eq_getElem (show j < zs.length by omega)]) (u8l_one _) (by unfold maxLen; omega) (by omega) hB
  refine wpList_plain hgd fun K hK' => ?_
  unfold Oper.wp
  simp [execOp, ho, resolve, invoke, builtin, hs, hx, hrun, Result.andThen]
  refine hK' _ _ (hK v' w' ?_ (only_grown' h3) (fun k hk => ?_))
  · unfold YRow KRow
    rw [List.length_append, List.map_append, hz]
    exact h2
  · rcases h5 with h5 | h5
    · exact .inl (h5 ▸ hk)
    · rw [h5] at hk
      injection hk with hk
      exact .inr (Nat.le_of_eq hk)
theorem YRow.sees {w : World} {B : Nat} {v : Value} {ns : List Int} (h : YRow w B v ns) : ∃ A c, v = .slice A ns.length c ∧ Sees w A ns.length ns ∧ (A = none → ns.length = 0) := by
  obtain ⟨A, c, e, hc⟩ := KRow.form h
  refine ⟨A, c, e, ⟨rfl, fun hp => ?_⟩, fun hA => ?_⟩
  · obtain ⟨b, e2, _, hlt, hcell⟩ := hc hp
    exact ⟨b, 0, e2, hlt, fun i hi => by rw [Nat.zero_add]; exact hcell i hi⟩
  · cases hl : ns.length with
    | zero => rfl
    | succ k =>
      obtain ⟨b, e2, _⟩ := hc (by omega)
      rw [hA] at e2; cases e2
/-- What the blocks read, one behind the other. -/
def tellF (G : PG) (plat : List Int) (l : List (Nat × List Int)) (N a sz i : Nat) : List Int := (List.range i).flatMap fun (n : Nat) => if blkB N a sz n then readG G plat l n else []
theorem tellF_succ (G : PG) (plat : List Int) (l : List (Nat × List Int)) (N a sz i : Nat) : tellF G plat l N a sz (i + 1) = tellF G plat l N a sz i ++ if blkB N a sz i then readG G plat l i else [] := by
  unfold tellF
  rw [List.range_succ, List.flatMap_append]
  simp
section
variable {w w' w1 : World} {g gd N a sz : Nat} {k k' : Nat} {F T : List Nat} {S : Option PG} {p : LP}
theorem read_ok (h : LgP w g gd N a sz S p k F) (n : Nat) (hn : n < N) : (readG p.G p.plat p.l n).length = 512 ∧ U8 (readG p.G p.plat p.l n) := by
  obtain ⟨rd, wt, fl, FD, hd⟩ := h.disk
  have hs := hd.secOk hn
  have hg := h.okp.2.2
  unfold readG
  split
  · rename_i q hq
    have := hg q (List.mem_of_find?_eq_some hq)
    exact ⟨this.2.1, this.2.2⟩
  · simpa using hs
theorem tell_len (h : LgP w g gd N a sz S p k F) : ∀ i, i ≤ N → (tellF p.G p.plat p.l N a sz i).length ≤ 512 * i ∧ U8 (tellF p.G p.plat p.l N a sz i)
  | 0, _ => by simp [tellF]; intro x hx; simp at hx
  | i + 1, hi => by
    have ih := tell_len h i (by omega)
    rw [tellF_succ]
    split
    · have := read_ok h i (by omega)
      exact ⟨by rw [List.length_append]; omega, ih.2.append this.2⟩
    · exact ⟨by rw [List.append_nil]; omega, by rw [List.append_nil]; exact ih.2⟩
set_option maxRecDepth 100000 in
set_option maxHeartbeats 2000000 in
theorem tell_is (h : LgP w g gd N a sz S p k F) (hk : k < 4398040000000) : Calls Try.prog 11 #[.pointer (some ⟨g, 0, none⟩), .int .i64 N] w fun e w' => e = .returned (.string (strB (tellF p.G p.plat p.l N a sz N))) ∧ DidP w w' g gd N a sz S p (k + N) F := by
  have HLEN := hide (fun i (hi : i ≤ N) => tell_len h i hi)
  have HRO := hide (fun (n : Nat) (hn : n < N) => read_ok h n hn)
  have hN := h.rng
  have H := hide h
  have HLT := hide h.lt
  clear h
  go_enter Try.func11, Try.ntmps11
  go_wp2
  go_loopw [5, 6, 7, 8] (fun bv iv _ _ wr => ∃ i : Nat, i ≤ N ∧ iv = .int .i64 i ∧ YRow wr w.heap.size bv (tellF p.G p.plat p.l N a sz i) ∧ LgP wr g gd N a sz S p (k + i) F ∧ Only F w wr) (fun _ iv _ _ _ => N - (intOf iv).toNat)
  case atStart => exact ⟨0, Nat.zero_le _, rfl, KRow.nil _ _ _ _, H.out, Only.refl _ _⟩
  case round =>
    obtain ⟨i, hi, rfl, hy, hL, ho⟩ := hrel
    have HY := hide hy
    have HL := hide hL
    have HO := hide ho
    obtain ⟨A, c, rfl, -, -⟩ := YRow.sees hy
    clear hy hL ho
    by_cases hlt : i < N
    · have hltI : (i : Int) < N := by omega
      cases hb : blkB N a sz i with
      | false =>
        have HS := hide (tellF_succ p.G p.plat p.l N a sz i)
        rw [hb, if_neg (by simp), List.append_nil] at HS
        have HR := hide (lg_read_bad HL.out i hb)
        clear hb
        go_wp2_with (go_at_call 19; refine HR.out.mono ?_; rintro e w1 ⟨rfl, ho1⟩; have HO1 := hide ho1; clear ho1)
        go_roundw
        case rel => exact ⟨i + 1, hlt, by go_num, by rw [HS.out]; exact KRow.only HY.out HO1.out (by simp), (HL.out.quiet HO1.out).more (by omega), HO.out.trans (HO1.out.mono (by simp))⟩
        case measure => simp [intOf]; omega
      | true =>
        have HS := hide (tellF_succ p.G p.plat p.l N a sz i)
        rw [hb, if_pos rfl] at HS
        have hz := HRO.out i hlt
        have hln := (HLEN.out i hi).1
        have HR := hide (lg_read HL.out i hb (by omega))
        have HBIG := hide (show (tellF p.G p.plat p.l N a sz i).length + 512 < 4000000000000 by omega)
        have HZ := hide hz
        clear hb hz hln
        go_wp2_with (first | (go_at_call 19; refine HR.out.mono ?_; rintro e w1 ⟨vd, rfl, hf, hT, hL1⟩; obtain ⟨d, cc, r, rfl, hd, hbd, -⟩ := hf; have hz1 := HZ.out.1; rw [hz1]; have HB := hide hbd; have HT1 := hide hT; have HL1 := hide hL1; have HOW := hide (show ∀ q, (Value.slice A (tellF p.G p.plat p.l N a sz i).length c).ownBlock = some q → w.heap.size ≤ q ∧ q ∉ F from fun q hq => ⟨(KRow.at_ HY.out hq).1, fun hm => by have h1 := (KRow.at_ HY.out hq).1; have h2 := HLT.out q hm; omega⟩); have HY1 := hide (show YRow w1 w.heap.size (.slice A (tellF p.G p.plat p.l N a sz i).length c) (tellF p.G p.plat p.l N a sz i) from KRow.only HY.out hT.1 (fun q hq => (HOW.out q hq).2)); have HS1 := hide (show w.heap.size ≤ w1.heap.size from Nat.le_trans HO.out.size hT.1.size); clear hd hbd hz1 hT hL1) | (at_builtin; refine wpList_append_y rfl _ _ rfl w.heap.size HS1.out (.slice A (tellF p.G p.plat p.l N a sz i).length c) (tellF p.G p.plat p.l N a sz i) rfl HY1.out ⟨d, 0, none⟩ 512 cc rfl (readG p.G p.plat p.l i) HZ.out.1 (fun j hj => by rw [add_at, Nat.zero_add, HB.out.cell]; exact u8l_get _ _ j (by rw [HZ.out.1]; exact hj)) HBIG.out ?_; intro v2 w2 y2 o2 n2; obtain ⟨A2, c2, rfl, -, -⟩ := YRow.sees y2; have HY2 := hide y2; have HO2 := hide o2; clear y2 o2 n2))
        have hL2 := HL1.out.only HO2.out (fun q hq hm => (HOW.out q (mem_own.1 hm)).2 hq)
        have HL2 := hide hL2
        clear hL2
        go_roundw
        case rel =>
          refine ⟨i + 1, hlt, by go_num, by rw [HS.out]; have hy2 := HY2.out; rw [List.length_append] at hy2; exact hy2, HL2.out.more (by omega), ?_⟩
          exact (HO.out.trans HT1.out.1).trans' HO2.out (fun q hq hm => absurd (HOW.out q (mem_own.1 hm)).1 (by omega))
        case measure => simp [intOf]; omega
    · obtain rfl : i = N := by omega
      obtain ⟨A3, c3, e3, hs, hA⟩ := YRow.sees HY.out
      injection e3 with e1 e2 e3
      subst e1
      have hcv := conv_bytes wr A _ c3 _ hs (fun e => hA e) (HLEN.out i hi).2
      clear hs hA
      go_wp2
      go_ret
      exact ⟨rfl, F, ⟨HO.out, fun q hq => .inl hq⟩, HL.out⟩
/-- A write, whatever comes. -/
def writeP (N a sz : Nat) (p : LP) (n : Int) (zs : List Int) : LP := if blkB N a sz n = true ∧ (n ∈ p.G.map (·.1) ∨ p.G.length + 1 < sz) then { p with G := putG p.G n zs } else p
theorem lg_write_any (h : LgP w g gd N a sz S p k F) (hst : p.st = 0) (n : Int) (d o c : Nat) (zs : List Int) (hz : zs.length = 512) (hu : U8 zs) (hc : ∀ i, i < 512 → w.cell? ⟨d, o + i, none⟩ = some (.int .u8 (gb zs i))) (hdl : d < w.heap.size) :
    Calls Try.prog 9 #[.pointer (some ⟨g, 0, none⟩), .int .i64 n, .slice (some ⟨d, o, none⟩) 512 c] w fun e w' => (∃ x : Int, e = .returned (.int .i64 x)) ∧ DidP w w' g gd N a sz S (writeP N a sz p n zs) k F := by
  unfold writeP
  cases hb : blkB N a sz n with
  | false =>
    rw [if_neg (by simp)]
    exact (lg_write_arg h n _ _ _ (.inl hb)).mono fun e w' ⟨h1, h2⟩ => ⟨⟨1, h1⟩, h.same h2⟩
  | true =>
    by_cases hf : n ∈ p.G.map (·.1) ∨ p.G.length + 1 < sz
    · rw [if_pos ⟨rfl, hf⟩]
      exact (lg_write h n d o c zs hb (by rw [hst]; rfl) hf hz hu hc hdl).mono fun e w' ⟨h1, h2⟩ => ⟨⟨0, h1⟩, h2⟩
    · rw [if_neg (fun e => hf e.2)]
      have hl := h.okp.1
      have h1 : n ∉ p.G.map (·.1) := fun e => hf (.inl e)
      have h2 : p.G.length + 1 = sz := by
        have : ¬ p.G.length + 1 < sz := fun e => hf (.inr e)
        omega
      exact (lg_write_full h n _ _ hb (by rw [hst]; rfl) h1 h2).mono fun e w' ⟨h1, h2⟩ => ⟨⟨2, h1⟩, h.same h2⟩
theorem writeP_st (N a sz : Nat) (p : LP) (n : Int) (zs : List Int) : (writeP N a sz p n zs).st = p.st ∧ (writeP N a sz p n zs).nx = p.nx ∧ (writeP N a sz p n zs).gen = p.gen ∧ (writeP N a sz p n zs).plat = p.plat ∧ (writeP N a sz p n zs).l = p.l := by
  unfold writeP
  split <;> simp
end
set_option maxRecDepth 100000 in
theorem same16_yes {w : World} {v v' : Value} {ns : List Int} (h : IRow w v ns) (h' : IRow w v' ns) (hn : ns.length ≤ 100000) : Calls Try.prog 16 #[v, v'] w fun e w' => e = .returned (.bool true) ∧ Only [] w w' := by
  obtain ⟨A, c, rfl, hA, _, _, hc⟩ := h.form2
  obtain ⟨A', c', rfl, hA', _, _, hc'⟩ := h'.form2
  have H := hide (And.intro hA hc)
  have H' := hide (And.intro hA' hc')
  have hb : ((ns.length : Int) != (ns.length : Int)) = false := by simp
  clear h h' hA hc hA' hc'
  go_enter Try.func16, Try.ntmps16
  go_wp2
  go_loopw [13, 5] (fun i _ wr => ∃ k : Nat, k ≤ ns.length ∧ i = .int .i64 k ∧ Only [] w wr) (fun i _ _ => ns.length - (intOf i).toNat)
  case atStart => exact ⟨0, Nat.zero_le _, rfl, Only.refl _ _⟩
  case round =>
    obtain ⟨k, hk, rfl, ho⟩ := hrel
    have HO := hide ho
    by_cases hlt : k < ns.length
    · obtain ⟨ad, rfl⟩ : ∃ ad, A = some ad := by
        rcases A with _ | ad
        · have := (H.out.1 rfl).1; omega
        · exact ⟨ad, rfl⟩
      obtain ⟨ad', rfl⟩ : ∃ ad, A' = some ad := by
        rcases A' with _ | ad
        · have := (H'.out.1 rfl).1; omega
        · exact ⟨ad, rfl⟩
      obtain ⟨b, rfl, hbl, h1⟩ := H.out.2 _ rfl
      obtain ⟨b', rfl, hbl', h2⟩ := H'.out.2 _ rfl
      have c1 := (ho.cell hbl (by simp)).trans (h1 k (.int .i64 (gb ns k)) (by simp [i64l, gb, List.getD, hlt]))
      have c2 := (ho.cell hbl' (by simp)).trans (h2 k (.int .i64 (gb ns k)) (by simp [i64l, gb, List.getD, hlt]))
      have hlt2 : (k : Int) < ns.length := by omega
      clear ho h1 h2 hbl hbl'
      generalize gb ns k = x at c1 c2
      go_wp2
      go_quiet (fail)
      go_wp2
      go_roundw
      case rel => exact ⟨k + 1, hlt, by go_num, HO.out.drewN _⟩
      case measure => simp [intOf]; omega
    · obtain rfl : k = ns.length := by omega
      clear ho
      go_wp2
      go_ret
      exact ⟨rfl, HO.out⟩
end Go.Proofs.Ytpajdnjbeplneaa
