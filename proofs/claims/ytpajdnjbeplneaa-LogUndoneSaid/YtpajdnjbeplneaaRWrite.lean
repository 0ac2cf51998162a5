/-
  The document's own disk: Write. Also: append of sectors, as a law for the walk.
-/
import Derived.Test.YtpajdnjbeplneaaRRead
import Derived.Deep.AppendLies
import Derived.Laws.AppendOwnNone
namespace Go.Proofs.Ytpajdnjbeplneaa
open Go.ChangeShapes Go.WideShapes Go.ChangeAt Go.RowKit
set_option linter.unusedVariables false

theorem wp_append_secs {o : Oper} {a : Act} {w : World} {K : Act → World → Prop} {Q : Exit → Act → World → Prop} (s x : Operand)
    (ho : o.op = .call { callee := .builtin .append, args := #[s, x], argTypes := #[75, 75] }) (v : Value) (n : Nat) (xs : List Value) (hs : a.eval s = v) (hr : w.ownsRow 0 112 2 v n xs)
    (A : Option Addr) (m c : Nat) (hx : a.eval x = .slice A m c) (hA : A = none → m = 0 ∧ c = 0) (zs : List Value) (hz : zs.length = m * 2) (hone : ∀ u ∈ zs, u.oneCell' = true) (hnews : ∀ ad, A = some ad → ∀ j u, zs[j]? = some u → w.cell? (ad.add j) = some u) (hbig : n + m < 4398046511104)
    (hK : ∀ v' w2, w2.ownsRow 0 112 2 v' (n + m) (xs ++ zs) → Only v.ownBlock.toList w w2 → (∀ k, v'.ownBlock = some k → v.ownBlock = some k ∨ w.heap.size ≤ k) → K (a.put o.dst v') w2) : Oper.wp Try.prog o a w K Q := by
  obtain ⟨i0, hi0, hz0, hz1, hz2⟩ := info_parts info_sec
  rcases A with _ | ad
  · obtain ⟨rfl, rfl⟩ := hA rfl
    have hzs : zs = [] := List.eq_nil_of_length_eq_zero (by omega)
    subst hzs
    have hrun := run_append_owned_none (P := Try.prog) (w := w) 0 75 o.type 112 i0 2 Try.underlying75 hi0 v n xs hr
    unfold Oper.wp
    simp [execOp, ho, resolve, invoke, builtin, hs, hx, hrun, Result.andThen]
    exact hK v w (by simpa using hr) (Only.refl _ _) (fun k hk => .inl hk)
  · obtain ⟨v', w', hrun, h2, h3, _, h5⟩ := run_append_own_at (P := Try.prog) w 0 75 o.type 112 i0 _ 2 32 Try.underlying75 hi0 hz0 hz1 hz2 rfl (by decide) v n xs hr ad m c zs hz (hnews ad rfl) hone (by unfold maxLen; omega) (by omega) (Nat.zero_le _)
    unfold Oper.wp
    simp [execOp, ho, resolve, invoke, builtin, hs, hx, hrun, Result.andThen]
    refine hK v' w' h2 (only_grown h3) (fun k hk => ?_)
    rcases h5 with h5 | h5
    · exact .inl (h5 ▸ hk)
    · rw [h5] at hk
      injection hk with hk
      exact .inr (Nat.le_of_eq hk)
theorem wpList_append_secs {ops : Array Oper} {rest : List Oper} {o : Oper} {a : Act} {w : World} {Q : Exit → Act → World → Prop} (hgd : o.guard = none) (s x : Operand)
    (ho : o.op = .call { callee := .builtin .append, args := #[s, x], argTypes := #[75, 75] }) (v : Value) (n : Nat) (xs : List Value) (hs : a.eval s = v) (hr : w.ownsRow 0 112 2 v n xs)
    (A : Option Addr) (m c : Nat) (hx : a.eval x = .slice A m c) (hA : A = none → m = 0 ∧ c = 0) (zs : List Value) (hz : zs.length = m * 2) (hone : ∀ u ∈ zs, u.oneCell' = true) (hnews : ∀ ad, A = some ad → ∀ j u, zs[j]? = some u → w.cell? (ad.add j) = some u) (hbig : n + m < 4398046511104)
    (hK : ∀ v' w2, w2.ownsRow 0 112 2 v' (n + m) (xs ++ zs) → Only v.ownBlock.toList w w2 → (∀ k, v'.ownBlock = some k → v.ownBlock = some k ∨ w.heap.size ≤ k) → wpList Try.prog ops Q rest (a.put o.dst v') w2) : wpList Try.prog ops Q (o :: rest) a w :=
  wpList_plain hgd fun _ hK' => wp_append_secs s x ho v n xs hs hr A m c hx hA zs hz hone hnews hbig fun v' w2 h1 h2 h3 => hK' _ _ (hK v' w2 h1 h2 h3)
theorem secs_empty {w : World} {H : Nat} (hb : Blk w H 112 #[]) : w.ownsRow 0 112 2 (.slice (some ⟨H, 0, none⟩) 0 0) 0 [] :=
  ⟨by simp, .inr ⟨H, 0, #[], rfl, Nat.zero_le _, hb, Nat.le_refl _, Nat.zero_le _, rfl, by simp⟩⟩
/-- What a write that is done leaves. -/
def RWrote (w w' : World) (g pb pc : Nat) (pr : List Value) (N : Nat) (plat : List Int) (ws : List WR) (left : Int) (stops : Bool) (rd wt fl : Int) (n : Nat) (zs : List Int) : Prop :=
  ∃ pv' x, Only [g] w w' ∧ (∀ k, pv'.ownBlock = some k → w.heap.size ≤ k) ∧ w.heap.size ≤ x.blk ∧ x.sec = n ∧ x.data = zs ∧ IsR2 w' g pb pc pr pv' N plat (ws ++ [x]) left stops rd wt fl

section
variable {w : World} {g pb pc : Nat} {pr : List Value} {pv : Value} {N : Nat} {plat : List Int} {ws : List WR} {left : Int} {stops : Bool} {rd wt fl : Int} (h : IsR2 w g pb pc pr pv N plat ws left stops rd wt fl)
include h

theorem rwrite_sector (n : Int) (A : Option Addr) (m c : Nat) (hn : n < 0 ∨ N ≤ n) : Calls Try.prog 59 #[.pointer (some ⟨g, 0, none⟩), .int .i64 n, .slice A m c] w fun e w' => e = .returned (.int .i64 20) ∧ w = w' := by
  have hc0 := h.c0
  clear h
  by_cases h0 : n < 0
  · clear hn
    go_enter Try.func59, Try.ntmps59
    go_wp2
    go_ret
    exact ⟨rfl, rfl⟩
  · have h1 : N ≤ n := by omega
    clear hn
    go_enter Try.func59, Try.ntmps59
    go_wp2
    go_ret
    exact ⟨rfl, rfl⟩

theorem rwrite_len (n : Int) (A : Option Addr) (m c : Nat) (h0 : 0 ≤ n) (h1 : n < N) (hm : m ≠ 512) : Calls Try.prog 59 #[.pointer (some ⟨g, 0, none⟩), .int .i64 n, .slice A m c] w fun e w' => e = .returned (.int .i64 1) ∧ w = w' := by
  have hc0 := h.c0
  have h5 : ((m : Int) != 512) = true := by simp only [bne_iff_ne]; omega
  clear h hm
  go_enter Try.func59, Try.ntmps59
  go_wp2
  go_ret
  exact ⟨rfl, rfl⟩

theorem rwrite_off (n : Int) (A : Option Addr) (c : Nat) (h0 : 0 ≤ n) (h1 : n < N) (hs : stops = true) (hl : left = 0) : Calls Try.prog 59 #[.pointer (some ⟨g, 0, none⟩), .int .i64 n, .slice A 512 c] w fun e w' => e = .returned (.int .i64 0) ∧ Only [] w w' := by
  have hc0 := h.c0
  have HS := hide (rdoes_off h hs hl)
  clear h hl hs
  go_enter Try.func59, Try.ntmps59
  go_wp2_with (go_at_call 79; refine HS.out.mono ?_; rintro e w' ⟨rfl, ho⟩; have HO := hide ho; clear ho)
  go_ret
  exact ⟨rfl, HO.out⟩

/-- does where something is done. -/
theorem rdoes_yes (hl : stops = true → 0 < left) (hm : left ≤ 9223372036854775807) : Calls Try.prog 79 #[.pointer (some ⟨g, 0, none⟩)] w fun e w' => e = .returned (.bool true) ∧ Only [g] w w' ∧ IsR2 w' g pb pc pr pv N plat ws (if stops then left - 1 else left) stops rd wt fl := by
  cases stops
  · exact (rdoes_free h rfl).mono fun e w' ⟨he, hw⟩ => ⟨he, hw.mono (by simp), h.quiet hw⟩
  · exact rdoes_one h rfl (hl rfl) hm

omit h in
theorem rwrite_end {w1 w7 : World} {g pb pc : Nat} {pr : List Value} {pv : Value} {N : Nat} {plat : List Int} {ws : List WR} {left : Int} {stops : Bool} {rd wt fl : Int} (hd : IsR2 w1 g pb pc pr pv N plat ws left stops rd wt fl) (x : WR) (hxB : w1.heap.size ≤ x.blk) (o7 : Only [] w1 w7) (x7 : x.ok w7 N) (pv' : Value)
    (hown : w7.ownsRow 0 112 2 pv' (ws.length + 1) (ws.flatMap WR.cells ++ x.cells)) (hat : ∀ k, pv'.ownBlock = some k → w1.heap.size ≤ k) (hf : ws.length < 4398046511000) :
    Only [g] w1 (w7.setCell ⟨g, 2, none⟩ pv') ∧ IsR2 (w7.setCell ⟨g, 2, none⟩ pv') g pb pc pr pv' N plat (ws ++ [x]) left stops rd wt fl := by
  have hl := hd.str.lt
  have hpl := hd.row.lt
  have oset : Only [g] w7 (w7.setCell ⟨g, 2, none⟩ pv') := (Only.refl _ _).setCell _ (by simp)
  have hlen : (ws ++ [x]).length = ws.length + 1 := by simp
  refine ⟨(o7.mono (by simp)).trans oset, ?_⟩
  have s7 := ((hd.str.only o7 (by simp)).set_ 2 pv')
  refine ⟨s7, (hd.row.only o7 (by simp)).only oset (by simpa using hd.gp.symm), hd.len, hd.cap, hd.pos, hd.big, hd.u8, ?_, ?_, ?_, by rw [hlen]; omega⟩
  · rw [hlen, List.flatMap_append]
    refine ownsRow_only (by simpa using hown) oset (fun k hk => ?_)
    have := hat k hk
    simp
    omega
  · intro y hy
    rcases List.mem_append.1 hy with hy | hy
    · exact ((hd.wok y hy).only o7 (by simp)).only oset (by simpa using ((hd.str.ne_ (hd.wok y hy).row (by decide))).symm)
    · simp at hy
      subst hy
      exact x7.only oset (by simp; omega)
  · intro y hy
    rcases List.mem_append.1 hy with hy | hy
    · exact hd.far y hy
    · simp at hy
      subst hy
      omega

set_option maxRecDepth 100000 in
set_option maxHeartbeats 1000000 in
theorem rwrite_do (n : Nat) (A : Option Addr) (c : Nat) (zs : List Int) (h1 : n < N) (hl : stops = true → 0 < left) (hm : left ≤ 9223372036854775807) (hs : Sees w A 512 zs) (hu : U8 zs) (hA : ∀ b, A = some b → b.block ≠ g) (hw0 : 0 ≤ wt) (hw1 : wt < 9223372036854775807) (hf : ws.length < 4398046511000) :
    Calls Try.prog 59 #[.pointer (some ⟨g, 0, none⟩), .int .i64 n, .slice A 512 c] w fun e w' => e = .returned (.int .i64 0) ∧ RWrote w w' g pb pc pr N plat ws (if stops then left - 1 else left) stops rd (wt + 1) fl n zs := by
  have hc0 := h.c0
  have HS := rdoes_yes h hl hm
  generalize (if stops then left - 1 else left) = lf at HS ⊢
  have HS := hide HS
  have HN := hide (show A = none → 512 = 0 ∧ c = 0 from fun e => by obtain ⟨b, o, e2, _⟩ := hs.2 (by omega); rw [e] at e2; cases e2)
  have HSE := hide (fun w2 (ho : Only [g] w w2) => hs.only ho (fun _ b hb _ => by simpa using hA b hb))
  have HF := hide hf
  have HL := hide hs.1
  clear h hf hm hs hl hA
  go_enter Try.func59, Try.ntmps59
  go_wp2_with fail
  refine HS.out.mono ?_
  rintro e w1 ⟨rfl, ho1, hd1⟩
  have hc6 := hd1.c6
  have hf6 := hd1.fr 6
  have ho2 : Only [g] w1 (w1.setCell ⟨g, 6, none⟩ (.int .i64 (wt + 1))) := (Only.refl _ _).setCell _ (by simp)
  have HD2 := hide (hd1.restr (wt' := wt + 1) ho2 (hd1.str.set_ 6 _))
  have HO2 := hide (ho1.trans ho2)
  have HZ := hide (show (w1.setCell ⟨g, 6, none⟩ (.int .i64 (wt + 1))).heap.size = w1.heap.size by simp)
  have HG := hide (show g < w1.heap.size from hd1.str.lt)
  obtain ⟨A2, cap2, rfl, hA2, hA3⟩ := sec_form HD2.out.own
  have hca : ∀ o, ((w1.setCell ⟨g, 6, none⟩ (.int .i64 (wt + 1))).alloc o).cell? ⟨g, 2, none⟩ = some (.slice A2 ws.length cap2) := fun o => ((HD2.out.str.alloc o).cell 2).trans rfl
  have HA2 := hide hA2
  have HA3 := hide (fun (o : Obj) (ad : Addr) (e : A2 = some ad) (j : Nat) (u : Value) (hj : (ws.flatMap WR.cells)[j]? = some u) => show ((w1.setCell ⟨g, 6, none⟩ (.int .i64 (wt + 1))).alloc o).cell? (ad.add j) = some u from by
    obtain ⟨q, rfl, _, _, hc, _⟩ := hA3 ad e
    rw [add_at, Nat.zero_add]
    exact Lib.cell?_alloc_some _ (hc j u hj))
  have HB2 := hide (show Blk ((w1.setCell ⟨g, 6, none⟩ (.int .i64 (wt + 1))).alloc (.cells #[] 112)) w1.heap.size 112 #[] from by
    have hb := Blk.new (w1.setCell ⟨g, 6, none⟩ (.int .i64 (wt + 1))) 112 #[]
    rwa [show (w1.setCell ⟨g, 6, none⟩ (.int .i64 (wt + 1))).heap.size = w1.heap.size by simp] at hb)
  clear ho1 hd1 ho2 HS hA2 hA3
  go_wp2_with (at_builtin; refine wpList_append_secs rfl _ _ rfl _ 0 [] rfl (secs_empty HB2.out) A2 ws.length cap2 rfl HA2.out (ws.flatMap WR.cells) ?qa (cells_one ws) (HA3.out _) ?qb ?_)
  case qa => have := HD2.out.own.1; omega
  case qb => have := HF.out; omega
  intro v3 w3 hown3 ho3 hat3
  have HOW3 := hide hown3
  have HO3 := hide (show Only [] (w1.setCell ⟨g, 6, none⟩ (.int .i64 (wt + 1))) w3 from ((Only.refl [] _).alloc (.cells #[] 112)).trans' ho3 (fun q hq hm => by have := HZ.out; simp [Value.ownBlock] at hm; omega))
  have HV3 := hide (show ∀ k, v3.ownBlock = some k → w1.heap.size ≤ k from fun k hk => by
    rcases hat3 k hk with e | e
    · simp [Value.ownBlock] at e; omega
    · omega)
  clear hown3 ho3 hat3 hc6 hf6 hca
  go_wp2_with (first | (at_builtin; refine wpList_append_new rfl _ _ rfl _ w3.heap.size w3.heap.size rfl (Nat.le_refl _) (Blk.new w3 5 #[]) A 512 c rfl HN.out zs (HSE.out _ ((HO2.out.trans (HO3.out.mono (by simp))).alloc _)) (by omega) ?_; intro v5 w5 hf5 ho5; obtain ⟨xb, xc, xr, rfl, hxB, hxk, hxl⟩ := hf5; rw [HL.out] at hxl ⊢; have HXB := hide hxB; have HXK := hide hxk; have HXL := hide hxl; have HO5 := hide (show Only [] w3 w5 from ((Only.refl [] w3).alloc (.cells #[] 5)).trans' ho5 (fun q hq hm => by simp at hm; omega)); clear hxB hxk hxl ho5) | (at_builtin; refine wpList_append_secs rfl _ _ rfl v3 ws.length (ws.flatMap WR.cells) rfl (ownsRow_only HOW3.out (HO5.out.alloc _) (by simp)) (some ⟨w5.heap.size, 0, none⟩) 1 1 rfl (by simp) [.int .i64 n, .slice (some ⟨xb, 0, none⟩) 512 xc] rfl ?qd ?qe ?qf ?_))
  case qd =>
    intro u hu
    simp at hu
    rcases hu with rfl | rfl <;> rfl
  case qe =>
    rintro ad ⟨⟩ j u hj
    rw [add_at, Nat.zero_add]
    have hb := Blk.new w5 112 #[.int .i64 n, .slice (some ⟨xb, 0, none⟩) 512 xc]
    rw [hb.cell]
    simpa using hj
  case qf => have := HF.out; omega
  intro v7 w7 hown7 ho7 hat7
  obtain ⟨A7, n7, c7, rfl⟩ : ∃ A n c, v7 = .slice A n c := by
    rcases hown7.2 with ⟨e, _⟩ | ⟨b, cp, cur, e, _⟩
    · exact ⟨_, _, _, e⟩
    · exact ⟨_, _, _, e⟩
  have HOW7 := hide hown7
  have HO7 := hide (show Only [] (w1.setCell ⟨g, 6, none⟩ (.int .i64 (wt + 1))) w7 from ((HO3.out.trans HO5.out).alloc _).trans' ho7 (fun q hq hm => by
    have hm' : v3.ownBlock = some q := by simpa using hm
    have := HV3.out q hm'
    have := HZ.out
    omega))
  have HB7 := hide (show Blk w7 xb 5 (u8l zs ++ xr).toArray from (HXK.out.alloc _).only ho7 (fun hm => by
    have hm' : v3.ownBlock = some xb := by simpa using hm
    rcases HOW3.out.2 with ⟨e, _⟩ | ⟨b, cp, cur, e, _, hg, _⟩
    · rw [e] at hm'; cases hm'
    · rw [e] at hm'
      simp only [Value.ownBlock, Option.some.injEq] at hm'
      subst hm'
      have := Blk.lt (t := 112) hg
      have := HXB.out
      omega))
  have HV7 := hide (show ∀ k, (Value.slice A7 n7 c7).ownBlock = some k → w1.heap.size ≤ k from fun k hk => by
    rcases hat7 k hk with e | e
    · exact HV3.out k e
    · have := HO3.out.size; have := HO5.out.size; have := HZ.out; omega)
  have hc7 : w7.cell? ⟨g, 2, none⟩ = some (.slice A2 ws.length cap2) := ((HD2.out.str.only HO7.out (by simp)).cell 2).trans rfl
  have hf7 : w7.frozen? ⟨g, 2, none⟩ = false := (HD2.out.str.only HO7.out (by simp)).frozen 2
  clear hown7 ho7 hat7
  go_wp2
  go_ret
  have hxb : w1.heap.size ≤ xb := by have := HO3.out.size; have := HXB.out; have := HZ.out; omega
  have HE := rwrite_end HD2.out ⟨n, xb, xr, zs⟩ (by rw [HZ.out]; exact hxb) HO7.out ⟨HB7.out, HL.out, h1, hu⟩ (.slice A7 n7 c7) (by have := HXL.out; subst this; exact HOW7.out) (fun k hk => by rw [HZ.out]; exact HV7.out k hk) HF.out
  have hw1 : w.heap.size ≤ w1.heap.size := by have := HO2.out.size; rwa [HZ.out] at this
  exact ⟨rfl, _, ⟨n, xb, xr, zs⟩, HO2.out.trans HE.1, fun k hk => Nat.le_trans hw1 (HV7.out k hk), Nat.le_trans hw1 hxb, rfl, rfl, HE.2⟩
end
end Go.Proofs.Ytpajdnjbeplneaa
