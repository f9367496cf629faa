import Derived.Test.YtljgpgmaceackaaQX16
import Derived.Test.YtljgpgmaceackaaQX17
import Derived.Test.YtljgpgmaceackaaQX18
import Derived.Deep.RegionHeld3
/- The package's exprFault: the first error of an expression. -/
namespace Go.Proofs.Ytljgpgmaceackaa
open Go.RowKit Go.Maps Mth S3

/-- The types in annotations are flat. -/
def flE : Nat → Ex → Bool
  | 0, _ => false
  | n + 1, T => (T.k != 9 || flatT T.t) && (chN T).all (flE n)
theorem flE_open {n : Nat} {T : Ex} (h : flE (n + 1) T = true) : (T.k = 9 → flatT T.t = true) ∧ ∀ U ∈ chN T, flE n U = true := by
  simp only [flE, Bool.and_eq_true, Bool.or_eq_true, List.all_eq_true] at h
  refine ⟨fun e => ?_, h.2⟩
  rcases h.1 with h1 | h1
  · rw [e] at h1; simp at h1
  · exact h1
theorem step_pushO {w : World} {ops : Array Oper} {op : Oper} {a : Act} {K : Act → World → Prop} {Q : Exit → Act → World → Prop} {E' : Prop} (hgd : op.guard = none) (s x : Operand)
    (ho : op.op = .call { callee := .builtin .append, args := #[s, x], argTypes := #[25, 25] })
    (o : Option Nat) (v : Value) (l : List ByteArray) (hs : a.eval s = v) (hrow : NmO w o v l) (lv : Value) (hx : a.eval x = lv) (news : List ByteArray) (S' : Nat → Prop) (hl : SlG StrE w S' news lv)
    (hb : l.length + news.length ≤ 1000000) (N : Nat) (hN : N = (l ++ news).length) (W : World) (hgo : W.grownBy w o)
    (hK : ∀ (o' : Option Nat) (a' : Option Addr) (c' : Nat) (w' : World), Pushed w w' o o' v (.slice a' N c') l (l ++ news) → W.grownBy w o → K (a.put op.dst (.slice a' N c')) w') :
    if Region.wanted op (yielded ops a.tmps) = true then Oper.wp Try.prog op a w K Q else E' :=
  by subst hN; exact step_of_list hgd fun _ hQ => wpList_pushO hgd s x ho o v l hs hrow lv hx news S' hl hb fun o' a' c' w' h => hQ _ _ (hK o' a' c' w' h hgo)
theorem box_push {t : TypeId} {w w' : World} {o o' : Option Nat} {v v' : Value} {l m : List ByteArray} {b K : Nat} {c : List Value} (h : BoxC t w b c) (hp : Pushed w w' o o' v v' l m) (ho : ∀ g, o = some g → g < K) (hb : K ≤ b) : BoxC t w' b c ∧ o' ≠ some b := by
  refine ⟨h.grown hp.low (fun e => by have := ho _ e.symm; omega), fun e => ?_⟩
  rcases hp.new _ e with h1 | h1
  · have := ho _ h1; omega
  · have := h.lt; omega
/-- The loop over the children. -/
structure LpX (w : World) (o : Option Nat) (S' : Nat → Prop) (c : List Value) (nv : Value) (ns : List ByteArray) (cv : Value) (cs : List Ex) (wr : World) : Prop where
  box : BoxC 36 wr w.heap.size c
  res : BoxC 45 wr (w.heap.size + 1) [.int .i64 0, .int .i64 0]
  nms : NmO wr o nv ns
  low : w.grownBy wr o
  row : RowG ExE wr (w.heap.size + 2) S' cv cs
theorem LpX.step {w : World} {o : Option Nat} {S' : Nat → Prop} {c : List Value} {nv : Value} {ns : List ByteArray} {cv : Value} {cs : List Ex} {wr W : World} (H : LpX w o S' c nv ns cv cs wr) (ho : ∀ g, o = some g → g < w.heap.size) (hS : ∀ b, S' b → some b ≠ o) (hg : wr.grownBy W o) (hn : NmO W o nv ns) : LpX w o S' c nv ns cv cs W := by
  obtain ⟨h1, h2, h3, h4, h5⟩ := H
  refine ⟨h1.grown hg (fun e => by have := ho _ e.symm; omega), h2.grown hg (fun e => by have := ho _ e.symm; omega), hn, grown_trans h4 hg, h5.kept hg ?_ hS⟩
  cases ho' : o with
  | none => cases cv.ownBlock with
    | none => exact .inl rfl
    | some _ => exact .inr (by simp)
  | some g => exact h5.off (by have := ho g ho'; omega)
theorem LpX.lift {w : World} {o : Option Nat} {S' : Nat → Prop} {c : List Value} {nv : Value} {ns : List ByteArray} {cv : Value} {cs : List Ex} {wr W : World} (H : LpX w o S' c nv ns cv cs wr) (ho : ∀ g, o = some g → g < w.heap.size) (hS : ∀ b, S' b → some b ≠ o) (hb : Below wr.heap.size wr W) : LpX w o S' c nv ns cv cs W := H.step ho hS (grown_of_below hb o) (H.nms.lift hb)
theorem LpX.fin {w : World} {o : Option Nat} {S' : Nat → Prop} {c : List Value} {nv : Value} {ns : List ByteArray} {cv : Value} {cs : List Ex} {W w6 : World} {b : Nat} {c0 c1 : Value} (H : LpX w o S' c nv ns cv cs W) (ho : ∀ g, o = some g → g < w.heap.size) (hS : ∀ b, S' b → some b ≠ o) (hn : NmO w6 o nv ns) (hg : W.grownBy w6 o) (hB : BoxC 45 w6 b [c0, c1]) (hk : W.heap.size ≤ b) (v0 v1 : Value) :
    LpX w o S' c nv ns cv cs ((w6.setCell ⟨b, 0, none⟩ v0).setCell ⟨b, 1, none⟩ v1) ∧ BoxC 45 ((w6.setCell ⟨b, 0, none⟩ v0).setCell ⟨b, 1, none⟩ v1) b [v0, v1] ∧ W.grownBy ((w6.setCell ⟨b, 0, none⟩ v0).setCell ⟨b, 1, none⟩ v1) o ∧ NmO ((w6.setCell ⟨b, 0, none⟩ v0).setCell ⟨b, 1, none⟩ v1) o nv ns := by
  obtain ⟨h1, h2⟩ := set2 hB v0 v1
  have h3 := hg.andThen h2 fun j e => by have := Option.some.inj e; exact .inl (by omega)
  have h4 := NmO.on H.nms hn hg h2 hk
  exact ⟨H.step ho hS h3 h4, h1, h3, h4⟩
set_option maxRecDepth 100000 in
set_option maxHeartbeats 16000000 in
theorem exprFault_any (ds : List Dat) (hds : Sized ds) : ∀ (n : Nat) (T : Ex) (m : Nat), fitV n m T = true → flE n T = true → ∀ (ns : List ByteArray), ns.length + m ≤ 1000000 → ∀ (o : Option Nat) (dv nv : Value) (S S' : Nat → Prop) (c : List Value) (w : World),
    SlG DatE w S ds dv → (∀ b, S b → some b ≠ o) → NmO w o nv ns → RepE w S' T c → (∀ b, S' b → some b ≠ o) →
    Calls Try.prog 23 #[dv, nv, .agg c.toArray] w fun e w' => e = .returned (ftV (scE ds n ns T)) ∧ NmO w' o nv ns ∧ w.grownBy w' o := by
  intro n
  induction n with
  | zero => intro T m h; cases h
  | succ n ih =>
    intro T m hfit hfl ns hns o dv nv S S' c w hd hSo hnm h hSo'
    have hfo := fitV_open hfit
    have HFo := Lib.hid hfo
    have HFl := Lib.hid (flE_open hfl)
    have HIh := Lib.hid ih
    have HNm := Lib.hid hnm
    have HOl : Hid (∀ g, o = some g → g < w.heap.size) := hnm.lt
    have HSo' := Lib.hid hSo'
    have HD := Lib.hid hd.bound
    have HRp := Lib.hid h
    have HNo : Hid (∀ V, Below w.heap.size w V → Calls Try.prog 40 #[dv, nv, .agg c.toArray] V fun e w' => e = .returned (ftV (nodS ds ns T)) ∧ Below V.heap.size V w') := fun V hV => nodeFault_any ds hds ns T hfo.arms HFl.out.1 dv nv S S' (fun _ => True) c V (hd.lift' hV) (hnm.slG.lift' hV) (h.lift hV)
    have HCh : Hid (∀ V, Below w.heap.size w V → w.heap.size + 2 ≤ V.heap.size → Calls Try.prog 33 #[.agg c.toArray] V fun e w' => ∃ a cp, e = .returned (.slice a (chN T).length cp) ∧ RowG ExE w' (w.heap.size + 2) S' (.slice a (chN T).length cp) (chN T) ∧ Below V.heap.size V w') := fun V hV hl => (pkChildren_any T hfo.kids hfo.arms S' c V (h.lift hV)).mono fun e w' ⟨a, cp, h1, h2, h3⟩ => ⟨a, cp, h1, rowG_weak (h2.imp (fun b hb => hb.1)) (by omega), h3⟩
    obtain ⟨ka, kc, aa, ac, tk, tn, ti, th, ta, tl, tc, rfl⟩ := h.form
    have HF := Lib.hid (FtSt.start w [.int .i64 T.k, .int .i64 T.p, .string T.n, .int .i64 T.m, .slice ka T.kids.length kc, .slice aa T.arms.length ac, .int .i64 tk, .string tn, .int .i64 ti, .int .i64 th, .slice ta tl tc])
    have HMk : Hid (∀ V : World, BoxC 45 (V.alloc (.cells #[.int .i64 0, .int .i64 0] 45)) V.heap.size [.int .i64 0, .int .i64 0]) := fun V => BoxC.made _ V _
    have hlen : (chN T).length ≤ 200000 := by unfold chN; rw [List.length_append, List.length_map]; have := hfo.kids; have := hfo.arms; omega
    have HSo := Lib.hid hSo
    clear h hd hnm ih hfit hfl hfo hSo hSo'
    obtain ⟨mc, hmc⟩ : ∃ k, k = (chN T).length := ⟨_, rfl⟩
    rw [← hmc] at HCh hlen
    have HMc := Lib.hid hmc
    clear hmc
    obtain ⟨na, nc, rfl⟩ := HNm.out.form
    generalize T.kids.length = kn at *
    generalize T.arms.length = an at *
    simp only [List.toArray] at HF HNo HCh ⊢
    obtain ⟨nn, hnn⟩ : ∃ k, k = ns.length := ⟨_, rfl⟩
    rw [← hnn] at HNo HNm ⊢
    have HNn := Lib.hid hnn
    clear hnn
    unfold ftV at HNo
    generalize hq : nodS ds ns T = q at *
    have HQ := Lib.hid hq
    clear hq
    obtain ⟨qe, qp⟩ := q
    dsimp only at HNo
    go_enter Try.func23, Try.ntmps23
    go_upto_region 1 with fail
    generalize ((w.alloc (.cells #[.int .i64 T.k, .int .i64 T.p, .string T.n, .int .i64 T.m, .slice ka kn kc, .slice aa an ac, .int .i64 tk, .string tn, .int .i64 ti, .int .i64 th, .slice ta tl tc] 36)).alloc (.cells #[.int .i64 0, .int .i64 0] 45)) = V at *
    obtain ⟨b0, b1, b2, b3, b4, b5, b6, b7, b8, b9, b10⟩ := bx11 HF.out.box
    go_upto_region 2 with (first
      | (go_at_call 40; refine (HNo.out _ HF.out.low).mono ?_; rintro e w1 ⟨rfl, hb1⟩; have HF1 := Lib.hid (HF.out.lift hb1); clear hb1 b0 b1 b2 b3 b4 b5 b6 b7 b8 b9 b10)
      | (refine wpList_storeC rfl _ _ rfl _ _ [.int .i64 qe, .int .i64 qp] (HMk.out _) rfl rfl sizeFl rfl (one2 _ _) ?_; intro w2 hB2 hg2 hs2))
    have HF2 : Hid (FtSt w _ w2) := HF1.out.lift (Below.grown ((Below.refl _ w1).alloc (Nat.le_refl _) _) hg2 ((Below.refl _ w1).alloc (Nat.le_refl _) _).size (fun k hk => by have := Option.some.inj hk; omega))
    have d0 := hB2.cell 0 _ rfl; have d1 := hB2.cell 1 _ rfl
    clear hB2 hg2 hs2 HF HF1 HNo
    generalize w1.heap.size = B1 at *
    cases hz : (qe == 0) with
    | false =>
      have hne : (qe != 0) = true := by rw [bne, hz]; rfl
      have HR : Hid (scE ds (n + 1) ns T = (qe, qp)) := by show _ = _; simp only [scE]; rw [HQ.out]; dsimp only; rw [hz]; rfl
      clear hz
      go_wp2_with (refine wpList_storeC rfl _ _ rfl _ _ [.int .i64 qe, .int .i64 qp] HF2.out.res rfl rfl sizeFl rfl (one2 _ _) ?_; intro w9 hB9 hg9 hs9)
      have c0 := hB9.cell 0 _ rfl; have c1 := hB9.cell 1 _ rfl
      refine bodyPost_ret (by simp [results, Try.results23, go_sem, c0, c1]; try rfl) rfl ?_
      have hbl := HF2.out.fin hg9
      exact ⟨by rw [HR.out]; rfl, HNm.out.lift hbl, grown_of_below hbl o⟩
    | true =>
      have e0 : qe = 0 := by simpa using hz
      subst e0
      have HR0 : Hid (scE ds (n + 1) ns T = scK (scE ds n) ns T ((chN T).drop 0) 0) := by show _ = _; simp only [scE]; rw [HQ.out]; rfl
      clear hz
      obtain ⟨b0, b1, b2, b3, b4, b5, b6, b7, b8, b9, b10⟩ := bx11 HF2.out.box
      have hw2 : w.heap.size + 2 ≤ w2.heap.size := HF2.out.res.lt
      go_upto_region 5 with (go_at_call 33; refine (HCh.out _ HF2.out.low hw2).mono ?_; rintro e w3 ⟨ca, cp, rfl, hrow, hb3⟩; have HF3 := Lib.hid (HF2.out.lift hb3); have HRow := Lib.hid hrow; clear hb3 hrow b0 b1 b2 b3 b4 b5 b6 b7 b8 b9 b10 d0 d1)
      have HL0 : Hid (LpX w o S' [.int .i64 T.k, .int .i64 T.p, .string T.n, .int .i64 T.m, .slice ka kn kc, .slice aa an ac, .int .i64 tk, .string tn, .int .i64 ti, .int .i64 th, .slice ta tl tc] (.slice na nn nc) ns (.slice ca mc cp) (chN T) w3) := ⟨HF3.out.box, HF3.out.res, HNm.out.lift HF3.out.low, grown_of_below HF3.out.low o, HRow.out⟩
      clear HF3 HRow HF2 HCh hw2
      go_wp2_with fail
      go_loopw [22] (fun i wr => ∃ j : Nat, j ≤ mc ∧ i = .int .i64 j ∧ Hid (scE ds (n + 1) ns T = scK (scE ds n) ns T ((chN T).drop j) j) ∧ Hid (LpX w o S' [.int .i64 T.k, .int .i64 T.p, .string T.n, .int .i64 T.m, .slice ka kn kc, .slice aa an ac, .int .i64 tk, .string tn, .int .i64 ti, .int .i64 th, .slice ta tl tc] (.slice na nn nc) ns (.slice ca mc cp) (chN T) wr)) (fun i _ => mc - (intOf i).toNat)
      case atStart => exact ⟨0, Nat.zero_le _, rfl, HR0, HL0⟩
      case round =>
        clear HR0 HL0
        obtain ⟨j, hj, rfl, HT, HL⟩ := hrel
        by_cases hlt : j < mc
        · obtain ⟨U, hU⟩ : ∃ x, (chN T)[j]? = some x := ⟨_, List.getElem?_eq_getElem (by rw [← HMc.out]; exact hlt)⟩
          have HS := Lib.hid (scK_step (f := scE ds n) (ns := ns) (T := T) hU)
          obtain ⟨hbl, hbs, hfu⟩ := HFo.out.all j U hU
          have hflu := HFl.out.2 U (List.mem_of_getElem? hU)
          have hbn : BnOk T j := by
            intro e
            have h1 := HFo.out.one e
            have h2 := (List.getElem?_eq_some_iff.1 hU).1
            unfold chN at h2
            rw [List.length_append, List.length_map, h1] at h2
            exact ⟨h1, by omega⟩
          obtain ⟨ad, kb, kd, ab, ae, uk, un, ui, uh, ua, ul, uc, rfl, hru, q0, q1, q2, q3, q4, q5, q6, q7, q8, q9, q10⟩ := rowE_at HL.out.row hU
          have hji : (j : Int) < (mc : Int) := by omega
          have hjm : j ≤ 1000000 := by omega
          have hal1 : Below wr.heap.size wr (wr.alloc (.cells #[.int .i64 U.k, .int .i64 U.p, .string U.n, .int .i64 U.m, .slice kb U.kids.length kd, .slice ab U.arms.length ae, .int .i64 uk, .string un, .int .i64 ui, .int .i64 uh, .slice ua ul uc] 36)) := (Below.refl _ wr).alloc (Nat.le_refl _) _
          have HBu := Lib.hid (BoxC.made 36 wr [.int .i64 U.k, .int .i64 U.p, .string U.n, .int .i64 U.m, .slice kb U.kids.length kd, .slice ab U.arms.length ae, .int .i64 uk, .string un, .int .i64 ui, .int .i64 uh, .slice ua ul uc])
          have HLW := Lib.hid (HL.out.lift HOl.out HSo'.out hal1)
          have HRu := Lib.hid (hru.bound.lift hal1)
          have hBW : wr.heap.size < (wr.alloc (.cells #[.int .i64 U.k, .int .i64 U.p, .string U.n, .int .i64 U.m, .slice kb U.kids.length kd, .slice ab U.arms.length ae, .int .i64 uk, .string un, .int .i64 ui, .int .i64 uh, .slice ua ul uc] 36)).heap.size := by simp
          have HBW := Lib.hid hBW
          clear hBW
          have HWl : Hid (w.heap.size ≤ wr.heap.size) := HL.out.low.size
          obtain ⟨b0, b1, b2, b3, b4, b5, b6, b7, b8, b9, b10⟩ := bx11 HL.out.box
          have HFu := Lib.hid hfu
          have HFlu := Lib.hid hflu
          have hpl : nn + (bnN T j).length ≤ 1000000 := by rw [HNn.out]; omega
          have HPl : Hid (ns.length + (bnN T j).length ≤ 1000000) := by show _ ≤ _; rw [← HNn.out]; exact hpl
          have HPm : Hid ((ns ++ bnN T j).length + (m - (bnN T j).length) ≤ 1000000) := by show _ ≤ _; rw [List.length_append]; omega
          clear hal1 hru HL hU hfu hflu hbl hbs
          generalize U.kids.length = k3 at *
          generalize U.arms.length = k4 at *
          simp only [List.toArray] at HBu
          go_upto_region 7 with fail
          clear q0 q1 q2 q3 q4 q5 q6 q7 q8 q9 q10 b0 b1 b2 b3 b4 b5 b6 b7 b8 b9 b10
          generalize (wr.alloc (.cells #[.int .i64 U.k, .int .i64 U.p, .string U.n, .int .i64 U.m, .slice kb k3 kd, .slice ab k4 ae, .int .i64 uk, .string un, .int .i64 ui, .int .i64 uh, .slice ua ul uc] 36)) = W at *
          generalize wr.heap.size = B at *
          have HS0 : Hid (∀ v, W.grownBy v o → NmO v o (.slice na nn nc) ns → ((fun v => v.cell? ⟨w.heap.size, 0, none⟩ = some (.int .i64 T.k) ∧ v.cell? ⟨w.heap.size, 1, none⟩ = some (.int .i64 T.p) ∧ v.cell? ⟨w.heap.size, 2, none⟩ = some (.string T.n) ∧ v.cell? ⟨w.heap.size, 3, none⟩ = some (.int .i64 T.m) ∧ v.cell? ⟨w.heap.size, 4, none⟩ = some (.slice ka kn kc) ∧ v.cell? ⟨w.heap.size, 5, none⟩ = some (.slice aa an ac) ∧ v.cell? ⟨w.heap.size, 6, none⟩ = some (.int .i64 tk) ∧ v.cell? ⟨w.heap.size, 7, none⟩ = some (.string tn) ∧ v.cell? ⟨w.heap.size, 8, none⟩ = some (.int .i64 ti) ∧ v.cell? ⟨w.heap.size, 9, none⟩ = some (.int .i64 th) ∧ v.cell? ⟨w.heap.size, 10, none⟩ = some (.slice ta tl tc) ∧ v.cell? ⟨B, 0, none⟩ = some (.int .i64 U.k) ∧ v.cell? ⟨B, 1, none⟩ = some (.int .i64 U.p) ∧ v.cell? ⟨B, 2, none⟩ = some (.string U.n) ∧ v.cell? ⟨B, 3, none⟩ = some (.int .i64 U.m) ∧ v.cell? ⟨B, 4, none⟩ = some (.slice kb k3 kd) ∧ v.cell? ⟨B, 5, none⟩ = some (.slice ab k4 ae) ∧ v.cell? ⟨B, 6, none⟩ = some (.int .i64 uk) ∧ v.cell? ⟨B, 7, none⟩ = some (.string un) ∧ v.cell? ⟨B, 8, none⟩ = some (.int .i64 ui) ∧ v.cell? ⟨B, 9, none⟩ = some (.int .i64 uh) ∧ v.cell? ⟨B, 10, none⟩ = some (.slice ua ul uc) ∧ W.grownBy v o ∧ NmO v o (.slice na nn nc) ns) v)) := fun v hv hn => by
            have hB := HLW.out.step HOl.out HSo'.out hv hn
            obtain ⟨b0, b1, b2, b3, b4, b5, b6, b7, b8, b9, b10⟩ := bx11 hB.box
            obtain ⟨e0, e1, e2, e3, e4, e5, e6, e7, e8, e9, e10⟩ := bx11 (HBu.out.grown hv (fun e => by have h1 := HOl.out _ e.symm; have h2 := HWl.out; omega))
            exact ⟨b0, b1, b2, b3, b4, b5, b6, b7, b8, b9, b10, e0, e1, e2, e3, e4, e5, e6, e7, e8, e9, e10, hv, hn⟩
          have HBd : Hid (∀ V, W.grownBy V o → Calls Try.prog 34 #[.agg #[.int .i64 T.k, .int .i64 T.p, .string T.n, .int .i64 T.m, .slice ka kn kc, .slice aa an ac, .int .i64 tk, .string tn, .int .i64 ti, .int .i64 th, .slice ta tl tc], .int .i64 j] V fun e w' => ∃ u, e = .returned u ∧ SlG StrE w' (fun _ => True) (bnN T j) u ∧ Below V.heap.size V w' ∧ w.heap.size ≤ w'.heap.size ∧ W.heap.size ≤ w'.heap.size) := fun V hV => by
            have hgr := grown_trans HLW.out.low hV
            refine (boundIn_any T j hbn _ S' V HFo.out.kids hjm (HRp.out.kept (fun _ h => h) (fun b hb hl => hgr.block b hl (HSo'.out b hb)))).mono ?_
            rintro e w' ⟨u, h1, h2, h3⟩
            exact ⟨u, h1, h2, h3, Nat.le_trans hgr.size h3.size, Nat.le_trans hV.size h3.size⟩
          obtain ⟨re, rp, hre⟩ : ∃ re rp, scE ds n (ns ++ bnN T j) U = (re, rp) := ⟨_, _, rfl⟩
          have HRe := Lib.hid hre
          rw [hre] at HS
          clear hre
          obtain ⟨ln, hln⟩ : ∃ k, k = (ns ++ bnN T j).length := ⟨_, rfl⟩
          have HLn := Lib.hid hln
          clear hln
          have HXp : Hid (∀ V o' a' c', NmO V o' (.slice a' ln c') (ns ++ bnN T j) → W.grownBy V o → (∀ g, o' = some g → o = some g ∨ W.heap.size ≤ g) → Calls Try.prog 23 #[dv, .slice a' ln c', .agg #[.int .i64 U.k, .int .i64 U.p, .string U.n, .int .i64 U.m, .slice kb k3 kd, .slice ab k4 ae, .int .i64 uk, .string un, .int .i64 ui, .int .i64 uh, .slice ua ul uc]] V fun e w' => e = .returned (.agg #[.int .i64 re, .int .i64 rp]) ∧ NmO w' o' (.slice a' ln c') (ns ++ bnN T j) ∧ V.grownBy w' o') := fun V o' a' c' hn hV hnew => by
            have hgr := grown_trans HLW.out.low hV
            have hne : ∀ b, b < w.heap.size → some b ≠ o → some b ≠ o' := fun b hb hbo e => by
              rcases hnew b e.symm with h | h
              · exact hbo h.symm
              · have := HLW.out.low.size; omega
            have := HIh.out U (m - (bnN T j).length) HFu.out HFlu.out (ns ++ bnN T j) HPm.out o' dv (.slice a' ln c') (fun b => S b ∧ b < w.heap.size) (fun b => S' b ∧ b < B) _ V (HD.out.kept (fun _ h => h) (fun b hb hl => hgr.block b hl (HSo.out b hb.1))) (fun b hb => hne b hb.2 (HSo.out b hb.1)) hn (HRu.out.kept (fun _ h => h) (fun b hb hl => hV.block b hl (HSo'.out b hb.1))) (fun b hb e => by
              rcases hnew b e.symm with h | h
              · exact HSo'.out b hb.1 h.symm
              · have := HBW.out; have := hb.2; omega)
            rw [HRe.out] at this
            exact this
          have HNW := Lib.hid HLW.out.nms
          go_region_held3 (fun v => v.cell? ⟨w.heap.size, 0, none⟩ = some (.int .i64 T.k) ∧ v.cell? ⟨w.heap.size, 1, none⟩ = some (.int .i64 T.p) ∧ v.cell? ⟨w.heap.size, 2, none⟩ = some (.string T.n) ∧ v.cell? ⟨w.heap.size, 3, none⟩ = some (.int .i64 T.m) ∧ v.cell? ⟨w.heap.size, 4, none⟩ = some (.slice ka kn kc) ∧ v.cell? ⟨w.heap.size, 5, none⟩ = some (.slice aa an ac) ∧ v.cell? ⟨w.heap.size, 6, none⟩ = some (.int .i64 tk) ∧ v.cell? ⟨w.heap.size, 7, none⟩ = some (.string tn) ∧ v.cell? ⟨w.heap.size, 8, none⟩ = some (.int .i64 ti) ∧ v.cell? ⟨w.heap.size, 9, none⟩ = some (.int .i64 th) ∧ v.cell? ⟨w.heap.size, 10, none⟩ = some (.slice ta tl tc) ∧ v.cell? ⟨B, 0, none⟩ = some (.int .i64 U.k) ∧ v.cell? ⟨B, 1, none⟩ = some (.int .i64 U.p) ∧ v.cell? ⟨B, 2, none⟩ = some (.string U.n) ∧ v.cell? ⟨B, 3, none⟩ = some (.int .i64 U.m) ∧ v.cell? ⟨B, 4, none⟩ = some (.slice kb k3 kd) ∧ v.cell? ⟨B, 5, none⟩ = some (.slice ab k4 ae) ∧ v.cell? ⟨B, 6, none⟩ = some (.int .i64 uk) ∧ v.cell? ⟨B, 7, none⟩ = some (.string un) ∧ v.cell? ⟨B, 8, none⟩ = some (.int .i64 ui) ∧ v.cell? ⟨B, 9, none⟩ = some (.int .i64 uh) ∧ v.cell? ⟨B, 10, none⟩ = some (.slice ua ul uc) ∧ W.grownBy v o ∧ NmO v o (.slice na nn nc) ns)
            (first
              | exact HS0.out _ (grown_of_below (Below.refl _ W).drew o) (HNW.out.lift (Below.refl _ W).drew)
              | (go_split_ands; exact HS0.out _ (grown_trans (by assumption) (grown_of_below hb o)) (NmO.lift (by assumption) hb))
              | (go_split_ands; exact HS0.out _ (grown_trans (by assumption) hp.low) (hp.back _ hp.now (World.grownBy.refl _ _)))
              | (go_split_ands; exact HS0.out _ HGx.out HNx.out)
              | exact HS0.out _ (HLW.out.fin HOl.out HSo'.out HNx.out HGx.out HBC.out (by first | exact Nat.le_refl _ | exact HK4.out | exact Nat.le_trans HGo.out.size HP.out.low.size) _ _).2.2.1 (HLW.out.fin HOl.out HSo'.out HNx.out HGx.out HBC.out (by first | exact Nat.le_refl _ | exact HK4.out | exact Nat.le_trans HGo.out.size HP.out.low.size) _ _).2.2.2
              | exact HS0.out _ (HLW.out.fin HOl.out HSo'.out (HNx.out.lift ((Below.refl _ _).alloc (Nat.le_refl _) _)) (grown_trans HGx.out (World.grownBy_alloc _ _ _)) (HMk.out w6) HGx.out.size _ _).2.2.1 (HLW.out.fin HOl.out HSo'.out (HNx.out.lift ((Below.refl _ _).alloc (Nat.le_refl _) _)) (grown_trans HGx.out (World.grownBy_alloc _ _ _)) (HMk.out w6) HGx.out.size _ _).2.2.2
              | (go_split_ands; exact HS0.out _ (grown_trans (by assumption) (World.grownBy_alloc _ _ _)) (NmO.lift (by assumption) ((Below.refl _ _).alloc (Nat.le_refl _) _))))
            (first
              | (go_at_call 34; (with_reducible refine (HBd.out _ ?_).mono ?_); (go_split_ands; assumption); rintro e w4 ⟨u, rfl, hs4, hb, hl4, hk4⟩; have HU := Lib.hid hs4; have HL4 := Lib.hid hl4; have HK4 := Lib.hid hk4; (first | (have HBA := Lib.hid (((HMk.out W).lift (Below.refl _ (W.alloc _)).drew).lift hb)) | (have HBA := Lib.hid True.intro)); clear hs4 hl4 hk4)
              | ((refine step_pushO (by rfl) _ _ (by rfl) o (.slice na nn nc) ns rfl ?_ _ rfl (bnN T j) (fun _ => True) ?_ HPl.out ln HLn.out W ?_ ?_); (go_split_ands; assumption); (first | exact HU.out | exact HU.out.lift' ((Below.refl _ _).alloc (Nat.le_refl _) _)); (go_split_ands; assumption); (intro o' a' c' w5 hp hgo); (have HP := Lib.hid hp); (have HGo := Lib.hid hgo); (have HNew : Hid (∀ g, o' = some g → o = some g ∨ W.heap.size ≤ g) := fun g e => (hp.new g e).imp id (fun h => Nat.le_trans hgo.size h)); (first | (have HBB := Lib.hid (box_push HBA.out hp HOl.out (by have := HWl.out; have := HBW.out; omega))) | (have HBB := Lib.hid (box_push (HMk.out w4) hp HOl.out HL4.out)) | (have HBB := Lib.hid True.intro)))
              | (go_at_call 23; (with_reducible refine (HXp.out _ o' a' c' ?_ ?_ HNew.out).mono ?_); (first | exact HP.out.now | exact HP.out.now.lift ((Below.refl _ _).alloc (Nat.le_refl _) _)); (go_split_ands; assumption); rintro e w6 ⟨rfl, hn2, hg2⟩; (have HGx := Lib.hid (grown_trans HGo.out (by first | exact HP.out.on hg2 | exact (HP.out.lift ((Below.refl _ _).alloc (Nat.le_refl _) _)).on hg2))); (have HNx : Hid (NmO w6 o (.slice na nn nc) ns) := (by first | exact HP.out.back _ hn2 hg2 | exact (HP.out.lift ((Below.refl _ _).alloc (Nat.le_refl _) _)).back _ hn2 hg2)); (first | (have HBC := Lib.hid (HBB.out.1.grown hg2 (fun e => HBB.out.2 e.symm))) | (have HBC := Lib.hid ((HMk.out w5).grown hg2 (fun e => by have := HP.out.now.lt _ e.symm; omega))) | (have HBC := Lib.hid True.intro)); (first | (have d0 := HBC.out.cell 0 _ rfl; have d1 := HBC.out.cell 1 _ rfl; have f0 := HBC.out.free 0; have f1 := HBC.out.free 1) | skip)))
          all_goals
            (first
              | (have hfin := HLW.out.fin HOl.out HSo'.out HNx.out HGx.out HBC.out (by first | exact Nat.le_refl _ | exact HK4.out | exact Nat.le_trans HGo.out.size HP.out.low.size) (.int .i64 re) (.int .i64 rp))
              | (have hfin := And.intro (HLW.out.step HOl.out HSo'.out (grown_trans HGx.out (World.grownBy_alloc w6 (.cells #[.int .i64 re, .int .i64 rp] 45) o)) (HNx.out.lift ((Below.refl _ _).alloc (Nat.le_refl _) _))) (And.intro (BoxC.made 45 w6 [.int .i64 re, .int .i64 rp]) (And.intro True.intro True.intro))))
            obtain ⟨hLF, hBF, -, -⟩ := hfin
            have HLF := Lib.hid hLF
            have x0 := hBF.cell 0 _ rfl
            have x1 := hBF.cell 1 _ rfl
            clear hp hgo hb hn2 hg2 hLF hBF
            cases hz : (re == 0) with
            | false =>
              have hne : (re != 0) = true := by rw [bne, hz]; rfl
              have HR : Hid (scE ds (n + 1) ns T = (re, rp)) := by show _ = _; rw [HT.out, HS.out, hz]; rfl
              clear hz HS HT HQ HRe
              go_wp2_with (refine wpList_storeC rfl _ _ rfl _ _ [.int .i64 re, .int .i64 rp] HLF.out.res rfl rfl sizeFl rfl (one2 _ _) ?_; intro w9 hB9 hg9 hs9)
              have c0 := hB9.cell 0 _ rfl; have c1 := hB9.cell 1 _ rfl
              refine bodyPost_ret (by simp [results, Try.results23, go_sem, c0, c1]; try rfl) rfl ?_
              exact ⟨by rw [HR.out]; rfl, NmO.on HNm.out HLF.out.nms HLF.out.low hg9 (by omega), HLF.out.low.andThen hg9 fun j e => by have := Option.some.inj e; exact .inl (by omega)⟩
            | true =>
              have e0 : re = 0 := by simpa using hz
              have HR : Hid (scE ds (n + 1) ns T = scK (scE ds n) ns T ((chN T).drop (j + 1)) (j + 1)) := by show _ = _; rw [HT.out, HS.out, hz]; rfl
              subst e0
              clear hz HS HT HQ HRe
              go_wp2
              go_roundw
              case rel => exact ⟨j + 1, hlt, by go_num, HR, HLF⟩
              case measure => simp [intOf]; omega
        · have HR : Hid (scE ds (n + 1) ns T = (0, 0)) := by
            show _ = _
            rw [HT.out, List.drop_eq_nil_of_le (by rw [← HMc.out]; omega)]; rfl
          clear HT HQ
          go_wp2_with (refine wpList_storeC rfl _ _ rfl _ _ [.int .i64 0, .int .i64 0] HL.out.res rfl rfl sizeFl rfl (one2 _ _) ?_; intro w9 hB9 hg9 hs9)
          have c0 := hB9.cell 0 _ rfl; have c1 := hB9.cell 1 _ rfl
          refine bodyPost_ret (by simp [results, Try.results23, go_sem, c0, c1]; try rfl) rfl ?_
          exact ⟨by rw [HR.out]; rfl, NmO.on HNm.out HL.out.nms HL.out.low hg9 (by omega), HL.out.low.andThen hg9 fun j e => by have := Option.some.inj e; exact .inl (by omega)⟩
end Go.Proofs.Ytljgpgmaceackaa

/- The package's scope.Expr. -/
namespace Go.Proofs.Ytljgpgmaceackaa
open Go.RowKit Go.Maps Mth S3

set_option maxHeartbeats 1600000 in
theorem clip_any (a : Option Addr) (n c : Nat) (w : World) (hn : n ≤ c) (ha : a = none → n = 0) : Calls Try.prog 24 #[.slice a n c] w fun e w' => e = .returned (.slice a n n) ∧ w = w' := by

  cases a with
  | none =>
    obtain rfl : n = 0 := ha rfl
    go_enter Try.func24, Try.ntmps24
    go_wp2
    go_ret
    exact ⟨rfl, rfl⟩
  | some ad =>
    clear ha
    go_enter Try.func24, Try.ntmps24
    go_wp2
    go_ret
    exact ⟨rfl, rfl⟩
set_option maxRecDepth 100000 in
set_option maxHeartbeats 6400000 in
theorem scopeE_any (ds : List Dat) (hds : Sized ds) (n : Nat) (T : Ex) (m : Nat) (hfit : fitV n m T = true) (hfl : flE n T = true) (ns : List ByteArray) (hns : ns.length + m ≤ 1000000) (dv nv : Value) (S S' S'' : Nat → Prop) (c : List Value) (w : World) (hd : SlG DatE w S ds dv) (hnv : SlG StrE w S'' ns nv) (h : RepE w S' T c) :
    Calls Try.prog 11 #[dv, nv, .agg c.toArray] w fun e w' => e = .returned (ftV (scE ds n ns T)) ∧ Below w.heap.size w w' := by
  obtain ⟨na, nc, rfl, hnc, hj⟩ := hnv
  have hnv : SlG StrE w S'' ns (.slice na ns.length nc) := ⟨na, nc, rfl, hnc, hj⟩
  have hnil : na = none → ns.length = 0 := fun e => by
    subst e
    cases ns with
    | nil => rfl
    | cons y l => obtain ⟨ad, c, e, -⟩ := hj 0 y rfl; cases e
  have hcl : SlG StrE w (fun _ => True) ns (.slice na ns.length ns.length) := ⟨na, ns.length, rfl, ⟨Nat.le_refl _, Nat.le_trans hnc.1 hnc.2⟩, fun j x hx => by
    obtain ⟨ad, c, h1, -, h3, h4⟩ := hj j x hx
    exact ⟨ad, c, h1, trivial, h3, StrE.kept (fun _ _ => trivial) (fun _ _ _ => rfl) h4⟩⟩
  have HX : Hid (∀ V, Below w.heap.size w V → Calls Try.prog 23 #[dv, .slice na ns.length ns.length, .agg c.toArray] V fun e w' => ∃ u, e = .returned u ∧ u = ftV (scE ds n ns T) ∧ Below w.heap.size w w' ∧ Below V.heap.size V w') := fun V hV => by
    refine (exprFault_any ds hds n T m hfit hfl ns hns none dv _ S S' c V (hd.lift' hV) (fun _ _ => by simp) (.inl ⟨rfl, hcl.lift' hV, na, rfl⟩) (h.lift hV) (fun _ _ => by simp)).mono ?_
    rintro e w' ⟨rfl, -, hg⟩
    have hb : Below V.heap.size V w' := Below.grown (Below.refl _ V) hg (Nat.le_refl _) (fun k hk => by cases hk)
    exact ⟨_, rfl, rfl, hV.trans (hb.mono hV.size), hb⟩
  have HCl : Hid (∀ V, Calls Try.prog 24 #[.slice na ns.length nc] V fun e w' => ∃ u, e = .returned u ∧ u = .slice na ns.length ns.length ∧ w' = V) := fun V => (clip_any na ns.length nc V hnc.1 hnil).mono fun e w' ⟨h1, h2⟩ => ⟨_, h1, rfl, h2.symm⟩
  obtain ⟨ka, kc, aa, ac, tk, tn, ti, th, ta, tl, tc, rfl⟩ := h.form
  have HF := Lib.hid (FtSt.start w [.int .i64 T.k, .int .i64 T.p, .string T.n, .int .i64 T.m, .slice ka T.kids.length kc, .slice aa T.arms.length ac, .int .i64 tk, .string tn, .int .i64 ti, .int .i64 th, .slice ta tl tc])
  clear h hd hnv hcl hnil hj hnc hfit hfl hns
  generalize T.kids.length = kn at *
  generalize T.arms.length = an at *
  generalize ns.length = nn at *
  unfold ftV at HX ⊢
  generalize scE ds n ns T = q at *
  obtain ⟨qe, qp⟩ := q
  simp only [List.toArray] at HF HX ⊢

  go_enter Try.func11, Try.ntmps11
  go_upto_region 1 with fail
  generalize ((w.alloc (.cells #[.int .i64 T.k, .int .i64 T.p, .string T.n, .int .i64 T.m, .slice ka kn kc, .slice aa an ac, .int .i64 tk, .string tn, .int .i64 ti, .int .i64 th, .slice ta tl tc] 36)).alloc (.cells #[.int .i64 0, .int .i64 0] 45)) = V at *
  obtain ⟨b0, b1, b2, b3, b4, b5, b6, b7, b8, b9, b10⟩ := bx11 HF.out.box
  have HFd := Lib.hid (HF.out.lift (Below.refl _ V).drew)
  go_region_law
    (first
      | ((with_reducible refine step_call1 24 enterClip (.slice na nn nc) (fun u w' => u = .slice na nn nn ∧ w' = V.drew) ?_ ?_ ?_); (rfl); (exact HCl.out V.drew); (rintro u w3 ⟨rfl, rfl⟩))
      | ((with_reducible refine step_call3 23 enterXF dv (.slice na nn nn) (.agg #[.int .i64 T.k, .int .i64 T.p, .string T.n, .int .i64 T.m, .slice ka kn kc, .slice aa an ac, .int .i64 tk, .string tn, .int .i64 ti, .int .i64 th, .slice ta tl tc]) (fun u w' => u = .agg #[.int .i64 qe, .int .i64 qp] ∧ Below w.heap.size w w' ∧ FtSt w [.int .i64 T.k, .int .i64 T.p, .string T.n, .int .i64 T.m, .slice ka kn kc, .slice aa an ac, .int .i64 tk, .string tn, .int .i64 ti, .int .i64 th, .slice ta tl tc] w') ?_ ?_ ?_ ?_ ?_); (rfl); (rfl); (rfl); (exact (HX.out _ HFd.out.low).mono (fun e w' ⟨u, h1, h2, h3, h4⟩ => ⟨u, h1, h2, h3, HFd.out.lift h4⟩)); (rintro u w5 ⟨rfl, hb5, hF5⟩); (have HF5 := Lib.hid hF5); (have f0 := hF5.res.free 0); (have f1 := hF5.res.free 1); (have e0 := hF5.res.cell 0 _ rfl); (have e1 := hF5.res.cell 1 _ rfl); clear hF5 hb5))
  all_goals
    obtain ⟨hB6, hg6⟩ := set2 HF5.out.res (.int .i64 qe) (.int .i64 qp)
    have HB6 := Lib.hid hB6
    have HL6 := Lib.hid (HF5.out.fin hg6)
    clear hB6 hg6 f0 f1 e0 e1
    generalize (w5.setCell ⟨w.heap.size + 1, 0, none⟩ (.int .i64 qe)).setCell ⟨w.heap.size + 1, 1, none⟩ (.int .i64 qp) = w6 at *
    have c0 := HB6.out.cell 0 _ rfl; have c1 := HB6.out.cell 1 _ rfl
    go_wp2
    refine bodyPost_ret (by simp [results, Try.results11, go_sem, c0, c1]; try rfl) rfl ?_
    exact ⟨rfl, HL6.out⟩
end Go.Proofs.Ytljgpgmaceackaa
