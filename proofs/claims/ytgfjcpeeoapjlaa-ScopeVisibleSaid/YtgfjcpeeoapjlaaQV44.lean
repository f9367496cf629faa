import Derived.Test.YtgfjcpeeoapjlaaQV33
import Derived.Test.YtgfjcpeeoapjlaaQV34
import Derived.Test.YtgfjcpeeoapjlaaQV43
import Derived.Test.YtgfjcpeeoapjlaaQV02
import Derived.Deep.RegionHeld3
/- The law ScopeVisible returns true at every input. -/
namespace Go.Proofs.Ytgfjcpeeoapjlaa
open Go.RowKit Go.Maps Mth S3

theorem tape_newE {w w1 : World} {zs : List Int} {a : Option Addr} {cap n : Nat} (hn : n = zs.length) (hz : zs.length ≤ 1000) (h : Ints w (.slice a n cap) zs) (hb : Below w.heap.size w w1) :
    S3.Tq (w1.alloc (.cells #[.slice a n cap, .int .i64 0] 29)) w1.heap.size := by
  subst hn
  obtain ⟨a', cap', e, -, -, hj⟩ := h
  cases e
  refine ⟨zs, a, cap, 0, ?_, Nat.zero_le _, hz, fun j x hx => ?_⟩
  · unfold S3.TapeAt; rw [heap_at, if_pos rfl]; rfl
  · obtain ⟨ad, rfl, hc⟩ := hj j x hx
    have hl := World.block_lt_of_cell? _ _ hc
    have hl1 := Nat.lt_of_lt_of_le hl hb.size
    refine ⟨ad, rfl, by rw [add_block] at hl1; exact hl1, ?_⟩
    rw [((Below.refl _ w1).alloc (Nat.le_refl _) _).cell hl1, hb.cell hl]
    exact hc
theorem wpList_pushJ {w : World} {z : Int} {ops : Array Oper} {rest : List Oper} {o : Oper} {a : Act} {Q : Exit → Act → World → Prop} (hgd : o.guard = none) (s x : Operand)
    (ho : o.op = .call { callee := .builtin .append, args := #[s, x], argTypes := #[22, 22] })
    (base : Nat) (v : Value) (zs : List Int) (hs : a.eval s = v) (hrow : RowI w base v zs)
    (nn : Nat) (hx : a.eval x = .slice (some ⟨nn, 0, none⟩) 1 1) (hc : w.cell? ⟨nn, 0, none⟩ = some (.int .i64 z))
    (N : Nat) (hN : N = zs.length + 1) (hb : N ≤ 1000000) (hbase : base ≤ w.heap.size)
    (hK : ∀ (a' : Option Addr) (c' : Nat) (w' : World), RowI w' base (.slice a' N c') (zs ++ [z]) → w.grownBy w' v.ownBlock → wpList Try.prog ops Q rest (a.put o.dst (.slice a' N c')) w') :
    wpList Try.prog ops Q (o :: rest) a w := by
  obtain ⟨i, hi, hz0, hz1, hz2⟩ := info_parts Try.info3
  refine wpList_append_own_at _ hgd s x 22 ho base 3 i _ 1 8 Try.underlying22 hi hz0 hz1 hz2 rfl (by decide) v zs.length (zs.map intV) hs hrow ⟨nn, 0, none⟩ 1 1 [intV z] hx rfl (fun j u hj => ?_) (fun u hu => ?_) (by unfold maxLen; omega) (by omega) hbase ?_
  · cases j with
    | zero => simp at hj; subst hj; simp only [Addr.add, if_true]; exact hc
    | succ j => simp at hj
  · simp at hu; subst hu; rfl
  intro v' w' hown' hg _ _
  have hrow' : RowI w' base v' (zs ++ [z]) := by
    unfold RowI
    rw [List.length_append, List.map_append]
    exact hown'
  obtain ⟨a', c', rfl, _⟩ := hrow'.slice
  have e : (zs ++ [z]).length = N := by rw [List.length_append, hN]; rfl
  rw [e] at hrow' ⊢
  exact hK a' c' w' hrow' hg
theorem step_pushJ {w : World} {z : Int} {ops : Array Oper} {o : Oper} {a : Act} {K : Act → World → Prop} {Q : Exit → Act → World → Prop} {E' : Prop} (hgd : o.guard = none) (s x : Operand)
    (ho : o.op = .call { callee := .builtin .append, args := #[s, x], argTypes := #[22, 22] })
    (base : Nat) (v : Value) (zs : List Int) (hs : a.eval s = v) (hrow : RowI w base v zs)
    (nn : Nat) (hx : a.eval x = .slice (some ⟨nn, 0, none⟩) 1 1) (hc : w.cell? ⟨nn, 0, none⟩ = some (.int .i64 z))
    (N : Nat) (hN : N = zs.length + 1) (hb : N ≤ 1000000) (hbase : base ≤ w.heap.size)
    (hK : ∀ (a' : Option Addr) (c' : Nat) (w' : World), RowI w' base (.slice a' N c') (zs ++ [z]) → w.grownBy w' v.ownBlock → K (a.put o.dst (.slice a' N c')) w') :
    if Region.wanted o (yielded ops a.tmps) = true then Oper.wp Try.prog o a w K Q else E' :=
  step_of_list hgd fun _ hQ => wpList_pushJ hgd s x ho base v zs hs hrow nn hx hc N hN hb hbase fun a' c' w' h1 h2 => hQ _ _ (hK a' c' w' h1 h2)
theorem cell_off {w V V' : World} {row : Option Nat} {a : Addr} {u : Value} (hV : Below w.heap.size w V) (hg : V.grownBy V' row) (h : w.cell? a = some u) (hne : some a.block ≠ row) : V'.cell? a = some u := by
  have hl := World.block_lt_of_cell? _ _ h
  have h1 := (hV.cell hl).trans h
  have h2 := hg.block a.block (Nat.lt_of_lt_of_le hl hV.size) hne
  unfold World.cell? at *
  rw [h2]
  exact h1
theorem capE5V : capE 5 ≤ 99999 := by decide
theorem fitV_ok {T : Ex} (h : OkE 5 T) : fitV 100000 99999 T = true := fitV_src 100000 T 99999 h.1 (by have := h.2; have := capE5V; omega) (by have := h.2; have := capE5V; omega) (by have := h.2; have := capE5V; omega)
/-- The expression, the part where the path leads so far, the path. -/
structure LpSt (w : World) (B : Nat) (T U : Ex) (c : List Value) (v : Value) (p : List Int) (V : World) : Prop where
  box : BoxC 36 V B c
  rep : RepE V (fun b => b < B) T c
  xbox : ∃ d, BoxC 36 V (B + 1) d ∧ RepE V (fun b => b < B) U d
  fit : ∃ n m, fitV n m U = true
  row : RowI V (B + 2) v p
  low : Below w.heap.size w V
theorem LpSt.lt {w : World} {B : Nat} {T U : Ex} {c : List Value} {v : Value} {p : List Int} {V : World} (H : LpSt w B T U c v p V) : B + 2 ≤ V.heap.size := by
  obtain ⟨d, h, -⟩ := H.xbox
  exact h.lt
theorem LpSt.lift {w : World} {B : Nat} {T U : Ex} {c : List Value} {v : Value} {p : List Int} {V V' : World} (H : LpSt w B T U c v p V) (hb : Below V.heap.size V V') : LpSt w B T U c v p V' := by
  obtain ⟨h1, h2, ⟨d, h3, h4⟩, hf, h5, h6⟩ := H
  exact ⟨h1.lift hb, h2.lift hb, ⟨d, h3.lift hb, h4.lift hb⟩, hf, h5.kept (grown_of_below hb none) (by cases v.ownBlock <;> simp), h6.trans (hb.mono h6.size)⟩
theorem LpSt.push {w : World} {B : Nat} {T U : Ex} {c : List Value} {v v' : Value} {p p' : List Int} {V V' : World} (hw : w.heap.size ≤ B) (H : LpSt w B T U c v p V) (hr : RowI V' (B + 2) v' p') (hg : V.grownBy V' v.ownBlock) : LpSt w B T U c v' p' V' := by
  have hne : ∀ k, v.ownBlock = some k → B + 2 ≤ k := fun k e => (World.ownsRow.lt H.row k e).1
  have hk : ∀ b, b < B → b < V.heap.size → V'.heap[b]? = V.heap[b]? := fun b hb hl => hg.block b hl (fun e => by have := hne b e.symm; omega)
  obtain ⟨h1, h2, ⟨d, h3, h4⟩, hf, h5, h6⟩ := H
  exact ⟨h1.grown hg (fun e => by have := hne _ e.symm; omega), h2.kept (fun _ h => h) hk, ⟨d, h3.grown hg (fun e => by have := hne _ e.symm; omega), h4.kept (fun _ h => h) hk⟩, hf, hr, Below.grown h6 hg h6.size (fun k e => by have := hne k e; omega)⟩
theorem LpSt.stored {w : World} {B : Nat} {T U U' : Ex} {c d : List Value} {v : Value} {p : List Int} {V V' : World} (hw : w.heap.size ≤ B) (H : LpSt w B T U c v p V) (hB : BoxC 36 V' (B + 1) d) (hr : RepE V (fun b => b < B) U' d) (hf' : ∃ n m, fitV n m U' = true) (hg : V.grownBy V' (some (B + 1))) : LpSt w B T U' c v p V' := by
  have hk : ∀ b, b < B → b < V.heap.size → V'.heap[b]? = V.heap[b]? := fun b hb hl => hg.block b hl (fun e => by have := Option.some.inj e; omega)
  obtain ⟨h1, h2, -, hf, h5, h6⟩ := H
  exact ⟨h1.grown hg (fun e => by have := Option.some.inj e; omega), h2.kept (fun _ h => h) hk, ⟨d, hB, hr.kept (fun _ h => h) hk⟩, hf', h5.kept hg (h5.off (by omega)), Below.grown h6 hg h6.size (fun k e => by have := Option.some.inj e; omega)⟩
set_option maxRecDepth 100000 in
set_option maxHeartbeats 16000000 in
theorem scopeVisible_any (bits : Int) (cv : Value) (zs : List Int) (av : Value) (ats : List Int) (rv : Value) (rs : List Int) (w : World) (hz : Ints w cv zs) (ha : Ints w av ats) (hr : Ints w rv rs) :
    Calls Try.prog 4 #[.int .i64 bits, cv, av, rv] w fun e w' => e = .returned (.bool true) ∧ Below w.heap.size w w' := by
  have HFi := Lib.hid (first10_any w)
  have HZ := Lib.hid hz
  have HAt := Lib.hid ha
  have HRw := Lib.hid hr
  obtain ⟨za, zc, rfl, -, -, -⟩ := hz
  obtain ⟨aa, ac, rfl, hal, hac, hacell⟩ := ha
  obtain ⟨ra, rc, rfl, -, -, -⟩ := hr
  have HAc := Lib.hid hacell
  clear hacell
  unfold maxLen at hac
  have HFw : Hid (∀ V, Below w.heap.size w V → Calls Try.prog 6 #[.slice za zs.length zc] V fun e w' => e = .returned (.bool (decide (zs.length ≤ 60))) ∧ V = w') := fun V hb => S3.few_any _ zs V (HZ.out.lift hb)
  obtain ⟨zn, hzn⟩ : ∃ n, n = zs.length := ⟨_, rfl⟩
  rw [← hzn] at HZ HFw ⊢
  have HZn := Lib.hid hzn
  clear hzn
  obtain ⟨an, han⟩ : ∃ n, n = ats.length := ⟨_, rfl⟩
  rw [← han] at HAt hal ⊢
  have HAn := Lib.hid han
  clear han
  obtain ⟨rn, hrn⟩ : ∃ n, n = rs.length := ⟨_, rfl⟩
  rw [← hrn] at HRw ⊢
  clear hrn
  cases h60 : decide (zn ≤ 60) with
  | false =>
    rw [h60] at HFw
    clear h60
    go_enter Try.func4, Try.ntmps4
    go_wp2_with fail
    go_at_call 5
    refine HFi.out.mono ?_
    rintro e w1 ⟨rfl, hb1, hlt1⟩
    go_wp2_with fail
    go_at_call 6
    refine (HFw.out _ hb1).mono ?_
    rintro e w2 ⟨rfl, rfl⟩
    go_wp2
    go_ret
    exact ⟨rfl, hb1⟩
  | true =>
    rw [h60] at HFw
    have hle : zn ≤ 60 := by simpa using h60
    clear h60
    by_cases h10 : (10 : Int) < (an : Int)
    ·
      go_enter Try.func4, Try.ntmps4
      go_wp2_with fail
      go_at_call 5
      refine HFi.out.mono ?_
      rintro e w1 ⟨rfl, hb1, hlt1⟩
      go_wp2_with fail
      go_at_call 6
      refine (HFw.out _ hb1).mono ?_
      rintro e w2 ⟨rfl, rfl⟩
      go_wp2
      go_ret
      exact ⟨rfl, hb1⟩
    by_cases h5 : (5 : Int) < (rn : Int)
    ·
      go_enter Try.func4, Try.ntmps4
      go_wp2_with fail
      go_at_call 5
      refine HFi.out.mono ?_
      rintro e w1 ⟨rfl, hb1, hlt1⟩
      go_wp2_with fail
      go_at_call 6
      refine (HFw.out _ hb1).mono ?_
      rintro e w2 ⟨rfl, rfl⟩
      go_wp2
      go_ret
      exact ⟨rfl, hb1⟩
    have HDa := Lib.hid (fun V => S3.datas_any bits V)
    have HMk := Lib.hid (MR.raw_any 5)
    have HMz : Hid (∀ V : World, BoxC 36 (V.alloc (.cells #[.int .i64 0, .int .i64 0, .string ⟨#[]⟩, .int .i64 0, .slice none 0 0, .slice none 0 0, .int .i64 0, .string ⟨#[]⟩, .int .i64 0, .int .i64 0, .slice none 0 0] 36)) V.heap.size zE) := fun V => BoxC.made _ V zE
    go_enter Try.func4, Try.ntmps4
    go_wp2_with fail
    go_at_call 5
    refine HFi.out.mono ?_
    rintro e w1 ⟨rfl, hb1, hlt1⟩
    have HB1 := Lib.hid hb1
    clear hb1 hlt1 HFi
    go_wp2_with fail
    go_at_call 6
    refine (HFw.out _ HB1.out).mono ?_
    rintro e w2 ⟨rfl, rfl⟩
    clear HFw
    have hTq := tape_newE (w1 := w1) HZn.out (by rw [← HZn.out]; omega) HZ.out HB1.out
    have HTq := Lib.hid hTq
    have hal1 : Below w1.heap.size w1 (w1.alloc (.cells #[.slice za zn zc, .int .i64 0] 29)) := (Below.refl _ w1).alloc (Nat.le_refl _) _
    have HB2 := Lib.hid (HB1.out.trans (hal1.mono HB1.out.size))
    have hsz : (w1.alloc (.cells #[.slice za zn zc, .int .i64 0] 29)).heap.size = w1.heap.size + 1 := by simp
    have HSz := Lib.hid hsz
    have HWl := Lib.hid HB1.out.size
    clear hTq hal1 hsz
    go_wp2_with fail
    go_at_call 11
    generalize (w1.alloc (.cells #[.slice za zn zc, .int .i64 0] 29)) = V2 at *
    generalize w1.heap.size = b at *
    refine (HDa.out V2).mono ?_
    rintro e V3 ⟨ds, dv, rfl, hds, hsd, hb3⟩
    have HDs := Lib.hid hds
    have HSd := Lib.hid hsd
    have HTq3 := Lib.hid (HTq.out.lift hb3)
    have HB3 := Lib.hid (HB2.out.trans (hb3.mono HB2.out.size))
    clear hds hsd hb3 HTq HB2 HDa
    go_upto_region 7 with (first
      | (go_at_call 10; refine (HMk.out 5 ds dv _ b V3.heap.size V3 rfl (by omega) HDs.out HSd.out (fun c hc => by have := HSz.out; omega) HTq3.out (Nat.le_refl _)).mono ?_; rintro e V5 ⟨u, rfl, T, c, rfl, hrep, hok, -, hg5⟩; obtain ⟨ka, kc, aa2, ac2, tk, tn, ti, th, ta, tl, tc, rfl⟩ := hrep.form; have HRep := Lib.hid hrep; have HFit := Lib.hid (fitV_ok hok); have HB5 : Hid (Below w.heap.size w V5) := Below.grown HB3.out hg5 HB3.out.size (fun k hk => by have h1 := Option.some.inj hk; have h2 := HWl.out; omega); clear hrep hok hg5)
      | (refine wpList_storeC rfl _ _ rfl _ _ _ (HMz.out _) rfl rfl sizeEx rfl HRep.out.len.2 ?_; intro w6 hB6 hg6 hs6))
    have hw56 : Below V5.heap.size V5 w6 := Below.grown ((Below.refl _ V5).alloc (Nat.le_refl _) _) hg6 ((Below.refl _ V5).alloc (Nat.le_refl _) _).size (fun k hk => by have h1 := Option.some.inj hk; omega)
    have HR6 : Hid (RepE w6 (fun g => g < V5.heap.size) T _) := (HRep.out.bound.imp (S' := fun g => g < V5.heap.size) (fun g hg => hg.2)).lift hw56
    have HB6 := Lib.hid (HB5.out.trans (hw56.mono HB5.out.size))
    have HBx6 := Lib.hid hB6
    have hz6 : w6.heap.size = V5.heap.size + 1 := by rw [hs6]; simp
    have HZ6 := Lib.hid hz6
    have HWB : Hid (w.heap.size ≤ V5.heap.size) := HB5.out.size
    clear hw56 hB6 hg6 hs6 hz6 HRep HB5 HB3 HTq3 HMk HSz HWl HSd HDs
    generalize V5.heap.size = B at *
    have HVs : Hid (∀ (S : Nat → Prop) (c : List Value) (V : World), RepE V S T c → ∀ (q : List Int) (pv : Value), Ints V pv q → Calls Try.prog 16 #[.agg c.toArray, pv] V fun e w' => ∃ u, e = .returned u ∧ SlG StrE w' (fun _ => True) (visN T q) u ∧ Below V.heap.size V w') := fun S c V h q pv hp => pkVis_any inner_any 100000 99999 (by decide) T HFit.out q S c pv V h hp
    have HRs : Hid (∀ (S : Nat → Prop) (c : List Value) (V : World), RepE V S T c → ∀ (q : List Int) (pv : Value), Ints V pv q → Calls Try.prog 17 #[.agg c.toArray, pv] V fun e w' => ∃ u, e = .returned u ∧ SlG StrE w' (fun _ => True) (visN T q) u ∧ Below V.heap.size V w') := fun S c V h q pv hp => refVis_any 100000 99999 (by decide) T HFit.out q S c pv V h hp
    generalize T.kids.length = kn at *
    generalize T.arms.length = an2 at *
    obtain ⟨b0, b1, b2, b3, b4, b5, b6, b7, b8, b9, b10⟩ := bx11 HBx6.out
    go_upto_region 8 with (refine wpList_storeC rfl _ _ rfl _ _ [.int .i64 T.k, .int .i64 T.p, .string T.n, .int .i64 T.m, .slice ka kn kc, .slice aa2 an2 ac2, .int .i64 tk, .string tn, .int .i64 ti, .int .i64 th, .slice ta tl tc] (HMz.out _) rfl rfl sizeEx rfl HR6.out.len.2 ?_; intro w7 hB7 hg7 hs7)
    have hw67 : Below w6.heap.size w6 w7 := Below.grown ((Below.refl _ w6).alloc (Nat.le_refl _) _) hg7 ((Below.refl _ w6).alloc (Nat.le_refl _) _).size (fun k hk => by have h1 := Option.some.inj hk; omega)
    rw [HZ6.out] at hB7
    have HL0 : Hid (LpSt w B T T [.int .i64 T.k, .int .i64 T.p, .string T.n, .int .i64 T.m, .slice ka kn kc, .slice aa2 an2 ac2, .int .i64 tk, .string tn, .int .i64 ti, .int .i64 th, .slice ta tl tc] (.slice none 0 0) [] w7) := ⟨HBx6.out.lift hw67, HR6.out.lift hw67, ⟨_, hB7, HR6.out.lift hw67⟩, ⟨_, _, HFit.out⟩, rowI_nil _ _, HB6.out.trans (hw67.mono HB6.out.size)⟩
    clear hw67 hB7 hg7 hs7 b0 b1 b2 b3 b4 b5 b6 b7 b8 b9 b10 HBx6 HB6 HR6
    rw [HZ6.out]
    clear HZ6 HB1
    go_wp2_with fail
    go_loopw [12, 13] (fun y i wr => ∃ (j : Nat) (U : Ex) (p : List Int) (pa : Option Addr) (pc : Nat), j ≤ an ∧ i = .int .i64 j ∧ y = .slice pa j pc ∧ Hid (p.length = j) ∧ Hid (LpSt w B T U [.int .i64 T.k, .int .i64 T.p, .string T.n, .int .i64 T.m, .slice ka kn kc, .slice aa2 an2 ac2, .int .i64 tk, .string tn, .int .i64 ti, .int .i64 th, .slice ta tl tc] (.slice pa j pc) p wr)) (fun _ i _ => an - (intOf i).toNat)
    case atStart => exact ⟨0, T, [], none, 0, Nat.zero_le _, rfl, rfl, rfl, HL0⟩
    case round =>
      clear HL0
      obtain ⟨j, U, p, pa, pc, hj, rfl, rfl, HPl, HL⟩ := hrel
      by_cases hlt : j < an
      · obtain ⟨z, hz⟩ : ∃ x, ats[j]? = some x := ⟨_, List.getElem?_eq_getElem (by rw [← HAn.out]; exact hlt)⟩
        obtain ⟨ad, rfl, hcz⟩ := HAc.out j z hz
        obtain ⟨n', m', hn'⟩ := HL.out.fit
        obtain ⟨n'', rfl⟩ := fitV_pos hn'
        have HFt := Lib.hid (fitV_open hn')
        obtain ⟨d, hxb, hxr⟩ := HL.out.xbox
        obtain ⟨ua, uc, va, vc, yk, yn, yi, yh, ya, yl, yc, rfl⟩ := hxr.form
        have hlen : (chN U).length ≤ 200000 := by unfold chN; rw [List.length_append, List.length_map]; have := HFt.out.kids; have := HFt.out.arms; omega
        have HCh : Hid (Calls Try.prog 14 #[.agg #[.int .i64 U.k, .int .i64 U.p, .string U.n, .int .i64 U.m, .slice ua U.kids.length uc, .slice va U.arms.length vc, .int .i64 yk, .string yn, .int .i64 yi, .int .i64 yh, .slice ya yl yc]] wr fun e w' => ∃ a cp, e = .returned (.slice a (chN U).length cp) ∧ RowG ExE w' (wr.heap.size + 1) (fun b => b < B) (.slice a (chN U).length cp) (chN U) ∧ Below wr.heap.size wr w') := (refChildren_any U HFt.out.kids HFt.out.arms (fun b => b < B) _ wr hxr).mono fun e w' ⟨a, cp, h1, h2, h3⟩ => ⟨a, cp, h1, h2.imp (fun b hb => hb.1), h3⟩
        obtain ⟨x0, x1, x2, x3, x4, x5, x6, x7, x8, x9, x10⟩ := bx11 hxb
        have hji : (j : Int) < (an : Int) := by omega
        have HOwn : Hid (∀ k, (Value.slice pa j pc).ownBlock = some k → k < wr.heap.size ∧ ¬ k < B + 2) := fun k e => by have := World.ownsRow.lt HL.out.row k e; exact ⟨this.2, by omega⟩
        have HZc : Hid (∀ V, Below wr.heap.size wr V → V.cell? (ad.add j) = some (.int .i64 z)) := fun V hV => ((HL.out.low.trans (hV.mono HL.out.low.size)).cell (World.block_lt_of_cell? _ _ hcz)).trans hcz
        obtain ⟨q, hq⟩ : ∃ q, q = (chN U).length := ⟨_, rfl⟩
        rw [← hq] at HCh hlen
        have HQl := Lib.hid hq
        clear hq hcz hxb hxr hn' hz
        generalize U.kids.length = k1 at *
        generalize U.arms.length = k2 at *
        by_cases hq0 : q = 0
        · subst hq0
          go_upto_region 16 with (go_at_call 14; refine HCh.out.mono ?_; rintro e w3 ⟨ca, cp, rfl, hsl, hb3⟩; have HL3 := Lib.hid (HL.out.lift hb3); clear hb3 hsl)
          clear x0 x1 x2 x3 x4 x5 x6 x7 x8 x9 x10 HL HCh HOwn HZc
          have HS : Hid (∀ v, Below w3.heap.size w3 v → ((fun v => v.cell? ⟨B, 0, none⟩ = some (.int .i64 T.k) ∧ v.cell? ⟨B, 1, none⟩ = some (.int .i64 T.p) ∧ v.cell? ⟨B, 2, none⟩ = some (.string T.n) ∧ v.cell? ⟨B, 3, none⟩ = some (.int .i64 T.m) ∧ v.cell? ⟨B, 4, none⟩ = some (.slice ka kn kc) ∧ v.cell? ⟨B, 5, none⟩ = some (.slice aa2 an2 ac2) ∧ v.cell? ⟨B, 6, none⟩ = some (.int .i64 tk) ∧ v.cell? ⟨B, 7, none⟩ = some (.string tn) ∧ v.cell? ⟨B, 8, none⟩ = some (.int .i64 ti) ∧ v.cell? ⟨B, 9, none⟩ = some (.int .i64 th) ∧ v.cell? ⟨B, 10, none⟩ = some (.slice ta tl tc) ∧ Below w3.heap.size w3 v) v)) := fun v hv => by
            obtain ⟨b0, b1, b2, b3, b4, b5, b6, b7, b8, b9, b10⟩ := bx11 (HL3.out.box.lift hv)
            exact ⟨b0, b1, b2, b3, b4, b5, b6, b7, b8, b9, b10, hv⟩
          have HP1 : Hid (∀ V, Below w3.heap.size w3 V → Calls Try.prog 16 #[.agg #[.int .i64 T.k, .int .i64 T.p, .string T.n, .int .i64 T.m, .slice ka kn kc, .slice aa2 an2 ac2, .int .i64 tk, .string tn, .int .i64 ti, .int .i64 th, .slice ta tl tc], .slice pa j pc] V fun e w' => ∃ a n c, e = .returned (.slice a n c) ∧ SlG StrE w' (fun _ => True) (visN T p) (.slice a n c) ∧ Below V.heap.size V w') := fun V hV => (HVs.out _ _ V (HL3.out.rep.lift hV) p _ (HL3.out.row.ints.lift hV)).mono fun e w' ⟨u, h1, h2, h3⟩ => by
            obtain ⟨a, c, rfl, -⟩ := slice_form h2
            exact ⟨a, _, c, h1, h2, h3⟩
          have HP2 : Hid (∀ V, Below w3.heap.size w3 V → Calls Try.prog 17 #[.agg #[.int .i64 T.k, .int .i64 T.p, .string T.n, .int .i64 T.m, .slice ka kn kc, .slice aa2 an2 ac2, .int .i64 tk, .string tn, .int .i64 ti, .int .i64 th, .slice ta tl tc], .slice pa j pc] V fun e w' => ∃ a n c, e = .returned (.slice a n c) ∧ SlG StrE w' (fun _ => True) (visN T p) (.slice a n c) ∧ Below V.heap.size V w') := fun V hV => (HRs.out _ _ V (HL3.out.rep.lift hV) p _ (HL3.out.row.ints.lift hV)).mono fun e w' ⟨u, h1, h2, h3⟩ => by
            obtain ⟨a, c, rfl, -⟩ := slice_form h2
            exact ⟨a, _, c, h1, h2, h3⟩
          have HQ1 : Hid (∀ V, Below w3.heap.size w3 V → Calls Try.prog 16 #[.agg #[.int .i64 T.k, .int .i64 T.p, .string T.n, .int .i64 T.m, .slice ka kn kc, .slice aa2 an2 ac2, .int .i64 tk, .string tn, .int .i64 ti, .int .i64 th, .slice ta tl tc], .slice ra rn rc] V fun e w' => ∃ a n c, e = .returned (.slice a n c) ∧ SlG StrE w' (fun _ => True) (visN T rs) (.slice a n c) ∧ Below V.heap.size V w') := fun V hV => (HVs.out _ _ V (HL3.out.rep.lift hV) rs _ (HRw.out.lift (HL3.out.low.trans (hV.mono HL3.out.low.size)))).mono fun e w' ⟨u, h1, h2, h3⟩ => by
            obtain ⟨a, c, rfl, -⟩ := slice_form h2
            exact ⟨a, _, c, h1, h2, h3⟩
          have HQ2 : Hid (∀ V, Below w3.heap.size w3 V → Calls Try.prog 17 #[.agg #[.int .i64 T.k, .int .i64 T.p, .string T.n, .int .i64 T.m, .slice ka kn kc, .slice aa2 an2 ac2, .int .i64 tk, .string tn, .int .i64 ti, .int .i64 th, .slice ta tl tc], .slice ra rn rc] V fun e w' => ∃ a n c, e = .returned (.slice a n c) ∧ SlG StrE w' (fun _ => True) (visN T rs) (.slice a n c) ∧ Below V.heap.size V w') := fun V hV => (HRs.out _ _ V (HL3.out.rep.lift hV) rs _ (HRw.out.lift (HL3.out.low.trans (hV.mono HL3.out.low.size)))).mono fun e w' ⟨u, h1, h2, h3⟩ => by
            obtain ⟨a, c, rfl, -⟩ := slice_form h2
            exact ⟨a, _, c, h1, h2, h3⟩
          have HSm : Hid (∀ (l : List ByteArray) (a a' : Option Addr) (n n' c c' : Nat) (V : World), SlG StrE V (fun _ => True) l (.slice a n c) → SlG StrE V (fun _ => True) l (.slice a' n' c') → Calls Try.prog 15 #[.slice a n c, .slice a' n' c'] V fun e w' => e = .returned (.bool true) ∧ Below V.heap.size V w') := fun l a a' n n' c c' V h1 h2 => same_any l _ _ _ _ V h1 h2
          have HLw := Lib.hid HL3.out.low
          clear HVs HRs HL3
          go_region_held3 (fun v => v.cell? ⟨B, 0, none⟩ = some (.int .i64 T.k) ∧ v.cell? ⟨B, 1, none⟩ = some (.int .i64 T.p) ∧ v.cell? ⟨B, 2, none⟩ = some (.string T.n) ∧ v.cell? ⟨B, 3, none⟩ = some (.int .i64 T.m) ∧ v.cell? ⟨B, 4, none⟩ = some (.slice ka kn kc) ∧ v.cell? ⟨B, 5, none⟩ = some (.slice aa2 an2 ac2) ∧ v.cell? ⟨B, 6, none⟩ = some (.int .i64 tk) ∧ v.cell? ⟨B, 7, none⟩ = some (.string tn) ∧ v.cell? ⟨B, 8, none⟩ = some (.int .i64 ti) ∧ v.cell? ⟨B, 9, none⟩ = some (.int .i64 th) ∧ v.cell? ⟨B, 10, none⟩ = some (.slice ta tl tc) ∧ Below w3.heap.size w3 v)
            (first
              | exact HS.out _ (Below.refl _ _).drew
              | (go_split_ands; exact HS.out _ (keepCall (by assumption) hb)))
            (first
              | (go_at_call 16; (with_reducible refine (HP1.out _ ?_).mono ?_); (go_split_ands; assumption); rintro e w' ⟨a1, n1, c1, rfl, hs1, hb⟩; have HS1 := Lib.hid hs1; clear hs1)
              | (go_at_call 17; (with_reducible refine (HP2.out _ ?_).mono ?_); (go_split_ands; assumption); rintro e w' ⟨a2, n2, c2, rfl, hs2, hb⟩; have HS2 := Lib.hid hs2; clear hs2)
              | (go_at_call 16; (with_reducible refine (HQ1.out _ ?_).mono ?_); (go_split_ands; assumption); rintro e w' ⟨a3, n3, c3, rfl, hs3, hb⟩; have HS3 := Lib.hid hs3; clear hs3)
              | (go_at_call 17; (with_reducible refine (HQ2.out _ ?_).mono ?_); (go_split_ands; assumption); rintro e w' ⟨a4, n4, c4, rfl, hs4, hb⟩; have HS4 := Lib.hid hs4; clear hs4)
              | (go_at_call 15; (with_reducible refine (HSm.out (visN T p) _ _ _ _ _ _ _ ?_ ?_).mono ?_); (first | exact HS1.out | exact HS1.out.lift' hb); (first | exact HS2.out | exact HS2.out.lift' hb); rintro e w' ⟨rfl, hb⟩)
              | (go_at_call 15; (with_reducible refine (HSm.out (visN T rs) _ _ _ _ _ _ _ ?_ ?_).mono ?_); (first | exact HS3.out | exact HS3.out.lift' hb); (first | exact HS4.out | exact HS4.out.lift' hb); rintro e w' ⟨rfl, hb⟩))
          all_goals
            go_split_ands
            have hl : Below w3.heap.size w3 w' := by assumption
            go_wp2
            go_ret
            exact ⟨rfl, HLw.out.trans (hl.mono HLw.out.size)⟩

        · obtain ⟨k, hk⟩ : ∃ k : Nat, z % (q : Int) = k := ⟨(z % (q : Int)).toNat, by have := Int.emod_nonneg z (b := (q : Int)) (by omega); omega⟩
          have hkq : k < q := by have := Int.emod_lt_of_pos z (b := (q : Int)) (by omega); omega
          obtain ⟨V1, hV1⟩ : ∃ V1, (chN U)[k]? = some V1 := ⟨_, List.getElem?_eq_getElem (by rw [← HQl.out]; exact hkq)⟩
          have HC1 := Lib.hid hV1
          have HF1 : Hid (∃ n m, fitV n m V1 = true) := by obtain ⟨-, -, h⟩ := HFt.out.all k V1 hV1; exact ⟨_, _, h⟩
          have HMo : Hid (∀ V : World, Calls Try.prog 7 #[.int .i64 z, .int .i64 q] V fun e w' => e = .returned (.int .i64 k) ∧ V = w') := fun V => by
            have := _root_.Go.Proofs.Ytgfjcpeeoapjlaa.mod_any z q V (by omega) (by omega)
            rwa [hk] at this
          have hq1 : ¬ (q : Int) = 0 := by omega
          have hkqi : (k : Int) < (q : Int) := by omega
          clear hk hV1
          go_upto_region 15 with (first
            | (go_at_call 14; refine HCh.out.mono ?_; rintro e w3 ⟨ca, cp, rfl, hsl, hb3⟩; have HL3 := Lib.hid (HL.out.lift hb3); have HS3 := Lib.hid hsl; have hz3 := HZc.out _ hb3; have HW3 := Lib.hid hb3.size; clear hb3 hsl x0 x1 x2 x3 x4 x5 x6 x7 x8 x9 x10)
            | (go_at_call 7; refine (HMo.out _).mono ?_; rintro e w4 ⟨rfl, rfl⟩))
          obtain ⟨ad5, kb, kd, ab, ae, uk, un, ui, uh, ua', ul, uc', hca, hr5, q0, q1, q2, q3, q4, q5, q6, q7, q8, q9, q10⟩ := rowE_at HS3.out HC1.out
          subst hca
          have HR5 := Lib.hid hr5
          have hne : some (ad5.add (k * 11)).block ≠ (Value.slice pa j pc).ownBlock := by
            intro e
            have h1 := HOwn.out _ e.symm
            have h2 := (HS3.out.lt _ rfl).1
            rw [add_block] at h1
            omega
          have HQ : Hid (∀ V V' : World, Below w3.heap.size w3 V → V.grownBy V' (Value.slice pa j pc).ownBlock → V'.cell? (ad5.add (k * 11)) = some (.int .i64 V1.k) ∧ V'.cell? ⟨(ad5.add (k * 11)).block, (ad5.add (k * 11)).off + 1, none⟩ = some (.int .i64 V1.p) ∧ V'.cell? ⟨(ad5.add (k * 11)).block, (ad5.add (k * 11)).off + 2, none⟩ = some (.string V1.n) ∧ V'.cell? ⟨(ad5.add (k * 11)).block, (ad5.add (k * 11)).off + 3, none⟩ = some (.int .i64 V1.m) ∧ V'.cell? ⟨(ad5.add (k * 11)).block, (ad5.add (k * 11)).off + 4, none⟩ = some (.slice kb V1.kids.length kd) ∧ V'.cell? ⟨(ad5.add (k * 11)).block, (ad5.add (k * 11)).off + 5, none⟩ = some (.slice ab V1.arms.length ae) ∧ V'.cell? ⟨(ad5.add (k * 11)).block, (ad5.add (k * 11)).off + 6, none⟩ = some (.int .i64 uk) ∧ V'.cell? ⟨(ad5.add (k * 11)).block, (ad5.add (k * 11)).off + 7, none⟩ = some (.string un) ∧ V'.cell? ⟨(ad5.add (k * 11)).block, (ad5.add (k * 11)).off + 8, none⟩ = some (.int .i64 ui) ∧ V'.cell? ⟨(ad5.add (k * 11)).block, (ad5.add (k * 11)).off + 9, none⟩ = some (.int .i64 uh) ∧ V'.cell? ⟨(ad5.add (k * 11)).block, (ad5.add (k * 11)).off + 10, none⟩ = some (.slice ua' ul uc')) := fun V V' hV hg =>
            ⟨cell_off hV hg q0 hne, cell_off hV hg q1 hne, cell_off hV hg q2 hne, cell_off hV hg q3 hne, cell_off hV hg q4 hne, cell_off hV hg q5 hne, cell_off hV hg q6 hne, cell_off hV hg q7 hne, cell_off hV hg q8 hne, cell_off hV hg q9 hne, cell_off hV hg q10 hne⟩
          have hA : ∀ X, Below w3.heap.size w3 (w3.alloc X) := fun X => (Below.refl _ w3).alloc (Nat.le_refl _) X
          have HA := Lib.hid hA
          have HAd : Hid (∀ X, Below w3.heap.size w3 (w3.alloc X).drew) := fun X => (hA X).drew
          have HC0 : Hid (∀ Z, (w3.alloc (.cells #[.int .i64 k] Z)).cell? ⟨w3.heap.size, 0, none⟩ = some (.int .i64 k)) := fun Z => (BoxC.made Z w3 [.int .i64 k]).cell 0 _ rfl
          have hjn : j + 1 ≤ 1000000 := by omega
          have HN1 : Hid (j + 1 = p.length + 1) := by show _ = _; rw [HPl.out]
          obtain ⟨p0, p1, p2, p3, p4, p5, p6, p7, p8, p9, p10⟩ := HQ.out _ _ (HA.out (.cells #[.int .i64 k] 3)) (World.grownBy.refl _ _)
          clear hr5 hne hA hz3 HZc HCh HMo HOwn
          go_region_law
            (first
              | ((refine step_pushJ (by rfl) _ _ (by rfl) (B + 2) (.slice pa j pc) p rfl (by first | exact (HL3.out.lift (HAd.out _)).row | exact (HL3.out.lift (HA.out _)).row) w3.heap.size rfl (by first | exact HC0.out _ | simpa using HC0.out _) (j + 1) HN1.out hjn (by first | exact Nat.le_trans HL3.out.lt (HAd.out _).size | exact Nat.le_trans HL3.out.lt (HA.out _).size) ?_); (intro pa4 pc4 w4 hrow4 hg4); (have HL4 : Hid (LpSt w B T U [.int .i64 T.k, .int .i64 T.p, .string T.n, .int .i64 T.m, .slice ka kn kc, .slice aa2 an2 ac2, .int .i64 tk, .string tn, .int .i64 ti, .int .i64 th, .slice ta tl tc] (.slice pa4 (j + 1) pc4) (p ++ [(k : Int)]) w4) := (by first | exact (HL3.out.lift (HAd.out _)).push HWB.out hrow4 hg4 | exact (HL3.out.lift (HA.out _)).push HWB.out hrow4 hg4)); (obtain ⟨q0, q1, q2, q3, q4, q5, q6, q7, q8, q9, q10⟩ := HQ.out _ _ (by first | exact HAd.out _ | exact HA.out _) hg4); (have HR4 : Hid (RepE w4 (fun b => b < B) V1 _) := HR5.out.kept (fun _ h => h) (fun b hb hl => ((hg4.block b (Nat.lt_of_lt_of_le hl (by first | exact (HAd.out _).size | exact (HA.out _).size)) (fun e => by have := (World.ownsRow.lt HL3.out.row _ e.symm).1; omega)).trans (by first | exact (HAd.out _).block b hl | exact (HA.out _).block b hl)))); (obtain ⟨d4, hxb4, hxr4⟩ := HL4.out.xbox); (obtain ⟨sa4, sc4, ta4, tc4, zk4, zn4, zi4, zh4, za4, zl4, zc4, rfl⟩ := hxr4.form); (have HX4 := Lib.hid hxb4); (obtain ⟨e0, e1, e2, e3, e4, e5, e6, e7, e8, e9, e10⟩ := bx11 hxb4); (have f0 := hxb4.free 0); (have f1 := hxb4.free 1); (have f2 := hxb4.free 2); (have f3 := hxb4.free 3); (have f4 := hxb4.free 4); (have f5 := hxb4.free 5); (have f6 := hxb4.free 6); (have f7 := hxb4.free 7); (have f8 := hxb4.free 8); (have f9 := hxb4.free 9); (have f10 := hxb4.free 10); clear hrow4 hg4 hxb4 hxr4))
          all_goals
            obtain ⟨hB6, hg6⟩ := set11 HX4.out (.int .i64 V1.k) (.int .i64 V1.p) (.string V1.n) (.int .i64 V1.m) (.slice kb V1.kids.length kd) (.slice ab V1.arms.length ae) (.int .i64 uk) (.string un) (.int .i64 ui) (.int .i64 uh) (.slice ua' ul uc')
            have HL6 := Lib.hid (HL4.out.stored HWB.out hB6 HR4.out HF1.out hg6)
            clear hB6 hg6 e0 e1 e2 e3 e4 e5 e6 e7 e8 e9 e10 f0 f1 f2 f3 f4 f5 f6 f7 f8 f9 f10 q0 q1 q2 q3 q4 q5 q6 q7 q8 q9 q10 p0 p1 p2 p3 p4 p5 p6 p7 p8 p9 p10
            generalize (((((((((((w4.setCell ⟨B + 1, 0, none⟩ (.int .i64 V1.k)).setCell ⟨B + 1, 1, none⟩ (.int .i64 V1.p)).setCell ⟨B + 1, 2, none⟩ (.string V1.n)).setCell ⟨B + 1, 3, none⟩ (.int .i64 V1.m)).setCell ⟨B + 1, 4, none⟩ (.slice kb V1.kids.length kd)).setCell ⟨B + 1, 5, none⟩ (.slice ab V1.arms.length ae)).setCell ⟨B + 1, 6, none⟩ (.int .i64 uk)).setCell ⟨B + 1, 7, none⟩ (.string un)).setCell ⟨B + 1, 8, none⟩ (.int .i64 ui)).setCell ⟨B + 1, 9, none⟩ (.int .i64 uh)).setCell ⟨B + 1, 10, none⟩ (.slice ua' ul uc')) = w6 at *
            have HPl1 : Hid ((p ++ [(k : Int)]).length = j + 1) := by show _ = _; rw [List.length_append, HPl.out]; rfl
            go_wp2
            go_roundw
            case rel => exact ⟨j + 1, V1, p ++ [(k : Int)], pa4, pc4, hlt, by go_num, rfl, HPl1, HL6⟩
            case measure => simp [intOf]; omega
      · generalize hW : wr = W at *
        go_upto_region 16 with fail
        have HS : Hid (∀ v, Below W.heap.size W v → ((fun v => v.cell? ⟨B, 0, none⟩ = some (.int .i64 T.k) ∧ v.cell? ⟨B, 1, none⟩ = some (.int .i64 T.p) ∧ v.cell? ⟨B, 2, none⟩ = some (.string T.n) ∧ v.cell? ⟨B, 3, none⟩ = some (.int .i64 T.m) ∧ v.cell? ⟨B, 4, none⟩ = some (.slice ka kn kc) ∧ v.cell? ⟨B, 5, none⟩ = some (.slice aa2 an2 ac2) ∧ v.cell? ⟨B, 6, none⟩ = some (.int .i64 tk) ∧ v.cell? ⟨B, 7, none⟩ = some (.string tn) ∧ v.cell? ⟨B, 8, none⟩ = some (.int .i64 ti) ∧ v.cell? ⟨B, 9, none⟩ = some (.int .i64 th) ∧ v.cell? ⟨B, 10, none⟩ = some (.slice ta tl tc) ∧ Below W.heap.size W v) v)) := fun v hv => by
          obtain ⟨b0, b1, b2, b3, b4, b5, b6, b7, b8, b9, b10⟩ := bx11 (HL.out.box.lift hv)
          exact ⟨b0, b1, b2, b3, b4, b5, b6, b7, b8, b9, b10, hv⟩
        have HP1 : Hid (∀ V, Below W.heap.size W V → Calls Try.prog 16 #[.agg #[.int .i64 T.k, .int .i64 T.p, .string T.n, .int .i64 T.m, .slice ka kn kc, .slice aa2 an2 ac2, .int .i64 tk, .string tn, .int .i64 ti, .int .i64 th, .slice ta tl tc], .slice pa j pc] V fun e w' => ∃ a n c, e = .returned (.slice a n c) ∧ SlG StrE w' (fun _ => True) (visN T p) (.slice a n c) ∧ Below V.heap.size V w') := fun V hV => (HVs.out _ _ V (HL.out.rep.lift hV) p _ (HL.out.row.ints.lift hV)).mono fun e w' ⟨u, h1, h2, h3⟩ => by
          obtain ⟨a, c, rfl, -⟩ := slice_form h2
          exact ⟨a, _, c, h1, h2, h3⟩
        have HP2 : Hid (∀ V, Below W.heap.size W V → Calls Try.prog 17 #[.agg #[.int .i64 T.k, .int .i64 T.p, .string T.n, .int .i64 T.m, .slice ka kn kc, .slice aa2 an2 ac2, .int .i64 tk, .string tn, .int .i64 ti, .int .i64 th, .slice ta tl tc], .slice pa j pc] V fun e w' => ∃ a n c, e = .returned (.slice a n c) ∧ SlG StrE w' (fun _ => True) (visN T p) (.slice a n c) ∧ Below V.heap.size V w') := fun V hV => (HRs.out _ _ V (HL.out.rep.lift hV) p _ (HL.out.row.ints.lift hV)).mono fun e w' ⟨u, h1, h2, h3⟩ => by
          obtain ⟨a, c, rfl, -⟩ := slice_form h2
          exact ⟨a, _, c, h1, h2, h3⟩
        have HQ1 : Hid (∀ V, Below W.heap.size W V → Calls Try.prog 16 #[.agg #[.int .i64 T.k, .int .i64 T.p, .string T.n, .int .i64 T.m, .slice ka kn kc, .slice aa2 an2 ac2, .int .i64 tk, .string tn, .int .i64 ti, .int .i64 th, .slice ta tl tc], .slice ra rn rc] V fun e w' => ∃ a n c, e = .returned (.slice a n c) ∧ SlG StrE w' (fun _ => True) (visN T rs) (.slice a n c) ∧ Below V.heap.size V w') := fun V hV => (HVs.out _ _ V (HL.out.rep.lift hV) rs _ (HRw.out.lift (HL.out.low.trans (hV.mono HL.out.low.size)))).mono fun e w' ⟨u, h1, h2, h3⟩ => by
          obtain ⟨a, c, rfl, -⟩ := slice_form h2
          exact ⟨a, _, c, h1, h2, h3⟩
        have HQ2 : Hid (∀ V, Below W.heap.size W V → Calls Try.prog 17 #[.agg #[.int .i64 T.k, .int .i64 T.p, .string T.n, .int .i64 T.m, .slice ka kn kc, .slice aa2 an2 ac2, .int .i64 tk, .string tn, .int .i64 ti, .int .i64 th, .slice ta tl tc], .slice ra rn rc] V fun e w' => ∃ a n c, e = .returned (.slice a n c) ∧ SlG StrE w' (fun _ => True) (visN T rs) (.slice a n c) ∧ Below V.heap.size V w') := fun V hV => (HRs.out _ _ V (HL.out.rep.lift hV) rs _ (HRw.out.lift (HL.out.low.trans (hV.mono HL.out.low.size)))).mono fun e w' ⟨u, h1, h2, h3⟩ => by
          obtain ⟨a, c, rfl, -⟩ := slice_form h2
          exact ⟨a, _, c, h1, h2, h3⟩
        have HSm : Hid (∀ (l : List ByteArray) (a a' : Option Addr) (n n' c c' : Nat) (V : World), SlG StrE V (fun _ => True) l (.slice a n c) → SlG StrE V (fun _ => True) l (.slice a' n' c') → Calls Try.prog 15 #[.slice a n c, .slice a' n' c'] V fun e w' => e = .returned (.bool true) ∧ Below V.heap.size V w') := fun l a a' n n' c c' V h1 h2 => same_any l _ _ _ _ V h1 h2
        have HLw := Lib.hid HL.out.low
        clear HVs HRs HL
        go_region_held3 (fun v => v.cell? ⟨B, 0, none⟩ = some (.int .i64 T.k) ∧ v.cell? ⟨B, 1, none⟩ = some (.int .i64 T.p) ∧ v.cell? ⟨B, 2, none⟩ = some (.string T.n) ∧ v.cell? ⟨B, 3, none⟩ = some (.int .i64 T.m) ∧ v.cell? ⟨B, 4, none⟩ = some (.slice ka kn kc) ∧ v.cell? ⟨B, 5, none⟩ = some (.slice aa2 an2 ac2) ∧ v.cell? ⟨B, 6, none⟩ = some (.int .i64 tk) ∧ v.cell? ⟨B, 7, none⟩ = some (.string tn) ∧ v.cell? ⟨B, 8, none⟩ = some (.int .i64 ti) ∧ v.cell? ⟨B, 9, none⟩ = some (.int .i64 th) ∧ v.cell? ⟨B, 10, none⟩ = some (.slice ta tl tc) ∧ Below W.heap.size W v)
          (first
            | exact HS.out _ (Below.refl _ _).drew
            | (go_split_ands; exact HS.out _ (keepCall (by assumption) hb)))
          (first
            | (go_at_call 16; (with_reducible refine (HP1.out _ ?_).mono ?_); (go_split_ands; assumption); rintro e w' ⟨a1, n1, c1, rfl, hs1, hb⟩; have HS1 := Lib.hid hs1; clear hs1)
            | (go_at_call 17; (with_reducible refine (HP2.out _ ?_).mono ?_); (go_split_ands; assumption); rintro e w' ⟨a2, n2, c2, rfl, hs2, hb⟩; have HS2 := Lib.hid hs2; clear hs2)
            | (go_at_call 16; (with_reducible refine (HQ1.out _ ?_).mono ?_); (go_split_ands; assumption); rintro e w' ⟨a3, n3, c3, rfl, hs3, hb⟩; have HS3 := Lib.hid hs3; clear hs3)
            | (go_at_call 17; (with_reducible refine (HQ2.out _ ?_).mono ?_); (go_split_ands; assumption); rintro e w' ⟨a4, n4, c4, rfl, hs4, hb⟩; have HS4 := Lib.hid hs4; clear hs4)
            | (go_at_call 15; (with_reducible refine (HSm.out (visN T p) _ _ _ _ _ _ _ ?_ ?_).mono ?_); (first | exact HS1.out | exact HS1.out.lift' hb); (first | exact HS2.out | exact HS2.out.lift' hb); rintro e w' ⟨rfl, hb⟩)
            | (go_at_call 15; (with_reducible refine (HSm.out (visN T rs) _ _ _ _ _ _ _ ?_ ?_).mono ?_); (first | exact HS3.out | exact HS3.out.lift' hb); (first | exact HS4.out | exact HS4.out.lift' hb); rintro e w' ⟨rfl, hb⟩))
        all_goals
          go_split_ands
          have hl : Below W.heap.size W w' := by assumption
          go_wp2
          go_ret
          exact ⟨rfl, HLw.out.trans (hl.mono HLw.out.size)⟩
end Go.Proofs.Ytgfjcpeeoapjlaa

/- The law ScopeVisible returns true at every input, and every argument reads behind the call as it read before. No condition. -/
namespace Go.Proofs.Ytgfjcpeeoapjlaa.scopeVisible
open Go.ChangeShapes Go.WideShapes Go.ChangeAt Go.ChangeMaps Go.RowKit

set_option maxRecDepth 100000 in
/-- What the walk gives for every argument and every world. -/
theorem contract (H : Type) (enc : TypeId × Value → H) (W : World) (base : Nat) (args : Array Value) (ds gs : List (DataW H)) (before : List MemPlace)
    (hval : ∀ (j : Nat) t v, Try.f4.params[j]? = some t → args[j]? = some v → Value.okWide Try.prog W .any base t v)
    (hW : DataW.Whole enc Try.prog Try.f4.params.toList Rows.scopeVisibleSpec.vars false W args.toList ds gs before) :
    Calls Try.prog 4 args W fun e W' => ∃ v, e = .returned v ∧ Rows.scopeVisibleSpec.post enc Try.prog Try.f4 false true false false W args v W' := by
  have hW' := hW
  obtain ⟨p, q, hA0, hV, rfl, hfz, hnd⟩ := hW
  have hA : DataW.TrodAll enc Try.prog W 0 (fun _ => true) true Try.f4.params.toList args.toList ds p := hA0
  rw [Try.params4] at hA hval
  obtain ⟨v0, vs0, d0, ds0, p0, q0, hargs, rfl, rfl, h0, r0⟩ := trodAll_cons hA
  obtain ⟨v1, vs1, d1, ds1, p1, q1, rfl, rfl, rfl, h1, r1⟩ := trodAll_cons r0
  obtain ⟨v2, vs2, d2, ds2, p2, q2, rfl, rfl, rfl, h2, r2⟩ := trodAll_cons r1
  obtain ⟨v3, vs3, d3, ds3, p3, q3, rfl, rfl, rfl, h3, r3⟩ := trodAll_cons r2
  obtain ⟨rfl, rfl, rfl⟩ := trodAll_nil r3
  obtain rfl : args = #[v0, v1, v2, v3] := by cases args; simp_all
  obtain ⟨rfl, rfl⟩ := trodVars_none hV
  obtain ⟨bits, rfl, rfl, rfl, wbits⟩ := open_int Try.underlying3 (hval 0 3 v0 rfl rfl) h0
  obtain ⟨zs, wzs⟩ := ints_open (hval 1 22 v1 rfl rfl) h1
  obtain ⟨ats, wats⟩ := ints_open (hval 2 22 v2 rfl rfl) h2
  obtain ⟨raw, wraw⟩ := ints_open (hval 3 22 v3 rfl rfl) h3
  refine (scopeVisible_any bits v1 zs v2 ats v3 raw W wzs wats wraw).mono fun e W' ⟨he, hb⟩ => ?_
  subst he
  exact law_post rfl (by kernel_rfl) rfl hW' rfl rfl rfl hb

set_option maxRecDepth 100000 in
theorem lifted (os : Os) (started : os.Started) (H : Type) (enc : TypeId × Value → H) :
    ReturnsInHanded {} Try.checked os 4 .any (Rows.scopeVisibleSpec.pre6 enc Try.prog Try.f4 Rows.scopeVisibleRow.domain false) (Rows.scopeVisibleSpec.post enc Try.prog Try.f4 false true false false) := by
  refine returnsInHanded_of_change (C := Try.checked) Try.own started (by kernel_rfl) Try.func4
    (ChangeSpec.witness6 (enc := enc) (C := Try.checked) false ⟨#[], #[.int .i64 0, .slice none 0 0, .slice none 0 0, .slice none 0 0], []⟩ 8 (by kernel_rfl) (by kernel_rfl) (by kernel_rfl) (by kernel_rfl)) ?_
  intro W base args ds gs before hval hW _ _
  exact contract H enc W base args ds gs before hval hW

theorem said : Rows.ScopeVisibleSaid :=
  OpenClaim.holds_of_wide 4 Try.f4 rfl rfl rfl rfl rfl rfl rfl ⟨rfl, rfl, rfl, rfl, rfl⟩ rfl rfl rfl rfl rfl (by kernel_rfl) Try.func4 (by kernel_rfl)
    (of_decide_eq_true (by kernel_rfl)) (by unfold Func.isWrapper; first | (rw [if_pos (by decide +kernel)]; kernel_rfl) | (rw [if_neg (by decide +kernel)]; exact ⟨rfl, rfl⟩))
    (fun os started H enc _ => lifted os started H enc)

#print axioms said
end Go.Proofs.Ytgfjcpeeoapjlaa.scopeVisible
