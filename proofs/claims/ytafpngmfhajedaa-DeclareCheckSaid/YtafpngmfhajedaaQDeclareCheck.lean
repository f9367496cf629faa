import Derived.Test.YtafpngmfhajedaaQN
import Derived.Test.YtafpngmfhajedaaQG
import Derived.Test.YtafpngmfhajedaaQT
import Derived.Laws.AppendOwnNone
/- The law DeclareCheck returns true at every input, if the law's made does as it is to do. -/
namespace Go.Proofs.Ytafpngmfhajedaa
open Go.RowKit Go.Sort Go.Shelf Go.Maps Mth

/-- An operation whose guard says yes is as one without a guard. -/
theorem wpList_unguard {P : Program} {w : World} {ops : Array Oper} {rest : List Oper} {o : Oper} {a : Act} {Q : Exit → Act → World → Prop} (hw : Region.wanted o (yielded ops a.tmps) = true) (h : wpList P ops Q ({ o with guard := none } :: rest) a w) : wpList P ops Q (o :: rest) a w := by
  have h' : if Region.wanted { o with guard := none } (yielded ops a.tmps) then Oper.wp P { o with guard := none } a w (wpList P ops Q rest) Q ∨ (Oper.asks P { o with guard := none } a w ∧ LetsOut Q) else wpList P ops Q rest (a.put o.dst undef) w := h
  rw [if_pos (by simp [Region.wanted])] at h'
  show if Region.wanted o (yielded ops a.tmps) then Oper.wp P o a w (wpList P ops Q rest) Q ∨ (Oper.asks P o a w ∧ LetsOut Q) else wpList P ops Q rest (a.put o.dst undef) w
  rw [if_pos hw]
  exact h'
/-- An append of the elements of a list, nil or not. -/
theorem wpList_pushZ {α : Type} {w : World} {ops : Array Oper} {rest : List Oper} {o : Oper} {a : Act} {Q : Exit → Act → World → Prop} (E : El α) (hgd : o.guard = none) (s x : Operand)
    (ho : o.op = .call { callee := .builtin .append, args := #[s, x], argTypes := #[E.t, E.t] })
    (base : Nat) (S : Nat → Prop) (v : Value) (xs : List α) (hs : a.eval s = v) (hrow : RowG E w base S v xs) (lv : Value) (hx : a.eval x = lv) (news : List α)
    (hl : (lv = .slice none 0 0 ∧ news = []) ∨ ∃ ad c, lv = .slice (some ad) news.length c ∧ ∀ (j : Nat) (y : α), news[j]? = some y → ∃ c : List Value, (∀ (m : Nat) (u : Value), c[m]? = some u → w.cell? (ad.add (j * E.k + m)) = some u) ∧ E.rep w (fun b => S b ∧ some b ≠ v.ownBlock) y c)
    (hb : xs.length + news.length ≤ 1000000) (hbase : base ≤ w.heap.size)
    (hK : ∀ (v' : Value) (w' : World), RowG E w' base S v' (xs ++ news) → w.grownBy w' v.ownBlock → wpList Try.prog ops Q rest (a.put o.dst v') w') :
    wpList Try.prog ops Q (o :: rest) a w := by
  rcases hl with ⟨rfl, rfl⟩ | ⟨ad, c, rfl, hc⟩
  · obtain ⟨i, z, hi, hz, hk, hby, hzs⟩ := E.info
    have hrow' := hrow
    obtain ⟨L, hown, hl, hr⟩ := hrow'
    exact wpList_append_own_none hgd s x E.t ho base E.e i E.k E.und hi v xs.length L.flatten hs hown hx (hK v w (by simpa using hrow) ⟨rfl, rfl, rfl, Nat.le_refl _, fun _ _ _ => rfl⟩)
  · exact wpList_pushM E hgd s x ho base S v xs hs hrow ad news.length c hx news rfl hc _ rfl hb hbase fun a' c' w' h1 h2 => hK _ w' h1 h2
set_option maxRecDepth 100000 in
set_option maxHeartbeats 6400000 in
theorem declareCheck_of (HMA : MadeAt) (cv : Value) (zs : List Int) (bits : Int) (w : World) (hz : Ints w cv zs) :
    Calls Try.prog 3 #[cv, .int .i64 bits] w fun e w' => e = .returned (.bool true) ∧ Below w.heap.size w w' := by
  have HFi := Lib.hid (fun w => first9_any w)
  have HFw : Hid (∀ w', Below w.heap.size w w' → Calls Try.prog 8 #[cv] w' fun e w'' => e = .returned (.bool (decide (zs.length ≤ 60))) ∧ w' = w'') := fun w' hb => few_any cv zs w' (hz.lift hb)
  have HMd : Hid (zs.length ≤ 60 → ∀ V, Below w.heap.size w V → w.heap.size < V.heap.size → Calls Try.prog 9 #[cv] V fun e w' => ∃ a c ds, e = .returned (.slice a ds.length c) ∧ GoodM ds ∧ SlG DatE w' (fun _ => True) ds (.slice a ds.length c) ∧ Below V.heap.size V w' ∧ ((Value.slice a ds.length c = .slice none 0 0 ∧ ds = []) ∨ ∃ ad, a = some ad)) := fun h V hV hl => (HMA cv zs V w (by omega) hz hV hl).mono fun e w' ⟨v, ds, h1, h2, h3, h4, h5⟩ => by
    obtain ⟨a, c, rfl, -⟩ := slice_form h3
    refine ⟨a, c, ds, h1, h2, h3, h4, ?_⟩
    rcases h5 with h5 | ⟨ad, m, c', h5⟩
    · refine .inl ⟨h5, ?_⟩
      simp only [Value.slice.injEq] at h5
      exact List.eq_nil_of_length_eq_zero h5.2.1
    · simp only [Value.slice.injEq] at h5
      exact .inr ⟨ad, h5.1⟩
  obtain ⟨ca, cc, rfl, -, -, -⟩ := hz
  generalize zs.length = zn at *
  clear HMA
  cases hfw : decide (zn ≤ 60)
  all_goals
    rw [hfw] at HFw
    have HFwp := Lib.hid hfw
    clear hfw
    go_enter Try.func3, Try.ntmps3
    go_wp2_with fail
    go_at_call 7
    refine (HFi.out _).mono ?_
    rintro e w1 ⟨rfl, hb1, hs1⟩
    go_wp2_with (go_at_call 8; refine (HFw.out _ hb1).mono ?_; rintro e w2 ⟨rfl, rfl⟩)
  any_goals (go_ret; exact ⟨rfl, hb1⟩)
  refine (HMd.out (of_decide_eq_true HFwp.out) w1 hb1 hs1).mono ?_
  rintro e w2 ⟨a1, c1, ds, rfl, hM, hd, hb2, hn⟩
  have HB2 := Lib.hid (hb1.trans (hb2.mono hb1.size))
  have HLs := Lib.hid hd.bound
  have HN := Lib.hid hn
  have HCa : Hid (∀ V, Below w2.heap.size w2 V → Calls Try.prog 10 #[.slice a1 ds.length c1] V fun e w' => e = .returned (.agg #[.int .i64 (chk ds).1, .int .i64 (chk ds).2]) ∧ Below V.heap.size V w') := fun V hV => check_any ds hM.good hM.names _ _ V (HLs.out.lift' hV)
  have HCb : Hid (∀ V, Below w2.heap.size w2 V → Calls Try.prog 11 #[.slice a1 ds.length c1] V fun e w' => e = .returned (.agg #[.int .i64 (chk ds).1, .int .i64 (chk ds).2]) ∧ Below V.heap.size V w') := fun V hV => refCheck_any ds hM.good hM.flat _ _ V (HLs.out.lift' hV)
  have HD : Hid (∀ V, Calls Try.prog 12 #[.int .i64 bits] V fun e w' => ∃ a c, e = .returned (.slice a (dsOf bits).length c) ∧ OwnD V w' (dsOf bits) (.slice a (dsOf bits).length c) ∧ Below V.heap.size V w') := fun V => (datasB_any bits V).mono fun e w' ⟨dv, h1, h2, h3⟩ => by
    obtain ⟨a, c, rfl, -⟩ := slice_form h2.slG
    exact ⟨a, c, h1, h2, h3⟩
  have HCc : Hid (∀ V V0 dv, OwnD V0 V (dsOf bits) dv → Calls Try.prog 10 #[dv] V fun e w' => e = .returned (.agg #[.int .i64 0, .int .i64 (chk (dsOf bits)).2]) ∧ Below V.heap.size V w') := fun V V0 dv h => by
    have := check_any (dsOf bits) (dsOf_good bits) (dsOf_goodN bits) dv _ V h.slG
    unfold fltV at this
    rwa [chk_dsOf] at this
  have hl := (dsOf_some bits).1
  have hlen : (dsOf bits ++ ds).length ≤ 1000 := by rw [List.length_append]; have := hM.num; omega
  have hGD := (dsOf_good bits).append hM.good hlen
  have hGN := (dsOf_goodN bits).append hM.names
  have hFl : ∀ d ∈ dsOf bits ++ ds, ∀ c ∈ d.ctors, ∀ f ∈ c.fields, flatT f = true := fun d hd => (List.mem_append.1 hd).elim (dsOf_flat bits d) (hM.flat d)
  have HCd : Hid (∀ V base dv, RowG DatE V base (fun _ => True) dv (dsOf bits ++ ds) → Calls Try.prog 10 #[dv] V fun e w' => e = .returned (.agg #[.int .i64 (chk (dsOf bits ++ ds)).1, .int .i64 (chk (dsOf bits ++ ds)).2]) ∧ Below V.heap.size V w') := fun V base dv h => check_any _ hGD hGN dv (fun _ => True) V (h.slG (fun _ _ => trivial) (fun _ _ => trivial))
  have HCe : Hid (∀ V base dv, RowG DatE V base (fun _ => True) dv (dsOf bits ++ ds) → Calls Try.prog 11 #[dv] V fun e w' => e = .returned (.agg #[.int .i64 (chk (dsOf bits ++ ds)).1, .int .i64 (chk (dsOf bits ++ ds)).2]) ∧ Below V.heap.size V w') := fun V base dv h => refCheck_any _ hGD hFl dv (fun _ => True) V (h.slG (fun _ _ => trivial) (fun _ _ => trivial))
  have HLn : Hid ((dsOf bits).length + ds.length ≤ 1000000) := by show _ ≤ _; rw [List.length_append] at hlen; omega
  -- what an append of the made list wants
  have HNw : Hid (∀ V0 V base v, Below w2.heap.size w2 V0 → Below V0.heap.size V0 V → V0.heap.size ≤ base → RowG DatE V base (fun _ => True) v (dsOf bits) → (Value.slice a1 ds.length c1 = .slice none 0 0 ∧ ds = []) ∨ ∃ ad c, Value.slice a1 ds.length c1 = .slice (some ad) ds.length c ∧ ∀ (j : Nat) (y : Dat), ds[j]? = some y → ∃ c : List Value, (∀ (m : Nat) (u : Value), c[m]? = some u → V.cell? (ad.add (j * DatE.k + m)) = some u) ∧ DatE.rep V (fun b => True ∧ some b ≠ v.ownBlock) y c) := fun V0 V base v h1 h2 h3 h4 => by
    rcases HN.out with h | ⟨ad, rfl⟩
    · exact .inl h
    · refine .inr ⟨ad, c1, rfl, slG_news ((HLs.out.lift' h1).lift' h2) fun b hb => ⟨trivial, fun e => ?_⟩⟩
      have := (RowG.lt h4 b e.symm).1
      have := hb.2
      have := h1.size
      omega
  clear hl hlen hGD hGN hFl hM hd hb1 hs1 hb2 hn HMd HFw HFwp HFi HLs
  generalize (chk ds).1 = p1 at *
  generalize (chk ds).2 = p2 at *
  generalize (chk (dsOf bits ++ ds)).1 = r1 at *
  generalize (chk (dsOf bits ++ ds)).2 = r2 at *
  generalize (chk (dsOf bits)).2 = q2 at *
  have hf : ∀ w, (Instr.field 29 (.agg #[.int .i64 0, .int .i64 q2]) 0).run Try.prog w = .ok (.int .i64 0) w := Try.fltErr 0 q2
  go_wp2_with (first
    | (go_at_call 10; refine (HCa.out _ (Below.refl _ _)).mono ?_; rintro e w3 ⟨rfl, hb3⟩; have HB3 := Lib.hid hb3; clear hb3)
    | (go_at_call 11; refine (HCb.out _ HB3.out).mono ?_; rintro e w4 ⟨rfl, hb4⟩; have HB4 := Lib.hid (HB3.out.trans (hb4.mono HB3.out.size)); clear hb4))
  have tok : True := trivial
  refine (HD.out w4).mono ?_
  rintro e w5 ⟨a5, c5, rfl, ho5, hb5⟩
  have HO5 := Lib.hid ho5
  have HB5 := Lib.hid (HB4.out.trans (hb5.mono HB4.out.size))
  clear ho5 hb5
  go_wp2_with fail
  go_at_call 10
  refine (HCc.out _ _ _ HO5.out).mono ?_
  rintro e w6 ⟨rfl, hb6⟩
  have HB6 := Lib.hid (HB5.out.trans (hb6.mono HB5.out.size))
  clear hb6 HO5
  go_wp2_with fail
  go_at_call 12
  refine (HD.out w6).mono ?_
  rintro e w7 ⟨a7, c7, rfl, ho7, hb7⟩
  have HO7 := Lib.hid ho7
  have HBd7 := Lib.hid hb7
  clear ho7 hb7
  go_wp2_with (at_builtin; (obtain ⟨base7, k17, k27, hrow7⟩ := HO7.out); (refine wpList_unguard (by rfl) ?_); (refine wpList_pushZ DatE (by rfl) _ _ rfl base7 (fun _ => True) _ (dsOf bits) rfl (hrow7.imp (fun _ _ => trivial)) (.slice a1 ds.length c1) rfl ds (HNw.out w6 _ base7 _ HB6.out HBd7.out k17 (hrow7.imp (fun _ _ => trivial))) HLn.out k27 ?_); intro v7 x7 hr7 hg7; have HR7 := Lib.hid hr7; have HX7 : Hid (Below w2.heap.size w2 x7) := Below.grown (HB6.out.trans (HBd7.out.mono HB6.out.size)) hg7 (Nat.le_trans HB6.out.size HBd7.out.size) (fun k e => by have h1 := (hrow7.lt k e).1; have h2 := HB6.out.size; omega); clear hr7 hg7 hrow7 k17 k27)
  go_at_call 10
  refine (HCd.out _ _ _ HR7.out).mono ?_
  rintro e w8 ⟨rfl, hb8⟩
  have HB8 := Lib.hid (HX7.out.trans (hb8.mono HX7.out.size))
  clear hb8 HR7 HX7 HO7 HBd7
  go_wp2_with fail
  go_at_call 12
  refine (HD.out w8).mono ?_
  rintro e w9 ⟨a9, c9, rfl, ho9, hb9⟩
  have HO9 := Lib.hid ho9
  have HBd9 := Lib.hid hb9
  clear ho9 hb9
  go_wp2_with (at_builtin; (obtain ⟨base9, k19, k29, hrow9⟩ := HO9.out); (refine wpList_unguard (by rfl) ?_); (refine wpList_pushZ DatE (by rfl) _ _ rfl base9 (fun _ => True) _ (dsOf bits) rfl (hrow9.imp (fun _ _ => trivial)) (.slice a1 ds.length c1) rfl ds (HNw.out w8 _ base9 _ HB8.out HBd9.out k19 (hrow9.imp (fun _ _ => trivial))) HLn.out k29 ?_); intro v9 x9 hr9 hg9; have HR9 := Lib.hid hr9; have HX9 : Hid (Below w2.heap.size w2 x9) := Below.grown (HB8.out.trans (HBd9.out.mono HB8.out.size)) hg9 (Nat.le_trans HB8.out.size HBd9.out.size) (fun k e => by have h1 := (hrow9.lt k e).1; have h2 := HB8.out.size; omega); clear hr9 hg9 hrow9 k19 k29)
  go_at_call 11
  refine (HCe.out _ _ _ HR9.out).mono ?_
  rintro e wa ⟨rfl, hba⟩
  have HBa := Lib.hid (HX9.out.trans (hba.mono HX9.out.size))
  clear hba HR9 HX9 HO9 HBd9
  go_wp2
  go_ret
  exact ⟨rfl, HB2.out.trans (HBa.out.mono HB2.out.size)⟩
end Go.Proofs.Ytafpngmfhajedaa

/- The law DeclareCheck returns true at every input, and every argument reads behind the call as it read before. No condition. -/
namespace Go.Proofs.Ytafpngmfhajedaa.declareCheck
open Go.ChangeShapes Go.WideShapes Go.ChangeAt Go.ChangeMaps Go.RowKit

set_option maxRecDepth 100000 in
/-- What the walk gives for every argument and every world. -/
theorem contract (H : Type) (enc : TypeId × Value → H) (W : World) (base : Nat) (args : Array Value) (ds gs : List (DataW H)) (before : List MemPlace)
    (hval : ∀ (j : Nat) t v, Try.f3.params[j]? = some t → args[j]? = some v → Value.okWide Try.prog W .any base t v)
    (hW : DataW.Whole enc Try.prog Try.f3.params.toList Rows.declareCheckSpec.vars false W args.toList ds gs before) :
    Calls Try.prog 3 args W fun e W' => ∃ v, e = .returned v ∧ Rows.declareCheckSpec.post enc Try.prog Try.f3 false true false false W args v W' := by
  have hW' := hW
  obtain ⟨p, q, hA0, hV, rfl, hfz, hnd⟩ := hW
  have hA : DataW.TrodAll enc Try.prog W 0 (fun _ => true) true Try.f3.params.toList args.toList ds p := hA0
  rw [Try.params3] at hA hval
  obtain ⟨v0, vs0, d0, ds0, p0, q0, hargs, rfl, rfl, h0, r0⟩ := trodAll_cons hA
  obtain ⟨v1, vs1, d1, ds1, p1, q1, rfl, rfl, rfl, h1, r1⟩ := trodAll_cons r0
  obtain ⟨rfl, rfl, rfl⟩ := trodAll_nil r1
  obtain rfl : args = #[v0, v1] := by cases args; simp_all
  obtain ⟨rfl, rfl⟩ := trodVars_none hV
  obtain ⟨zs, wzs⟩ := ints_open (hval 0 22 v0 rfl rfl) h0
  obtain ⟨bits, rfl, rfl, rfl, wbits⟩ := open_int Try.underlying3 (hval 1 3 v1 rfl rfl) h1
  refine (declareCheck_of made9_any v0 zs bits W wzs).mono fun e W' ⟨he, hb⟩ => ?_
  subst he
  exact law_post rfl (by kernel_rfl) rfl hW' rfl rfl rfl hb

set_option maxRecDepth 100000 in
theorem lifted (os : Os) (started : os.Started) (H : Type) (enc : TypeId × Value → H) :
    ReturnsInHanded {} Try.checked os 3 .any (Rows.declareCheckSpec.pre6 enc Try.prog Try.f3 Rows.declareCheckRow.domain false) (Rows.declareCheckSpec.post enc Try.prog Try.f3 false true false false) := by
  refine returnsInHanded_of_change (C := Try.checked) Try.own started (by kernel_rfl) Try.func3
    (ChangeSpec.witness6 (enc := enc) (C := Try.checked) false ⟨#[], #[.slice none 0 0, .int .i64 0], []⟩ 8 (by kernel_rfl) (by kernel_rfl) (by kernel_rfl) (by kernel_rfl)) ?_
  intro W base args ds gs before hval hW _ _
  exact contract H enc W base args ds gs before hval hW

theorem said : Rows.DeclareCheckSaid :=
  OpenClaim.holds_of_wide 3 Try.f3 rfl rfl rfl rfl rfl rfl rfl ⟨rfl, rfl, rfl, rfl, rfl⟩ rfl rfl rfl rfl rfl (by kernel_rfl) Try.func3 (by kernel_rfl)
    (of_decide_eq_true (by kernel_rfl)) (by unfold Func.isWrapper; first | (rw [if_pos (by decide +kernel)]; kernel_rfl) | (rw [if_neg (by decide +kernel)]; exact ⟨rfl, rfl⟩))
    (fun os started H enc _ => lifted os started H enc)

#print axioms said
end Go.Proofs.Ytafpngmfhajedaa.declareCheck
