/- The contract of the maker's Type: what holds of the leaves holds of what is made of them. -/
import Derived.Test.YtahiefgfhpkoeaaQB
namespace Go.Proofs.Ytahiefgfhpkoeaa
open Go.RowKit Go.Sort Go.Shelf Go.Maps Mth

mutual
/-- Each node that is no constructor passes a test. -/
def allN (Q : Ty → Bool) : Ty → Bool
  | .mk k n i h ts => (k == 4 || Q (.mk k n i h ts)) && allNL Q ts
def allNL (Q : Ty → Bool) : List Ty → Bool
  | [] => true
  | t :: l => allN Q t && allNL Q l
end
theorem allNL_of {Q : Ty → Bool} : ∀ {l : List Ty}, (∀ T ∈ l, allN Q T = true) → allNL Q l = true := by
  intro l
  induction l with
  | nil => intro _; rfl
  | cons t l ih => intro h; rw [allNL, h t (by simp), ih fun T hT => h T (by simp [hT])]; rfl
theorem allNL_mem {Q : Ty → Bool} : ∀ {l : List Ty}, allNL Q l = true → ∀ {U : Ty}, U ∈ l → allN Q U = true := by
  intro l
  induction l with
  | nil => intro _ U hU; cases hU
  | cons t l ih =>
    intro h U hU
    simp only [allNL, Bool.and_eq_true] at h
    rcases List.mem_cons.1 hU with rfl | hU
    · exact h.1
    · exact ih h.2 hU
def OkN (Q : Ty → Bool) (d : Nat) (T : Ty) : Prop := Ok d T ∧ allN Q T = true
theorem qok_con {Q : Ty → Bool} {n : ByteArray} {ts : List Ty} {d : Nat} (h : conOk n ts.length = true) (hl : ts.length ≤ 2) (ht : ∀ T ∈ ts, OkN Q d T) : OkN Q (d + 1) (con n ts) :=
  ⟨ok_con h hl fun T hT => (ht T hT).1, by unfold con; rw [allN, allNL_of fun T hT => (ht T hT).2]; rfl⟩
theorem qok_arr {Q : Ty → Bool} {T U : Ty} {d : Nat} (h : OkN Q d T) (h' : OkN Q d U) : OkN Q (d + 1) (con arrN [T, U]) :=
  qok_con (show conOk arrN 2 = true by decide +kernel) (by simp) fun X hX => by
    simp at hX
    rcases hX with rfl | rfl
    · exact h
    · exact h'
def MadeQ (Q : Ty → Bool) (d base b : Nat) (w w' : World) (u : Value) : Prop := ∃ T, Rep w' (fun c => base ≤ c) T u ∧ OkN Q d T ∧ Tq w' b ∧ w.grownBy w' (some b)
def TyAtQ (Q : Ty → Bool) (d : Nat) : Prop := ∀ (z : Int) (ds : List Dat) (dv : Value) (ls : List Ty) (lv : Value) (S : Nat → Prop) (b base : Nat) (w : World), z = d → d ≤ 4 → Some_ ds → LeafL ls → (∀ T ∈ ls, allN Q T = true) → SlG DatE w S ds dv → SlG TyE w S ls lv → (∀ c, S c → c ≠ b) → Tq w b → base ≤ w.heap.size →
  Calls Try.prog 13 #[.pointer (some ⟨b, 0, none⟩), dv, lv, .int .i64 z] w fun e w' => ∃ u, e = .returned u ∧ MadeQ Q d base b w w' u
theorem TSt.doneQ {Q : Ty → Bool} {w v v' : World} {b base d : Nat} {T : Ty} {k : Int} {n : ByteArray} {i h : Int} {a : Option Addr} {m c : Nat} (hb : b < w.heap.size) (hs : TSt w b v) (hg : v.grownBy v' (some w.heap.size)) (hbase : base ≤ w.heap.size)
    (hr : Rep v (fun c => w.heap.size + 1 ≤ c) T (.agg #[.int .i64 k, .string n, .int .i64 i, .int .i64 h, .slice a m c])) (ho : OkN Q d T) : ∃ u, Ending.returned (.agg #[.int .i64 k, .string n, .int .i64 i, .int .i64 h, .slice a m c]) = .returned u ∧ MadeQ Q d base b w v' u :=
  ⟨_, rfl, T, hr.kept (fun c hc => by omega) (fun c hc hlt => hg.block c hlt (by intro e; have := Option.some.inj e; omega)), ho, hs.tp.other hb hg, grown_fresh hs.grown hg fun R e => by cases e; exact Nat.le_refl _⟩
/-- What holds when the second argument of an arrow is made. -/
structure MTyQ (Q : Ty → Bool) (w : World) (b D : Nat) (z2 : World) (d : Nat) (U V : Ty) (u0 u : Value) (c0 c1 c2 c3 c4 : Value) : Prop where
  st : TSt w b z2
  box : Box z2 D c0 c1 c2 c3 c4
  left : Rep z2 (fun c => w.heap.size + 1 ≤ c) U u0
  right : Rep z2 (fun c => w.heap.size + 1 ≤ c) V u
  ok : OkN Q d V
theorem MTyQ.arrow {Q : Ty → Bool} {w z2 : World} {b D d : Nat} {U V : Ty} {u0 u : Value} {c0 c1 c2 c3 c4 : Value} (h : MTyQ Q w b D z2 d U V u0 u c0 c1 c2 c3 c4) (X : World) (hb : Below z2.heap.size z2 X) :
    Calls Try.prog 38 #[u0, u] X fun e w' => ∃ r, e = .returned r ∧ AfterArr w z2 U V r w' := by
  refine (refArrow_any U V u0 u (fun c => w.heap.size + 1 ≤ c) X (fun c hc => Nat.le_trans h.st.size (Nat.le_trans hb.size hc)) (h.left.lift hb) (h.right.lift hb)).mono ?_
  rintro e w' ⟨a, c, rfl, hr, hb'⟩
  exact ⟨_, rfl, a, c, rfl, hr, hb.trans (hb'.mono hb.size)⟩
theorem mtyQ {Q : Ty → Bool} {w z1 z2 : World} {b D d n : Nat} {U : Ty} {u0 u : Value} {c0 c1 c2 c3 c4 : Value} (hb : b < w.heap.size) (hD : w.heap.size < D) (hm : MadeQ Q d n b z1 z2 u) (hs : TSt w b z1) (hY : Box z1 D c0 c1 c2 c3 c4) (hU : Rep z1 (fun c => w.heap.size + 1 ≤ c) U u0) (hn : w.heap.size + 1 ≤ n) :
    ∃ V, MTyQ Q w b D z2 d U V u0 u c0 c1 c2 c3 c4 := by
  obtain ⟨V, hrep, hok, ht, hg⟩ := hm
  exact ⟨V, hs.call hb ht hg, Box.grown hY hg (by intro e; have := Option.some.inj e; omega), hU.kept (fun c hc => hc) (fun c hc hlt => hg.block c hlt (by intro e; have := Option.some.inj e; omega)), hrep.kept (fun c hc => Nat.le_trans hn hc) (fun _ _ _ => rfl), hok⟩

set_option maxRecDepth 100000 in
set_option maxHeartbeats 6400000 in
theorem mk_ofQ (Q : Ty → Bool) (d : Nat) (IH : ∀ d', d = d' + 1 → TyAtQ Q d') : TyAtQ Q d := by
  intro z ds dv ls lv S b base w hz hd4 hds hls hlq hsd hsl hSb htq hbase
  have hblt := htq.lt
  have HTQ := Lib.hid htq
  have HDS := Lib.hid hds
  have HLS := Lib.hid hls
  have HLQ := Lib.hid hlq
  have HZ := Lib.hid hz
  have HIH := Lib.hid IH
  obtain ⟨da, dc, rfl⟩ := slG_form hsd
  obtain ⟨la, lc, rfl⟩ := slG_form hsl
  have HD : Hid (∀ v, w.grownBy v (some b) → SlG DatE v S ds (.slice da ds.length dc)) := fun v hg => hsd.kept (fun _ h => h) (fun c hc hlt => hg.block c hlt (fun e => hSb c hc (Option.some.inj e)))
  have HL : Hid (∀ v, w.grownBy v (some b) → SlG TyE v S ls (.slice la ls.length lc)) := fun v hg => hsl.kept (fun _ h => h) (fun c hc hlt => hg.block c hlt (fun e => hSb c hc (Option.some.inj e)))
  have hz0 : 0 ≤ z := by omega
  have hz4 : z ≤ 4 := by omega
  have hln : ls.length ≤ 1000 := hls.1
  have hdn : ds.length ≤ 8 := hds.1
  have HN := Lib.hid (fun n h1 h2 v h => next_q n h1 h2 b v h)
  have hb0 : Below w.heap.size w (w.alloc (.cells #[.int .i64 0, .string ⟨#[]⟩, .int .i64 0, .int .i64 0, .slice none 0 0] 25)) := (Below.refl _ w).alloc (Nat.le_refl _) _
  have HS0 : Hid (TSt w b (w.alloc (.cells #[.int .i64 0, .string ⟨#[]⟩, .int .i64 0, .int .i64 0, .slice none 0 0] 25))) := ⟨htq.lift hb0, Box.made _ _ _ _ _ _, grown_of_below hb0 _, by simp⟩
  have HSb := Lib.hid hSb
  clear hz hds hls hlq hsd hsl htq IH hb0 hSb
  obtain ⟨dn, hdn'⟩ : ∃ n, n = ds.length := ⟨_, rfl⟩
  obtain ⟨ln, hln'⟩ : ∃ n, n = ls.length := ⟨_, rfl⟩
  rw [← hdn'] at hdn HD ⊢
  rw [← hln'] at hln HL ⊢
  have HDN := Lib.hid hdn'
  have HLN := Lib.hid hln'
  clear hdn' hln'
  go_enter Try.func13, Try.ntmps13
  go_wp2_with fail
  go_at_call 43
  refine (HN.out 7 (by decide) (by decide) _ HS0.out.tp).mono ?_
  rintro e w1 ⟨r, rfl, hr7, ht1, hg1⟩
  have HS1 := Lib.hid (HS0.out.call hblt ht1 hg1)
  clear ht1 hg1 HS0
  by_cases hleaf : r < 3 ∧ 0 < ln
  · obtain ⟨hr3, hl0⟩ := hleaf
    have hr3' : (r : Int) < 3 := by omega
    have hl0' : (0 : Int) < (ln : Int) := by omega
    go_wp2_with fail
    go_at_call 43
    refine (HN.out ln (by omega) (by omega) _ HS1.out.tp).mono ?_
    rintro e w2 ⟨q, rfl, hq, ht2, hg2⟩
    have HS2 := Lib.hid (HS1.out.call hblt ht2 hg2)
    have hql : q < ln := by omega
    clear ht2 hg2 HS1
    obtain ⟨T, hT⟩ : ∃ x, ls[q]? = some x := ⟨_, List.getElem?_eq_getElem (by rw [← HLN.out]; exact hql)⟩
    have HT := Lib.hid (HLS.out.2 T (List.mem_of_getElem? hT))
    have HTq := Lib.hid (HLQ.out T (List.mem_of_getElem? hT))
    have hx := HL.out _ HS2.out.grown
    rw [HLN.out] at hx
    obtain ⟨sa', sc', hv', -, hj⟩ := slG_repL hx
    cases hv'
    obtain ⟨ad, x, rfl, -, h5, hrep⟩ := hj q T hT
    clear hj hx hT
    have HR := Lib.hid hrep
    obtain ⟨uk, un, ui, uh, ua, um, uc, rfl⟩ := hrep.form
    obtain ⟨q0, q1, q2, q3, q4⟩ := five_at h5
    have hqi : (q : Int) < (ln : Int) := by omega
    clear hrep h5
    go_wp2_with (refine wpList_store5 rfl _ _ rfl _ _ _ _ _ _ HS2.out.zero rfl _ _ _ _ _ _ _ rfl ?_; intro w3 hB3 hg3 hs3)
    obtain ⟨c0, c1, c2, c3, c4⟩ := hB3.cells
    refine bodyPost_ret (by simp [results, Try.results13, go_sem, c0, c1, c2, c3, c4]; try rfl) rfl ?_
    exact HS2.out.doneQ hblt hg3 hbase (rep_bare HR.out HT.out.2 _ _) ⟨ok_leaf d HT.out.1 HT.out.2, HTq.out⟩
  · by_cases hint : r < 4 ∨ z < 1
    · have HB0 := Lib.hid HS1.out.zero
      have hcase : ((r : Int) < 3 ∧ decide (0 < ln) = false ∧ (r : Int) < 4) ∨ (decide ((r : Int) < 3) = false ∧ (r : Int) < 4) ∨ (decide ((r : Int) < 3) = false ∧ decide ((r : Int) < 4) = false ∧ z < 1) := by
        by_cases h3 : r < 3
        · have : ¬ (0 < ln) := fun h => hleaf ⟨h3, h⟩
          exact .inl ⟨by omega, by simp; omega, by omega⟩
        · by_cases h4 : r < 4
          · exact .inr (.inl ⟨by simp; omega, by omega⟩)
          · exact .inr (.inr ⟨by simp; omega, by simp; omega, hint.resolve_left h4⟩)
      have HI := Lib.hid (fun w => refInt_any w)
      have hint_ : intN.size ≤ maxLen := by unfold maxLen; decide +kernel
      clear hleaf hint
      rcases hcase with ⟨h1, h2, h3⟩ | ⟨h1, h2⟩ | ⟨h1, h2, h3⟩
      all_goals
        go_wp2_with fail
        go_at_call 44
        refine (HI.out _).mono ?_
        rintro e w2 ⟨rfl, hb2⟩
        have HS2 := Lib.hid (HS1.out.lift hblt hb2)
        clear hb2
        unfold leafV
        go_wp2_with (refine wpList_store5 rfl _ _ rfl _ _ _ _ _ _ HS2.out.zero rfl _ _ _ _ _ _ _ rfl ?_; intro w3 hB3 hg3 hs3)
        obtain ⟨c0, c1, c2, c3, c4⟩ := hB3.cells
        refine bodyPost_ret (by simp [results, Try.results13, go_sem, c0, c1, c2, c3, c4]; try rfl) rfl ?_
        exact HS2.out.doneQ hblt hg3 hbase (rep_leaf _ _ _ _ _ _ hint_) ⟨ok_int d, rfl⟩
    · have hr4 : 4 ≤ r := Nat.le_of_not_lt fun h => hint (.inl h)
      have hz1 : 1 ≤ z := by
        by_cases h : z < 1
        · exact absurd (.inr h) hint
        · omega
      obtain ⟨d', rfl⟩ : ∃ d', d = d' + 1 := ⟨d - 1, by have := HZ.out; omega⟩
      have HT : Hid (∀ v base, TSt w b v → base ≤ v.heap.size → Calls Try.prog 13 #[.pointer (some ⟨b, 0, none⟩), .slice da dn dc, .slice la ln lc, .int .i64 (z - 1)] v fun e w' => ∃ u, e = .returned u ∧ MadeQ Q d' base b v w' u) := fun v base hs hb => by
        have hd := HD.out v hs.grown
        have hl := HL.out v hs.grown
        exact HIH.out d' rfl (z - 1) ds _ ls _ S b base v (by have := HZ.out; omega) (by omega) HDS.out HLS.out HLQ.out hd hl HSb.out hs.tp hb
      clear hleaf hint
      by_cases hcon : r < 6 ∧ 0 < dn
      · obtain ⟨hr6, hd0⟩ := hcon
        have hr45 : r = 4 ∨ r = 5 := by omega
        clear hr4 hr6 hr7
        rcases hr45 with rfl | rfl
        all_goals
          go_wp2_with fail
          go_at_call 43
          refine (HN.out dn (by omega) (by omega) _ HS1.out.tp).mono ?_
          rintro e w2 ⟨q, rfl, hq, ht2, hg2⟩
          have HS2 := Lib.hid (HS1.out.call hblt ht2 hg2)
          have hql : q < dn := by omega
          clear ht2 hg2 HS1
          obtain ⟨D0, hD0⟩ : ∃ x, ds[q]? = some x := ⟨_, List.getElem?_eq_getElem (by rw [← HDN.out]; exact hql)⟩
          have HDat := Lib.hid (some_dat HDS.out (List.mem_of_getElem? hD0))
          have hx := HD.out _ HS2.out.grown
          rw [HDN.out] at hx
          obtain ⟨ad, cl, rfl, -, ⟨pv, cv, rfl, hp, hc⟩, hc0, hcm⟩ := slG_get hx hD0
          have q0 := hc0 _ rfl
          have q1 := hcm 1 _ (by decide) rfl
          have q2 := hcm 2 _ (by decide) rfl
          have q3 := hcm 3 _ (by decide) rfl
          simp only [show DatE.k = 4 from rfl] at q0 q1 q2 q3
          obtain ⟨pa, pc, rfl⟩ := slG_form hp
          obtain ⟨ca, cc, rfl⟩ := slG_form hc
          have hm2 : D0.params.length ≤ 2 := HDat.out.2.1
          have HBM : Hid (∀ w : World, BoxK (w.alloc (.cells #[.int .i64 0, .string ⟨#[]⟩, .slice none 0 0, .slice none 0 0] 71)) w.heap.size (.int .i64 0) (.string ⟨#[]⟩) (.slice none 0 0) (.slice none 0 0)) := fun w => heap_alloc_new w _
          clear hc0 hcm hp hc hx hD0
          have hqi : (q : Int) < (dn : Int) := by omega
          obtain ⟨m, hm⟩ : ∃ m, m = D0.params.length := ⟨_, rfl⟩
          rw [← hm] at q2 hm2 HDat
          have HM := Lib.hid hm
          clear hm
          generalize D0.ctors.length = cn at *
          have hDw : w.heap.size < w2.heap.size := HS2.out.size
          go_wp2_with (refine wpList_storeD rfl _ _ rfl _ _ _ _ _ (HBM.out _) rfl _ _ _ _ _ _ _ _ rfl ?_; intro w3 hB3 hg3 hs3)
          have HC3 : Hid (CSt w b w2.heap.size (.int .i64 D0.pos) (.string D0.name) (.slice pa m pc) (.slice ca cn cc) w3) := by
            have hl : Below w2.heap.size w2 (w2.alloc (.cells #[.int .i64 0, .string ⟨#[]⟩, .slice none 0 0, .slice none 0 0] 71)) := (Below.refl _ w2).alloc (Nat.le_refl _) _
            have hst := HS2.out.lift hblt hl
            exact ⟨⟨hst.tp.other (by omega) hg3, Box.grown hst.zero hg3 (by intro e; have := Option.some.inj e; omega), grown_fresh hst.grown hg3 fun R e => by have := Option.some.inj e; omega, by have := hst.size; omega⟩, hB3, by rw [hs3]; simp⟩
          generalize w2.heap.size = D at *
          clear hB3 hg3 hs3 q0 q1 q2 q3 HBM HS2
          have hlt0 : ∀ c, D + 1 ≤ c → some c ≠ some b := fun c hc e => by have := Option.some.inj e; omega
          have HNB := Lib.hid hlt0
          clear hlt0
          go_wp2
          go_loopw [11, 12] (fun y x wr => ∃ (j : Nat) (ts : List Ty), j ≤ m ∧ x = .int .i64 j ∧ Hid (ts.length = j) ∧ Hid (∀ T ∈ ts, OkN Q d' T) ∧ Hid (RowG TyE wr (D + 1) (fun c => D + 1 ≤ c) y ts) ∧ Hid (CSt w b D (.int .i64 D0.pos) (.string D0.name) (.slice pa m pc) (.slice ca cn cc) wr)) (fun _ x _ => m - (intOf x).toNat)
          case atStart => exact ⟨0, [], Nat.zero_le _, rfl, rfl, fun T hT => by simp at hT, rowG_nil _ _ _ _, HC3⟩
          case round =>
            obtain ⟨j, ts, hj, rfl, HLen, HOk, HRow, HC⟩ := hrel
            have hbx := HC.out.box
            unfold BoxK at hbx
            have p1 := (cell_of_block hbx (m := 1) rfl).1
            have p2 := (cell_of_block hbx (m := 2) rfl).1
            have hsz := HC.out.size
            clear hbx
            by_cases hlt : j < m
            · have hji : (j : Int) < (m : Int) := by omega
              go_wp2_with fail
              go_at_call 13
              refine (HT.out _ _ HC.out.st (Nat.le_refl _)).mono ?_
              rintro e v1 ⟨u, rfl, T, hrep, hok, htq, hg⟩
              have hlow := fun k e => RowG.lt HRow.out k e
              have HRow1 := Lib.hid (HRow.out.kept hg (RowG.off HRow.out (by omega)) HNB.out)
              have HC1 := Lib.hid (HC.out.call hblt hDw htq hg)
              have hs1 := hg.size
              have HLow : Hid (∀ k, u11.ownBlock = some k → D + 1 ≤ k) := fun k e => (hlow k e).1
              obtain ⟨uk, un, ui, uh, ua, um, uc, rfl⟩ := hrep.form
              have HE : Hid (∀ X, TyE.rep (v1.alloc X) (fun c => D + 1 ≤ c ∧ some c ≠ u11.ownBlock) T [.int .i64 uk, .string un, .int .i64 ui, .int .i64 uh, .slice ua um uc]) := fun X =>
                TyE.kept (S := fun c => wr.heap.size ≤ c) (fun c hc => ⟨by omega, fun e => by have := (hlow c e.symm).2; omega⟩) (fun c _ hlt => ((Below.refl _ v1).alloc (Nat.le_refl _) X).block c hlt) hrep
              have HA : Hid (∀ X, Below v1.heap.size v1 (v1.alloc X)) := fun X => (Below.refl _ v1).alloc (Nat.le_refl _) X
              have HRowA := Lib.hid (fun X => HRow1.out.lift (HA.out X))
              have HCA := Lib.hid (fun X => HC1.out.lift hblt hDw (HA.out X))
              have HN1 : Hid (∀ X Z, (v1.alloc (.cells X Z)).heap[v1.heap.size]? = some (.cells X Z (0, 0))) := fun X Z => heap_alloc_new v1 _
              have HOk1 : Hid (∀ U ∈ ts ++ [T], OkN Q d' U) := fun U hU => by
                rcases List.mem_append.1 hU with h | h
                · exact HOk.out U h
                · simp at h; subst h; exact hok
              have hjl : j + 1 ≤ 1000000 := by omega
              clear hrep hok htq hg hlow HRow1 HC1 HRow HC p1 p2 HT
              go_wp2_with (at_builtin; refine wpList_pushG TyE rfl _ _ rfl (D + 1) (fun c => D + 1 ≤ c) u11 ts rfl (HRowA.out _) v1.heap.size _ [.int .i64 uk, .string un, .int .i64 ui, .int .i64 uh, .slice ua um uc] (HN1.out _ _) rfl T (HE.out _) (j + 1) (by rw [HLen.out]) hjl (by simp; omega) ?_; intro a3 c3 v3 hrow3 hg3; have HRow3 := Lib.hid hrow3; have HC3' := Lib.hid ((HCA.out _).push hblt hDw hg3 HLow.out); clear hrow3 hg3)
              go_roundw
              case rel => exact ⟨j + 1, ts ++ [T], hlt, by go_num, by show _ = _; simp [HLen.out], HOk1, HRow3, HC3'⟩
              case measure => simp [intOf]; omega
            · obtain rfl : j = m := by omega
              have hjf : ¬ (j : Int) < (j : Int) := by omega
              have HCon : Hid (∀ v, Below wr.heap.size wr v → Calls Try.prog 45 #[.string D0.name, u11] v fun e w' => ∃ a c, e = .returned (.agg #[.int .i64 4, .string D0.name, .int .i64 0, .int .i64 0, .slice a j c]) ∧ RepL w' (fun c => D + 1 ≤ c) ts (.slice a j c) ∧ Below v.heap.size v w') := fun v hb => by
                have := refCon_row D0.name ts (by rw [HLen.out]; omega) (D + 1) u11 v (Nat.le_trans hsz hb.size) (HRow.out.lift hb)
                rw [HLen.out] at this
                exact this
              have HOkC := Lib.hid (qok_con (n := D0.name) (by rw [HLen.out]; exact HDat.out.1) (by rw [HLen.out]; exact hm2) HOk.out)
              go_wp2_with fail
              go_at_call 45
              refine (HCon.out _ (Below.refl _ wr)).mono ?_
              rintro e v1 ⟨ra, rc, rfl, hrl, hb1⟩
              have HS9 := Lib.hid (HC.out.st.lift hblt hb1)
              have HRL := Lib.hid hrl
              clear hrl hb1 p1 p2 HRow
              go_wp2_with (refine wpList_store5 rfl _ _ rfl _ _ _ _ _ _ HS9.out.zero rfl _ _ _ _ _ _ _ rfl ?_; intro v3 hB3 hg3 hs3)
              obtain ⟨c0, c1, c2, c3, c4⟩ := hB3.cells
              refine bodyPost_ret (by simp [results, Try.results13, go_sem, c0, c1, c2, c3, c4]; try rfl) rfl ?_
              exact HS9.out.doneQ hblt hg3 hbase ((Rep.close HDat.out.2.2 (by rw [← HLen.out] at *; exact HRL.out)).imp fun c hc => by omega) HOkC.out
      · have hcase : r = 6 ∨ (r = 4 ∧ decide (0 < dn) = false) ∨ (r = 5 ∧ decide (0 < dn) = false) := by
          by_cases h6 : r < 6
          · have h0 : ¬ (0 < dn) := fun h => hcon ⟨h6, h⟩
            have h45 : r = 4 ∨ r = 5 := by omega
            rcases h45 with h | h
            · exact .inr (.inl ⟨h, by simpa using h0⟩)
            · exact .inr (.inr ⟨h, by simpa using h0⟩)
          · exact .inl (by omega)
        clear hcon hr4 hr7
        rcases hcase with rfl | ⟨rfl, h0⟩ | ⟨rfl, h0⟩
        all_goals
          go_wp2_with fail
          go_at_call 13
          refine (HT.out _ _ HS1.out (Nat.le_refl _)).mono ?_
          rintro e w2 ⟨u0, rfl, U, hrep, hokU, htq, hg⟩
          have hw1 := HS1.out.size
          have HS2 := Lib.hid (HS1.out.call hblt htq hg)
          have hDw : w.heap.size < w2.heap.size := HS2.out.size
          have HU2 : Hid (Rep w2 (fun c => w.heap.size + 1 ≤ c) U u0) := hrep.imp fun c hc => by omega
          have HOkU := Lib.hid hokU
          obtain ⟨uk, un, ui, uh, ua, um, uc, rfl⟩ := hrep.form
          have HBM : Hid (∀ w : World, Zero (w.alloc (.cells #[.int .i64 0, .string ⟨#[]⟩, .int .i64 0, .int .i64 0, .slice none 0 0] 25)) w.heap.size) := fun w => Box.made _ _ _ _ _ _
          clear hrep hokU htq hg HS1
          go_wp2_with (refine wpList_store5 rfl _ _ rfl _ _ _ _ _ _ (HBM.out _) rfl _ _ _ _ _ _ _ rfl ?_; intro z1 hB3 hg3 hs3)
          have hl : Below w2.heap.size w2 (w2.alloc (.cells #[.int .i64 0, .string ⟨#[]⟩, .int .i64 0, .int .i64 0, .slice none 0 0] 25)) := (Below.refl _ w2).alloc (Nat.le_refl _) _
          have hst := HS2.out.lift hblt hl
          have hbd : Below z1.heap.size z1 z1.drew := (Below.refl _ z1).drew
          have HSd : Hid (TSt w b z1.drew) := TSt.lift hblt ⟨hst.tp.other (by omega) hg3, Box.grown hst.zero hg3 (by intro e; have := Option.some.inj e; omega), grown_fresh hst.grown hg3 fun R e => by have := Option.some.inj e; omega, by have := hst.size; omega⟩ hbd
          have HYd := Lib.hid (Box.lift hB3 hbd)
          have HUd := Lib.hid (((HU2.out.bound.lift hl).kept (S' := fun c => w.heap.size + 1 ≤ c) (fun c hc => hc.1) (fun c hc hlt => hg3.block c hlt (by intro e; have := Option.some.inj e; have := hc.2; omega))).lift hbd)
          have hle : w.heap.size + 1 ≤ z1.heap.size := by have := hst.size; omega
          have hle2 : z1.heap.size ≤ z1.drew.heap.size := hbd.size
          generalize w2.heap.size = D at *
          obtain ⟨y0, y1, y2, y3, y4⟩ := HYd.out.cells
          clear hB3 hg3 hs3 hl hst hbd HBM HU2 HS2
          have hwr : IntKind.i64.wrap (z - 1) = z - 1 := by rw [IntKind.wrap_i64]; omega
          go_wp2_with fail
          go_region_law
            (first
              | ((with_reducible refine step_call4 13 enterMk (.pointer (some ⟨b, 0, none⟩)) (.slice da dn dc) (.slice la ln lc) (.int .i64 (z - 1)) (fun u w' => MadeQ Q d' z1.heap.size b z1.drew w' u) ?_ ?_ ?_ ?_ ?_ ?_); (rfl); (rfl); (rfl); (first | rfl | (show Value.int IntKind.i64 (IntKind.i64.wrap (z - 1)) = Value.int IntKind.i64 (z - 1); rw [hwr])); (exact HT.out _ _ HSd.out hle2); (rintro u z2 hmade); (obtain ⟨V, hF⟩ := mtyQ hblt hDw hmade HSd.out HYd.out HUd.out hle); (have HF := Lib.hid hF); (obtain ⟨n0, n1, n2, n3, n4⟩ := HF.out.box.cells); clear hF hmade y0 y1 y2 y3 y4)
              | ((with_reducible refine step_call2 38 enterArrow (.agg #[.int .i64 uk, .string un, .int .i64 ui, .int .i64 uh, .slice ua um uc]) u (AfterArr w z2 U V) ?_ ?_ ?_ ?_); (rfl); (rfl); (first | exact HF.out.arrow _ (Below.refl _ z2) | exact HF.out.arrow _ (Below.refl _ z2).drew); (rintro u z3 ⟨ra, rc, rfl, hrl, hb3⟩); (have HZ3 := Lib.hid (HF.out.st.lift hblt hb3)); (have HRL := Lib.hid hrl); (obtain ⟨c0, c1, c2, c3, c4⟩ := HZ3.out.zero.cells); (obtain ⟨f0, f1, f2, f3, f4⟩ := HZ3.out.zero.frozen); clear hb3 hrl))
          all_goals
            clear hwr
            have hs5 := set5 HZ3.out.zero (.int .i64 4) (.string arrN) (.int .i64 0) (.int .i64 0) (.slice ra 2 rc)
            generalize (((((z3.setCell ⟨w.heap.size, 0, none⟩ (.int .i64 4)).setCell ⟨w.heap.size, 1, none⟩ (.string arrN)).setCell ⟨w.heap.size, 2, none⟩ (.int .i64 0)).setCell ⟨w.heap.size, 3, none⟩ (.int .i64 0)).setCell ⟨w.heap.size, 4, none⟩ (.slice ra 2 rc)) = z4 at *
            clear c0 c1 c2 c3 c4 f0 f1 f2 f3 f4
            obtain ⟨hB, hG, -⟩ := hs5
            obtain ⟨c0, c1, c2, c3, c4⟩ := hB.cells
            clear hB
            go_wp2
            refine bodyPost_ret (by simp [results, Try.results13, go_sem, c0, c1, c2, c3, c4]; try rfl) rfl ?_
            exact HZ3.out.doneQ hblt hG hbase (Rep.close arrN_ok HRL.out) (qok_arr HOkU.out HF.out.ok)
theorem mkTypeQ_any (Q : Ty → Bool) : ∀ d, TyAtQ Q d := by
  intro d
  induction d with
  | zero => exact mk_ofQ Q 0 fun d' h => by omega
  | succ d ih =>
    refine mk_ofQ Q (d + 1) fun d' h => ?_
    obtain rfl : d = d' := by omega
    exact ih
end Go.Proofs.Ytahiefgfhpkoeaa
