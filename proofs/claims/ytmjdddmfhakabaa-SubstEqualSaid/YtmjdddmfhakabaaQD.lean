/- The reference's Match. The package's sameNode. The package's extend. Factor of the package and of the reference. The reference's Factor. -/
import Derived.Test.YtmjdddmfhakabaaQC
namespace Go.Proofs.Ytmjdddmfhakabaa
open Go.RowKit Go.Sort Go.Shelf Go.Maps Mth

theorem mtchL_len (ps : List Ty) (ih : ∀ P ∈ ps, ∀ T s s1, mtch P T s = some s1 → s1.length ≤ s.length + nodes P) : ∀ ts s s1, mtchL ps ts s = some s1 → s1.length ≤ s.length + nodesL ps := by
  induction ps with
  | nil => intro ts s s1 h; simp [mtchL] at h; subst h; simp [nodesL]
  | cons p ps ihl =>
    intro ts s s1 h
    cases ts with
    | nil => simp [mtchL] at h; subst h; omega
    | cons t ts =>
      rw [mtchL] at h
      cases e : mtch p t s with
      | none => rw [e] at h; cases h
      | some s2 =>
        rw [e] at h
        have h1 := ih p (by simp) t s s2 e
        have h2 := ihl (fun P hP => ih P (by simp [hP])) ts s2 s1 h
        simp only [nodesL]
        omega
theorem mtch_len : ∀ (P : Ty) (T : Ty) (s s1 : List (Int × Ty)), mtch P T s = some s1 → s1.length ≤ s.length + nodes P := Ty.induct fun P ih T s s1 h => by
  obtain ⟨k, n, i, hm, ps⟩ := P
  rw [mtch] at h
  split at h
  · split at h
    · split at h
      · cases h; omega
      · cases h
    · cases h; simp [nodes]
  · split at h
    · have := mtchL_len ps (fun P hP => ih P hP) _ _ _ h
      simp only [nodes]
      omega
    · cases h
theorem mtchL_step {ps ts : List Ty} {j : Nat} {p t : Ty} (hp : ps[j]? = some p) (ht : ts[j]? = some t) (s : List (Int × Ty)) : mtchL (ps.drop j) (ts.drop j) s = match mtch p t s with | some s1 => mtchL (ps.drop (j + 1)) (ts.drop (j + 1)) s1 | none => none := by
  obtain ⟨hl, e⟩ := List.getElem?_eq_some_iff.1 hp
  obtain ⟨hl', e'⟩ := List.getElem?_eq_some_iff.1 ht
  rw [List.drop_eq_getElem_cons hl, List.drop_eq_getElem_cons hl', e, e', mtchL]
  cases mtch p t s <;> rfl
def MtAt (P : Program) (f : Nat) (P0 : Ty) : Prop := ∀ (T : Ty) (σ : List (Int × Ty)) (pv tv sv : Value) (w : World), nodes P0 + σ.length ≤ 1000 → Rep w (fun _ => True) P0 pv → Rep w (fun _ => True) T tv → SlG AsE w (fun _ => True) σ sv →
  Calls P f #[pv, tv, sv] w fun e w' => ∃ u, e = .returned (.tuple #[u, .bool (mtch P0 T σ).isSome]) ∧ (∀ σ', mtch P0 T σ = some σ' → SlG AsE w' (fun _ => True) σ' u) ∧ RowKit.Below w.heap.size w w'
/-- What the loop over the arguments holds. -/
def MtIn (ps ts : List Ty) (σ : List (Int × Ty)) (j : Nat) (sj : Value) (b : Bool) (wr : World) : Prop :=
  (b = true ∧ ∃ σj, SlG AsE wr (fun _ => True) σj sj ∧ mtchL ps ts σ = mtchL (ps.drop j) (ts.drop j) σj ∧ nodesL (ps.drop j) + σj.length ≤ 1000) ∨ (b = false ∧ mtchL ps ts σ = none)
theorem nodesL_step {ps : List Ty} {j : Nat} {p : Ty} (hp : ps[j]? = some p) : nodesL (ps.drop j) = nodes p + nodesL (ps.drop (j + 1)) := by
  obtain ⟨hl, e⟩ := List.getElem?_eq_some_iff.1 hp
  rw [List.drop_eq_getElem_cons hl, e]; rfl
/-- One round of it. -/
theorem MtIn.next {ps ts : List Ty} {σ : List (Int × Ty)} {j : Nat} {u : Value} {w' : World} {σj : List (Int × Ty)} {p t : Ty} (hp : ps[j]? = some p) (ht : ts[j]? = some t) (he : mtchL ps ts σ = mtchL (ps.drop j) (ts.drop j) σj) (hn : nodesL (ps.drop j) + σj.length ≤ 1000)
    (hu : ∀ σ', mtch p t σj = some σ' → SlG AsE w' (fun _ => True) σ' u) : MtIn ps ts σ (j + 1) u (mtch p t σj).isSome w' := by
  rw [mtchL_step hp ht] at he
  cases e : mtch p t σj with
  | none => rw [e] at he; exact .inr ⟨rfl, he⟩
  | some s1 =>
    rw [e] at he
    have h1 := mtch_len p t σj s1 e
    have h2 := nodesL_step hp
    exact .inl ⟨rfl, s1, hu s1 e, he, by omega⟩
/-- append(nil, xs...) at a step of a drawn region. -/
theorem step_cloneG {α : Type} {w : World} {ops : Array Oper} {o : Oper} {a : Act} {K : Act → World → Prop} {Q : Exit → Act → World → Prop} {E' : Prop} (E : El α) (hgd : o.guard = none) (s x : Operand)
    (ho : o.op = .call { callee := .builtin .append, args := #[s, x], argTypes := #[E.t, E.t] }) (hs : a.eval s = .slice none 0 0) (ys : List α) (xv : Value) (S : Nat → Prop) (hy : SlG E w S ys xv) (hx : a.eval x = xv) (hb : ys.length ≤ 1000000)
    (hK : ∀ (a' : Option Addr) (c' : Nat) (w' : World), RowG E w' w.heap.size (fun b => S b ∧ b < w.heap.size) (.slice a' ys.length c') ys → RowKit.Below w.heap.size w w' → K (a.put o.dst (.slice a' ys.length c')) w') :
    if Region.wanted o (yielded ops a.tmps) = true then Oper.wp Try.prog o a w K Q else E' :=
  step_of_list hgd fun _ hQ => wpList_cloneG E hgd s x ho hs ys xv S hy hx hb fun a' c' w' h1 h2 => hQ _ _ (hK a' c' w' h1 h2)
/-- A row was copied. -/
structure ClSt (w w3 X w5 : World) (σ : List (Int × Ty)) (T : Ty) (u sv : Value) : Prop where
  row : RowG AsE w5 X.heap.size (fun b => True ∧ b < X.heap.size) sv σ
  x : Rep w5 (fun c => (True ∧ c < X.heap.size) ∧ some c ≠ sv.ownBlock) T u
  low : RowKit.Below w.heap.size w w5
  b : RowKit.Below X.heap.size X w5
  le : w.heap.size ≤ X.heap.size
  keep : RowKit.Below w3.heap.size w3 w5
theorem clSt {w w3 X w5 : World} {σ : List (Int × Ty)} {T : Ty} {u sv : Value} (h3 : RowKit.Below w.heap.size w w3) (hX : RowKit.Below w3.heap.size w3 X) (hT : Rep w (fun b => True ∧ b < w.heap.size) T u) (hrow : RowG AsE w5 X.heap.size (fun b => True ∧ b < X.heap.size) sv σ) (hb : RowKit.Below X.heap.size X w5) : ClSt w w3 X w5 σ T u sv := by
  have h1 := h3.trans (hX.mono h3.size)
  have h2 := h1.trans (hb.mono h1.size)
  exact ⟨hrow, (hT.lift h2).imp fun c hc => ⟨⟨trivial, Nat.lt_of_lt_of_le hc.2 h1.size⟩, fun e => absurd (hrow.lt c e.symm).1 (Nat.not_le.2 (Nat.lt_of_lt_of_le hc.2 h1.size))⟩, h2, hb, h1.size, hX.trans (hb.mono hX.size)⟩
theorem ClSt.after {w w3 X w5 w6 : World} {σ : List (Int × Ty)} {T : Ty} {u sv : Value} (h : ClSt w w3 X w5 σ T u sv) (hg : w5.grownBy w6 sv.ownBlock) : RowKit.Below w.heap.size w w6 := Below.grown h.low hg h.low.size (fun g e => Nat.le_trans h.le (h.row.lt g e).1)
/-- .. where the element was laid before the row was copied. -/
theorem step_pushB {v0 v : World} {ops : Array Oper} {o : Oper} {a : Act} {K : Act → World → Prop} {Q : Exit → Act → World → Prop} {E' : Prop} {base : Nat} {S : Nat → Prop} {sv : Value} {xs : List (Int × Ty)} {Z : TypeId} {i k : Int} {n : ByteArray} {i' h : Int} {s : Value} {T : Ty} (hbl : RowKit.Below (v0.alloc (.cells #[.int .i64 i, .int .i64 k, .string n, .int .i64 i', .int .i64 h, s] Z)).drew.heap.size (v0.alloc (.cells #[.int .i64 i, .int .i64 k, .string n, .int .i64 i', .int .i64 h, s] Z)).drew v) (hrow : RowG AsE v base S sv xs) (hx : Rep v (fun c => S c ∧ some c ≠ sv.ownBlock) T (.agg #[.int .i64 k, .string n, .int .i64 i', .int .i64 h, s]))
    (hgd : o.guard = none) (x y : Operand) (ho : o.op = .call { callee := .builtin .append, args := #[x, y], argTypes := #[25, 25] }) (hs : a.eval x = sv) (nn : Nat) (hnn : nn = v0.heap.size) (hy : a.eval y = .slice (some ⟨nn, 0, none⟩) 1 1)
    (N : Nat) (hN : N = xs.length + 1) (hb : N ≤ 1000000) (hbase : base ≤ v.heap.size)
    (hK : ∀ (a' : Option Addr) (c' : Nat) (w' : World), RowG AsE w' base S (.slice a' N c') (xs ++ [(i, T)]) → v.grownBy w' sv.ownBlock → K (a.put o.dst (.slice a' N c')) w') :
    if Region.wanted o (yielded ops a.tmps) = true then Oper.wp Try.prog o a v K Q else E' := by
  subst hnn
  refine step_pushH AsE hgd x y ho base S sv xs hs hrow v0.heap.size Z [.int .i64 i, .int .i64 k, .string n, .int .i64 i', .int .i64 h, s] ((hbl.block _ (by show _ < (v0.alloc _).heap.size; simp)).trans (heap_alloc_new v0 _)) hy (i, T) (asE_rep hx) N hN hb hbase ?_
  intro a' c' w' h1 h2 _
  exact hK a' c' w' h1 h2
theorem fitAD {P : Program} {ops : Array Oper} {o : Oper} {a : Act} {K : Act → World → Prop} {Q : Exit → Act → World → Prop} {E' : Prop} (w : World) (X : Obj) (h : if Region.wanted o (yielded ops a.tmps) = true then Oper.wp P o a (w.alloc X).drew K Q else E') :
    if Region.wanted o (yielded ops a.tmps) = true then Oper.wp P o a (w.alloc X).drew K Q else E' := h
theorem keep10 {W w1 w2 : World} {p0 p1 p2 p3 p4 p5 p6 p7 p8 p9 : Addr} {a0 a1 a2 a3 a4 a5 a6 a7 a8 a9 : Value} (h0 : w1.cell? p0 = some a0) (h1 : w1.cell? p1 = some a1) (h2 : w1.cell? p2 = some a2) (h3 : w1.cell? p3 = some a3) (h4 : w1.cell? p4 = some a4) (h5 : w1.cell? p5 = some a5) (h6 : w1.cell? p6 = some a6) (h7 : w1.cell? p7 = some a7) (h8 : w1.cell? p8 = some a8) (h9 : w1.cell? p9 = some a9) (hW : RowKit.Below W.heap.size W w1) (hb : RowKit.Below w1.heap.size w1 w2) :
    w2.cell? p0 = some a0 ∧ w2.cell? p1 = some a1 ∧ w2.cell? p2 = some a2 ∧ w2.cell? p3 = some a3 ∧ w2.cell? p4 = some a4 ∧ w2.cell? p5 = some a5 ∧ w2.cell? p6 = some a6 ∧ w2.cell? p7 = some a7 ∧ w2.cell? p8 = some a8 ∧ w2.cell? p9 = some a9 ∧ RowKit.Below W.heap.size W w2 := by
  have k : ∀ p v, w1.cell? p = some v → w2.cell? p = some v := fun p v h => (hb.cell (World.block_lt_of_cell? _ _ h)).trans h
  exact ⟨k _ _ h0, k _ _ h1, k _ _ h2, k _ _ h3, k _ _ h4, k _ _ h5, k _ _ h6, k _ _ h7, k _ _ h8, k _ _ h9, hW.trans (hb.mono hW.size)⟩
set_option maxRecDepth 100000 in
set_option maxHeartbeats 6400000 in
theorem match_of (P0 : Ty) (H : ∀ U ∈ P0.ts, MtAt Try.prog 51 U) : MtAt Try.prog 51 P0 := by
  intro T σ pv tv sv w hN hp ht hs
  have HP := Lib.hid hp.bound
  have HT := Lib.hid ht.bound
  have HSG := Lib.hid hs
  have HSA := Lib.hid (slG_asL hs)
  have HH := Lib.hid H
  obtain ⟨k, n, i, hm, ps, eP, rfl, hn, hpl⟩ := hp.open
  obtain ⟨k', n', i', hm', ts, eT, rfl, hn', htl⟩ := ht.open
  have HPL := Lib.hid hpl
  have HTL := Lib.hid htl
  obtain ⟨sa, sc, rfl, -⟩ := hs.slice
  obtain ⟨pa, pc, rfl, ⟨hpc, hpc2⟩, hpj⟩ := hpl
  obtain ⟨ta, tc, rfl, ⟨htc, htc2⟩, htj⟩ := htl
  have HPJ := Lib.hid hpj
  have HTJ := Lib.hid htj
  unfold maxLen at hpc2 htc2
  have HM : Hid (mtch P0 T σ = if k == 1 then (if asgd σ i then (if teq (repl σ P0) T then some σ else none) else some (σ ++ [(i, T)])) else if k == k' && n.toList == n'.toList && i == i' && hm == hm' && P0.ts.length == T.ts.length then mtchL P0.ts T.ts σ else none) := by
    show _ = _
    conv => lhs; rw [eP, mtch]
    rw [← eP]
    conv => lhs; rw [eT]
    conv => rhs; rw [eT]
    rfl
  have HNd : Hid (nodes P0 = nodesL P0.ts + 1) := by show _ = _; conv => lhs; rw [eP]
                                                     rfl
  have HNl : Hid (σ.length ≤ 999) := by have := nodes_pos P0; show _ ≤ _; omega
  have HNN := Lib.hid hN
  have hW : ∃ W, W = ((w.alloc (.cells #[.int .i64 k, .string n, .int .i64 i, .int .i64 hm, .slice pa P0.ts.length pc] 28)).alloc (.cells #[.int .i64 k', .string n', .int .i64 i', .int .i64 hm', .slice ta T.ts.length tc] 28)) := ⟨_, rfl⟩
  obtain ⟨W, hW⟩ := hW
  have HB1 : Hid (Box W w.heap.size (.int .i64 k) (.string n) (.int .i64 i) (.int .i64 hm) (.slice pa P0.ts.length pc)) := by
    show Box _ _ _ _ _ _ _
    subst hW
    unfold Box; rw [heap_at, if_neg (by simp), heap_at, if_pos rfl]
  have HB2 : Hid (Box W (w.heap.size + 1) (.int .i64 k') (.string n') (.int .i64 i') (.int .i64 hm') (.slice ta T.ts.length tc)) := by
    show Box _ _ _ _ _ _ _
    subst hW
    unfold Box; rw [heap_at, if_pos (by simp)]
  have hlW : RowKit.Below w.heap.size w W := by subst hW; exact ((Below.refl _ w).alloc (Nat.le_refl _) _).alloc (by simp) _
  have HLW := Lib.hid hlW
  obtain ⟨sl, hsl⟩ : ∃ l, l = σ.length := ⟨_, rfl⟩
  rw [← hsl] at HSG HSA HNl HNN ⊢
  have HSl := Lib.hid hsl
  obtain ⟨m, hm0⟩ : ∃ l, l = P0.ts.length := ⟨_, rfl⟩
  rw [← hm0] at HB1 hpc hW HM HP ⊢
  have HM0 := Lib.hid hm0
  obtain ⟨m', hm0'⟩ : ∃ l, l = T.ts.length := ⟨_, rfl⟩
  rw [← hm0'] at HB2 htc hW HM HT ⊢
  have HM1 := Lib.hid hm0'
  clear hsl hm0 hm0' hpj htj hp ht hs eP eT hn hn' H hN
  obtain ⟨b0, b1, b2, b3, b4⟩ := HB1.out.cells
  obtain ⟨d0, d1, d2, d3, d4⟩ := HB2.out.cells
  have HAl : Hid (∀ (w : World) (o : Obj), RowKit.Below w.heap.size w (w.alloc o)) := fun w o => (Below.refl _ w).alloc (Nat.le_refl _) _
  go_enter Try.func51, Try.ntmps51
  go_upto_region 1 with fail
  rw [← hW]
  clear hW
  cases hk : (k == 1) with
  | true =>
    cases hq : asgd σ i with
    | true =>
      have HHs : Hid (Calls Try.prog 35 #[.slice sa sl sc, .int .i64 i] W fun e W' => e = .returned (.bool true) ∧ W' = W) := hq ▸ refHas_any σ i _ _ W (HSA.out.lift hlW)
      have HC : Hid (Calls Try.prog 16 #[.slice sa sl sc, .agg #[.int .i64 k, .string n, .int .i64 i, .int .i64 hm, .slice pa m pc]] W.drew fun e W'' => ∃ r, e = .returned r ∧ Rep W'' (fun _ => True) (repl σ P0) r ∧ RowKit.Below W.drew.heap.size W.drew W'') := by
        have hld := hlW.trans ((Below.refl _ W).drew.mono hlW.size)
        exact refApply_any σ P0 _ _ (fun _ => True) (fun b => True ∧ b < w.heap.size) W.drew (by have := HNN.out; omega) (HSA.out.bound.lift hld) (fun _ hb' => ⟨trivial, Nat.lt_of_lt_of_le hb'.2 hld.size⟩) (fun _ _ => trivial) ((HP.out.imp fun _ _ => trivial).lift hld)
      have HEq : Hid (∀ (v : Value) (W' : World), RowKit.Below w.heap.size w W' → Rep W' (fun _ => True) (repl σ P0) v → Calls Try.prog 14 #[v, .agg #[.int .i64 k', .string n', .int .i64 i', .int .i64 hm', .slice ta m' tc]] W' fun e W'' => e = .returned (.bool (teq (repl σ P0) T)) ∧ RowKit.Below W'.heap.size W' W'') := fun v W' hb h1 => refEqual_any _ _ (Nat.le_refl _) T v _ _ (fun _ => True) W' h1 ((HT.out.imp fun _ _ => trivial).lift hb)
      go_upto_region 3 with (go_at_call 35; refine HHs.out.mono ?_; rintro e w3 ⟨rfl, rfl⟩)
      cases ht : teq (repl σ P0) T
      all_goals
        rw [ht] at HEq
        go_wp2_with fail
        go_region_held3 (fun w' => w'.cell? ⟨w.heap.size, 0, none⟩ = some (.int .i64 k) ∧ w'.cell? ⟨w.heap.size, 1, none⟩ = some (.string n) ∧ w'.cell? ⟨w.heap.size, 2, none⟩ = some (.int .i64 i) ∧ w'.cell? ⟨w.heap.size, 3, none⟩ = some (.int .i64 hm) ∧ w'.cell? ⟨w.heap.size, 4, none⟩ = some (.slice pa m pc) ∧ w'.cell? ⟨w.heap.size + 1, 0, none⟩ = some (.int .i64 k') ∧ w'.cell? ⟨w.heap.size + 1, 1, none⟩ = some (.string n') ∧ w'.cell? ⟨w.heap.size + 1, 2, none⟩ = some (.int .i64 i') ∧ w'.cell? ⟨w.heap.size + 1, 3, none⟩ = some (.int .i64 hm') ∧ w'.cell? ⟨w.heap.size + 1, 4, none⟩ = some (.slice ta m' tc) ∧ RowKit.Below w3.heap.size w3 w')
          (first
            | (go_split_ands; exact keep10 (by assumption) (by assumption) (by assumption) (by assumption) (by assumption) (by assumption) (by assumption) (by assumption) (by assumption) (by assumption) (by assumption) hb)
            | exact ⟨b0, b1, b2, b3, b4, d0, d1, d2, d3, d4, (Below.refl _ w3).drew⟩)
          (first
            | (go_at_call 16; (with_reducible refine HC.out.mono ?_); rintro e w' ⟨r, rfl, hp, hb⟩; have HPr := Lib.hid hp; have hbr := HLW.out.trans (((Below.refl _ w3).drew.trans (hb.mono (Nat.le_refl _))).mono HLW.out.size); have HBr := Lib.hid hbr; clear hp hbr)
            | (go_at_call 14; (with_reducible refine (HEq.out r _ HBr.out HPr.out).mono ?_); rintro e w' ⟨rfl, hb⟩))
      all_goals
        go_split_ands
        have hbF : RowKit.Below w3.heap.size w3 w' := by assumption
        have hlF := HLW.out.trans (hbF.mono HLW.out.size)
        clear b0 b1 b2 b3 b4 d0 d1 d2 d3 d4
        go_wp2
      all_goals first
        | (refine bodyPost_ret (v := .tuple #[.slice none 0 0, .bool false]) (by simp [results, Try.results51, go_sem]; try rfl) rfl ?_; refine ⟨.slice none 0 0, by rw [HM.out, hk, if_pos rfl, hq, if_pos rfl, ht]; rfl, fun σ' h => ?_, hlF⟩; rw [HM.out, hk, if_pos rfl, hq, if_pos rfl, ht] at h; cases h)
        | (refine bodyPost_ret (v := .tuple #[.slice sa sl sc, .bool true]) (by simp [results, Try.results51, go_sem]; try rfl) rfl ?_; refine ⟨.slice sa sl sc, by rw [HM.out, hk, if_pos rfl, hq, if_pos rfl, ht]; rfl, fun σ' h => ?_, hlF⟩; rw [HM.out, hk, if_pos rfl, hq, if_pos rfl, ht] at h; cases h; exact SlG.kept (fun _ h => h) (fun b _ hl => hlF.block b hl) HSG.out)
    | false =>
      have HHs : Hid (Calls Try.prog 35 #[.slice sa sl sc, .int .i64 i] W fun e W' => e = .returned (.bool false) ∧ W' = W) := hq ▸ refHas_any σ i _ _ W (HSA.out.lift hlW)
      have HD : Hid (RowKit.Below w.heap.size w W.drew) := hlW.trans ((Below.refl _ W).drew.mono hlW.size)
      have HD2 : Hid (∀ o, RowKit.Below w.heap.size w (W.alloc o).drew) := fun o => (hlW.trans ((HAl.out _ o).mono hlW.size)).drew
      have HG1 : Hid (SlG AsE W.drew (fun _ => True) σ (.slice sa sl sc)) := SlG.kept (fun _ h => h) (fun b _ hl => HD.out.block b hl) HSG.out
      have HG2 : Hid (∀ o, SlG AsE (W.alloc o).drew (fun _ => True) σ (.slice sa sl sc)) := fun o => SlG.kept (fun _ h => h) (fun b _ hl => (HD2.out o).block b hl) HSG.out
      have hslb : σ.length ≤ 1000000 := by have := HNl.out; have := HSl.out; omega
      have hslb2 : σ.length + 1 ≤ 1000000 := by have := HNl.out; have := HSl.out; omega
      go_upto_region 6 with (go_at_call 35; refine HHs.out.mono ?_; rintro e w3 ⟨rfl, rfl⟩)
      have hs3 : w.heap.size ≤ w3.heap.size := hlW.size
      have HD0 : Hid (RowKit.Below w3.heap.size w3 w3.drew) := (Below.refl _ w3).drew
      have HDA : Hid (∀ o, RowKit.Below w3.heap.size w3 (w3.alloc o).drew) := fun o => (HAl.out _ o).drew
      clear hlW
      go_wp2_with fail
      go_region_law
        (first
          | ((with_reducible refine fitAD w3 _ ?_); (refine step_cloneG AsE rfl _ _ rfl rfl σ (.slice sa sl sc) (fun _ => True) (HG2.out _) rfl hslb ?_); intro a' c' w5 hrow hb; have HCl := Lib.hid (clSt HLW.out (HDA.out _) HT.out hrow hb); obtain ⟨-, -, g2, -, -⟩ := (HB1.out.lift HCl.out.keep).cells; obtain ⟨f0, f1, f2, f3, f4⟩ := (HB2.out.lift HCl.out.keep).cells; clear hrow hb)
          | ((refine step_cloneG AsE rfl _ _ rfl rfl σ (.slice sa sl sc) (fun _ => True) HG1.out rfl hslb ?_); intro a' c' w5 hrow hb; have HCl := Lib.hid (clSt HLW.out HD0.out HT.out hrow hb); obtain ⟨-, -, g2, -, -⟩ := (HB1.out.lift HCl.out.keep).cells; obtain ⟨f0, f1, f2, f3, f4⟩ := (HB2.out.lift HCl.out.keep).cells; clear hrow hb)
          | ((with_reducible refine fitA w5 _ ?_); (refine step_pushAs HCl.out.row HCl.out.x rfl _ _ rfl rfl rfl (σ.length + 1) rfl hslb2 HCl.out.b.size ?_); intro a2 c2 w6 hrow hg _; have HRow6 := Lib.hid hrow; have hb6 := HCl.out.after hg; clear hrow hg)
          | ((refine step_pushB HCl.out.b HCl.out.row HCl.out.x rfl _ _ rfl rfl w3.heap.size rfl rfl (σ.length + 1) rfl hslb2 HCl.out.b.size ?_); intro a2 c2 w6 hrow hg; have HRow6 := Lib.hid hrow; have hb6 := HCl.out.after hg; clear hrow hg))
      all_goals
        clear b0 b1 b2 b3 b4 d0 d1 d2 d3 d4
        go_wp2
        refine bodyPost_ret (v := .tuple #[.slice a2 (σ.length + 1) c2, .bool true]) (by simp [results, Try.results51, go_sem]; try rfl) rfl ?_
        refine ⟨.slice a2 (σ.length + 1) c2, by rw [HM.out, hk, if_pos rfl, hq]; rfl, fun σ' h => ?_, hb6⟩
        rw [HM.out, hk, if_pos rfl, hq] at h
        cases h
        exact HRow6.out.slG (fun _ _ => trivial) (fun _ _ => trivial)
  | false =>
    cases hsame : (k == k' && n.toList == n'.toList && i == i' && hm == hm' && m == m') with
    | false =>
      cases e1 : (k == k') with
      | false =>
        go_wp2
        all_goals
          refine bodyPost_ret (v := .tuple #[.slice none 0 0, .bool false]) (by simp [results, Try.results51, go_sem]; try rfl) rfl ?_
          exact ⟨.slice none 0 0, by rw [HM.out, hk, hsame]; rfl, fun σ' h => by rw [HM.out, hk, hsame] at h; (cases h), HLW.out⟩
      | true =>
        cases e2 : (n.toList == n'.toList) with
        | false =>
          go_wp2
          all_goals
            refine bodyPost_ret (v := .tuple #[.slice none 0 0, .bool false]) (by simp [results, Try.results51, go_sem]; try rfl) rfl ?_
            exact ⟨.slice none 0 0, by rw [HM.out, hk, hsame]; rfl, fun σ' h => by rw [HM.out, hk, hsame] at h; (cases h), HLW.out⟩
        | true =>
          cases e3 : (i == i') with
          | false =>
            go_wp2
            all_goals
              refine bodyPost_ret (v := .tuple #[.slice none 0 0, .bool false]) (by simp [results, Try.results51, go_sem]; try rfl) rfl ?_
              exact ⟨.slice none 0 0, by rw [HM.out, hk, hsame]; rfl, fun σ' h => by rw [HM.out, hk, hsame] at h; (cases h), HLW.out⟩
          | true =>
            cases e4 : (hm == hm') with
            | false =>
              go_wp2
              all_goals
                refine bodyPost_ret (v := .tuple #[.slice none 0 0, .bool false]) (by simp [results, Try.results51, go_sem]; try rfl) rfl ?_
                exact ⟨.slice none 0 0, by rw [HM.out, hk, hsame]; rfl, fun σ' h => by rw [HM.out, hk, hsame] at h; (cases h), HLW.out⟩
            | true =>
              cases e5 : (m == m') with
              | false =>
                go_wp2
                all_goals
                  refine bodyPost_ret (v := .tuple #[.slice none 0 0, .bool false]) (by simp [results, Try.results51, go_sem]; try rfl) rfl ?_
                  exact ⟨.slice none 0 0, by rw [HM.out, hk, hsame]; rfl, fun σ' h => by rw [HM.out, hk, hsame] at h; (cases h), HLW.out⟩
              | true =>
                rw [e1, e2, e3, e4, e5] at hsame
                cases hsame
    | true =>
      simp only [Bool.and_eq_true] at hsame
      obtain ⟨⟨⟨⟨e1, e2⟩, e3⟩, e4⟩, e5⟩ := hsame
      have HM2 : Hid (mtch P0 T σ = mtchL P0.ts T.ts σ) := by show _ = _; rw [HM.out, hk, e1, e2, e3, e4, e5]; rfl
      obtain rfl : m = m' := by simpa using e5
      obtain rfl : k = k' := by simpa using e1
      obtain rfl : i = i' := by simpa using e3
      obtain rfl : hm = hm' := by simpa using e4
      have H0 : Hid (MtIn P0.ts T.ts σ 0 (.slice sa sl sc) true W) := .inl ⟨rfl, σ, SlG.kept (fun _ h => h) (fun b _ hl => hlW.block b hl) HSG.out, rfl, by have h1 := HNd.out; have h2 := HNN.out; have h3 := HSl.out; show nodesL P0.ts + _ ≤ _; omega⟩
      clear hlW HSG HSA
      go_wp2
      go_loopw [2, 8, 9] (fun s o x wr => ∃ (j : Nat) (b : Bool), j ≤ m ∧ x = .int .i64 j ∧ o = .bool b ∧ Hid (MtIn P0.ts T.ts σ j s b wr) ∧ RowKit.Below W.heap.size W wr) (fun _ _ x _ => m - (intOf x).toNat)
      case atStart => exact ⟨0, true, Nat.zero_le _, rfl, rfl, H0, Below.refl _ _⟩
      case round =>
        clear H0
        obtain ⟨j, b, hj, rfl, rfl, HIn, hb⟩ := hrel
        have hbw := HLW.out.trans (hb.mono HLW.out.size)
        obtain ⟨b0, b1, b2, b3, b4⟩ := (HB1.out.lift hb).cells
        obtain ⟨d0, d1, d2, d3, d4⟩ := (HB2.out.lift hb).cells
        by_cases hlt : j < m ∧ b = true
        · obtain ⟨hlt, rfl⟩ := hlt
          obtain ⟨-, σj, hsj, hmj, hnj⟩ : true = true ∧ _ := by rcases HIn.out with h | h; exact h; cases h.1
          obtain ⟨p, hp⟩ : ∃ x, P0.ts[j]? = some x := ⟨_, List.getElem?_eq_getElem (by rw [← HM0.out]; exact hlt)⟩
          obtain ⟨t, ht⟩ : ∃ x, T.ts[j]? = some x := ⟨_, List.getElem?_eq_getElem (by rw [← HM1.out]; exact hlt)⟩
          obtain ⟨pad, x, rfl, -, h5, hx⟩ := HPJ.out j p hp
          obtain ⟨tad, y, rfl, -, h5', hy⟩ := HTJ.out j t ht
          have hx' := hx.lift hbw
          have hy' := hy.lift hbw
          obtain ⟨xk, xn, xi, xh, xa, xm, xc, rfl⟩ := hx.form
          obtain ⟨yk, yn, yi, yh, ya, ym, yc, rfl⟩ := hy.form
          obtain ⟨p0, p1, p2, p3, p4⟩ := five_at (h5.kept (hbw.block _ h5.lt))
          obtain ⟨t0, t1, t2, t3, t4⟩ := five_at (h5'.kept (hbw.block _ h5'.lt))
          obtain ⟨ja, jc, rfl, -⟩ := hsj.slice
          have HSj := Lib.hid (SlG.kept (fun _ h => h) (fun b _ hl => ((Below.refl _ wr).drew).block b hl) hsj)
          have hnp := nodesL_step hp
          have HC : Hid (Calls Try.prog 51 #[.agg #[.int .i64 xk, .string xn, .int .i64 xi, .int .i64 xh, .slice xa xm xc], .agg #[.int .i64 yk, .string yn, .int .i64 yi, .int .i64 yh, .slice ya ym yc], .slice ja σj.length jc] wr.drew fun e w' => ∃ u q, e = .returned (.tuple #[u, .bool q]) ∧ MtIn P0.ts T.ts σ (j + 1) u q w' ∧ RowKit.Below wr.drew.heap.size wr.drew w') :=
            (HH.out p (List.mem_of_getElem? hp) t σj _ _ _ wr.drew (by omega) (hx'.lift (Below.refl _ wr).drew) (hy'.lift (Below.refl _ wr).drew) HSj.out).mono fun e w' ⟨u, h1, h2, h3⟩ => ⟨u, _, h1, MtIn.next hp ht hmj hnj h2, h3⟩
          have hji : (j : Int) < (m : Int) := by omega
          have HS : Hid (∀ W', RowKit.Below wr.heap.size wr W' → W'.cell? ⟨w.heap.size, 4, none⟩ = some (.slice (some pad) m pc) ∧ W'.cell? ⟨w.heap.size + 1, 4, none⟩ = some (.slice (some tad) m tc) ∧ W'.cell? (pad.add (j * 5)) = some (.int .i64 xk) ∧ W'.cell? ⟨(pad.add (j * 5)).block, (pad.add (j * 5)).off + 1, none⟩ = some (.string xn) ∧ W'.cell? ⟨(pad.add (j * 5)).block, (pad.add (j * 5)).off + 2, none⟩ = some (.int .i64 xi) ∧ W'.cell? ⟨(pad.add (j * 5)).block, (pad.add (j * 5)).off + 3, none⟩ = some (.int .i64 xh) ∧ W'.cell? ⟨(pad.add (j * 5)).block, (pad.add (j * 5)).off + 4, none⟩ = some (.slice xa xm xc) ∧ W'.cell? (tad.add (j * 5)) = some (.int .i64 yk) ∧ W'.cell? ⟨(tad.add (j * 5)).block, (tad.add (j * 5)).off + 1, none⟩ = some (.string yn) ∧ W'.cell? ⟨(tad.add (j * 5)).block, (tad.add (j * 5)).off + 2, none⟩ = some (.int .i64 yi) ∧ W'.cell? ⟨(tad.add (j * 5)).block, (tad.add (j * 5)).off + 3, none⟩ = some (.int .i64 yh) ∧ W'.cell? ⟨(tad.add (j * 5)).block, (tad.add (j * 5)).off + 4, none⟩ = some (.slice ya ym yc)) := fun W' hb => by
            have k : ∀ p v, wr.cell? p = some v → W'.cell? p = some v := fun p v h => (hb.cell (World.block_lt_of_cell? _ _ h)).trans h
            exact ⟨k _ _ b4, k _ _ d4, k _ _ p0, k _ _ p1, k _ _ p2, k _ _ p3, k _ _ p4, k _ _ t0, k _ _ t1, k _ _ t2, k _ _ t3, k _ _ t4⟩
          have HD0 : Hid (RowKit.Below wr.heap.size wr wr.drew) := (Below.refl _ wr).drew
          clear hx hy hx' hy' h5 h5' hp ht hmj hnj hnp hsj HSj HIn
          generalize σj.length = jn at *
          go_wp2_with fail
          go_region_held3 (fun W' => W'.cell? ⟨w.heap.size, 4, none⟩ = some (.slice (some pad) m pc) ∧ W'.cell? ⟨w.heap.size + 1, 4, none⟩ = some (.slice (some tad) m tc) ∧ W'.cell? (pad.add (j * 5)) = some (.int .i64 xk) ∧ W'.cell? ⟨(pad.add (j * 5)).block, (pad.add (j * 5)).off + 1, none⟩ = some (.string xn) ∧ W'.cell? ⟨(pad.add (j * 5)).block, (pad.add (j * 5)).off + 2, none⟩ = some (.int .i64 xi) ∧ W'.cell? ⟨(pad.add (j * 5)).block, (pad.add (j * 5)).off + 3, none⟩ = some (.int .i64 xh) ∧ W'.cell? ⟨(pad.add (j * 5)).block, (pad.add (j * 5)).off + 4, none⟩ = some (.slice xa xm xc) ∧ W'.cell? (tad.add (j * 5)) = some (.int .i64 yk) ∧ W'.cell? ⟨(tad.add (j * 5)).block, (tad.add (j * 5)).off + 1, none⟩ = some (.string yn) ∧ W'.cell? ⟨(tad.add (j * 5)).block, (tad.add (j * 5)).off + 2, none⟩ = some (.int .i64 yi) ∧ W'.cell? ⟨(tad.add (j * 5)).block, (tad.add (j * 5)).off + 3, none⟩ = some (.int .i64 yh) ∧ W'.cell? ⟨(tad.add (j * 5)).block, (tad.add (j * 5)).off + 4, none⟩ = some (.slice ya ym yc))
            (first
              | with_reducible exact HS.out _ HD3.out
              | with_reducible exact HS.out _ HD0.out)
            (first
              | (go_at_call 51; (with_reducible refine HC.out.mono ?_); rintro e w3 ⟨u, q, rfl, hin, hb3⟩; have HIn3 := Lib.hid hin; have HD3 := Lib.hid (HD0.out.trans (hb3.mono HD0.out.size)); clear hin hb3))
          all_goals
            have hb3 := hb.trans (HD3.out.mono hb.size)
            clear p0 p1 p2 p3 p4 t0 t1 t2 t3 t4 b0 b1 b2 b3 b4 d0 d1 d2 d3 d4
            go_split_ands
            go_wp2
            go_roundw
            case rel => exact ⟨j + 1, q, hlt, by go_num, rfl, HIn3, hb3⟩
            case measure => simp [intOf]; omega
        · cases b with
          | false =>
            have HNo : Hid (mtch P0 T σ = none) := by show _ = _; rw [HM2.out]; rcases HIn.out with h | h; cases h.1; exact h.2
            by_cases hjm : (j : Int) < (m : Int)
            all_goals
              go_wp2
              refine bodyPost_ret (v := .tuple #[.slice none 0 0, .bool false]) (by simp [results, Try.results51, go_sem]; try rfl) rfl ?_
              exact ⟨.slice none 0 0, by rw [HNo.out]; rfl, fun σ' h => by rw [HNo.out] at h; (cases h), hbw⟩
          | true =>
            obtain rfl : j = m := by have : ¬ j < m := fun h => hlt ⟨h, rfl⟩; omega
            obtain ⟨-, σj, hsj, hmj, hnj⟩ : true = true ∧ _ := by rcases HIn.out with h | h; exact h; cases h.1
            have HYes : Hid (mtch P0 T σ = some σj) := by
              show _ = _
              rw [HM2.out, hmj, List.drop_eq_nil_of_le (by rw [← HM0.out]; exact Nat.le_refl _)]
              simp [mtchL]
            obtain ⟨ja, jc, rfl, -⟩ := hsj.slice
            have HSj := Lib.hid hsj
            clear hsj hmj hnj HIn
            go_wp2
            refine bodyPost_ret (v := .tuple #[.slice ja σj.length jc, .bool true]) (by simp [results, Try.results51, go_sem]; try rfl) rfl ?_
            exact ⟨.slice ja σj.length jc, by rw [HYes.out]; rfl, fun σ' h => by rw [HYes.out] at h; (cases h); exact HSj.out, hbw⟩
theorem match_any (P0 : Ty) : MtAt Try.prog 51 P0 := Ty.induct match_of P0
end Go.Proofs.Ytmjdddmfhakabaa

namespace Go.Proofs.Ytmjdddmfhakabaa
open Go.RowKit Go.Sort Go.Shelf Go.Maps Mth

def sameN (P T : Ty) : Bool := P.k == T.k && P.n.toList == T.n.toList && P.i == T.i && P.h == T.h && P.ts.length == T.ts.length
theorem castEq (m n : Nat) : ((m : Int) == (n : Int)) = (m == n) := by
  by_cases h : m = n
  · subst h; simp
  · have : ¬ (m : Int) = (n : Int) := by omega
    rw [beq_eq_false_iff_ne.2 this, beq_eq_false_iff_ne.2 h]
set_option maxRecDepth 100000 in
set_option maxHeartbeats 6400000 in
theorem sameNode_any (P0 T : Ty) (pv tv : Value) (S S' : Nat → Prop) (w : World) (hp : Rep w S P0 pv) (ht : Rep w S' T tv) :
    Calls Try.prog 66 #[pv, tv] w fun e w' => e = .returned (.bool (sameN P0 T)) ∧ RowKit.Below w.heap.size w w' := by
  obtain ⟨k, n, i, hm, ps, eP, rfl, hn, hpl⟩ := hp.open
  obtain ⟨k', n', i', hm', ts, eT, rfl, hn', htl⟩ := ht.open
  obtain ⟨pa, pc, rfl, ⟨hpc, hpc2⟩, -⟩ := hpl
  obtain ⟨ta, tc, rfl, ⟨htc, htc2⟩, -⟩ := htl
  unfold maxLen at hpc2 htc2
  have HE : Hid (sameN P0 T = (k == k' && n.toList == n'.toList && i == i' && hm == hm' && ((P0.ts.length : Int) == (T.ts.length : Int)))) := by
    show _ = _
    rw [castEq]
    conv => lhs; rw [eP, eT]
    rfl
  clear hp ht eP eT hn hn'
  generalize P0.ts.length = m at *
  generalize T.ts.length = m' at *
  have hb0 : ∀ X Y Z Z', RowKit.Below w.heap.size w ((w.alloc (.cells X Z)).alloc (.cells Y Z')) := fun X Y Z Z' => ((Below.refl _ w).alloc (Nat.le_refl _) _).alloc (by simp) _
  go_enter Try.func66, Try.ntmps66
  cases e1 : (k == k') <;> cases e2 : (n.toList == n'.toList) <;> cases e3 : (i == i') <;> cases e4 : (hm == hm') <;> cases e5 : ((m : Int) == (m' : Int))
  all_goals
    go_wp2
    go_ret
    exact ⟨by rw [HE.out, e1, e2, e3, e4, e5]; rfl, hb0 _ _ _ _⟩
end Go.Proofs.Ytmjdddmfhakabaa

namespace Go.Proofs.Ytmjdddmfhakabaa
open Go.RowKit Go.Sort Go.Shelf Go.Maps Mth

theorem wpList_pushAsO {v : World} {ops : Array Oper} {rest : List Oper} {o : Oper} {a : Act} {Q : Exit → Act → World → Prop} {base : Nat} {S : Nat → Prop} {sv : Value} {xs : List (Int × Ty)} {Z : TypeId} {i k : Int} {n : ByteArray} {i' h : Int} {s : Value} {T : Ty} (hrow : RowG AsE v base S sv xs) (hx : Rep v (fun c => S c ∧ some c ≠ sv.ownBlock) T (.agg #[.int .i64 k, .string n, .int .i64 i', .int .i64 h, s]))
    (hgd : o.guard = none) (x y : Operand) (ho : o.op = .call { callee := .builtin .append, args := #[x, y], argTypes := #[25, 25] }) (hs : a.eval x = sv) (nn : Nat) (hnn : nn = v.heap.size) (hy : a.eval y = .slice (some ⟨nn, 0, none⟩) 1 1)
    (N : Nat) (hN : N = xs.length + 1) (hb : N ≤ 1000000) (hbase : base ≤ v.heap.size)
    (hK : ∀ (a' : Option Addr) (c' : Nat) (w' : World), RowG AsE w' base S (.slice a' N c') (xs ++ [(i, T)]) → v.grownBy w' sv.ownBlock → ((Value.slice a' N c').ownBlock = sv.ownBlock ∨ ∃ g, (Value.slice a' N c').ownBlock = some g ∧ v.heap.size ≤ g) → wpList Try.prog ops Q rest (a.put o.dst (.slice a' N c')) w') :
    wpList Try.prog ops Q (o :: rest) a (v.alloc (.cells #[.int .i64 i, .int .i64 k, .string n, .int .i64 i', .int .i64 h, s] Z)) := by
  subst hnn
  have hba : RowKit.Below v.heap.size v (v.alloc (.cells #[.int .i64 i, .int .i64 k, .string n, .int .i64 i', .int .i64 h, s] Z)) := (Below.refl _ v).alloc (Nat.le_refl _) _
  obtain ⟨iz, z, hi, hz, hk, hby, hzs⟩ := AsE.info
  obtain ⟨L, hown, hl, hr⟩ := hrow.lift hba
  have hx2 := asE_rep (i := i) (hx.lift hba)
  have hc := AsE.len hx2
  have hE := AsE.hby
  refine wpList_append_own_at _ hgd x y AsE.t ho base AsE.e iz z AsE.k AsE.by_ AsE.und hi hz hk hby hzs AsE.hk sv xs.length L.flatten hs hown ⟨v.heap.size, 0, none⟩ 1 1 [.int .i64 i, .int .i64 k, .string n, .int .i64 i', .int .i64 h, s] hy (by rw [hc.1]; rfl) (World.news_of_block (heap_alloc_new v _)) hc.2 (by unfold maxLen; omega) ?_ (Nat.le_trans hbase hba.size) ?_
  · have := Nat.mul_le_mul (show xs.length + 1 ≤ 1000000 by omega) hE
    omega
  intro v' w' hown' hg _ hloc
  have hrow' : RowG AsE w' base S v' (xs ++ [(i, T)]) := push_after hl hr hx2 hown' hg hloc
  obtain ⟨a', c', rfl, _⟩ := hrow'.slice
  have e : (xs ++ [(i, T)]).length = N := by rw [List.length_append, hN]; rfl
  rw [e] at hrow' hloc ⊢
  refine hK a' c' w' hrow' (grown_trans (World.grownBy_alloc v _ _) hg) ?_
  rcases hloc with h3 | h3
  · exact .inl h3
  · exact .inr ⟨_, h3, hba.size⟩
def ExtAt (P0 : Ty) : Prop := ∀ (T : Ty) (σ : List (Int × Ty)) (pv tv sv : Value) (w : World) (base : Nat), nodes P0 + σ.length ≤ 1000 → base ≤ w.heap.size → RowG AsE w base (fun _ => True) sv σ → Rep w (fun c => some c ≠ sv.ownBlock) P0 pv → Rep w (fun c => some c ≠ sv.ownBlock) T tv →
  Calls Try.prog 50 #[sv, pv, tv] w fun e w' => ∃ u, e = .returned (.tuple #[u, .bool (mtch P0 T σ).isSome]) ∧ (∀ σ', mtch P0 T σ = some σ' → RowG AsE w' base (fun _ => True) u σ' ∧ (u.ownBlock = sv.ownBlock ∨ ∃ g, u.ownBlock = some g ∧ w.heap.size ≤ g)) ∧ w.grownBy w' sv.ownBlock
/-- What the loop over the arguments holds. -/
structure XtSt (W : World) (base : Nat) (sv sj : Value) (σj : List (Int × Ty)) (v : World) : Prop where
  row : RowG AsE v base (fun _ => True) sj σj
  grown : W.grownBy v sv.ownBlock
  own : sj.ownBlock = sv.ownBlock ∨ ∃ g, sj.ownBlock = some g ∧ W.heap.size ≤ g
theorem XtSt.lift {W : World} {base : Nat} {sv sj : Value} {σj : List (Int × Ty)} {v v' : World} (h : XtSt W base sv sj σj v) (hb : RowKit.Below v.heap.size v v') : XtSt W base sv sj σj v' :=
  ⟨h.row.lift hb, grown_trans h.grown (grown_of_below hb _), h.own⟩
theorem XtSt.rep {w W : World} {base : Nat} {sv sj : Value} {σj : List (Int × Ty)} {v : World} {T : Ty} {u : Value} (h : XtSt W base sv sj σj v) (hW : RowKit.Below w.heap.size w W) (hr : Rep w (fun c => some c ≠ sv.ownBlock ∧ c < w.heap.size) T u) : Rep v (fun c => some c ≠ sj.ownBlock) T u := by
  have h1 : Rep v (fun c => some c ≠ sv.ownBlock ∧ c < w.heap.size) T u := (hr.lift hW).kept (fun _ h => h) (fun c hc hlt => h.grown.block c hlt hc.1)
  refine h1.imp fun c hc => ?_
  rcases h.own with e | ⟨g, e, hg⟩
  · rw [e]; exact hc.1
  · rw [e]; intro e'; have := Option.some.inj e'; have := hW.size; omega
theorem XtSt.after {W : World} {base : Nat} {sv sj : Value} {σj : List (Int × Ty)} {v v' : World} (h : XtSt W base sv sj σj v) (hg : v.grownBy v' sj.ownBlock) : W.grownBy v' sv.ownBlock := by
  rcases h.own with e | ⟨g, e, hge⟩
  · rw [e] at hg; exact grown_trans h.grown hg
  · exact grown_fresh h.grown hg fun i hi => by rw [e] at hi; cases hi; exact hge
theorem XtSt.next {W : World} {base : Nat} {sv sj u : Value} {σj σ' : List (Int × Ty)} {v v' : World} (h : XtSt W base sv sj σj v) (hg : v.grownBy v' sj.ownBlock) (hr : RowG AsE v' base (fun _ => True) u σ') (ho : u.ownBlock = sj.ownBlock ∨ ∃ g, u.ownBlock = some g ∧ v.heap.size ≤ g) : XtSt W base sv u σ' v' := by
  refine ⟨hr, h.after hg, ?_⟩
  rcases ho with e | ⟨g, e, hge⟩
  · rw [e]; exact h.own
  · exact .inr ⟨g, e, Nat.le_trans h.grown.size hge⟩
set_option maxRecDepth 100000 in
set_option maxHeartbeats 6400000 in
theorem extend_of (P0 : Ty) (H : ∀ U ∈ P0.ts, ExtAt U) : ExtAt P0 := by
  intro T σ pv tv sv w base hN hbase hrow hp ht
  have HP := Lib.hid hp.bound
  have HT := Lib.hid ht.bound
  have HRw := Lib.hid hrow
  have HSA := Lib.hid (slG_asL (hrow.slG (S' := fun _ => True) (fun _ h => h) (fun _ _ => trivial)))
  have HH := Lib.hid H
  have HOwn : Hid (∀ c, sv.ownBlock = some c → c < w.heap.size) := fun c e => (hrow.lt c e).2
  obtain ⟨k, n, i, hm, ps, eP, rfl, hn, hpl⟩ := hp.open
  obtain ⟨k', n', i', hm', ts, eT, rfl, hn', htl⟩ := ht.open
  obtain ⟨sa, sc, rfl, -, -⟩ := hrow.slice
  have hplb := hpl.bound
  have htlb := htl.bound
  obtain ⟨pa, pc, rfl, ⟨hpc, hpc2⟩, hpj⟩ := hplb
  obtain ⟨ta, tc, rfl, ⟨htc, htc2⟩, htj⟩ := htlb
  have HPJ := Lib.hid hpj
  have HTJ := Lib.hid htj
  unfold maxLen at hpc2 htc2
  have HM : Hid (mtch P0 T σ = if k == 1 then (if asgd σ i then (if teq (repl σ P0) T then some σ else none) else some (σ ++ [(i, T)])) else if k == k' && n.toList == n'.toList && i == i' && hm == hm' && P0.ts.length == T.ts.length then mtchL P0.ts T.ts σ else none) := by
    show _ = _
    conv => lhs; rw [eP, mtch]
    rw [← eP]
    conv => lhs; rw [eT]
    conv => rhs; rw [eT]
    rfl
  have HSm : Hid (sameN P0 T = (k == k' && n.toList == n'.toList && i == i' && hm == hm' && P0.ts.length == T.ts.length)) := by
    show _ = _
    conv => lhs; rw [eP, eT]
    rfl
  have HLk : Hid (k = 1 → asgd σ i = true → (look σ i).getD zT = repl σ P0) := by
    intro h1 h2
    obtain ⟨t, ht⟩ := look_some h2
    conv => rhs; rw [eP, h1, repl_one]
    rw [ht]; rfl
  have HNd : Hid (nodes P0 = nodesL P0.ts + 1) := by show _ = _; conv => lhs; rw [eP]
                                                     rfl
  have HNl : Hid (σ.length ≤ 999) := by have := nodes_pos P0; show _ ≤ _; omega
  have HNN := Lib.hid hN
  have HBs := Lib.hid hbase
  obtain ⟨W, hW⟩ : ∃ W, W = ((w.alloc (.cells #[.int .i64 k, .string n, .int .i64 i, .int .i64 hm, .slice pa P0.ts.length pc] 28)).alloc (.cells #[.int .i64 k', .string n', .int .i64 i', .int .i64 hm', .slice ta T.ts.length tc] 28)) := ⟨_, rfl⟩
  have HB1 : Hid (Box W w.heap.size (.int .i64 k) (.string n) (.int .i64 i) (.int .i64 hm) (.slice pa P0.ts.length pc)) := by
    show Box _ _ _ _ _ _ _
    subst hW
    unfold Box; rw [heap_at, if_neg (by simp), heap_at, if_pos rfl]
  have HB2 : Hid (Box W (w.heap.size + 1) (.int .i64 k') (.string n') (.int .i64 i') (.int .i64 hm') (.slice ta T.ts.length tc)) := by
    show Box _ _ _ _ _ _ _
    subst hW
    unfold Box; rw [heap_at, if_pos (by simp)]
  have hlW : RowKit.Below w.heap.size w W := by subst hW; exact ((Below.refl _ w).alloc (Nat.le_refl _) _).alloc (by simp) _
  have hsW : W.heap.size = w.heap.size + 2 := by subst hW; simp
  have HSW := Lib.hid hsW
  have HLW := Lib.hid hlW
  obtain ⟨sl, hsl⟩ : ∃ l, l = σ.length := ⟨_, rfl⟩
  rw [← hsl] at HSA HRw HNl HNN HOwn HP HT HPJ HTJ ⊢
  have HSl := Lib.hid hsl
  obtain ⟨m, hm0⟩ : ∃ l, l = P0.ts.length := ⟨_, rfl⟩
  rw [← hm0] at HB1 hpc hW HM HP HSm ⊢
  have HM0 := Lib.hid hm0
  obtain ⟨m', hm0'⟩ : ∃ l, l = T.ts.length := ⟨_, rfl⟩
  rw [← hm0'] at HB2 htc hW HM HT HSm ⊢
  have HM1 := Lib.hid hm0'
  have HAl : Hid (∀ (w : World) (o : Obj), RowKit.Below w.heap.size w (w.alloc o)) := fun w o => (Below.refl _ w).alloc (Nat.le_refl _) _
  have HBM : Hid (∀ w : World, Zero (w.alloc (.cells #[.int .i64 0, .string ⟨#[]⟩, .int .i64 0, .int .i64 0, .slice none 0 0] 28)) w.heap.size) := fun w => Box.made _ _ _ _ _ _
  have HX0 : Hid (XtSt W base (.slice sa sl sc) (.slice sa sl sc) σ W) := ⟨HRw.out.lift hlW, grown_of_below (Below.refl _ _) _, .inl rfl⟩
  clear hsl hm0 hm0' hpj htj hpl htl hp ht hrow eP eT hn hn' H hN hbase hsW
  obtain ⟨b0, b1, b2, b3, b4⟩ := HB1.out.cells
  obtain ⟨d0, d1, d2, d3, d4⟩ := HB2.out.cells
  go_enter Try.func50, Try.ntmps50
  go_upto_region 1 with fail
  rw [← hW]
  clear hW
  cases hk : (k == 1) with
  | true =>
    have HF : Hid (Calls Try.prog 34 #[.slice sa sl sc, .int .i64 i] W fun e W' => ∃ u, e = .returned (.tuple #[u, .bool (asgd σ i)]) ∧ Rep W' (fun c => True ∧ c < W.heap.size) ((look σ i).getD zT) u ∧ RowKit.Below W.heap.size W W') := find_any σ i _ _ W (HSA.out.lift hlW)
    go_upto_region 3 with (first
      | (go_at_call 34; refine HF.out.mono ?_; rintro e w3 ⟨u, rfl, hu, hb3⟩; obtain ⟨uk, un, ui, uh, ua, um, uc, rfl⟩ := hu.form; have HU := Lib.hid hu; have HD3 := Lib.hid hb3; clear hu hb3)
      | (refine wpList_store5 rfl _ _ rfl _ _ _ _ _ _ (HBM.out _) rfl _ _ _ _ _ _ _ rfl ?_; intro w5 hB5 hg5 hs5; have hb5 : RowKit.Below w3.heap.size w3 w5 := Below.grown (HAl.out _ _) hg5 (HAl.out _ _).size (fun k hk => by cases hk; exact Nat.le_refl _)))
    have hbW5 := HD3.out.trans (hb5.mono HD3.out.size)
    have hlow5 := hlW.trans (hbW5.mono hlW.size)
    have HU5 := Lib.hid (HU.out.lift hb5)
    have HX5 := Lib.hid (HX0.out.lift hbW5)
    have HB15 := Lib.hid (HB1.out.lift hbW5)
    have HB25 := Lib.hid (HB2.out.lift hbW5)
    clear b0 b1 b2 b3 b4 d0 d1 d2 d3 d4
    obtain ⟨b0, b1, b2, b3, b4⟩ := HB15.out.cells
    obtain ⟨d0, d1, d2, d3, d4⟩ := HB25.out.cells
    obtain ⟨c0, c1, c2, c3, c4⟩ := hB5.cells
    clear hB5 hg5 hs5 HB15 HB25
    cases hq : asgd σ i with
    | true =>
      have HL2 := Lib.hid (HLk.out (by simpa using hk) hq)
      have HEq : Hid (Calls Try.prog 44 #[.agg #[.int .i64 uk, .string un, .int .i64 ui, .int .i64 uh, .slice ua um uc], .agg #[.int .i64 k', .string n', .int .i64 i', .int .i64 hm', .slice ta m' tc]] w5 fun e W'' => e = .returned (.bool (teq (repl σ P0) T)) ∧ RowKit.Below w5.heap.size w5 W'') := by
        have := equal_any _ _ (Nat.le_refl _) T _ _ _ _ w5 HU5.out (HX5.out.rep hlW HT.out)
        rwa [HL2.out] at this
      cases ht : teq (repl σ P0) T
      all_goals
        rw [ht] at HEq
        go_wp2_with (go_at_call 44; refine HEq.out.mono ?_; rintro e w6 ⟨rfl, hb6⟩)
      · refine bodyPost_ret (v := .tuple #[.slice sa sl sc, .bool false]) (by simp [results, Try.results50, go_sem]; try rfl) rfl ?_
        exact ⟨.slice sa sl sc, by rw [HM.out, hk, if_pos rfl, hq, if_pos rfl, ht]; rfl, fun σ' h => by rw [HM.out, hk, if_pos rfl, hq, if_pos rfl, ht] at h; (cases h), grown_of_below (hlow5.trans (hb6.mono hlow5.size)) _⟩
      · refine bodyPost_ret (v := .tuple #[.slice sa sl sc, .bool true]) (by simp [results, Try.results50, go_sem]; try rfl) rfl ?_
        exact ⟨.slice sa sl sc, by rw [HM.out, hk, if_pos rfl, hq, if_pos rfl, ht]; rfl, fun σ' h => by rw [HM.out, hk, if_pos rfl, hq, if_pos rfl, ht] at h; (cases h); exact ⟨(HX5.out.lift hb6).row, .inl rfl⟩, grown_of_below (hlow5.trans (hb6.mono hlow5.size)) _⟩
    | false =>
      have HR := Lib.hid (HX5.out.rep hlW HT.out)
      have hnb : sl + 1 ≤ 1000000 := by have := HNl.out; omega
      have HN1 : Hid (sl + 1 = σ.length + 1) := by show _ = _; rw [HSl.out]
      have hb5s : base ≤ w5.heap.size := Nat.le_trans HBs.out hlow5.size
      go_wp2_with (at_builtin; refine wpList_pushAsO HX5.out.row (HR.out.imp fun c hc => ⟨trivial, hc⟩) rfl _ _ rfl rfl _ rfl rfl (sl + 1) HN1.out hnb hb5s ?_; intro a' c' w6 hrow hg ho; have HR6 := Lib.hid hrow; have HO6 := Lib.hid ho; have HG6 := Lib.hid hg; clear hrow hg ho)
      refine bodyPost_ret (v := .tuple #[.slice a' (sl + 1) c', .bool true]) (by simp [results, Try.results50, go_sem]; try rfl) rfl ?_
      refine ⟨.slice a' (sl + 1) c', by rw [HM.out, hk, if_pos rfl, hq]; rfl, fun σ' h => ?_, grown_trans (grown_of_below hlow5 _) HG6.out⟩
      rw [HM.out, hk, if_pos rfl, hq] at h
      cases h
      refine ⟨HR6.out, ?_⟩
      rcases HO6.out with h | ⟨g, h, hge⟩
      · exact .inl h
      · exact .inr ⟨g, h, Nat.le_trans hlow5.size hge⟩
  | false =>
    have HSn : Hid (Calls Try.prog 66 #[.agg #[.int .i64 k, .string n, .int .i64 i, .int .i64 hm, .slice pa m pc], .agg #[.int .i64 k', .string n', .int .i64 i', .int .i64 hm', .slice ta m' tc]] W fun e W' => e = .returned (.bool (sameN P0 T)) ∧ RowKit.Below W.heap.size W W') := sameNode_any P0 T _ _ _ _ W (HP.out.lift hlW) (HT.out.lift hlW)
    cases hsame : sameN P0 T with
    | false =>
      rw [hsame] at HSn
      have HNo : Hid (mtch P0 T σ = none) := by show _ = _; rw [HM.out, hk, ← HSm.out, hsame]; rfl
      go_wp2_with (go_at_call 66; refine HSn.out.mono ?_; rintro e w3 ⟨rfl, hb3⟩)
      refine bodyPost_ret (v := .tuple #[.slice none 0 0, .bool false]) (by simp [results, Try.results50, go_sem]; try rfl) rfl ?_
      exact ⟨.slice none 0 0, by rw [HNo.out]; rfl, fun σ' h => by rw [HNo.out] at h; (cases h), grown_of_below (hlW.trans (hb3.mono hlW.size)) _⟩
    | true =>
      rw [hsame] at HSn
      have HM2 : Hid (mtch P0 T σ = mtchL P0.ts T.ts σ) := by show _ = _; rw [HM.out, hk, ← HSm.out, hsame]; rfl
      obtain rfl : m = m' := by
        have := HSm.out
        rw [hsame] at this
        simp only [Bool.true_eq, Bool.and_eq_true] at this
        simpa using this.2
      go_upto_region 8 with (go_at_call 66; refine HSn.out.mono ?_; rintro e w3 ⟨rfl, hb3⟩)
      have H0 : Hid (XtSt W base (.slice sa sl sc) (.slice sa sl sc) σ w3 ∧ mtchL P0.ts T.ts σ = mtchL (P0.ts.drop 0) (T.ts.drop 0) σ ∧ nodesL (P0.ts.drop 0) + σ.length ≤ 1000) := ⟨HX0.out.lift hb3, rfl, by have h1 := HNd.out; have h2 := HNN.out; have h3 := HSl.out; show nodesL P0.ts + _ ≤ _; omega⟩
      have HN0 : Hid (some w.heap.size ≠ (Value.slice sa sl sc).ownBlock) := fun e => by have := HOwn.out _ e.symm; omega
      have HN1 : Hid (some (w.heap.size + 1) ≠ (Value.slice sa sl sc).ownBlock) := fun e => by have := HOwn.out _ e.symm; omega
      clear b0 b1 b2 b3 b4 d0 d1 d2 d3 d4
      obtain ⟨b0, b1, b2, b3, b4⟩ := (HB1.out.lift hb3).cells
      clear hb3 HX0 HSn hlW
      go_wp2
      clear b0 b1 b2 b3 b4
      generalize w3 = wz at *
      go_loopw [0, 43] (fun s x wr => ∃ (j : Nat) (σj : List (Int × Ty)) (sj : Value), j ≤ m ∧ x = .int .i64 j ∧ sj = s ∧ Hid (XtSt W base (.slice sa sl sc) sj σj wr ∧ mtchL P0.ts T.ts σ = mtchL (P0.ts.drop j) (T.ts.drop j) σj ∧ nodesL (P0.ts.drop j) + σj.length ≤ 1000)) (fun _ x _ => m - (intOf x).toNat)
      case atStart => exact ⟨0, σ, _, Nat.zero_le _, rfl, rfl, H0⟩
      case round =>
        clear H0
        obtain ⟨j, σj, sj, hj, rfl, rfl, HIn⟩ := hrel
        have hgr := HIn.out.1.grown
        by_cases hlt : j < m
        · obtain ⟨p, hp⟩ : ∃ x, P0.ts[j]? = some x := ⟨_, List.getElem?_eq_getElem (by rw [← HM0.out]; exact hlt)⟩
          obtain ⟨t, ht⟩ : ∃ x, T.ts[j]? = some x := ⟨_, List.getElem?_eq_getElem (by rw [← HM1.out]; exact hlt)⟩
          obtain ⟨pad, x, rfl, hSp, h5, hx⟩ := HPJ.out j p hp
          obtain ⟨tad, y, rfl, hSt, h5', hy⟩ := HTJ.out j t ht
          have hwr := HIn.out.1
          have hx' := hwr.rep HLW.out hx
          have hy' := hwr.rep HLW.out hy
          obtain ⟨xk, xn, xi, xh, xa, xm, xc, rfl⟩ := hx.form
          obtain ⟨yk, yn, yi, yh, ya, ym, yc, rfl⟩ := hy.form
          obtain ⟨p0, p1, p2, p3, p4⟩ := five_at (h5.kept ((hgr.block _ (Nat.lt_of_lt_of_le h5.lt HLW.out.size) hSp.1).trans (HLW.out.block _ h5.lt)))
          have g5' := h5'.kept ((hgr.block _ (Nat.lt_of_lt_of_le h5'.lt HLW.out.size) hSt.1).trans (HLW.out.block _ h5'.lt))
          have HTad : Hid (some tad.block ≠ sj.ownBlock ∧ tad.block < w.heap.size) := by
            refine ⟨?_, hSt.2⟩
            rcases hwr.own with e | ⟨g, e, hge⟩
            · rw [e]; exact hSt.1
            · rw [e]; intro e'; have := Option.some.inj e'; have := HLW.out.size; have := hSt.2; omega
          obtain ⟨ja, jc, rfl, -, -⟩ := hwr.row.slice
          have hnp := nodesL_step hp
          have hji : (j : Int) < (m : Int) := by omega
          have HBd := Lib.hid (Box.grown HB2.out hgr HN1.out)
          have HNe : Hid (some (w.heap.size + 1) ≠ (Value.slice ja σj.length jc).ownBlock) := by
            rcases hwr.own with e | ⟨g, e, hge⟩
            · show _ ≠ _; rw [e]; exact HN1.out
            · show _ ≠ _; rw [e]; intro e'; have := Option.some.inj e'; have := HSW.out; omega
          have HG5 := Lib.hid g5'
          have HX1 := Lib.hid (hwr.lift (HAl.out wr (.cells #[.int .i64 xk, .string xn, .int .i64 xi, .int .i64 xh, .slice xa xm xc] 28)))
          have HRx := Lib.hid (hx'.lift (HAl.out wr (.cells #[.int .i64 xk, .string xn, .int .i64 xi, .int .i64 xh, .slice xa xm xc] 28)))
          have HRy := Lib.hid (hy'.lift (HAl.out wr (.cells #[.int .i64 xk, .string xn, .int .i64 xi, .int .i64 xh, .slice xa xm xc] 28)))
          have HBd1 := Lib.hid (HBd.out.lift (HAl.out wr (.cells #[.int .i64 xk, .string xn, .int .i64 xi, .int .i64 xh, .slice xa xm xc] 28)))
          have HG51 := Lib.hid (HG5.out.kept ((HAl.out wr (.cells #[.int .i64 xk, .string xn, .int .i64 xi, .int .i64 xh, .slice xa xm xc] 28)).block _ HG5.out.lt))
          have HBx := Lib.hid (Box.made wr (.int .i64 xk) (.string xn) (.int .i64 xi) (.int .i64 xh) (.slice xa xm xc))
          have HNb : Hid (some wr.heap.size ≠ (Value.slice ja σj.length jc).ownBlock) := fun e => by have := (hwr.row.lt _ e.symm).2; omega
          have HMj := Lib.hid HIn.out.2.1
          have HNj := Lib.hid HIn.out.2.2
          have hbs : base ≤ wr.heap.size := Nat.le_trans HBs.out (Nat.le_trans HLW.out.size hgr.size)
          clear hx hy hx' hy' h5 h5' g5' hSp hSt hwr HIn hgr HG5 HBd
          go_upto_region 11 with fail
          have hbs1 : base ≤ (wr.alloc (.cells #[.int .i64 xk, .string xn, .int .i64 xi, .int .i64 xh, .slice xa xm xc] 28)).heap.size := Nat.le_trans hbs (HAl.out wr _).size
          clear p0 p1 p2 p3 p4 hbs
          generalize (wr.alloc (.cells #[.int .i64 xk, .string xn, .int .i64 xi, .int .i64 xh, .slice xa xm xc] 28)) = W1 at *
          generalize wr.heap.size = B at *
          have hbd : RowKit.Below W1.heap.size W1 W1.drew := (Below.refl _ W1).drew
          have HC : Hid (Calls Try.prog 50 #[.slice ja σj.length jc, .agg #[.int .i64 xk, .string xn, .int .i64 xi, .int .i64 xh, .slice xa xm xc], .agg #[.int .i64 yk, .string yn, .int .i64 yi, .int .i64 yh, .slice ya ym yc]] W1.drew fun e w' => ∃ u q, e = .returned (.tuple #[u, .bool q]) ∧ ((q = true ∧ ∃ σ', XtSt W base (.slice sa sl sc) u σ' w' ∧ mtchL P0.ts T.ts σ = mtchL (P0.ts.drop (j + 1)) (T.ts.drop (j + 1)) σ' ∧ nodesL (P0.ts.drop (j + 1)) + σ'.length ≤ 1000) ∨ (q = false ∧ mtchL P0.ts T.ts σ = none)) ∧ W1.grownBy w' (Value.slice ja σj.length jc).ownBlock ∧ W.grownBy w' (Value.slice sa sl sc).ownBlock) := by
            refine (HH.out p (List.mem_of_getElem? hp) t σj _ _ _ W1.drew base (by have := HNj.out; omega) hbs1 (HX1.out.lift hbd).row (HRx.out.lift hbd) (HRy.out.lift hbd)).mono ?_
            rintro e w' ⟨u, h1, h2, h3⟩
            have h3' : W1.grownBy w' (Value.slice ja σj.length jc).ownBlock := grown_trans (grown_of_below hbd _) h3
            refine ⟨u, _, h1, ?_, h3', HX1.out.after h3'⟩
            have hm := HMj.out
            rw [mtchL_step hp ht] at hm
            cases e : mtch p t σj with
            | none => rw [e] at hm; exact .inr ⟨rfl, hm⟩
            | some s1 =>
              rw [e] at hm
              have h4 := mtch_len p t σj s1 e
              obtain ⟨h5, h6⟩ := h2 s1 e
              exact .inl ⟨rfl, s1, HX1.out.next h3' h5 h6, hm, by have := HNj.out; omega⟩
          have HS : Hid (∀ W', W1.grownBy W' (Value.slice ja σj.length jc).ownBlock → W'.cell? ⟨B, 0, none⟩ = some (.int .i64 xk) ∧ W'.cell? ⟨B, 1, none⟩ = some (.string xn) ∧ W'.cell? ⟨B, 2, none⟩ = some (.int .i64 xi) ∧ W'.cell? ⟨B, 3, none⟩ = some (.int .i64 xh) ∧ W'.cell? ⟨B, 4, none⟩ = some (.slice xa xm xc) ∧ W'.cell? ⟨w.heap.size + 1, 4, none⟩ = some (.slice (some tad) m tc) ∧ W'.cell? (tad.add (j * 5)) = some (.int .i64 yk) ∧ W'.cell? ⟨(tad.add (j * 5)).block, (tad.add (j * 5)).off + 1, none⟩ = some (.string yn) ∧ W'.cell? ⟨(tad.add (j * 5)).block, (tad.add (j * 5)).off + 2, none⟩ = some (.int .i64 yi) ∧ W'.cell? ⟨(tad.add (j * 5)).block, (tad.add (j * 5)).off + 3, none⟩ = some (.int .i64 yh) ∧ W'.cell? ⟨(tad.add (j * 5)).block, (tad.add (j * 5)).off + 4, none⟩ = some (.slice ya ym yc)) := fun W' hg => by
            obtain ⟨x0, x1, x2, x3, x4⟩ := (Box.grown HBx.out hg HNb.out).cells
            obtain ⟨-, -, -, -, z4⟩ := (Box.grown HBd1.out hg HNe.out).cells
            obtain ⟨t0, t1, t2, t3, t4⟩ := five_at (HG51.out.kept (hg.block _ HG51.out.lt HTad.out.1))
            exact ⟨x0, x1, x2, x3, x4, z4, t0, t1, t2, t3, t4⟩
          have HD0 : Hid (W1.grownBy W1.drew (Value.slice ja σj.length jc).ownBlock) := grown_of_below hbd _
          clear hp ht hnp hbd hbs1
          generalize σj.length = jn at *
          go_wp2_with fail
          go_region_held3 (fun W' => W'.cell? ⟨B, 0, none⟩ = some (.int .i64 xk) ∧ W'.cell? ⟨B, 1, none⟩ = some (.string xn) ∧ W'.cell? ⟨B, 2, none⟩ = some (.int .i64 xi) ∧ W'.cell? ⟨B, 3, none⟩ = some (.int .i64 xh) ∧ W'.cell? ⟨B, 4, none⟩ = some (.slice xa xm xc) ∧ W'.cell? ⟨w.heap.size + 1, 4, none⟩ = some (.slice (some tad) m tc) ∧ W'.cell? (tad.add (j * 5)) = some (.int .i64 yk) ∧ W'.cell? ⟨(tad.add (j * 5)).block, (tad.add (j * 5)).off + 1, none⟩ = some (.string yn) ∧ W'.cell? ⟨(tad.add (j * 5)).block, (tad.add (j * 5)).off + 2, none⟩ = some (.int .i64 yi) ∧ W'.cell? ⟨(tad.add (j * 5)).block, (tad.add (j * 5)).off + 3, none⟩ = some (.int .i64 yh) ∧ W'.cell? ⟨(tad.add (j * 5)).block, (tad.add (j * 5)).off + 4, none⟩ = some (.slice ya ym yc))
            (first
              | with_reducible exact HS.out _ HD3.out
              | with_reducible exact HS.out _ HD0.out)
            (first
              | (go_at_call 50; (with_reducible refine HC.out.mono ?_); rintro e w3 ⟨u, q, rfl, hin, hb3, hg3⟩; have HIn3 := Lib.hid hin; have HD3 := Lib.hid hb3; have HG3 := Lib.hid hg3; clear hin hb3 hg3))
          all_goals
            go_split_ands
            cases q with
            | false =>
              have HNo : Hid (mtch P0 T σ = none) := by show _ = _; rw [HM2.out]; rcases HIn3.out with h | h; cases h.1; exact h.2
              go_wp2
              refine bodyPost_ret (v := .tuple #[.slice none 0 0, .bool false]) (by simp [results, Try.results50, go_sem]; try rfl) rfl ?_
              exact ⟨.slice none 0 0, by rw [HNo.out]; rfl, fun σ' h => by rw [HNo.out] at h; (cases h), grown_trans (grown_of_below HLW.out _) HG3.out⟩
            | true =>
              obtain ⟨σ', hin⟩ : ∃ σ', XtSt W base (.slice sa sl sc) u σ' w3 ∧ mtchL P0.ts T.ts σ = mtchL (P0.ts.drop (j + 1)) (T.ts.drop (j + 1)) σ' ∧ nodesL (P0.ts.drop (j + 1)) + σ'.length ≤ 1000 := by rcases HIn3.out with h | h; exact h.2; cases h.1
              have HIn4 := Lib.hid hin
              clear hin
              go_wp2
              go_roundw
              case rel => exact ⟨j + 1, σ', _, hlt, by go_num, rfl, HIn4⟩
              case measure => simp [intOf]; omega
        · obtain rfl : j = m := by omega
          have HYes : Hid (mtch P0 T σ = some σj) := by
            show _ = _
            rw [HM2.out, HIn.out.2.1, List.drop_eq_nil_of_le (by rw [← HM0.out]; exact Nat.le_refl _)]
            simp [mtchL]
          have HX := Lib.hid HIn.out.1
          obtain ⟨ja, jc, rfl, -, -⟩ := HIn.out.1.row.slice
          clear HIn
          go_wp2
          refine bodyPost_ret (v := .tuple #[.slice ja σj.length jc, .bool true]) (by simp [results, Try.results50, go_sem]; try rfl) rfl ?_
          refine ⟨.slice ja σj.length jc, by rw [HYes.out]; rfl, fun σ' h => ?_, grown_trans (grown_of_below HLW.out _) hgr⟩
          rw [HYes.out] at h
          cases h
          refine ⟨HX.out.row, ?_⟩
          rcases HX.out.own with e | ⟨g, e, hge⟩
          · exact .inl e
          · exact .inr ⟨g, e, Nat.le_trans HLW.out.size hge⟩
theorem extend_any (P0 : Ty) : ExtAt P0 := Ty.induct extend_of P0
end Go.Proofs.Ytmjdddmfhakabaa

namespace Go.Proofs.Ytmjdddmfhakabaa
open Go.RowKit Go.Sort Go.Shelf Go.Maps Mth

def sumN (σ : List (Int × Ty)) : List Int → Nat
  | [] => 0
  | i :: l => nodes (repl σ (cv i)) + sumN σ l
theorem sumN_step {σ : List (Int × Ty)} {ids : List Int} {j : Nat} {x : Int} (h : ids[j]? = some x) : sumN σ (ids.drop j) = nodes (repl σ (cv x)) + sumN σ (ids.drop (j + 1)) := by
  obtain ⟨hl, e⟩ := List.getElem?_eq_some_iff.1 h
  rw [List.drop_eq_getElem_cons hl, e]; rfl
theorem facT_step {σ τ : List (Int × Ty)} {ids : List Int} {j : Nat} {x : Int} (h : ids[j]? = some x) (s : List (Int × Ty)) : facT σ τ (ids.drop j) s = match mtch (repl σ (cv x)) (repl τ (cv x)) s with | some s1 => facT σ τ (ids.drop (j + 1)) s1 | none => none := by
  obtain ⟨hl, e⟩ := List.getElem?_eq_some_iff.1 h
  rw [List.drop_eq_getElem_cons hl, e, facT]
  cases mtch (repl σ (cv x)) (repl τ (cv x)) s <;> rfl
def FacAt (P : Program) (f : Nat) : Prop := ∀ (σ τ : List (Int × Ty)) (ids : List Int) (sv tv iv : Value) (w : World), sumN σ ids ≤ 1000 → AsL w (fun _ => True) σ sv → AsL w (fun _ => True) τ tv → Ints w iv ids →
  Calls P f #[sv, tv, iv] w fun e w' => ∃ u, e = .returned (.tuple #[u, .bool (facT σ τ ids []).isSome]) ∧ (∀ s1, facT σ τ ids [] = some s1 → SlG AsE w' (fun _ => True) s1 u) ∧ (facT σ τ ids [] = none → u = .slice none 0 0) ∧ RowKit.Below w.heap.size w w'
/-- What a loop that factors holds; what one round gives. -/
def FcIn (σ τ : List (Int × Ty)) (ids : List Int) (j : Nat) (σj : List (Int × Ty)) : Prop := facT σ τ ids [] = facT σ τ (ids.drop j) σj ∧ sumN σ (ids.drop j) + σj.length ≤ 1000
theorem FcIn.next {σ τ : List (Int × Ty)} {ids : List Int} {j : Nat} {x : Int} {σj s1 : List (Int × Ty)} (h : FcIn σ τ ids j σj) (hx : ids[j]? = some x) (he : mtch (repl σ (cv x)) (repl τ (cv x)) σj = some s1) : FcIn σ τ ids (j + 1) s1 := by
  obtain ⟨h1, h2⟩ := h
  rw [facT_step hx, he] at h1
  rw [sumN_step hx] at h2
  have := mtch_len _ _ _ _ he
  exact ⟨h1, by omega⟩
theorem FcIn.no {σ τ : List (Int × Ty)} {ids : List Int} {j : Nat} {x : Int} {σj : List (Int × Ty)} (h : FcIn σ τ ids j σj) (hx : ids[j]? = some x) (he : mtch (repl σ (cv x)) (repl τ (cv x)) σj = none) : facT σ τ ids [] = none := by
  obtain ⟨h1, h2⟩ := h
  rw [facT_step hx, he] at h1
  exact h1
theorem FcIn.end_ {σ τ : List (Int × Ty)} {ids : List Int} {j : Nat} {σj : List (Int × Ty)} (h : FcIn σ τ ids j σj) (hj : ids.length ≤ j) : facT σ τ ids [] = some σj := by
  obtain ⟨h1, -⟩ := h
  rw [h1, List.drop_eq_nil_of_le hj]
  rfl
set_option maxRecDepth 100000 in
set_option maxHeartbeats 6400000 in
theorem factor_any : FacAt Try.prog 27 := by
  intro σ τ ids sv tv iv w hsum hs ht hi
  have HSA := Lib.hid hs
  have HTA := Lib.hid ht
  obtain ⟨sa, sc, rfl, -, -⟩ := hs
  obtain ⟨ta, tc, rfl, -, -⟩ := ht
  obtain ⟨ia, ic, rfl, hic, hic2, hij⟩ := hi
  unfold maxLen at hic2
  have HIJ := Lib.hid hij
  have HV : Hid (∀ x w, Calls Try.prog 43 #[.int .i64 x] w fun e w' => e = .returned (.agg #[.int .i64 1, .string ⟨#[]⟩, .int .i64 x, .int .i64 0, .slice none 0 0]) ∧ RowKit.Below w.heap.size w w') := fun x w => pkVar_any x w
  have HBM : Hid (∀ w : World, Zero (w.alloc (.cells #[.int .i64 0, .string ⟨#[]⟩, .int .i64 0, .int .i64 0, .slice none 0 0] 28)) w.heap.size) := fun w => Box.made _ _ _ _ _ _
  have HAl : Hid (∀ (w : World) (o : Obj), RowKit.Below w.heap.size w (w.alloc o)) := fun w o => (Below.refl _ w).alloc (Nat.le_refl _) _
  obtain ⟨m, hm⟩ : ∃ m, m = ids.length := ⟨_, rfl⟩
  rw [← hm] at hic ⊢
  have HM := Lib.hid hm
  generalize σ.length = ls at *
  generalize τ.length = lt at *
  have H0 : Hid (CmSt w (.slice none 0 0) [] w ∧ FcIn σ τ ids 0 []) := ⟨⟨rowG_nil _ _ _ _, Below.refl _ _⟩, rfl, by simpa using hsum⟩
  clear hij hm hsum
  go_enter Try.func27, Try.ntmps27
  go_wp2
  go_loopw [8, 16] (fun s x wr => ∃ (j : Nat) (σj : List (Int × Ty)) (sj : Value), j ≤ m ∧ x = .int .i64 j ∧ sj = s ∧ Hid (CmSt w sj σj wr ∧ FcIn σ τ ids j σj)) (fun _ x _ => m - (intOf x).toNat)
  case atStart => exact ⟨0, [], _, Nat.zero_le _, rfl, rfl, H0⟩
  case round =>
    clear H0
    obtain ⟨j, σj, sj, hj, rfl, rfl, HIn⟩ := hrel
    have hlow := HIn.out.1.low
    by_cases hlt : j < m
    · obtain ⟨x, hx⟩ : ∃ x, ids[j]? = some x := ⟨_, List.getElem?_eq_getElem (by rw [← HM.out]; exact hlt)⟩
      obtain ⟨ad, rfl, hcx⟩ := HIJ.out j x hx
      have hcx := (hlow.cell (World.block_lt_of_cell? _ _ hcx)).trans hcx
      have hji : (j : Int) < (m : Int) := by omega
      have HXx := Lib.hid hx
      clear hx
      go_upto_region 6 with (first
        | (go_at_call 43; refine (HV.out x _).mono ?_; rintro e w3 ⟨rfl, hb3⟩)
        | (refine wpList_store5 rfl _ _ rfl _ _ _ _ _ _ (HBM.out _) rfl _ _ _ _ _ _ _ rfl ?_; intro w5 hB5 hg5 hs5; have hb5 : RowKit.Below w3.heap.size w3 w5 := Below.grown (HAl.out _ _) hg5 (HAl.out _ _).size (fun k hk => by cases hk; exact Nat.le_refl _); have HCm := Lib.hid ((HIn.out.1.lift hb3).lift hb5); have HNe : Hid (some w3.heap.size ≠ sj.ownBlock) := (HIn.out.1.lift hb3).above _ (Nat.le_refl _); clear hb5 hg5 hs5))
      obtain ⟨ja, jc, rfl, -, -⟩ := HIn.out.1.row.slice
      have HFc := Lib.hid HIn.out.2
      have HB5 := Lib.hid hB5
      clear hlow hcx hB5 HIn hb3
      generalize w3.heap.size = B at *
      have hd0 : RowKit.Below w5.heap.size w5 w5.drew := (Below.refl _ w5).drew
      have HC1 : Hid (Calls Try.prog 15 #[.slice sa ls sc, .agg #[.int .i64 1, .string ⟨#[]⟩, .int .i64 x, .int .i64 0, .slice none 0 0]] w5.drew _) := CmSt.apply' apply_any HCm.out hd0 σ _ (cv x) _ (nodes_cv x) HSA.out (rep_cv _ _ _)
      have HC2 : Hid (∀ W', RowKit.Below w5.heap.size w5 W' → Calls Try.prog 15 #[.slice ta lt tc, .agg #[.int .i64 1, .string ⟨#[]⟩, .int .i64 x, .int .i64 0, .slice none 0 0]] W' _) := fun W' hb => CmSt.apply' apply_any HCm.out hb τ _ (cv x) _ (nodes_cv x) HTA.out (rep_cv _ _ _)
      have HXt : Hid (∀ p1 p2 W', RowKit.Below w5.heap.size w5 W' → Rep W' (fun c => True ∧ some c ≠ (Value.slice ja σj.length jc).ownBlock) (repl σ (cv x)) p1 → Rep W' (fun c => True ∧ some c ≠ (Value.slice ja σj.length jc).ownBlock) (repl τ (cv x)) p2 → Calls Try.prog 50 #[.slice ja σj.length jc, p1, p2] W' fun e w' => ∃ u q, e = .returned (.tuple #[u, .bool q]) ∧ ((q = true ∧ ∃ s1, CmSt w u s1 w' ∧ FcIn σ τ ids (j + 1) s1) ∨ (q = false ∧ facT σ τ ids [] = none)) ∧ W'.grownBy w' (Value.slice ja σj.length jc).ownBlock ∧ RowKit.Below w.heap.size w w') := by
        intro p1 p2 W' hb h1 h2
        have hc := HCm.out.lift hb
        have hsz := HFc.out.2
        rw [sumN_step HXx.out] at hsz
        refine (extend_any (repl σ (cv x)) (repl τ (cv x)) σj p1 p2 _ W' w.heap.size (by omega) hc.low.size hc.row (h1.imp fun c hc => hc.2) (h2.imp fun c hc => hc.2)).mono ?_
        rintro e w' ⟨u, h1, h2, h3⟩
        refine ⟨u, _, h1, ?_, h3, Below.grown hc.low h3 hc.low.size (fun k hk => (hc.row.lt k hk).1)⟩
        cases he : mtch (repl σ (cv x)) (repl τ (cv x)) σj with
        | none => exact .inr ⟨rfl, HFc.out.no HXx.out he⟩
        | some s1 => exact .inl ⟨rfl, s1, hc.push (h2 s1 he).1 h3, HFc.out.next HXx.out he⟩
      have HS : Hid (∀ W', w5.grownBy W' (Value.slice ja σj.length jc).ownBlock → W'.cell? ⟨B, 0, none⟩ = some (.int .i64 1) ∧ W'.cell? ⟨B, 1, none⟩ = some (.string ⟨#[]⟩) ∧ W'.cell? ⟨B, 2, none⟩ = some (.int .i64 x) ∧ W'.cell? ⟨B, 3, none⟩ = some (.int .i64 0) ∧ W'.cell? ⟨B, 4, none⟩ = some (.slice none 0 0)) := fun W' hg => (Box.grown HB5.out hg HNe.out).cells
      have HD0 : Hid (w5.grownBy w5.drew (Value.slice ja σj.length jc).ownBlock) := grown_of_below hd0 _
      go_wp2_with fail
      go_region_held3 (fun W' => W'.cell? ⟨B, 0, none⟩ = some (.int .i64 1) ∧ W'.cell? ⟨B, 1, none⟩ = some (.string ⟨#[]⟩) ∧ W'.cell? ⟨B, 2, none⟩ = some (.int .i64 x) ∧ W'.cell? ⟨B, 3, none⟩ = some (.int .i64 0) ∧ W'.cell? ⟨B, 4, none⟩ = some (.slice none 0 0))
        (first
          | with_reducible exact HS.out _ HG3.out
          | with_reducible exact HS.out _ HG2.out
          | with_reducible exact HS.out _ HG1.out
          | with_reducible exact HS.out _ HD0.out)
        (first
          | (go_at_call 15; (with_reducible refine HC1.out.mono ?_); rintro e w1 ⟨p1, rfl, hp, hb⟩; have HP1 := Lib.hid hp; have HW1 := Lib.hid (hd0.trans (hb.mono (Nat.le_refl _))); have HG1 : Hid (w5.grownBy w1 (Value.slice ja σj.length jc).ownBlock) := grown_of_below HW1.out _; clear hp hb)
          | (go_at_call 15; (with_reducible refine (HC2.out _ HW1.out).mono ?_); rintro e w2 ⟨p2, rfl, hp, hb⟩; have HP2 := Lib.hid hp; have HP1b := Lib.hid (HP1.out.lift hb); have HW2 := Lib.hid (HW1.out.trans (hb.mono HW1.out.size)); have HG2 : Hid (w5.grownBy w2 (Value.slice ja σj.length jc).ownBlock) := grown_of_below HW2.out _; clear hp hb)
          | (go_at_call 50; (with_reducible refine (HXt.out p1 p2 _ HW2.out HP1b.out HP2.out).mono ?_); rintro e w4 ⟨u, q, rfl, hin, hg, hb⟩; have HIn4 := Lib.hid hin; have HG3 := Lib.hid (grown_trans HG2.out hg); have HB4 := Lib.hid hb; clear hin hg hb))
      all_goals
        go_split_ands
        cases q with
        | false =>
          have HNo : Hid (facT σ τ ids [] = none) := by show _ = _; rcases HIn4.out with h | h; cases h.1; exact h.2
          go_wp2
          refine bodyPost_ret (v := .tuple #[.slice none 0 0, .bool false]) (by simp [results, Try.results27, go_sem]; try rfl) rfl ?_
          exact ⟨.slice none 0 0, by rw [HNo.out]; rfl, fun s1 h => by rw [HNo.out] at h; (cases h), fun _ => rfl, HB4.out⟩
        | true =>
          obtain ⟨s1, hin⟩ : ∃ s1, CmSt w u s1 w4 ∧ FcIn σ τ ids (j + 1) s1 := by rcases HIn4.out with h | h; exact h.2; cases h.1
          have HIn5 := Lib.hid hin
          clear hin
          go_wp2
          go_roundw
          case rel => exact ⟨j + 1, s1, _, hlt, by go_num, rfl, HIn5⟩
          case measure => simp [intOf]; omega
    · have HYes : Hid (facT σ τ ids [] = some σj) := HIn.out.2.end_ (by rw [← HM.out]; omega)
      have HCm := Lib.hid HIn.out.1
      obtain ⟨ja, jc, rfl, -, -⟩ := HIn.out.1.row.slice
      clear HIn
      go_wp2
      refine bodyPost_ret (v := .tuple #[.slice ja σj.length jc, .bool true]) (by simp [results, Try.results27, go_sem]; try rfl) rfl ?_
      exact ⟨.slice ja σj.length jc, by rw [HYes.out]; rfl, fun s1 h => by rw [HYes.out] at h; (cases h); exact HCm.out.row.slG (fun _ _ => trivial) (fun _ _ => trivial), fun h => by rw [HYes.out] at h; (cases h), HCm.out.low⟩
end Go.Proofs.Ytmjdddmfhakabaa

namespace Go.Proofs.Ytmjdddmfhakabaa
open Go.RowKit Go.Sort Go.Shelf Go.Maps Mth

/-- What the reference's loop holds. -/
def FrIn (σ τ : List (Int × Ty)) (ids : List Int) (j : Nat) (sj : Value) (b : Bool) (wr : World) : Prop :=
  (b = true ∧ ∃ σj, SlG AsE wr (fun _ => True) σj sj ∧ FcIn σ τ ids j σj) ∨ (b = false ∧ facT σ τ ids [] = none)
set_option maxRecDepth 100000 in
set_option maxHeartbeats 6400000 in
theorem refFactor_any : FacAt Try.prog 28 := by
  intro σ τ ids sv tv iv w hsum hs ht hi
  have HSA := Lib.hid hs
  have HTA := Lib.hid ht
  obtain ⟨sa, sc, rfl, -, -⟩ := hs
  obtain ⟨ta, tc, rfl, -, -⟩ := ht
  obtain ⟨ia, ic, rfl, hic, hic2, hij⟩ := hi
  unfold maxLen at hic2
  have HIJ := Lib.hid hij
  have HV : Hid (∀ x w, Calls Try.prog 30 #[.int .i64 x] w fun e w' => e = .returned (.agg #[.int .i64 1, .string ⟨#[]⟩, .int .i64 x, .int .i64 0, .slice none 0 0]) ∧ RowKit.Below w.heap.size w w') := fun x w => refVar_any x w
  have HA1 : Hid (∀ x W, RowKit.Below w.heap.size w W → _) := fun x W hb => apl_cv refApply_any σ _ w HSA.out x W hb
  have HA2 : Hid (∀ x W, RowKit.Below w.heap.size w W → _) := fun x W hb => apl_cv refApply_any τ _ w HTA.out x W hb
  obtain ⟨m, hm⟩ : ∃ m, m = ids.length := ⟨_, rfl⟩
  rw [← hm] at hic ⊢
  have HM := Lib.hid hm
  generalize σ.length = ls at *
  generalize τ.length = lt at *
  have H0 : Hid (FrIn σ τ ids 0 (.slice none 0 0) true w) := .inl ⟨rfl, [], slG_nil _ _ _, rfl, by simpa using hsum⟩
  clear hij hm hsum
  go_enter Try.func28, Try.ntmps28
  go_wp2
  go_loopw [8, 9, 10] (fun s o x wr => ∃ (j : Nat) (b : Bool) (sj : Value), j ≤ m ∧ x = .int .i64 j ∧ o = .bool b ∧ sj = s ∧ Hid (FrIn σ τ ids j sj b wr) ∧ RowKit.Below w.heap.size w wr) (fun _ _ x _ => m - (intOf x).toNat)
  case atStart => exact ⟨0, true, _, Nat.zero_le _, rfl, rfl, rfl, H0, Below.refl _ _⟩
  case round =>
    clear H0
    obtain ⟨j, b, sj, hj, rfl, rfl, rfl, HIn, hlow⟩ := hrel
    by_cases hlt : j < m ∧ b = true
    · obtain ⟨hlt, rfl⟩ := hlt
      obtain ⟨-, σj, hsj, hfc⟩ : true = true ∧ _ := by rcases HIn.out with h | h; exact h; cases h.1
      obtain ⟨x, hx⟩ : ∃ x, ids[j]? = some x := ⟨_, List.getElem?_eq_getElem (by rw [← HM.out]; exact hlt)⟩
      obtain ⟨ad, rfl, hcx⟩ := HIJ.out j x hx
      have b0 := (hlow.cell (World.block_lt_of_cell? _ _ hcx)).trans hcx
      have hji : (j : Int) < (m : Int) := by omega
      obtain ⟨ja, jc, rfl, -⟩ := hsj.slice
      have HSj := Lib.hid hsj
      have HFc := Lib.hid hfc
      have HXx := Lib.hid hx
      clear hx hcx hsj hfc HIn
      have HC1 : Hid (∀ W, RowKit.Below wr.heap.size wr W → _) := fun W hb => HA1.out x W (hlow.trans (hb.mono hlow.size))
      have HC2 : Hid (∀ W, RowKit.Below wr.heap.size wr W → _) := fun W hb => HA2.out x W (hlow.trans (hb.mono hlow.size))
      have HMt : Hid (∀ p1 p2 W', RowKit.Below wr.heap.size wr W' → Rep W' (fun _ => True) (repl σ (cv x)) p1 → Rep W' (fun _ => True) (repl τ (cv x)) p2 → Calls Try.prog 51 #[p1, p2, .slice ja σj.length jc] W' fun e w' => ∃ u q, e = .returned (.tuple #[u, .bool q]) ∧ FrIn σ τ ids (j + 1) u q w' ∧ RowKit.Below W'.heap.size W' w') := by
        intro p1 p2 W' hb h1 h2
        have hsz := HFc.out.2
        rw [sumN_step HXx.out] at hsz
        refine (match_any (repl σ (cv x)) (repl τ (cv x)) σj p1 p2 _ W' (by omega) h1 h2 (SlG.kept (fun _ h => h) (fun b _ hl => hb.block b hl) HSj.out)).mono ?_
        rintro e w' ⟨u, h1, h2, h3⟩
        refine ⟨u, _, h1, ?_, h3⟩
        cases he : mtch (repl σ (cv x)) (repl τ (cv x)) σj with
        | none => exact .inr ⟨rfl, HFc.out.no HXx.out he⟩
        | some s1 => exact .inl ⟨rfl, s1, h2 s1 he, HFc.out.next HXx.out he⟩
      generalize σj.length = jn at *
      go_wp2_with fail
      go_region_held3 (fun w' => w'.cell? (ad.add j) = some (.int .i64 x) ∧ RowKit.Below wr.heap.size wr w')
        (first
          | (go_split_ands; exact keep1' (by assumption) (by assumption) hb)
          | exact ⟨b0, (Below.refl _ wr).drew⟩)
        (first
          | (go_at_call 30; (with_reducible refine (HV.out x _).mono ?_); rintro e w' ⟨rfl, hb⟩; (first | (have HP1b := Lib.hid (HP1.out.lift hb)) | skip))
          | (go_at_call 16; (with_reducible refine (HC1.out _ ?_).mono ?_); (go_split_ands; assumption); rintro e w' ⟨p1, rfl, hp, hb⟩; have HP1 := Lib.hid hp; clear hp)
          | (go_at_call 16; (with_reducible refine (HC2.out _ ?_).mono ?_); (go_split_ands; assumption); rintro e w' ⟨p2, rfl, hp, hb⟩; have HP1c := Lib.hid (HP1b.out.lift hb); have HP2 := Lib.hid hp; clear hp)
          | (go_at_call 51; (with_reducible refine (HMt.out p1 p2 _ ?_ HP1c.out HP2.out).mono ?_); (go_split_ands; assumption); rintro e w' ⟨u, q, rfl, hin, hb⟩; have HIn4 := Lib.hid hin; clear hin))
      all_goals
        go_split_ands
        have hbF : RowKit.Below wr.heap.size wr w' := by assumption
        have hlowF := hlow.trans (hbF.mono hlow.size)
        go_wp2
        go_roundw
        case rel => exact ⟨j + 1, q, _, hlt, by go_num, rfl, rfl, HIn4, hlowF⟩
        case measure => simp [intOf]; omega
    · cases b with
      | false =>
        have HNo : Hid (facT σ τ ids [] = none) := by show _ = _; rcases HIn.out with h | h; cases h.1; exact h.2
        by_cases hjm : (j : Int) < (m : Int)
        all_goals
          go_wp2
          refine bodyPost_ret (v := .tuple #[.slice none 0 0, .bool false]) (by simp [results, Try.results28, go_sem]; try rfl) rfl ?_
          exact ⟨.slice none 0 0, by rw [HNo.out]; rfl, fun s1 h => by rw [HNo.out] at h; (cases h), fun _ => rfl, hlow⟩
      | true =>
        obtain rfl : j = m := by have : ¬ j < m := fun h => hlt ⟨h, rfl⟩; omega
        obtain ⟨-, σj, hsj, hfc⟩ : true = true ∧ _ := by rcases HIn.out with h | h; exact h; cases h.1
        have HYes : Hid (facT σ τ ids [] = some σj) := hfc.end_ (by rw [← HM.out]; omega)
        obtain ⟨ja, jc, rfl, -⟩ := hsj.slice
        have HSj := Lib.hid hsj
        clear hsj hfc HIn
        go_wp2
        refine bodyPost_ret (v := .tuple #[.slice ja σj.length jc, .bool true]) (by simp [results, Try.results28, go_sem]; try rfl) rfl ?_
        exact ⟨.slice ja σj.length jc, by rw [HYes.out]; rfl, fun s1 h => by rw [HYes.out] at h; (cases h); exact HSj.out, fun h => by rw [HYes.out] at h; (cases h), hlow⟩
end Go.Proofs.Ytmjdddmfhakabaa
