/- Schemes: what matching has found, in a map from numbers to types. Schemes: the package's replace and sameNode. Schemes: the package's match. Schemes: the store of a struct into an element of a row. Schemes: the package's Instance. Schemes: the package's General, Mono and Equal. -/
import Derived.Test.YtahiefgfhpkoeaaQG
import Derived.Maps.OwnSet
import Derived.Test.YtahiefgfhpkoeaaQD
namespace Go.Proofs.Ytahiefgfhpkoeaa
open Go.RowKit Go.Sort Go.Shelf Go.Maps Mth

/-- A value is read as itself. -/
def heldV (v : Value) : Option (DataW Value × List MemPlace) := some (.held v, [])
theorem zeroTy (w : World) : (zeroValue 25).run Try.prog w = .ok (.agg #[.int .i64 0, .string ⟨#[]⟩, .int .i64 0, .int .i64 0, .slice none 0 0]) w := by kernel_rfl
theorem keyI {j : Nat} (hj : j ≤ 1000000) : keyOf Try.prog 3 (.int .i64 (j : Int)) = some (.int .i64 (j : Int)) := keyOf_int_mk Try.underlying3 (WalkArith.wf_i64 (by omega))
/-- What has been found, as a map. -/
structure MpT (base b c : Nat) (A : List (Option Ty)) (D : DataW Value) (w : World) : Prop where
  len : A.length = c
  ge : base ≤ b
  own : w.ownsMap Try.prog 3 heldV b (A.countP Option.isSome) D
  size : Go.Maps.size D = A.countP Option.isSome
  no : ∀ j : Nat, A[j]? = some none → Go.Maps.has D (.int .i64 j) = false
  yes : ∀ (j : Nat) (T : Ty), A[j]? = some (some T) → Go.Maps.has D (.int .i64 j) = true ∧ ∃ v, (∀ z, D.atKey (.int .i64 j) z = .held v) ∧ Rep w (fun x => x < base) T v
def MpS (base b c : Nat) (A : List (Option Ty)) (w : World) : Prop := ∃ D, MpT base b c A D w
theorem MpS.len {base b c : Nat} {A : List (Option Ty)} {w : World} (h : MpS base b c A w) : A.length = c := h.choose_spec.len
theorem MpS.lts {base b c : Nat} {A : List (Option Ty)} {w : World} (h : MpS base b c A w) : base ≤ b ∧ b < w.heap.size := ⟨h.choose_spec.ge, h.choose_spec.own.lt⟩
theorem MpS.kept {base b c : Nat} {A : List (Option Ty)} {w w' : World} {r : Option Nat} (h : MpS base b c A w) (hg : w.grownBy w' r) (hr : some b ≠ r) (hb : ∀ x, r = some x → base ≤ x) : MpS base b c A w' := by
  obtain ⟨D, h⟩ := h
  refine ⟨D, h.len, h.ge, h.own.kept hg hr, h.size, h.no, fun j T hj => ?_⟩
  obtain ⟨h1, v, h2, h3⟩ := h.yes j T hj
  exact ⟨h1, v, h2, h3.kept (fun _ h => h) fun x hx hl => hg.block x hl (fun e => by have := hb x e.symm; omega)⟩
theorem MpS.lift {base b c : Nat} {A : List (Option Ty)} {w w' : World} (h : MpS base b c A w) (hb : Below w.heap.size w w') : MpS base b c A w' := h.kept (grown_of_below hb none) (by simp) (by simp)
theorem MpS.start {base c : Nat} {w : World} (hb : base ≤ w.heap.size) : MpS base w.heap.size c (List.replicate c none) (w.alloc (.map #[] 0)) := by
  refine ⟨.map [], List.length_replicate, hb, (World.ownsMap_made w _ _ _).mono (Nat.zero_le _), ?_, fun j hj => rfl, fun j T hj => ?_⟩
  · rw [List.countP_replicate]; rfl
  · rw [List.getElem?_replicate] at hj
    split at hj <;> cases hj
/-- 'found[id]', with its second answer. -/
theorem MpS.look {base b c : Nat} {A : List (Option Ty)} {w : World} (h : MpS base b c A w) {j : Nat} {o : Option Ty} (ho : A[j]? = some o) (hj : j ≤ 1000000) :
    ∃ v, (Instr.lookup 80 (.map (some b)) (.int .i64 (j : Int)) true).run Try.prog w = .ok (.tuple #[v, .bool o.isSome]) w ∧ Rep w (fun x => x < base) (o.getD zT) v := by
  obtain ⟨D, h⟩ := h
  obtain ⟨v, ps, hrun, hv⟩ := h.own.look_ok Try.intKey Try.underlying80 (zeroTy w) (zd := .held (.agg #[.int .i64 0, .string ⟨#[]⟩, .int .i64 0, .int .i64 0, .slice none 0 0])) (zp := []) rfl (keyI hj)
  unfold heldV at hv
  simp only [Option.some.injEq, Prod.mk.injEq] at hv
  refine ⟨v, ?_, ?_⟩
  · cases o with
    | none => rw [h.no j ho] at hrun; exact hrun
    | some T => rw [(h.yes j T ho).1] at hrun; exact hrun
  · cases o with
    | none =>
      rw [atKey_of_not_has (h.no j ho)] at hv
      have := hv.1
      simp only [DataW.held.injEq] at this
      subst this
      exact rep_leaf w _ 0 ⟨#[]⟩ 0 0 (Nat.zero_le _)
    | some T =>
      obtain ⟨-, v', h2, h3⟩ := h.yes j T ho
      rw [h2] at hv
      have := hv.1
      simp only [DataW.held.injEq] at this
      subst this
      exact h3
/-- 'found[id]'. -/
theorem MpS.look1 {base b c : Nat} {A : List (Option Ty)} {w : World} (h : MpS base b c A w) {j : Nat} {T : Ty} (ho : A[j]? = some (some T)) (hj : j ≤ 1000000) :
    ∃ v, (Instr.lookup 80 (.map (some b)) (.int .i64 (j : Int)) false).run Try.prog w = .ok v w ∧ Rep w (fun x => x < base) T v := by
  obtain ⟨D, h⟩ := h
  obtain ⟨v, ps, hrun, hv⟩ := h.own.lookup Try.intKey Try.underlying80 (zeroTy w) (zd := .held (.agg #[.int .i64 0, .string ⟨#[]⟩, .int .i64 0, .int .i64 0, .slice none 0 0])) (zp := []) rfl (keyI hj)
  unfold heldV at hv
  simp only [Option.some.injEq, Prod.mk.injEq] at hv
  refine ⟨v, hrun, ?_⟩
  obtain ⟨-, v', h2, h3⟩ := h.yes j T ho
  rw [h2] at hv
  have := hv.1
  simp only [DataW.held.injEq] at this
  subst this
  exact h3
theorem MpS.lenRun {base b c : Nat} {A : List (Option Ty)} {w : World} (h : MpS base b c A w) (ty : TypeId) : (Builtin.len_ #[80] ty #[.map (some b)]).run Try.prog w = .ok (.int .i64 (A.countP Option.isSome : Nat)) w := by
  obtain ⟨D, h⟩ := h
  rw [← h.size]
  exact h.own.len Try.underlying80 ty
theorem countP_put {A : List (Option Ty)} {j : Nat} (h : A[j]? = some none) (T : Ty) : (A.set j (some T)).countP Option.isSome = A.countP Option.isSome + 1 := by
  obtain ⟨hl, e⟩ := List.getElem?_eq_some_iff.1 h
  rw [List.countP_set hl, e]
  simp
theorem wpList_putM {w : World} {ops : Array Oper} {rest : List Oper} {o : Oper} {a : Act} {Q : Exit → Act → World → Prop} (hg : o.guard = none) (m x v : Operand) (hop : o.op = Op.mapUpdate 80 m x v)
    {base b c : Nat} {A : List (Option Ty)} (h : MpS base b c A w) {j : Nat} (hm : a.eval m = .map (some b)) (hx : a.eval x = .int .i64 (j : Int)) (ho : A[j]? = some none) (hj : j ≤ 1000000) (hc : c ≤ 1000000) {T : Ty} {u : Value} (hv : a.eval v = u) (hT : Rep w (fun x => x < base) T u)
    (hK : ∀ w', MpS base b c (A.set j (some T)) w' → w.grownBy w' (some b) → wpList Try.prog ops Q rest (a.put o.dst undef) w') : wpList Try.prog ops Q (o :: rest) a w := by
  obtain ⟨D, h⟩ := h
  have hcp : A.countP Option.isSome ≤ A.length := List.countP_le_length
  have hlen := h.len
  refine wpList_mapUpdate_own w hg m x v 80 hop 3 25 Try.intKey Try.underlying80 heldV b _ D hm h.own (by unfold maxLen; omega) _ u _ hx hv (keyI hj) (.held u) [] rfl ?_
  intro w' hown hgr
  refine hK w' ⟨D.put (.int .i64 j) (.held u), by rw [List.length_set]; exact h.len, h.ge, by rw [countP_put ho]; exact hown, ?_, fun i hi => ?_, fun i U hi => ?_⟩ hgr
  · rw [size_put (h.own.tidy Try.intKey), h.no j ho, countP_put ho, h.size]
    simp
  · by_cases e : j = i
    · subst e
      rw [List.getElem?_set_self (List.getElem?_eq_some_iff.1 ho).1] at hi
      cases hi
    · rw [List.getElem?_set_ne e] at hi
      rw [has_put_other (by simp; omega)]
      exact h.no i hi
  · have hR : ∀ {X : Ty} {y : Value}, Rep w (fun x => x < base) X y → Rep w' (fun x => x < base) X y := fun hr => hr.kept (fun _ h => h) fun x hx hl => hgr.block x hl (fun e => by have := h.ge; have := Option.some.inj e; omega)
    by_cases e : j = i
    · subst e
      rw [List.getElem?_set_self (List.getElem?_eq_some_iff.1 ho).1] at hi
      cases hi
      exact ⟨has_put_same h.own.isMap (by simp [WideAt.IsKeyLit]) _, u, fun z => atKey_put_same h.own.isMap (by simp [WideAt.IsKeyLit]) _ _, hR hT⟩
    · rw [List.getElem?_set_ne e] at hi
      obtain ⟨h1, y, h2, h3⟩ := h.yes i U hi
      exact ⟨by rw [has_put_other (by simp; omega)]; exact h1, y, fun z => by rw [atKey_put_other (by simp; omega)]; exact h2 z, hR h3⟩
theorem wpList_lookRun {w : World} {ops : Array Oper} {rest : List Oper} {o : Oper} {a : Act} {Q : Exit → Act → World → Prop} (hg : o.guard = none) (m x : Operand) (t : TypeId) (q : Bool) (hop : o.op = Op.lookup t m x q) {mv xv u : Value}
    (hm : a.eval m = mv) (hx : a.eval x = xv) (hrun : (Instr.lookup t mv xv q).run Try.prog w = .ok u w) (hK : wpList Try.prog ops Q rest (a.put o.dst u) w) : wpList Try.prog ops Q (o :: rest) a w := by
  refine wpList_plain hg fun K' hK' => ?_
  unfold Oper.wp
  simp [execOp, hop, hm, hx, hrun, Result.andThen]
  exact hK' _ _ hK
end Go.Proofs.Ytahiefgfhpkoeaa

namespace Go.Proofs.Ytahiefgfhpkoeaa
open Go.RowKit Go.Sort Go.Shelf Go.Maps Mth

set_option maxRecDepth 100000 in
set_option maxHeartbeats 6400000 in
theorem replace_any (T : Ty) (A : List (Option Ty)) (v : Value) (base b c j : Nat) (o : Option Ty) (w : World) (hj : j ≤ 1000000) (ho : A[j]? = some o) (hc : c ≤ 1000000) (hst : MpS base b c A w) (hv : Rep w (fun x => x < base) T v) :
    Calls Try.prog 71 #[.int .i64 (j : Int), v, .map (some b)] w fun e w' => e = .returned (.bool (hitT T A j o).isSome) ∧ (∀ A1, hitT T A j o = some A1 → MpS base b c A1 w') ∧ w.grownBy w' (some b) := by
  obtain ⟨k, n, i, hh, sa, sn, sc, rfl⟩ := hv.form
  have hA : ∀ X, Below w.heap.size w (w.alloc X) := fun X => (Below.refl _ w).alloc (Nat.le_refl _) X
  have hAA : ∀ X Y, Below w.heap.size w ((w.alloc X).alloc Y) := fun X Y => (hA X).alloc (by simp) Y
  obtain ⟨v2, hrun, hr2⟩ := (hst.lift (hA (.cells #[.int .i64 k, .string n, .int .i64 i, .int .i64 hh, .slice sa sn sc] 25))).look ho hj
  obtain ⟨xk, xn, xi, xh, xa, xm, xc, rfl⟩ := hr2.form
  have HSt := Lib.hid (fun X Y => hst.lift (hAA X Y))
  have HT := Lib.hid (fun X Y => hv.lift (hAA X Y))
  have HB := Lib.hid hAA
  have HO := Lib.hid ho
  have HR2 := Lib.hid hr2
  have hgr : ∀ w', Below w.heap.size w w' → w.grownBy w' (some b) := fun w' h => grown_of_below h (some b)
  have HGr := Lib.hid hgr
  clear hv hst hA hAA hr2 ho hgr
  cases o with
  | some u =>
    have HEq : Hid (∀ X Y, Calls Try.prog 58 #[.agg #[.int .i64 xk, .string xn, .int .i64 xi, .int .i64 xh, .slice xa xm xc], .agg #[.int .i64 k, .string n, .int .i64 i, .int .i64 hh, .slice sa sn sc]] ((w.alloc (.cells #[.int .i64 k, .string n, .int .i64 i, .int .i64 hh, .slice sa sn sc] 25)).alloc (.cells X Y)) fun e w' => e = .returned (.bool (teq u T)) ∧ Below ((w.alloc (.cells #[.int .i64 k, .string n, .int .i64 i, .int .i64 hh, .slice sa sn sc] 25)).alloc (.cells X Y)).heap.size ((w.alloc (.cells #[.int .i64 k, .string n, .int .i64 i, .int .i64 hh, .slice sa sn sc] 25)).alloc (.cells X Y)) w') :=
      fun X Y => equal_any _ u (Nat.le_refl _) T _ _ _ _ _ (HR2.out.lift ((Below.refl _ _).alloc (Nat.le_refl _) _)) (HT.out _ _)
    have HM : Hid (hitT T A j (some u) = if teq u T then some A else none) := rfl
    generalize teq u T = q at *
    go_enter Try.func71, Try.ntmps71
    go_wp2_with (first
      | (at_lookup; refine wpList_lookRun rfl _ _ _ _ rfl rfl rfl hrun ?_)
      | (go_at_call 58; refine (HEq.out _ _).mono ?_; rintro e w1 ⟨rfl, hb1⟩))
    go_ret
    have hb2 := (HB.out _ _).trans (hb1.mono (HB.out _ _).size)
    cases q
    · exact ⟨by rw [HM.out]; rfl, fun A1 h => by rw [HM.out] at h; (cases h), HGr.out _ hb2⟩
    · exact ⟨by rw [HM.out]; rfl, fun A1 h => by rw [HM.out] at h; (cases h); exact (HSt.out _ _).lift hb1, HGr.out _ hb2⟩
  | none =>
    have HM : Hid (hitT T A j none = some (A.set j (some T))) := rfl
    go_enter Try.func71, Try.ntmps71
    go_wp2_with (first
      | (at_lookup; refine wpList_lookRun rfl _ _ _ _ rfl rfl rfl hrun ?_)
      | (at_mapUpdate; refine wpList_putM rfl _ _ _ rfl (HSt.out _ _) rfl rfl HO.out hj hc rfl (HT.out _ _) ?_; intro w2 hst2 hg2))
    go_ret
    exact ⟨by rw [HM.out]; rfl, fun A1 h => by rw [HM.out] at h; (cases h); exact hst2, grown_trans (HGr.out _ (HB.out _ _)) hg2⟩
def sameN (P T : Ty) : Bool := P.k == T.k && P.n.toList == T.n.toList && P.i == T.i && P.h == T.h && P.ts.length == T.ts.length
set_option maxRecDepth 100000 in
set_option maxHeartbeats 6400000 in
theorem sameNode_any (P0 T : Ty) (pv tv : Value) (S S' : Nat → Prop) (w : World) (hp : Rep w S P0 pv) (ht : Rep w S' T tv) :
    Calls Try.prog 72 #[pv, tv] w fun e w' => e = .returned (.bool (sameN P0 T)) ∧ Below w.heap.size w w' := by
  obtain ⟨k, n, i, hm, ps, eP, rfl, hn, hpl⟩ := hp.open
  obtain ⟨k', n', i', hm', ts, eT, rfl, hn', htl⟩ := ht.open
  obtain ⟨pa, pc, rfl, ⟨hpc, hpc2⟩, -⟩ := hpl
  obtain ⟨ta, tc, rfl, ⟨htc, htc2⟩, -⟩ := htl
  unfold maxLen at hpc2 htc2
  have HEq : Hid (∀ W, Calls Try.prog 58 #[.agg #[.int .i64 k, .string n, .int .i64 i, .int .i64 hm, .slice none 0 0], .agg #[.int .i64 k', .string n', .int .i64 i', .int .i64 hm', .slice none 0 0]] W fun e w' => e = .returned (.bool (k == k' && n.toList == n'.toList && i == i' && hm == hm')) ∧ Below W.heap.size W w') := fun W => by
    have := equal_any _ (.mk k n i hm []) (Nat.le_refl _) (.mk k' n' i' hm' []) _ _ _ _ W (rep_leaf W (fun _ => True) k n i hm hn) (rep_leaf W (fun _ => True) k' n' i' hm' hn')
    have e : teq (.mk k n i hm []) (.mk k' n' i' hm' []) = (k == k' && n.toList == n'.toList && i == i' && hm == hm') := by simp [teq, teqL]
    rw [e] at this
    exact this
  have HE : Hid (sameN P0 T = (k == k' && n.toList == n'.toList && i == i' && hm == hm' && P0.ts.length == T.ts.length)) := by
    show _ = _
    conv => lhs; rw [eP, eT]
    rfl
  clear hp ht eP eT hn hn'
  generalize P0.ts.length = m at *
  generalize T.ts.length = m' at *
  have hb0 : ∀ X Y Z Z', Below w.heap.size w ((w.alloc (.cells X Z)).alloc (.cells Y Z')) := fun X Y Z Z' => ((Below.refl _ w).alloc (Nat.le_refl _) _).alloc (by simp) _
  have HB := Lib.hid hb0
  clear hb0
  by_cases h : m = m'
  · subst h
    generalize (k == k' && n.toList == n'.toList && i == i' && hm == hm') = q at *
    go_enter Try.func72, Try.ntmps72
    go_wp2_with (go_at_call 58; refine (HEq.out _).mono ?_; rintro e w1 ⟨rfl, hb1⟩)
    go_ret
    exact ⟨ret_bool (by rw [HE.out]; simp), (HB.out _ _ _ _).trans (hb1.mono (HB.out _ _ _ _).size)⟩
  · have hi : ¬ (m : Int) = (m' : Int) := by omega
    have hq : (m == m') = false := by simpa using h
    go_enter Try.func72, Try.ntmps72
    go_wp2
    go_ret
    exact ⟨ret_bool (by rw [HE.out, hq, Bool.and_false]), HB.out _ _ _ _⟩
end Go.Proofs.Ytahiefgfhpkoeaa

namespace Go.Proofs.Ytahiefgfhpkoeaa
open Go.RowKit Go.Sort Go.Shelf Go.Maps Mth

def MatC (P : Program) (f : Nat) (Pt : Ty) : Prop := ∀ (T : Ty) (A : List (Option Ty)) (u1 u2 : Value) (base b c : Nat) (w : World), bndIn c Pt = true → c ≤ 1000000 → MpS base b c A w → Rep w (fun x => x < base) Pt u1 → Rep w (fun x => x < base) T u2 →
  Calls P f #[u1, u2, .map (some b)] w fun e w' => e = .returned (.bool (instT Pt T A).isSome) ∧ (∀ A1, instT Pt T A = some A1 → MpS base b c A1 w') ∧ w.grownBy w' (some b)
set_option maxRecDepth 100000 in
set_option maxHeartbeats 6400000 in
theorem match_of (P0 : Ty) (H : ∀ U ∈ P0.ts, MatC Try.prog 55 U) : MatC Try.prog 55 P0 := by
  intro T A u1 u2 base b c w hbi hcl hst hp ht
  have HSt := Lib.hid hst
  obtain ⟨l1, l2⟩ := hst.lts
  have HP := Lib.hid hp
  have HT := Lib.hid ht
  have HH := Lib.hid H
  obtain ⟨k, n, i, hm, ps, eP, rfl, hn, hpl⟩ := hp.open
  obtain ⟨k', n', i', hm', ts, eT, rfl, hn', htl⟩ := ht.open
  obtain ⟨pa, pc, rfl, ⟨hpc, hpc2⟩, hpj⟩ := hpl
  obtain ⟨ta, tc, rfl, ⟨htc, htc2⟩, htj⟩ := htl
  have HPJ := Lib.hid hpj
  have HTJ := Lib.hid htj
  unfold maxLen at hpc2 htc2
  have HM : Hid (instT P0 T A = if k == 2 && decide (i < (A.length : Int)) then (match A[i.toNat]? with | some (some u) => if teq u T then some A else none | _ => some (A.set i.toNat (some T))) else if k == k' && n.toList == n'.toList && i == i' && hm == hm' && P0.ts.length == T.ts.length then instL P0.ts T.ts A else none) := by
    show _ = _
    conv => lhs; rw [eP, instT]
    conv => rhs; rw [eT]
    conv => lhs; rw [eT]
    rfl
  have HSn : Hid (sameN P0 T = (k == k' && n.toList == n'.toList && i == i' && hm == hm' && P0.ts.length == T.ts.length)) := by
    show _ = _
    conv => lhs; rw [eP, eT]
    rfl
  have HBi : Hid ((k != 2 || (decide (0 ≤ i) && decide (i < (c : Int)))) = true ∧ bndInL c P0.ts = true) := by
    show _ ∧ _
    rw [eP, bndIn, Bool.and_eq_true] at hbi
    exact hbi
  obtain ⟨W, hW⟩ : ∃ W, W = ((w.alloc (.cells #[.int .i64 k, .string n, .int .i64 i, .int .i64 hm, .slice pa P0.ts.length pc] 25)).alloc (.cells #[.int .i64 k', .string n', .int .i64 i', .int .i64 hm', .slice ta T.ts.length tc] 25)) := ⟨_, rfl⟩
  have HB1 : Hid (Box W w.heap.size (.int .i64 k) (.string n) (.int .i64 i) (.int .i64 hm) (.slice pa P0.ts.length pc)) := by
    show Box _ _ _ _ _ _ _
    subst hW
    unfold Box; rw [heap_at, if_neg (by simp), heap_at, if_pos rfl]
  have HB2 : Hid (Box W (w.heap.size + 1) (.int .i64 k') (.string n') (.int .i64 i') (.int .i64 hm') (.slice ta T.ts.length tc)) := by
    show Box _ _ _ _ _ _ _
    subst hW
    unfold Box; rw [heap_at, if_pos (by simp)]
  have hlW : Below w.heap.size w W := by subst hW; exact ((Below.refl _ w).alloc (Nat.le_refl _) _).alloc (by simp) _
  have HLW := Lib.hid hlW
  have HStW := Lib.hid (hst.lift hlW)
  have HLen : Hid (A.length = c) := hst.len
  obtain ⟨m, hm0⟩ : ∃ l, l = P0.ts.length := ⟨_, rfl⟩
  rw [← hm0] at HB1 hpc hW HM HP HSn ⊢
  have HM0 := Lib.hid hm0
  obtain ⟨m', hm0'⟩ : ∃ l, l = T.ts.length := ⟨_, rfl⟩
  rw [← hm0'] at HB2 htc hW HM HT HSn ⊢
  have HM1 := Lib.hid hm0'
  have HGW : Hid (w.grownBy W (some b)) := grown_of_below hlW (some b)
  clear hm0 hm0' hpj htj hp ht eP eT hn hn' H hst hbi
  obtain ⟨b0, b1, b2, b3, b4⟩ := HB1.out.cells
  obtain ⟨d0, d1, d2, d3, d4⟩ := HB2.out.cells
  cases hk : (k == 2) with
  | true =>
    obtain rfl : k = 2 := by simpa using hk
    obtain ⟨jb, rfl, hjc⟩ : ∃ jb : Nat, i = (jb : Int) ∧ jb < c := by
      have h := HBi.out.1
      simp only [bne_self_eq_false, Bool.false_or, Bool.and_eq_true, decide_eq_true_eq] at h
      exact ⟨i.toNat, by omega, by omega⟩
    obtain ⟨o, ho⟩ : ∃ o, A[jb]? = some o := ⟨_, List.getElem?_eq_getElem (by rw [HLen.out]; exact hjc)⟩
    have HM2 : Hid (instT P0 T A = hitT T A jb o) := by
      show _ = _
      rw [HM.out, if_pos (by rw [HLen.out]; simp [hjc]), show ((jb : Int)).toNat = jb from by simp, ho]
      cases o <;> rfl
    have HC := Lib.hid (replace_any T A _ base b c jb o W (by omega) ho hcl HStW.out (HT.out.lift hlW))
    clear HM HBi HPJ HTJ HH ho hk
    go_enter Try.func55, Try.ntmps55
    go_upto_region 1 with fail
    rw [← hW]
    clear hW
    go_wp2_with (go_at_call 71; refine HC.out.mono ?_; rintro e w1 ⟨rfl, hin, hg⟩)
    go_ret
    exact ⟨ret_bool (by rw [HM2.out]), fun A1 h => hin A1 (by rw [← HM2.out]; exact h), grown_trans HGW.out hg⟩
  | false =>
    have HM2 : Hid (instT P0 T A = if sameN P0 T then instL P0.ts T.ts A else none) := by
      show _ = _
      rw [HM.out, hk, HSn.out]; rfl
    have HCs := Lib.hid (sameNode_any P0 T _ _ _ _ W (HP.out.lift hlW) (HT.out.lift hlW))
    have HMm : Hid (sameN P0 T = true → m = m') := fun h => by
      rw [HSn.out, Bool.and_eq_true] at h
      simpa using h.2
    clear HM HSn
    go_enter Try.func55, Try.ntmps55
    go_upto_region 1 with fail
    rw [← hW]
    clear hW
    cases hsame : sameN P0 T with
    | false =>
      have HNo : Hid (instT P0 T A = none) := by show _ = _; rw [HM2.out, hsame]; rfl
      rw [hsame] at HCs
      go_wp2_with (go_at_call 72; refine HCs.out.mono ?_; rintro e w1 ⟨rfl, hb1⟩)
      go_ret
      exact ⟨by rw [HNo.out]; rfl, fun A1 h => by rw [HNo.out] at h; (cases h), grown_trans HGW.out (grown_of_below hb1 (some b))⟩
    | true =>
      have HM3 : Hid (instT P0 T A = instL P0.ts T.ts A) := by show _ = _; rw [HM2.out, hsame]; rfl
      obtain rfl : m = m' := HMm.out hsame
      rw [hsame] at HCs
      clear HM2 HMm hsame
      go_upto_region 5 with (go_at_call 72; refine HCs.out.mono ?_; rintro e w1 ⟨rfl, hb1⟩)
      have H0 : Hid (∃ Aj, MpS base b c Aj w1 ∧ instL P0.ts T.ts A = instL (P0.ts.drop 0) (T.ts.drop 0) Aj) := ⟨A, HStW.out.lift hb1, by rw [List.drop_zero, List.drop_zero]⟩
      have HGr1 : Hid (w.grownBy w1 (some b)) := grown_trans HGW.out (grown_of_below hb1 (some b))
      have HB1' : Hid (Box w1 w.heap.size (.int .i64 k) (.string n) (.int .i64 i) (.int .i64 hm) (.slice pa m pc)) := HB1.out.lift hb1
      have HB2' : Hid (Box w1 (w.heap.size + 1) (.int .i64 k') (.string n') (.int .i64 i') (.int .i64 hm') (.slice ta m tc)) := HB2.out.lift hb1
      have hs1 : w.heap.size + 2 ≤ w1.heap.size := by
        have h1 := HB2.out.lt
        have h2 := hb1.size
        omega
      have HS1 := Lib.hid hs1
      have HLs := Lib.hid (And.intro l1 l2)
      clear b0 b1 b2 b3 b4 d0 d1 d2 d3 d4 hb1 hlW hs1 HCs HStW HGW
      obtain ⟨b0, b1, b2, b3, b4⟩ := HB1'.out.cells
      go_wp2
      go_loopw [24] (fun x wr => ∃ j : Nat, j ≤ m ∧ x = .int .i64 j ∧ Hid (∃ Aj, MpS base b c Aj wr ∧ instL P0.ts T.ts A = instL (P0.ts.drop j) (T.ts.drop j) Aj) ∧ Hid (w1.grownBy wr (some b))) (fun x _ => m - (intOf x).toNat)
      case atStart => exact ⟨0, Nat.zero_le _, rfl, H0, ⟨rfl, rfl, rfl, Nat.le_refl _, fun _ _ _ => rfl⟩⟩
      case round =>
        clear H0 b0 b1 b2 b3 b4
        obtain ⟨j, hj, rfl, HIn, HGr⟩ := hrel
        by_cases hlt : j < m
        · obtain ⟨Aj, hsj, hij⟩ := HIn.out
          obtain ⟨p, hp⟩ : ∃ x, P0.ts[j]? = some x := ⟨_, List.getElem?_eq_getElem (by rw [← HM0.out]; exact hlt)⟩
          obtain ⟨t, ht⟩ : ∃ x, T.ts[j]? = some x := ⟨_, List.getElem?_eq_getElem (by rw [← HM1.out]; exact hlt)⟩
          obtain ⟨pad, x, rfl, hS1, h5, hx⟩ := HPJ.out j p hp
          obtain ⟨tad, y, rfl, hS2, h5', hy⟩ := HTJ.out j t ht
          have hGA : ∀ o, w.grownBy (wr.alloc o) (some b) := fun o => grown_trans (grown_trans HGr1.out HGr.out) (World.grownBy_alloc wr o (some b))
          have hK : ∀ o q, q < base → q < w.heap.size → (wr.alloc o).heap[q]? = w.heap[q]? := fun o q h1 h2 => (hGA o).block q h2 (fun e => by have := Option.some.inj e; have := HLs.out.1; omega)
          obtain ⟨xk, xn, xi, xh, xa, xm, xc, rfl⟩ := hx.form
          obtain ⟨yk, yn, yi, yh, ya, ym, yc, rfl⟩ := hy.form
          have hS1' : pad.block < base := hS1
          have hS2' : tad.block < base := hS2
          have hKr : ∀ q, q < base → q < w.heap.size → wr.heap[q]? = w.heap[q]? := fun q h1 h2 => (grown_trans HGr1.out HGr.out).block q h2 (fun e => by have := Option.some.inj e; have := HLs.out.1; omega)
          obtain ⟨p0, p1, p2, p3, p4⟩ := five_at (h5.kept (hKr _ hS1 h5.lt))
          have hji : (j : Int) < (m : Int) := by omega
          have HSp := Lib.hid (instL_step hp ht Aj)
          have HPm := Lib.hid (List.mem_of_getElem? hp)
          have HR1 := Lib.hid (fun o => hx.kept (w' := (wr.alloc o).drew) (fun _ h => h) (hK o))
          have HR2 := Lib.hid (fun o => hy.kept (w' := (wr.alloc o).drew) (fun _ h => h) (hK o))
          have HSj := Lib.hid (fun o => (hsj.lift ((Below.refl _ wr).alloc (Nat.le_refl _) o)).lift (Below.refl _ (wr.alloc o)).drew)
          have H5 := Lib.hid (fun o => five_at (h5'.kept (hK o _ hS2 h5'.lt)))
          have HGA := Lib.hid hGA
          have hwb : b < wr.heap.size := Nat.lt_of_lt_of_le HLs.out.2 (grown_trans HGr1.out HGr.out).size
          have HB2r : Hid (∀ o, Box (wr.alloc o) (w.heap.size + 1) (.int .i64 k') (.string n') (.int .i64 i') (.int .i64 hm') (.slice (some tad) m tc)) := fun o => HB2'.out.kept ((grown_trans HGr.out (World.grownBy_alloc wr o (some b))).block _ HB2'.out.lt (by have := HLs.out.2; simp; omega))
          clear hx hy h5 h5' hp ht hsj hS1 hS2 HIn hK hGA hKr
          go_upto_region 8 with fail
          obtain ⟨V, hV⟩ : ∃ V, V = wr.alloc (.cells #[.int .i64 xk, .string xn, .int .i64 xi, .int .i64 xh, .slice xa xm xc] 25) := ⟨_, rfl⟩
          rw [← hV]
          have HVs : Hid (V.heap.size = wr.heap.size + 1) := by show _ = _; rw [hV]; simp
          have hBx : Box V wr.heap.size (.int .i64 xk) (.string xn) (.int .i64 xi) (.int .i64 xh) (.slice xa xm xc) := by
            rw [hV]; unfold Box; exact heap_alloc_new wr _
          have hB2v : Box V (w.heap.size + 1) (.int .i64 k') (.string n') (.int .i64 i') (.int .i64 hm') (.slice (some tad) m tc) := hV ▸ HB2r.out _
          have hsv : MpS base b c Aj V.drew := hV ▸ HSj.out _
          have hgv : w.grownBy V (some b) := hV ▸ HGA.out _
          have hrp : Rep V.drew (fun x => x < base) p (.agg #[.int .i64 xk, .string xn, .int .i64 xi, .int .i64 xh, .slice xa xm xc]) := hV ▸ HR1.out _
          have hrt : Rep V.drew (fun x => x < base) t (.agg #[.int .i64 yk, .string yn, .int .i64 yi, .int .i64 yh, .slice ya ym yc]) := hV ▸ HR2.out _
          obtain ⟨t0, t1, t2, t3, t4⟩ := hV ▸ H5.out (.cells #[.int .i64 xk, .string xn, .int .i64 xi, .int .i64 xh, .slice xa xm xc] 25)
          obtain ⟨e0, e1, e2, e3, e4⟩ := hBx.cells
          obtain ⟨f0, f1, f2, f3, f4⟩ := hB2v.cells
          have HC := Lib.hid (HH.out p HPm.out t Aj _ _ base b c V.drew (bndInL_mem HBi.out.2 HPm.out) hcl hsv hrp hrt)
          have hS : ∀ W', V.grownBy W' (some b) → W'.cell? ⟨wr.heap.size, 0, none⟩ = some (.int .i64 xk) ∧ W'.cell? ⟨wr.heap.size, 1, none⟩ = some (.string xn) ∧ W'.cell? ⟨wr.heap.size, 2, none⟩ = some (.int .i64 xi) ∧ W'.cell? ⟨wr.heap.size, 3, none⟩ = some (.int .i64 xh) ∧ W'.cell? ⟨wr.heap.size, 4, none⟩ = some (.slice xa xm xc) ∧ W'.cell? ⟨w.heap.size + 1, 4, none⟩ = some (.slice (some tad) m tc) ∧ W'.cell? (tad.add (j * 5)) = some (.int .i64 yk) ∧ W'.cell? ⟨(tad.add (j * 5)).block, (tad.add (j * 5)).off + 1, none⟩ = some (.string yn) ∧ W'.cell? ⟨(tad.add (j * 5)).block, (tad.add (j * 5)).off + 2, none⟩ = some (.int .i64 yi) ∧ W'.cell? ⟨(tad.add (j * 5)).block, (tad.add (j * 5)).off + 3, none⟩ = some (.int .i64 yh) ∧ W'.cell? ⟨(tad.add (j * 5)).block, (tad.add (j * 5)).off + 4, none⟩ = some (.slice ya ym yc) := fun W' hb => by
            have k : ∀ p v, p.block ≠ b → V.cell? p = some v → W'.cell? p = some v := fun p v n1 h => (World.cell?_of_block (hb.block _ (World.block_lt_of_cell? _ _ h) (by simpa using n1))).trans h
            have a3 : (tad.add (j * 5)).block ≠ b := by rw [add_block]; have := HLs.out.1; omega
            have a1 : wr.heap.size ≠ b := by omega
            have a2 : w.heap.size + 1 ≠ b := by have := HLs.out.2; omega
            exact ⟨k _ _ a1 e0, k _ _ a1 e1, k _ _ a1 e2, k _ _ a1 e3, k _ _ a1 e4, k _ _ a2 f4, k _ _ a3 t0, k _ _ a3 t1, k _ _ a3 t2, k _ _ a3 t3, k _ _ a3 t4⟩
          have HS := Lib.hid hS
          have HD0 : Hid (V.grownBy V.drew (some b)) := grown_of_below (Below.refl _ V).drew (some b)
          have HGV := Lib.hid hgv
          have HGx : Hid (w1.grownBy V (some b)) := by
            show World.grownBy _ _ _
            rw [hV]; exact grown_trans HGr.out (World.grownBy_alloc wr _ (some b))
          clear hV hBx hB2v hsv hgv hrp hrt hS p0 p1 p2 p3 p4 f0 f1 f2 f3 HSj HR1 HR2 H5 HGA HB2r
          cases hq : instT p t Aj with
          | none =>
            rw [hq] at HC HSp
            have HNo : Hid (instT P0 T A = none) := by show _ = _; rw [HM3.out, hij, HSp.out]
            clear hq hij
            go_region_held3 (fun W' => W'.cell? ⟨wr.heap.size, 0, none⟩ = some (.int .i64 xk) ∧ W'.cell? ⟨wr.heap.size, 1, none⟩ = some (.string xn) ∧ W'.cell? ⟨wr.heap.size, 2, none⟩ = some (.int .i64 xi) ∧ W'.cell? ⟨wr.heap.size, 3, none⟩ = some (.int .i64 xh) ∧ W'.cell? ⟨wr.heap.size, 4, none⟩ = some (.slice xa xm xc) ∧ W'.cell? ⟨w.heap.size + 1, 4, none⟩ = some (.slice (some tad) m tc) ∧ W'.cell? (tad.add (j * 5)) = some (.int .i64 yk) ∧ W'.cell? ⟨(tad.add (j * 5)).block, (tad.add (j * 5)).off + 1, none⟩ = some (.string yn) ∧ W'.cell? ⟨(tad.add (j * 5)).block, (tad.add (j * 5)).off + 2, none⟩ = some (.int .i64 yi) ∧ W'.cell? ⟨(tad.add (j * 5)).block, (tad.add (j * 5)).off + 3, none⟩ = some (.int .i64 yh) ∧ W'.cell? ⟨(tad.add (j * 5)).block, (tad.add (j * 5)).off + 4, none⟩ = some (.slice ya ym yc))
              (first
                | with_reducible exact HS.out _ HD3.out
                | with_reducible exact HS.out _ HD0.out)
              (first
                | (go_at_call 55; (with_reducible refine HC.out.mono ?_); rintro e w3 ⟨rfl, hin, hg3⟩; have HD3 := Lib.hid (grown_trans HD0.out hg3); clear hin hg3))
            all_goals
              clear e0 e1 e2 e3 e4 f4 t0 t1 t2 t3 t4
              go_split_ands
              go_wp2
              go_ret
              exact ⟨by rw [HNo.out]; rfl, fun A1 h => by rw [HNo.out] at h; (cases h), grown_trans HGV.out HD3.out⟩
          | some A1 =>
            rw [hq] at HC HSp
            have HSp2 : Hid (instL P0.ts T.ts A = instL (P0.ts.drop (j + 1)) (T.ts.drop (j + 1)) A1) := by show _ = _; rw [hij, HSp.out]
            clear hq hij
            go_region_held3 (fun W' => W'.cell? ⟨wr.heap.size, 0, none⟩ = some (.int .i64 xk) ∧ W'.cell? ⟨wr.heap.size, 1, none⟩ = some (.string xn) ∧ W'.cell? ⟨wr.heap.size, 2, none⟩ = some (.int .i64 xi) ∧ W'.cell? ⟨wr.heap.size, 3, none⟩ = some (.int .i64 xh) ∧ W'.cell? ⟨wr.heap.size, 4, none⟩ = some (.slice xa xm xc) ∧ W'.cell? ⟨w.heap.size + 1, 4, none⟩ = some (.slice (some tad) m tc) ∧ W'.cell? (tad.add (j * 5)) = some (.int .i64 yk) ∧ W'.cell? ⟨(tad.add (j * 5)).block, (tad.add (j * 5)).off + 1, none⟩ = some (.string yn) ∧ W'.cell? ⟨(tad.add (j * 5)).block, (tad.add (j * 5)).off + 2, none⟩ = some (.int .i64 yi) ∧ W'.cell? ⟨(tad.add (j * 5)).block, (tad.add (j * 5)).off + 3, none⟩ = some (.int .i64 yh) ∧ W'.cell? ⟨(tad.add (j * 5)).block, (tad.add (j * 5)).off + 4, none⟩ = some (.slice ya ym yc))
              (first
                | with_reducible exact HS.out _ HD3.out
                | with_reducible exact HS.out _ HD0.out)
              (first
                | (go_at_call 55; (with_reducible refine HC.out.mono ?_); rintro e w3 ⟨rfl, hin, hg3⟩; have HD3 := Lib.hid (grown_trans HD0.out hg3); have HIn3 := Lib.hid (hin A1 rfl); clear hin hg3))
            all_goals
              clear e0 e1 e2 e3 e4 f4 t0 t1 t2 t3 t4
              go_split_ands
              go_wp2
              go_roundw
              case rel => exact ⟨j + 1, hlt, by go_num, ⟨A1, HIn3.out, HSp2.out⟩, grown_trans HGx.out HD3.out⟩
              case measure => simp [intOf]; omega
        · obtain ⟨Aj, hsj, hij⟩ := HIn.out
          have HYes : Hid (instT P0 T A = some Aj) := by
            show _ = _
            rw [HM3.out, hij, List.drop_eq_nil_of_le (by rw [← HM0.out]; omega)]
            rfl
          have HSj := Lib.hid hsj
          clear hsj hij HIn
          go_wp2
          go_ret
          exact ⟨by rw [HYes.out]; rfl, fun A1 h => by rw [HYes.out] at h; (cases h); exact HSj.out, grown_trans HGr1.out HGr.out⟩
theorem match_any (P0 : Ty) : MatC Try.prog 55 P0 := Ty.induct match_of P0
end Go.Proofs.Ytahiefgfhpkoeaa

namespace Go.Proofs.Ytahiefgfhpkoeaa
open Go.RowKit Go.Sort Go.Shelf Go.Maps Mth

theorem RowG.there {α : Type} {E : El α} {w : World} {base : Nat} {S : Nat → Prop} {xs : List α} {g n cap : Nat} (h : RowG E w base S (.slice (some ⟨g, 0, none⟩) n cap) xs) {j : Nat} (hj : j < xs.length) (m k : Nat) (hm : m + k ≤ E.k) : w.there g (j * E.k + m) k := by
  intro i hi
  obtain ⟨c, hr, h0⟩ := rowG_getT h (List.getElem?_eq_getElem hj)
  refine ⟨?_, h.free _⟩
  have hl := (E.len hr).1
  have := h0 (m + i) _ (List.getElem?_eq_getElem (by omega))
  rw [← Nat.add_assoc] at this
  rw [this]; rfl
/-- A store of a whole struct, or of one cell's worth, into an element of an owned row. -/
theorem wpList_putG {w : World} {ops : Array Oper} {rest : List Oper} {o : Oper} {a : Act} {Q : Exit → Act → World → Prop} {α : Type} (E : El α) (hgd : o.guard = none) (t : TypeId) (x y : Operand) (ho : o.op = Op.store t x y)
    (base : Nat) (S : Nat → Prop) (g n cap : Nat) (xs : List α) (hrow : RowG E w base S (.slice (some ⟨g, 0, none⟩) n cap) xs) (j m : Nat) (z z' : α) (hz : xs[j]? = some z) (vs : List Value) (O : Nat) (hO : O = j * E.k + m)
    (hx : a.eval x = .pointer (some ⟨g, O, none⟩)) (hy : a.eval y = .agg vs.toArray) (hi : (Try.prog.info? t).map (·.size) = some vs.length) (h1 : ∀ v ∈ vs, v.oneCell' = true) (hm : m + vs.length ≤ E.k)
    (hr : ∀ c, E.rep w (fun b => S b ∧ b ≠ g) z c → ∃ p o s, c = p ++ o ++ s ∧ p.length = m ∧ vs.length = o.length ∧ E.rep w (fun b => S b ∧ b ≠ g) z' (p ++ vs ++ s))
    (hK : ∀ w', RowG E w' base S (.slice (some ⟨g, 0, none⟩) n cap) (xs.set j z') → w.grownBy w' (some g) → wpList Try.prog ops Q rest (a.put o.dst undef) w') :
    wpList Try.prog ops Q (o :: rest) a w := by
  subst hO
  obtain ⟨h2, h3⟩ := hrow.put hz z' m vs hr
  refine wpList_store_mid hgd t x y ho g _ vs.toArray hx hy (by simpa using hrow.there (List.getElem?_eq_some_iff.1 hz).1 m vs.length hm) (by simpa using hi) (all_oneCell_toArray h1) ?_
  simpa using hK _ h2 h3
theorem RowG.ats {w : World} {base : Nat} {S : Nat → Prop} {g n cap : Nat} {xs : List Ty} (h : RowG TyE w base S (.slice (some ⟨g, 0, none⟩) n cap) xs) {j : Nat} (hj : j < xs.length) :
    ∃ k n i hm sa sn sc, (w.cell? ⟨g, j * 5, none⟩ = some (.int .i64 k) ∧ w.cell? ⟨g, j * 5 + 1, none⟩ = some (.string n) ∧ w.cell? ⟨g, j * 5 + 2, none⟩ = some (.int .i64 i) ∧ w.cell? ⟨g, j * 5 + 3, none⟩ = some (.int .i64 hm) ∧ w.cell? ⟨g, j * 5 + 4, none⟩ = some (.slice sa sn sc)) ∧ (∀ q, w.frozen? ⟨g, q, none⟩ = false) := by
  obtain ⟨cc, hr, hc⟩ := rowG_getT h (List.getElem?_eq_getElem hj)
  obtain ⟨k, n, i, hm, sa, sn, sc, e⟩ := Rep.form hr
  have e' : cc = [.int .i64 k, .string n, .int .i64 i, .int .i64 hm, .slice sa sn sc] := by simpa using e
  subst e'
  exact ⟨k, n, i, hm, sa, sn, sc, ⟨hc 0 _ rfl, hc 1 _ rfl, hc 2 _ rfl, hc 3 _ rfl, hc 4 _ rfl⟩, fun q => h.free q⟩
/-- A type that is stored into an element of a row of types. -/
theorem RowG.putTy {w : World} {base : Nat} {S : Nat → Prop} {g n cap : Nat} {xs : List Ty} (h : RowG TyE w base S (.slice (some ⟨g, 0, none⟩) n cap) xs) {j : Nat} (hj : j < xs.length) {T : Ty} {k : Int} {nm : ByteArray} {i hm : Int} {s : Value} (hT : Rep w (fun b => S b ∧ b ≠ g) T (.agg #[.int .i64 k, .string nm, .int .i64 i, .int .i64 hm, s])) :
    RowG TyE (((((w.setCell ⟨g, j * 5, none⟩ (.int .i64 k)).setCell ⟨g, j * 5 + 1, none⟩ (.string nm)).setCell ⟨g, j * 5 + 2, none⟩ (.int .i64 i)).setCell ⟨g, j * 5 + 3, none⟩ (.int .i64 hm)).setCell ⟨g, j * 5 + 4, none⟩ s) base S (.slice (some ⟨g, 0, none⟩) n cap) (xs.set j T) ∧
    w.grownBy (((((w.setCell ⟨g, j * 5, none⟩ (.int .i64 k)).setCell ⟨g, j * 5 + 1, none⟩ (.string nm)).setCell ⟨g, j * 5 + 2, none⟩ (.int .i64 i)).setCell ⟨g, j * 5 + 3, none⟩ (.int .i64 hm)).setCell ⟨g, j * 5 + 4, none⟩ s) (some g) := by
  have hput := h.put (List.getElem?_eq_getElem hj) T 0 [.int .i64 k, .string nm, .int .i64 i, .int .i64 hm, s] (fun cc hc => ⟨[], cc, [], by simp, rfl, by rw [(TyE.len hc).1]; rfl, hT⟩)
  have hch : w.setCells g (j * TyE.k + 0) [.int .i64 k, .string nm, .int .i64 i, .int .i64 hm, s] = ((((w.setCell ⟨g, j * 5, none⟩ (.int .i64 k)).setCell ⟨g, j * 5 + 1, none⟩ (.string nm)).setCell ⟨g, j * 5 + 2, none⟩ (.int .i64 i)).setCell ⟨g, j * 5 + 3, none⟩ (.int .i64 hm)).setCell ⟨g, j * 5 + 4, none⟩ s := by
    rw [show TyE.k = 5 from rfl]
    simp only [World.setCells, Nat.add_zero, Nat.add_assoc, Nat.reduceAdd]
  rw [hch] at hput
  exact hput
end Go.Proofs.Ytahiefgfhpkoeaa

namespace Go.Proofs.Ytahiefgfhpkoeaa
open Go.RowKit Go.Sort Go.Shelf Go.Maps Mth

/-- What matching meets is found. -/
def HitAt (P : Ty) : Prop := ∀ (t : Ty) (A A1 : List (Option Ty)), bndIn A.length P = true → instT P t A = some A1 → ∀ i ∈ bnds P, ∃ u, A1[i.toNat]? = some (some u)
theorem hitL : ∀ ps : List Ty, (∀ U ∈ ps, HitAt U) → ∀ (ts : List Ty) (A A1 : List (Option Ty)), ps.length = ts.length → bndInL A.length ps = true → instL ps ts A = some A1 → ∀ i ∈ bndsL ps, ∃ u, A1[i.toNat]? = some (some u) := by
  intro ps
  induction ps with
  | nil => intro _ ts A A1 _ _ _ i hi; cases hi
  | cons p ps ih =>
    intro hm ts A A1 hl hb h i hi
    cases ts with
    | nil => cases hl
    | cons t ts =>
      simp only [bndInL, Bool.and_eq_true] at hb
      rw [instL] at h
      cases e : instT p t A with
      | none => rw [e] at h; cases h
      | some A2 =>
        rw [e] at h
        obtain ⟨m1, -⟩ := snd_all p t A A2 hb.1 e
        have hb2 : bndInL A2.length ps = true := by rw [m1.1]; exact hb.2
        have hl2 : ps.length = ts.length := by simpa using hl
        obtain ⟨m2, -⟩ := sndL ps (fun U _ => snd_all U) ts A2 A1 hl2 hb2 h
        rw [bndsL] at hi
        rcases List.mem_append.1 hi with hi | hi
        · obtain ⟨u, hu⟩ := hm p (by simp) t A A2 hb.1 e i hi
          exact ⟨u, m2.2 _ _ hu⟩
        · exact ih (fun U hU => hm U (by simp [hU])) ts A2 A1 hl2 hb2 h i hi
theorem hit_all : ∀ P : Ty, plB P = true → HitAt P := Ty.induct fun P ih hp t A A1 hb h i hi => by
  obtain ⟨k, n, j, hh, ps⟩ := P
  simp only [bndIn, Bool.and_eq_true, Bool.or_eq_true] at hb
  by_cases hk : k = 2
  · subst hk
    obtain ⟨h0, h1⟩ : 0 ≤ j ∧ j < (A.length : Int) := by simpa using hb.1
    have hts : ps = [] := by
      rw [plB] at hp
      simp_all
    subst hts
    have hij : i = j := by
      rw [bnds] at hi
      simpa [bndsL] using hi
    subst hij
    have hl : i.toNat < A.length := by omega
    rw [instT, if_pos (by simp [h1])] at h
    cases e : A[i.toNat]? with
    | none => exact absurd e (by rw [List.getElem?_eq_getElem hl]; simp)
    | some o =>
      rw [e] at h
      cases o with
      | some u =>
        simp only at h
        split at h
        · cases h; exact ⟨u, e⟩
        · cases h
      | none =>
        simp only at h
        cases h
        exact ⟨t, List.getElem?_set_self hl⟩
  · have hk' : (k == 2) = false := by simpa using hk
    rw [instT, hk'] at h
    simp only [Bool.false_and, Bool.false_eq_true, if_false] at h
    split at h
    · next c =>
      simp only [Bool.and_eq_true, beq_iff_eq] at c
      have hpl : plBL ps = true := by
        rw [plB] at hp
        simp_all
      refine hitL ps (fun U hU => ih U hU (plBL_mem hpl hU)) t.ts A A1 c.2 hb.2 h i ?_
      rw [bnds, hk'] at hi
      simpa using hi
    · cases h
/-- .. all of it, for a valid scheme. -/
theorem sch_hits {M c : Nat} {P t : Ty} {A1 : List (Option Ty)} (hs : SchOk M c P) (h : instT P t (List.replicate c none) = some A1) : A1.length = c ∧ ∀ i, i < c → ∃ u, A1[i]? = some (some u) := by
  have hl : (List.replicate c (none : Option Ty)).length = c := List.length_replicate
  refine ⟨by rw [(snd_all P t _ A1 (by rw [hl]; exact hs.bnd) h).1.1, hl], fun i hi => ?_⟩
  have := hit_all P hs.pl t _ A1 (by rw [hl]; exact hs.bnd) h (i : Int) (hs.occurs hi)
  simpa using this
theorem count_all {A : List (Option Ty)} {c : Nat} (hl : A.length = c) (h : ∀ i, i < c → ∃ u, A[i]? = some (some u)) : A.countP Option.isSome = c := by
  rw [← hl, List.countP_eq_length]
  intro o ho
  obtain ⟨i, hi⟩ := List.getElem?_of_mem ho
  have hlt := (List.getElem?_eq_some_iff.1 hi).1
  obtain ⟨u, hu⟩ := h i (by omega)
  rw [hi] at hu
  cases hu
  rfl
/-- Some are in, the rest is still empty. -/
def fillT (A : List (Option Ty)) (c j : Nat) : List Ty := (A.take j).map (fun o => o.getD zT) ++ List.replicate (c - j) zT
theorem fillT_zero (A : List (Option Ty)) (c : Nat) : fillT A c 0 = List.replicate c zT := by unfold fillT; simp
theorem fillT_len {A : List (Option Ty)} {c j : Nat} (hl : A.length = c) (hj : j ≤ c) : (fillT A c j).length = c := by
  unfold fillT
  simp [hl]
  omega
theorem fillT_all {A : List (Option Ty)} {c : Nat} (hl : A.length = c) : fillT A c c = A.map fun o => o.getD zT := by
  unfold fillT
  rw [List.take_of_length_le (by omega), Nat.sub_self]; simp
theorem fillT_set {A : List (Option Ty)} {c j : Nat} (hl : A.length = c) (hj : j < c) {T : Ty} (h : A[j]? = some (some T)) : (fillT A c j).set j T = fillT A c (j + 1) := by
  unfold fillT
  have h1 : ((A.take j).map fun o => o.getD zT).length = j := by simp [hl]; omega
  rw [List.set_append_right _ _ (by omega), h1, Nat.sub_self, show c - j = (c - (j + 1)) + 1 from by omega, List.replicate_succ, List.set_cons_zero, List.take_add_one, h]
  simp
def InsAtP (P : Program) (f : Nat) : Prop := ∀ (M c : Nat) (Pt T : Ty) (cv tv : Value) (S S' : Nat → Prop) (w : World), SchOk M c Pt → c ≤ 100000 → RepC w S ((c : Int), Pt) cv → Rep w S' T tv →
  Calls P f #[cv, tv] w fun e w' => ∃ u, e = .returned (.tuple #[u, .bool (instT Pt T (List.replicate c none)).isSome]) ∧ SlG TyE w' (fun _ => True) (insR (instT Pt T (List.replicate c none))) u ∧ Below w.heap.size w w'
set_option maxRecDepth 100000 in
set_option maxHeartbeats 6400000 in
theorem pkInstance_any : InsAtP Try.prog 28 := by
  intro M c Pt T cv tv S S' w hsc hc hcv htv
  obtain ⟨k, n, i, hh, sa, sn, sc, rfl, hx⟩ := hcv.form
  obtain ⟨k', n', i', hh', sa', sn', sc', rfl⟩ := htv.form
  have HX : Hid (Rep w (fun b => b < w.heap.size) Pt (.agg #[.int .i64 k, .string n, .int .i64 i, .int .i64 hh, .slice sa sn sc])) := hx.bound.imp fun b hb => hb.2
  have HT : Hid (Rep w (fun b => b < w.heap.size) T (.agg #[.int .i64 k', .string n', .int .i64 i', .int .i64 hh', .slice sa' sn' sc'])) := htv.bound.imp fun b hb => hb.2
  obtain ⟨V, hV⟩ : ∃ V, V = (w.alloc (.cells #[.int .i64 (c : Int), .int .i64 k, .string n, .int .i64 i, .int .i64 hh, .slice sa sn sc] 27)).alloc (.cells #[.int .i64 k', .string n', .int .i64 i', .int .i64 hh', .slice sa' sn' sc'] 25) := ⟨_, rfl⟩
  have hVb : Below w.heap.size w V := by rw [hV]; exact ((Below.refl _ w).alloc (Nat.le_refl _) _).alloc (by simp) _
  have HB1 : Hid (BoxC V w.heap.size (.int .i64 (c : Int)) (.int .i64 k) (.string n) (.int .i64 i) (.int .i64 hh) (.slice sa sn sc)) := by
    show BoxC _ _ _ _ _ _ _ _
    unfold BoxC; rw [hV, heap_at, if_neg (by simp), heap_at, if_pos rfl]
  have HB2 : Hid (Box V (w.heap.size + 1) (.int .i64 k') (.string n') (.int .i64 i') (.int .i64 hh') (.slice sa' sn' sc')) := by
    show Box _ _ _ _ _ _ _
    unfold Box; rw [hV, heap_at, if_pos (by simp)]
  have HVb := Lib.hid hVb
  obtain ⟨V1, hV1⟩ : ∃ V1, V1 = V.alloc (.map #[] 0) := ⟨_, rfl⟩
  have hb01 : Below V.heap.size V V1 := hV1 ▸ (Below.refl _ V).alloc (Nat.le_refl _) _
  have hst : MpS V.heap.size V.heap.size c (List.replicate c none) V1 := hV1 ▸ MpS.start (Nat.le_refl _)
  obtain ⟨b0, b1, b2, b3, b4, b5⟩ := (HB1.out.lift hb01).cells
  obtain ⟨d0, d1, d2, d3, d4⟩ := (HB2.out.lift hb01).cells
  have HB11 : Hid (BoxC V1 w.heap.size (.int .i64 (c : Int)) (.int .i64 k) (.string n) (.int .i64 i) (.int .i64 hh) (.slice sa sn sc)) := HB1.out.lift hb01
  have hw1 : Below w.heap.size w V1 := hVb.trans (hb01.mono hVb.size)
  have hM := match_any Pt T (List.replicate c none) _ _ V.heap.size V.heap.size c V1 hsc.bnd (by omega) hst ((HX.out.lift hw1).imp fun b hb => Nat.lt_of_lt_of_le hb hVb.size) ((HT.out.lift hw1).imp fun b hb => Nat.lt_of_lt_of_le hb hVb.size)
  have HHit := Lib.hid (fun A1 h => sch_hits (t := T) (A1 := A1) hsc h)
  have HBl : Hid (∀ w', V1.grownBy w' (some V.heap.size) → Below w.heap.size w w') := fun w' hg => Below.grown hw1 hg hw1.size (fun j hj => by cases hj; exact hVb.size)
  have HV1e := Lib.hid hV1
  have HHt : Hid (w.heap.size < V.heap.size) := HB1.out.lt
  have hmm := @run_makeMap Try.prog
  obtain ⟨r, hr⟩ : ∃ r, r = instT Pt T (List.replicate c none) := ⟨_, rfl⟩
  rw [← hr] at hM HHit ⊢
  have HMt := Lib.hid hM
  clear hcv htv hx hVb hr hst hb01 hw1 hM
  go_enter Try.func28, Try.ntmps28
  go_upto_region 1 with fail
  rw [← hV]
  clear hV
  go_upto_region 2 with fail
  rw [← HV1e.out]
  clear hV1 hmm
  cases r with
  | none =>
    go_wp2_with (go_at_call 55; refine HMt.out.mono ?_; rintro e w1 ⟨rfl, hin, hg⟩)
    refine bodyPost_ret (v := .tuple #[.slice none 0 0, .bool false]) (by simp [results, Try.results28, go_sem]; try rfl) rfl ?_
    exact ⟨_, rfl, slG_nil _ _ _, HBl.out _ hg⟩
  | some A1 =>
    obtain ⟨hl, hall⟩ := HHit.out A1 rfl
    have hcnt := count_all hl hall
    have HAl := Lib.hid hall
    have HAn := Lib.hid hl
    clear hall hl HHit
    go_upto_region 4 with (first
      | (go_at_call 55; refine HMt.out.mono ?_; rintro e w1 ⟨rfl, hin, hg⟩; have HSt := Lib.hid (hin A1 rfl); have hlen := HSt.out.lenRun 3; rw [hcnt] at hlen; obtain ⟨e0, e1, e2, e3, e4, e5⟩ := (HB11.out.kept (hg.block _ HB11.out.lt (by intro e; have := Option.some.inj e; have := HHt.out; omega))).cells))
    have HG1 := Lib.hid (HBl.out _ hg)
    clear hg hin hlen hcnt b0 b1 b2 b3 b4 b5 d0 d1 d2 d3 d4
    have hc1 : c ≤ 1000000 := by omega
    go_upto_region 5 with (at_make; refine wpList_makeT rfl _ _ rfl c rfl rfl hc1 w1.heap.size (fun b => b < w1.heap.size) (Nat.le_refl _) ?_; intro w2 hrow2 hg2)
    have H0 : Hid (RowG TyE w2 w1.heap.size (fun b => b < w1.heap.size) (.slice (some ⟨w1.heap.size, 0, none⟩) c c) (fillT A1 c 0) ∧ Below w1.heap.size w1 w2) := by
      show _ ∧ _
      rw [fillT_zero]; exact ⟨hrow2, Below.grown (Below.refl _ w1) hg2 (Nat.le_refl _) (fun j hj => by cases hj)⟩
    clear hrow2 hg2 e1 e2 e3 e4 e5 e0
    go_wp2
    go_loopw [28] (fun x wr => ∃ j : Nat, j ≤ c ∧ x = .int .i64 j ∧ Hid (RowG TyE wr w1.heap.size (fun b => b < w1.heap.size) (.slice (some ⟨w1.heap.size, 0, none⟩) c c) (fillT A1 c j) ∧ Below w1.heap.size w1 wr)) (fun x _ => c - (intOf x).toNat)
    case atStart => exact ⟨0, Nat.zero_le _, rfl, H0⟩
    case round =>
      clear H0
      obtain ⟨j, hj, rfl, HRw⟩ := hrel
      by_cases hlt : j < c
      · obtain ⟨U, hU⟩ := HAl.out j hlt
        obtain ⟨v, hrun, hrv⟩ := (HSt.out.lift HRw.out.2).look1 hU (by omega)
        obtain ⟨xk, xn, xi, xh, xa, xm, xc, rfl⟩ := hrv.form
        have HRv : Hid (Rep wr (fun b => b < w1.heap.size ∧ b ≠ w1.heap.size) U (.agg #[.int .i64 xk, .string xn, .int .i64 xi, .int .i64 xh, .slice xa xm xc])) := hrv.imp fun b hb => by
          have := HSt.out.lts
          exact ⟨by omega, by omega⟩
        have hji : (j : Int) < (c : Int) := by omega
        have HFs := Lib.hid (fillT_set HAn.out hlt hU)
        have HFl : Hid (j < (fillT A1 c j).length) := by show _ < _; rw [fillT_len HAn.out hj]; exact hlt
        have HPut := Lib.hid (HRw.out.1.putTy HFl.out HRv.out)
        obtain ⟨zk, zn, zi, zh, za, zm, zc, ⟨s0, s1, s2, s3, s4⟩, hfa⟩ := HRw.out.1.ats HFl.out
        clear hrv hU
        go_wp2_with (at_lookup; refine wpList_lookRun rfl _ _ _ _ rfl rfl rfl hrun ?_)
        have HR4 := Lib.hid HPut.out.1
        have HG4 := Lib.hid (Below.grown HRw.out.2 HPut.out.2 HRw.out.2.size (fun k hk => by cases hk; exact Nat.le_refl _))
        clear HPut s0 s1 s2 s3 s4 hfa hrun
        generalize ((((wr.setCell ⟨w1.heap.size, j * 5, none⟩ (.int .i64 xk)).setCell ⟨w1.heap.size, j * 5 + 1, none⟩ (.string xn)).setCell ⟨w1.heap.size, j * 5 + 2, none⟩ (.int .i64 xi)).setCell ⟨w1.heap.size, j * 5 + 3, none⟩ (.int .i64 xh)).setCell ⟨w1.heap.size, j * 5 + 4, none⟩ (.slice xa xm xc) = x at *
        go_roundw
        case rel => exact ⟨j + 1, hlt, by go_num, by show _ ∧ _; rw [← HFs.out]; exact ⟨HR4.out, HG4.out⟩⟩
        case measure => simp [intOf]; omega
      · obtain rfl : j = c := by omega
        have HFa := Lib.hid (fillT_all HAn.out)
        go_wp2
        refine bodyPost_ret (v := .tuple #[.slice (some ⟨w1.heap.size, 0, none⟩) j j, .bool true]) (by simp [results, Try.results28, go_sem]; try rfl) rfl ?_
        refine ⟨_, rfl, ?_, HG1.out.trans (HRw.out.2.mono HG1.out.size)⟩
        have := HRw.out.1
        rw [HFa.out] at this
        exact this.slG (fun _ _ => trivial) (fun _ _ => trivial)
end Go.Proofs.Ytahiefgfhpkoeaa

namespace Go.Proofs.Ytahiefgfhpkoeaa
open Go.RowKit Go.Sort Go.Shelf Go.Maps Mth

/-- Opening twice is opening once. -/
theorem opn_opn (hs gs : List Ty) : ∀ P : Ty, bndIn gs.length P = true → opn hs (opn gs P) = opn (gs.map (opn hs)) P := Ty.induct fun P ih hb => by
  obtain ⟨k, n, i, h, ts⟩ := P
  by_cases hk : k = 2
  · subst hk
    obtain ⟨hi, h0, e⟩ := opn_at rfl hb
    obtain ⟨-, -, e'⟩ := opn_at (gs := gs.map (opn hs)) (c := gs.length) (by rw [List.length_map]) hb
    rw [e, e', List.getD_eq_getElem?_getD, List.getD_eq_getElem?_getD, List.getElem?_map, List.getElem?_eq_getElem hi]
    rfl
  · simp only [bndIn, Bool.and_eq_true] at hb
    rw [opn_not hk, opn_not hk, opn_not hk, List.map_map]
    congr 1
    exact List.map_congr_left fun U hU => ih U hU (bndInL_mem hb.2 hU)
/-- The TypeBound themselves. -/
def bds (c : Nat) : List Ty := (List.range c).map fun (j : Nat) => bd (j : Int)
theorem bds_len (c : Nat) : (bds c).length = c := by unfold bds; simp
theorem bds_at {c i : Nat} (h : i < c) : (bds c).getD i default = bd (i : Int) := by
  unfold bds
  rw [List.getD_eq_getElem?_getD, List.getElem?_map, List.getElem?_range h]; rfl
theorem opn_bds (c : Nat) : ∀ P : Ty, bndIn c P = true → plB P = true → opn (bds c) P = P := Ty.induct fun P ih hb hp => by
  obtain ⟨k, n, i, h, ts⟩ := P
  by_cases hk : k = 2
  · subst hk
    obtain ⟨hi, h0, e⟩ := opn_at (bds_len c) hb
    rw [bds_len] at hi
    simp only [plB, Bool.and_eq_true, Bool.or_eq_true] at hp
    obtain ⟨⟨hn, hh⟩, ht⟩ : (n.toList = [] ∧ h = 0) ∧ ts = [] := by simpa using hp.1
    obtain ⟨d⟩ := n
    rw [Lib.toList_data] at hn
    have : d = #[] := by simpa using hn
    rw [e, bds_at hi, this, hh, ht, Int.toNat_of_nonneg h0]
    rfl
  · simp only [bndIn, Bool.and_eq_true] at hb
    simp only [plB, Bool.and_eq_true] at hp
    rw [opn_not hk]
    congr 1
    conv => rhs; rw [← List.map_id ts]
    exact List.map_congr_left fun U hU => ih U hU (bndInL_mem hb.2 hU) (plBL_mem hp.2 hU)
/-- The type of a scheme is an instance exactly if the one with names is. -/
theorem gen_own {ca cb : Nat} {a b : Ty} (ha : SchOk 26 ca a) (hb : SchOk 26 cb b) : (instT a b (List.replicate ca none)).isSome = (instT a (opn (frs nmG cb) b) (List.replicate ca none)).isSome := by
  rw [Bool.eq_iff_iff, Option.isSome_iff_exists, Option.isSome_iff_exists, inst_iff ha.bnd, inst_iff ha.bnd]
  constructor
  · rintro ⟨gs, h1, h2⟩
    refine ⟨gs.map (opn (frs nmG cb)), by rw [List.length_map]; exact h1, ?_⟩
    rw [← h2, opn_opn _ _ _ (by rw [h1]; exact ha.bnd)]
  · rintro ⟨gs, h1, h2⟩
    refine ⟨gs.map (rnT (toR nmG (bds cb))), by rw [List.length_map]; exact h1, ?_⟩
    rw [← rn_opn _ _ _ ha.no (by rw [h1]; exact ha.bnd), h2, rn_opn _ _ _ hb.no (by rw [frs_len]; exact hb.bnd)]
    have := frs_rn nmG_inj (hs := bds cb) (by rw [bds_len]; exact hb.le)
    rw [bds_len] at this
    rw [this]
    exact opn_bds cb b hb.bnd hb.pl
def GenAtP (P : Program) (f : Nat) : Prop := ∀ (ca cb : Nat) (a b : Ty) (u v : Value) (S S' : Nat → Prop) (w : World), SchOk 26 ca a → SchOk 26 cb b → RepC w S ((ca : Int), a) u → RepC w S' ((cb : Int), b) v →
  Calls P f #[u, v] w fun e w' => e = .returned (.bool (instT a (opn (frs nmG cb) b) (List.replicate ca none)).isSome) ∧ Below w.heap.size w w'
set_option maxHeartbeats 3200000 in
theorem pkGeneral_any : GenAtP Try.prog 32 := by
  intro ca cb a b u v S S' w ha hb hu hv
  have HG := Lib.hid (gen_own ha hb)
  have hb0 : ∀ X Y, Below w.heap.size w ((w.alloc (.cells X 27)).alloc (.cells Y 27)) := fun X Y => ((Below.refl _ w).alloc (Nat.le_refl _) _).alloc (by simp) _
  have hca := ha.le
  obtain ⟨k', n', i', hh', sa', sn', sc', rfl, hy⟩ := hv.form
  have HC := Lib.hid (fun X Y => pkInstance_any 26 ca a b u _ S S' _ ha (by omega) (hu.lift (hb0 X Y)) (hy.lift (hb0 X Y)))
  obtain ⟨k, n, i, hh, sa, sn, sc, rfl, hx⟩ := hu.form
  have HB := Lib.hid hb0
  clear hu hv hx hy hb0 ha hb
  generalize (instT a (opn (frs nmG cb) b) (List.replicate ca none)).isSome = q at *
  rw [HG.out] at HC
  go_enter Try.func32, Try.ntmps32
  go_wp2_with (go_at_call 28; refine (HC.out _ _).mono ?_; rintro e w1 ⟨u1, rfl, -, hb1⟩)
  go_ret
  exact ⟨rfl, (HB.out _ _).trans (hb1.mono (HB.out _ _).size)⟩
def MonAt (P : Program) (f : Nat) : Prop := ∀ (T : Ty) (v : Value) (S : Nat → Prop) (w : World), Rep w S T v → Calls P f #[v] w fun e w' => ∃ u, e = .returned u ∧ RepC w' S (0, T) u ∧ Below w.heap.size w w'
def EqSAt (P : Program) (f : Nat) : Prop := ∀ (a b : Int × Ty) (u v : Value) (S S' : Nat → Prop) (w : World), RepC w S a u → RepC w S' b v → Calls P f #[u, v] w fun e w' => e = .returned (.bool (eqC a b)) ∧ Below w.heap.size w w'
theorem pkMono_any : MonAt Try.prog 21 := by
  intro T v S w h
  obtain ⟨k, n, i, hh, s, eT, rfl, hn, hs⟩ := h.open
  obtain ⟨sa, sc, rfl, -⟩ := hs
  have HX := Lib.hid h
  have hb0 : ∀ X Y, Below w.heap.size w ((w.alloc (.cells X 25)).alloc (.cells Y 27)) := fun X Y => ((Below.refl _ w).alloc (Nat.le_refl _) _).alloc (by simp) _
  have HB := Lib.hid hb0
  have HZ : Hid (∀ X, Zero6 ((w.alloc (.cells X 25)).alloc (.cells #[.int .i64 0, .int .i64 0, .string ⟨#[]⟩, .int .i64 0, .int .i64 0, .slice none 0 0] 27)) (w.heap.size + 1)) := fun X => by
    show BoxC _ _ _ _ _ _ _ _
    unfold BoxC; rw [heap_at, if_pos (by simp)]
  clear h eT hn hb0
  generalize T.ts.length = sn at *
  go_enter Try.func21, Try.ntmps21
  go_wp2_with (refine wpList_store6 rfl _ _ rfl _ _ _ _ _ _ _ (HZ.out _) rfl _ _ _ _ _ _ _ _ rfl ?_; intro w2 hB2 hg2 hs2)
  obtain ⟨c0, c1, c2, c3, c4, c5⟩ := hB2.cells
  refine bodyPost_ret (v := .agg #[.int .i64 0, .int .i64 k, .string n, .int .i64 i, .int .i64 hh, .slice sa sn sc]) (by simp [results, Try.results21, go_sem, c0, c1, c2, c3, c4, c5]; try rfl) rfl ?_
  have hb2 := Below.grown (HB.out _ _) hg2 (HB.out _ _).size (fun j hj => by cases hj; omega)
  exact ⟨_, rfl, ⟨k, n, i, hh, _, rfl, HX.out.kept (fun _ h => h) fun b _ hl => hb2.block b hl⟩, hb2⟩
theorem pkEqualS_any : EqSAt Try.prog 34 := by
  intro a b u v S S' w h h'
  obtain ⟨k, n, i, hh, sa, sn, sc, rfl, hx⟩ := h.form
  obtain ⟨k', n', i', hh', sa', sn', sc', rfl, hx'⟩ := h'.form
  have hb0 : ∀ X Y, Below w.heap.size w ((w.alloc (.cells X 27)).alloc (.cells Y 27)) := fun X Y => ((Below.refl _ w).alloc (Nat.le_refl _) _).alloc (by simp) _
  have HB := Lib.hid hb0
  have HC := Lib.hid (fun X Y => equal_any _ a.2 (Nat.le_refl _) b.2 _ _ _ _ _ (hx.lift (hb0 X Y)) (hx'.lift (hb0 X Y)))
  have HE : Hid (eqC a b = (a.1 == b.1 && teq a.2 b.2)) := rfl
  clear hx hx' h h' hb0
  generalize teq a.2 b.2 = q at *
  cases hc : (a.1 == b.1) with
  | false =>
    rw [hc] at HE
    go_enter Try.func34, Try.ntmps34
    go_wp2
    go_ret
    exact ⟨ret_bool (by rw [HE.out]; rfl), HB.out _ _⟩
  | true =>
    rw [hc] at HE
    go_enter Try.func34, Try.ntmps34
    go_wp2_with (go_at_call 58; refine (HC.out _ _).mono ?_; rintro e w1 ⟨rfl, hb1⟩)
    go_ret
    exact ⟨ret_bool (by rw [HE.out]; simp), (HB.out _ _).trans (hb1.mono (HB.out _ _).size)⟩
end Go.Proofs.Ytahiefgfhpkoeaa
