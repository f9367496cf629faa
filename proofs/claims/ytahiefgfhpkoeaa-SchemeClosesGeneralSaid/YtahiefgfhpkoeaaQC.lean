/- Assignments as elements of rows. Substitutions of types: what composing and matching give. Plain facts. Substitutions: has, find, Apply, Var. An assignment appended to a row of assignments. -/
import Derived.Test.YtahiefgfhpkoeaaTyRepl
import Derived.Test.YtahiefgfhpkoeaaTyEls
import Derived.OwnWalk
import Derived.Deep.CutBlock
import Derived.Deep.LoopGhost
import Derived.Deep.RegionHeld3
import Derived.Test.YtahiefgfhpkoeaaTyOrd
import Derived.Test.YtahiefgfhpkoeaaTyRefRepl
namespace Go.Proofs.Ytahiefgfhpkoeaa
open Go.RowKit Go.Sort Go.Shelf Go.Maps Mth

theorem elInfo_as : (Try.prog.info? 48).map (fun i => (i.zero, i.size, i.bytes)) = some (some (.agg #[.int .i64 0, .int .i64 0, .string ByteArray.empty, .int .i64 0, .int .i64 0, .slice none 0 0]), 6, 72) := by kernel_rfl
/-- Assignments as elements. -/
def AsE : El (Int × Ty) where
  k := 6
  by_ := 72
  e := 48
  t := 46
  rep w S p c := ∃ c', c = .int .i64 p.1 :: c' ∧ Rep w S p.2 (.agg c'.toArray)
  hk := by decide
  und := Try.underlying46
  info := by obtain ⟨i, h0, h1, h2, h3⟩ := info_parts elInfo_as; exact ⟨i, _, h0, h1, h2, h3, rfl⟩
  hby := by decide
  len h := by
    obtain ⟨c', rfl, h⟩ := h
    obtain ⟨h1, h2⟩ := h.cells
    refine ⟨by simp [h1], fun u hu => ?_⟩
    rcases List.mem_cons.1 hu with rfl | hu
    · rfl
    · exact h2 u hu
  kept h1 h2 h := by
    obtain ⟨c', e, h⟩ := h
    exact ⟨c', e, h.kept h1 h2⟩
  bound h := by
    obtain ⟨c', e, h⟩ := h
    exact ⟨c', e, h.bound⟩
theorem slG_asL {w : World} {S : Nat → Prop} {xs : List (Int × Ty)} {v : Value} (h : SlG AsE w S xs v) : AsL w S xs v := by
  obtain ⟨a, cap, hv, hc, hj⟩ := h
  refine ⟨a, cap, hv, hc, fun j p hp => ?_⟩
  obtain ⟨ad, c, h1, h2, h3, c', rfl, h4⟩ := hj j p hp
  obtain ⟨k, n, i, hm, s, -, e, -, -⟩ := h4.open
  have e' : c' = [.int .i64 k, .string n, .int .i64 i, .int .i64 hm, s] := by simpa using e
  subst e'
  refine ⟨ad, k, n, i, hm, s, h1, h2, ⟨h3 0 _ rfl, ?_, ?_, ?_, ?_, ?_⟩, h4⟩
  · rw [add_add' _ _ _ (by omega)]; exact h3 1 _ rfl
  · rw [add_add' _ _ _ (by omega)]; exact h3 2 _ rfl
  · rw [add_add' _ _ _ (by omega)]; exact h3 3 _ rfl
  · rw [add_add' _ _ _ (by omega)]; exact h3 4 _ rfl
  · rw [add_add' _ _ _ (by omega)]; exact h3 5 _ rfl
theorem RowG.weaken {α : Type} {E : El α} {w : World} {base : Nat} {S S' : Nat → Prop} {v : Value} {xs : List α} (h : RowG E w base S v xs) (hS : ∀ b, S b → b < w.heap.size → some b ≠ v.ownBlock → S' b) : RowG E w base S' v xs := by
  obtain ⟨L, hown, hl, hr⟩ := h
  refine ⟨L, hown, hl, fun j x hj => ?_⟩
  obtain ⟨c, hc, hrep⟩ := hr j x hj
  exact ⟨c, hc, E.kept (fun b hb => ⟨hS b hb.1.1 hb.2 hb.1.2, hb.1.2⟩) (fun _ _ _ => rfl) (E.bound hrep)⟩
/-- One append at a step of a region that draws its order; where the new row lies. -/
theorem step_pushH {α : Type} {w : World} {ops : Array Oper} {o : Oper} {a : Act} {K : Act → World → Prop} {Q : Exit → Act → World → Prop} {E' : Prop} (E : El α) (hgd : o.guard = none) (s x : Operand)
    (ho : o.op = .call { callee := .builtin .append, args := #[s, x], argTypes := #[E.t, E.t] })
    (base : Nat) (S : Nat → Prop) (v : Value) (xs : List α) (hs : a.eval s = v) (hrow : RowG E w base S v xs)
    (B : Nat) (Z : TypeId) (c : List Value) (hB : w.heap[B]? = some (.cells c.toArray Z (0, 0))) (hx : a.eval x = .slice (some ⟨B, 0, none⟩) 1 1) (y : α) (hy : E.rep w (fun b => S b ∧ some b ≠ v.ownBlock) y c)
    (N : Nat) (hN : N = xs.length + 1) (hb : N ≤ 1000000) (hbase : base ≤ w.heap.size)
    (hK : ∀ (a' : Option Addr) (c' : Nat) (w' : World), RowG E w' base S (.slice a' N c') (xs ++ [y]) → w.grownBy w' v.ownBlock → ((Value.slice a' N c').ownBlock = v.ownBlock ∨ (Value.slice a' N c').ownBlock = some w.heap.size) → K (a.put o.dst (.slice a' N c')) w') :
    if Region.wanted o (yielded ops a.tmps) = true then Oper.wp Try.prog o a w K Q else E' := by
  obtain ⟨i, z, hi, hz, hk, hby, hzs⟩ := E.info
  obtain ⟨L, hown, hl, hr⟩ := hrow
  have hc := E.len hy
  have hE := E.hby
  refine step_append_lies w hgd s x E.t ho base E.e i z E.k E.by_ E.und hi hz hk hby hzs E.hk v xs.length L.flatten hs hown ⟨B, 0, none⟩ 1 1 c hx (by omega) (World.news_of_block hB) hc.2 (by omega) (by unfold maxLen; omega) ?_ hbase w.heap.size rfl ?_
  · have := Nat.mul_le_mul (show xs.length + 1 ≤ 1000000 by omega) hE
    omega
  intro g cap w' hown' hg hloc _
  have hlc : (Value.slice (some ⟨g, 0, none⟩) (xs.length + 1) cap).ownBlock = v.ownBlock ∨ (Value.slice (some ⟨g, 0, none⟩) (xs.length + 1) cap).ownBlock = some w.heap.size := by
    rcases hloc with e | e
    · exact .inl (by rw [e]; rfl)
    · subst e; exact .inr rfl
  have hrow' : RowG E w' base S (.slice (some ⟨g, 0, none⟩) (xs.length + 1) cap) (xs ++ [y]) := push_after hl hr hy hown' hg hlc
  subst hN
  exact hK _ _ _ hrow' hg hlc

theorem new1 (w : World) (A : Obj) : (w.alloc A).heap[w.heap.size]? = some A := heap_alloc_new w A
theorem new2 (w : World) (A B : Obj) : ((w.alloc A).alloc B).heap[w.heap.size + 1]? = some B := by rw [heap_at, if_pos (by simp)]
theorem new3 (w : World) (A B : Obj) : ((w.alloc A).alloc B).heap[w.heap.size]? = some A := by rw [heap_at, if_neg (by simp), heap_at, if_pos rfl]
/-- append(nil, xs...): a copy. -/
theorem wpList_cloneG {α : Type} {w : World} {ops : Array Oper} {rest : List Oper} {o : Oper} {a : Act} {Q : Exit → Act → World → Prop} (E : El α) (hgd : o.guard = none) (s x : Operand)
    (ho : o.op = .call { callee := .builtin .append, args := #[s, x], argTypes := #[E.t, E.t] }) (hs : a.eval s = .slice none 0 0) (ys : List α) (xv : Value) (S : Nat → Prop) (hy : SlG E w S ys xv) (hx : a.eval x = xv) (hb : ys.length ≤ 1000000)
    (hK : ∀ (a' : Option Addr) (c' : Nat) (w' : World), RowG E w' w.heap.size (fun b => S b ∧ b < w.heap.size) (.slice a' ys.length c') ys → Below w.heap.size w w' → wpList Try.prog ops Q rest (a.put o.dst (.slice a' ys.length c')) w') :
    wpList Try.prog ops Q (o :: rest) a w := by
  obtain ⟨i, z, hi, hz, hk, hby, hzs⟩ := E.info
  obtain ⟨xa, xc, rfl, hcap, hj⟩ := hy.bound
  have hE := E.hby
  cases xa with
  | none =>
    have h0 : ys = [] := by
      cases ys with
      | nil => rfl
      | cons y ys => obtain ⟨ad, c, h1, -⟩ := hj 0 y rfl; cases h1
    subst h0
    refine wpList_plain hgd fun K hK' => ?_
    have hr : (Builtin.append_ #[E.t, E.t] o.type #[.slice none 0 0, .slice none 0 xc]).run Try.prog w = .ok (.slice none 0 0) w := by
      simp [Builtin.append_, run_underlying E.und, sizeOf, typeInfo, hi, Builtin.lenOf, Builtin.firstCells]
    unfold Oper.wp execOp
    simp only [ho, resolve, invoke, builtin, Sem.run_bind, Sem.run_pure, Result.andThen_ok, List.map_toArray, List.map_cons, List.map_nil, hs, hx, List.length_nil, hr]
    exact hK' _ _ (hK none 0 w (rowG_nil E w _ _) (Below.refl _ w))
  | some ad =>
    have hex : ∀ j : Nat, ∃ c : List Value, ∀ y, ys[j]? = some y → (∀ (m : Nat) (u : Value), c[m]? = some u → w.cell? (ad.add (j * E.k + m)) = some u) ∧ E.rep w (fun b => S b ∧ b < w.heap.size) y c := by
      intro j
      cases hy : ys[j]? with
      | none => exact ⟨[], fun y h => by cases h⟩
      | some y0 =>
        obtain ⟨ad', c, h1, -, h3, h4⟩ := hj j y0 hy
        cases h1
        exact ⟨c, fun y h => by cases h; exact ⟨h3, h4⟩⟩
    obtain ⟨g, hg⟩ := Classical.axiomOfChoice hex
    have hlen : ∀ c ∈ (List.range ys.length).map g, c.length = E.k ∧ ∀ u ∈ c, u.oneCell' = true := by
      intro c hc
      obtain ⟨j, hj', rfl⟩ := List.mem_map.1 hc
      rw [List.mem_range] at hj'
      exact E.len (hg j _ (List.getElem?_eq_getElem hj')).2
    have hfl : ((List.range ys.length).map g).flatten.length = ys.length * E.k := by
      rw [List.length_flatten]
      have : ((List.range ys.length).map g).map List.length = List.replicate ys.length E.k := by
        apply List.ext_getElem
        · simp
        · intro i h1 h2
          simp only [List.getElem_map, List.getElem_replicate]
          exact (hlen _ (List.mem_map.2 ⟨_, List.getElem_mem _, rfl⟩)).1
      rw [this]; simp
    refine wpList_append_own_at w hgd s x E.t ho w.heap.size E.e i z E.k E.by_ E.und hi hz hk hby hzs E.hk (.slice none 0 0) 0 [] hs (World.ownsRow_nil _ _ _ _) ad ys.length xc ((List.range ys.length).map g).flatten hx hfl ?_ ?_ (by unfold maxLen; omega) ?_ (Nat.le_refl _) ?_
    · intro n u hu
      have hn : n < ys.length * E.k := by rw [← hfl]; exact (List.getElem?_eq_some_iff.1 hu).1
      have hkp := E.hk
      obtain ⟨q, r, hq, hr, rfl⟩ : ∃ q r, q < ys.length ∧ r < E.k ∧ n = q * E.k + r := ⟨n / E.k, n % E.k, (Nat.div_lt_iff_lt_mul hkp).2 hn, Nat.mod_lt _ hkp, by rw [Nat.mul_comm]; exact (Nat.div_add_mod n E.k).symm⟩
      obtain ⟨h1, h2⟩ := hg q _ (List.getElem?_eq_getElem hq)
      have hl := (E.len h2).1
      have hgu := flat_get E.k _ (fun c h => (hlen c h).1) q r (g q) ((g q)[r]'(by omega)) (by simp [List.getElem?_map, List.getElem?_range hq]) (List.getElem?_eq_getElem _)
      rw [hu] at hgu
      cases hgu
      exact h1 r _ (List.getElem?_eq_getElem _)
    · intro u hu
      obtain ⟨c, hc, hu'⟩ := List.mem_flatten.1 hu
      exact (hlen c hc).2 u hu'
    · have := Nat.mul_le_mul (show 0 + ys.length ≤ 1000000 by omega) hE
      omega
    · intro v' w' hown hgr hnil hloc
      simp only [Nat.zero_add, List.nil_append] at hown
      have hgr' : w.grownBy w' none := hgr
      have hbl : Below w.heap.size w w' := ⟨hgr'.os, hgr'.tape, hgr'.output, hgr'.size, fun i hi => hgr'.block i hi (by simp)⟩
      have hrow : RowG E w' w.heap.size (fun b => S b ∧ b < w.heap.size) v' ys := by
        refine ⟨(List.range ys.length).map g, hown, by simp, fun j y hy => ?_⟩
        have hjl := (List.getElem?_eq_some_iff.1 hy).1
        refine ⟨g j, by simp [List.getElem?_map, List.getElem?_range hjl], E.kept (fun b hb => ⟨hb, ?_⟩) (fun b hb hlt => hbl.block b hlt) (hg j y hy).2⟩
        rcases hloc with e | e
        · rw [e]; simp [Value.ownBlock]
        · rw [e]; intro e'; have := Option.some.inj e'; have := hb.2; omega
      obtain ⟨a', c', rfl, -⟩ := hrow.slice
      exact hK _ _ _ hrow hbl
set_option maxHeartbeats 1600000 in
/-- Any law of a list with one operation is a law of a step. -/
theorem step_of_list {P : Program} {ops : Array Oper} {o : Oper} {a : Act} {w : World} {K : Act → World → Prop} {Q : Exit → Act → World → Prop} {E' : Prop} (hgd : o.guard = none)
    (h : ∀ Q' : Exit → Act → World → Prop, (∀ a w, K a w → Q' .normal a w) → wpList P #[] Q' [o] a w) :
    if Region.wanted o (yielded ops a.tmps) = true then Oper.wp P o a w K Q else E' := by
  rw [if_pos (by simp [Region.wanted, hgd])]
  have hh := h (fun e a w => match e with | .normal => K a w | _ => False) (fun _ _ h => h)
  unfold wpList at hh
  rw [if_pos (by simp [Region.wanted, hgd])] at hh
  rcases hh with hh | ⟨_, _, _, hf⟩
  · unfold Oper.wp at *
    generalize (execOp a.eval o).run P w = r at *
    cases r with
    | ok n w' =>
      cases n <;> simp only [Oper.upon] at hh ⊢ <;>
        first
          | exact hh
          | exact Calls.mono hh (fun e w'' he => by
              cases e
              · exact he
              · exact he.elim
              · obtain ⟨_, _, hf⟩ := he; exact hf.elim)
          | exact Rows.mono hh (fun _ _ he => he)
    | halt x w' => cases x <;> simp only [Oper.upon] at hh ⊢ <;> first | exact hh.elim | exact hh
  · exact hf.elim
/-- 'make([]T, 0, n)': an empty row with room. -/
theorem wpList_makeG {w : World} {ops : Array Oper} {rest : List Oper} {o : Oper} {a : Act} {Q : Exit → Act → World → Prop} {α : Type} (E : El α) (hgd : o.guard = none) (l c : Operand) (ho : o.op = Op.makeSlice E.t l c) (n : Nat) (hl : a.eval l = .int .i64 0) (C : Int) (hc : a.eval c = .int .i64 C) (hC : C = (n : Int)) (hn : n ≤ 1000000) (base : Nat) (S : Nat → Prop) (hb : base ≤ w.heap.size)
    (hK : ∀ w', RowG E w' base S (.slice (some ⟨w.heap.size, 0, none⟩) 0 n) [] → Below w.heap.size w w' → wpList Try.prog ops Q rest (a.put o.dst (.slice (some ⟨w.heap.size, 0, none⟩) 0 n)) w') : wpList Try.prog ops Q (o :: rest) a w := by
  obtain ⟨i, z, hi, hz, hk, hby, hzs⟩ := E.info
  have hE := E.hby
  have hbb : i.bytes * n ≤ 1000 * 1000000 := Nat.mul_le_mul (by rw [hby]; exact hE) hn
  refine wpList_make_own w hgd l c E.t ho base E.e i z E.k E.und hi hz hk .i64 .i64 C n hl hc hC (by omega) (by unfold maxLen; omega) hb ?_
  intro w' hown hg
  exact hK w' ⟨[], hown, rfl, fun j x h => by simp at h⟩ ⟨hg.os, hg.tape, hg.output, hg.size, fun i hi => hg.block i hi (by simp)⟩
end Go.Proofs.Ytahiefgfhpkoeaa

namespace Go.Proofs.Ytahiefgfhpkoeaa
open Go.RowKit Mth

/-- Is a variable assigned? -/
def asgd (σ : List (Int × Ty)) (i : Int) : Bool := σ.any fun p => p.1 == i
theorem asgd_cons (p : Int × Ty) (σ : List (Int × Ty)) (i : Int) : asgd (p :: σ) i = (p.1 == i || asgd σ i) := rfl
theorem look_cons (p : Int × Ty) (σ : List (Int × Ty)) (i : Int) : look (p :: σ) i = if p.1 == i then some p.2 else look σ i := by
  unfold look
  rw [List.find?_cons]
  cases p.1 == i <;> rfl
theorem look_none {σ : List (Int × Ty)} {i : Int} : asgd σ i = false → look σ i = none := by
  induction σ with
  | nil => intro _; rfl
  | cons p σ ih =>
    intro h
    rw [asgd_cons, Bool.or_eq_false_iff] at h
    rw [look_cons, h.1]
    exact ih h.2
theorem look_some {σ : List (Int × Ty)} {i : Int} : asgd σ i = true → ∃ t, look σ i = some t := by
  induction σ with
  | nil => intro h; cases h
  | cons p σ ih =>
    intro h
    rw [look_cons]
    cases e : p.1 == i with
    | true => exact ⟨_, rfl⟩
    | false => rw [asgd_cons, e] at h; exact ih (by simpa using h)
theorem look_append (σ τ : List (Int × Ty)) (i : Int) : look (σ ++ τ) i = match look σ i with | some t => some t | none => look τ i := by
  induction σ with
  | nil => rfl
  | cons p σ ih =>
    rw [List.cons_append, look_cons, look_cons]
    cases p.1 == i with
    | true => rfl
    | false => exact ih
theorem asgd_append (σ τ : List (Int × Ty)) (i : Int) : asgd (σ ++ τ) i = (asgd σ i || asgd τ i) := by unfold asgd; rw [List.any_append]
/-- First the one, then the other. -/
def cmpS (σ τ : List (Int × Ty)) : List (Int × Ty) := σ.map (fun p => (p.1, repl τ p.2)) ++ τ.filter fun p => !asgd σ p.1
theorem look_map (τ σ : List (Int × Ty)) (i : Int) : look (σ.map fun p => (p.1, repl τ p.2)) i = (look σ i).map (repl τ) := by
  induction σ with
  | nil => rfl
  | cons p σ ih =>
    rw [List.map_cons, look_cons, look_cons]
    cases e : p.1 == i with
    | true => simp
    | false => simp only; exact ih
theorem look_filter (σ τ : List (Int × Ty)) (i : Int) (h : asgd σ i = false) : look (τ.filter fun p => !asgd σ p.1) i = look τ i := by
  induction τ with
  | nil => rfl
  | cons p τ ih =>
    rw [List.filter_cons, look_cons]
    by_cases e : p.1 = i
    · subst e
      rw [if_pos (by rw [h]; rfl), look_cons]
      simp
    · have e' : (p.1 == i) = false := by simpa using e
      rw [e']
      split
      · rw [look_cons, e']; exact ih
      · exact ih
theorem look_cmp (σ τ : List (Int × Ty)) (i : Int) : look (cmpS σ τ) i = match look σ i with | some t => some (repl τ t) | none => look τ i := by
  unfold cmpS
  rw [look_append, look_map]
  cases e : look σ i with
  | some t => rfl
  | none =>
    have : asgd σ i = false := by
      cases h : asgd σ i with
      | false => rfl
      | true => obtain ⟨t, ht⟩ := look_some h; rw [e] at ht; cases ht
    exact look_filter σ τ i this
theorem repl_one (σ : List (Int × Ty)) (n : ByteArray) (i h : Int) (ts : List Ty) : repl σ (.mk 1 n i h ts) = (look σ i).getD (.mk 1 n i h ts) := by rw [repl, if_pos rfl]
theorem repl_not (σ : List (Int × Ty)) {k : Int} (hk : k ≠ 1) (n : ByteArray) (i h : Int) (ts : List Ty) : repl σ (.mk k n i h ts) = .mk k n i h (ts.map (repl σ)) := by rw [repl, if_neg hk, replL_map]
/-- Applying the composition is applying both. -/
theorem repl_cmp (σ τ : List (Int × Ty)) : ∀ T : Ty, repl (cmpS σ τ) T = repl τ (repl σ T) := Ty.induct fun T ih => by
  obtain ⟨k, n, i, h, ts⟩ := T
  by_cases hk : k = 1
  · subst hk
    rw [repl_one, repl_one, look_cmp]
    cases look σ i with
    | some t => rfl
    | none => exact (repl_one τ n i h ts).symm
  · rw [repl_not _ hk, repl_not _ hk, repl_not _ hk, List.map_map]
    congr 1
    exact List.map_congr_left fun U hU => ih U hU
theorem repl_nil : ∀ T : Ty, repl [] T = T := Ty.induct fun T ih => by
  obtain ⟨k, n, i, h, ts⟩ := T
  by_cases hk : k = 1
  · subst hk; rw [repl_one]; rfl
  · rw [repl_not _ hk]
    congr 1
    have : ts.map (repl []) = ts.map id := List.map_congr_left fun U hU => ih U hU
    rw [this, List.map_id]
/-- Composing is associative, seen at any type. -/
theorem cmp_assoc (a b c : List (Int × Ty)) (T : Ty) : repl (cmpS (cmpS a b) c) T = repl (cmpS a (cmpS b c)) T := by rw [repl_cmp, repl_cmp, repl_cmp, repl_cmp]
theorem cmp_nil_right (a : List (Int × Ty)) (T : Ty) : repl (cmpS a []) T = repl a T := by rw [repl_cmp, repl_nil]
theorem cmp_nil_left (a : List (Int × Ty)) (T : Ty) : repl (cmpS [] a) T = repl a T := by rw [repl_cmp, repl_nil]
/-! Matching. -/
def cv (i : Int) : Ty := .mk 1 ⟨#[]⟩ i 0 []
mutual
/-- The variables of a type are plain ones. -/
def plainV : Ty → Bool
  | .mk k n _ h ts => if k == 1 then n.toList == [] && h == 0 && ts.length == 0 else plainVL ts
def plainVL : List Ty → Bool
  | [] => true
  | t :: l => plainV t && plainVL l
end
mutual
def mtch : Ty → Ty → List (Int × Ty) → Option (List (Int × Ty))
  | .mk k n i h ps, t, s =>
    if k == 1 then
      if asgd s i then (if teq (repl s (.mk k n i h ps)) t then some s else none) else some (s ++ [(i, t)])
    else if k == t.k && n.toList == t.n.toList && i == t.i && h == t.h && ps.length == t.ts.length then mtchL ps t.ts s else none
def mtchL : List Ty → List Ty → List (Int × Ty) → Option (List (Int × Ty))
  | [], _, s => some s
  | _ :: _, [], s => some s
  | p :: ps, t :: ts, s =>
    match mtch p t s with
    | some s1 => mtchL ps ts s1
    | none => none
end
/-- What is assigned is what b makes of it. -/
def AgreeS (s b : List (Int × Ty)) : Prop := ∀ i t, look s i = some t → t = repl b (cv i)
/-- s1 says what s says, and maybe more. -/
def MoreS (s s1 : List (Int × Ty)) : Prop := ∀ i t, look s i = some t → look s1 i = some t
theorem plainVL_mem : ∀ {l : List Ty}, plainVL l = true → ∀ {U : Ty}, U ∈ l → plainV U = true := by
  intro l
  induction l with
  | nil => intro _ U hU; cases hU
  | cons t l ih =>
    intro h U hU
    simp only [plainVL, Bool.and_eq_true] at h
    rcases List.mem_cons.1 hU with rfl | hU
    · exact h.1
    · exact ih h.2 hU
/-- A pattern matches what a substitution makes of it, and what is assigned then makes the same of it. -/
def MatAt (b : List (Int × Ty)) (P : Ty) : Prop := plainV P = true → ∀ s, AgreeS s b → ∃ s1, mtch P (repl b P) s = some s1 ∧ AgreeS s1 b ∧ MoreS s s1 ∧ ∀ s2, MoreS s1 s2 → AgreeS s2 b → repl s2 P = repl b P
theorem matL (b : List (Int × Ty)) : ∀ ps : List Ty, (∀ U ∈ ps, MatAt b U) → plainVL ps = true → ∀ s, AgreeS s b →
    ∃ s1, mtchL ps (ps.map (repl b)) s = some s1 ∧ AgreeS s1 b ∧ MoreS s s1 ∧ ∀ s2, MoreS s1 s2 → AgreeS s2 b → ps.map (repl s2) = ps.map (repl b) := by
  intro ps
  induction ps with
  | nil => intro _ _ s hs; exact ⟨s, by simp [mtchL], hs, fun _ _ h => h, fun _ _ _ => rfl⟩
  | cons p ps ih =>
    intro hm hp s hs
    simp only [plainVL, Bool.and_eq_true] at hp
    obtain ⟨s1, h1, h2, h3, h4⟩ := hm p (by simp) hp.1 s hs
    obtain ⟨s2, k1, k2, k3, k4⟩ := ih (fun U hU => hm U (by simp [hU])) hp.2 s1 h2
    refine ⟨s2, ?_, k2, fun i t h => k3 i t (h3 i t h), fun s3 m3 a3 => ?_⟩
    · rw [List.map_cons, mtchL, h1]
      exact k1
    · rw [List.map_cons, List.map_cons, h4 s3 (fun i t h => m3 i t (k3 i t h)) a3, k4 s3 m3 a3]
theorem mat_all (b : List (Int × Ty)) : ∀ P : Ty, MatAt b P := Ty.induct fun P ih hp s hs => by
  obtain ⟨k, n, i, h, ps⟩ := P
  by_cases hk : k = 1
  · subst hk
    simp only [plainV, beq_self_eq_true, if_true, Bool.and_eq_true, beq_iff_eq] at hp
    obtain ⟨⟨hn, rfl⟩, hps⟩ := hp
    obtain rfl : ps = [] := List.eq_nil_of_length_eq_zero hps
    have hn : n = ⟨#[]⟩ := by
      obtain ⟨d⟩ := n
      have hd : d.toList = [] := by rw [← Lib.toList_data]; exact hn
      have : d = #[] := by simpa using hd
      rw [this]
    subst hn
    change ∃ s1, mtch (cv i) (repl b (cv i)) s = some s1 ∧ _
    cases ha : asgd s i with
    | true =>
      obtain ⟨t, ht⟩ := look_some ha
      have e := hs i t ht
      have hr : ∀ s2, MoreS s s2 → repl s2 (cv i) = repl b (cv i) := fun s2 m => by
        unfold cv
        rw [repl_one, m i t ht]
        exact e
      refine ⟨s, ?_, hs, fun _ _ h => h, fun s2 m _ => hr s2 m⟩
      unfold cv
      rw [mtch, if_pos (by rfl), if_pos ha]
      rw [if_pos]
      have := hr s (fun _ _ h => h)
      unfold cv at this
      rw [this]
      exact teq_id _
    | false =>
      have hl := look_none ha
      refine ⟨s ++ [(i, repl b (cv i))], ?_, fun j t hj => ?_, fun j t hj => ?_, fun s2 m a => ?_⟩
      · unfold cv
        rw [mtch, if_pos (by rfl), ha]
        rfl
      · rw [look_append] at hj
        cases e : look s j with
        | some u => rw [e] at hj; cases hj; exact hs j _ e
        | none =>
          rw [e] at hj
          by_cases c : i = j
          · subst c
            simp [look] at hj
            exact hj.symm
          · simp [look, c] at hj
      · rw [look_append, hj]
      · have h1 : look (s ++ [(i, repl b (cv i))]) i = some (repl b (cv i)) := by rw [look_append, hl]; simp [look]
        have := m i _ h1
        conv => lhs; unfold cv
        rw [repl_one, this]
        rfl
  · have hk' : (k == 1) = false := by simpa using hk
    rw [plainV, hk'] at hp
    obtain ⟨s1, h1, h2, h3, h4⟩ := matL b ps (fun U hU => ih U hU) hp s hs
    refine ⟨s1, ?_, h2, h3, fun s2 m a => ?_⟩
    · rw [repl_not _ hk, mtch, hk']
      simp only [Ty.k, Ty.n, Ty.i, Ty.h, Ty.ts, beq_self_eq_true, List.length_map, Bool.and_self, if_true]
      exact h1
    · rw [repl_not _ hk, repl_not _ hk, h4 s2 m a]
/-! Factoring. -/
def facT (a c : List (Int × Ty)) : List Int → List (Int × Ty) → Option (List (Int × Ty))
  | [], s => some s
  | i :: l, s =>
    match mtch (repl a (cv i)) (repl c (cv i)) s with
    | some s1 => facT a c l s1
    | none => none
/-- What arises by composing with b can be factored; the factor does there what b does. -/
theorem fac_ok (a b : List (Int × Ty)) : ∀ (ids : List Int), (∀ i ∈ ids, plainV (repl a (cv i)) = true) → ∀ s, AgreeS s b →
    ∃ s1, facT a (cmpS a b) ids s = some s1 ∧ AgreeS s1 b ∧ MoreS s s1 ∧ ∀ s2, MoreS s1 s2 → AgreeS s2 b → ∀ i ∈ ids, repl (cmpS a s2) (cv i) = repl (cmpS a b) (cv i) := by
  intro ids
  induction ids with
  | nil => intro _ s hs; exact ⟨s, rfl, hs, fun _ _ h => h, fun _ _ _ i hi => by cases hi⟩
  | cons i ids ih =>
    intro hp s hs
    obtain ⟨s1, h1, h2, h3, h4⟩ := mat_all b _ (hp i (by simp)) s hs
    obtain ⟨s2, k1, k2, k3, k4⟩ := ih (fun j hj => hp j (by simp [hj])) s1 h2
    refine ⟨s2, ?_, k2, fun j t h => k3 j t (h3 j t h), fun s3 m3 a3 j hj => ?_⟩
    · rw [facT, repl_cmp, h1]
      exact k1
    · rcases List.mem_cons.1 hj with rfl | hj
      · rw [repl_cmp, repl_cmp]
        exact h4 s3 (fun j t h => m3 j t (k3 j t h)) a3
      · exact k4 s3 m3 a3 j hj
theorem agree_nil (b : List (Int × Ty)) : AgreeS [] b := fun i t h => by cases h
/-- .. from the empty list on: the factor makes of the first what the composition is. -/
theorem fac_nil (a b : List (Int × Ty)) (ids : List Int) (hp : ∀ i ∈ ids, plainV (repl a (cv i)) = true) :
    ∃ x, facT a (cmpS a b) ids [] = some x ∧ ∀ i ∈ ids, repl (cmpS a x) (cv i) = repl (cmpS a b) (cv i) := by
  obtain ⟨x, h1, h2, -, h4⟩ := fac_ok a b ids hp [] (agree_nil b)
  exact ⟨x, h1, fun i hi => h4 x (fun _ _ h => h) h2 i hi⟩
end Go.Proofs.Ytahiefgfhpkoeaa

namespace Go.Proofs.Ytahiefgfhpkoeaa
open Go.RowKit Go.Sort Go.Shelf Go.Maps Mth

theorem asgd_step {σ : List (Int × Ty)} {j : Nat} {p : Int × Ty} (h : σ[j]? = some p) (i : Int) : asgd (σ.drop j) i = (p.1 == i || asgd (σ.drop (j + 1)) i) := by
  obtain ⟨hl, e⟩ := List.getElem?_eq_some_iff.1 h
  rw [List.drop_eq_getElem_cons hl, e]
  rfl
def zT : Ty := .mk 0 ⟨#[]⟩ 0 0 []
/-- What the contract of an application says. -/
def AplAt (P : Program) (f : Nat) : Prop := ∀ (σ : List (Int × Ty)) (T : Ty) (v sv : Value) (S S0 : Nat → Prop) (w : World), nodes T ≤ 1000000 → AsL w S0 σ sv → (∀ b, S0 b → S b ∧ b < w.heap.size) → (∀ b, w.heap.size ≤ b → S b) → Rep w S T v →
  Calls P f #[sv, v] w fun e w' => ∃ u, e = .returned u ∧ Rep w' S (repl σ T) u ∧ Below w.heap.size w w'
set_option maxHeartbeats 3200000 in
theorem apply_any : AplAt Try.prog 54 := by
  intro σ T v sv S S0 w hN hA h0 hf h
  obtain ⟨k, n, i, hm, s, eT, rfl, hn, hs⟩ := h.open
  obtain ⟨sa, sc, rfl, -⟩ := hs
  obtain ⟨a, cap, rfl, hcap⟩ := hA.slice
  have hb2 : ∀ X Y, Below w.heap.size w ((w.alloc (.cells X 25)).alloc (.cells Y 25)) := fun X Y => ((Below.refl _ w).alloc (Nat.le_refl _) _).alloc (by simp) _
  have HR : Hid (∀ X Y, Calls Try.prog 70 #[.agg #[.int .i64 k, .string n, .int .i64 i, .int .i64 hm, .slice sa T.ts.length sc], .slice a σ.length cap] ((w.alloc (.cells X 25)).alloc (.cells Y 25)) fun e w' => ∃ u, e = .returned u ∧ Rep w' (fun b => S b ∧ b ≠ w.heap.size + 1) (repl σ T) u ∧ Below ((w.alloc (.cells X 25)).alloc (.cells Y 25)).heap.size ((w.alloc (.cells X 25)).alloc (.cells Y 25)) w') := fun X Y =>
    repl_any σ T _ _ (fun b => S b ∧ b ≠ w.heap.size + 1) S0 _ hN (hA.lift (hb2 X Y)) (fun b hb => ⟨⟨(h0 b hb).1, by have := (h0 b hb).2; omega⟩, Nat.lt_of_lt_of_le (h0 b hb).2 (hb2 X Y).size⟩) (fun b hb => by simp at hb; exact ⟨hf b (by omega), by omega⟩) ((h.bound.lift (hb2 X Y)).imp fun b hb => ⟨hb.1, by omega⟩)
  clear h hA eT hn
  generalize T.ts.length = sn at *
  generalize σ.length = sl at *
  go_enter Try.func54, Try.ntmps54
  go_wp2_with fail
  go_at_call 70
  refine (HR.out _ _).mono ?_
  rintro e w1 ⟨u, rfl, hrep, hb1⟩
  have hbw := (hb2 _ _).trans (hb1.mono (hb2 _ _).size)
  have HB : Hid (Zero w1 (w.heap.size + 1)) := Box.lift (by unfold Box; rw [heap_at, if_pos (by simp)]) hb1
  clear hb1
  have HRep := Lib.hid hrep
  obtain ⟨uk, un, ui, uh, ua, um, uc, rfl⟩ := hrep.form
  clear hrep HR
  go_wp2_with (refine wpList_store5 rfl _ _ rfl _ _ _ _ _ _ HB.out rfl _ _ _ _ _ _ _ rfl ?_; intro w2 hB2 hg2 hs2)
  obtain ⟨c0, c1, c2, c3, c4⟩ := hB2.cells
  refine bodyPost_ret (by simp [results, Try.results54, go_sem, c0, c1, c2, c3, c4]; try rfl) rfl ?_
  exact ⟨_, rfl, HRep.out.kept (fun b hb => hb.1) (fun b hb hlt => hg2.block b hlt (by intro e; cases e; exact hb.2 rfl)), Below.grown hbw hg2 hbw.size (fun j hj => by cases hj; omega)⟩
end Go.Proofs.Ytahiefgfhpkoeaa

namespace Go.Proofs.Ytahiefgfhpkoeaa
open Go.RowKit Go.Sort Go.Shelf Go.Maps Mth

theorem asE_rep {w : World} {S : Nat → Prop} {i k : Int} {n : ByteArray} {i' h : Int} {s : Value} {T : Ty} (hx : Rep w S T (.agg #[.int .i64 k, .string n, .int .i64 i', .int .i64 h, s])) : AsE.rep w S (i, T) [.int .i64 i, .int .i64 k, .string n, .int .i64 i', .int .i64 h, s] := ⟨_, rfl, hx⟩
/-- One assignment that was just laid is appended; a step of a drawn region. -/
theorem step_pushAs {v : World} {ops : Array Oper} {o : Oper} {a : Act} {K : Act → World → Prop} {Q : Exit → Act → World → Prop} {E' : Prop} {base : Nat} {S : Nat → Prop} {sv : Value} {xs : List (Int × Ty)} {Z : TypeId} {i k : Int} {n : ByteArray} {i' h : Int} {s : Value} {T : Ty} (hrow : RowG AsE v base S sv xs) (hx : Rep v (fun c => S c ∧ some c ≠ sv.ownBlock) T (.agg #[.int .i64 k, .string n, .int .i64 i', .int .i64 h, s]))
    (hgd : o.guard = none) (x y : Operand) (ho : o.op = .call { callee := .builtin .append, args := #[x, y], argTypes := #[46, 46] }) (hs : a.eval x = sv) (hy : a.eval y = .slice (some ⟨v.heap.size, 0, none⟩) 1 1)
    (N : Nat) (hN : N = xs.length + 1) (hb : N ≤ 1000000) (hbase : base ≤ v.heap.size)
    (hK : ∀ (a' : Option Addr) (c' : Nat) (w' : World), RowG AsE w' base S (.slice a' N c') (xs ++ [(i, T)]) → v.grownBy w' sv.ownBlock → ((Value.slice a' N c').ownBlock = sv.ownBlock ∨ ∃ g, (Value.slice a' N c').ownBlock = some g ∧ v.heap.size ≤ g) → K (a.put o.dst (.slice a' N c')) w') :
    if Region.wanted o (yielded ops a.tmps) = true then Oper.wp Try.prog o a (v.alloc (.cells #[.int .i64 i, .int .i64 k, .string n, .int .i64 i', .int .i64 h, s] Z)) K Q else E' := by
  have hba : Below v.heap.size v (v.alloc (.cells #[.int .i64 i, .int .i64 k, .string n, .int .i64 i', .int .i64 h, s] Z)) := (Below.refl _ v).alloc (Nat.le_refl _) _
  refine step_pushH AsE hgd x y ho base S sv xs hs (hrow.lift hba) v.heap.size Z [.int .i64 i, .int .i64 k, .string n, .int .i64 i', .int .i64 h, s] (heap_alloc_new v _) hy (i, T) (asE_rep (hx.lift hba)) N hN hb (Nat.le_trans hbase hba.size) ?_
  intro a' c' w' h1 h2 h3
  refine hK a' c' w' h1 (grown_trans (World.grownBy_alloc v _ _) h2) ?_
  rcases h3 with h3 | h3
  · exact .inl h3
  · exact .inr ⟨_, h3, hba.size⟩
theorem wpList_pushAs {v : World} {ops : Array Oper} {rest : List Oper} {o : Oper} {a : Act} {Q : Exit → Act → World → Prop} {base : Nat} {S : Nat → Prop} {sv : Value} {xs : List (Int × Ty)} {Z : TypeId} {i k : Int} {n : ByteArray} {i' h : Int} {s : Value} {T : Ty} (hrow : RowG AsE v base S sv xs) (hx : Rep v (fun c => S c ∧ some c ≠ sv.ownBlock) T (.agg #[.int .i64 k, .string n, .int .i64 i', .int .i64 h, s]))
    (hgd : o.guard = none) (x y : Operand) (ho : o.op = .call { callee := .builtin .append, args := #[x, y], argTypes := #[46, 46] }) (hs : a.eval x = sv) (nn : Nat) (hnn : nn = v.heap.size) (hy : a.eval y = .slice (some ⟨nn, 0, none⟩) 1 1)
    (N : Nat) (hN : N = xs.length + 1) (hb : N ≤ 1000000) (hbase : base ≤ v.heap.size)
    (hK : ∀ (a' : Option Addr) (c' : Nat) (w' : World), RowG AsE w' base S (.slice a' N c') (xs ++ [(i, T)]) → v.grownBy w' sv.ownBlock → wpList Try.prog ops Q rest (a.put o.dst (.slice a' N c')) w') :
    wpList Try.prog ops Q (o :: rest) a (v.alloc (.cells #[.int .i64 i, .int .i64 k, .string n, .int .i64 i', .int .i64 h, s] Z)) := by
  subst hnn
  have hba : Below v.heap.size v (v.alloc (.cells #[.int .i64 i, .int .i64 k, .string n, .int .i64 i', .int .i64 h, s] Z)) := (Below.refl _ v).alloc (Nat.le_refl _) _
  refine wpList_pushG AsE hgd x y ho base S sv xs hs (hrow.lift hba) v.heap.size Z [.int .i64 i, .int .i64 k, .string n, .int .i64 i', .int .i64 h, s] (heap_alloc_new v _) hy (i, T) (asE_rep (hx.lift hba)) N hN hb (Nat.le_trans hbase hba.size) ?_
  intro a' c' w' h1 h2
  exact hK a' c' w' h1 (grown_trans (World.grownBy_alloc v _ _) h2)
theorem enterApply (v u : Value) (w : World) : (callFunc 54 #[v, u]).run Try.prog w = .ok (.enter 54 #[v, u]) w := by kernel_rfl
theorem AsL.imp {w : World} {S S' : Nat → Prop} (hS : ∀ b, S b → S' b) {σ : List (Int × Ty)} {v : Value} (h : AsL w S σ v) : AsL w S' σ v := h.kept hS fun _ _ _ => rfl
theorem AsL.bound {w : World} {S : Nat → Prop} {σ : List (Int × Ty)} {v : Value} (h : AsL w S σ v) : AsL w (fun b => S b ∧ b < w.heap.size) σ v := by
  obtain ⟨a, cap, hv, hcap, hj⟩ := h
  refine ⟨a, cap, hv, hcap, fun j p hp => ?_⟩
  obtain ⟨ad, k, n, i, h, s, h1, h2, h3, h4⟩ := hj j p hp
  exact ⟨ad, k, n, i, h, s, h1, ⟨h2, h3.lt⟩, h3, h4.bound⟩
/-- What a loop that composes holds. -/
structure CmSt (w : World) (sv : Value) (xs : List (Int × Ty)) (v : World) : Prop where
  row : RowG AsE v w.heap.size (fun _ => True) sv xs
  low : Below w.heap.size w v
theorem CmSt.lift {w v v' : World} {sv : Value} {xs : List (Int × Ty)} (h : CmSt w sv xs v) (hb : Below v.heap.size v v') : CmSt w sv xs v' := ⟨h.row.lift hb, h.low.trans (hb.mono h.low.size)⟩
theorem CmSt.push {w v v' : World} {sv sv' : Value} {xs xs' : List (Int × Ty)} (h : CmSt w sv xs v) (hr : RowG AsE v' w.heap.size (fun _ => True) sv' xs') (hg : v.grownBy v' sv.ownBlock) : CmSt w sv' xs' v' :=
  ⟨hr, Below.grown h.low hg h.low.size (fun k hk => (h.row.lt k hk).1)⟩
theorem CmSt.below {w v : World} {sv : Value} {xs : List (Int × Ty)} (h : CmSt w sv xs v) : ∀ c, c < w.heap.size → some c ≠ sv.ownBlock := fun c hc e => by have := (h.row.lt c e.symm).1; omega
theorem CmSt.above {w v : World} {sv : Value} {xs : List (Int × Ty)} (h : CmSt w sv xs v) : ∀ c, v.heap.size ≤ c → some c ≠ sv.ownBlock := fun c hc e => by have := (h.row.lt c e.symm).2; omega
theorem CmSt.asL {w v : World} {sv : Value} {xs : List (Int × Ty)} (h : CmSt w sv xs v) : AsL v (fun _ => True) xs sv := slG_asL (h.row.slG (fun _ h => h) (fun _ _ => trivial))
/-- What an application gives to the loop. -/
theorem CmSt.apply {P : Program} {f : Nat} (hA : AplAt P f) {w v : World} {acc : Value} {xs : List (Int × Ty)} (h : CmSt w acc xs v) (τ : List (Int × Ty)) (tv : Value) (T : Ty) (u : Value) (hT : nodes T ≤ 1000000) (ht : AsL w (fun _ => True) τ tv) (hu : Rep w (fun _ => True) T u) :
    Calls P f #[tv, u] v fun e v' => ∃ r, e = .returned r ∧ (CmSt w acc xs v' ∧ Rep v' (fun c => True ∧ some c ≠ acc.ownBlock) (repl τ T) r) := by
  refine (hA τ T u tv (fun c => some c ≠ acc.ownBlock) (fun b => True ∧ b < w.heap.size) v hT (ht.bound.lift h.low) (fun b hb => ⟨h.below b hb.2, Nat.lt_of_lt_of_le hb.2 h.low.size⟩) (fun b hb => h.above b hb) ((hu.bound.lift h.low).imp fun b hb => h.below b hb.2)).mono ?_
  rintro e w' ⟨r, rfl, h1, h2⟩
  exact ⟨r, rfl, h.lift h2, h1.imp fun b hb => ⟨trivial, hb⟩⟩
def CmpsAt (P : Program) (f : Nat) : Prop := ∀ (σ τ : List (Int × Ty)) (sv tv : Value) (w : World), σ.length ≤ 1000 → τ.length ≤ 1000 → (∀ p ∈ σ, nodes p.2 ≤ 1000000) → AsL w (fun _ => True) σ sv → AsL w (fun _ => True) τ tv →
  Calls P f #[sv, tv] w fun e w' => ∃ u, e = .returned u ∧ AsL w' (fun _ => True) (cmpS σ τ) u ∧ Below w.heap.size w w'
end Go.Proofs.Ytahiefgfhpkoeaa
