/- Assignments as elements of rows. Substitutions of types: what composing and matching give. Plain facts. Substitutions: has, find, Apply, Var. An assignment appended to a row of assignments. The reference's Compose. The package's Compose. The package's and the reference's Equal of substitutions; fixes. The reference's Equal of substitutions; the package's fixes. -/
import Derived.Test.YtmjdddmfhakabaaTyRepl
import Derived.Test.YtmjdddmfhakabaaTyEls
import Derived.OwnWalk
import Derived.Deep.CutBlock
import Derived.Deep.LoopGhost
import Derived.Deep.RegionHeld3
import Derived.Test.YtmjdddmfhakabaaTyOrd
import Derived.Test.YtmjdddmfhakabaaTyRefRepl
import Derived.Test.YtmjdddmfhakabaaTyEq3
import Derived.Test.YtmjdddmfhakabaaTyEq2
namespace Go.Proofs.Ytmjdddmfhakabaa
open Go.RowKit Go.Sort Go.Shelf Go.Maps Mth

theorem elInfo_as : (Try.prog.info? 43).map (fun i => (i.zero, i.size, i.bytes)) = some (some (.agg #[.int .i64 0, .int .i64 0, .string ByteArray.empty, .int .i64 0, .int .i64 0, .slice none 0 0]), 6, 72) := by kernel_rfl
/-- Assignments as elements. -/
def AsE : El (Int × Ty) where
  k := 6
  by_ := 72
  e := 43
  t := 25
  rep w S p c := ∃ c', c = .int .i64 p.1 :: c' ∧ Rep w S p.2 (.agg c'.toArray)
  hk := by decide
  und := Try.underlying25
  info := by obtain ⟨i, h0, h1, h2, h3⟩ := info_parts elInfo_as; exact ⟨i, _, h0, h1, h2, h3, rfl⟩
  hby := by decide
  len h := by
    obtain ⟨c', rfl, h⟩ := h
    obtain ⟨h1, h2⟩ := h.cells
    refine ⟨by simp [h1], fun u hu => ?_⟩
    rcases List.mem_cons.1 hu with rfl | hu
    · rfl
    · exact h2 u hu
  kept h1 h2 h := by
    obtain ⟨c', e, h⟩ := h
    exact ⟨c', e, h.kept h1 h2⟩
  bound h := by
    obtain ⟨c', e, h⟩ := h
    exact ⟨c', e, h.bound⟩
theorem slG_asL {w : World} {S : Nat → Prop} {xs : List (Int × Ty)} {v : Value} (h : SlG AsE w S xs v) : AsL w S xs v := by
  obtain ⟨a, cap, hv, hc, hj⟩ := h
  refine ⟨a, cap, hv, hc, fun j p hp => ?_⟩
  obtain ⟨ad, c, h1, h2, h3, c', rfl, h4⟩ := hj j p hp
  obtain ⟨k, n, i, hm, s, -, e, -, -⟩ := h4.open
  have e' : c' = [.int .i64 k, .string n, .int .i64 i, .int .i64 hm, s] := by simpa using e
  subst e'
  refine ⟨ad, k, n, i, hm, s, h1, h2, ⟨h3 0 _ rfl, ?_, ?_, ?_, ?_, ?_⟩, h4⟩
  · rw [add_add' _ _ _ (by omega)]; exact h3 1 _ rfl
  · rw [add_add' _ _ _ (by omega)]; exact h3 2 _ rfl
  · rw [add_add' _ _ _ (by omega)]; exact h3 3 _ rfl
  · rw [add_add' _ _ _ (by omega)]; exact h3 4 _ rfl
  · rw [add_add' _ _ _ (by omega)]; exact h3 5 _ rfl
theorem RowG.weaken {α : Type} {E : El α} {w : World} {base : Nat} {S S' : Nat → Prop} {v : Value} {xs : List α} (h : RowG E w base S v xs) (hS : ∀ b, S b → b < w.heap.size → some b ≠ v.ownBlock → S' b) : RowG E w base S' v xs := by
  obtain ⟨L, hown, hl, hr⟩ := h
  refine ⟨L, hown, hl, fun j x hj => ?_⟩
  obtain ⟨c, hc, hrep⟩ := hr j x hj
  exact ⟨c, hc, E.kept (fun b hb => ⟨hS b hb.1.1 hb.2 hb.1.2, hb.1.2⟩) (fun _ _ _ => rfl) (E.bound hrep)⟩
/-- One append at a step of a region that draws its order; where the new row lies. -/
theorem step_pushH {α : Type} {w : World} {ops : Array Oper} {o : Oper} {a : Act} {K : Act → World → Prop} {Q : Exit → Act → World → Prop} {E' : Prop} (E : El α) (hgd : o.guard = none) (s x : Operand)
    (ho : o.op = .call { callee := .builtin .append, args := #[s, x], argTypes := #[E.t, E.t] })
    (base : Nat) (S : Nat → Prop) (v : Value) (xs : List α) (hs : a.eval s = v) (hrow : RowG E w base S v xs)
    (B : Nat) (Z : TypeId) (c : List Value) (hB : w.heap[B]? = some (.cells c.toArray Z (0, 0))) (hx : a.eval x = .slice (some ⟨B, 0, none⟩) 1 1) (y : α) (hy : E.rep w (fun b => S b ∧ some b ≠ v.ownBlock) y c)
    (N : Nat) (hN : N = xs.length + 1) (hb : N ≤ 1000000) (hbase : base ≤ w.heap.size)
    (hK : ∀ (a' : Option Addr) (c' : Nat) (w' : World), RowG E w' base S (.slice a' N c') (xs ++ [y]) → w.grownBy w' v.ownBlock → ((Value.slice a' N c').ownBlock = v.ownBlock ∨ (Value.slice a' N c').ownBlock = some w.heap.size) → K (a.put o.dst (.slice a' N c')) w') :
    if Region.wanted o (yielded ops a.tmps) = true then Oper.wp Try.prog o a w K Q else E' := by
  obtain ⟨i, z, hi, hz, hk, hby, hzs⟩ := E.info
  obtain ⟨L, hown, hl, hr⟩ := hrow
  have hc := E.len hy
  have hE := E.hby
  refine step_append_lies w hgd s x E.t ho base E.e i z E.k E.by_ E.und hi hz hk hby hzs E.hk v xs.length L.flatten hs hown ⟨B, 0, none⟩ 1 1 c hx (by omega) (World.news_of_block hB) hc.2 (by omega) (by unfold maxLen; omega) ?_ hbase w.heap.size rfl ?_
  · have := Nat.mul_le_mul (show xs.length + 1 ≤ 1000000 by omega) hE
    omega
  intro g cap w' hown' hg hloc _
  have hlc : (Value.slice (some ⟨g, 0, none⟩) (xs.length + 1) cap).ownBlock = v.ownBlock ∨ (Value.slice (some ⟨g, 0, none⟩) (xs.length + 1) cap).ownBlock = some w.heap.size := by
    rcases hloc with e | e
    · exact .inl (by rw [e]; rfl)
    · subst e; exact .inr rfl
  have hrow' : RowG E w' base S (.slice (some ⟨g, 0, none⟩) (xs.length + 1) cap) (xs ++ [y]) := push_after hl hr hy hown' hg hlc
  subst hN
  exact hK _ _ _ hrow' hg hlc

theorem new1 (w : World) (A : Obj) : (w.alloc A).heap[w.heap.size]? = some A := heap_alloc_new w A
theorem new2 (w : World) (A B : Obj) : ((w.alloc A).alloc B).heap[w.heap.size + 1]? = some B := by rw [heap_at, if_pos (by simp)]
theorem new3 (w : World) (A B : Obj) : ((w.alloc A).alloc B).heap[w.heap.size]? = some A := by rw [heap_at, if_neg (by simp), heap_at, if_pos rfl]
/-- append(nil, xs...): a copy. -/
theorem wpList_cloneG {α : Type} {w : World} {ops : Array Oper} {rest : List Oper} {o : Oper} {a : Act} {Q : Exit → Act → World → Prop} (E : El α) (hgd : o.guard = none) (s x : Operand)
    (ho : o.op = .call { callee := .builtin .append, args := #[s, x], argTypes := #[E.t, E.t] }) (hs : a.eval s = .slice none 0 0) (ys : List α) (xv : Value) (S : Nat → Prop) (hy : SlG E w S ys xv) (hx : a.eval x = xv) (hb : ys.length ≤ 1000000)
    (hK : ∀ (a' : Option Addr) (c' : Nat) (w' : World), RowG E w' w.heap.size (fun b => S b ∧ b < w.heap.size) (.slice a' ys.length c') ys → Below w.heap.size w w' → wpList Try.prog ops Q rest (a.put o.dst (.slice a' ys.length c')) w') :
    wpList Try.prog ops Q (o :: rest) a w := by
  obtain ⟨i, z, hi, hz, hk, hby, hzs⟩ := E.info
  obtain ⟨xa, xc, rfl, hcap, hj⟩ := hy.bound
  have hE := E.hby
  cases xa with
  | none =>
    have h0 : ys = [] := by
      cases ys with
      | nil => rfl
      | cons y ys => obtain ⟨ad, c, h1, -⟩ := hj 0 y rfl; cases h1
    subst h0
    refine wpList_plain hgd fun K hK' => ?_
    have hr : (Builtin.append_ #[E.t, E.t] o.type #[.slice none 0 0, .slice none 0 xc]).run Try.prog w = .ok (.slice none 0 0) w := by
      simp [Builtin.append_, run_underlying E.und, sizeOf, typeInfo, hi, Builtin.lenOf, Builtin.firstCells]
    unfold Oper.wp execOp
    simp only [ho, resolve, invoke, builtin, Sem.run_bind, Sem.run_pure, Result.andThen_ok, List.map_toArray, List.map_cons, List.map_nil, hs, hx, List.length_nil, hr]
    exact hK' _ _ (hK none 0 w (rowG_nil E w _ _) (Below.refl _ w))
  | some ad =>
    have hex : ∀ j : Nat, ∃ c : List Value, ∀ y, ys[j]? = some y → (∀ (m : Nat) (u : Value), c[m]? = some u → w.cell? (ad.add (j * E.k + m)) = some u) ∧ E.rep w (fun b => S b ∧ b < w.heap.size) y c := by
      intro j
      cases hy : ys[j]? with
      | none => exact ⟨[], fun y h => by cases h⟩
      | some y0 =>
        obtain ⟨ad', c, h1, -, h3, h4⟩ := hj j y0 hy
        cases h1
        exact ⟨c, fun y h => by cases h; exact ⟨h3, h4⟩⟩
    obtain ⟨g, hg⟩ := Classical.axiomOfChoice hex
    have hlen : ∀ c ∈ (List.range ys.length).map g, c.length = E.k ∧ ∀ u ∈ c, u.oneCell' = true := by
      intro c hc
      obtain ⟨j, hj', rfl⟩ := List.mem_map.1 hc
      rw [List.mem_range] at hj'
      exact E.len (hg j _ (List.getElem?_eq_getElem hj')).2
    have hfl : ((List.range ys.length).map g).flatten.length = ys.length * E.k := by
      rw [List.length_flatten]
      have : ((List.range ys.length).map g).map List.length = List.replicate ys.length E.k := by
        apply List.ext_getElem
        · simp
        · intro i h1 h2
          simp only [List.getElem_map, List.getElem_replicate]
          exact (hlen _ (List.mem_map.2 ⟨_, List.getElem_mem _, rfl⟩)).1
      rw [this]; simp
    refine wpList_append_own_at w hgd s x E.t ho w.heap.size E.e i z E.k E.by_ E.und hi hz hk hby hzs E.hk (.slice none 0 0) 0 [] hs (World.ownsRow_nil _ _ _ _) ad ys.length xc ((List.range ys.length).map g).flatten hx hfl ?_ ?_ (by unfold maxLen; omega) ?_ (Nat.le_refl _) ?_
    · intro n u hu
      have hn : n < ys.length * E.k := by rw [← hfl]; exact (List.getElem?_eq_some_iff.1 hu).1
      have hkp := E.hk
      obtain ⟨q, r, hq, hr, rfl⟩ : ∃ q r, q < ys.length ∧ r < E.k ∧ n = q * E.k + r := ⟨n / E.k, n % E.k, (Nat.div_lt_iff_lt_mul hkp).2 hn, Nat.mod_lt _ hkp, by rw [Nat.mul_comm]; exact (Nat.div_add_mod n E.k).symm⟩
      obtain ⟨h1, h2⟩ := hg q _ (List.getElem?_eq_getElem hq)
      have hl := (E.len h2).1
      have hgu := flat_get E.k _ (fun c h => (hlen c h).1) q r (g q) ((g q)[r]'(by omega)) (by simp [List.getElem?_map, List.getElem?_range hq]) (List.getElem?_eq_getElem _)
      rw [hu] at hgu
      cases hgu
      exact h1 r _ (List.getElem?_eq_getElem _)
    · intro u hu
      obtain ⟨c, hc, hu'⟩ := List.mem_flatten.1 hu
      exact (hlen c hc).2 u hu'
    · have := Nat.mul_le_mul (show 0 + ys.length ≤ 1000000 by omega) hE
      omega
    · intro v' w' hown hgr hnil hloc
      simp only [Nat.zero_add, List.nil_append] at hown
      have hgr' : w.grownBy w' none := hgr
      have hbl : Below w.heap.size w w' := ⟨hgr'.os, hgr'.tape, hgr'.output, hgr'.size, fun i hi => hgr'.block i hi (by simp)⟩
      have hrow : RowG E w' w.heap.size (fun b => S b ∧ b < w.heap.size) v' ys := by
        refine ⟨(List.range ys.length).map g, hown, by simp, fun j y hy => ?_⟩
        have hjl := (List.getElem?_eq_some_iff.1 hy).1
        refine ⟨g j, by simp [List.getElem?_map, List.getElem?_range hjl], E.kept (fun b hb => ⟨hb, ?_⟩) (fun b hb hlt => hbl.block b hlt) (hg j y hy).2⟩
        rcases hloc with e | e
        · rw [e]; simp [Value.ownBlock]
        · rw [e]; intro e'; have := Option.some.inj e'; have := hb.2; omega
      obtain ⟨a', c', rfl, -⟩ := hrow.slice
      exact hK _ _ _ hrow hbl
set_option maxHeartbeats 1600000 in
/-- Any law of a list with one operation is a law of a step. -/
theorem step_of_list {P : Program} {ops : Array Oper} {o : Oper} {a : Act} {w : World} {K : Act → World → Prop} {Q : Exit → Act → World → Prop} {E' : Prop} (hgd : o.guard = none)
    (h : ∀ Q' : Exit → Act → World → Prop, (∀ a w, K a w → Q' .normal a w) → wpList P #[] Q' [o] a w) :
    if Region.wanted o (yielded ops a.tmps) = true then Oper.wp P o a w K Q else E' := by
  rw [if_pos (by simp [Region.wanted, hgd])]
  have hh := h (fun e a w => match e with | .normal => K a w | _ => False) (fun _ _ h => h)
  unfold wpList at hh
  rw [if_pos (by simp [Region.wanted, hgd])] at hh
  rcases hh with hh | ⟨_, _, _, hf⟩
  · unfold Oper.wp at *
    generalize (execOp a.eval o).run P w = r at *
    cases r with
    | ok n w' =>
      cases n <;> simp only [Oper.upon] at hh ⊢ <;>
        first
          | exact hh
          | exact Calls.mono hh (fun e w'' he => by
              cases e
              · exact he
              · exact he.elim
              · obtain ⟨_, _, hf⟩ := he; exact hf.elim)
          | exact Rows.mono hh (fun _ _ he => he)
    | halt x w' => cases x <;> simp only [Oper.upon] at hh ⊢ <;> first | exact hh.elim | exact hh
  · exact hf.elim
/-- 'make([]T, 0, n)': an empty row with room. -/
theorem wpList_makeG {w : World} {ops : Array Oper} {rest : List Oper} {o : Oper} {a : Act} {Q : Exit → Act → World → Prop} {α : Type} (E : El α) (hgd : o.guard = none) (l c : Operand) (ho : o.op = Op.makeSlice E.t l c) (n : Nat) (hl : a.eval l = .int .i64 0) (C : Int) (hc : a.eval c = .int .i64 C) (hC : C = (n : Int)) (hn : n ≤ 1000000) (base : Nat) (S : Nat → Prop) (hb : base ≤ w.heap.size)
    (hK : ∀ w', RowG E w' base S (.slice (some ⟨w.heap.size, 0, none⟩) 0 n) [] → Below w.heap.size w w' → wpList Try.prog ops Q rest (a.put o.dst (.slice (some ⟨w.heap.size, 0, none⟩) 0 n)) w') : wpList Try.prog ops Q (o :: rest) a w := by
  obtain ⟨i, z, hi, hz, hk, hby, hzs⟩ := E.info
  have hE := E.hby
  have hbb : i.bytes * n ≤ 1000 * 1000000 := Nat.mul_le_mul (by rw [hby]; exact hE) hn
  refine wpList_make_own w hgd l c E.t ho base E.e i z E.k E.und hi hz hk .i64 .i64 C n hl hc hC (by omega) (by unfold maxLen; omega) hb ?_
  intro w' hown hg
  exact hK w' ⟨[], hown, rfl, fun j x h => by simp at h⟩ ⟨hg.os, hg.tape, hg.output, hg.size, fun i hi => hg.block i hi (by simp)⟩
end Go.Proofs.Ytmjdddmfhakabaa

namespace Go.Proofs.Ytmjdddmfhakabaa
open Go.RowKit Mth

/-- Is a variable assigned? -/
def asgd (σ : List (Int × Ty)) (i : Int) : Bool := σ.any fun p => p.1 == i
theorem asgd_cons (p : Int × Ty) (σ : List (Int × Ty)) (i : Int) : asgd (p :: σ) i = (p.1 == i || asgd σ i) := rfl
theorem look_cons (p : Int × Ty) (σ : List (Int × Ty)) (i : Int) : look (p :: σ) i = if p.1 == i then some p.2 else look σ i := by
  unfold look
  rw [List.find?_cons]
  cases p.1 == i <;> rfl
theorem look_none {σ : List (Int × Ty)} {i : Int} : asgd σ i = false → look σ i = none := by
  induction σ with
  | nil => intro _; rfl
  | cons p σ ih =>
    intro h
    rw [asgd_cons, Bool.or_eq_false_iff] at h
    rw [look_cons, h.1]
    exact ih h.2
theorem look_some {σ : List (Int × Ty)} {i : Int} : asgd σ i = true → ∃ t, look σ i = some t := by
  induction σ with
  | nil => intro h; cases h
  | cons p σ ih =>
    intro h
    rw [look_cons]
    cases e : p.1 == i with
    | true => exact ⟨_, rfl⟩
    | false => rw [asgd_cons, e] at h; exact ih (by simpa using h)
theorem look_append (σ τ : List (Int × Ty)) (i : Int) : look (σ ++ τ) i = match look σ i with | some t => some t | none => look τ i := by
  induction σ with
  | nil => rfl
  | cons p σ ih =>
    rw [List.cons_append, look_cons, look_cons]
    cases p.1 == i with
    | true => rfl
    | false => exact ih
theorem asgd_append (σ τ : List (Int × Ty)) (i : Int) : asgd (σ ++ τ) i = (asgd σ i || asgd τ i) := by unfold asgd; rw [List.any_append]
/-- First the one, then the other. -/
def cmpS (σ τ : List (Int × Ty)) : List (Int × Ty) := σ.map (fun p => (p.1, repl τ p.2)) ++ τ.filter fun p => !asgd σ p.1
theorem look_map (τ σ : List (Int × Ty)) (i : Int) : look (σ.map fun p => (p.1, repl τ p.2)) i = (look σ i).map (repl τ) := by
  induction σ with
  | nil => rfl
  | cons p σ ih =>
    rw [List.map_cons, look_cons, look_cons]
    cases e : p.1 == i with
    | true => simp
    | false => simp only; exact ih
theorem look_filter (σ τ : List (Int × Ty)) (i : Int) (h : asgd σ i = false) : look (τ.filter fun p => !asgd σ p.1) i = look τ i := by
  induction τ with
  | nil => rfl
  | cons p τ ih =>
    rw [List.filter_cons, look_cons]
    by_cases e : p.1 = i
    · subst e
      rw [if_pos (by rw [h]; rfl), look_cons]
      simp
    · have e' : (p.1 == i) = false := by simpa using e
      rw [e']
      split
      · rw [look_cons, e']; exact ih
      · exact ih
theorem look_cmp (σ τ : List (Int × Ty)) (i : Int) : look (cmpS σ τ) i = match look σ i with | some t => some (repl τ t) | none => look τ i := by
  unfold cmpS
  rw [look_append, look_map]
  cases e : look σ i with
  | some t => rfl
  | none =>
    have : asgd σ i = false := by
      cases h : asgd σ i with
      | false => rfl
      | true => obtain ⟨t, ht⟩ := look_some h; rw [e] at ht; cases ht
    exact look_filter σ τ i this
theorem repl_one (σ : List (Int × Ty)) (n : ByteArray) (i h : Int) (ts : List Ty) : repl σ (.mk 1 n i h ts) = (look σ i).getD (.mk 1 n i h ts) := by rw [repl, if_pos rfl]
theorem repl_not (σ : List (Int × Ty)) {k : Int} (hk : k ≠ 1) (n : ByteArray) (i h : Int) (ts : List Ty) : repl σ (.mk k n i h ts) = .mk k n i h (ts.map (repl σ)) := by rw [repl, if_neg hk, replL_map]
/-- Applying the composition is applying both. -/
theorem repl_cmp (σ τ : List (Int × Ty)) : ∀ T : Ty, repl (cmpS σ τ) T = repl τ (repl σ T) := Ty.induct fun T ih => by
  obtain ⟨k, n, i, h, ts⟩ := T
  by_cases hk : k = 1
  · subst hk
    rw [repl_one, repl_one, look_cmp]
    cases look σ i with
    | some t => rfl
    | none => exact (repl_one τ n i h ts).symm
  · rw [repl_not _ hk, repl_not _ hk, repl_not _ hk, List.map_map]
    congr 1
    exact List.map_congr_left fun U hU => ih U hU
theorem repl_nil : ∀ T : Ty, repl [] T = T := Ty.induct fun T ih => by
  obtain ⟨k, n, i, h, ts⟩ := T
  by_cases hk : k = 1
  · subst hk; rw [repl_one]; rfl
  · rw [repl_not _ hk]
    congr 1
    have : ts.map (repl []) = ts.map id := List.map_congr_left fun U hU => ih U hU
    rw [this, List.map_id]
/-- Composing is associative, seen at any type. -/
theorem cmp_assoc (a b c : List (Int × Ty)) (T : Ty) : repl (cmpS (cmpS a b) c) T = repl (cmpS a (cmpS b c)) T := by rw [repl_cmp, repl_cmp, repl_cmp, repl_cmp]
theorem cmp_nil_right (a : List (Int × Ty)) (T : Ty) : repl (cmpS a []) T = repl a T := by rw [repl_cmp, repl_nil]
theorem cmp_nil_left (a : List (Int × Ty)) (T : Ty) : repl (cmpS [] a) T = repl a T := by rw [repl_cmp, repl_nil]
/-! Matching. -/
def cv (i : Int) : Ty := .mk 1 ⟨#[]⟩ i 0 []
mutual
/-- The variables of a type are plain ones. -/
def plainV : Ty → Bool
  | .mk k n _ h ts => if k == 1 then n.toList == [] && h == 0 && ts.length == 0 else plainVL ts
def plainVL : List Ty → Bool
  | [] => true
  | t :: l => plainV t && plainVL l
end
mutual
def mtch : Ty → Ty → List (Int × Ty) → Option (List (Int × Ty))
  | .mk k n i h ps, t, s =>
    if k == 1 then
      if asgd s i then (if teq (repl s (.mk k n i h ps)) t then some s else none) else some (s ++ [(i, t)])
    else if k == t.k && n.toList == t.n.toList && i == t.i && h == t.h && ps.length == t.ts.length then mtchL ps t.ts s else none
def mtchL : List Ty → List Ty → List (Int × Ty) → Option (List (Int × Ty))
  | [], _, s => some s
  | _ :: _, [], s => some s
  | p :: ps, t :: ts, s =>
    match mtch p t s with
    | some s1 => mtchL ps ts s1
    | none => none
end
/-- What is assigned is what b makes of it. -/
def AgreeS (s b : List (Int × Ty)) : Prop := ∀ i t, look s i = some t → t = repl b (cv i)
/-- s1 says what s says, and maybe more. -/
def MoreS (s s1 : List (Int × Ty)) : Prop := ∀ i t, look s i = some t → look s1 i = some t
theorem plainVL_mem : ∀ {l : List Ty}, plainVL l = true → ∀ {U : Ty}, U ∈ l → plainV U = true := by
  intro l
  induction l with
  | nil => intro _ U hU; cases hU
  | cons t l ih =>
    intro h U hU
    simp only [plainVL, Bool.and_eq_true] at h
    rcases List.mem_cons.1 hU with rfl | hU
    · exact h.1
    · exact ih h.2 hU
/-- A pattern matches what a substitution makes of it, and what is assigned then makes the same of it. -/
def MatAt (b : List (Int × Ty)) (P : Ty) : Prop := plainV P = true → ∀ s, AgreeS s b → ∃ s1, mtch P (repl b P) s = some s1 ∧ AgreeS s1 b ∧ MoreS s s1 ∧ ∀ s2, MoreS s1 s2 → AgreeS s2 b → repl s2 P = repl b P
theorem matL (b : List (Int × Ty)) : ∀ ps : List Ty, (∀ U ∈ ps, MatAt b U) → plainVL ps = true → ∀ s, AgreeS s b →
    ∃ s1, mtchL ps (ps.map (repl b)) s = some s1 ∧ AgreeS s1 b ∧ MoreS s s1 ∧ ∀ s2, MoreS s1 s2 → AgreeS s2 b → ps.map (repl s2) = ps.map (repl b) := by
  intro ps
  induction ps with
  | nil => intro _ _ s hs; exact ⟨s, by simp [mtchL], hs, fun _ _ h => h, fun _ _ _ => rfl⟩
  | cons p ps ih =>
    intro hm hp s hs
    simp only [plainVL, Bool.and_eq_true] at hp
    obtain ⟨s1, h1, h2, h3, h4⟩ := hm p (by simp) hp.1 s hs
    obtain ⟨s2, k1, k2, k3, k4⟩ := ih (fun U hU => hm U (by simp [hU])) hp.2 s1 h2
    refine ⟨s2, ?_, k2, fun i t h => k3 i t (h3 i t h), fun s3 m3 a3 => ?_⟩
    · rw [List.map_cons, mtchL, h1]
      exact k1
    · rw [List.map_cons, List.map_cons, h4 s3 (fun i t h => m3 i t (k3 i t h)) a3, k4 s3 m3 a3]
theorem mat_all (b : List (Int × Ty)) : ∀ P : Ty, MatAt b P := Ty.induct fun P ih hp s hs => by
  obtain ⟨k, n, i, h, ps⟩ := P
  by_cases hk : k = 1
  · subst hk
    simp only [plainV, beq_self_eq_true, if_true, Bool.and_eq_true, beq_iff_eq] at hp
    obtain ⟨⟨hn, rfl⟩, hps⟩ := hp
    obtain rfl : ps = [] := List.eq_nil_of_length_eq_zero hps
    have hn : n = ⟨#[]⟩ := by
      obtain ⟨d⟩ := n
      have hd : d.toList = [] := by rw [← Lib.toList_data]; exact hn
      have : d = #[] := by simpa using hd
      rw [this]
    subst hn
    change ∃ s1, mtch (cv i) (repl b (cv i)) s = some s1 ∧ _
    cases ha : asgd s i with
    | true =>
      obtain ⟨t, ht⟩ := look_some ha
      have e := hs i t ht
      have hr : ∀ s2, MoreS s s2 → repl s2 (cv i) = repl b (cv i) := fun s2 m => by
        unfold cv
        rw [repl_one, m i t ht]
        exact e
      refine ⟨s, ?_, hs, fun _ _ h => h, fun s2 m _ => hr s2 m⟩
      unfold cv
      rw [mtch, if_pos (by rfl), if_pos ha]
      rw [if_pos]
      have := hr s (fun _ _ h => h)
      unfold cv at this
      rw [this]
      exact teq_id _
    | false =>
      have hl := look_none ha
      refine ⟨s ++ [(i, repl b (cv i))], ?_, fun j t hj => ?_, fun j t hj => ?_, fun s2 m a => ?_⟩
      · unfold cv
        rw [mtch, if_pos (by rfl), ha]
        rfl
      · rw [look_append] at hj
        cases e : look s j with
        | some u => rw [e] at hj; cases hj; exact hs j _ e
        | none =>
          rw [e] at hj
          by_cases c : i = j
          · subst c
            simp [look] at hj
            exact hj.symm
          · simp [look, c] at hj
      · rw [look_append, hj]
      · have h1 : look (s ++ [(i, repl b (cv i))]) i = some (repl b (cv i)) := by rw [look_append, hl]; simp [look]
        have := m i _ h1
        conv => lhs; unfold cv
        rw [repl_one, this]
        rfl
  · have hk' : (k == 1) = false := by simpa using hk
    rw [plainV, hk'] at hp
    obtain ⟨s1, h1, h2, h3, h4⟩ := matL b ps (fun U hU => ih U hU) hp s hs
    refine ⟨s1, ?_, h2, h3, fun s2 m a => ?_⟩
    · rw [repl_not _ hk, mtch, hk']
      simp only [Ty.k, Ty.n, Ty.i, Ty.h, Ty.ts, beq_self_eq_true, List.length_map, Bool.and_self, if_true]
      exact h1
    · rw [repl_not _ hk, repl_not _ hk, h4 s2 m a]
/-! Factoring. -/
def facT (a c : List (Int × Ty)) : List Int → List (Int × Ty) → Option (List (Int × Ty))
  | [], s => some s
  | i :: l, s =>
    match mtch (repl a (cv i)) (repl c (cv i)) s with
    | some s1 => facT a c l s1
    | none => none
/-- What arises by composing with b can be factored; the factor does there what b does. -/
theorem fac_ok (a b : List (Int × Ty)) : ∀ (ids : List Int), (∀ i ∈ ids, plainV (repl a (cv i)) = true) → ∀ s, AgreeS s b →
    ∃ s1, facT a (cmpS a b) ids s = some s1 ∧ AgreeS s1 b ∧ MoreS s s1 ∧ ∀ s2, MoreS s1 s2 → AgreeS s2 b → ∀ i ∈ ids, repl (cmpS a s2) (cv i) = repl (cmpS a b) (cv i) := by
  intro ids
  induction ids with
  | nil => intro _ s hs; exact ⟨s, rfl, hs, fun _ _ h => h, fun _ _ _ i hi => by cases hi⟩
  | cons i ids ih =>
    intro hp s hs
    obtain ⟨s1, h1, h2, h3, h4⟩ := mat_all b _ (hp i (by simp)) s hs
    obtain ⟨s2, k1, k2, k3, k4⟩ := ih (fun j hj => hp j (by simp [hj])) s1 h2
    refine ⟨s2, ?_, k2, fun j t h => k3 j t (h3 j t h), fun s3 m3 a3 j hj => ?_⟩
    · rw [facT, repl_cmp, h1]
      exact k1
    · rcases List.mem_cons.1 hj with rfl | hj
      · rw [repl_cmp, repl_cmp]
        exact h4 s3 (fun j t h => m3 j t (k3 j t h)) a3
      · exact k4 s3 m3 a3 j hj
theorem agree_nil (b : List (Int × Ty)) : AgreeS [] b := fun i t h => by cases h
/-- .. from the empty list on: the factor makes of the first what the composition is. -/
theorem fac_nil (a b : List (Int × Ty)) (ids : List Int) (hp : ∀ i ∈ ids, plainV (repl a (cv i)) = true) :
    ∃ x, facT a (cmpS a b) ids [] = some x ∧ ∀ i ∈ ids, repl (cmpS a x) (cv i) = repl (cmpS a b) (cv i) := by
  obtain ⟨x, h1, h2, -, h4⟩ := fac_ok a b ids hp [] (agree_nil b)
  exact ⟨x, h1, fun i hi => h4 x (fun _ _ h => h) h2 i hi⟩
end Go.Proofs.Ytmjdddmfhakabaa

namespace Go.Proofs.Ytmjdddmfhakabaa
open Go.RowKit Go.Sort Go.Shelf Go.Maps Mth

theorem asgd_step {σ : List (Int × Ty)} {j : Nat} {p : Int × Ty} (h : σ[j]? = some p) (i : Int) : asgd (σ.drop j) i = (p.1 == i || asgd (σ.drop (j + 1)) i) := by
  obtain ⟨hl, e⟩ := List.getElem?_eq_some_iff.1 h
  rw [List.drop_eq_getElem_cons hl, e]
  rfl
set_option maxHeartbeats 1600000 in
theorem refHas_any (σ : List (Int × Ty)) (id : Int) (v : Value) (S : Nat → Prop) (w : World) (h : AsL w S σ v) :
    Calls Try.prog 35 #[v, .int .i64 id] w fun e w' => e = .returned (.bool (asgd σ id)) ∧ w' = w := by
  obtain ⟨a, cap, rfl, ⟨hc1, hc2⟩, hj⟩ := h
  have HJ := Lib.hid hj
  clear hj
  unfold maxLen at hc2
  obtain ⟨m, hm⟩ : ∃ m, m = σ.length := ⟨_, rfl⟩
  rw [← hm] at hc1 ⊢
  have HM := Lib.hid hm
  clear hm
  have HE0 : Hid (asgd σ id = asgd (σ.drop 0) id) := by show _ = _; simp
  go_enter Try.func35, Try.ntmps35
  go_wp2
  go_loopw [5] (fun x wr => ∃ j : Nat, j ≤ m ∧ x = .int .i64 j ∧ Hid (asgd σ id = asgd (σ.drop j) id) ∧ wr = w) (fun x _ => m - (intOf x).toNat)
  case atStart => exact ⟨0, Nat.zero_le _, rfl, HE0, rfl⟩
  case round =>
    obtain ⟨j, hj, rfl, HL, rfl⟩ := hrel
    by_cases hlt : j < m
    · obtain ⟨p, hp⟩ : ∃ x, σ[j]? = some x := ⟨_, List.getElem?_eq_getElem (by rw [← HM.out]; exact hlt)⟩
      obtain ⟨ad, k', n', i', h', s', rfl, hS, h6, hx⟩ := HJ.out j p hp
      have HK := Lib.hid (asgd_step hp id)
      obtain ⟨q0, -⟩ := h6
      clear hp hS hx
      have hji : (j : Int) < (m : Int) := by omega
      cases hq : (p.1 == id) with
      | true =>
        go_wp2
        go_ret
        exact ⟨by rw [HL.out, HK.out, hq]; rfl, rfl⟩
      | false =>
        have HL2 : Hid (asgd σ id = asgd (σ.drop (j + 1)) id) := by
          show _ = _
          rw [HL.out, HK.out, hq]; rfl
        go_wp2
        go_roundw
        case rel => exact ⟨j + 1, hlt, by go_num, HL2, by first | rfl | trivial⟩
        case measure => simp [intOf]; omega
    · have HF : Hid (asgd σ id = false) := by
        show _ = _
        rw [HL.out, List.drop_eq_nil_of_le (by rw [← HM.out]; omega)]; rfl
      go_wp2
      go_ret
      exact ⟨by rw [HF.out]; rfl, rfl⟩
def zT : Ty := .mk 0 ⟨#[]⟩ 0 0 []
set_option maxHeartbeats 3200000 in
theorem find_any (σ : List (Int × Ty)) (id : Int) (v : Value) (S : Nat → Prop) (w : World) (h : AsL w S σ v) :
    Calls Try.prog 34 #[v, .int .i64 id] w fun e w' => ∃ u, e = .returned (.tuple #[u, .bool (asgd σ id)]) ∧ Rep w' (fun b => S b ∧ b < w.heap.size) ((look σ id).getD zT) u ∧ Below w.heap.size w w' := by
  obtain ⟨a, cap, rfl, ⟨hc1, hc2⟩, hj⟩ := h
  have HJ := Lib.hid hj
  clear hj
  unfold maxLen at hc2
  obtain ⟨m, hm⟩ : ∃ m, m = σ.length := ⟨_, rfl⟩
  rw [← hm] at hc1 ⊢
  have HM := Lib.hid hm
  clear hm
  have HE0 : Hid (asgd σ id = asgd (σ.drop 0) id ∧ look σ id = look (σ.drop 0) id) := by show _ ∧ _; simp
  have HB0 : Hid (Below w.heap.size w (w.alloc (.cells #[.int .i64 0, .string ⟨#[]⟩, .int .i64 0, .int .i64 0, .slice none 0 0] 28))) := (Below.refl _ w).alloc (Nat.le_refl _) _
  have HZ0 : Hid (Zero (w.alloc (.cells #[.int .i64 0, .string ⟨#[]⟩, .int .i64 0, .int .i64 0, .slice none 0 0] 28)) w.heap.size) := Box.made _ _ _ _ _ _
  have hsz : (w.alloc (.cells #[.int .i64 0, .string ⟨#[]⟩, .int .i64 0, .int .i64 0, .slice none 0 0] 28)).heap.size = w.heap.size + 1 := by simp
  have HS0 := Lib.hid hsz
  clear hsz
  go_enter Try.func34, Try.ntmps34
  go_wp2
  generalize (w.alloc (.cells #[.int .i64 0, .string ⟨#[]⟩, .int .i64 0, .int .i64 0, .slice none 0 0] 28)) = W at *
  go_loopw [10] (fun x wr => ∃ j : Nat, j ≤ m ∧ x = .int .i64 j ∧ Hid (asgd σ id = asgd (σ.drop j) id ∧ look σ id = look (σ.drop j) id) ∧ Below W.heap.size W wr) (fun x _ => m - (intOf x).toNat)
  case atStart => exact ⟨0, Nat.zero_le _, rfl, HE0, Below.refl _ _⟩
  case round =>
    obtain ⟨j, hj, rfl, HL, hb⟩ := hrel
    have hbw := HB0.out.trans (hb.mono HB0.out.size)
    have HBZ2 := Lib.hid (Box.lift HZ0.out hb)
    have hsz : w.heap.size + 1 ≤ wr.heap.size := by have := hb.size; rw [HS0.out] at this; exact this
    by_cases hlt : j < m
    · obtain ⟨p, hp⟩ : ∃ x, σ[j]? = some x := ⟨_, List.getElem?_eq_getElem (by rw [← HM.out]; exact hlt)⟩
      obtain ⟨ad, k', n', i', h', s', rfl, hS, h6, hx⟩ := HJ.out j p hp
      have HK := Lib.hid (And.intro (asgd_step hp id) (look_step hp id))
      clear hp
      obtain ⟨q0, q1, q2, q3, q4, q5⟩ := h6.kept (hbw.block _ h6.lt)
      have HX := Lib.hid (hx.bound.lift hbw)
      obtain ⟨_, _, _, _, _, -, hv, hn2, hs2⟩ := hx.open
      simp at hv
      obtain ⟨rfl, rfl, rfl, rfl, rfl⟩ := hv
      obtain ⟨sa', sc', rfl, -⟩ := hs2
      clear h6 hx hS hn2
      have hji : (j : Int) < (m : Int) := by omega
      generalize p.2.ts.length = sn' at *
      have hbr : ∀ o, Below wr.heap.size wr (wr.alloc o) := fun o => (Below.refl _ wr).alloc (Nat.le_refl _) o
      cases hq : (p.1 == id) with
      | true =>
        have HF : Hid (asgd σ id = true ∧ (look σ id).getD zT = p.2) := by
          show _ ∧ _
          rw [HL.out.1, HK.out.1, HL.out.2, HK.out.2, hq]; exact ⟨rfl, rfl⟩
        have HBZ3 := Lib.hid (fun o => Box.lift HBZ2.out (hbr o))
        go_wp2_with (refine wpList_store5 rfl _ _ rfl _ _ _ _ _ _ (HBZ3.out _) rfl _ _ _ _ _ _ _ rfl ?_; intro w2 hB2 hg2 hs2)
        obtain ⟨c0, c1, c2, c3, c4⟩ := hB2.cells
        refine bodyPost_ret (v := .tuple #[.agg #[.int .i64 k', .string n', .int .i64 i', .int .i64 h', .slice sa' sn' sc'], .bool true]) (by simp [results, Try.results34, go_sem, c0, c1, c2, c3, c4]; try rfl) rfl ?_
        have hbw2 := hbw.alloc hbw.size (.cells #[.int .i64 p.1, .int .i64 k', .string n', .int .i64 i', .int .i64 h', .slice sa' sn' sc'] 43)
        refine ⟨_, by rw [HF.out.1], ?_, Below.grown hbw2 hg2 hbw2.size (fun j hj => by cases hj; omega)⟩
        rw [HF.out.2]
        exact (HX.out.lift (hbr _)).kept (fun _ h => h) (fun b hb hlt => hg2.block b hlt (by intro e; cases e; have := hb.2; omega))
      | false =>
        have HL2 : Hid (asgd σ id = asgd (σ.drop (j + 1)) id ∧ look σ id = look (σ.drop (j + 1)) id) := by
          show _ ∧ _
          rw [HL.out.1, HK.out.1, HL.out.2, HK.out.2, hq]; exact ⟨rfl, rfl⟩
        go_wp2
        go_roundw
        case rel => exact ⟨j + 1, hlt, by go_num, HL2, hb.alloc hb.size _⟩
        case measure => simp [intOf]; omega
    · have HF : Hid (asgd σ id = false ∧ (look σ id).getD zT = zT) := by
        show _ ∧ _
        rw [HL.out.1, HL.out.2, List.drop_eq_nil_of_le (by rw [← HM.out]; omega)]; exact ⟨rfl, rfl⟩
      go_wp2_with (refine wpList_store5 rfl _ _ rfl _ _ _ _ _ _ HBZ2.out rfl _ _ _ _ _ _ _ rfl ?_; intro w2 hB2 hg2 hs2)
      obtain ⟨c0, c1, c2, c3, c4⟩ := hB2.cells
      refine bodyPost_ret (v := .tuple #[.agg #[.int .i64 0, .string ⟨#[]⟩, .int .i64 0, .int .i64 0, .slice none 0 0], .bool false]) (by simp [results, Try.results34, go_sem, c0, c1, c2, c3, c4]; try rfl) rfl ?_
      refine ⟨_, by rw [HF.out.1], ?_, Below.grown hbw hg2 hbw.size (fun j hj => by cases hj; omega)⟩
      rw [HF.out.2]
      exact rep_leaf _ _ _ _ _ _ (Nat.zero_le _)
/-- What the contract of an application says. -/
def AplAt (P : Program) (f : Nat) : Prop := ∀ (σ : List (Int × Ty)) (T : Ty) (v sv : Value) (S S0 : Nat → Prop) (w : World), nodes T ≤ 1000000 → AsL w S0 σ sv → (∀ b, S0 b → S b ∧ b < w.heap.size) → (∀ b, w.heap.size ≤ b → S b) → Rep w S T v →
  Calls P f #[sv, v] w fun e w' => ∃ u, e = .returned u ∧ Rep w' S (repl σ T) u ∧ Below w.heap.size w w'
set_option maxHeartbeats 3200000 in
theorem apply_any : AplAt Try.prog 15 := by
  intro σ T v sv S S0 w hN hA h0 hf h
  obtain ⟨k, n, i, hm, s, eT, rfl, hn, hs⟩ := h.open
  obtain ⟨sa, sc, rfl, -⟩ := hs
  obtain ⟨a, cap, rfl, hcap⟩ := hA.slice
  have hb2 : ∀ X Y, Below w.heap.size w ((w.alloc (.cells X 28)).alloc (.cells Y 28)) := fun X Y => ((Below.refl _ w).alloc (Nat.le_refl _) _).alloc (by simp) _
  have HR : Hid (∀ X Y, Calls Try.prog 37 #[.agg #[.int .i64 k, .string n, .int .i64 i, .int .i64 hm, .slice sa T.ts.length sc], .slice a σ.length cap] ((w.alloc (.cells X 28)).alloc (.cells Y 28)) fun e w' => ∃ u, e = .returned u ∧ Rep w' (fun b => S b ∧ b ≠ w.heap.size + 1) (repl σ T) u ∧ Below ((w.alloc (.cells X 28)).alloc (.cells Y 28)).heap.size ((w.alloc (.cells X 28)).alloc (.cells Y 28)) w') := fun X Y =>
    repl_any σ T _ _ (fun b => S b ∧ b ≠ w.heap.size + 1) S0 _ hN (hA.lift (hb2 X Y)) (fun b hb => ⟨⟨(h0 b hb).1, by have := (h0 b hb).2; omega⟩, Nat.lt_of_lt_of_le (h0 b hb).2 (hb2 X Y).size⟩) (fun b hb => by simp at hb; exact ⟨hf b (by omega), by omega⟩) ((h.bound.lift (hb2 X Y)).imp fun b hb => ⟨hb.1, by omega⟩)
  clear h hA eT hn
  generalize T.ts.length = sn at *
  generalize σ.length = sl at *
  go_enter Try.func15, Try.ntmps15
  go_wp2_with fail
  go_at_call 37
  refine (HR.out _ _).mono ?_
  rintro e w1 ⟨u, rfl, hrep, hb1⟩
  have hbw := (hb2 _ _).trans (hb1.mono (hb2 _ _).size)
  have HB : Hid (Zero w1 (w.heap.size + 1)) := Box.lift (by unfold Box; rw [heap_at, if_pos (by simp)]) hb1
  clear hb1
  have HRep := Lib.hid hrep
  obtain ⟨uk, un, ui, uh, ua, um, uc, rfl⟩ := hrep.form
  clear hrep HR
  go_wp2_with (refine wpList_store5 rfl _ _ rfl _ _ _ _ _ _ HB.out rfl _ _ _ _ _ _ _ rfl ?_; intro w2 hB2 hg2 hs2)
  obtain ⟨c0, c1, c2, c3, c4⟩ := hB2.cells
  refine bodyPost_ret (by simp [results, Try.results15, go_sem, c0, c1, c2, c3, c4]; try rfl) rfl ?_
  exact ⟨_, rfl, HRep.out.kept (fun b hb => hb.1) (fun b hb hlt => hg2.block b hlt (by intro e; cases e; exact hb.2 rfl)), Below.grown hbw hg2 hbw.size (fun j hj => by cases hj; omega)⟩
set_option maxHeartbeats 3200000 in
theorem refApply_any : AplAt Try.prog 16 := by
  intro σ T v sv S S0 w hN hA h0 hf h
  obtain ⟨k, n, i, hm, s, eT, rfl, hn, hs⟩ := h.open
  obtain ⟨sa, sc, rfl, -⟩ := hs
  obtain ⟨a, cap, rfl, hcap⟩ := hA.slice
  have hb2 : ∀ X Y, Below w.heap.size w ((w.alloc (.cells X 28)).alloc (.cells Y 28)) := fun X Y => ((Below.refl _ w).alloc (Nat.le_refl _) _).alloc (by simp) _
  have HR : Hid (∀ X Y, Calls Try.prog 38 #[.agg #[.int .i64 k, .string n, .int .i64 i, .int .i64 hm, .slice sa T.ts.length sc], .slice a σ.length cap] ((w.alloc (.cells X 28)).alloc (.cells Y 28)) fun e w' => ∃ u, e = .returned u ∧ Rep w' (fun b => S b ∧ b ≠ w.heap.size + 1) (repl σ T) u ∧ Below ((w.alloc (.cells X 28)).alloc (.cells Y 28)).heap.size ((w.alloc (.cells X 28)).alloc (.cells Y 28)) w') := fun X Y =>
    refRepl_any σ T _ _ (fun b => S b ∧ b ≠ w.heap.size + 1) S0 _ hN (hA.lift (hb2 X Y)) (fun b hb => ⟨⟨(h0 b hb).1, by have := (h0 b hb).2; omega⟩, Nat.lt_of_lt_of_le (h0 b hb).2 (hb2 X Y).size⟩) (fun b hb => by simp at hb; exact ⟨hf b (by omega), by omega⟩) ((h.bound.lift (hb2 X Y)).imp fun b hb => ⟨hb.1, by omega⟩)
  clear h hA eT hn
  generalize T.ts.length = sn at *
  generalize σ.length = sl at *
  go_enter Try.func16, Try.ntmps16
  go_wp2_with fail
  go_at_call 38
  refine (HR.out _ _).mono ?_
  rintro e w1 ⟨u, rfl, hrep, hb1⟩
  have hbw := (hb2 _ _).trans (hb1.mono (hb2 _ _).size)
  have HB : Hid (Zero w1 (w.heap.size + 1)) := Box.lift (by unfold Box; rw [heap_at, if_pos (by simp)]) hb1
  clear hb1
  have HRep := Lib.hid hrep
  obtain ⟨uk, un, ui, uh, ua, um, uc, rfl⟩ := hrep.form
  clear hrep HR
  go_wp2_with (refine wpList_store5 rfl _ _ rfl _ _ _ _ _ _ HB.out rfl _ _ _ _ _ _ _ rfl ?_; intro w2 hB2 hg2 hs2)
  obtain ⟨c0, c1, c2, c3, c4⟩ := hB2.cells
  refine bodyPost_ret (by simp [results, Try.results16, go_sem, c0, c1, c2, c3, c4]; try rfl) rfl ?_
  exact ⟨_, rfl, HRep.out.kept (fun b hb => hb.1) (fun b hb hlt => hg2.block b hlt (by intro e; cases e; exact hb.2 rfl)), Below.grown hbw hg2 hbw.size (fun j hj => by cases hj; omega)⟩
theorem pkVar_any (i : Int) (w : World) : Calls Try.prog 43 #[.int .i64 i] w fun e w' => e = .returned (leafV 1 ⟨#[]⟩ i 0) ∧ Below w.heap.size w w' := by
  go_enter Try.func43, Try.ntmps43
  go_wp2
  go_returns
  exact ⟨rfl, (Below.refl _ w).alloc (Nat.le_refl _) _⟩
end Go.Proofs.Ytmjdddmfhakabaa

namespace Go.Proofs.Ytmjdddmfhakabaa
open Go.RowKit Go.Sort Go.Shelf Go.Maps Mth

theorem asE_rep {w : World} {S : Nat → Prop} {i k : Int} {n : ByteArray} {i' h : Int} {s : Value} {T : Ty} (hx : Rep w S T (.agg #[.int .i64 k, .string n, .int .i64 i', .int .i64 h, s])) : AsE.rep w S (i, T) [.int .i64 i, .int .i64 k, .string n, .int .i64 i', .int .i64 h, s] := ⟨_, rfl, hx⟩
/-- One assignment that was just laid is appended; a step of a drawn region. -/
theorem step_pushAs {v : World} {ops : Array Oper} {o : Oper} {a : Act} {K : Act → World → Prop} {Q : Exit → Act → World → Prop} {E' : Prop} {base : Nat} {S : Nat → Prop} {sv : Value} {xs : List (Int × Ty)} {Z : TypeId} {i k : Int} {n : ByteArray} {i' h : Int} {s : Value} {T : Ty} (hrow : RowG AsE v base S sv xs) (hx : Rep v (fun c => S c ∧ some c ≠ sv.ownBlock) T (.agg #[.int .i64 k, .string n, .int .i64 i', .int .i64 h, s]))
    (hgd : o.guard = none) (x y : Operand) (ho : o.op = .call { callee := .builtin .append, args := #[x, y], argTypes := #[25, 25] }) (hs : a.eval x = sv) (hy : a.eval y = .slice (some ⟨v.heap.size, 0, none⟩) 1 1)
    (N : Nat) (hN : N = xs.length + 1) (hb : N ≤ 1000000) (hbase : base ≤ v.heap.size)
    (hK : ∀ (a' : Option Addr) (c' : Nat) (w' : World), RowG AsE w' base S (.slice a' N c') (xs ++ [(i, T)]) → v.grownBy w' sv.ownBlock → ((Value.slice a' N c').ownBlock = sv.ownBlock ∨ ∃ g, (Value.slice a' N c').ownBlock = some g ∧ v.heap.size ≤ g) → K (a.put o.dst (.slice a' N c')) w') :
    if Region.wanted o (yielded ops a.tmps) = true then Oper.wp Try.prog o a (v.alloc (.cells #[.int .i64 i, .int .i64 k, .string n, .int .i64 i', .int .i64 h, s] Z)) K Q else E' := by
  have hba : Below v.heap.size v (v.alloc (.cells #[.int .i64 i, .int .i64 k, .string n, .int .i64 i', .int .i64 h, s] Z)) := (Below.refl _ v).alloc (Nat.le_refl _) _
  refine step_pushH AsE hgd x y ho base S sv xs hs (hrow.lift hba) v.heap.size Z [.int .i64 i, .int .i64 k, .string n, .int .i64 i', .int .i64 h, s] (heap_alloc_new v _) hy (i, T) (asE_rep (hx.lift hba)) N hN hb (Nat.le_trans hbase hba.size) ?_
  intro a' c' w' h1 h2 h3
  refine hK a' c' w' h1 (grown_trans (World.grownBy_alloc v _ _) h2) ?_
  rcases h3 with h3 | h3
  · exact .inl h3
  · exact .inr ⟨_, h3, hba.size⟩
theorem wpList_pushAs {v : World} {ops : Array Oper} {rest : List Oper} {o : Oper} {a : Act} {Q : Exit → Act → World → Prop} {base : Nat} {S : Nat → Prop} {sv : Value} {xs : List (Int × Ty)} {Z : TypeId} {i k : Int} {n : ByteArray} {i' h : Int} {s : Value} {T : Ty} (hrow : RowG AsE v base S sv xs) (hx : Rep v (fun c => S c ∧ some c ≠ sv.ownBlock) T (.agg #[.int .i64 k, .string n, .int .i64 i', .int .i64 h, s]))
    (hgd : o.guard = none) (x y : Operand) (ho : o.op = .call { callee := .builtin .append, args := #[x, y], argTypes := #[25, 25] }) (hs : a.eval x = sv) (nn : Nat) (hnn : nn = v.heap.size) (hy : a.eval y = .slice (some ⟨nn, 0, none⟩) 1 1)
    (N : Nat) (hN : N = xs.length + 1) (hb : N ≤ 1000000) (hbase : base ≤ v.heap.size)
    (hK : ∀ (a' : Option Addr) (c' : Nat) (w' : World), RowG AsE w' base S (.slice a' N c') (xs ++ [(i, T)]) → v.grownBy w' sv.ownBlock → wpList Try.prog ops Q rest (a.put o.dst (.slice a' N c')) w') :
    wpList Try.prog ops Q (o :: rest) a (v.alloc (.cells #[.int .i64 i, .int .i64 k, .string n, .int .i64 i', .int .i64 h, s] Z)) := by
  subst hnn
  have hba : Below v.heap.size v (v.alloc (.cells #[.int .i64 i, .int .i64 k, .string n, .int .i64 i', .int .i64 h, s] Z)) := (Below.refl _ v).alloc (Nat.le_refl _) _
  refine wpList_pushG AsE hgd x y ho base S sv xs hs (hrow.lift hba) v.heap.size Z [.int .i64 i, .int .i64 k, .string n, .int .i64 i', .int .i64 h, s] (heap_alloc_new v _) hy (i, T) (asE_rep (hx.lift hba)) N hN hb (Nat.le_trans hbase hba.size) ?_
  intro a' c' w' h1 h2
  exact hK a' c' w' h1 (grown_trans (World.grownBy_alloc v _ _) h2)
theorem enterApply (v u : Value) (w : World) : (callFunc 15 #[v, u]).run Try.prog w = .ok (.enter 15 #[v, u]) w := by kernel_rfl
theorem enterRefApply (v u : Value) (w : World) : (callFunc 16 #[v, u]).run Try.prog w = .ok (.enter 16 #[v, u]) w := by kernel_rfl
theorem AsL.imp {w : World} {S S' : Nat → Prop} (hS : ∀ b, S b → S' b) {σ : List (Int × Ty)} {v : Value} (h : AsL w S σ v) : AsL w S' σ v := h.kept hS fun _ _ _ => rfl
theorem AsL.bound {w : World} {S : Nat → Prop} {σ : List (Int × Ty)} {v : Value} (h : AsL w S σ v) : AsL w (fun b => S b ∧ b < w.heap.size) σ v := by
  obtain ⟨a, cap, hv, hcap, hj⟩ := h
  refine ⟨a, cap, hv, hcap, fun j p hp => ?_⟩
  obtain ⟨ad, k, n, i, h, s, h1, h2, h3, h4⟩ := hj j p hp
  exact ⟨ad, k, n, i, h, s, h1, ⟨h2, h3.lt⟩, h3, h4.bound⟩
/-- What a loop that composes holds. -/
structure CmSt (w : World) (sv : Value) (xs : List (Int × Ty)) (v : World) : Prop where
  row : RowG AsE v w.heap.size (fun _ => True) sv xs
  low : Below w.heap.size w v
theorem CmSt.lift {w v v' : World} {sv : Value} {xs : List (Int × Ty)} (h : CmSt w sv xs v) (hb : Below v.heap.size v v') : CmSt w sv xs v' := ⟨h.row.lift hb, h.low.trans (hb.mono h.low.size)⟩
theorem CmSt.push {w v v' : World} {sv sv' : Value} {xs xs' : List (Int × Ty)} (h : CmSt w sv xs v) (hr : RowG AsE v' w.heap.size (fun _ => True) sv' xs') (hg : v.grownBy v' sv.ownBlock) : CmSt w sv' xs' v' :=
  ⟨hr, Below.grown h.low hg h.low.size (fun k hk => (h.row.lt k hk).1)⟩
theorem CmSt.below {w v : World} {sv : Value} {xs : List (Int × Ty)} (h : CmSt w sv xs v) : ∀ c, c < w.heap.size → some c ≠ sv.ownBlock := fun c hc e => by have := (h.row.lt c e.symm).1; omega
theorem CmSt.above {w v : World} {sv : Value} {xs : List (Int × Ty)} (h : CmSt w sv xs v) : ∀ c, v.heap.size ≤ c → some c ≠ sv.ownBlock := fun c hc e => by have := (h.row.lt c e.symm).2; omega
theorem CmSt.asL {w v : World} {sv : Value} {xs : List (Int × Ty)} (h : CmSt w sv xs v) : AsL v (fun _ => True) xs sv := slG_asL (h.row.slG (fun _ h => h) (fun _ _ => trivial))
/-- What an application gives to the loop. -/
theorem CmSt.apply {P : Program} {f : Nat} (hA : AplAt P f) {w v : World} {acc : Value} {xs : List (Int × Ty)} (h : CmSt w acc xs v) (τ : List (Int × Ty)) (tv : Value) (T : Ty) (u : Value) (hT : nodes T ≤ 1000000) (ht : AsL w (fun _ => True) τ tv) (hu : Rep w (fun _ => True) T u) :
    Calls P f #[tv, u] v fun e v' => ∃ r, e = .returned r ∧ (CmSt w acc xs v' ∧ Rep v' (fun c => True ∧ some c ≠ acc.ownBlock) (repl τ T) r) := by
  refine (hA τ T u tv (fun c => some c ≠ acc.ownBlock) (fun b => True ∧ b < w.heap.size) v hT (ht.bound.lift h.low) (fun b hb => ⟨h.below b hb.2, Nat.lt_of_lt_of_le hb.2 h.low.size⟩) (fun b hb => h.above b hb) ((hu.bound.lift h.low).imp fun b hb => h.below b hb.2)).mono ?_
  rintro e w' ⟨r, rfl, h1, h2⟩
  exact ⟨r, rfl, h.lift h2, h1.imp fun b hb => ⟨trivial, hb⟩⟩
def CmpsAt (P : Program) (f : Nat) : Prop := ∀ (σ τ : List (Int × Ty)) (sv tv : Value) (w : World), σ.length ≤ 1000 → τ.length ≤ 1000 → (∀ p ∈ σ, nodes p.2 ≤ 1000000) → AsL w (fun _ => True) σ sv → AsL w (fun _ => True) τ tv →
  Calls P f #[sv, tv] w fun e w' => ∃ u, e = .returned u ∧ AsL w' (fun _ => True) (cmpS σ τ) u ∧ Below w.heap.size w w'
end Go.Proofs.Ytmjdddmfhakabaa

namespace Go.Proofs.Ytmjdddmfhakabaa
open Go.RowKit Go.Sort Go.Shelf Go.Maps Mth

theorem Six.up {w : World} {a : Addr} {j : Nat} {x k : Int} {n : ByteArray} {i h : Int} {v : Value} (hs : Six w a j x k n i h v) (w' : World) (hb : RowKit.Below w.heap.size w w') :
    w'.cell? (a.add (j * 6)) = some (.int .i64 x) ∧ w'.cell? ⟨(a.add (j * 6)).block, (a.add (j * 6)).off + 1, none⟩ = some (.int .i64 k) ∧ w'.cell? ⟨(a.add (j * 6)).block, (a.add (j * 6)).off + 2, none⟩ = some (.string n) ∧ w'.cell? ⟨(a.add (j * 6)).block, (a.add (j * 6)).off + 3, none⟩ = some (.int .i64 i) ∧ w'.cell? ⟨(a.add (j * 6)).block, (a.add (j * 6)).off + 4, none⟩ = some (.int .i64 h) ∧ w'.cell? ⟨(a.add (j * 6)).block, (a.add (j * 6)).off + 5, none⟩ = some v := hs.kept (hb.block _ hs.lt)
theorem CmSt.apply' {P : Program} {f : Nat} (hA : AplAt P f) {w wr v : World} {acc : Value} {xs : List (Int × Ty)} (h0 : CmSt w acc xs wr) (hb : Below wr.heap.size wr v) (τ : List (Int × Ty)) (tv : Value) (T : Ty) (u : Value) (hT : nodes T ≤ 1000000) (ht : AsL w (fun _ => True) τ tv) (hu : Rep w (fun _ => True) T u) :
    Calls P f #[tv, u] v fun e v' => ∃ r, e = .returned r ∧ Rep v' (fun c => True ∧ some c ≠ acc.ownBlock) (repl τ T) r ∧ Below v.heap.size v v' := by
  have h := h0.lift hb
  refine (hA τ T u tv (fun c => some c ≠ acc.ownBlock) (fun b => True ∧ b < w.heap.size) v hT (ht.bound.lift h.low) (fun b hb => ⟨h.below b hb.2, Nat.lt_of_lt_of_le hb.2 h.low.size⟩) (fun b hb => h.above b hb) ((hu.bound.lift h.low).imp fun b hb => h.below b hb.2)).mono ?_
  rintro e w' ⟨r, rfl, h1, h2⟩
  exact ⟨r, rfl, h1.imp fun b hb => ⟨trivial, hb⟩, h2⟩
theorem mapTake {α β : Type} (f : α → β) {l : List α} {j : Nat} {x : α} (h : l[j]? = some x) : (l.take (j + 1)).map f = (l.take j).map f ++ [f x] := by
  rw [List.take_add_one, h]; simp
theorem filterTake {α : Type} (q : α → Bool) {l : List α} {j : Nat} {x : α} (h : l[j]? = some x) : (l.take (j + 1)).filter q = if q x then (l.take j).filter q ++ [x] else (l.take j).filter q := by
  rw [List.take_add_one, h]
  simp only [Option.toList_some, List.filter_append, List.filter_cons, List.filter_nil]
  split <;> simp
set_option maxRecDepth 100000 in
set_option maxHeartbeats 6400000 in
theorem refCompose_any : CmpsAt Try.prog 13 := by
  intro σ τ sv tv w hσ hτ hN hs ht
  have HSA := Lib.hid hs
  have HTA := Lib.hid ht
  have HNd := Lib.hid hN
  obtain ⟨sa, sc, rfl, -, hsj⟩ := hs
  obtain ⟨ta, tc, rfl, -, htj⟩ := ht
  have HSJ := Lib.hid hsj
  have HTJ := Lib.hid htj
  obtain ⟨F, hF⟩ : ∃ F, F = fun p : Int × Ty => (p.1, repl τ p.2) := ⟨_, rfl⟩
  obtain ⟨q, hq⟩ : ∃ q, q = fun p : Int × Ty => !asgd σ p.1 := ⟨_, rfl⟩
  have HEnd : Hid (σ.map F ++ τ.filter q = cmpS σ τ) := by show _ = _; subst hF hq; rfl
  have HF : Hid (∀ p, F p = (p.1, repl τ p.2)) := fun p => by rw [hF]
  have HQ : Hid (∀ p, q p = !asgd σ p.1) := fun p => by rw [hq]
  have HH : Hid (∀ i W, Below w.heap.size w W → Calls Try.prog 35 #[.slice sa σ.length sc, .int .i64 i] W fun e W' => e = .returned (.bool (asgd σ i)) ∧ W' = W) := fun i W hb => refHas_any σ i _ _ W (HSA.out.lift hb)
  obtain ⟨m, hm⟩ : ∃ m, m = σ.length := ⟨_, rfl⟩
  obtain ⟨m2, hm2⟩ : ∃ m2, m2 = τ.length := ⟨_, rfl⟩
  rw [← hm] at hσ HSA HH ⊢
  rw [← hm2] at hτ HTA ⊢
  have HM := Lib.hid hm
  have HM2 := Lib.hid hm2
  have H0 : Hid (CmSt w (.slice none 0 0) ((σ.take 0).map F) w) := ⟨rowG_nil _ _ _ _, Below.refl _ _⟩
  clear hsj htj hm hm2 hN hF hq
  go_enter Try.func13, Try.ntmps13
  go_wp2
  go_loopw [5, 6] (fun y x wr => ∃ (j : Nat) (ya : Option Addr) (yc : Nat), j ≤ m ∧ x = .int .i64 j ∧ y = .slice ya j yc ∧ Hid (CmSt w (.slice ya j yc) ((σ.take j).map F) wr)) (fun _ x _ => m - (intOf x).toNat)
  case atStart => exact ⟨0, none, 0, Nat.zero_le _, rfl, rfl, H0⟩
  case round =>
    obtain ⟨j, ya, yc, hj, rfl, rfl, HSt⟩ := hrel
    by_cases hlt : j < m
    · obtain ⟨p, hp⟩ : ∃ x, σ[j]? = some x := ⟨_, List.getElem?_eq_getElem (by rw [← HM.out]; exact hlt)⟩
      obtain ⟨ad, k', n', i', h', s', rfl, hS, h6, hx⟩ := HSJ.out j p hp
      have HMt := Lib.hid (mapTake F hp)
      have HLen : Hid (j + 1 = ((σ.take j).map F).length + 1) := by show _ = _; rw [List.length_map, List.length_take, ← HM.out]; omega
      have HX := Lib.hid hx
      have hxN := HNd.out p (List.mem_of_getElem? hp)
      have HS6 := Lib.hid h6.up
      obtain ⟨_, _, _, _, _, -, hv, hn2, hs2⟩ := hx.open
      simp at hv
      obtain ⟨rfl, rfl, rfl, rfl, rfl⟩ := hv
      obtain ⟨sa', sc', rfl, -⟩ := hs2
      clear h6 hx hS hn2 hp
      have hji : (j : Int) < (m : Int) := by omega
      generalize p.2.ts.length = sn' at *
      have HC : Hid (Calls Try.prog 16 #[.slice ta m2 tc, .agg #[.int .i64 k', .string n', .int .i64 i', .int .i64 h', .slice sa' sn' sc']] wr.drew fun e W'' => ∃ r, e = .returned r ∧ Rep W'' (fun c => True ∧ some c ≠ (Value.slice ya j yc).ownBlock) (repl τ p.2) r ∧ Below wr.drew.heap.size wr.drew W'') :=
        CmSt.apply' refApply_any HSt.out (Below.refl _ wr).drew τ _ p.2 _ hxN HTA.out HX.out
      have hN1 : j + 1 ≤ 1000000 := by omega
      have HFp := Lib.hid (HF.out p)
      have HStD := Lib.hid (HSt.out.lift (Below.refl _ wr).drew)
      go_wp2_with fail
      go_region_held3 (fun w' => w'.cell? (ad.add (j * 6)) = some (.int .i64 p.1) ∧ w'.cell? ⟨(ad.add (j * 6)).block, (ad.add (j * 6)).off + 1, none⟩ = some (.int .i64 k') ∧ w'.cell? ⟨(ad.add (j * 6)).block, (ad.add (j * 6)).off + 2, none⟩ = some (.string n') ∧ w'.cell? ⟨(ad.add (j * 6)).block, (ad.add (j * 6)).off + 3, none⟩ = some (.int .i64 i') ∧ w'.cell? ⟨(ad.add (j * 6)).block, (ad.add (j * 6)).off + 4, none⟩ = some (.int .i64 h') ∧ w'.cell? ⟨(ad.add (j * 6)).block, (ad.add (j * 6)).off + 5, none⟩ = some (.slice sa' sn' sc'))
        (first
          | with_reducible exact HS6.out _ HSt4.out.low
          | with_reducible exact HS6.out _ HSt3.out.low
          | with_reducible exact HS6.out _ (HSt3.out.low.alloc HSt3.out.low.size _)
          | with_reducible exact HS6.out _ HStD.out.low)
        (first
          | (go_at_call 16; (with_reducible refine HC.out.mono ?_); rintro e w3 ⟨r, rfl, hp, hb⟩; obtain ⟨uk, un, ui, uh, ua, um, uc, rfl⟩ := hp.form; have HP := Lib.hid hp; have HSt3 := Lib.hid (HStD.out.lift hb); clear hp hb)
          | ((refine step_pushAs HSt3.out.row HP.out rfl _ _ rfl rfl rfl (j + 1) HLen.out hN1 HSt3.out.low.size ?_); intro a' c' w4 hrow hg _; have HSt4 := Lib.hid (HSt3.out.push hrow hg); clear hrow hg))
      all_goals
        go_wp2
        go_roundw
        case rel => exact ⟨j + 1, a', c', hlt, by go_num, rfl, by show CmSt _ _ _ _; rw [HMt.out, HFp.out]; exact HSt4.out⟩
        case measure => simp [intOf]; omega
    · obtain rfl : j = m := by omega
      have HSt1 : Hid (CmSt w (.slice ya j yc) (σ.map F ++ (τ.take 0).filter q) wr) := by
        show CmSt _ _ _ _
        have := HSt.out
        rw [List.take_of_length_le (by rw [← HM.out]; exact Nat.le_refl _)] at this
        simpa using this
      have hjl : Hid (j = (σ.map F ++ (τ.take 0).filter q).length) := by show _ = _; simp; exact HM.out
      clear HSt
      go_wp2
      generalize wr = wz at *
      go_loopw [5, 7] (fun y x wr => ∃ (i : Nat) (ya : Option Addr) (n yc : Nat), i ≤ m2 ∧ x = .int .i64 i ∧ y = .slice ya n yc ∧ Hid (n = (σ.map F ++ (τ.take i).filter q).length) ∧ Hid (CmSt w (.slice ya n yc) (σ.map F ++ (τ.take i).filter q) wr)) (fun _ x _ => m2 - (intOf x).toNat)
      case atStart => exact ⟨0, _, j, _, Nat.zero_le _, rfl, rfl, hjl, HSt1⟩
      case round =>
        clear hjl HSt1
        obtain ⟨i, ya, n, yc, hi, rfl, rfl, HNn, HSt⟩ := hrel
        by_cases hlt2 : i < m2
        · obtain ⟨p, hp⟩ : ∃ x, τ[i]? = some x := ⟨_, List.getElem?_eq_getElem (by rw [← HM2.out]; exact hlt2)⟩
          obtain ⟨ad, k', n', i', h', s', rfl, hS, h6, hx⟩ := HTJ.out i p hp
          have HFt := Lib.hid (filterTake q hp)
          have HX := Lib.hid hx
          obtain ⟨q0, q1, q2, q3, q4, q5⟩ := h6.kept (HSt.out.low.block _ h6.lt)
          obtain ⟨_, _, _, _, _, -, hv, hn2, hs2⟩ := hx.open
          simp at hv
          obtain ⟨rfl, rfl, rfl, rfl, rfl⟩ := hv
          obtain ⟨sa', sc', rfl, -⟩ := hs2
          clear h6 hx hS hn2 hp
          have hji : (i : Int) < (m2 : Int) := by omega
          generalize p.2.ts.length = sn' at *
          have hn1 : n ≤ j + i := by
            have h1 := HNn.out
            have h2 := List.length_filter_le q (τ.take i)
            rw [List.length_append, List.length_map] at h1
            have h3 := List.length_take_le i τ
            have := HM.out
            omega
          have hlow := HSt.out.low
          cases hq : asgd σ p.1 with
          | true =>
            have HH1 : Hid (∀ W, Below w.heap.size w W → Calls Try.prog 35 #[.slice sa j sc, .int .i64 p.1] W fun e W' => e = .returned (.bool true) ∧ W' = W) := fun W hb => hq ▸ HH.out p.1 W hb
            have HT1 : Hid ((τ.take (i + 1)).filter q = (τ.take i).filter q) := by show _ = _; rw [HFt.out, HQ.out, hq]; rfl
            go_wp2_with (go_at_call 35; refine (HH1.out _ hlow).mono ?_; rintro e w3 ⟨rfl, rfl⟩)
            go_roundw
            case rel => exact ⟨i + 1, _, n, yc, hlt2, by go_num, rfl, by show _ = _; rw [HT1.out]; exact HNn.out, by show CmSt _ _ _ _; rw [HT1.out]; exact HSt.out⟩
            case measure => simp [intOf]; omega
          | false =>
            have HH1 : Hid (∀ W, Below w.heap.size w W → Calls Try.prog 35 #[.slice sa j sc, .int .i64 p.1] W fun e W' => e = .returned (.bool false) ∧ W' = W) := fun W hb => hq ▸ HH.out p.1 W hb
            have HT1 : Hid (σ.map F ++ (τ.take (i + 1)).filter q = (σ.map F ++ (τ.take i).filter q) ++ [(p.1, p.2)]) := by show _ = _; rw [HFt.out, HQ.out, hq]; simp
            have HN1 : Hid (n + 1 = (σ.map F ++ (τ.take i).filter q).length + 1) := by show _ = _; rw [← HNn.out]
            have hnb : n + 1 ≤ 1000000 := by omega
            have HXr : Hid (Rep wr (fun c => True ∧ some c ≠ (Value.slice ya n yc).ownBlock) p.2 (.agg #[.int .i64 k', .string n', .int .i64 i', .int .i64 h', .slice sa' sn' sc'])) := (HX.out.bound.lift hlow).imp fun c hc => ⟨trivial, HSt.out.below c hc.2⟩
            go_wp2_with (first
              | (go_at_call 35; refine (HH1.out _ hlow).mono ?_; rintro e w3 ⟨rfl, rfl⟩)
              | (at_builtin; refine wpList_pushAs HSt.out.row HXr.out rfl _ _ rfl rfl _ rfl rfl (n + 1) HN1.out hnb hlow.size ?_; intro a' c' w4 hrow hg; have HSt4 := Lib.hid (HSt.out.push hrow hg); clear hrow hg))
            go_roundw
            case rel => exact ⟨i + 1, a', n + 1, c', hlt2, by go_num, rfl, by show _ = _; rw [HT1.out, List.length_append, ← HNn.out]; rfl, by show CmSt _ _ _ _; rw [HT1.out]; exact HSt4.out⟩
            case measure => simp [intOf]; omega
        · have HSt2 : Hid (CmSt w (.slice ya n yc) (cmpS σ τ) wr) := by
            show CmSt _ _ _ _
            have := HSt.out
            rw [List.take_of_length_le (by rw [← HM2.out]; omega), HEnd.out] at this
            exact this
          go_wp2
          go_ret
          exact ⟨_, rfl, HSt2.out.asL, HSt2.out.low⟩
end Go.Proofs.Ytmjdddmfhakabaa

namespace Go.Proofs.Ytmjdddmfhakabaa
open Go.RowKit Go.Sort Go.Shelf Go.Maps Mth

/-- Block B holds an assignment. -/
def Box6 (w : World) (B : Nat) (c0 c1 c2 c3 c4 c5 : Value) : Prop := w.heap[B]? = some (.cells #[c0, c1, c2, c3, c4, c5] 43 (0, 0))
theorem Box6.cells {w : World} {B : Nat} {c0 c1 c2 c3 c4 c5 : Value} (h : Box6 w B c0 c1 c2 c3 c4 c5) :
    w.cell? ⟨B, 0, none⟩ = some c0 ∧ w.cell? ⟨B, 1, none⟩ = some c1 ∧ w.cell? ⟨B, 2, none⟩ = some c2 ∧ w.cell? ⟨B, 3, none⟩ = some c3 ∧ w.cell? ⟨B, 4, none⟩ = some c4 ∧ w.cell? ⟨B, 5, none⟩ = some c5 := by
  unfold Box6 at h
  simp [World.cell?, h]
theorem Box6.lt {w : World} {B : Nat} {c0 c1 c2 c3 c4 c5 : Value} (h : Box6 w B c0 c1 c2 c3 c4 c5) : B < w.heap.size := (Array.getElem?_eq_some_iff.1 h).1
theorem Box6.made (w : World) (c0 c1 c2 c3 c4 c5 : Value) : Box6 (w.alloc (.cells #[c0, c1, c2, c3, c4, c5] 43)) w.heap.size c0 c1 c2 c3 c4 c5 := heap_alloc_new w _
theorem Box6.grown {w w' : World} {B : Nat} {c0 c1 c2 c3 c4 c5 : Value} {row : Option Nat} (h : Box6 w B c0 c1 c2 c3 c4 c5) (hg : w.grownBy w' row) (hn : some B ≠ row) : Box6 w' B c0 c1 c2 c3 c4 c5 := by
  have hl := h.lt
  unfold Box6 at *
  rw [hg.block B hl (fun e => hn e), h]
theorem Box6.lift {w w' : World} {B : Nat} {c0 c1 c2 c3 c4 c5 : Value} (h : Box6 w B c0 c1 c2 c3 c4 c5) (hb : RowKit.Below w.heap.size w w') : Box6 w' B c0 c1 c2 c3 c4 c5 := by
  have hl := h.lt
  unfold Box6 at *
  rw [hb.block B hl, h]
set_option maxRecDepth 100000 in
set_option maxHeartbeats 6400000 in
theorem compose_any : CmpsAt Try.prog 11 := by
  intro σ τ sv tv w hσ hτ hN hs ht
  have HSA := Lib.hid hs
  have HTA := Lib.hid ht
  have HNd := Lib.hid hN
  obtain ⟨sa, sc, rfl, -, hsj⟩ := hs
  obtain ⟨ta, tc, rfl, -, htj⟩ := ht
  have HSJ := Lib.hid hsj
  have HTJ := Lib.hid htj
  obtain ⟨F, hF⟩ : ∃ F, F = fun p : Int × Ty => (p.1, repl τ p.2) := ⟨_, rfl⟩
  obtain ⟨q, hq⟩ : ∃ q, q = fun p : Int × Ty => !asgd σ p.1 := ⟨_, rfl⟩
  have HEnd : Hid (σ.map F ++ τ.filter q = cmpS σ τ) := by show _ = _; subst hF hq; rfl
  have HF : Hid (∀ p, F p = (p.1, repl τ p.2)) := fun p => by rw [hF]
  have HQ : Hid (∀ p, q p = !asgd σ p.1) := fun p => by rw [hq]
  have HH : Hid (∀ i W, Below w.heap.size w W → Calls Try.prog 34 #[.slice sa σ.length sc, .int .i64 i] W fun e W' => ∃ u, e = .returned (.tuple #[u, .bool (asgd σ i)]) ∧ (∃ T, Rep W' (fun _ => True) T u) ∧ Below W.heap.size W W') := fun i W hb =>
    (find_any σ i _ _ W (HSA.out.lift hb)).mono fun e W' ⟨u, h1, h2, h3⟩ => ⟨u, h1, ⟨_, h2.imp fun _ _ => trivial⟩, h3⟩
  have HBM : Hid (∀ w : World, Zero (w.alloc (.cells #[.int .i64 0, .string ⟨#[]⟩, .int .i64 0, .int .i64 0, .slice none 0 0] 28)) w.heap.size) := fun w => Box.made _ _ _ _ _ _
  have HAl : Hid (∀ (w : World) (o : Obj), Below w.heap.size w (w.alloc o)) := fun w o => (Below.refl _ w).alloc (Nat.le_refl _) _
  obtain ⟨m, hm⟩ : ∃ m, m = σ.length := ⟨_, rfl⟩
  obtain ⟨m2, hm2⟩ : ∃ m2, m2 = τ.length := ⟨_, rfl⟩
  rw [← hm] at hσ HSA HH ⊢
  rw [← hm2] at hτ HTA ⊢
  have HM := Lib.hid hm
  have HM2 := Lib.hid hm2
  clear hsj htj hm hm2 hN hF hq
  go_enter Try.func11, Try.ntmps11
  go_upto_region 2 with (at_make; refine wpList_makeG AsE rfl _ _ rfl (m + m2) rfl _ rfl (by first | omega | go_num) (by omega) w.heap.size (fun _ => True) (Nat.le_refl _) ?_; intro w1 hrow hb1)
  have H0 : Hid (CmSt w (.slice (some ⟨w.heap.size, 0, none⟩) 0 (m + m2)) ((σ.take 0).map F) w1) := ⟨hrow, hb1⟩
  clear hrow hb1
  go_wp2
  go_loopw [5, 20] (fun y x wr => ∃ (j : Nat) (ya : Option Addr) (yc : Nat), j ≤ m ∧ x = .int .i64 j ∧ y = .slice ya j yc ∧ Hid (CmSt w (.slice ya j yc) ((σ.take j).map F) wr)) (fun _ x _ => m - (intOf x).toNat)
  case atStart => exact ⟨0, _, _, Nat.zero_le _, rfl, rfl, H0⟩
  case round =>
    clear H0
    obtain ⟨j, ya, yc, hj, rfl, rfl, HSt⟩ := hrel
    by_cases hlt : j < m
    · obtain ⟨p, hp⟩ : ∃ x, σ[j]? = some x := ⟨_, List.getElem?_eq_getElem (by rw [← HM.out]; exact hlt)⟩
      obtain ⟨ad, k', n', i', h', s', rfl, hS, h6, hx⟩ := HSJ.out j p hp
      have HMt := Lib.hid (mapTake F hp)
      have HLen : Hid (j + 1 = ((σ.take j).map F).length + 1) := by show _ = _; rw [List.length_map, List.length_take, ← HM.out]; omega
      have HX := Lib.hid hx
      have hxN := HNd.out p (List.mem_of_getElem? hp)
      obtain ⟨q0, q1, q2, q3, q4, q5⟩ := h6.up _ HSt.out.low
      obtain ⟨_, _, _, _, _, -, hv, hn2, hs2⟩ := hx.open
      simp at hv
      obtain ⟨rfl, rfl, rfl, rfl, rfl⟩ := hv
      obtain ⟨sa', sc', rfl, -⟩ := hs2
      clear h6 hx hS hn2 hp
      have hji : (j : Int) < (m : Int) := by omega
      generalize p.2.ts.length = sn' at *
      go_upto_region 5 with fail
      have HSt1 := Lib.hid (HSt.out.lift (HAl.out wr (.cells #[.int .i64 p.1, .int .i64 k', .string n', .int .i64 i', .int .i64 h', .slice sa' sn' sc'] 43)))
      have HB6 := Lib.hid (Box6.made wr (.int .i64 p.1) (.int .i64 k') (.string n') (.int .i64 i') (.int .i64 h') (.slice sa' sn' sc'))
      have HOff : Hid (some wr.heap.size ≠ (Value.slice ya j yc).ownBlock) := fun e => by have := (HSt.out.row.lt _ e.symm).2; omega
      clear q0 q1 q2 q3 q4 q5 HSt
      generalize (wr.alloc (.cells #[.int .i64 p.1, .int .i64 k', .string n', .int .i64 i', .int .i64 h', .slice sa' sn' sc'] 43)) = W1 at *
      generalize wr.heap.size = B at *
      have HC : Hid (Calls Try.prog 15 #[.slice ta m2 tc, .agg #[.int .i64 k', .string n', .int .i64 i', .int .i64 h', .slice sa' sn' sc']] W1.drew fun e W'' => ∃ r, e = .returned r ∧ Rep W'' (fun c => True ∧ some c ≠ (Value.slice ya j yc).ownBlock) (repl τ p.2) r ∧ Below W1.drew.heap.size W1.drew W'') :=
        CmSt.apply' apply_any HSt1.out (Below.refl _ W1).drew τ _ p.2 _ hxN HTA.out HX.out
      have hN1 : j + 1 ≤ 1000000 := by omega
      have HFp := Lib.hid (HF.out p)
      have HStD := Lib.hid (HSt1.out.lift (Below.refl _ W1).drew)
      have HBD := Lib.hid (HB6.out.lift (Below.refl _ W1).drew)
      go_wp2_with fail
      go_region_held3 (fun w' => w'.cell? ⟨B, 0, none⟩ = some (.int .i64 p.1) ∧ w'.cell? ⟨B, 1, none⟩ = some (.int .i64 k') ∧ w'.cell? ⟨B, 2, none⟩ = some (.string n') ∧ w'.cell? ⟨B, 3, none⟩ = some (.int .i64 i') ∧ w'.cell? ⟨B, 4, none⟩ = some (.int .i64 h') ∧ w'.cell? ⟨B, 5, none⟩ = some (.slice sa' sn' sc'))
        (first
          | with_reducible exact HB4.out.cells
          | with_reducible exact HB3.out.cells
          | with_reducible exact (HB3.out.lift (HAl.out _ _)).cells
          | with_reducible exact HBD.out.cells)
        (first
          | (go_at_call 15; (with_reducible refine HC.out.mono ?_); rintro e w3 ⟨r, rfl, hp, hb⟩; obtain ⟨uk, un, ui, uh, ua, um, uc, rfl⟩ := hp.form; have HP := Lib.hid hp; have HSt3 := Lib.hid (HStD.out.lift hb); have HB3 := Lib.hid (HBD.out.lift hb); clear hp hb)
          | ((refine step_pushAs HSt3.out.row HP.out rfl _ _ rfl rfl rfl (j + 1) HLen.out hN1 HSt3.out.low.size ?_); intro a' c' w4 hrow hg _; have HSt4 := Lib.hid (HSt3.out.push hrow hg); have HB4 := Lib.hid (HB3.out.grown hg HOff.out); clear hrow hg))
      all_goals
        go_wp2
        go_roundw
        case rel => exact ⟨j + 1, a', c', hlt, by go_num, rfl, by show CmSt _ _ _ _; rw [HMt.out, HFp.out]; exact HSt4.out⟩
        case measure => simp [intOf]; omega
    · obtain rfl : j = m := by omega
      have HSt1 : Hid (CmSt w (.slice ya j yc) (σ.map F ++ (τ.take 0).filter q) wr) := by
        show CmSt _ _ _ _
        have := HSt.out
        rw [List.take_of_length_le (by rw [← HM.out]; exact Nat.le_refl _)] at this
        simpa using this
      have hjl : Hid (j = (σ.map F ++ (τ.take 0).filter q).length) := by show _ = _; simp; exact HM.out
      clear HSt
      go_wp2
      generalize wr = wz at *
      go_loopw [5, 37] (fun y x wr => ∃ (i : Nat) (ya : Option Addr) (n yc : Nat), i ≤ m2 ∧ x = .int .i64 i ∧ y = .slice ya n yc ∧ Hid (n = (σ.map F ++ (τ.take i).filter q).length) ∧ Hid (CmSt w (.slice ya n yc) (σ.map F ++ (τ.take i).filter q) wr)) (fun _ x _ => m2 - (intOf x).toNat)
      case atStart => exact ⟨0, _, j, _, Nat.zero_le _, rfl, rfl, hjl, HSt1⟩
      case round =>
        clear hjl HSt1
        obtain ⟨i, ya, n, yc, hi, rfl, rfl, HNn, HSt⟩ := hrel
        by_cases hlt2 : i < m2
        · obtain ⟨p, hp⟩ : ∃ x, τ[i]? = some x := ⟨_, List.getElem?_eq_getElem (by rw [← HM2.out]; exact hlt2)⟩
          obtain ⟨ad, k', n', i', h', s', rfl, hS, h6, hx⟩ := HTJ.out i p hp
          have HFt := Lib.hid (filterTake q hp)
          have HX := Lib.hid hx
          obtain ⟨q0, q1, q2, q3, q4, q5⟩ := h6.up _ HSt.out.low
          obtain ⟨_, _, _, _, _, -, hv, hn2, hs2⟩ := hx.open
          simp at hv
          obtain ⟨rfl, rfl, rfl, rfl, rfl⟩ := hv
          obtain ⟨sa', sc', rfl, -⟩ := hs2
          clear h6 hx hS hn2 hp
          have hji : (i : Int) < (m2 : Int) := by omega
          generalize p.2.ts.length = sn' at *
          have hn1 : n ≤ j + i := by
            have h1 := HNn.out
            have h2 := List.length_filter_le q (τ.take i)
            rw [List.length_append, List.length_map] at h1
            have h3 := List.length_take_le i τ
            have := HM.out
            omega
          go_upto_region 10 with fail
          have HSt1 := Lib.hid (HSt.out.lift (HAl.out wr (.cells #[.int .i64 p.1, .int .i64 k', .string n', .int .i64 i', .int .i64 h', .slice sa' sn' sc'] 43)))
          have HB6 := Lib.hid (Box6.made wr (.int .i64 p.1) (.int .i64 k') (.string n') (.int .i64 i') (.int .i64 h') (.slice sa' sn' sc'))
          clear q0 q1 q2 q3 q4 q5 HSt
          generalize (wr.alloc (.cells #[.int .i64 p.1, .int .i64 k', .string n', .int .i64 i', .int .i64 h', .slice sa' sn' sc'] 43)) = W1 at *
          generalize wr.heap.size = B at *
          have hlow := HSt1.out.low
          obtain ⟨q0, q1, q2, q3, q4, q5⟩ := HB6.out.cells
          have HH0 := Lib.hid (HH.out p.1 W1 hlow)
          go_upto_region 11 with (first
            | (go_at_call 34; refine HH0.out.mono ?_; rintro e w3 ⟨u, rfl, ⟨_, hu⟩, hb3⟩; obtain ⟨uk, un, ui, uh, ua, um, uc, rfl⟩ := hu.form; have HSt3 := Lib.hid (HSt1.out.lift hb3); have HB3 := Lib.hid (HB6.out.lift hb3); clear hu hb3)
            | (refine wpList_store5 rfl _ _ rfl _ _ _ _ _ _ (HBM.out _) rfl _ _ _ _ _ _ _ rfl ?_; intro w5 hB5 hg5 hs5; have hb5 : RowKit.Below w3.heap.size w3 w5 := Below.grown (HAl.out _ _) hg5 (HAl.out _ _).size (fun k hk => by cases hk; exact Nat.le_refl _); have HB5 := Lib.hid (HB3.out.lift hb5); have HSt5 := Lib.hid (HSt3.out.lift hb5); clear hb5 hB5 hg5 hs5))
          clear q0 q1 q2 q3 q4 q5 HSt1 HB6 HSt3 HB3 hlow HH0
          have hlow := HSt5.out.low
          obtain ⟨q0, q1, q2, q3, q4, q5⟩ := HB5.out.cells
          cases hq : asgd σ p.1 with
          | true =>
            have HT1 : Hid ((τ.take (i + 1)).filter q = (τ.take i).filter q) := by show _ = _; rw [HFt.out, HQ.out, hq]; rfl
            go_wp2
            go_roundw
            case rel => exact ⟨i + 1, _, n, yc, hlt2, by go_num, rfl, by show _ = _; rw [HT1.out]; exact HNn.out, by show CmSt _ _ _ _; rw [HT1.out]; exact HSt5.out⟩
            case measure => simp [intOf]; omega
          | false =>
            have HT1 : Hid (σ.map F ++ (τ.take (i + 1)).filter q = (σ.map F ++ (τ.take i).filter q) ++ [(p.1, p.2)]) := by show _ = _; rw [HFt.out, HQ.out, hq]; simp
            have HN1 : Hid (n + 1 = (σ.map F ++ (τ.take i).filter q).length + 1) := by show _ = _; rw [← HNn.out]
            have hnb : n + 1 ≤ 1000000 := by omega
            have HXr : Hid (Rep w5 (fun c => True ∧ some c ≠ (Value.slice ya n yc).ownBlock) p.2 (.agg #[.int .i64 k', .string n', .int .i64 i', .int .i64 h', .slice sa' sn' sc'])) := (HX.out.bound.lift hlow).imp fun c hc => ⟨trivial, HSt5.out.below c hc.2⟩
            go_wp2_with (at_builtin; refine wpList_pushAs HSt5.out.row HXr.out rfl _ _ rfl rfl _ rfl rfl (n + 1) HN1.out hnb hlow.size ?_; intro a' c' w4 hrow hg; have HSt4 := Lib.hid (HSt5.out.push hrow hg); clear hrow hg)
            go_roundw
            case rel => exact ⟨i + 1, a', n + 1, c', hlt2, by go_num, rfl, by show _ = _; rw [HT1.out, List.length_append, ← HNn.out]; rfl, by show CmSt _ _ _ _; rw [HT1.out]; exact HSt4.out⟩
            case measure => simp [intOf]; omega
        · have HSt2 : Hid (CmSt w (.slice ya n yc) (cmpS σ τ) wr) := by
            show CmSt _ _ _ _
            have := HSt.out
            rw [List.take_of_length_le (by rw [← HM2.out]; omega), HEnd.out] at this
            exact this
          go_wp2
          go_ret
          exact ⟨_, rfl, HSt2.out.asL, HSt2.out.low⟩
end Go.Proofs.Ytmjdddmfhakabaa

namespace Go.Proofs.Ytmjdddmfhakabaa
open Go.RowKit Go.Sort Go.Shelf Go.Maps Mth

def eqS (σ τ : List (Int × Ty)) (ids : List Int) : Bool := ids.all fun i => teq (repl σ (cv i)) (repl τ (cv i))
theorem eqS_step {σ τ : List (Int × Ty)} {ids : List Int} {j : Nat} {x : Int} (h : ids[j]? = some x) : eqS σ τ (ids.drop j) = (teq (repl σ (cv x)) (repl τ (cv x)) && eqS σ τ (ids.drop (j + 1))) := by
  obtain ⟨hl, e⟩ := List.getElem?_eq_some_iff.1 h
  rw [List.drop_eq_getElem_cons hl, e]
  rfl
def varV (x : Int) : Value := .agg #[.int .i64 1, .string ⟨#[]⟩, .int .i64 x, .int .i64 0, .slice none 0 0]
theorem rep_cv (w : World) (S : Nat → Prop) (x : Int) : Rep w S (cv x) (.agg #[.int .i64 1, .string ⟨#[]⟩, .int .i64 x, .int .i64 0, .slice none 0 0]) := rep_leaf w S 1 ⟨#[]⟩ x 0 (Nat.zero_le _)
theorem nodes_cv (x : Int) : nodes (cv x) ≤ 1000000 := by simp [cv, nodes, nodesL]
/-- An application at a plain variable, in any later world. -/
theorem apl_cv {P : Program} {f : Nat} (hA : AplAt P f) (σ : List (Int × Ty)) (sv : Value) (w : World) (hs : AsL w (fun _ => True) σ sv) (x : Int) (W : World) (hb : RowKit.Below w.heap.size w W) :
    Calls P f #[sv, .agg #[.int .i64 1, .string ⟨#[]⟩, .int .i64 x, .int .i64 0, .slice none 0 0]] W fun e W' => ∃ u, e = .returned u ∧ Rep W' (fun _ => True) (repl σ (cv x)) u ∧ RowKit.Below W.heap.size W W' :=
  hA σ (cv x) _ sv (fun _ => True) (fun b => True ∧ b < w.heap.size) W (nodes_cv x) (hs.bound.lift hb) (fun _ hb' => ⟨trivial, Nat.lt_of_lt_of_le hb'.2 hb.size⟩) (fun _ _ => trivial) (rep_cv _ _ _)
theorem keep5' {W w1 w2 : World} {A : Nat} {a0 a1 a2 a3 a4 : Value} (h0 : w1.cell? ⟨A, 0, none⟩ = some a0) (h1 : w1.cell? ⟨A, 1, none⟩ = some a1) (h2 : w1.cell? ⟨A, 2, none⟩ = some a2) (h3 : w1.cell? ⟨A, 3, none⟩ = some a3) (h4 : w1.cell? ⟨A, 4, none⟩ = some a4) (hW : RowKit.Below W.heap.size W w1) (hb : RowKit.Below w1.heap.size w1 w2) :
    w2.cell? ⟨A, 0, none⟩ = some a0 ∧ w2.cell? ⟨A, 1, none⟩ = some a1 ∧ w2.cell? ⟨A, 2, none⟩ = some a2 ∧ w2.cell? ⟨A, 3, none⟩ = some a3 ∧ w2.cell? ⟨A, 4, none⟩ = some a4 ∧ RowKit.Below W.heap.size W w2 := by
  have k : ∀ p v, w1.cell? p = some v → w2.cell? p = some v := fun p v h => (hb.cell (World.block_lt_of_cell? _ _ h)).trans h
  exact ⟨k _ _ h0, k _ _ h1, k _ _ h2, k _ _ h3, k _ _ h4, hW.trans (hb.mono hW.size)⟩
def EqsAt (P : Program) (f : Nat) : Prop := ∀ (σ τ : List (Int × Ty)) (ids : List Int) (sv tv iv : Value) (w : World), AsL w (fun _ => True) σ sv → AsL w (fun _ => True) τ tv → Ints w iv ids →
  Calls P f #[sv, tv, iv] w fun e w' => e = .returned (.bool (eqS σ τ ids)) ∧ RowKit.Below w.heap.size w w'
set_option maxRecDepth 100000 in
set_option maxHeartbeats 6400000 in
theorem eqs_any : EqsAt Try.prog 19 := by
  intro σ τ ids sv tv iv w hs ht hi
  have HSA := Lib.hid hs
  have HTA := Lib.hid ht
  obtain ⟨sa, sc, rfl, -, -⟩ := hs
  obtain ⟨ta, tc, rfl, -, -⟩ := ht
  obtain ⟨ia, ic, rfl, hic, hic2, hij⟩ := hi
  unfold maxLen at hic2
  have HIJ := Lib.hid hij
  have HA1 : Hid (∀ x W, RowKit.Below w.heap.size w W → _) := fun x W hb => apl_cv apply_any σ _ w HSA.out x W hb
  have HA2 : Hid (∀ x W, RowKit.Below w.heap.size w W → _) := fun x W hb => apl_cv apply_any τ _ w HTA.out x W hb
  have HV : Hid (∀ x w, Calls Try.prog 43 #[.int .i64 x] w fun e w' => e = .returned (.agg #[.int .i64 1, .string ⟨#[]⟩, .int .i64 x, .int .i64 0, .slice none 0 0]) ∧ RowKit.Below w.heap.size w w') := fun x w => pkVar_any x w
  have HBM : Hid (∀ w : World, Zero (w.alloc (.cells #[.int .i64 0, .string ⟨#[]⟩, .int .i64 0, .int .i64 0, .slice none 0 0] 28)) w.heap.size) := fun w => Box.made _ _ _ _ _ _
  have HAl : Hid (∀ (w : World) (o : Obj), RowKit.Below w.heap.size w (w.alloc o)) := fun w o => (Below.refl _ w).alloc (Nat.le_refl _) _
  obtain ⟨m, hm⟩ : ∃ m, m = ids.length := ⟨_, rfl⟩
  rw [← hm] at hic ⊢
  have HM := Lib.hid hm
  generalize σ.length = ls at *
  generalize τ.length = lt at *
  have H0 : Hid (eqS σ τ ids = eqS σ τ (ids.drop 0)) := by show _ = _; simp
  clear hij hm
  go_enter Try.func19, Try.ntmps19
  go_wp2
  go_loopw [12] (fun x wr => ∃ j : Nat, j ≤ m ∧ x = .int .i64 j ∧ Hid (eqS σ τ ids = eqS σ τ (ids.drop j)) ∧ RowKit.Below w.heap.size w wr) (fun x _ => m - (intOf x).toNat)
  case atStart => exact ⟨0, Nat.zero_le _, rfl, H0, Below.refl _ _⟩
  case round =>
    clear H0
    obtain ⟨j, hj, rfl, HE, hlow⟩ := hrel
    by_cases hlt : j < m
    · obtain ⟨x, hx⟩ : ∃ x, ids[j]? = some x := ⟨_, List.getElem?_eq_getElem (by rw [← HM.out]; exact hlt)⟩
      obtain ⟨ad, rfl, hcx⟩ := HIJ.out j x hx
      have HSt := Lib.hid (eqS_step (σ := σ) (τ := τ) hx)
      have hcx := (hlow.cell (World.block_lt_of_cell? _ _ hcx)).trans hcx
      have hji : (j : Int) < (m : Int) := by omega
      clear hx
      go_upto_region 5 with (first
        | (go_at_call 43; refine (HV.out x _).mono ?_; rintro e w3 ⟨rfl, hb3⟩; have hlow3 := hlow.trans (hb3.mono hlow.size); clear hb3)
        | (refine wpList_store5 rfl _ _ rfl _ _ _ _ _ _ (HBM.out _) rfl _ _ _ _ _ _ _ rfl ?_; intro w5 hB5 hg5 hs5; have hb5 : RowKit.Below w3.heap.size w3 w5 := Below.grown (HAl.out _ _) hg5 (HAl.out _ _).size (fun k hk => by cases hk; exact Nat.le_refl _); have hlow5 := hlow3.trans (hb5.mono hlow3.size); clear hb5 hg5 hs5))
      obtain ⟨b0, b1, b2, b3, b4⟩ := hB5.cells
      generalize w3.heap.size = B at *
      have HC1 : Hid (∀ W, RowKit.Below w5.heap.size w5 W → _) := fun W hb => HA1.out x W (hlow5.trans (hb.mono hlow5.size))
      have HC2 : Hid (∀ W, RowKit.Below w5.heap.size w5 W → _) := fun W hb => HA2.out x W (hlow5.trans (hb.mono hlow5.size))
      have HEq : Hid (∀ (v u : Value) (W' : World), Rep W' (fun _ => True) (repl σ (cv x)) v → Rep W' (fun _ => True) (repl τ (cv x)) u → Calls Try.prog 44 #[v, u] W' fun e W'' => e = .returned (.bool (teq (repl σ (cv x)) (repl τ (cv x)))) ∧ RowKit.Below W'.heap.size W' W'') := fun v u W' h1 h2 => equal_any _ _ (Nat.le_refl _) _ v u _ _ W' h1 h2
      clear hcx hB5
      cases hq : teq (repl σ (cv x)) (repl τ (cv x))
      all_goals
        rw [hq] at HEq
        go_wp2_with fail
        go_region_held3 (fun w' => w'.cell? ⟨B, 0, none⟩ = some (.int .i64 1) ∧ w'.cell? ⟨B, 1, none⟩ = some (.string ⟨#[]⟩) ∧ w'.cell? ⟨B, 2, none⟩ = some (.int .i64 x) ∧ w'.cell? ⟨B, 3, none⟩ = some (.int .i64 0) ∧ w'.cell? ⟨B, 4, none⟩ = some (.slice none 0 0) ∧ RowKit.Below w5.heap.size w5 w')
          (first
            | (go_split_ands; exact keep5' (by assumption) (by assumption) (by assumption) (by assumption) (by assumption) (by assumption) hb)
            | exact ⟨b0, b1, b2, b3, b4, (Below.refl _ w5).drew⟩)
          (first
            | (go_at_call 15; (with_reducible refine (HC1.out _ ?_).mono ?_); (go_split_ands; assumption); rintro e w' ⟨p1, rfl, hp, hb⟩; have HP1 := Lib.hid hp; clear hp)
            | (go_at_call 15; (with_reducible refine (HC2.out _ ?_).mono ?_); (go_split_ands; assumption); rintro e w' ⟨p2, rfl, hp, hb⟩; have HP1b := Lib.hid (HP1.out.lift hb); have HP2 := Lib.hid hp; clear hp)
            | (go_at_call 44; (with_reducible refine (HEq.out p1 p2 _ HP1b.out HP2.out).mono ?_); rintro e w' ⟨rfl, hb⟩))
      all_goals
        go_split_ands
        have hbF : RowKit.Below w5.heap.size w5 w' := by assumption
        have hlowF := hlow5.trans (hbF.mono hlow5.size)
      all_goals first
        | (go_wp2; go_ret; exact ⟨by rw [HE.out, HSt.out, hq]; rfl, hlowF⟩)
        | (go_wp2; go_roundw; (case rel => exact ⟨j + 1, hlt, by go_num, by show _ = _; rw [HE.out, HSt.out, hq]; rfl, hlowF⟩); (case measure => simp [intOf]; omega))
    · have HF : Hid (eqS σ τ ids = true) := by
        show _ = _
        rw [HE.out, List.drop_eq_nil_of_le (by rw [← HM.out]; omega)]; rfl
      go_wp2
      go_ret
      exact ⟨by rw [HF.out]; rfl, hlow⟩
end Go.Proofs.Ytmjdddmfhakabaa

namespace Go.Proofs.Ytmjdddmfhakabaa
open Go.RowKit Go.Sort Go.Shelf Go.Maps Mth

theorem keep1' {W w1 w2 : World} {ad : Addr} {a0 : Value} (h0 : w1.cell? ad = some a0) (hW : RowKit.Below W.heap.size W w1) (hb : RowKit.Below w1.heap.size w1 w2) : w2.cell? ad = some a0 ∧ RowKit.Below W.heap.size W w2 :=
  ⟨(hb.cell (World.block_lt_of_cell? _ _ h0)).trans h0, hW.trans (hb.mono hW.size)⟩
set_option maxRecDepth 100000 in
set_option maxHeartbeats 6400000 in
theorem refEqs_any : EqsAt Try.prog 26 := by
  intro σ τ ids sv tv iv w hs ht hi
  have HSA := Lib.hid hs
  have HTA := Lib.hid ht
  obtain ⟨sa, sc, rfl, -, -⟩ := hs
  obtain ⟨ta, tc, rfl, -, -⟩ := ht
  obtain ⟨ia, ic, rfl, hic, hic2, hij⟩ := hi
  unfold maxLen at hic2
  have HIJ := Lib.hid hij
  have HA1 : Hid (∀ x W, RowKit.Below w.heap.size w W → _) := fun x W hb => apl_cv refApply_any σ _ w HSA.out x W hb
  have HA2 : Hid (∀ x W, RowKit.Below w.heap.size w W → _) := fun x W hb => apl_cv refApply_any τ _ w HTA.out x W hb
  have HV : Hid (∀ x w, Calls Try.prog 30 #[.int .i64 x] w fun e w' => e = .returned (.agg #[.int .i64 1, .string ⟨#[]⟩, .int .i64 x, .int .i64 0, .slice none 0 0]) ∧ RowKit.Below w.heap.size w w') := fun x w => refVar_any x w
  obtain ⟨m, hm⟩ : ∃ m, m = ids.length := ⟨_, rfl⟩
  rw [← hm] at hic ⊢
  have HM := Lib.hid hm
  generalize σ.length = ls at *
  generalize τ.length = lt at *
  have H0 : Hid (eqS σ τ ids = eqS σ τ (ids.drop 0)) := by show _ = _; simp
  clear hij hm
  go_enter Try.func26, Try.ntmps26
  go_wp2
  go_loopw [7] (fun x wr => ∃ j : Nat, j ≤ m ∧ x = .int .i64 j ∧ Hid (eqS σ τ ids = eqS σ τ (ids.drop j)) ∧ RowKit.Below w.heap.size w wr) (fun x _ => m - (intOf x).toNat)
  case atStart => exact ⟨0, Nat.zero_le _, rfl, H0, Below.refl _ _⟩
  case round =>
    clear H0
    obtain ⟨j, hj, rfl, HE, hlow⟩ := hrel
    by_cases hlt : j < m
    · obtain ⟨x, hx⟩ : ∃ x, ids[j]? = some x := ⟨_, List.getElem?_eq_getElem (by rw [← HM.out]; exact hlt)⟩
      obtain ⟨ad, rfl, hcx⟩ := HIJ.out j x hx
      have HSt := Lib.hid (eqS_step (σ := σ) (τ := τ) hx)
      have b0 := (hlow.cell (World.block_lt_of_cell? _ _ hcx)).trans hcx
      have hji : (j : Int) < (m : Int) := by omega
      clear hx hcx
      have HC1 : Hid (∀ W, RowKit.Below wr.heap.size wr W → _) := fun W hb => HA1.out x W (hlow.trans (hb.mono hlow.size))
      have HC2 : Hid (∀ W, RowKit.Below wr.heap.size wr W → _) := fun W hb => HA2.out x W (hlow.trans (hb.mono hlow.size))
      have HEq : Hid (∀ (v u : Value) (W' : World), Rep W' (fun _ => True) (repl σ (cv x)) v → Rep W' (fun _ => True) (repl τ (cv x)) u → Calls Try.prog 14 #[v, u] W' fun e W'' => e = .returned (.bool (teq (repl σ (cv x)) (repl τ (cv x)))) ∧ RowKit.Below W'.heap.size W' W'') := fun v u W' h1 h2 => refEqual_any _ _ (Nat.le_refl _) _ v u _ _ W' h1 h2
      cases hq : teq (repl σ (cv x)) (repl τ (cv x))
      all_goals
        rw [hq] at HEq
        go_wp2_with fail
        go_region_held3 (fun w' => w'.cell? (ad.add j) = some (.int .i64 x) ∧ RowKit.Below wr.heap.size wr w')
          (first
            | (go_split_ands; exact keep1' (by assumption) (by assumption) hb)
            | exact ⟨b0, (Below.refl _ wr).drew⟩)
          (first
            | (go_at_call 30; (with_reducible refine (HV.out x _).mono ?_); rintro e w' ⟨rfl, hb⟩; (first | (have HP1b := Lib.hid (HP1.out.lift hb)) | skip))
            | (go_at_call 16; (with_reducible refine (HC1.out _ ?_).mono ?_); (go_split_ands; assumption); rintro e w' ⟨p1, rfl, hp, hb⟩; have HP1 := Lib.hid hp; clear hp)
            | (go_at_call 16; (with_reducible refine (HC2.out _ ?_).mono ?_); (go_split_ands; assumption); rintro e w' ⟨p2, rfl, hp, hb⟩; have HP1c := Lib.hid (HP1b.out.lift hb); have HP2 := Lib.hid hp; clear hp)
            | (go_at_call 14; (with_reducible refine (HEq.out p1 p2 _ HP1c.out HP2.out).mono ?_); rintro e w' ⟨rfl, hb⟩))
      all_goals
        go_split_ands
        have hbF : RowKit.Below wr.heap.size wr w' := by assumption
        have hlowF := hlow.trans (hbF.mono hlow.size)
      all_goals first
        | (go_wp2; go_ret; exact ⟨by rw [HE.out, HSt.out, hq]; rfl, hlowF⟩)
        | (go_wp2; go_roundw; (case rel => exact ⟨j + 1, hlt, by go_num, by show _ = _; rw [HE.out, HSt.out, hq]; rfl, hlowF⟩); (case measure => simp [intOf]; omega))
    · have HF : Hid (eqS σ τ ids = true) := by
        show _ = _
        rw [HE.out, List.drop_eq_nil_of_le (by rw [← HM.out]; omega)]; rfl
      go_wp2
      go_ret
      exact ⟨by rw [HF.out]; rfl, hlow⟩
set_option maxRecDepth 100000 in
set_option maxHeartbeats 6400000 in
/-- Does a variable stay as it is? -/
theorem fixes_any (σ : List (Int × Ty)) (sv : Value) (x : Int) (w : World) (hs : AsL w (fun _ => True) σ sv) :
    Calls Try.prog 49 #[sv, .int .i64 x] w fun e w' => e = .returned (.bool (teq (repl σ (cv x)) (cv x))) ∧ RowKit.Below w.heap.size w w' := by
  have HSA := Lib.hid hs
  obtain ⟨sa, sc, rfl, -, -⟩ := hs
  have HA1 : Hid (∀ x W, RowKit.Below w.heap.size w W → _) := fun x W hb => apl_cv apply_any σ _ w HSA.out x W hb
  have HV : Hid (∀ x w, Calls Try.prog 43 #[.int .i64 x] w fun e w' => e = .returned (.agg #[.int .i64 1, .string ⟨#[]⟩, .int .i64 x, .int .i64 0, .slice none 0 0]) ∧ RowKit.Below w.heap.size w w') := fun x w => pkVar_any x w
  have HBM : Hid (∀ w : World, Zero (w.alloc (.cells #[.int .i64 0, .string ⟨#[]⟩, .int .i64 0, .int .i64 0, .slice none 0 0] 28)) w.heap.size) := fun w => Box.made _ _ _ _ _ _
  have HAl : Hid (∀ (w : World) (o : Obj), RowKit.Below w.heap.size w (w.alloc o)) := fun w o => (Below.refl _ w).alloc (Nat.le_refl _) _
  generalize σ.length = ls at *
  go_enter Try.func49, Try.ntmps49
  go_upto_region 2 with (first
    | (go_at_call 43; refine (HV.out x _).mono ?_; rintro e w3 ⟨rfl, hb3⟩)
    | (refine wpList_store5 rfl _ _ rfl _ _ _ _ _ _ (HBM.out _) rfl _ _ _ _ _ _ _ rfl ?_; intro w5 hB5 hg5 hs5; have hb5 : RowKit.Below w3.heap.size w3 w5 := Below.grown (HAl.out _ _) hg5 (HAl.out _ _).size (fun k hk => by cases hk; exact Nat.le_refl _); have hlow5 := hb3.trans (hb5.mono hb3.size); clear hb5 hg5 hs5))
  obtain ⟨b0, b1, b2, b3, b4⟩ := hB5.cells
  generalize w3.heap.size = B at *
  have HC1 : Hid (∀ W, RowKit.Below w5.heap.size w5 W → _) := fun W hb => HA1.out x W (hlow5.trans (hb.mono hlow5.size))
  have HEq : Hid (∀ (v : Value) (W' : World), Rep W' (fun _ => True) (repl σ (cv x)) v → Calls Try.prog 44 #[v, .agg #[.int .i64 1, .string ⟨#[]⟩, .int .i64 x, .int .i64 0, .slice none 0 0]] W' fun e W'' => e = .returned (.bool (teq (repl σ (cv x)) (cv x))) ∧ RowKit.Below W'.heap.size W' W'') := fun v W' h1 => equal_any _ _ (Nat.le_refl _) _ v _ _ (fun _ => True) W' h1 (rep_cv _ _ _)
  clear hB5
  obtain ⟨q, hq⟩ : ∃ q, q = teq (repl σ (cv x)) (cv x) := ⟨_, rfl⟩
  rw [← hq] at HEq
  have HQ := Lib.hid hq
  clear hq
  go_wp2_with fail
  go_region_held3 (fun w' => w'.cell? ⟨B, 0, none⟩ = some (.int .i64 1) ∧ w'.cell? ⟨B, 1, none⟩ = some (.string ⟨#[]⟩) ∧ w'.cell? ⟨B, 2, none⟩ = some (.int .i64 x) ∧ w'.cell? ⟨B, 3, none⟩ = some (.int .i64 0) ∧ w'.cell? ⟨B, 4, none⟩ = some (.slice none 0 0) ∧ RowKit.Below w5.heap.size w5 w')
    (first
      | (go_split_ands; exact keep5' (by assumption) (by assumption) (by assumption) (by assumption) (by assumption) (by assumption) hb)
      | exact ⟨b0, b1, b2, b3, b4, (Below.refl _ w5).drew⟩)
    (first
      | (go_at_call 15; (with_reducible refine (HC1.out _ ?_).mono ?_); (go_split_ands; assumption); rintro e w' ⟨p1, rfl, hp, hb⟩; have HP1 := Lib.hid hp; clear hp)
      | (go_at_call 44; (with_reducible refine (HEq.out p1 _ HP1.out).mono ?_); rintro e w' ⟨rfl, hb⟩))
  all_goals
    go_split_ands
    have hbF : RowKit.Below w5.heap.size w5 w' := by assumption
    have hlowF := hlow5.trans (hbF.mono hlow5.size)
    go_wp2
    go_ret
    exact ⟨by rw [← HQ.out]; rfl, hlowF⟩
end Go.Proofs.Ytmjdddmfhakabaa
