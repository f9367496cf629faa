/- The contract of the reference's Depth. The contracts of the reader's Atom and Type, by the fuel. What a loop of the reader that appends to a field holds. The contract of the reader's declaration. The contract of the reference's Deep, for programs without bindings that keep the limits. The contracts of the reader's New and of the reference's Parse, of a text of data declarations. The contract of the reference's Parse, of a text of data declarations. The text that the maker parses, and the contract of its all. The contract of the maker's Datas. -/
import Derived.Test.YtahiefgfhpkoeaaTyMake
import Derived.Test.YtahiefgfhpkoeaaTyCon
import Derived.Test.YtahiefgfhpkoeaaTyPType
import Derived.Test.YtahiefgfhpkoeaaTyEls
namespace Go.Proofs.Ytahiefgfhpkoeaa
open Go.RowKit Go.Sort Go.Shelf Go.Maps Mth

mutual
def dep : Ty → Nat
  | .mk _ _ _ _ ts => depL ts
def depL : List Ty → Nat
  | [] => 0
  | t :: ts => max (dep t + 1) (depL ts)
end
theorem depL_append (x y : List Ty) : depL (x ++ y) = max (depL x) (depL y) := by
  induction x with
  | nil => simp [depL]
  | cons t x ih => simp only [List.cons_append, depL, ih]; omega
theorem depL_take (l : List Ty) (j : Nat) : depL (l.take j) ≤ depL l := by
  have := depL_append (l.take j) (l.drop j)
  rw [List.take_append_drop] at this
  omega
def DepAt (P : Program) (f : Nat) (T : Ty) : Prop := dep T ≤ 1000000 → ∀ (v : Value) (S : Nat → Prop) (w : World), Rep w S T v →
  Calls P f #[v] w fun e w' => e = .returned (.int .i64 (dep T : Int)) ∧ Below w.heap.size w w'

set_option maxHeartbeats 1600000 in
theorem depth_of (T : Ty) (H : ∀ U ∈ T.ts, DepAt Try.prog 102 U) : DepAt Try.prog 102 T := by
  intro hd v S w h
  obtain ⟨k, nm, i, hm, s, eT, rfl, hn, hs⟩ := h.open
  have hnT : dep T = depL T.ts := by cases T; rfl
  obtain ⟨a, cap, rfl, ⟨hc1, hc2⟩, hj⟩ := hs
  have HJ := Lib.hid hj
  have HH := Lib.hid H
  clear hj H eT hn h
  unfold maxLen at hc2
  obtain ⟨l, hl⟩ : ∃ l, l = T.ts := ⟨_, rfl⟩
  rw [hnT] at hd ⊢
  rw [← hl] at HJ HH hc1 hd ⊢
  clear hl hnT
  obtain ⟨c, hcc⟩ : ∃ c, c = l.length := ⟨_, rfl⟩
  rw [← hcc] at hc1 ⊢
  have HM := Lib.hid hcc
  clear hcc
  go_enter Try.func102, Try.ntmps102
  go_wp2
  go_loopw [3, 4] (fun y x wr => ∃ j q : Nat, j ≤ c ∧ x = .int .i64 j ∧ y = .int .i64 q ∧ Hid (q = depL (l.take j)) ∧ q ≤ 1000000 ∧ Below (w.heap.size + 1) (w.alloc (.cells #[.int .i64 k, .string nm, .int .i64 i, .int .i64 hm, .slice a c cap] 25)) wr) (fun _ x _ => c - (intOf x).toNat)
  case atStart => exact ⟨0, 0, Nat.zero_le _, rfl, rfl, rfl, by omega, Below.refl _ _⟩
  case round =>
    obtain ⟨j, q, hj, rfl, rfl, HQ, hq1, hb⟩ := hrel
    have b4 := box_cell hb 4 (.slice a c cap) (by simp)
    have hbw := box_below hb
    have hsz := hb.size
    simp at hsz
    by_cases hlt : j < c
    · obtain ⟨U, hU⟩ : ∃ x, l[j]? = some x := ⟨_, List.getElem?_eq_getElem (by rw [← HM.out]; exact hlt)⟩
      have HUm : Hid (U ∈ l) := List.mem_of_getElem? hU
      have hstep : depL (l.take (j + 1)) = max (depL (l.take j)) (dep U + 1) := by
        rw [List.take_add_one, hU, depL_append]; simp [depL]
      have hle := depL_take l (j + 1)
      rw [hstep] at hle
      have hdu : dep U ≤ 999999 := by omega
      have HQ2 : Hid (max q (dep U + 1) = depL (l.take (j + 1))) := by show _ = _; rw [hstep, HQ.out]
      clear hstep hle
      obtain ⟨ad, x, rfl, hS, h5, hx⟩ := HJ.out j U hU
      clear hU
      have hx' := hx.lift hbw
      have g5 := h5.kept (hbw.block _ h5.lt)
      obtain ⟨k', n', i', h', s', eU, rfl, hn2, hs2⟩ := hx'.open
      obtain ⟨q0, q1, q2, q3, q4⟩ := five_at g5
      obtain ⟨sa', sc', rfl, -⟩ := hs2
      have HX := Lib.hid hx'
      clear h5 hx g5 eU hn2 hS hx'
      have hji : (j : Int) < (c : Int) := by omega
      generalize U.ts.length = sn' at *
      have HC := Lib.hid (HH.out U HUm.out (by omega) _ S wr HX.out)
      generalize dep U = r at *
      have hmx : max (q : Int) (1 + (r : Int)) = ((max q (r + 1) : Nat) : Int) := by omega
      have hml : max q (r + 1) ≤ 1000000 := by omega
      go_wp2_with (go_at_call 102; refine HC.out.mono ?_; rintro e w1 ⟨rfl, hb1⟩)
      go_roundw
      case rel => exact ⟨j + 1, max q (r + 1), hlt, by go_num, by simp <;> omega, HQ2, hml, hb.trans (hb1.mono (by omega))⟩
      case measure => simp [intOf]; omega
    · have HF2 : Hid ((q : Int) = (depL l : Nat)) := by
        show _ = _
        rw [HQ.out, List.take_of_length_le (by rw [← HM.out]; omega)]
      clear hsz
      go_wp2
      go_ret
      exact ⟨ret_int HF2.out, hbw⟩
theorem depth_any (T : Ty) : DepAt Try.prog 102 T := Ty.induct depth_of T
end Go.Proofs.Ytahiefgfhpkoeaa

namespace Go.Proofs.Ytahiefgfhpkoeaa
open Go.RowKit Go.Sort Go.Shelf Go.Maps Mth

theorem pAt_none (fid : Nat) (ts : List Tok) (i : Nat) : PAt fid ts i none := fun T j h => by cases h
theorem reader_all (ts : List Tok) (hok : TkOk ts) : ∀ f, f ≤ 1000 → Hid (∀ g, g ≤ f → ∀ i, PAt 98 ts i (pAtom g ts i)) ∧ Hid (∀ g, g ≤ f → ∀ i, PAt 100 ts i (pType g ts i)) := by
  intro f
  induction f with
  | zero =>
    intro _
    refine ⟨fun g hg i => ?_, fun g hg i => ?_⟩
    · obtain rfl : g = 0 := Nat.le_zero.1 hg
      unfold pAtom; exact pAt_none _ _ _
    · obtain rfl : g = 0 := Nat.le_zero.1 hg
      unfold pType; exact pAt_none _ _ _
  | succ f ih =>
    intro hf
    obtain ⟨hA, hT⟩ := ih (by omega)
    refine ⟨fun g hg i => ?_, fun g hg i => ?_⟩
    · by_cases h : g ≤ f
      · exact hA.out g h i
      · obtain rfl : g = f + 1 := by omega
        exact pAtom_of ts hok i f (hT.out f (Nat.le_refl _) (i + 1))
    · by_cases h : g ≤ f
      · exact hT.out g h i
      · obtain rfl : g = f + 1 := by omega
        exact pType_of ts hok f (by omega) hA hT i
theorem atom_any (ts : List Tok) (hok : TkOk ts) (f : Nat) (hf : f ≤ 1000) (i : Nat) : PAt 98 ts i (pAtom f ts i) := (reader_all ts hok f hf).1.out f (Nat.le_refl _) i
theorem type_any (ts : List Tok) (hok : TkOk ts) (f : Nat) (hf : f ≤ 1000) (i : Nat) : PAt 100 ts i (pType f ts i) := (reader_all ts hok f hf).2.out f (Nat.le_refl _) i
end Go.Proofs.Ytahiefgfhpkoeaa

namespace Go.Proofs.Ytahiefgfhpkoeaa
open Go.RowKit Go.Sort Go.Shelf Go.Maps Mth

/-- J is kept where no block is touched but the reader's, the box's and those from base on. -/
structure JOk (w : World) (b D base : Nat) (J : World → Prop) : Prop where
  hb : b < w.heap.size
  hD : w.heap.size ≤ D
  hbase : D < base
  keep : ∀ v v' row, J v → v.grownBy v' row → (∀ R, row = some R → R = b ∨ R = D ∨ base ≤ R) → J v'
structure PSt {α : Type} (E : El α) (w : World) (D base : Nat) (T : TypeId) (J : World → Prop) (v : World) (b q : Nat) (ts : List Tok) (d : Array Value) (m : Nat) (old sv : Value) (acc : List α) : Prop where
  rd : RdT v b ts q
  box : v.heap[D]? = some (.cells d T (0, 0))
  at_ : d[m]? = some old
  row : RowG E v base (fun c => base ≤ c) sv acc
  oth : J v
  grown : w.grownBy v (some b)
  size : base ≤ v.heap.size

section
variable {α : Type} {E : El α} {w : World} {D base : Nat} {T : TypeId} {J : World → Prop} {v v' : World} {b q q' : Nat} {ts : List Tok} {d : Array Value} {m : Nat} {old sv : Value} {acc : List α}
theorem PSt.call (hJ : JOk w b D base J) (h : PSt E w D base T J v b q ts d m old sv acc) (hr : RdT v' b ts q') (hg : v.grownBy v' (some b)) : PSt E w D base T J v' b q' ts d m old sv acc :=
  have h1 := hJ.hb
  have h2 := hJ.hD
  have h3 := hJ.hbase
  ⟨hr, (hg.block D (Nat.lt_of_lt_of_le h3 h.size) (fun e => by have := Option.some.inj e; omega)).trans h.box, h.at_, h.row.kept hg (h.row.off (by omega)) (fun c hc e => by have := Option.some.inj e; omega), hJ.keep _ _ _ h.oth hg (fun R e => .inl (Option.some.inj e).symm), grown_trans h.grown hg, Nat.le_trans h.size hg.size⟩
theorem PSt.lift (hJ : JOk w b D base J) (h : PSt E w D base T J v b q ts d m old sv acc) (hb : Below v.heap.size v v') : PSt E w D base T J v' b q ts d m old sv acc :=
  h.call hJ (h.rd.lift hb) (grown_of_below hb _)
theorem PSt.drew (hJ : JOk w b D base J) (h : PSt E w D base T J v b q ts d m old sv acc) : PSt E w D base T J v.drew b q ts d m old sv acc := h.lift hJ (Below.refl _ v).drew
theorem cell_of_block {v : World} {D : Nat} {d : Array Value} {T : TypeId} {m : Nat} {x : Value} (h : v.heap[D]? = some (.cells d T (0, 0))) (hm : d[m]? = some x) : v.cell? ⟨D, m, none⟩ = some x ∧ v.frozen? ⟨D, m, none⟩ = false := by
  constructor
  · simp [World.cell?, h, hm]
  · simp [World.frozen?, h]
theorem PSt.cell (h : PSt E w D base T J v b q ts d m old sv acc) : v.cell? ⟨D, m, none⟩ = some old := (cell_of_block h.box h.at_).1
theorem PSt.frozen (h : PSt E w D base T J v b q ts d m old sv acc) : v.frozen? ⟨D, m, none⟩ = false := (cell_of_block h.box h.at_).2
theorem PSt.cellA (hJ : JOk w b D base J) (h : PSt E w D base T J v b q ts d m old sv acc) (o : Obj) : (v.alloc o).cell? ⟨D, m, none⟩ = some old := (h.lift hJ ((Below.refl _ v).alloc (Nat.le_refl _) o)).cell
theorem PSt.cellD (hJ : JOk w b D base J) (h : PSt E w D base T J v b q ts d m old sv acc) (o : Obj) : (v.drew.alloc o).cell? ⟨D, m, none⟩ = some old := (h.lift hJ ((Below.refl _ v).drew.alloc (Nat.le_refl _) o)).cell
theorem step_pushP (hJ : JOk w b D base J) (h : PSt E w D base T J v b q ts d m old sv acc) (x : α) (c : List Value) (hx : E.rep v (fun c => base ≤ c ∧ some c ≠ sv.ownBlock) x c) (X : Array Value) (hX : X = c.toArray)
    {ops : Array Oper} {o : Oper} {a : Act} {K : Act → World → Prop} {Q : Exit → Act → World → Prop} {E' : Prop} (Z : TypeId) (hgd : o.guard = none) (s y : Operand)
    (ho : o.op = .call { callee := .builtin .append, args := #[s, y], argTypes := #[E.t, E.t] })
    (hs : a.eval s = sv) (nn : Nat) (hnn : nn = v.heap.size) (hy : a.eval y = .slice (some ⟨nn, 0, none⟩) 1 1) (N : Nat) (hN : N = acc.length + 1) (hb : N ≤ 1000000)
    (hK : ∀ (a' : Option Addr) (c' : Nat) (v3 : World), PSt E w D base T J v3 b q ts d m old (.slice a' N c') (acc ++ [x]) → K (a.put o.dst (.slice a' N c')) v3) :
    if Region.wanted o (yielded ops a.tmps) = true then Oper.wp Try.prog o a (v.alloc (.cells X Z)) K Q else E' := by
  subst hnn hX
  have hba : Below v.heap.size v (v.alloc (.cells c.toArray Z)) := (Below.refl _ v).alloc (Nat.le_refl _) _
  have hA := h.lift hJ hba
  have hlt := fun k e => RowG.lt h.row k e
  have h1 := hJ.hb
  have h2 := hJ.hD
  have h3 := hJ.hbase
  refine step_pushG E hgd s y ho base (fun c => base ≤ c) sv acc hs hA.row v.heap.size Z c (heap_alloc_new v _) hy x (E.kept (fun _ h => h) (fun b _ hlt => hba.block b hlt) hx) N hN hb (Nat.le_trans h.size hba.size) ?_
  intro a' c' v3 hrow3 hg3
  refine hK a' c' v3 ⟨?_, (hg3.block D (Nat.lt_of_lt_of_le h3 hA.size) (fun e => by have := (hlt _ e.symm).1; omega)).trans hA.box, hA.at_, hrow3, hJ.keep _ _ _ hA.oth hg3 (fun R e => .inr (.inr (hlt R e).1)), ?_, Nat.le_trans hA.size hg3.size⟩
  · cases hv : sv.ownBlock with
    | none => rw [hv] at hg3; exact hA.rd.lift ⟨hg3.os, hg3.tape, hg3.output, hg3.size, fun i hi => hg3.block i hi (by simp)⟩
    | some R => rw [hv] at hg3; exact hA.rd.other (by have := (hlt R hv).1; omega) hg3
  · exact grown_fresh hA.grown hg3 fun R e => by have := (hlt R e).1; omega
/-- The same in a plain region. -/
theorem wpList_pushP (hJ : JOk w b D base J) (h : PSt E w D base T J v b q ts d m old sv acc) (x : α) (c : List Value) (hx : E.rep v (fun c => base ≤ c ∧ some c ≠ sv.ownBlock) x c) (X : Array Value) (hX : X = c.toArray)
    {ops : Array Oper} {rest : List Oper} {o : Oper} {a : Act} {Q : Exit → Act → World → Prop} (Z : TypeId) (hgd : o.guard = none) (s y : Operand)
    (ho : o.op = .call { callee := .builtin .append, args := #[s, y], argTypes := #[E.t, E.t] })
    (hs : a.eval s = sv) (nn : Nat) (hnn : nn = v.heap.size) (hy : a.eval y = .slice (some ⟨nn, 0, none⟩) 1 1) (N : Nat) (hN : N = acc.length + 1) (hb : N ≤ 1000000)
    (hK : ∀ (a' : Option Addr) (c' : Nat) (v3 : World), PSt E w D base T J v3 b q ts d m old (.slice a' N c') (acc ++ [x]) → wpList Try.prog ops Q rest (a.put o.dst (.slice a' N c')) v3) :
    wpList Try.prog ops Q (o :: rest) a (v.alloc (.cells X Z)) := by
  subst hnn hX
  have hba : Below v.heap.size v (v.alloc (.cells c.toArray Z)) := (Below.refl _ v).alloc (Nat.le_refl _) _
  have hA := h.lift hJ hba
  have hlt := fun k e => RowG.lt h.row k e
  have h1 := hJ.hb
  have h2 := hJ.hD
  have h3 := hJ.hbase
  refine wpList_pushG E hgd s y ho base (fun c => base ≤ c) sv acc hs hA.row v.heap.size Z c (heap_alloc_new v _) hy x (E.kept (fun _ h => h) (fun b _ hlt => hba.block b hlt) hx) N hN hb (Nat.le_trans h.size hba.size) ?_
  intro a' c' v3 hrow3 hg3
  refine hK a' c' v3 ⟨?_, (hg3.block D (Nat.lt_of_lt_of_le h3 hA.size) (fun e => by have := (hlt _ e.symm).1; omega)).trans hA.box, hA.at_, hrow3, hJ.keep _ _ _ hA.oth hg3 (fun R e => .inr (.inr (hlt R e).1)), ?_, Nat.le_trans hA.size hg3.size⟩
  · cases hv : sv.ownBlock with
    | none => rw [hv] at hg3; exact hA.rd.lift ⟨hg3.os, hg3.tape, hg3.output, hg3.size, fun i hi => hg3.block i hi (by simp)⟩
    | some R => rw [hv] at hg3; exact hA.rd.other (by have := (hlt R hv).1; omega) hg3
  · exact grown_fresh hA.grown hg3 fun R e => by have := (hlt R e).1; omega
theorem PSt.stored (hJ : JOk w b D base J) (h : PSt E w D base T J v b q ts d m old sv acc) : PSt E w D base T J (v.setCell ⟨D, m, none⟩ sv) b q ts (d.setIfInBounds m sv) m sv sv acc := by
  obtain ⟨e1, e2, e3⟩ := set1 h.box m sv
  have h1 := hJ.hb
  have h2 := hJ.hD
  have h3 := hJ.hbase
  have hlt := fun k e => RowG.lt h.row k e
  have hm : m < d.size := by
    have := h.at_
    rw [Array.getElem?_eq_some_iff] at this
    exact this.1
  refine ⟨h.rd.other (by omega) e2, e1, ?_, h.row.kept e2 (h.row.off (by omega)) (fun c hc e => by have := Option.some.inj e; omega), hJ.keep _ _ _ h.oth e2 (fun R e => .inr (.inl (Option.some.inj e).symm)), grown_fresh h.grown e2 fun R e => by have := Option.some.inj e; omega, by rw [e3]; exact h.size⟩
  simp [hm]
end
end Go.Proofs.Ytahiefgfhpkoeaa

namespace Go.Proofs.Ytahiefgfhpkoeaa
open Go.RowKit Go.Sort Go.Shelf Go.Maps Mth

def pPos (ts : List Tok) (i : Nat) : Int := match ts[i]? with | some t => t.pos | none => 0
def pParams : Nat → List Tok → Nat → List ByteArray → Option (List ByteArray × Nat)
  | 0, _, _, _ => none
  | f + 1, ts, i, acc => if rKind ts i 1 then pParams f ts (i + 1) (acc ++ [txt ts i]) else some (acc, i)
def pCtors : Nat → List Tok → Nat → List Ctor → Option (List Ctor × Nat)
  | 0, _, _, _ => none
  | f + 1, ts, i, acc =>
    if rKind ts i 2 then
      match pArgs f ts (i + 1) [] with
      | some (l, j) => if rIs ts j ⟨#[124]⟩ then pCtors f ts (j + 1) (acc ++ [⟨pPos ts i, txt ts i, l⟩]) else some (acc ++ [⟨pPos ts i, txt ts i, l⟩], j)
      | none => none
    else none
def pDecl (f : Nat) (ts : List Tok) (i : Nat) : Option (Dat × Nat) :=
  if rIs ts i ⟨#[100, 97, 116, 97]⟩ && rKind ts (i + 1) 2 then
    match pParams f ts (i + 1 + 1) [] with
    | some (ps, j) =>
      if rIs ts j ⟨#[61]⟩ then
        match pCtors f ts (j + 1) [] with
        | some (cs, k) => if rIs ts k ⟨#[59]⟩ then some (⟨pPos ts i, txt ts (i + 1), ps, cs⟩, k + 1) else none
        | none => none
      else none
    | none => none
  else none
theorem decl_cases {f : Nat} {ts : List Tok} {i j : Nat} {d : Dat} (h : pDecl f ts i = some (d, j)) :
    rIs ts i ⟨#[100, 97, 116, 97]⟩ = true ∧ rKind ts (i + 1) 2 = true ∧ ∃ ps cs p k, pParams f ts (i + 1 + 1) [] = some (ps, p) ∧ rIs ts p ⟨#[61]⟩ = true ∧ pCtors f ts (p + 1) [] = some (cs, k) ∧ rIs ts k ⟨#[59]⟩ = true ∧ j = k + 1 ∧ d = ⟨pPos ts i, txt ts (i + 1), ps, cs⟩ := by
  unfold pDecl at h
  split at h
  · rename_i h1
    rw [Bool.and_eq_true] at h1
    split at h
    · rename_i ps p hp
      split at h
      · rename_i he
        split at h
        · rename_i cs k hk
          split at h
          · rename_i hs
            simp only [Option.some.injEq, Prod.mk.injEq] at h
            exact ⟨h1.1, h1.2, ps, cs, p, k, hp, he, hk, hs, h.2.symm, h.1.symm⟩
          · simp at h
        · simp at h
      · simp at h
    · simp at h
  · simp at h
theorem params_cases {g : Nat} {ts : List Tok} {i j : Nat} {acc l : List ByteArray} (h : pParams g ts i acc = some (l, j)) :
    (rKind ts i 1 = false ∧ l = acc ∧ j = i) ∨ (rKind ts i 1 = true ∧ ∃ g', g = g' + 1 ∧ pParams g' ts (i + 1) (acc ++ [txt ts i]) = some (l, j)) := by
  cases g with
  | zero => simp [pParams] at h
  | succ g =>
    unfold pParams at h
    cases h1 : rKind ts i 1 with
    | false => rw [h1] at h; simp only [Bool.false_eq_true, if_false, Option.some.injEq, Prod.mk.injEq] at h; exact .inl ⟨rfl, h.1.symm, h.2.symm⟩
    | true => rw [h1] at h; simp only [if_true] at h; exact .inr ⟨rfl, g, rfl, h⟩
theorem ctors_cases {g : Nat} {ts : List Tok} {i j : Nat} {acc l : List Ctor} (h : pCtors g ts i acc = some (l, j)) :
    rKind ts i 2 = true ∧ ∃ g' fs p, g = g' + 1 ∧ pArgs g' ts (i + 1) [] = some (fs, p) ∧
      ((rIs ts p ⟨#[124]⟩ = false ∧ l = acc ++ [⟨pPos ts i, txt ts i, fs⟩] ∧ j = p) ∨ (rIs ts p ⟨#[124]⟩ = true ∧ pCtors g' ts (p + 1) (acc ++ [⟨pPos ts i, txt ts i, fs⟩]) = some (l, j))) := by
  cases g with
  | zero => simp [pCtors] at h
  | succ g =>
    unfold pCtors at h
    split at h
    · rename_i h1
      refine ⟨h1, g, ?_⟩
      split at h
      · rename_i fs p hp
        refine ⟨fs, p, rfl, hp, ?_⟩
        split at h
        · rename_i h2
          exact .inr ⟨h2, h⟩
        · rename_i h2
          simp only [Option.some.injEq, Prod.mk.injEq] at h
          exact .inl ⟨by simpa using h2, h.1.symm, h.2.symm⟩
      · simp at h
    · simp at h
/-- A box of a declaration. -/
def BoxD (w : World) (B : Nat) (c0 c1 c2 c3 : Value) : Prop := w.heap[B]? = some (.cells #[c0, c1, c2, c3] 71 (0, 0))
theorem BoxD.lt {w : World} {B : Nat} {c0 c1 c2 c3 : Value} (h : BoxD w B c0 c1 c2 c3) : B < w.heap.size := (Array.getElem?_eq_some_iff.1 h).1
theorem BoxD.kept {w w' : World} {B : Nat} {c0 c1 c2 c3 : Value} {row : Option Nat} (h : BoxD w B c0 c1 c2 c3) (hg : w.grownBy w' row) (hne : some B ≠ row) : BoxD w' B c0 c1 c2 c3 := by
  have hl := h.lt
  unfold BoxD at *; rw [hg.block _ hl hne, h]
theorem BoxD.lift {w w' : World} {B : Nat} {c0 c1 c2 c3 : Value} (h : BoxD w B c0 c1 c2 c3) (hb : Below w.heap.size w w') : BoxD w' B c0 c1 c2 c3 := h.kept (grown_of_below hb none) (by simp)
theorem BoxD.cells {w : World} {B : Nat} {c0 c1 c2 c3 : Value} (h : BoxD w B c0 c1 c2 c3) :
    w.cell? ⟨B, 0, none⟩ = some c0 ∧ w.cell? ⟨B, 1, none⟩ = some c1 ∧ w.cell? ⟨B, 2, none⟩ = some c2 ∧ w.cell? ⟨B, 3, none⟩ = some c3 :=
  ⟨(cell_of_block h rfl).1, (cell_of_block h rfl).1, (cell_of_block h rfl).1, (cell_of_block h rfl).1⟩
theorem BoxD.frozen {w : World} {B : Nat} {c0 c1 c2 c3 : Value} (h : BoxD w B c0 c1 c2 c3) :
    w.frozen? ⟨B, 0, none⟩ = false ∧ w.frozen? ⟨B, 1, none⟩ = false ∧ w.frozen? ⟨B, 2, none⟩ = false ∧ w.frozen? ⟨B, 3, none⟩ = false :=
  ⟨(cell_of_block h rfl).2, (cell_of_block h rfl).2, (cell_of_block h rfl).2, (cell_of_block h rfl).2⟩
theorem set4D {w : World} {B : Nat} {c0 c1 c2 c3 : Value} (h : BoxD w B c0 c1 c2 c3) (v0 v1 v2 v3 : Value) :
    BoxD ((((w.setCell ⟨B, 0, none⟩ v0).setCell ⟨B, 1, none⟩ v1).setCell ⟨B, 2, none⟩ v2).setCell ⟨B, 3, none⟩ v3) B v0 v1 v2 v3 ∧
    w.grownBy ((((w.setCell ⟨B, 0, none⟩ v0).setCell ⟨B, 1, none⟩ v1).setCell ⟨B, 2, none⟩ v2).setCell ⟨B, 3, none⟩ v3) (some B) := by
  obtain ⟨a0, g0, s0⟩ := set1 h 0 v0
  obtain ⟨a1, g1, s1⟩ := set1 a0 1 v1
  obtain ⟨a2, g2, s2⟩ := set1 a1 2 v2
  obtain ⟨a3, g3, s3⟩ := set1 a2 3 v3
  refine ⟨?_, grown_trans (grown_trans (grown_trans g0 g1) g2) g3⟩
  unfold BoxD
  rw [a3]
  simp
def ZeroD (w : World) (B : Nat) : Prop := BoxD w B (.int .i64 0) (.string ⟨#[]⟩) (.slice none 0 0) (.slice none 0 0)
theorem keepD {b D base R : Nat} {c0 c1 c2 c3 : Value} (h1 : R ≠ b) (h2 : R ≠ D) (h3 : R < base) : ∀ v v' row, BoxD v R c0 c1 c2 c3 → v.grownBy v' row → (∀ Z, row = some Z → Z = b ∨ Z = D ∨ base ≤ Z) → BoxD v' R c0 c1 c2 c3 :=
  fun v v' row h hg hr => h.kept hg (fun e => by rcases hr R e.symm with e | e | e <;> omega)

/-- What the contract of a reading of a declaration says. -/
def DAt (ts : List Tok) (i : Nat) (r : Option (Dat × Nat)) : Prop :=
  ∀ (d : Dat) (j : Nat), r = some (d, j) → ∀ (b base : Nat) (w : World), b < base → base ≤ w.heap.size → RdT w b ts i →
    Calls Try.prog 77 #[.pointer (some ⟨b, 0, none⟩)] w fun e w' => ∃ c : List Value, e = .returned (.agg c.toArray) ∧ DatE.rep w' (fun c => base ≤ c) d c ∧ RdT w' b ts j ∧ w.grownBy w' (some b)

theorem enterWord (v u : Value) (w : World) : (callFunc 95 #[v, u]).run Try.prog w = .ok (.enter 95 #[v, u]) w := by kernel_rfl
theorem tyE_of {w : World} {n base : Nat} {V : Ty} {sv : Value} {uk : Int} {un : ByteArray} {ui uh : Int} {ua : Option Addr} {un' uc : Nat} (h : Rep w (fun c => n ≤ c) V (.agg #[.int .i64 uk, .string un, .int .i64 ui, .int .i64 uh, .slice ua un' uc])) (hS : ∀ c, n ≤ c → base ≤ c ∧ some c ≠ sv.ownBlock) :
    TyE.rep w (fun c => base ≤ c ∧ some c ≠ sv.ownBlock) V [.int .i64 uk, .string un, .int .i64 ui, .int .i64 uh, .slice ua un' uc] := Rep.kept hS (fun _ _ _ => rfl) h
theorem rowG_bound {α : Type} {E : El α} {w : World} {base : Nat} {S : Nat → Prop} {v : Value} {xs : List α} (h : RowG E w base S v xs) : RowG E w base (fun c => S c ∧ c < w.heap.size) v xs := by
  obtain ⟨L, hown, hl, hr⟩ := h
  refine ⟨L, hown, hl, fun j x hx => ?_⟩
  obtain ⟨c, hc, hrep⟩ := hr j x hx
  exact ⟨c, hc, E.kept (fun b hb => ⟨⟨hb.1.1, hb.2⟩, hb.1.2⟩) (fun _ _ _ => rfl) (E.bound hrep)⟩
theorem rowG_imp {α : Type} {E : El α} {w : World} {base : Nat} {S S' : Nat → Prop} {v : Value} {xs : List α} (h : RowG E w base S v xs) (hS : ∀ b, S b → S' b) : RowG E w base S' v xs := by
  obtain ⟨L, hown, hl, hr⟩ := h
  refine ⟨L, hown, hl, fun j x hx => ?_⟩
  obtain ⟨c, hc, hrep⟩ := hr j x hx
  exact ⟨c, hc, E.kept (fun b hb => ⟨hS b hb.1, hb.2⟩) (fun _ _ _ => rfl) hrep⟩

set_option maxHeartbeats 6400000 in
theorem decl_any (ts : List Tok) (hok : TkOk ts) (f : Nat) (hf : f ≤ 1000) (i : Nat) : DAt ts i (pDecl f ts i) := by
  intro d j hr b base w hbb hbase h
  obtain ⟨h1, h2, ps, cs, p, k, hp, he, hk, hs, rfl, rfl⟩ := decl_cases hr
  clear hr
  have HR := Lib.hid h
  have hblt := h.lt
  have HCs := Lib.hid hk
  have HPs := Lib.hid hp
  obtain ⟨t, ht⟩ : ∃ x, ts[i]? = some x := ⟨_, List.getElem?_eq_getElem (rIs_lt h1)⟩
  obtain ⟨t1, ht1⟩ : ∃ x, ts[i + 1]? = some x := ⟨_, List.getElem?_eq_getElem (rKind_lt h2)⟩
  have HPos : Hid (∀ w, RdT w b ts i → Calls Try.prog 93 #[.pointer (some ⟨b, 0, none⟩)] w fun e w' => e = .returned (.int .i64 (pPos ts i)) ∧ Below w.heap.size w w') := fun w h => by
    have := rdPos_any t b ts i w h ht
    unfold pPos; rw [ht]; exact this
  have HN1 : Hid (∀ w, RdT w b ts i → Calls Try.prog 94 #[.pointer (some ⟨b, 0, none⟩), .string ⟨#[100, 97, 116, 97]⟩] w fun e w' => e = .returned (.tuple #[]) ∧ RdT w' b ts (i + 1) ∧ w.grownBy w' (some b)) := fun w h => rdNeed_yes _ b ts i w h h1
  have HW : Hid (∀ w, RdT w b ts (i + 1) → Calls Try.prog 95 #[.pointer (some ⟨b, 0, none⟩), .int .i64 2] w fun e w' => e = .returned (.string (txt ts (i + 1))) ∧ RdT w' b ts (i + 1 + 1) ∧ w.grownBy w' (some b)) := fun w h => by
    have := rdWord_yes 2 t1 b ts (i + 1) w h ht1 h2
    rwa [← txt_some ht1] at this
  have HN2 : Hid (∀ w, RdT w b ts p → Calls Try.prog 94 #[.pointer (some ⟨b, 0, none⟩), .string ⟨#[61]⟩] w fun e w' => e = .returned (.tuple #[]) ∧ RdT w' b ts (p + 1) ∧ w.grownBy w' (some b)) := fun w h => rdNeed_yes _ b ts p w h he
  have HN3 : Hid (∀ w, RdT w b ts k → Calls Try.prog 94 #[.pointer (some ⟨b, 0, none⟩), .string ⟨#[59]⟩] w fun e w' => e = .returned (.tuple #[]) ∧ RdT w' b ts (k + 1) ∧ w.grownBy w' (some b)) := fun w h => rdNeed_yes _ b ts k w h hs
  clear ht ht1 h1 h2 he hk hs hp h
  generalize pPos ts i = pos at *
  generalize txt ts (i + 1) = nm at *
  have hb0 : Below w.heap.size w (w.alloc (.cells #[.int .i64 0, .string ⟨#[]⟩, .slice none 0 0, .slice none 0 0] 71)) := (Below.refl _ w).alloc (Nat.le_refl _) _
  have HZ : Hid (ZeroD (w.alloc (.cells #[.int .i64 0, .string ⟨#[]⟩, .slice none 0 0, .slice none 0 0] 71)) w.heap.size) := heap_alloc_new w _
  have HR0 := Lib.hid (HR.out.lift hb0)
  have hsz0 : w.heap.size + 1 ≤ (w.alloc (.cells #[.int .i64 0, .string ⟨#[]⟩, .slice none 0 0, .slice none 0 0] 71)).heap.size := by simp
  go_enter Try.func77, Try.ntmps77
  go_wp2_with fail
  go_at_call 93
  generalize (w.alloc (.cells #[.int .i64 0, .string ⟨#[]⟩, .slice none 0 0, .slice none 0 0] 71)) = w0 at *
  refine (HPos.out _ HR0.out).mono ?_
  rintro e w1 ⟨rfl, hb1⟩
  have HZ1 := Lib.hid (BoxD.lift HZ.out hb1)
  have HR1 := Lib.hid (HR0.out.lift hb1)
  have hg1 := hb0.trans (hb1.mono hb0.size)
  have hsz1 : w.heap.size + 1 ≤ w1.heap.size := Nat.le_trans hsz0 hb1.size
  clear hb1 HR0 HZ hb0
  go_wp2_with fail
  go_at_call 94
  have HX : Hid (∀ X, RdT (w1.alloc (.cells X 71)) b ts i) := fun X => HR1.out.lift ((Below.refl _ w1).alloc (Nat.le_refl _) _)
  have HD2 : Hid (BoxD (w1.alloc (.cells #[.int .i64 pos, .string ⟨#[]⟩, .slice none 0 0, .slice none 0 0] 71)) w1.heap.size (.int .i64 pos) (.string ⟨#[]⟩) (.slice none 0 0) (.slice none 0 0)) := heap_alloc_new w1 _
  have HZ2 : Hid (ZeroD (w1.alloc (.cells #[.int .i64 pos, .string ⟨#[]⟩, .slice none 0 0, .slice none 0 0] 71)) w.heap.size) := BoxD.lift HZ1.out ((Below.refl _ w1).alloc (Nat.le_refl _) _)
  have hg2 := hg1.trans (((Below.refl _ w1).alloc (Nat.le_refl _) (.cells #[.int .i64 pos, .string ⟨#[]⟩, .slice none 0 0, .slice none 0 0] 71)).mono hg1.size)
  have hsz2 : w1.heap.size + 1 ≤ (w1.alloc (.cells #[.int .i64 pos, .string ⟨#[]⟩, .slice none 0 0, .slice none 0 0] 71)).heap.size := by simp
  refine (HN1.out _ (HX.out _)).mono ?_
  clear HX
  generalize (w1.alloc (.cells #[.int .i64 pos, .string ⟨#[]⟩, .slice none 0 0, .slice none 0 0] 71)) = w2 at *
  rintro e w3 ⟨rfl, hr3, hg3⟩
  have hneD : some w1.heap.size ≠ some b := fun e => by have := Option.some.inj e; omega
  have hneZ : some w.heap.size ≠ some b := fun e => by have := Option.some.inj e; omega
  have HR3 := Lib.hid hr3
  have HD3 := Lib.hid (HD2.out.kept hg3 hneD)
  have HZ3 := Lib.hid (BoxD.kept HZ2.out hg3 hneZ)
  have hg03 := grown_trans (grown_of_below hg2 (some b)) hg3
  have hsz3 := Nat.le_trans hsz2 hg3.size
  clear hr3 hg3 HD2 HZ2 hg2 hsz2 HZ1 HR1 hg1
  go_wp2_with fail
  go_at_call 95
  refine (HW.out _ HR3.out).mono ?_
  rintro e w4 ⟨rfl, hr4, hg4⟩
  have HR4 := Lib.hid hr4
  have HD4 := Lib.hid (HD3.out.kept hg4 hneD)
  have HZ4 := Lib.hid (BoxD.kept HZ3.out hg4 hneZ)
  have hg04 := grown_trans hg03 hg4
  have hsz4 := Nat.le_trans hsz3 hg4.size
  obtain ⟨d0, d1, d2, d3⟩ := HD4.out.cells
  obtain ⟨f0, f1, f2, f3⟩ := HD4.out.frozen
  clear hr4 hg4 HD3 HZ3 hg03 hsz3 HR3 HW HN1 HPos
  go_wp2
  obtain ⟨e1, e2, e3⟩ := set1 HD4.out 1 (.string nm)
  have HR5 := Lib.hid (HR4.out.other (by omega) e2)
  have HZ5 := Lib.hid (BoxD.kept HZ4.out e2 (fun e => by have := Option.some.inj e; omega))
  have HD5 : Hid (BoxD (w4.setCell ⟨w1.heap.size, 1, none⟩ (.string nm)) w1.heap.size (.int .i64 pos) (.string nm) (.slice none 0 0) (.slice none 0 0)) := by
    show _ = _
    rw [e1]; simp
  have hg05 := grown_fresh hg04 e2 fun R e => by have := Option.some.inj e; omega
  rw [← e3] at hsz4
  clear e1 e2 e3 d0 d1 d2 d3 f0 f1 f2 f3 HR4 HZ4 HD4 hg04
  generalize (w4.setCell ⟨w1.heap.size, 1, none⟩ (.string nm)) = w5 at *
  have HJ : Hid (JOk w b w1.heap.size (w1.heap.size + 1) (fun v => ZeroD v w.heap.size)) := ⟨hblt, by omega, Nat.lt_succ_self _, keepD (by omega) (by omega) (by omega)⟩
  have HP5 : Hid (PSt StrE w w1.heap.size (w1.heap.size + 1) 71 (fun v => ZeroD v w.heap.size) w5 b (i + 1 + 1) ts #[.int .i64 pos, .string nm, .slice none 0 0, .slice none 0 0] 2 (.slice none 0 0) (.slice none 0 0) []) :=
    ⟨HR5.out, HD5.out, rfl, rowG_nil _ _ _ _, HZ5.out, hg05, hsz4⟩
  clear HR5 HD5 HZ5 hg05 hsz4
  go_loopg [] f (fun k wr => ∃ (acc : List ByteArray) (q : Nat) (av : Value), Hid (pParams k ts q acc = some (ps, p)) ∧ acc.length + k ≤ f ∧ Hid (PSt StrE w w1.heap.size (w1.heap.size + 1) 71 (fun v => ZeroD v w.heap.size) wr b q ts #[.int .i64 pos, .string nm, av, .slice none 0 0] 2 av av acc))
  case atStart => exact ⟨[], _, _, HPs, by simp, HP5⟩
  case round =>
    obtain ⟨acc, q, av, HC, hal, HPr⟩ := hrel
    have HK : Hid (∀ w, RdT w b ts q → Calls Try.prog 96 #[.pointer (some ⟨b, 0, none⟩), .int .i64 1] w fun e w' => e = .returned (.bool (rKind ts q 1)) ∧ Below w.heap.size w w') := fun w h => rdKind_any 1 b ts q w h
    obtain ⟨sa, sc, rfl, -, -⟩ := HPr.out.row.slice
    rcases params_cases HC.out with ⟨hq, rfl, rfl⟩ | ⟨hq, g, rfl, hrest⟩
    · rw [hq] at HK
      clear hq HC
      go_wp2_with fail
      go_at_call 96
      refine (HK.out _ HPr.out.rd).mono ?_
      rintro e v1 ⟨rfl, hb1⟩
      have HP1 := Lib.hid (HPr.out.lift HJ.out hb1)
      clear hb1 HPr HK
      go_wp2_with fail
      go_at_call 94
      refine (HN2.out _ HP1.out.rd).mono ?_
      rintro e w6 ⟨rfl, hr6, hg6⟩
      have HP6 := Lib.hid (PSt.call HJ.out HP1.out hr6 hg6)
      clear hr6 hg6 HP1 HP5
      generalize (.slice sa ps.length sc : Value) = pv at *
      have hDB : w1.heap.size < w6.heap.size := HP6.out.size
      have HJ2 : Hid (JOk w b w1.heap.size w6.heap.size (fun v => ZeroD v w.heap.size ∧ SlG StrE v (fun c => w1.heap.size + 1 ≤ c ∧ c < w6.heap.size) ps pv)) :=
        ⟨hblt, by omega, hDB, fun v v' row h hg hr => ⟨keepD (by omega) (by omega) (by omega) v v' row h.1 hg hr, h.2.kept (fun _ h => h) (fun c hc hlt => hg.block c hlt (fun e => by have := hr c e.symm; omega))⟩⟩
      have HQ6 : Hid (PSt CtorE w w1.heap.size w6.heap.size 71 (fun v => ZeroD v w.heap.size ∧ SlG StrE v (fun c => w1.heap.size + 1 ≤ c ∧ c < w6.heap.size) ps pv) w6 b (p + 1) ts #[.int .i64 pos, .string nm, pv, .slice none 0 0] 3 (.slice none 0 0) (.slice none 0 0) []) :=
        ⟨HP6.out.rd, HP6.out.box, rfl, rowG_nil _ _ _ _, ⟨HP6.out.oth, (HP6.out.row.slG (fun _ h => h) (fun _ h => h)).bound⟩, HP6.out.grown, Nat.le_refl _⟩
      clear HP6 HJ
      go_wp2
      go_loopg [] f (fun kk wr => ∃ (acc : List Ctor) (q : Nat) (cv : Value), Hid (pCtors kk ts q acc = some (cs, k)) ∧ acc.length + kk ≤ f ∧ Hid (PSt CtorE w w1.heap.size w6.heap.size 71 (fun v => ZeroD v w.heap.size ∧ SlG StrE v (fun c => w1.heap.size + 1 ≤ c ∧ c < w6.heap.size) ps pv) wr b q ts #[.int .i64 pos, .string nm, pv, cv] 3 cv cv acc))
      case atStart => exact ⟨[], _, _, HCs, by simp, HQ6⟩
      case round =>
        clear HQ6 HCs
        obtain ⟨acc, q, cv, HC, hal, HQr⟩ := hrel
        obtain ⟨ca, cc, rfl, -, -⟩ := HQr.out.row.slice
        obtain ⟨hq, g, fs, m, rfl, hargs, hend⟩ := ctors_cases HC.out
        have HArgs := Lib.hid hargs
        have HEnd := Lib.hid hend
        obtain ⟨tq, htq⟩ : ∃ x, ts[q]? = some x := ⟨_, List.getElem?_eq_getElem (rKind_lt hq)⟩
        have HPosq : Hid (∀ w, RdT w b ts q → Calls Try.prog 93 #[.pointer (some ⟨b, 0, none⟩)] w fun e w' => e = .returned (.int .i64 (pPos ts q)) ∧ Below w.heap.size w w') := fun w h => by
          have := rdPos_any tq b ts q w h htq
          unfold pPos; rw [htq]; exact this
        have HWq : Hid (∀ w, RdT w b ts q → Calls Try.prog 95 #[.pointer (some ⟨b, 0, none⟩), .int .i64 2] w fun e w' => e = .returned (.string (txt ts q)) ∧ RdT w' b ts (q + 1) ∧ w.grownBy w' (some b)) := fun w h => by
          have := rdWord_yes 2 tq b ts q w h htq hq
          rwa [← txt_some htq] at this
        clear hq HC htq hargs hend
        generalize pPos ts q = cpos at *
        generalize txt ts q = cnm at *
        obtain ⟨lv, hrd, -⟩ := HQr.out.rd
        obtain ⟨r0, r1, r2, -⟩ := hrd.cells
        clear hrd
        go_wp2_with fail
        go_at_call 93
        refine (HPosq.out _ HQr.out.rd).mono ?_
        rintro e v1 ⟨rfl, hb1⟩
        have HQ1 := Lib.hid (HQr.out.lift HJ2.out hb1)
        clear hb1 HQr r0 r1 r2
        go_wp2_with fail
        go_at_call 95
        refine (HWq.out _ HQ1.out.rd).mono ?_
        rintro e v2 ⟨rfl, hr2, hg2⟩
        have HQ2 := Lib.hid (HQ1.out.call HJ2.out hr2 hg2)
        clear hr2 hg2 HQ1 HPosq HWq
        go_wp2
        have HL : Hid (∀ k', (Value.slice ca acc.length cc).ownBlock = some k' → w6.heap.size ≤ k' ∧ k' < v2.heap.size) := HQ2.out.row.lt
        have hBC : w6.heap.size ≤ v2.heap.size := HQ2.out.size
        have HEl : Hid ((Value.slice ca acc.length cc) = .slice ca acc.length cc) := rfl
        generalize hcv : (Value.slice ca acc.length cc) = cv at *
        clear hcv HEl
        have HJ3 : Hid (JOk w b v2.heap.size (v2.heap.size + 1) (fun v => BoxD v w1.heap.size (.int .i64 pos) (.string nm) pv cv ∧ (ZeroD v w.heap.size ∧ SlG StrE v (fun c => w1.heap.size + 1 ≤ c ∧ c < w6.heap.size) ps pv) ∧ RowG CtorE v w6.heap.size (fun c => w6.heap.size ≤ c ∧ c < v2.heap.size) cv acc)) := by
          refine ⟨hblt, by omega, Nat.lt_succ_self _, fun v v' row h hg hr => ⟨h.1.kept hg (fun e => by have := hr _ e.symm; omega), HJ2.out.keep v v' row h.2.1 hg (fun R e => by have := hr R e; omega), h.2.2.kept hg ?_ (fun c hc e => by have := hr c e.symm; omega)⟩⟩
          cases hv : cv.ownBlock with
          | none => exact .inl rfl
          | some k' => exact .inr fun e => by have h1 := HL.out k' hv; have h2 := hr k' e.symm; omega
        have hba : Below v2.heap.size v2 (v2.alloc (.cells #[.int .i64 cpos, .string cnm, .slice none 0 0] 131)) := (Below.refl _ v2).alloc (Nat.le_refl _) _
        have HT0 : Hid (PSt TyE w v2.heap.size (v2.heap.size + 1) 131 (fun v => BoxD v w1.heap.size (.int .i64 pos) (.string nm) pv cv ∧ (ZeroD v w.heap.size ∧ SlG StrE v (fun c => w1.heap.size + 1 ≤ c ∧ c < w6.heap.size) ps pv) ∧ RowG CtorE v w6.heap.size (fun c => w6.heap.size ≤ c ∧ c < v2.heap.size) cv acc) (v2.alloc (.cells #[.int .i64 cpos, .string cnm, .slice none 0 0] 131)) b (q + 1) ts #[.int .i64 cpos, .string cnm, .slice none 0 0] 2 (.slice none 0 0) (.slice none 0 0) []) :=
          ⟨HQ2.out.rd.lift hba, heap_alloc_new v2 _, rfl, rowG_nil _ _ _ _, ⟨(HQ2.out.lift HJ2.out hba).box, (HQ2.out.lift HJ2.out hba).oth, (rowG_bound HQ2.out.row).lift hba⟩, (HQ2.out.lift HJ2.out hba).grown, by simp⟩
        generalize (v2.alloc (.cells #[.int .i64 cpos, .string cnm, .slice none 0 0] 131)) = w7 at *
        clear hba HQ2
        go_loopg [] g (fun kk wr => ∃ (accF : List Ty) (q' : Nat) (fv : Value), Hid (pArgs kk ts q' accF = some (fs, m)) ∧ accF.length + kk ≤ f ∧ kk ≤ f ∧ Hid (PSt TyE w v2.heap.size (v2.heap.size + 1) 131 (fun v => BoxD v w1.heap.size (.int .i64 pos) (.string nm) pv cv ∧ (ZeroD v w.heap.size ∧ SlG StrE v (fun c => w1.heap.size + 1 ≤ c ∧ c < w6.heap.size) ps pv) ∧ RowG CtorE v w6.heap.size (fun c => w6.heap.size ≤ c ∧ c < v2.heap.size) cv acc) wr b q' ts #[.int .i64 cpos, .string cnm, fv] 2 fv fv accF))
        case atStart => exact ⟨[], _, _, HArgs, by simp; omega, by omega, HT0⟩
        case round =>
          clear HT0 HArgs
          obtain ⟨accF, q', fv, HP, hal3, hkf, HSr⟩ := hrel
          obtain ⟨sa, sc, rfl, -, -⟩ := HSr.out.row.slice
          have HK : Hid (∀ w, RdT w b ts q' → Calls Try.prog 97 #[.pointer (some ⟨b, 0, none⟩)] w fun e w' => e = .returned (.bool (rKind ts q' 1 || rKind ts q' 2 || rIs ts q' ⟨#[40]⟩)) ∧ Below w.heap.size w w') := fun w h => rdAtoms_any b ts q' w h
          rcases args_cases HP.out with ⟨hq, rfl, rfl⟩ | ⟨hq, g3, V, n3, rfl, hV, hrest⟩
          · rw [hq] at HK
            clear hq HP
            go_wp2_with fail
            go_at_call 97
            refine (HK.out _ HSr.out.rd).mono ?_
            rintro e v5 ⟨rfl, hb5⟩
            have HS5 := Lib.hid (HSr.out.lift HJ3.out hb5)
            clear hb5 HSr HK
            generalize (Value.slice sa fs.length sc) = fv at *
            have HQ5 : Hid (PSt CtorE w w1.heap.size w6.heap.size 71 (fun v => ZeroD v w.heap.size ∧ SlG StrE v (fun c => w1.heap.size + 1 ≤ c ∧ c < w6.heap.size) ps pv) v5 b m ts #[.int .i64 pos, .string nm, pv, cv] 3 cv cv acc) :=
              ⟨HS5.out.rd, HS5.out.oth.1, rfl, rowG_imp HS5.out.oth.2.2 (fun _ h => h.1), HS5.out.oth.2.1, HS5.out.grown, by have := HS5.out.size; omega⟩
            have hx : CtorE.rep v5 (fun c => w6.heap.size ≤ c ∧ some c ≠ cv.ownBlock) ⟨cpos, cnm, fs⟩ [.int .i64 cpos, .string cnm, fv] :=
              ⟨fv, rfl, (HS5.out.row.slG (S' := fun c => v2.heap.size + 1 ≤ c) (fun _ h => h) (fun _ h => h)).kept (fun c hc => ⟨by omega, fun e => by have := (HL.out c e.symm).2; omega⟩) (fun _ _ _ => rfl)⟩
            have HX := Lib.hid hx
            have hNb : acc.length + 1 ≤ 1000000 := by omega
            obtain ⟨d0, d1, d2, d3⟩ := BoxD.cells HS5.out.oth.1
            have e0 := (cell_of_block HS5.out.box (m := 0) rfl).1
            have e1 := (cell_of_block HS5.out.box (m := 1) rfl).1
            have e2 := (cell_of_block HS5.out.box (m := 2) rfl).1
            clear hx
            go_wp2_with (at_builtin; refine wpList_pushP HJ2.out HQ5.out ⟨cpos, cnm, fs⟩ [.int .i64 cpos, .string cnm, fv] HX.out _ rfl _ rfl _ _ rfl rfl _ rfl rfl (acc.length + 1) rfl hNb ?_; intro a' c' v6 hP; have HP6 := Lib.hid hP; have c4 := hP.cell; have f4 := hP.frozen; clear hP d0 d1 d2 d3 e0 e1 e2)
            have HQ7 : Hid (PSt CtorE w w1.heap.size w6.heap.size 71 (fun v => ZeroD v w.heap.size ∧ SlG StrE v (fun c => w1.heap.size + 1 ≤ c ∧ c < w6.heap.size) ps pv) (v6.setCell ⟨w1.heap.size, 3, none⟩ (.slice a' (acc.length + 1) c')) b m ts #[.int .i64 pos, .string nm, pv, .slice a' (acc.length + 1) c'] 3 (.slice a' (acc.length + 1) c') (.slice a' (acc.length + 1) c') (acc ++ [⟨cpos, cnm, fs⟩])) := by
              have := PSt.stored HJ2.out HP6.out
              simp at this
              exact this
            clear HP6 c4 f4 HX HQ5 HS5
            generalize (v6.setCell ⟨w1.heap.size, 3, none⟩ (.slice a' (acc.length + 1) c')) = v7 at *
            rcases HEnd.out with ⟨hno, rfl, rfl⟩ | ⟨hyes, hrest⟩
            · have HSk : Hid (∀ w, RdT w b ts k → Calls Try.prog 99 #[.pointer (some ⟨b, 0, none⟩), .string ⟨#[124]⟩] w fun e w' => e = .returned (.bool false) ∧ Below w.heap.size w w') := fun w h => rdSkip_no _ b ts k w h hno
              clear hno
              refine (HSk.out _ HQ7.out.rd).mono ?_
              rintro e v8 ⟨rfl, hb8⟩
              have HQ8 := Lib.hid (HQ7.out.lift HJ2.out hb8)
              clear hb8 HQ7 HSk
              generalize (Value.slice a' (acc.length + 1) c') = cw at *
              go_wp2_with fail
              go_at_call 94
              refine (HN3.out _ HQ8.out.rd).mono ?_
              rintro e v9 ⟨rfl, hr9, hg9⟩
              have HQ9 := Lib.hid (HQ8.out.call HJ2.out hr9 hg9)
              clear hr9 hg9 HQ8
              obtain ⟨pa, pc, rfl, -⟩ := HQ9.out.oth.2.slice
              obtain ⟨wa, wc, hcw, -, -⟩ := HQ9.out.row.slice
              generalize (acc ++ [(⟨cpos, cnm, fs⟩ : Ctor)]).length = n at hcw
              subst hcw
              obtain ⟨d0, d1, d2, d3⟩ := BoxD.cells (c0 := .int .i64 pos) (c1 := .string nm) (c2 := .slice pa ps.length pc) (c3 := .slice wa n wc) HQ9.out.box
              obtain ⟨z0, z1, z2, z3⟩ := HQ9.out.oth.1.cells
              obtain ⟨f0, f1, f2, f3⟩ := HQ9.out.oth.1.frozen
              go_wp2
              obtain ⟨hB, hG⟩ := set4D HQ9.out.oth.1 (.int .i64 pos) (.string nm) (.slice pa ps.length pc) (.slice wa n wc)
              clear z0 z1 z2 z3 f0 f1 f2 f3 d0 d1 d2 d3
              generalize ((((v9.setCell ⟨w.heap.size, 0, none⟩ (.int .i64 pos)).setCell ⟨w.heap.size, 1, none⟩ (.string nm)).setCell ⟨w.heap.size, 2, none⟩ (.slice pa ps.length pc)).setCell ⟨w.heap.size, 3, none⟩ (.slice wa n wc)) = v10 at *
              obtain ⟨c0, c1, c2, c3⟩ := hB.cells
              refine bodyPost_ret (by simp [results, Try.results77, go_sem, c0, c1, c2, c3]; try rfl) rfl ?_
              refine ⟨[.int .i64 pos, .string nm, .slice pa ps.length pc, .slice wa n wc], rfl, ⟨_, _, rfl, ?_, ?_⟩, HQ9.out.rd.other hblt hG, grown_fresh HQ9.out.grown hG fun R e => by cases e; exact Nat.le_refl _⟩
              · exact HQ9.out.oth.2.kept (fun c hc => by omega) (fun c hc hlt => hG.block c hlt (fun e => by have := Option.some.inj e; omega))
              · exact (HQ9.out.row.slG (S' := fun c => w6.heap.size ≤ c) (fun _ h => h) (fun _ h => h)).kept (fun c hc => by omega) (fun c hc hlt => hG.block c hlt (fun e => by have := Option.some.inj e; omega))
            · have HSk : Hid (∀ w, RdT w b ts m → Calls Try.prog 99 #[.pointer (some ⟨b, 0, none⟩), .string ⟨#[124]⟩] w fun e w' => e = .returned (.bool true) ∧ RdT w' b ts (m + 1) ∧ w.grownBy w' (some b)) := fun w h => rdSkip_yes _ b ts m w h hyes
              have HCn := Lib.hid hrest
              clear hyes hrest
              refine (HSk.out _ HQ7.out.rd).mono ?_
              rintro e v8 ⟨rfl, hr8, hg8⟩
              have HQ8 := Lib.hid (HQ7.out.call HJ2.out hr8 hg8)
              clear hr8 hg8 HQ7 HSk
              go_wp2
              go_roundg g
              case measure => omega
              case rel => exact ⟨acc ++ [⟨cpos, cnm, fs⟩], m + 1, _, HCn, by simp; omega, HQ8⟩
          · rw [hq] at HK
            clear hq HP
            have HPn := Lib.hid hrest
            have HAt := Lib.hid (atom_any ts hok g3 (by omega) q' V n3 hV)
            clear hV hrest
            go_wp2_with fail
            go_at_call 97
            refine (HK.out _ HSr.out.rd).mono ?_
            rintro e v1 ⟨rfl, hb1⟩
            have HP1 := Lib.hid (HSr.out.lift HJ3.out hb1)
            have HPd := Lib.hid (PSt.drew HJ3.out HP1.out)
            clear hb1 HSr HK
            go_wp2_with fail
            have hbd : Below v1.heap.size v1 v1.drew := (Below.refl _ v1).drew
            have hsz1 := HP1.out.size
            have hbv : b < v1.heap.size := by omega
            have hle : v1.heap.size ≤ v1.drew.heap.size := hbd.size
            have HSV : Hid (∀ c, v1.heap.size ≤ c → v2.heap.size + 1 ≤ c ∧ some c ≠ (Value.slice sa accF.length sc).ownBlock) := fun c hc => ⟨by omega, fun e => by have := (RowG.lt HP1.out.row _ e.symm).2; omega⟩
            have y4 := HPd.out.cell
            have hNb : accF.length + 1 ≤ 1000000 := by omega
            clear hbd hsz1
            go_region_law
              (first
                | ((with_reducible refine step_call1 98 enterAtom (.pointer (some ⟨b, 0, none⟩)) (fun u w' => Rep w' (fun c => v1.heap.size ≤ c) V u ∧ RdT w' b ts n3 ∧ v1.drew.grownBy w' (some b)) ?_ ?_ ?_); (rfl); (exact HAt.out b v1.heap.size _ hbv hle HPd.out.rd); (rintro u v3 ⟨hrep, hr2, hg2⟩); (have HF := Lib.hid (PSt.call HJ3.out HPd.out hr2 hg2)); (obtain ⟨uk, un, ui, uh, ua, un', uc, rfl⟩ := hrep.form); (have HE := Lib.hid (tyE_of hrep HSV.out)); (have HE2 := Lib.hid (tyE_of (hrep.lift (Below.refl _ v3).drew) HSV.out)); (have z4 := HF.out.cell); (have z4o := HF.out.cellA HJ3.out); (have z4d := HF.out.cellD HJ3.out); clear hrep hr2 hg2 y4)
                | ((with_reducible refine fitA v3 _ ?_); (refine step_pushP HJ3.out HF.out V [.int .i64 uk, .string un, .int .i64 ui, .int .i64 uh, .slice ua un' uc] HE.out _ rfl _ (by rfl) _ _ (by rfl) (by rfl) _ rfl (by rfl) (accF.length + 1) rfl hNb ?_); (intro a' c' v4 hP); (have HP3 := Lib.hid hP); (have c4 := hP.cell); (have f4 := hP.frozen); clear hP z4 z4o z4d)
                | ((with_reducible refine fitA v3.drew _ ?_); (refine step_pushP HJ3.out (PSt.drew HJ3.out HF.out) V [.int .i64 uk, .string un, .int .i64 ui, .int .i64 uh, .slice ua un' uc] HE2.out _ rfl _ (by rfl) _ _ (by rfl) (by rfl) _ rfl (by rfl) (accF.length + 1) rfl hNb ?_); (intro a' c' v4 hP); (have HP3 := Lib.hid hP); (have c4 := hP.cell); (have f4 := hP.frozen); clear hP z4 z4o z4d))
            all_goals
              have HP4 := Lib.hid (PSt.stored HJ3.out HP3.out)
              clear HP3 c4 f4 HF HE HE2 hNb HPd HP1
              go_wp2
              go_roundg g3
              case measure => omega
              case rel => exact ⟨accF ++ [V], n3, _, HPn, by simp; omega, by omega, by simpa using HP4⟩
    · rw [hq] at HK
      obtain ⟨tq, htq⟩ : ∃ x, ts[q]? = some x := ⟨_, List.getElem?_eq_getElem (rKind_lt hq)⟩
      have HWq : Hid (∀ w, RdT w b ts q → Calls Try.prog 95 #[.pointer (some ⟨b, 0, none⟩), .int .i64 1] w fun e w' => e = .returned (.string (txt ts q)) ∧ RdT w' b ts (q + 1) ∧ w.grownBy w' (some b)) := fun w h => by
        have := rdWord_yes 1 tq b ts q w h htq hq
        rwa [← txt_some htq] at this
      have HPn := Lib.hid hrest
      clear hq HC htq hrest
      generalize txt ts q = tx at *
      go_wp2_with fail
      go_at_call 96
      refine (HK.out _ HPr.out.rd).mono ?_
      rintro e v1 ⟨rfl, hb1⟩
      have HP1 := Lib.hid (HPr.out.lift HJ.out hb1)
      have HPd := Lib.hid (PSt.drew HJ.out HP1.out)
      clear hb1 HPr HK
      go_wp2_with fail
      have HW1 : Hid (Calls Try.prog 95 #[.pointer (some ⟨b, 0, none⟩), .int .i64 1] v1.drew fun e w' => ∃ u, e = .returned u ∧ (u = .string tx ∧ RdT w' b ts (q + 1) ∧ v1.drew.grownBy w' (some b))) :=
        (HWq.out _ HPd.out.rd).mono fun e w' h => ⟨_, h.1, rfl, h.2⟩
      have y4 := HPd.out.cell
      have hx : ∀ v S, StrE.rep v S tx [.string tx] := fun _ _ => rfl
      have hNb : acc.length + 1 ≤ 1000000 := by omega
      go_region_law
        (first
          | ((with_reducible refine step_call2 95 enterWord (.pointer (some ⟨b, 0, none⟩)) (.int .i64 1) (fun u w' => u = .string tx ∧ RdT w' b ts (q + 1) ∧ v1.drew.grownBy w' (some b)) ?_ ?_ ?_ ?_); (rfl); (rfl); (exact HW1.out); (rintro u v2 ⟨rfl, hr2, hg2⟩); (have HF := Lib.hid (PSt.call HJ.out HPd.out hr2 hg2)); (have z4 := HF.out.cell); (have z4o := HF.out.cellA HJ.out); (have z4d := HF.out.cellD HJ.out); clear hr2 hg2 y4)
          | ((with_reducible refine fitA v2 _ ?_); (refine step_pushP HJ.out HF.out tx [.string tx] (hx _ _) _ rfl _ (by rfl) _ _ (by rfl) (by rfl) _ rfl (by rfl) (acc.length + 1) rfl hNb ?_); (intro a' c' v3 hP); (have HP3 := Lib.hid hP); (have c4 := hP.cell); (have f4 := hP.frozen); clear hP z4 z4o z4d)
          | ((with_reducible refine fitA v2.drew _ ?_); (refine step_pushP HJ.out (PSt.drew HJ.out HF.out) tx [.string tx] (hx _ _) _ rfl _ (by rfl) _ _ (by rfl) (by rfl) _ rfl (by rfl) (acc.length + 1) rfl hNb ?_); (intro a' c' v3 hP); (have HP3 := Lib.hid hP); (have c4 := hP.cell); (have f4 := hP.frozen); clear hP z4 z4o z4d))
      all_goals
        have HP4 := Lib.hid (PSt.stored HJ.out HP3.out)
        clear HP3 c4 f4 HF hx hNb HW1 HPd HP1
        go_wp2
        go_roundg g
        case measure => omega
        case rel => exact ⟨acc ++ [tx], q + 1, _, HPn, by simp; omega, by simpa using HP4⟩
end Go.Proofs.Ytahiefgfhpkoeaa

namespace Go.Proofs.Ytahiefgfhpkoeaa
open Go.RowKit Go.Sort Go.Shelf Go.Maps Mth

/-- Within the limits. -/
def OkC (c : Ctor) : Prop := c.fields.length ≤ 4 ∧ ∀ T ∈ c.fields, dep T ≤ 40
def OkD (d : Dat) : Prop := d.params.length ≤ 4 ∧ d.ctors.length ≤ 6 ∧ ∀ c ∈ d.ctors, OkC c
/-- One element's cells, at its place. -/
theorem slG_at {α : Type} {E : El α} {w : World} {S : Nat → Prop} {xs : List α} {v : Value} (h : SlG E w S xs v) : ∃ a cap, v = .slice a xs.length cap ∧ cap ≤ maxLen ∧ xs.length ≤ cap ∧ ∀ (j : Nat) (x : α), xs[j]? = some x → ∃ ad c, a = some ad ∧ S ad.block ∧ E.rep w S x c ∧ (∀ u, c[0]? = some u → w.cell? (ad.add (j * E.k)) = some u) ∧ ∀ (m : Nat) (u : Value), m ≠ 0 → c[m]? = some u → w.cell? ⟨(ad.add (j * E.k)).block, (ad.add (j * E.k)).off + m, none⟩ = some u := by
  obtain ⟨a, cap, rfl, ⟨hc, hc2⟩, hj⟩ := h
  refine ⟨a, cap, rfl, hc2, hc, fun j x hx => ?_⟩
  obtain ⟨ad, c, rfl, hS, hcell, hrep⟩ := hj j x hx
  refine ⟨ad, c, rfl, hS, hrep, fun u hu => hcell 0 u hu, fun m u hm hu => ?_⟩
  rw [add_add' _ _ _ hm]
  exact hcell m u hu
theorem slG_get {α : Type} {E : El α} {w : World} {S : Nat → Prop} {xs : List α} {a : Option Addr} {n cap : Nat} (h : SlG E w S xs (.slice a n cap)) {j : Nat} {x : α} (hx : xs[j]? = some x) : ∃ ad c, a = some ad ∧ S ad.block ∧ E.rep w S x c ∧ (∀ u, c[0]? = some u → w.cell? (ad.add (j * E.k)) = some u) ∧ ∀ (m : Nat) (u : Value), m ≠ 0 → c[m]? = some u → w.cell? ⟨(ad.add (j * E.k)).block, (ad.add (j * E.k)).off + m, none⟩ = some u := by
  obtain ⟨a', cap', e, -, -, hj⟩ := slG_at h
  cases e
  exact hj j x hx
theorem slG_form {α : Type} {E : El α} {w : World} {S : Nat → Prop} {xs : List α} {v : Value} (h : SlG E w S xs v) : ∃ a cap, v = .slice a xs.length cap := by
  obtain ⟨a', cap', e, -, -, hj⟩ := slG_at h
  exact ⟨a', cap', e⟩
theorem SlG.lift {α : Type} {E : El α} {w w' : World} {S : Nat → Prop} {xs : List α} {v : Value} (h : SlG E w S xs v) (hb : Below w.heap.size w w') : SlG E w' S xs v := h.kept (fun _ h => h) (fun b _ hlt => hb.block b hlt)

set_option maxRecDepth 100000 in
set_option maxHeartbeats 6400000 in
theorem deep_any (ds : List Dat) (dv : Value) (S : Nat → Prop) (w : World) (hn : ds.length ≤ 8) (hok : ∀ d ∈ ds, OkD d) (h : SlG DatE w S ds dv) :
    Calls Try.prog 79 #[.agg #[dv, .slice none 0 0]] w fun e w' => e = .returned (.agg #[.int .i64 0, .int .i64 0]) ∧ Below w.heap.size w w' := by
  have HD := Lib.hid h
  have HOk := Lib.hid hok
  obtain ⟨a, cap, rfl⟩ := slG_form h
  clear h hok
  obtain ⟨n, hnn⟩ : ∃ n, n = ds.length := ⟨_, rfl⟩
  rw [← hnn] at HD hn ⊢
  have HM := Lib.hid hnn
  clear hnn
  have hb0 : Below w.heap.size w ((w.alloc (.cells #[.slice a n cap, .slice none 0 0] 88)).alloc (.cells #[.int .i64 0, .int .i64 0] 91)) := ((Below.refl _ w).alloc (Nat.le_refl _) _).alloc (by simp) _
  have hX := heap_at (w.alloc (.cells #[.slice a n cap, .slice none 0 0] 88)) (.cells #[.int .i64 0, .int .i64 0] 91)
  have HP : Hid (((w.alloc (.cells #[.slice a n cap, .slice none 0 0] 88)).alloc (.cells #[.int .i64 0, .int .i64 0] 91)).heap[w.heap.size]? = some (.cells #[.slice a n cap, .slice none 0 0] 88 (0, 0))) := by
    show _ = _
    rw [hX, if_neg (by simp), heap_at, if_pos rfl]
  have HF : Hid (((w.alloc (.cells #[.slice a n cap, .slice none 0 0] 88)).alloc (.cells #[.int .i64 0, .int .i64 0] 91)).heap[w.heap.size + 1]? = some (.cells #[.int .i64 0, .int .i64 0] 91 (0, 0))) := by
    show _ = _
    rw [hX, if_pos (by simp)]
  have hsz : ((w.alloc (.cells #[.slice a n cap, .slice none 0 0] 88)).alloc (.cells #[.int .i64 0, .int .i64 0] 91)).heap.size = w.heap.size + 2 := by simp
  clear hX
  go_enter Try.func79, Try.ntmps79
  go_wp2
  generalize ((w.alloc (.cells #[.slice a n cap, .slice none 0 0] 88)).alloc (.cells #[.int .i64 0, .int .i64 0] 91)) = W at *
  go_loopw [3] (fun x wr => ∃ j : Nat, j ≤ n ∧ x = .int .i64 j ∧ Below W.heap.size W wr) (fun x _ => n - (intOf x).toNat)
  case atStart => exact ⟨0, Nat.zero_le _, rfl, Below.refl _ _⟩
  case round =>
    obtain ⟨j, hj, rfl, hb⟩ := hrel
    have p0 : wr.cell? ⟨w.heap.size, 0, none⟩ = some (.slice a n cap) := (cell_of_block ((hb.block _ (by omega)).trans HP.out) (m := 0) rfl).1
    by_cases hlt : j < n
    · have hbw := hb0.trans (hb.mono hb0.size)
      obtain ⟨d, hd⟩ : ∃ x, ds[j]? = some x := ⟨_, List.getElem?_eq_getElem (by rw [← HM.out]; exact hlt)⟩
      obtain ⟨ok1, ok2, ok3⟩ := HOk.out d (List.mem_of_getElem? hd)
      obtain ⟨ad, c, rfl, hS, ⟨pv, cv, rfl, hp, hc⟩, hc0, hcm⟩ := slG_get (HD.out.lift hbw) hd
      have q0 := hc0 _ rfl
      have q1 := hcm 1 _ (by decide) rfl
      have q2 := hcm 2 _ (by decide) rfl
      have q3 := hcm 3 _ (by decide) rfl
      simp only [show DatE.k = 4 from rfl] at q0 q1 q2 q3
      obtain ⟨pa, pc, rfl⟩ := slG_form hp
      obtain ⟨ca, cc, rfl⟩ := slG_form hc
      have HC := Lib.hid hc
      have HO := Lib.hid ok3
      obtain ⟨np, hnp⟩ : ∃ x, x = d.params.length := ⟨_, rfl⟩
      obtain ⟨nc, hnc⟩ : ∃ x, x = d.ctors.length := ⟨_, rfl⟩
      rw [← hnp] at ok1 q2
      rw [← hnc] at ok2 q3 HC
      have HMc := Lib.hid hnc
      clear hc0 hcm hp hc ok3 hnp hnc hd hS
      have hji : (j : Int) < (n : Int) := by omega
      have h8 : (j : Int) < 8 := by omega
      have hp4 : (np : Int) ≤ 4 := by omega
      have hc6 : (nc : Int) ≤ 6 := by omega
      have hbA : ∀ o, Below W.heap.size W (wr.alloc o) := fun o => hb.alloc hb.size o
      have HN : Hid (∀ X, ((wr.alloc (.cells X 71)).heap[wr.heap.size]? = some (.cells X 71 (0, 0)))) := fun X => heap_alloc_new wr _
      go_wp2
      have hW2 := hbA (.cells #[.int .i64 d.pos, .string d.name, .slice pa np pc, .slice ca nc cc] 71)
      have HD2 := Lib.hid (HN.out #[.int .i64 d.pos, .string d.name, .slice pa np pc, .slice ca nc cc])
      have HC2 := Lib.hid (HC.out.lift ((Below.refl _ wr).alloc (Nat.le_refl _) (.cells #[.int .i64 d.pos, .string d.name, .slice pa np pc, .slice ca nc cc] 71)))
      generalize (wr.alloc (.cells #[.int .i64 d.pos, .string d.name, .slice pa np pc, .slice ca nc cc] 71)) = W2 at *
      have r3 : W2.cell? ⟨wr.heap.size, 3, none⟩ = some (.slice ca nc cc) := (cell_of_block HD2.out (m := 3) rfl).1
      clear HC HN hbA q0 q1 q2 q3 p0
      go_loopw [5] (fun x w2 => ∃ k : Nat, k ≤ nc ∧ x = .int .i64 k ∧ w2 = W2) (fun x _ => nc - (intOf x).toNat)
      case atStart => exact ⟨0, Nat.zero_le _, rfl, rfl⟩
      case round =>
        obtain ⟨k, hk, rfl, rfl⟩ := hrel
        by_cases hkl : k < nc
        · obtain ⟨c2, hc2⟩ : ∃ x, d.ctors[k]? = some x := ⟨_, List.getElem?_eq_getElem (by rw [← HMc.out]; exact hkl)⟩
          obtain ⟨ok5, -⟩ := HO.out c2 (List.mem_of_getElem? hc2)
          obtain ⟨ad2, cl, rfl, -, ⟨fv, rfl, hf⟩, -, hcm⟩ := slG_get HC2.out hc2
          have s2 := hcm 2 _ (by decide) rfl
          simp only [show CtorE.k = 3 from rfl] at s2
          obtain ⟨fa, fc, rfl⟩ := slG_form hf
          generalize c2.fields.length = nf at *
          clear hcm hf hc2
          have hkc : (k : Int) < (nc : Int) := by omega
          have hf4 : (nf : Int) ≤ 4 := by omega
          go_wp2
          go_roundw
          case rel => exact ⟨k + 1, hkl, by go_num, trivial⟩
          case measure => simp [intOf]; omega
        · obtain rfl : nc = k := by omega
          go_wp2
          go_roundw
          case rel => exact ⟨j + 1, hlt, by go_num, hW2⟩
          case measure => simp [intOf]; omega
    · obtain rfl : n = j := by omega
      have p1 : wr.cell? ⟨w.heap.size, 1, none⟩ = some (.slice none 0 0) := (cell_of_block ((hb.block _ (by omega)).trans HP.out) (m := 1) rfl).1
      have hbq := hb
      clear hb
      go_wp2
      go_loopw [6] (fun x wr => ∃ j : Nat, j ≤ n ∧ x = .int .i64 j ∧ Below W.heap.size W wr) (fun x _ => n - (intOf x).toNat)
      case atStart => exact ⟨0, Nat.zero_le _, rfl, hbq⟩
      case round =>
        clear p0 p1 hbq
        obtain ⟨j, hj, rfl, hb⟩ := hrel
        have p0 : wr.cell? ⟨w.heap.size, 0, none⟩ = some (.slice a n cap) := (cell_of_block ((hb.block _ (by omega)).trans HP.out) (m := 0) rfl).1
        by_cases hlt : j < n
        · have hbw := hb0.trans (hb.mono hb0.size)
          obtain ⟨d, hd⟩ : ∃ x, ds[j]? = some x := ⟨_, List.getElem?_eq_getElem (by rw [← HM.out]; exact hlt)⟩
          obtain ⟨ok1, ok2, ok3⟩ := HOk.out d (List.mem_of_getElem? hd)
          obtain ⟨ad, c, rfl, hS, ⟨pv, cv, rfl, hp, hc⟩, hc0, hcm⟩ := slG_get (HD.out.lift hbw) hd
          have q0 := hc0 _ rfl
          have q1 := hcm 1 _ (by decide) rfl
          have q2 := hcm 2 _ (by decide) rfl
          have q3 := hcm 3 _ (by decide) rfl
          simp only [show DatE.k = 4 from rfl] at q0 q1 q2 q3
          obtain ⟨pa, pc, rfl⟩ := slG_form hp
          obtain ⟨ca, cc, rfl⟩ := slG_form hc
          have HC := Lib.hid hc
          have HO := Lib.hid ok3
          obtain ⟨np, hnp⟩ : ∃ x, x = d.params.length := ⟨_, rfl⟩
          obtain ⟨nc, hnc⟩ : ∃ x, x = d.ctors.length := ⟨_, rfl⟩
          rw [← hnp] at ok1 q2
          rw [← hnc] at ok2 q3 HC
          have HMc := Lib.hid hnc
          clear hc0 hcm hp hc ok3 hnp hnc hd hS
          have hji : (j : Int) < (n : Int) := by omega
          have h8 : (j : Int) < 8 := by omega
          have hp4 : (np : Int) ≤ 4 := by omega
          have hc6 : (nc : Int) ≤ 6 := by omega
          have hbA : ∀ o, Below W.heap.size W (wr.alloc o) := fun o => hb.alloc hb.size o
          have HN : Hid (∀ X, ((wr.alloc (.cells X 71)).heap[wr.heap.size]? = some (.cells X 71 (0, 0)))) := fun X => heap_alloc_new wr _
          go_wp2
          have hW2 := hbA (.cells #[.int .i64 d.pos, .string d.name, .slice pa np pc, .slice ca nc cc] 71)
          have HD2 := Lib.hid (HN.out #[.int .i64 d.pos, .string d.name, .slice pa np pc, .slice ca nc cc])
          have HC2 := Lib.hid (HC.out.lift ((Below.refl _ wr).alloc (Nat.le_refl _) (.cells #[.int .i64 d.pos, .string d.name, .slice pa np pc, .slice ca nc cc] 71)))
          have hlt2 : wr.heap.size < (wr.alloc (.cells #[.int .i64 d.pos, .string d.name, .slice pa np pc, .slice ca nc cc] 71)).heap.size := by simp
          generalize (wr.alloc (.cells #[.int .i64 d.pos, .string d.name, .slice pa np pc, .slice ca nc cc] 71)) = W2 at *
          clear HC HN hbA q0 q1 q2 q3 p0
          generalize wr.heap.size = DD at *
          go_loopw [8] (fun x w4 => ∃ k : Nat, k ≤ nc ∧ x = .int .i64 k ∧ Below W2.heap.size W2 w4) (fun x _ => nc - (intOf x).toNat)
          case atStart => exact ⟨0, Nat.zero_le _, rfl, Below.refl _ _⟩
          case round =>
            obtain ⟨k, hk, rfl, hb4⟩ := hrel
            have r3 : wr.cell? ⟨DD, 3, none⟩ = some (.slice ca nc cc) := (cell_of_block ((hb4.block _ hlt2).trans HD2.out) (m := 3) rfl).1
            by_cases hkl : k < nc
            · obtain ⟨c2, hc2⟩ : ∃ x, d.ctors[k]? = some x := ⟨_, List.getElem?_eq_getElem (by rw [← HMc.out]; exact hkl)⟩
              obtain ⟨ok5, ok6⟩ := HO.out c2 (List.mem_of_getElem? hc2)
              have HO6 := Lib.hid ok6
              obtain ⟨ad2, cl, rfl, -, ⟨fv, rfl, hf⟩, -, hcm⟩ := slG_get (HC2.out.lift hb4) hc2
              have s2 := hcm 2 _ (by decide) rfl
              simp only [show CtorE.k = 3 from rfl] at s2
              obtain ⟨fa, fc, rfl⟩ := slG_form hf
              have HFs := Lib.hid hf
              obtain ⟨nf, hnf⟩ : ∃ x, x = c2.fields.length := ⟨_, rfl⟩
              rw [← hnf] at s2 HFs ok5
              have HMf := Lib.hid hnf
              clear hcm hf hc2 ok6 hnf
              have hkc : (k : Int) < (nc : Int) := by omega
              have HR3 := Lib.hid r3
              have HS2 := Lib.hid s2
              go_wp2
              clear r3 s2
              have hbW4 := hW2.trans (hb4.mono hW2.size)
              generalize hW4 : wr = W4 at *
              clear hW4
              go_loopw [9] (fun x w5 => ∃ m : Nat, m ≤ nf ∧ x = .int .i64 m ∧ Below W4.heap.size W4 w5) (fun x _ => nf - (intOf x).toNat)
              case atStart => exact ⟨0, Nat.zero_le _, rfl, Below.refl _ _⟩
              case round =>
                obtain ⟨m, hm, rfl, hb5⟩ := hrel
                have kc : ∀ p v, W4.cell? p = some v → wr.cell? p = some v := fun p v h => (hb5.cell (World.block_lt_of_cell? _ _ h)).trans h
                have r3 := kc _ _ HR3.out
                have s2 := kc _ _ HS2.out
                clear kc
                by_cases hml : m < nf
                · obtain ⟨T, hT⟩ : ∃ x, c2.fields[m]? = some x := ⟨_, List.getElem?_eq_getElem (by rw [← HMf.out]; exact hml)⟩
                  have hd40 := HO6.out T (List.mem_of_getElem? hT)
                  obtain ⟨fa', fc', e, -, hj5⟩ := slG_repL (HFs.out.lift hb5)
                  obtain ⟨ad3, x, hfa, -, h5, hx⟩ := hj5 m T hT
                  simp only [Value.slice.injEq] at e
                  have hfa := e.1.trans hfa
                  clear e
                  subst hfa
                  obtain ⟨k', n', i', h', s', eU, rfl, hn2, hs5⟩ := hx.open
                  obtain ⟨t0, t1, t2, t3, t4⟩ := five_at h5
                  obtain ⟨sa', sc', rfl, -⟩ := hs5
                  have HDp := Lib.hid (depth_any T (by omega) _ _ _ hx)
                  clear h5 hx eU hn2 hj5 hT
                  have hmf : (m : Int) < (nf : Int) := by omega
                  have hd4 : (dep T : Int) ≤ 40 := by omega
                  generalize T.ts.length = sn' at *
                  generalize dep T = dT at *
                  go_wp2_with (go_at_call 102; refine HDp.out.mono ?_; rintro e w6 ⟨rfl, hb6⟩)
                  go_roundw
                  case rel => exact ⟨m + 1, hml, by go_num, hb5.trans (hb6.mono hb5.size)⟩
                  case measure => simp [intOf]; omega
                · obtain rfl : nf = m := by omega
                  go_wp2
                  go_roundw
                  case rel => exact ⟨k + 1, hkl, by go_num, hb4.trans (hb5.mono hb4.size)⟩
                  case measure => simp [intOf]; omega
            · obtain rfl : nc = k := by omega
              go_wp2
              go_roundw
              case rel => exact ⟨j + 1, hlt, by go_num, hW2.trans (hb4.mono hW2.size)⟩
              case measure => simp [intOf]; omega
        · obtain rfl : n = j := by omega
          have p1 : wr.cell? ⟨w.heap.size, 1, none⟩ = some (.slice none 0 0) := (cell_of_block ((hb.block _ (by omega)).trans HP.out) (m := 1) rfl).1
          have hbq := hb
          clear hb
          go_wp2
          go_loopw [10] (fun x wr => x = .int .i64 0 ∧ Below W.heap.size W wr) (fun _ _ => 0)
          case atStart => exact ⟨rfl, hbq⟩
          case round =>
            clear p1 p0 hbq
            obtain ⟨rfl, hb⟩ := hrel
            have p1 : wr.cell? ⟨w.heap.size, 1, none⟩ = some (.slice none 0 0) := (cell_of_block ((hb.block _ (by omega)).trans HP.out) (m := 1) rfl).1
            have hf := (hb.block _ (by omega)).trans HF.out
            obtain ⟨f0, g0⟩ := cell_of_block hf (m := 0) rfl
            obtain ⟨f1, g1⟩ := cell_of_block hf (m := 1) rfl
            have HBL : Hid (Below w.heap.size w wr) := hb0.trans (hb.mono hb0.size)
            clear hb0
            go_wp2
            obtain ⟨a0, h0, s0⟩ := set1 hf 0 (.int .i64 0)
            obtain ⟨a1, h1, s1⟩ := set1 a0 1 (.int .i64 0)
            have hg := grown_trans h0 h1
            clear hf f0 f1 g0 g1 p1 h0 h1 s0 s1 a0
            generalize ((wr.setCell ⟨w.heap.size + 1, 0, none⟩ (.int .i64 0)).setCell ⟨w.heap.size + 1, 1, none⟩ (.int .i64 0)) = w9 at *
            have c0 : w9.cell? ⟨w.heap.size + 1, 0, none⟩ = some (.int .i64 0) := (cell_of_block a1 (m := 0) rfl).1
            have c1 : w9.cell? ⟨w.heap.size + 1, 1, none⟩ = some (.int .i64 0) := (cell_of_block a1 (m := 1) rfl).1
            refine bodyPost_ret (by simp [results, Try.results79, go_sem, c0, c1]; try rfl) rfl ?_
            exact ⟨rfl, Below.grown HBL.out hg HBL.out.size (fun k hk => by cases hk; exact Nat.le_succ _)⟩
end Go.Proofs.Ytahiefgfhpkoeaa

namespace Go.Proofs.Ytahiefgfhpkoeaa
open Go.RowKit Go.Sort Go.Shelf Go.Maps Mth

theorem refNew_any (g : Option Addr) (n cap : Nat) (w : World) : Calls Try.prog 75 #[.slice g n cap, .int .i64 0] w fun e w' => e = .returned (.pointer (some ⟨w.heap.size, 0, none⟩)) ∧ Rd w' w.heap.size (.slice g n cap) 0 ∧ Below w.heap.size w w' := by
  have hn : ¬ ((n : Int) < 0) := by omega
  have HA : Hid (∀ X, (w.alloc (.cells X 109)).heap[w.heap.size]? = some (.cells X 109 (0, 0))) := fun X => heap_alloc_new w _
  go_enter Try.func75, Try.ntmps75
  go_wp2
  go_ret
  exact ⟨rfl, HA.out _, (Below.refl _ w).alloc (Nat.le_refl _) _⟩

/-- The reader is as it was where another block was written, that holds a slice. -/
theorem RdT.apart {v v' : World} {b D q : Nat} {ts : List Tok} {sa : Option Addr} {sn sc : Nat} (h : RdT v b ts q) (hne : ts ≠ []) (hD : v.cell? ⟨D, 0, none⟩ = some (.slice sa sn sc)) (hb : D ≠ b) (hg : v.grownBy v' (some D)) : RdT v' b ts q := by
  obtain ⟨lv, hr, ⟨g, cap, hv, hgb, hc⟩, h3⟩ := h
  have hgD : g ≠ D := by
    intro e
    subst e
    cases ts with
    | nil => exact hne rfl
    | cons t _ =>
      have := (hc 0 t rfl).1
      rw [Nat.zero_mul, hD] at this
      cases this
  refine ⟨lv, ?_, ⟨g, cap, hv, hgb, fun j t ht => ?_⟩, h3⟩
  · unfold Rd at *
    rw [hg.block b (Array.getElem?_eq_some_iff.1 hr).1 (fun e => hb (Option.some.inj e).symm), hr]
  · obtain ⟨h1, h2, h3⟩ := hc j t ht
    have k : ∀ o x, v.cell? ⟨g, o, none⟩ = some x → v'.cell? ⟨g, o, none⟩ = some x := fun o x h => hg.cell h (fun e => hgD (Option.some.inj e))
    exact ⟨k _ _ h1, k _ _ h2, k _ _ h3⟩
def pProg (K : Nat) : Nat → List Tok → Nat → List Dat → Option (List Dat)
  | 0, _, _, _ => none
  | f + 1, ts, i, acc =>
    if i < ts.length then
      if rIs ts i ⟨#[100, 97, 116, 97]⟩ then
        match pDecl K ts i with
        | some (d, j) => pProg K f ts j (acc ++ [d])
        | none => none
      else none
    else some acc
theorem prog_cases {K g : Nat} {ts : List Tok} {i : Nat} {acc l : List Dat} (h : pProg K g ts i acc = some l) :
    (¬ i < ts.length ∧ l = acc) ∨ (i < ts.length ∧ rIs ts i ⟨#[100, 97, 116, 97]⟩ = true ∧ ∃ g' d j, g = g' + 1 ∧ pDecl K ts i = some (d, j) ∧ pProg K g' ts j (acc ++ [d]) = some l) := by
  cases g with
  | zero => simp [pProg] at h
  | succ g =>
    unfold pProg at h
    split at h
    · rename_i h1
      split at h
      · rename_i h2
        split at h
        · rename_i d j hd
          exact .inr ⟨h1, h2, g, d, j, rfl, hd, h⟩
        · simp at h
      · simp at h
    · rename_i h1
      simp only [Option.some.injEq] at h
      exact .inl ⟨h1, h.symm⟩
/-- What the loop of Parse holds. -/
structure QSt (w : World) (R F D b base : Nat) (v : World) (q : Nat) (ts : List Tok) (old sv : Value) (acc : List Dat) : Prop where
  rd : RdT v b ts q
  p : v.heap[D]? = some (.cells #[old, .slice none 0 0] 88 (0, 0))
  r1 : v.heap[R]? = some (.cells #[.slice none 0 0, .slice none 0 0] 88 (0, 0))
  r2 : v.heap[R + 1]? = some (.cells #[.int .i64 0, .int .i64 0] 91 (0, 0))
  f : v.heap[F]? = some (.cells #[.int .i64 0, .int .i64 0] 91 (0, 0))
  row : RowG DatE v base (fun c => base ≤ c) sv acc
  low : Below w.heap.size w v
  size : base ≤ v.heap.size
structure QOk (w : World) (R F D b base : Nat) : Prop where
  h0 : R = w.heap.size
  h1 : R + 1 < F
  h2 : F < D
  h3 : D < b
  h4 : b < base
section
variable {w : World} {R F D b base : Nat} {v v' : World} {q q' : Nat} {ts : List Tok} {old sv : Value} {acc : List Dat}
theorem QSt.block {row : Option Nat} (_hQ : QOk w R F D b base) (_h : QSt w R F D b base v q ts old sv acc) (hg : v.grownBy v' row) (X : Nat) (o : Obj) (hX : v.heap[X]? = some o) (hne : some X ≠ row) : v'.heap[X]? = some o :=
  (hg.block X (Array.getElem?_eq_some_iff.1 hX).1 hne).trans hX
theorem QSt.call (hQ : QOk w R F D b base) (h : QSt w R F D b base v q ts old sv acc) (hr : RdT v' b ts q') (hg : v.grownBy v' (some b)) : QSt w R F D b base v' q' ts old sv acc := by
  obtain ⟨h0, h1, h2, h3, h4⟩ := hQ
  have hs := h.size
  refine ⟨hr, h.block ⟨h0, h1, h2, h3, h4⟩ hg _ _ h.p ?_, h.block ⟨h0, h1, h2, h3, h4⟩ hg _ _ h.r1 ?_, h.block ⟨h0, h1, h2, h3, h4⟩ hg _ _ h.r2 ?_, h.block ⟨h0, h1, h2, h3, h4⟩ hg _ _ h.f ?_, h.row.kept hg (h.row.off (by omega)) (fun c hc e => by have := Option.some.inj e; omega), Below.grown h.low hg h.low.size (fun k hk => by have := Option.some.inj hk; omega), Nat.le_trans h.size hg.size⟩
  all_goals (intro e; have := Option.some.inj e; omega)
theorem QSt.lift (hQ : QOk w R F D b base) (h : QSt w R F D b base v q ts old sv acc) (hb : Below v.heap.size v v') : QSt w R F D b base v' q ts old sv acc := h.call hQ (h.rd.lift hb) (grown_of_below hb _)
theorem QSt.drew (hQ : QOk w R F D b base) (h : QSt w R F D b base v q ts old sv acc) : QSt w R F D b base v.drew q ts old sv acc := h.lift hQ (Below.refl _ v).drew
theorem QSt.cell (h : QSt w R F D b base v q ts old sv acc) : v.cell? ⟨D, 0, none⟩ = some old := (cell_of_block h.p (m := 0) rfl).1
theorem QSt.frozen (h : QSt w R F D b base v q ts old sv acc) : v.frozen? ⟨D, 0, none⟩ = false := (cell_of_block h.p (m := 0) rfl).2
theorem QSt.cellA (hQ : QOk w R F D b base) (h : QSt w R F D b base v q ts old sv acc) (o : Obj) : (v.alloc o).cell? ⟨D, 0, none⟩ = some old := (h.lift hQ ((Below.refl _ v).alloc (Nat.le_refl _) o)).cell
theorem QSt.cellD (hQ : QOk w R F D b base) (h : QSt w R F D b base v q ts old sv acc) (o : Obj) : (v.drew.alloc o).cell? ⟨D, 0, none⟩ = some old := (h.lift hQ ((Below.refl _ v).drew.alloc (Nat.le_refl _) o)).cell
theorem step_pushQ (hQ : QOk w R F D b base) (h : QSt w R F D b base v q ts old sv acc) (x : Dat) (c : List Value) (hx : DatE.rep v (fun c => base ≤ c ∧ some c ≠ sv.ownBlock) x c) (X : Array Value) (hX : X = c.toArray)
    {ops : Array Oper} {o : Oper} {a : Act} {K : Act → World → Prop} {Q : Exit → Act → World → Prop} {E' : Prop} (Z : TypeId) (hgd : o.guard = none) (s y : Operand)
    (ho : o.op = .call { callee := .builtin .append, args := #[s, y], argTypes := #[DatE.t, DatE.t] })
    (hs : a.eval s = sv) (nn : Nat) (hnn : nn = v.heap.size) (hy : a.eval y = .slice (some ⟨nn, 0, none⟩) 1 1) (N : Nat) (hN : N = acc.length + 1) (hb : N ≤ 1000000)
    (hK : ∀ (a' : Option Addr) (c' : Nat) (v3 : World), QSt w R F D b base v3 q ts old (.slice a' N c') (acc ++ [x]) → K (a.put o.dst (.slice a' N c')) v3) :
    if Region.wanted o (yielded ops a.tmps) = true then Oper.wp Try.prog o a (v.alloc (.cells X Z)) K Q else E' := by
  subst hnn hX
  have hba : Below v.heap.size v (v.alloc (.cells c.toArray Z)) := (Below.refl _ v).alloc (Nat.le_refl _) _
  have hA := h.lift hQ hba
  have hlt := fun k e => RowG.lt h.row k e
  have hQ' := hQ
  obtain ⟨h0, h1, h2, h3, h4⟩ := hQ
  refine step_pushG DatE hgd s y ho base (fun c => base ≤ c) sv acc hs hA.row v.heap.size Z c (heap_alloc_new v _) hy x (DatE.kept (fun _ h => h) (fun b _ hlt => hba.block b hlt) hx) N hN hb (Nat.le_trans h.size hba.size) ?_
  intro a' c' v3 hrow3 hg3
  have hne : ∀ X, X < base → some X ≠ sv.ownBlock := fun X hX e => by have := (hlt X e.symm).1; omega
  refine hK a' c' v3 ⟨?_, hA.block hQ' hg3 _ _ hA.p (hne _ (by omega)), hA.block hQ' hg3 _ _ hA.r1 (hne _ (by omega)), hA.block hQ' hg3 _ _ hA.r2 (hne _ (by omega)), hA.block hQ' hg3 _ _ hA.f (hne _ (by omega)), hrow3, Below.grown hA.low hg3 hA.low.size (fun k hk => by have := (hlt k hk).1; omega), Nat.le_trans hA.size hg3.size⟩
  cases hv : sv.ownBlock with
  | none => rw [hv] at hg3; exact hA.rd.lift ⟨hg3.os, hg3.tape, hg3.output, hg3.size, fun i hi => hg3.block i hi (by simp)⟩
  | some R' => rw [hv] at hg3; exact hA.rd.other (by have := (hlt R' hv).1; omega) hg3
theorem QSt.stored (hQ : QOk w R F D b base) (hne : ts ≠ []) {sa : Option Addr} {sn sc : Nat} (h : QSt w R F D b base v q ts (.slice sa sn sc) sv acc) : QSt w R F D b base (v.setCell ⟨D, 0, none⟩ sv) q ts sv sv acc := by
  obtain ⟨e1, e2, e3⟩ := set1 h.p 0 sv
  have hQ' := hQ
  obtain ⟨h0, h1, h2, h3, h4⟩ := hQ
  have hn : ∀ X, X ≠ D → some X ≠ some D := fun X hX e => hX (Option.some.inj e)
  refine ⟨h.rd.apart hne h.cell (by omega) e2, ?_, h.block hQ' e2 _ _ h.r1 (hn _ (by omega)), h.block hQ' e2 _ _ h.r2 (hn _ (by omega)), h.block hQ' e2 _ _ h.f (hn _ (by omega)), h.row.kept e2 (h.row.off (by omega)) (fun c hc e => by have := Option.some.inj e; omega), Below.grown h.low e2 h.low.size (fun k hk => by have := Option.some.inj hk; omega), by rw [e3]; exact h.size⟩
  rw [e1]; simp
end
end Go.Proofs.Ytahiefgfhpkoeaa

namespace Go.Proofs.Ytahiefgfhpkoeaa
open Go.RowKit Go.Sort Go.Shelf Go.Maps Mth

theorem enterDecl (v : Value) (w : World) : (callFunc 77 #[v]).run Try.prog w = .ok (.enter 77 #[v]) w := by kernel_rfl
/-- What Parse of a text of declarations needs to know of the text. -/
structure PText (s : ByteArray) (K : Nat) (ts : List Tok) (ds : List Dat) : Prop where
  size : s.size ≤ 4000
  err : ferr (bl s) = 0
  pos : fpos (bl s) = 0
  toks : ftoks (bl s) = ts
  len : ts.length ≤ 1000
  ne : ts ≠ []
  ok : TkOk ts
  hK : K ≤ 1000
  prog : pProg K K ts 0 [] = some ds
  num : ds.length ≤ 8
  lim : ∀ d ∈ ds, OkD d
theorem tok_cells {w : World} {base : Nat} {lv : Value} {ts : List Tok} (h : w.ownsRow base 126 3 lv ts.length (row3 ts)) (hne : ts ≠ []) : ∃ g cap, lv = .slice (some ⟨g, 0, none⟩) ts.length cap ∧ g < w.heap.size ∧ ∀ (j : Nat) (t : Tok), ts[j]? = some t →
    w.cell? ⟨g, j * 3, none⟩ = some (.int .i64 t.kind) ∧ w.cell? ⟨g, j * 3 + 1, none⟩ = some (.string ⟨t.text.toArray⟩) ∧ w.cell? ⟨g, j * 3 + 2, none⟩ = some (.int .i64 t.pos) := by
  have hlt := h.lt
  have hcell := fun g hg => h.cells (g := g) hg
  rcases h.2 with ⟨rfl, h0⟩ | ⟨g, cap, cur, rfl, -, -, -, -, -⟩
  · exact absurd (List.eq_nil_of_length_eq_zero h0) hne
  · refine ⟨g, cap, rfl, (hlt g rfl).2, fun j t ht => ?_⟩
    have key : ∀ m u, (cells3 t)[m]? = some u → w.cell? ⟨g, j * 3 + m, none⟩ = some u := by
      intro m u hu
      have hf : (row3 ts)[j * 3 + m]? = some u := by
        unfold row3
        rw [List.flatMap_def]
        exact flat_get 3 _ (by intro c hc; simp at hc; obtain ⟨x, -, rfl⟩ := hc; rfl) j m (cells3 t) u (by simp [ht]) hu
      have := hcell g rfl _ _ hf
      rwa [add_zero, Nat.zero_add] at this
    exact ⟨key 0 _ rfl, key 1 _ rfl, key 2 _ rfl⟩
theorem datE_of {w : World} {n base : Nat} {d : Dat} {sv pv cv : Value} (hp : SlG StrE w (fun c => n ≤ c) d.params pv) (hc : SlG CtorE w (fun c => n ≤ c) d.ctors cv) (hS : ∀ c, n ≤ c → base ≤ c ∧ some c ≠ sv.ownBlock) :
    DatE.rep w (fun c => base ≤ c ∧ some c ≠ sv.ownBlock) d [.int .i64 d.pos, .string d.name, pv, cv] := ⟨pv, cv, rfl, hp.kept hS (fun _ _ _ => rfl), hc.kept hS (fun _ _ _ => rfl)⟩
set_option maxRecDepth 100000 in
set_option maxHeartbeats 6400000 in
theorem refParse_any (s : ByteArray) (K : Nat) (ts : List Tok) (ds : List Dat) (ht : PText s K ts ds) (w : World) :
    Calls Try.prog 60 #[.string s] w fun e w' => ∃ dv, e = .returned (.tuple #[.agg #[dv, .slice none 0 0], .agg #[.int .i64 0, .int .i64 0]]) ∧ SlG DatE w' (fun c => w.heap.size ≤ c) ds dv ∧ Below w.heap.size w w' := by
  have HT := Lib.hid ht
  have HSc := Lib.hid (fun w => refScan_any s w (by have := ht.size; omega))
  clear ht
  have hb0 : Below w.heap.size w ((w.alloc (.cells #[.slice none 0 0, .slice none 0 0] 88)).alloc (.cells #[.int .i64 0, .int .i64 0] 91)) := ((Below.refl _ w).alloc (Nat.le_refl _) _).alloc (by simp) _
  have HR1 : Hid (((w.alloc (.cells #[.slice none 0 0, .slice none 0 0] 88)).alloc (.cells #[.int .i64 0, .int .i64 0] 91)).heap[w.heap.size]? = some (.cells #[.slice none 0 0, .slice none 0 0] 88 (0, 0))) := by
    show _ = _
    rw [heap_at, if_neg (by simp), heap_at, if_pos rfl]
  have HR2 : Hid (((w.alloc (.cells #[.slice none 0 0, .slice none 0 0] 88)).alloc (.cells #[.int .i64 0, .int .i64 0] 91)).heap[w.heap.size + 1]? = some (.cells #[.int .i64 0, .int .i64 0] 91 (0, 0))) := by
    show _ = _
    rw [heap_at, if_pos (by simp)]
  have hsz0 : w.heap.size + 2 = ((w.alloc (.cells #[.slice none 0 0, .slice none 0 0] 88)).alloc (.cells #[.int .i64 0, .int .i64 0] 91)).heap.size := by simp
  go_enter Try.func60, Try.ntmps60
  go_wp2_with fail
  go_at_call 74
  generalize ((w.alloc (.cells #[.slice none 0 0, .slice none 0 0] 88)).alloc (.cells #[.int .i64 0, .int .i64 0] 91)) = w0 at *
  refine (HSc.out _).mono ?_
  rintro e w1 ⟨lv, rfl, hrow, hb1⟩
  rw [HT.out.err, HT.out.pos]
  rw [HT.out.toks] at hrow
  have hg1 := hb0.trans (hb1.mono hb0.size)
  have HR1' := Lib.hid ((hb1.block _ (by omega)).trans HR1.out)
  have HR2' := Lib.hid ((hb1.block _ (by omega)).trans HR2.out)
  have hsz1 : w.heap.size + 2 ≤ w1.heap.size := by have := hb1.size; omega
  have HTk := Lib.hid hrow
  obtain ⟨tg, tc, rfl, htg, htc⟩ := tok_cells hrow HT.out.ne
  have HTc := Lib.hid htc
  clear hrow hb1 hb0 HR1 HR2 hsz0 HSc HTk htc
  have hbb := ((Below.refl w1.heap.size w1).alloc (Nat.le_refl _) (.cells #[.int .i64 0, .int .i64 0] 91)).alloc (by simp) (.cells #[.slice none 0 0, .slice none 0 0] 88)
  have HF1 : Hid (((w1.alloc (.cells #[.int .i64 0, .int .i64 0] 91)).alloc (.cells #[.slice none 0 0, .slice none 0 0] 88)).heap[w1.heap.size]? = some (.cells #[.int .i64 0, .int .i64 0] 91 (0, 0))) := by
    show _ = _
    rw [heap_at, if_neg (by simp), heap_at, if_pos rfl]
  have HP1 : Hid (((w1.alloc (.cells #[.int .i64 0, .int .i64 0] 91)).alloc (.cells #[.slice none 0 0, .slice none 0 0] 88)).heap[w1.heap.size + 1]? = some (.cells #[.slice none 0 0, .slice none 0 0] 88 (0, 0))) := by
    show _ = _
    rw [heap_at, if_pos (by simp)]
  have hsz2 : ((w1.alloc (.cells #[.int .i64 0, .int .i64 0] 91)).alloc (.cells #[.slice none 0 0, .slice none 0 0] 88)).heap.size = w1.heap.size + 2 := by simp
  go_wp2_with fail
  go_at_call 75
  generalize ((w1.alloc (.cells #[.int .i64 0, .int .i64 0] 91)).alloc (.cells #[.slice none 0 0, .slice none 0 0] 88)) = w2 at *
  refine (refNew_any _ _ _ _).mono ?_
  rintro e w3 ⟨rfl, hrd, hb3⟩
  have hkc : ∀ p v, w1.cell? p = some v → w3.cell? p = some v := fun p v h => by
    have h1 := World.block_lt_of_cell? _ _ h
    exact (hb3.cell (by omega)).trans ((hbb.cell h1).trans h)
  have HQk : Hid (QOk w w.heap.size w1.heap.size (w1.heap.size + 1) w2.heap.size (w2.heap.size + 1)) := ⟨rfl, by omega, by omega, by omega, by omega⟩
  have HQ0 : Hid (QSt w w.heap.size w1.heap.size (w1.heap.size + 1) w2.heap.size (w2.heap.size + 1) w3 0 ts (.slice none 0 0) (.slice none 0 0) []) :=
    ⟨⟨_, hrd, ⟨tg, tc, rfl, by omega, fun j t ht => ⟨hkc _ _ (HTc.out j t ht).1, hkc _ _ (HTc.out j t ht).2.1, hkc _ _ (HTc.out j t ht).2.2⟩⟩, Nat.zero_le _, HT.out.len⟩,
      (hb3.block _ (by omega)).trans HP1.out, (hb3.block _ (by omega)).trans ((hbb.block _ (by omega)).trans HR1'.out), (hb3.block _ (by omega)).trans ((hbb.block _ (by omega)).trans HR2'.out), (hb3.block _ (by omega)).trans HF1.out, rowG_nil _ _ _ _,
      (hg1.trans (hbb.mono hg1.size)).trans (hb3.mono (by omega)), hrd.lt⟩
  have HLen := Lib.hid HT.out.len
  clear hkc hrd hb3 hbb HP1 HF1 HR1' HR2' HTc hg1 htg hsz2
  go_wp2
  go_loopg [] K (fun kk wr => ∃ (acc : List Dat) (q : Nat) (dv : Value), Hid (pProg K kk ts q acc = some ds) ∧ acc.length + kk ≤ K ∧ Hid (QSt w w.heap.size w1.heap.size (w1.heap.size + 1) w2.heap.size (w2.heap.size + 1) wr q ts dv dv acc))
  case atStart => exact ⟨[], 0, _, HT.out.prog, by simp, HQ0⟩
  case round =>
    clear HQ0
    obtain ⟨acc, q, dv, HPg, hak, HQr⟩ := hrel
    obtain ⟨da, dc, rfl, -, -⟩ := HQr.out.row.slice
    obtain ⟨lv', hrd', ⟨tg', tc', rfl, -, -⟩, hqt, -⟩ := HQr.out.rd
    obtain ⟨r0, r1, r2, -⟩ := hrd'.cells
    clear hrd'
    rcases prog_cases HPg.out with ⟨hq, rfl⟩ | ⟨hq, hd, g, d, j, rfl, hdc, hrest⟩
    · have hql : ¬ ((q : Int) < (ts.length : Int)) := by omega
      have hQ := HQk.out
      have hwb : w.heap.size ≤ w2.heap.size + 1 := by have h1 := hQ.h1; have h2 := hQ.h2; have h3 := hQ.h3; omega
      have HSl : Hid (SlG DatE wr (fun c => w.heap.size ≤ c) ds (.slice da ds.length dc)) := HQr.out.row.slG (fun c h => Nat.le_trans hwb h) (fun c h => Nat.le_trans hwb h)
      have HDp := Lib.hid (deep_any ds _ _ wr HT.out.num HT.out.lim HSl.out)
      have d0 := HQr.out.cell
      have d1 : wr.cell? ⟨w1.heap.size + 1, 1, none⟩ = some (.slice none 0 0) := (cell_of_block HQr.out.p (m := 1) rfl).1
      clear hQ hwb
      go_wp2_with fail
      go_at_call 79
      refine HDp.out.mono ?_
      rintro e v5 ⟨rfl, hb5⟩
      have HQ5 := Lib.hid (HQr.out.lift HQk.out hb5)
      have HSl5 := Lib.hid (HSl.out.lift hb5)
      obtain ⟨a0, b0⟩ := cell_of_block HQ5.out.f (m := 0) rfl
      obtain ⟨a1, b1⟩ := cell_of_block HQ5.out.f (m := 1) rfl
      clear hb5 HQr HSl HDp d0 d1 r0 r1 r2 hql hq
      go_wp2
      clear a0 a1 b0 b1 HSl5
      obtain ⟨e1, g1, -⟩ := set1 HQ5.out.f 0 (.int .i64 0)
      obtain ⟨e2, g2, -⟩ := set1 e1 1 (.int .i64 0)
      have hg := grown_trans g1 g2
      clear e1 g1 g2
      generalize ((v5.setCell ⟨w1.heap.size, 0, none⟩ (.int .i64 0)).setCell ⟨w1.heap.size, 1, none⟩ (.int .i64 0)) = v6 at *
      have hQ := HQk.out
      have h0 := hQ.h0
      have h1 := hQ.h1
      have h2 := hQ.h2
      have h3 := hQ.h3
      have hn : ∀ X, X ≠ w1.heap.size → some X ≠ some w1.heap.size := fun X hX e => hX (Option.some.inj e)
      have HSl6 : Hid (SlG DatE v6 (fun c => w2.heap.size + 1 ≤ c) ds (.slice da ds.length dc)) := (HQ5.out.row.slG (S' := fun c => w2.heap.size + 1 ≤ c) (fun _ h => h) (fun _ h => h)).kept (fun _ h => h) (fun c hc hlt => hg.block c hlt (hn c (by omega)))
      have HLow : Hid (Below w.heap.size w v6) := Below.grown HQ5.out.low hg HQ5.out.low.size (fun k hk => by have := Option.some.inj hk; omega)
      have hP := HQ5.out.block hQ hg _ _ HQ5.out.p (hn _ (by omega))
      have hR1 := HQ5.out.block hQ hg _ _ HQ5.out.r1 (hn _ (by omega))
      have hR2 := HQ5.out.block hQ hg _ _ HQ5.out.r2 (hn _ (by omega))
      have d0 : v6.cell? ⟨w1.heap.size + 1, 0, none⟩ = some (.slice da ds.length dc) := (cell_of_block hP (m := 0) rfl).1
      have d1 : v6.cell? ⟨w1.heap.size + 1, 1, none⟩ = some (.slice none 0 0) := (cell_of_block hP (m := 1) rfl).1
      have f0 : v6.cell? ⟨w1.heap.size, 0, none⟩ = some (.int .i64 0) := (cell_of_block e2 (m := 0) (by simp)).1
      have f1 : v6.cell? ⟨w1.heap.size, 1, none⟩ = some (.int .i64 0) := (cell_of_block e2 (m := 1) (by simp)).1
      obtain ⟨a0, b0⟩ := cell_of_block hR1 (m := 0) rfl
      obtain ⟨a1, b1⟩ := cell_of_block hR1 (m := 1) rfl
      obtain ⟨a2, b2⟩ := cell_of_block hR2 (m := 0) rfl
      obtain ⟨a3, b3⟩ := cell_of_block hR2 (m := 1) rfl
      have n1 : ¬ w1.heap.size = w.heap.size := by omega
      have n2 : ¬ w.heap.size = w1.heap.size := by omega
      have n3 : ¬ w1.heap.size = w.heap.size + 1 := by omega
      have n4 : ¬ w.heap.size + 1 = w1.heap.size := by omega
      have n5 : ¬ w1.heap.size + 1 = w.heap.size := by omega
      have n6 : ¬ w.heap.size = w1.heap.size + 1 := by omega
      have HR1 := Lib.hid hR1
      have HR2 := Lib.hid hR2
      clear hP hR1 hR2 e2 hg HQ5 hQ h0 h1 h2 h3 hn
      go_region
      clear d0 d1 f0 f1 a0 a1 a2 a3 b0 b1 b2 b3 n1 n2 n3 n4 n5 n6
      have hQ := HQk.out
      have h1 := hQ.h1
      have h2 := hQ.h2
      have h3 := hQ.h3
      obtain ⟨e1, g1, -⟩ := set1 HR1.out 0 (.slice da ds.length dc)
      obtain ⟨e2, g2, -⟩ := set1 e1 1 (.slice none 0 0)
      have hgA := grown_trans g1 g2
      clear e1 g1 g2
      generalize ((v6.setCell ⟨w.heap.size, 0, none⟩ (.slice da ds.length dc)).setCell ⟨w.heap.size, 1, none⟩ (.slice none 0 0)) = v7 at *
      have hR2 := (hgA.block _ (Array.getElem?_eq_some_iff.1 HR2.out).1 (fun e => by have := Option.some.inj e; omega)).trans HR2.out
      obtain ⟨e3, g3, -⟩ := set1 hR2 0 (.int .i64 0)
      obtain ⟨e4, g4, -⟩ := set1 e3 1 (.int .i64 0)
      have hgB := grown_trans g3 g4
      clear e3 g3 g4
      generalize ((v7.setCell ⟨w.heap.size + 1, 0, none⟩ (.int .i64 0)).setCell ⟨w.heap.size + 1, 1, none⟩ (.int .i64 0)) = v8 at *
      have hR1 := (hgB.block _ (Array.getElem?_eq_some_iff.1 e2).1 (fun e => by have := Option.some.inj e; omega)).trans e2
      have c0 : v8.cell? ⟨w.heap.size, 0, none⟩ = some (.slice da ds.length dc) := (cell_of_block hR1 (m := 0) (by simp)).1
      have c1 : v8.cell? ⟨w.heap.size, 1, none⟩ = some (.slice none 0 0) := (cell_of_block hR1 (m := 1) (by simp)).1
      have c2 : v8.cell? ⟨w.heap.size + 1, 0, none⟩ = some (.int .i64 0) := (cell_of_block e4 (m := 0) (by simp)).1
      have c3 : v8.cell? ⟨w.heap.size + 1, 1, none⟩ = some (.int .i64 0) := (cell_of_block e4 (m := 1) (by simp)).1
      have HSl8 : Hid (SlG DatE v8.drew (fun c => w.heap.size ≤ c) ds (.slice da ds.length dc)) :=
        (((HSl6.out.kept (fun _ h => h) (fun c hc hlt => hgA.block c hlt (fun e => by have := Option.some.inj e; omega))).kept (S' := fun c => w.heap.size ≤ c) (fun c h => by omega) (fun c hc hlt => hgB.block c hlt (fun e => by have := Option.some.inj e; omega)))).lift (Below.refl _ v8).drew
      have hlA := Below.grown HLow.out hgA HLow.out.size (fun k hk => by have := Option.some.inj hk; omega)
      have HL8 : Hid (Below w.heap.size w v8.drew) := (Below.grown hlA hgB hlA.size (fun k hk => by have := Option.some.inj hk; omega)).drew
      clear hlA hgA hgB hR1 hR2 e2 e4 hQ h1 h2 h3
      go_wp2
      refine bodyPost_ret (by simp [results, Try.results60, go_sem, c0, c1, c2, c3]; try rfl) rfl ?_
      exact ⟨_, rfl, HSl8.out, HL8.out⟩
    · have HIs : Hid (∀ w, RdT w w2.heap.size ts q → Calls Try.prog 76 #[.pointer (some ⟨w2.heap.size, 0, none⟩), .string ⟨#[100, 97, 116, 97]⟩] w fun e w' => e = .returned (.bool true) ∧ Below w.heap.size w w') := fun w h => by
        have := rdIs_any ⟨#[100, 97, 116, 97]⟩ w2.heap.size ts q w h
        rwa [hd] at this
      have HDc := Lib.hid (decl_any ts HT.out.ok K HT.out.hK q d j hdc)
      have HPn := Lib.hid hrest
      have hql : (q : Int) < (ts.length : Int) := by omega
      clear hd hdc hrest HPg
      go_wp2_with fail
      go_at_call 76
      refine (HIs.out _ HQr.out.rd).mono ?_
      rintro e v1 ⟨rfl, hb1⟩
      have HQ1 := Lib.hid (HQr.out.lift HQk.out hb1)
      have HQd := Lib.hid (QSt.drew HQk.out HQ1.out)
      clear hb1 HQr HIs r0 r1 r2
      go_wp2_with fail
      have hbd : Below v1.heap.size v1 v1.drew := (Below.refl _ v1).drew
      have hsz1 := HQ1.out.size
      have hbv : w2.heap.size < v1.heap.size := by omega
      have hle : v1.heap.size ≤ v1.drew.heap.size := hbd.size
      have HSV : Hid (∀ c, v1.heap.size ≤ c → w2.heap.size + 1 ≤ c ∧ some c ≠ (Value.slice da acc.length dc).ownBlock) := fun c hc => ⟨by omega, fun e => by have := (RowG.lt HQ1.out.row _ e.symm).2; omega⟩
      have y4 := HQd.out.cell
      have hK1 := HT.out.hK
      have hNb : acc.length + 1 ≤ 1000000 := by omega
      clear hbd hsz1 hK1
      go_region_law
        (first
          | ((with_reducible refine step_call1 77 enterDecl (.pointer (some ⟨w2.heap.size, 0, none⟩)) (fun u w' => ∃ c : List Value, u = .agg c.toArray ∧ DatE.rep w' (fun c => v1.heap.size ≤ c) d c ∧ RdT w' w2.heap.size ts j ∧ v1.drew.grownBy w' (some w2.heap.size)) ?_ ?_ ?_); (rfl); (exact (HDc.out w2.heap.size v1.heap.size _ hbv hle HQd.out.rd).mono fun _ _ ⟨c, h1, h2⟩ => ⟨_, h1, c, rfl, h2⟩); (rintro u v3 ⟨cl, rfl, hrep, hr2, hg2⟩); (have HF := Lib.hid (QSt.call HQk.out HQd.out hr2 hg2)); (obtain ⟨pv, cv, rfl, hpv, hcv⟩ := hrep); (obtain ⟨pa, pc, rfl⟩ := slG_form hpv); (obtain ⟨ca, cc, rfl⟩ := slG_form hcv); (have HE := Lib.hid (datE_of hpv hcv HSV.out)); (have HE2 := Lib.hid (datE_of (hpv.lift (Below.refl _ v3).drew) (hcv.lift (Below.refl _ v3).drew) HSV.out)); (have z4 := HF.out.cell); (have z4o := HF.out.cellA HQk.out); (have z4d := HF.out.cellD HQk.out); clear hpv hcv hr2 hg2 y4)
          | ((with_reducible refine fitA v3 _ ?_); (refine step_pushQ HQk.out HF.out d [.int .i64 d.pos, .string d.name, .slice pa d.params.length pc, .slice ca d.ctors.length cc] HE.out _ rfl _ (by rfl) _ _ (by rfl) (by rfl) _ rfl (by rfl) (acc.length + 1) rfl hNb ?_); (intro a' c' v4 hP); (have HP3 := Lib.hid hP); (have c4 := hP.cell); (have f4 := hP.frozen); clear hP z4 z4o z4d)
          | ((with_reducible refine fitA v3.drew _ ?_); (refine step_pushQ HQk.out (QSt.drew HQk.out HF.out) d [.int .i64 d.pos, .string d.name, .slice pa d.params.length pc, .slice ca d.ctors.length cc] HE2.out _ rfl _ (by rfl) _ _ (by rfl) (by rfl) _ rfl (by rfl) (acc.length + 1) rfl hNb ?_); (intro a' c' v4 hP); (have HP3 := Lib.hid hP); (have c4 := hP.cell); (have f4 := hP.frozen); clear hP z4 z4o z4d))
      all_goals
        have HP4 := Lib.hid (QSt.stored HQk.out HT.out.ne HP3.out)
        clear HP3 c4 f4 HF HE HE2 hNb HQd HQ1
        go_wp2
        go_roundg g
        case measure => omega
        case rel => exact ⟨acc ++ [d], j, _, HPn, by simp; omega, by simpa using HP4⟩
end Go.Proofs.Ytahiefgfhpkoeaa

namespace Go.Proofs.Ytahiefgfhpkoeaa
open Go.RowKit Go.Sort Go.Shelf Go.Maps Mth

def allSrc : ByteArray := ⟨#[100, 97, 116, 97, 32, 66, 111, 111, 108, 32, 61, 32, 84, 114, 117, 101, 32, 124, 32, 70, 97, 108, 115, 101, 59, 32, 100, 97, 116, 97, 32, 79, 112, 116, 105, 111, 110, 32, 97, 32, 61, 32, 78, 111, 110, 101, 32, 124, 32, 83, 111, 109, 101, 32, 97, 59, 32, 100, 97, 116, 97, 32, 76, 105, 115, 116, 32, 97, 32, 61, 32, 78, 105, 108, 32, 124, 32, 67, 111, 110, 115, 32, 97, 32, 40, 76, 105, 115, 116, 32, 97, 41, 59, 100, 97, 116, 97, 32, 80, 97, 105, 114, 32, 97, 32, 98, 32, 61, 32, 80, 97, 105, 114, 32, 97, 32, 98, 59, 32, 100, 97, 116, 97, 32, 78, 97, 116, 32, 61, 32, 90, 101, 114, 111, 32, 124, 32, 83, 117, 99, 99, 32, 78, 97, 116, 59, 32, 100, 97, 116, 97, 32, 70, 117, 110, 32, 97, 32, 98, 32, 61, 32, 70, 117, 110, 32, 40, 97, 32, 45, 62, 32, 98, 41, 59, 32, 100, 97, 116, 97, 32, 84, 119, 111, 32, 97, 32, 61, 32, 66, 111, 116, 104, 32, 97, 32, 97, 32, 124, 32, 79, 110, 101, 32, 40, 79, 112, 116, 105, 111, 110, 32, 97, 41, 59]⟩
def allToks : List Tok := ftoks (bl allSrc)
def allDats : List Dat := (pProg 40 40 allToks 0 []).getD []
theorem all_err : ferr (bl allSrc) = 0 := by decide +kernel
theorem all_pos : fpos (bl allSrc) = 0 := by decide +kernel
theorem all_len : (decide (allToks.length ≤ 1000) && decide (0 < allToks.length)) = true := by decide +kernel
theorem all_ok : allToks.all (fun t => decide (t.text.length ≤ 4000)) = true := by decide +kernel
theorem all_some : (pProg 40 40 allToks 0 []).isSome = true := by decide +kernel
theorem all_num : allDats.length = 7 := by decide +kernel
theorem all_lim : allDats.all (fun d => decide (d.params.length ≤ 4) && decide (d.ctors.length ≤ 6) && decide (d.name.size ≤ 4000) && d.ctors.all (fun c => decide (c.fields.length ≤ 4) && c.fields.all (fun T => decide (dep T ≤ 40)))) = true := by decide +kernel
theorem allText : PText allSrc 40 allToks allDats where
  size := by decide +kernel
  err := all_err
  pos := all_pos
  toks := rfl
  len := by have := all_len; simp only [Bool.and_eq_true, decide_eq_true_eq] at this; exact this.1
  ne := by intro h; have := all_len; rw [h] at this; simp at this
  ok := fun t ht => by have := List.all_eq_true.1 all_ok t ht; simpa using this
  hK := by decide
  prog := by
    have h := all_some
    unfold allDats
    cases hp : pProg 40 40 allToks 0 [] with
    | none => rw [hp] at h; cases h
    | some l => rfl
  num := by rw [all_num]; decide
  lim := fun d hd => by
    have := List.all_eq_true.1 all_lim d hd
    simp only [Bool.and_eq_true, decide_eq_true_eq, List.all_eq_true] at this
    exact ⟨this.1.1.1, this.1.1.2, fun c hc => ⟨(this.2 c hc).1, (this.2 c hc).2⟩⟩
theorem all_name : ∀ d ∈ allDats, d.name.size ≤ 4000 ∧ d.params.length ≤ 4 := fun d hd => by
  have := List.all_eq_true.1 all_lim d hd
  simp only [Bool.and_eq_true, decide_eq_true_eq, List.all_eq_true] at this
  exact ⟨this.1.2, this.1.1.1⟩
set_option maxHeartbeats 1600000 in
theorem all_any (w : World) : Calls Try.prog 46 #[] w fun e w' => ∃ dv, e = .returned dv ∧ SlG DatE w' (fun c => w.heap.size ≤ c) allDats dv ∧ Below w.heap.size w w' := by
  have HP := Lib.hid (fun w => refParse_any allSrc 40 allToks allDats allText w)
  go_enter Try.func46, Try.ntmps46
  go_wp2_with fail
  go_at_call 60
  refine (HP.out _).mono ?_
  rintro e w1 ⟨dv, rfl, hsl, hb1⟩
  obtain ⟨da, dc, rfl⟩ := slG_form hsl
  have HSl := Lib.hid hsl
  have HB := Lib.hid hb1
  have HA : Hid (∀ X Y, Below w1.heap.size w1 ((w1.alloc X).alloc Y)) := fun X Y => ((Below.refl _ w1).alloc (Nat.le_refl _) X).alloc (by simp) Y
  clear hsl hb1 HP
  go_wp2
  go_ret
  exact ⟨_, rfl, HSl.out.lift (HA.out _ _), HB.out.trans ((HA.out _ _).mono HB.out.size)⟩
end Go.Proofs.Ytahiefgfhpkoeaa

namespace Go.Proofs.Ytahiefgfhpkoeaa
open Go.RowKit Go.Sort Go.Shelf Go.Maps Mth

/-- Some of the declarations that the maker knows. -/
def Some_ (ds : List Dat) : Prop := ds.length ≤ 8 ∧ ∀ d ∈ ds, d ∈ allDats
set_option maxRecDepth 100000 in
set_option maxHeartbeats 3200000 in
theorem datas_any (bits : Int) (w : World) : Calls Try.prog 14 #[.int .i64 bits] w fun e w' => ∃ ds dv, e = .returned dv ∧ Some_ ds ∧ SlG DatE w' (fun c => w.heap.size ≤ c) ds dv ∧ Below w.heap.size w w' := by
  have HA := Lib.hid (fun w => all_any w)
  have HN := Lib.hid all_num
  cases hA : (Go.bits BinOp.and IntKind.i64 bits 2 != 0) <;> cases hB : (Go.bits BinOp.and IntKind.i64 bits 64 != 0)
  all_goals
   go_enter Try.func14, Try.ntmps14
   go_wp2_with fail
   go_at_call 46
   refine (HA.out _).mono ?_
   rintro e w1 ⟨dv, rfl, hsl, hb1⟩
   obtain ⟨da, dc, rfl⟩ := slG_form hsl
   rw [HN.out]
   rw [HN.out] at hsl
   have HSl := Lib.hid hsl.bound
   have HB := Lib.hid hb1
   obtain ⟨d, hd⟩ : ∃ x, allDats[1]? = some x := ⟨_, List.getElem?_eq_getElem (by rw [HN.out]; decide)⟩
   obtain ⟨ad, cl, rfl, -, ⟨pv, cv, rfl, hp, hc⟩, hc0, hcm⟩ := slG_get hsl hd
   have q0 := hc0 _ rfl
   have q1 := hcm 1 _ (by decide) rfl
   have q2 := hcm 2 _ (by decide) rfl
   have q3 := hcm 3 _ (by decide) rfl
   simp only [show DatE.k = 4 from rfl] at q0 q1 q2 q3
   simp [Addr.add] at q0 q1 q2 q3
   obtain ⟨pa, pc, rfl⟩ := slG_form hp
   obtain ⟨ca, cc, rfl⟩ := slG_form hc
   have HRp : Hid (DatE.rep w1 (fun c => w.heap.size ≤ c) d [.int .i64 d.pos, .string d.name, .slice pa d.params.length pc, .slice ca d.ctors.length cc]) := ⟨_, _, rfl, hp, hc⟩
   have HM := Lib.hid (List.mem_of_getElem? hd)
   have hx0 : ∀ X, DatE.rep (w1.alloc X) (fun c => (w.heap.size ≤ c ∧ c < w1.heap.size) ∧ some c ≠ (Value.slice none 0 0).ownBlock) d [.int .i64 d.pos, .string d.name, .slice pa d.params.length pc, .slice ca d.ctors.length cc] := fun X =>
     DatE.kept (fun c hc => ⟨hc, by simp [Value.ownBlock]⟩) (fun c hc _ => ((Below.refl _ w1).alloc (Nat.le_refl _) X).block c hc.2) (DatE.bound HRp.out)
   have HX0 := Lib.hid hx0
   have HN0 : Hid (∀ X Z, (w1.alloc (.cells X Z)).heap[w1.heap.size]? = some (.cells X Z (0, 0))) := fun X Z => heap_alloc_new w1 _
   have hbA : ∀ X, Below w1.heap.size w1 (w1.alloc X) := fun X => (Below.refl _ w1).alloc (Nat.le_refl _) X
   clear hc0 hcm hp hc hd hsl hb1 HA hx0
   go_wp2_with (at_builtin; refine wpList_pushG DatE rfl _ _ rfl w1.heap.size (fun c => w.heap.size ≤ c ∧ c < w1.heap.size) (.slice none 0 0) [] rfl (rowG_nil _ _ _ _) w1.heap.size _ [.int .i64 d.pos, .string d.name, .slice pa d.params.length pc, .slice ca d.ctors.length cc] (HN0.out _ _) rfl d (HX0.out _) 1 rfl (by decide) (hbA _).size ?_; intro a' c' w2 hrow2 hg2; have HRow2 := Lib.hid hrow2; have hb2 := Below.grown (hbA _) hg2 (hbA _).size (by intro k hk; simp [Value.ownBlock] at hk); clear hrow2 hg2)
   all_goals
     go_loopw [4, 5] (fun y x wr => ∃ (j : Nat) (xs : List Dat), j ≤ 7 ∧ x = .int .i64 j ∧ Hid (RowG DatE wr w1.heap.size (fun c => w.heap.size ≤ c ∧ c < w1.heap.size) y xs) ∧ Hid (∀ z ∈ xs, z ∈ allDats) ∧ xs.length ≤ j + 1 ∧ Below w1.heap.size w1 wr) (fun _ x _ => 7 - (intOf x).toNat)
     case atStart => first
       | exact ⟨0, [d], Nat.zero_le _, rfl, HRow2, fun z hz => by simp at hz; subst hz; exact HM.out, by simp, hb2⟩
       | exact ⟨0, [], Nat.zero_le _, rfl, rowG_nil _ _ _ _, fun z hz => by simp at hz, by simp, Below.refl _ _⟩
     case round =>
       clear q0 q1 q2 q3 HX0 HN0 hbA HRp HM
       obtain ⟨j, xs, hj, rfl, HRow, HX, hl, hb⟩ := hrel
       by_cases hlt : j < 7
       · obtain ⟨e, he⟩ : ∃ x, allDats[j]? = some x := ⟨_, List.getElem?_eq_getElem (by rw [HN.out]; exact hlt)⟩
         obtain ⟨ad2, cl, had, -, ⟨pv2, cv2, rfl, hp, hc⟩, hc0, hcm⟩ := slG_get (HSl.out.lift hb) he
         cases had
         have q0 := hc0 _ rfl
         have q1 := hcm 1 _ (by decide) rfl
         have q2 := hcm 2 _ (by decide) rfl
         have q3 := hcm 3 _ (by decide) rfl
         simp only [show DatE.k = 4 from rfl] at q0 q1 q2 q3
         obtain ⟨pa2, pc2, rfl⟩ := slG_form hp
         obtain ⟨ca2, cc2, rfl⟩ := slG_form hc
         have HM := Lib.hid (List.mem_of_getElem? he)
         have hx0 : ∀ X, DatE.rep (wr.alloc X) (fun c => (w.heap.size ≤ c ∧ c < w1.heap.size) ∧ some c ≠ u4.ownBlock) e [.int .i64 e.pos, .string e.name, .slice pa2 e.params.length pc2, .slice ca2 e.ctors.length cc2] := fun X =>
           DatE.kept (fun c hc => ⟨hc, fun e => by have := (RowG.lt HRow.out c e.symm).1; omega⟩) (fun c hc hlt => ((Below.refl _ wr).alloc (Nat.le_refl _) X).block c hlt) ⟨_, _, rfl, hp, hc⟩
         have HXe := Lib.hid hx0
         have HNr : Hid (∀ X Z, (wr.alloc (.cells X Z)).heap[wr.heap.size]? = some (.cells X Z (0, 0))) := fun X Z => heap_alloc_new wr _
         have HBr : Hid (∀ X, Below wr.heap.size wr (wr.alloc X)) := fun X => (Below.refl _ wr).alloc (Nat.le_refl _) X
         have HRowA := Lib.hid (fun X => HRow.out.lift (HBr.out X))
         have hsz : w1.heap.size ≤ wr.heap.size := hb.size
         have HLow : Hid (∀ k, u4.ownBlock = some k → w1.heap.size ≤ k) := fun k hk => (RowG.lt HRow.out k hk).1
         have hji : (j : Int) < 7 := by omega
         have hj0 : (0 : Int) ≤ (j : Int) := by omega
         clear hc0 hcm hp hc he hx0
         by_cases hj1 : j = 1
         · subst hj1
           clear q0 q1 q2 q3 HXe HNr HBr HRowA hji hj0
           go_wp2
           go_roundw
           case rel => exact ⟨2, xs, by omega, rfl, HRow, HX, by omega, hb⟩
           case measure => simp [intOf]
         have hj1' : ¬ (j : Int) = 1 := by omega
         go_wp2_with (at_builtin; refine wpList_pushG DatE rfl _ _ rfl w1.heap.size (fun c => w.heap.size ≤ c ∧ c < w1.heap.size) u4 xs rfl (HRowA.out _) wr.heap.size _ [.int .i64 e.pos, .string e.name, .slice pa2 e.params.length pc2, .slice ca2 e.ctors.length cc2] (HNr.out _ _) rfl e (HXe.out _) (xs.length + 1) rfl (by omega) (Nat.le_trans hsz (HBr.out _).size) ?_; intro a3 c3 w3 hrow3 hg3; have HRow3 := Lib.hid hrow3; have hb3 := Below.grown (hb.trans ((HBr.out _).mono hsz)) hg3 (Nat.le_trans hsz (HBr.out _).size) HLow.out; clear hrow3 hg3)
         all_goals
           have hxs : ∀ z ∈ xs ++ [e], z ∈ allDats := fun z hz => by
             rcases List.mem_append.1 hz with h | h
             · exact HX.out z h
             · simp at h; subst h; exact HM.out
           first
             | exact ⟨⟨j + 1, xs ++ [e], hlt, by first | go_num | (simp <;> omega), HRow3, hxs, by simp; omega, hb3⟩, by simp [intOf] <;> omega⟩
             | exact ⟨⟨j + 1, xs, hlt, by first | go_num | (simp <;> omega), HRow, HX, by omega, hb⟩, by simp [intOf] <;> omega⟩
             | (go_roundw
                case rel => first
                  | exact ⟨j + 1, xs ++ [e], hlt, by first | go_num | (simp <;> omega), HRow3, hxs, by simp; omega, hb3⟩
                  | exact ⟨j + 1, xs, hlt, by first | go_num | (simp <;> omega), HRow, HX, by omega, hb⟩
                case measure => simp [intOf]; omega)
       · have hbw := HB.out.size
         have HS7 : Hid (SlG DatE wr (fun c => w.heap.size ≤ c) xs u4) := HRow.out.slG (fun _ h => h.1) (fun c h => Nat.le_trans hbw h)
         have HB7 : Hid (Below w.heap.size w wr) := HB.out.trans (hb.mono hbw)
         have hj7 : ¬ ((j : Int) < 7) := by omega
         go_wp2
         go_ret
         exact ⟨xs, _, rfl, ⟨by omega, HX.out⟩, HS7.out, HB7.out⟩
end Go.Proofs.Ytahiefgfhpkoeaa
