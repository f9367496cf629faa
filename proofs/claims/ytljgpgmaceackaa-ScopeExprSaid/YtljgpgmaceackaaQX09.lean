import Derived.Test.YtljgpgmaceackaaQX08
import Derived.Test.YtljgpgmaceackaaQX02
import Derived.Test.YtljgpgmaceackaaQX10
import Derived.Test.YtljgpgmaceackaaQX03
import Derived.Deep.Cut
import Derived.Test.YtljgpgmaceackaaQX07
/- What a loop of the reader that appends to a field holds. -/
namespace Go.Proofs.Ytljgpgmaceackaa.S3
open Go.RowKit Go.Maps Mth

/-- J is kept where no block is touched but the reader's, the box's and those from base on. -/
structure JOk (w : World) (b D base : Nat) (J : World → Prop) : Prop where
  hb : b < w.heap.size
  hD : w.heap.size ≤ D
  hbase : D < base
  keep : ∀ v v' row, J v → v.grownBy v' row → (∀ R, row = some R → R = b ∨ R = D ∨ base ≤ R) → J v'
structure PSt {α : Type} (E : El α) (w : World) (D base : Nat) (T : TypeId) (J : World → Prop) (v : World) (b q : Nat) (ts : List Tok) (d : Array Value) (m : Nat) (old sv : Value) (acc : List α) : Prop where
  rd : RdT v b ts q
  box : v.heap[D]? = some (.cells d T (0, 0))
  at_ : d[m]? = some old
  row : RowG E v base (fun c => base ≤ c) sv acc
  oth : J v
  grown : w.grownBy v (some b)
  size : base ≤ v.heap.size

section
variable {α : Type} {E : El α} {w : World} {D base : Nat} {T : TypeId} {J : World → Prop} {v v' : World} {b q q' : Nat} {ts : List Tok} {d : Array Value} {m : Nat} {old sv : Value} {acc : List α}
theorem PSt.call (hJ : JOk w b D base J) (h : PSt E w D base T J v b q ts d m old sv acc) (hr : RdT v' b ts q') (hg : v.grownBy v' (some b)) : PSt E w D base T J v' b q' ts d m old sv acc :=
  have h1 := hJ.hb
  have h2 := hJ.hD
  have h3 := hJ.hbase
  ⟨hr, (hg.block D (Nat.lt_of_lt_of_le h3 h.size) (fun e => by have := Option.some.inj e; omega)).trans h.box, h.at_, h.row.kept hg (h.row.off (by omega)) (fun c hc e => by have := Option.some.inj e; omega), hJ.keep _ _ _ h.oth hg (fun R e => .inl (Option.some.inj e).symm), grown_trans h.grown hg, Nat.le_trans h.size hg.size⟩
theorem PSt.lift (hJ : JOk w b D base J) (h : PSt E w D base T J v b q ts d m old sv acc) (hb : Below v.heap.size v v') : PSt E w D base T J v' b q ts d m old sv acc :=
  h.call hJ (h.rd.lift hb) (grown_of_below hb _)
theorem PSt.drew (hJ : JOk w b D base J) (h : PSt E w D base T J v b q ts d m old sv acc) : PSt E w D base T J v.drew b q ts d m old sv acc := h.lift hJ (Below.refl _ v).drew
theorem cell_of_block {v : World} {D : Nat} {d : Array Value} {T : TypeId} {m : Nat} {x : Value} (h : v.heap[D]? = some (.cells d T (0, 0))) (hm : d[m]? = some x) : v.cell? ⟨D, m, none⟩ = some x ∧ v.frozen? ⟨D, m, none⟩ = false := by
  constructor
  · simp [World.cell?, h, hm]
  · simp [World.frozen?, h]
theorem PSt.cell (h : PSt E w D base T J v b q ts d m old sv acc) : v.cell? ⟨D, m, none⟩ = some old := (cell_of_block h.box h.at_).1
theorem PSt.frozen (h : PSt E w D base T J v b q ts d m old sv acc) : v.frozen? ⟨D, m, none⟩ = false := (cell_of_block h.box h.at_).2
theorem PSt.cellA (hJ : JOk w b D base J) (h : PSt E w D base T J v b q ts d m old sv acc) (o : Obj) : (v.alloc o).cell? ⟨D, m, none⟩ = some old := (h.lift hJ ((Below.refl _ v).alloc (Nat.le_refl _) o)).cell
theorem PSt.cellD (hJ : JOk w b D base J) (h : PSt E w D base T J v b q ts d m old sv acc) (o : Obj) : (v.drew.alloc o).cell? ⟨D, m, none⟩ = some old := (h.lift hJ ((Below.refl _ v).drew.alloc (Nat.le_refl _) o)).cell
theorem step_pushP (hJ : JOk w b D base J) (h : PSt E w D base T J v b q ts d m old sv acc) (x : α) (c : List Value) (hx : E.rep v (fun c => base ≤ c ∧ some c ≠ sv.ownBlock) x c) (X : Array Value) (hX : X = c.toArray)
    {ops : Array Oper} {o : Oper} {a : Act} {K : Act → World → Prop} {Q : Exit → Act → World → Prop} {E' : Prop} (Z : TypeId) (hgd : o.guard = none) (s y : Operand)
    (ho : o.op = .call { callee := .builtin .append, args := #[s, y], argTypes := #[E.t, E.t] })
    (hs : a.eval s = sv) (nn : Nat) (hnn : nn = v.heap.size) (hy : a.eval y = .slice (some ⟨nn, 0, none⟩) 1 1) (N : Nat) (hN : N = acc.length + 1) (hb : N ≤ 1000000)
    (hK : ∀ (a' : Option Addr) (c' : Nat) (v3 : World), PSt E w D base T J v3 b q ts d m old (.slice a' N c') (acc ++ [x]) → K (a.put o.dst (.slice a' N c')) v3) :
    if Region.wanted o (yielded ops a.tmps) = true then Oper.wp Try.prog o a (v.alloc (.cells X Z)) K Q else E' := by
  subst hnn hX
  have hba : Below v.heap.size v (v.alloc (.cells c.toArray Z)) := (Below.refl _ v).alloc (Nat.le_refl _) _
  have hA := h.lift hJ hba
  have hlt := fun k e => RowG.lt h.row k e
  have h1 := hJ.hb
  have h2 := hJ.hD
  have h3 := hJ.hbase
  refine step_pushG E hgd s y ho base (fun c => base ≤ c) sv acc hs hA.row v.heap.size Z c (heap_alloc_new v _) hy x (E.kept (fun _ h => h) (fun b _ hlt => hba.block b hlt) hx) N hN hb (Nat.le_trans h.size hba.size) ?_
  intro a' c' v3 hrow3 hg3
  refine hK a' c' v3 ⟨?_, (hg3.block D (Nat.lt_of_lt_of_le h3 hA.size) (fun e => by have := (hlt _ e.symm).1; omega)).trans hA.box, hA.at_, hrow3, hJ.keep _ _ _ hA.oth hg3 (fun R e => .inr (.inr (hlt R e).1)), ?_, Nat.le_trans hA.size hg3.size⟩
  · cases hv : sv.ownBlock with
    | none => rw [hv] at hg3; exact hA.rd.lift ⟨hg3.os, hg3.tape, hg3.output, hg3.size, fun i hi => hg3.block i hi (by simp)⟩
    | some R => rw [hv] at hg3; exact hA.rd.other (by have := (hlt R hv).1; omega) hg3
  · exact grown_fresh hA.grown hg3 fun R e => by have := (hlt R e).1; omega
/-- The same in a plain region. -/
theorem wpList_pushP (hJ : JOk w b D base J) (h : PSt E w D base T J v b q ts d m old sv acc) (x : α) (c : List Value) (hx : E.rep v (fun c => base ≤ c ∧ some c ≠ sv.ownBlock) x c) (X : Array Value) (hX : X = c.toArray)
    {ops : Array Oper} {rest : List Oper} {o : Oper} {a : Act} {Q : Exit → Act → World → Prop} (Z : TypeId) (hgd : o.guard = none) (s y : Operand)
    (ho : o.op = .call { callee := .builtin .append, args := #[s, y], argTypes := #[E.t, E.t] })
    (hs : a.eval s = sv) (nn : Nat) (hnn : nn = v.heap.size) (hy : a.eval y = .slice (some ⟨nn, 0, none⟩) 1 1) (N : Nat) (hN : N = acc.length + 1) (hb : N ≤ 1000000)
    (hK : ∀ (a' : Option Addr) (c' : Nat) (v3 : World), PSt E w D base T J v3 b q ts d m old (.slice a' N c') (acc ++ [x]) → wpList Try.prog ops Q rest (a.put o.dst (.slice a' N c')) v3) :
    wpList Try.prog ops Q (o :: rest) a (v.alloc (.cells X Z)) := by
  subst hnn hX
  have hba : Below v.heap.size v (v.alloc (.cells c.toArray Z)) := (Below.refl _ v).alloc (Nat.le_refl _) _
  have hA := h.lift hJ hba
  have hlt := fun k e => RowG.lt h.row k e
  have h1 := hJ.hb
  have h2 := hJ.hD
  have h3 := hJ.hbase
  refine wpList_pushG E hgd s y ho base (fun c => base ≤ c) sv acc hs hA.row v.heap.size Z c (heap_alloc_new v _) hy x (E.kept (fun _ h => h) (fun b _ hlt => hba.block b hlt) hx) N hN hb (Nat.le_trans h.size hba.size) ?_
  intro a' c' v3 hrow3 hg3
  refine hK a' c' v3 ⟨?_, (hg3.block D (Nat.lt_of_lt_of_le h3 hA.size) (fun e => by have := (hlt _ e.symm).1; omega)).trans hA.box, hA.at_, hrow3, hJ.keep _ _ _ hA.oth hg3 (fun R e => .inr (.inr (hlt R e).1)), ?_, Nat.le_trans hA.size hg3.size⟩
  · cases hv : sv.ownBlock with
    | none => rw [hv] at hg3; exact hA.rd.lift ⟨hg3.os, hg3.tape, hg3.output, hg3.size, fun i hi => hg3.block i hi (by simp)⟩
    | some R => rw [hv] at hg3; exact hA.rd.other (by have := (hlt R hv).1; omega) hg3
  · exact grown_fresh hA.grown hg3 fun R e => by have := (hlt R e).1; omega
theorem PSt.stored (hJ : JOk w b D base J) (h : PSt E w D base T J v b q ts d m old sv acc) : PSt E w D base T J (v.setCell ⟨D, m, none⟩ sv) b q ts (d.setIfInBounds m sv) m sv sv acc := by
  obtain ⟨e1, e2, e3⟩ := set1 h.box m sv
  have h1 := hJ.hb
  have h2 := hJ.hD
  have h3 := hJ.hbase
  have hlt := fun k e => RowG.lt h.row k e
  have hm : m < d.size := by
    have := h.at_
    rw [Array.getElem?_eq_some_iff] at this
    exact this.1
  refine ⟨h.rd.other (by omega) e2, e1, ?_, h.row.kept e2 (h.row.off (by omega)) (fun c hc e => by have := Option.some.inj e; omega), hJ.keep _ _ _ h.oth e2 (fun R e => .inr (.inl (Option.some.inj e).symm)), grown_fresh h.grown e2 fun R e => by have := Option.some.inj e; omega, by rw [e3]; exact h.size⟩
  simp [hm]
end
end Go.Proofs.Ytljgpgmaceackaa.S3

/- The contract of the reference's Deep, for programs without bindings that keep the limits. -/
namespace Go.Proofs.Ytljgpgmaceackaa.S3
open Go.RowKit Go.Maps Mth

/-- Within the limits. -/
def OkC (c : Ctor) : Prop := c.fields.length ≤ 4 ∧ ∀ T ∈ c.fields, dep T ≤ 40
def OkD (d : Dat) : Prop := d.params.length ≤ 4 ∧ d.ctors.length ≤ 6 ∧ ∀ c ∈ d.ctors, OkC c
/-- One element's cells, at its place. -/
theorem slG_at {α : Type} {E : El α} {w : World} {S : Nat → Prop} {xs : List α} {v : Value} (h : SlG E w S xs v) : ∃ a cap, v = .slice a xs.length cap ∧ cap ≤ maxLen ∧ xs.length ≤ cap ∧ ∀ (j : Nat) (x : α), xs[j]? = some x → ∃ ad c, a = some ad ∧ S ad.block ∧ E.rep w S x c ∧ (∀ u, c[0]? = some u → w.cell? (ad.add (j * E.k)) = some u) ∧ ∀ (m : Nat) (u : Value), m ≠ 0 → c[m]? = some u → w.cell? ⟨(ad.add (j * E.k)).block, (ad.add (j * E.k)).off + m, none⟩ = some u := by
  obtain ⟨a, cap, rfl, ⟨hc, hc2⟩, hj⟩ := h
  refine ⟨a, cap, rfl, hc2, hc, fun j x hx => ?_⟩
  obtain ⟨ad, c, rfl, hS, hcell, hrep⟩ := hj j x hx
  refine ⟨ad, c, rfl, hS, hrep, fun u hu => hcell 0 u hu, fun m u hm hu => ?_⟩
  rw [add_add' _ _ _ hm]
  exact hcell m u hu
theorem slG_get {α : Type} {E : El α} {w : World} {S : Nat → Prop} {xs : List α} {a : Option Addr} {n cap : Nat} (h : SlG E w S xs (.slice a n cap)) {j : Nat} {x : α} (hx : xs[j]? = some x) : ∃ ad c, a = some ad ∧ S ad.block ∧ E.rep w S x c ∧ (∀ u, c[0]? = some u → w.cell? (ad.add (j * E.k)) = some u) ∧ ∀ (m : Nat) (u : Value), m ≠ 0 → c[m]? = some u → w.cell? ⟨(ad.add (j * E.k)).block, (ad.add (j * E.k)).off + m, none⟩ = some u := by
  obtain ⟨a', cap', e, -, -, hj⟩ := slG_at h
  cases e
  exact hj j x hx
theorem slG_form {α : Type} {E : El α} {w : World} {S : Nat → Prop} {xs : List α} {v : Value} (h : SlG E w S xs v) : ∃ a cap, v = .slice a xs.length cap := by
  obtain ⟨a', cap', e, -, -, hj⟩ := slG_at h
  exact ⟨a', cap', e⟩
theorem _root_.Go.Proofs.Ytljgpgmaceackaa.SlG.lift {α : Type} {E : El α} {w w' : World} {S : Nat → Prop} {xs : List α} {v : Value} (h : SlG E w S xs v) (hb : Below w.heap.size w w') : SlG E w' S xs v := h.kept (fun _ h => h) (fun b _ hlt => hb.block b hlt)

set_option maxRecDepth 100000 in
set_option maxHeartbeats 6400000 in
theorem deep_any (ds : List Dat) (dv : Value) (S : Nat → Prop) (w : World) (hn : ds.length ≤ 8) (hok : ∀ d ∈ ds, OkD d) (h : SlG DatE w S ds dv) :
    Calls Try.prog 55 #[.agg #[dv, .slice none 0 0]] w fun e w' => e = .returned (.agg #[.int .i64 0, .int .i64 0]) ∧ Below w.heap.size w w' := by
  have HD := Lib.hid h
  have HOk := Lib.hid hok
  obtain ⟨a, cap, rfl⟩ := slG_form h
  clear h hok
  obtain ⟨n, hnn⟩ : ∃ n, n = ds.length := ⟨_, rfl⟩
  rw [← hnn] at HD hn ⊢
  have HM := Lib.hid hnn
  clear hnn
  have hb0 : Below w.heap.size w ((w.alloc (.cells #[.slice a n cap, .slice none 0 0] 83)).alloc (.cells #[.int .i64 0, .int .i64 0] 45)) := ((Below.refl _ w).alloc (Nat.le_refl _) _).alloc (by simp) _
  have hX := heap_at (w.alloc (.cells #[.slice a n cap, .slice none 0 0] 83)) (.cells #[.int .i64 0, .int .i64 0] 45)
  have HP : Hid (((w.alloc (.cells #[.slice a n cap, .slice none 0 0] 83)).alloc (.cells #[.int .i64 0, .int .i64 0] 45)).heap[w.heap.size]? = some (.cells #[.slice a n cap, .slice none 0 0] 83 (0, 0))) := by
    show _ = _
    rw [hX, if_neg (by simp), heap_at, if_pos rfl]
  have HF : Hid (((w.alloc (.cells #[.slice a n cap, .slice none 0 0] 83)).alloc (.cells #[.int .i64 0, .int .i64 0] 45)).heap[w.heap.size + 1]? = some (.cells #[.int .i64 0, .int .i64 0] 45 (0, 0))) := by
    show _ = _
    rw [hX, if_pos (by simp)]
  have hsz : ((w.alloc (.cells #[.slice a n cap, .slice none 0 0] 83)).alloc (.cells #[.int .i64 0, .int .i64 0] 45)).heap.size = w.heap.size + 2 := by simp
  clear hX
  go_enter Try.func55, Try.ntmps55
  go_wp2
  generalize ((w.alloc (.cells #[.slice a n cap, .slice none 0 0] 83)).alloc (.cells #[.int .i64 0, .int .i64 0] 45)) = W at *
  go_loopw [3] (fun x wr => ∃ j : Nat, j ≤ n ∧ x = .int .i64 j ∧ Below W.heap.size W wr) (fun x _ => n - (intOf x).toNat)
  case atStart => exact ⟨0, Nat.zero_le _, rfl, Below.refl _ _⟩
  case round =>
    obtain ⟨j, hj, rfl, hb⟩ := hrel
    have p0 : wr.cell? ⟨w.heap.size, 0, none⟩ = some (.slice a n cap) := (cell_of_block ((hb.block _ (by omega)).trans HP.out) (m := 0) rfl).1
    by_cases hlt : j < n
    · have hbw := hb0.trans (hb.mono hb0.size)
      obtain ⟨d, hd⟩ : ∃ x, ds[j]? = some x := ⟨_, List.getElem?_eq_getElem (by rw [← HM.out]; exact hlt)⟩
      obtain ⟨ok1, ok2, ok3⟩ := HOk.out d (List.mem_of_getElem? hd)
      obtain ⟨ad, c, rfl, hS, ⟨pv, cv, rfl, hp, hc⟩, hc0, hcm⟩ := slG_get (HD.out.lift hbw) hd
      have q0 := hc0 _ rfl
      have q1 := hcm 1 _ (by decide) rfl
      have q2 := hcm 2 _ (by decide) rfl
      have q3 := hcm 3 _ (by decide) rfl
      simp only [show DatE.k = 4 from rfl] at q0 q1 q2 q3
      obtain ⟨pa, pc, rfl⟩ := slG_form hp
      obtain ⟨ca, cc, rfl⟩ := slG_form hc
      have HC := Lib.hid hc
      have HO := Lib.hid ok3
      obtain ⟨np, hnp⟩ : ∃ x, x = d.params.length := ⟨_, rfl⟩
      obtain ⟨nc, hnc⟩ : ∃ x, x = d.ctors.length := ⟨_, rfl⟩
      rw [← hnp] at ok1 q2
      rw [← hnc] at ok2 q3 HC
      have HMc := Lib.hid hnc
      clear hc0 hcm hp hc ok3 hnp hnc hd hS
      have hji : (j : Int) < (n : Int) := by omega
      have h8 : (j : Int) < 8 := by omega
      have hp4 : (np : Int) ≤ 4 := by omega
      have hc6 : (nc : Int) ≤ 6 := by omega
      have hbA : ∀ o, Below W.heap.size W (wr.alloc o) := fun o => hb.alloc hb.size o
      have HN : Hid (∀ X, ((wr.alloc (.cells X 61)).heap[wr.heap.size]? = some (.cells X 61 (0, 0)))) := fun X => heap_alloc_new wr _
      go_wp2
      have hW2 := hbA (.cells #[.int .i64 d.pos, .string d.name, .slice pa np pc, .slice ca nc cc] 61)
      have HD2 := Lib.hid (HN.out #[.int .i64 d.pos, .string d.name, .slice pa np pc, .slice ca nc cc])
      have HC2 := Lib.hid (HC.out.lift ((Below.refl _ wr).alloc (Nat.le_refl _) (.cells #[.int .i64 d.pos, .string d.name, .slice pa np pc, .slice ca nc cc] 61)))
      generalize (wr.alloc (.cells #[.int .i64 d.pos, .string d.name, .slice pa np pc, .slice ca nc cc] 61)) = W2 at *
      have r3 : W2.cell? ⟨wr.heap.size, 3, none⟩ = some (.slice ca nc cc) := (cell_of_block HD2.out (m := 3) rfl).1
      clear HC HN hbA q0 q1 q2 q3 p0
      go_loopw [5] (fun x w2 => ∃ k : Nat, k ≤ nc ∧ x = .int .i64 k ∧ w2 = W2) (fun x _ => nc - (intOf x).toNat)
      case atStart => exact ⟨0, Nat.zero_le _, rfl, rfl⟩
      case round =>
        obtain ⟨k, hk, rfl, rfl⟩ := hrel
        by_cases hkl : k < nc
        · obtain ⟨c2, hc2⟩ : ∃ x, d.ctors[k]? = some x := ⟨_, List.getElem?_eq_getElem (by rw [← HMc.out]; exact hkl)⟩
          obtain ⟨ok5, -⟩ := HO.out c2 (List.mem_of_getElem? hc2)
          obtain ⟨ad2, cl, rfl, -, ⟨fv, rfl, hf⟩, -, hcm⟩ := slG_get HC2.out hc2
          have s2 := hcm 2 _ (by decide) rfl
          simp only [show CtorE.k = 3 from rfl] at s2
          obtain ⟨fa, fc, rfl⟩ := slG_form hf
          generalize c2.fields.length = nf at *
          clear hcm hf hc2
          have hkc : (k : Int) < (nc : Int) := by omega
          have hf4 : (nf : Int) ≤ 4 := by omega
          go_wp2
          go_roundw
          case rel => exact ⟨k + 1, hkl, by go_num, trivial⟩
          case measure => simp [intOf]; omega
        · obtain rfl : nc = k := by omega
          go_wp2
          go_roundw
          case rel => exact ⟨j + 1, hlt, by go_num, hW2⟩
          case measure => simp [intOf]; omega
    · obtain rfl : n = j := by omega
      have p1 : wr.cell? ⟨w.heap.size, 1, none⟩ = some (.slice none 0 0) := (cell_of_block ((hb.block _ (by omega)).trans HP.out) (m := 1) rfl).1
      have hbq := hb
      clear hb
      go_wp2
      go_loopw [6] (fun x wr => ∃ j : Nat, j ≤ n ∧ x = .int .i64 j ∧ Below W.heap.size W wr) (fun x _ => n - (intOf x).toNat)
      case atStart => exact ⟨0, Nat.zero_le _, rfl, hbq⟩
      case round =>
        clear p0 p1 hbq
        obtain ⟨j, hj, rfl, hb⟩ := hrel
        have p0 : wr.cell? ⟨w.heap.size, 0, none⟩ = some (.slice a n cap) := (cell_of_block ((hb.block _ (by omega)).trans HP.out) (m := 0) rfl).1
        by_cases hlt : j < n
        · have hbw := hb0.trans (hb.mono hb0.size)
          obtain ⟨d, hd⟩ : ∃ x, ds[j]? = some x := ⟨_, List.getElem?_eq_getElem (by rw [← HM.out]; exact hlt)⟩
          obtain ⟨ok1, ok2, ok3⟩ := HOk.out d (List.mem_of_getElem? hd)
          obtain ⟨ad, c, rfl, hS, ⟨pv, cv, rfl, hp, hc⟩, hc0, hcm⟩ := slG_get (HD.out.lift hbw) hd
          have q0 := hc0 _ rfl
          have q1 := hcm 1 _ (by decide) rfl
          have q2 := hcm 2 _ (by decide) rfl
          have q3 := hcm 3 _ (by decide) rfl
          simp only [show DatE.k = 4 from rfl] at q0 q1 q2 q3
          obtain ⟨pa, pc, rfl⟩ := slG_form hp
          obtain ⟨ca, cc, rfl⟩ := slG_form hc
          have HC := Lib.hid hc
          have HO := Lib.hid ok3
          obtain ⟨np, hnp⟩ : ∃ x, x = d.params.length := ⟨_, rfl⟩
          obtain ⟨nc, hnc⟩ : ∃ x, x = d.ctors.length := ⟨_, rfl⟩
          rw [← hnp] at ok1 q2
          rw [← hnc] at ok2 q3 HC
          have HMc := Lib.hid hnc
          clear hc0 hcm hp hc ok3 hnp hnc hd hS
          have hji : (j : Int) < (n : Int) := by omega
          have h8 : (j : Int) < 8 := by omega
          have hp4 : (np : Int) ≤ 4 := by omega
          have hc6 : (nc : Int) ≤ 6 := by omega
          have hbA : ∀ o, Below W.heap.size W (wr.alloc o) := fun o => hb.alloc hb.size o
          have HN : Hid (∀ X, ((wr.alloc (.cells X 61)).heap[wr.heap.size]? = some (.cells X 61 (0, 0)))) := fun X => heap_alloc_new wr _
          go_wp2
          have hW2 := hbA (.cells #[.int .i64 d.pos, .string d.name, .slice pa np pc, .slice ca nc cc] 61)
          have HD2 := Lib.hid (HN.out #[.int .i64 d.pos, .string d.name, .slice pa np pc, .slice ca nc cc])
          have HC2 := Lib.hid (HC.out.lift ((Below.refl _ wr).alloc (Nat.le_refl _) (.cells #[.int .i64 d.pos, .string d.name, .slice pa np pc, .slice ca nc cc] 61)))
          have hlt2 : wr.heap.size < (wr.alloc (.cells #[.int .i64 d.pos, .string d.name, .slice pa np pc, .slice ca nc cc] 61)).heap.size := by simp
          generalize (wr.alloc (.cells #[.int .i64 d.pos, .string d.name, .slice pa np pc, .slice ca nc cc] 61)) = W2 at *
          clear HC HN hbA q0 q1 q2 q3 p0
          generalize wr.heap.size = DD at *
          go_loopw [8] (fun x w4 => ∃ k : Nat, k ≤ nc ∧ x = .int .i64 k ∧ Below W2.heap.size W2 w4) (fun x _ => nc - (intOf x).toNat)
          case atStart => exact ⟨0, Nat.zero_le _, rfl, Below.refl _ _⟩
          case round =>
            obtain ⟨k, hk, rfl, hb4⟩ := hrel
            have r3 : wr.cell? ⟨DD, 3, none⟩ = some (.slice ca nc cc) := (cell_of_block ((hb4.block _ hlt2).trans HD2.out) (m := 3) rfl).1
            by_cases hkl : k < nc
            · obtain ⟨c2, hc2⟩ : ∃ x, d.ctors[k]? = some x := ⟨_, List.getElem?_eq_getElem (by rw [← HMc.out]; exact hkl)⟩
              obtain ⟨ok5, ok6⟩ := HO.out c2 (List.mem_of_getElem? hc2)
              have HO6 := Lib.hid ok6
              obtain ⟨ad2, cl, rfl, -, ⟨fv, rfl, hf⟩, -, hcm⟩ := slG_get (HC2.out.lift hb4) hc2
              have s2 := hcm 2 _ (by decide) rfl
              simp only [show CtorE.k = 3 from rfl] at s2
              obtain ⟨fa, fc, rfl⟩ := slG_form hf
              have HFs := Lib.hid hf
              obtain ⟨nf, hnf⟩ : ∃ x, x = c2.fields.length := ⟨_, rfl⟩
              rw [← hnf] at s2 HFs ok5
              have HMf := Lib.hid hnf
              clear hcm hf hc2 ok6 hnf
              have hkc : (k : Int) < (nc : Int) := by omega
              have HR3 := Lib.hid r3
              have HS2 := Lib.hid s2
              go_wp2
              clear r3 s2
              have hbW4 := hW2.trans (hb4.mono hW2.size)
              generalize hW4 : wr = W4 at *
              clear hW4
              go_loopw [9] (fun x w5 => ∃ m : Nat, m ≤ nf ∧ x = .int .i64 m ∧ Below W4.heap.size W4 w5) (fun x _ => nf - (intOf x).toNat)
              case atStart => exact ⟨0, Nat.zero_le _, rfl, Below.refl _ _⟩
              case round =>
                obtain ⟨m, hm, rfl, hb5⟩ := hrel
                have kc : ∀ p v, W4.cell? p = some v → wr.cell? p = some v := fun p v h => (hb5.cell (World.block_lt_of_cell? _ _ h)).trans h
                have r3 := kc _ _ HR3.out
                have s2 := kc _ _ HS2.out
                clear kc
                by_cases hml : m < nf
                · obtain ⟨T, hT⟩ : ∃ x, c2.fields[m]? = some x := ⟨_, List.getElem?_eq_getElem (by rw [← HMf.out]; exact hml)⟩
                  have hd40 := HO6.out T (List.mem_of_getElem? hT)
                  obtain ⟨fa', fc', e, -, hj5⟩ := slG_repL (HFs.out.lift hb5)
                  obtain ⟨ad3, x, hfa, -, h5, hx⟩ := hj5 m T hT
                  simp only [Value.slice.injEq] at e
                  have hfa := e.1.trans hfa
                  clear e
                  subst hfa
                  obtain ⟨k', n', i', h', s', eU, rfl, hn2, hs5⟩ := hx.open
                  obtain ⟨t0, t1, t2, t3, t4⟩ := five_at h5
                  obtain ⟨sa', sc', rfl, -⟩ := hs5
                  have HDp := Lib.hid (depth_any T (by omega) _ _ _ hx)
                  clear h5 hx eU hn2 hj5 hT
                  have hmf : (m : Int) < (nf : Int) := by omega
                  have hd4 : (dep T : Int) ≤ 40 := by omega
                  generalize T.ts.length = sn' at *
                  generalize dep T = dT at *
                  go_wp2_with (go_at_call 76; refine HDp.out.mono ?_; rintro e w6 ⟨rfl, hb6⟩)
                  go_roundw
                  case rel => exact ⟨m + 1, hml, by go_num, hb5.trans (hb6.mono hb5.size)⟩
                  case measure => simp [intOf]; omega
                · obtain rfl : nf = m := by omega
                  go_wp2
                  go_roundw
                  case rel => exact ⟨k + 1, hkl, by go_num, hb4.trans (hb5.mono hb4.size)⟩
                  case measure => simp [intOf]; omega
            · obtain rfl : nc = k := by omega
              go_wp2
              go_roundw
              case rel => exact ⟨j + 1, hlt, by go_num, hW2.trans (hb4.mono hW2.size)⟩
              case measure => simp [intOf]; omega
        · obtain rfl : n = j := by omega
          have p1 : wr.cell? ⟨w.heap.size, 1, none⟩ = some (.slice none 0 0) := (cell_of_block ((hb.block _ (by omega)).trans HP.out) (m := 1) rfl).1
          have hbq := hb
          clear hb
          go_wp2
          go_loopw [10] (fun x wr => x = .int .i64 0 ∧ Below W.heap.size W wr) (fun _ _ => 0)
          case atStart => exact ⟨rfl, hbq⟩
          case round =>
            clear p1 p0 hbq
            obtain ⟨rfl, hb⟩ := hrel
            have p1 : wr.cell? ⟨w.heap.size, 1, none⟩ = some (.slice none 0 0) := (cell_of_block ((hb.block _ (by omega)).trans HP.out) (m := 1) rfl).1
            have hf := (hb.block _ (by omega)).trans HF.out
            obtain ⟨f0, g0⟩ := cell_of_block hf (m := 0) rfl
            obtain ⟨f1, g1⟩ := cell_of_block hf (m := 1) rfl
            have HBL : Hid (Below w.heap.size w wr) := hb0.trans (hb.mono hb0.size)
            clear hb0
            go_wp2
            obtain ⟨a0, h0, s0⟩ := set1 hf 0 (.int .i64 0)
            obtain ⟨a1, h1, s1⟩ := set1 a0 1 (.int .i64 0)
            have hg := grown_trans h0 h1
            clear hf f0 f1 g0 g1 p1 h0 h1 s0 s1 a0
            generalize ((wr.setCell ⟨w.heap.size + 1, 0, none⟩ (.int .i64 0)).setCell ⟨w.heap.size + 1, 1, none⟩ (.int .i64 0)) = w9 at *
            have c0 : w9.cell? ⟨w.heap.size + 1, 0, none⟩ = some (.int .i64 0) := (cell_of_block a1 (m := 0) rfl).1
            have c1 : w9.cell? ⟨w.heap.size + 1, 1, none⟩ = some (.int .i64 0) := (cell_of_block a1 (m := 1) rfl).1
            refine bodyPost_ret (by simp [results, Try.results55, go_sem, c0, c1]; try rfl) rfl ?_
            exact ⟨rfl, Below.grown HBL.out hg HBL.out.size (fun k hk => by cases hk; exact Nat.le_succ _)⟩
end Go.Proofs.Ytljgpgmaceackaa.S3

/- The names that an expression binds in a child: the reference's Bound, the package's boundIn. -/
namespace Go.Proofs.Ytljgpgmaceackaa
open Go.RowKit Go.Maps Mth S3

/-- The names that an expression binds in a child. -/
def bnN (T : Ex) (i : Nat) : List ByteArray :=
  if T.k == 4 || T.k == 7 || (T.k == 6 && i == 1) then [T.n]
  else if T.k == 8 && i != 0 then match T.arms[i - 1]? with | some A => A.1.vars | none => []
  else []
/-- What Bound asks of an expression and a child. -/
def BnOk (T : Ex) (i : Nat) : Prop := T.k = 8 → T.kids.length = 1 ∧ i ≤ T.arms.length
theorem bx11 {t : TypeId} {w : World} {B : Nat} {c0 c1 c2 c3 c4 c5 c6 c7 c8 c9 c10 : Value} (h : BoxC t w B [c0, c1, c2, c3, c4, c5, c6, c7, c8, c9, c10]) :
    w.cell? ⟨B, 0, none⟩ = some c0 ∧ w.cell? ⟨B, 1, none⟩ = some c1 ∧ w.cell? ⟨B, 2, none⟩ = some c2 ∧ w.cell? ⟨B, 3, none⟩ = some c3 ∧ w.cell? ⟨B, 4, none⟩ = some c4 ∧ w.cell? ⟨B, 5, none⟩ = some c5 ∧ w.cell? ⟨B, 6, none⟩ = some c6 ∧ w.cell? ⟨B, 7, none⟩ = some c7 ∧ w.cell? ⟨B, 8, none⟩ = some c8 ∧ w.cell? ⟨B, 9, none⟩ = some c9 ∧ w.cell? ⟨B, 10, none⟩ = some c10 :=
  ⟨h.cell 0 _ rfl, h.cell 1 _ rfl, h.cell 2 _ rfl, h.cell 3 _ rfl, h.cell 4 _ rfl, h.cell 5 _ rfl, h.cell 6 _ rfl, h.cell 7 _ rfl, h.cell 8 _ rfl, h.cell 9 _ rfl, h.cell 10 _ rfl⟩
theorem one_str (W : World) (s : ByteArray) : SlG StrE (W.alloc (.cells #[.string s] 9)) (fun _ => True) [s] (.slice (some ⟨W.heap.size, 0, none⟩) 1 1) := by
  refine ⟨_, 1, rfl, ⟨Nat.le_refl _, by unfold maxLen; decide⟩, fun j x hx => ?_⟩
  match j, hx with
  | 0, hx =>
    simp at hx; subst hx
    refine ⟨_, [.string s], rfl, trivial, fun m u hu => ?_, rfl⟩
    match m, hu with
    | 0, hu => simp at hu; subst hu; simp [Addr.add]
set_option maxRecDepth 100000 in
set_option maxHeartbeats 3200000 in
theorem bound10_any (T : Ex) (i : Nat) (hb : BnOk T i) (c : List Value) (S : Nat → Prop) (w : World) (him : i ≤ 1000000) (h : RepE w S T c) :
    Calls Try.prog 30 #[.agg c.toArray, .int .i64 i] w fun e w' => ∃ u, e = .returned u ∧ SlG StrE w' (fun _ => True) (bnN T i) u ∧ Below w.heap.size w w' := by
  obtain ⟨kv, av, tc0, hc0, hnm, -, ha, -⟩ := h.open
  obtain ⟨ka, kc, aa, ac, tk, tn, ti, th, ta, tl, tc, rfl⟩ := h.form
  simp only [List.cons.injEq] at hc0
  obtain ⟨-, -, -, -, rfl, rfl, -⟩ := hc0
  have hba : Below w.heap.size w (w.alloc (.cells #[.int .i64 T.k, .int .i64 T.p, .string T.n, .int .i64 T.m, .slice ka T.kids.length kc, .slice aa T.arms.length ac, .int .i64 tk, .string tn, .int .i64 ti, .int .i64 th, .slice ta tl tc] 36)) := (Below.refl _ w).alloc (Nat.le_refl _) _
  have HB0 := Lib.hid (BoxC.made 36 w [.int .i64 T.k, .int .i64 T.p, .string T.n, .int .i64 T.m, .slice ka T.kids.length kc, .slice aa T.arms.length ac, .int .i64 tk, .string tn, .int .i64 ti, .int .i64 th, .slice ta tl tc])
  have HA := Lib.hid (ha.kept (fun _ h => h) (fun b _ hl => hba.block b hl))
  have HBa := Lib.hid hba
  have HE : Hid (bnN T i = if T.k == 4 || T.k == 7 || (T.k == 6 && i == 1) then [T.n] else if T.k == 8 && i != 0 then match T.arms[i - 1]? with | some A => A.1.vars | none => [] else []) := rfl
  have HOk := Lib.hid hb
  clear h ha hba hb hnm
  generalize T.kids.length = kn at *
  obtain ⟨an, han⟩ : ∃ n, n = T.arms.length := ⟨_, rfl⟩
  have HAn := Lib.hid han
  simp only [List.toArray] at HB0 ⊢
  rw [← han] at HA HBa HB0 ⊢
  clear han
  cases h4 : (T.k == 4) with
  | true =>
    have HR : Hid (bnN T i = [T.n]) := by show _ = _; rw [HE.out, h4]; rfl
    clear HE HOk HAn
    go_enter Try.func30, Try.ntmps30
    go_upto_region 1 with fail
    generalize (w.alloc (.cells #[.int .i64 T.k, .int .i64 T.p, .string T.n, .int .i64 T.m, .slice ka kn kc, .slice aa an ac, .int .i64 tk, .string tn, .int .i64 ti, .int .i64 th, .slice ta tl tc] 36)) = V at *
    obtain ⟨b0, b1, b2, b3, b4, b5, b6, b7, b8, b9, b10⟩ := bx11 HB0.out
    have HO := Lib.hid (one_str V T.n)
    go_wp2
    go_ret
    exact ⟨_, rfl, by rw [HR.out]; exact HO.out, HBa.out.trans (((Below.refl _ V).alloc (Nat.le_refl _) _).mono HBa.out.size)⟩
  | false =>
    cases h7 : (T.k == 7) with
    | true =>
      have HR : Hid (bnN T i = [T.n]) := by show _ = _; rw [HE.out, h4, h7]; rfl
      clear HE HOk HAn
      go_enter Try.func30, Try.ntmps30
      go_upto_region 1 with fail
      generalize (w.alloc (.cells #[.int .i64 T.k, .int .i64 T.p, .string T.n, .int .i64 T.m, .slice ka kn kc, .slice aa an ac, .int .i64 tk, .string tn, .int .i64 ti, .int .i64 th, .slice ta tl tc] 36)) = V at *
      obtain ⟨b0, b1, b2, b3, b4, b5, b6, b7, b8, b9, b10⟩ := bx11 HB0.out
      have HO := Lib.hid (one_str V T.n)
      go_wp2
      go_ret
      exact ⟨_, rfl, by rw [HR.out]; exact HO.out, HBa.out.trans (((Below.refl _ V).alloc (Nat.le_refl _) _).mono HBa.out.size)⟩
    | false =>
      cases h6 : (T.k == 6) with
      | true =>
        have h8 : (T.k == 8) = false := by have := beq_iff_eq.1 h6; rw [this]; rfl
        cases h1 : ((i : Int) == 1) with
        | true =>
          have h1' : (i == 1) = true := by simp at h1 ⊢; omega
          have HR : Hid (bnN T i = [T.n]) := by show _ = _; rw [HE.out, h4, h7, h6, h1']; rfl
          clear HE HOk HAn
          go_enter Try.func30, Try.ntmps30
          go_upto_region 1 with fail
          generalize (w.alloc (.cells #[.int .i64 T.k, .int .i64 T.p, .string T.n, .int .i64 T.m, .slice ka kn kc, .slice aa an ac, .int .i64 tk, .string tn, .int .i64 ti, .int .i64 th, .slice ta tl tc] 36)) = V at *
          obtain ⟨b0, b1, b2, b3, b4, b5, b6, b7, b8, b9, b10⟩ := bx11 HB0.out
          have HO := Lib.hid (one_str V T.n)
          go_wp2
          go_ret
          exact ⟨_, rfl, by rw [HR.out]; exact HO.out, HBa.out.trans (((Below.refl _ V).alloc (Nat.le_refl _) _).mono HBa.out.size)⟩
        | false =>
          have h1' : (i == 1) = false := by simp at h1 ⊢; omega
          have HR : Hid (bnN T i = []) := by show _ = _; rw [HE.out, h4, h7, h6, h1', h8]; rfl
          clear HE HOk HAn
          go_enter Try.func30, Try.ntmps30
          go_upto_region 1 with fail
          generalize (w.alloc (.cells #[.int .i64 T.k, .int .i64 T.p, .string T.n, .int .i64 T.m, .slice ka kn kc, .slice aa an ac, .int .i64 tk, .string tn, .int .i64 ti, .int .i64 th, .slice ta tl tc] 36)) = V at *
          obtain ⟨b0, b1, b2, b3, b4, b5, b6, b7, b8, b9, b10⟩ := bx11 HB0.out
          go_wp2
          go_ret
          exact ⟨_, rfl, by rw [HR.out]; exact slG_nil _ _ _, HBa.out⟩
      | false =>
        cases h8 : (T.k == 8) with
        | false =>
          have HR : Hid (bnN T i = []) := by show _ = _; rw [HE.out, h4, h7, h6, h8]; rfl
          clear HE HOk HAn
          go_enter Try.func30, Try.ntmps30
          go_upto_region 1 with fail
          generalize (w.alloc (.cells #[.int .i64 T.k, .int .i64 T.p, .string T.n, .int .i64 T.m, .slice ka kn kc, .slice aa an ac, .int .i64 tk, .string tn, .int .i64 ti, .int .i64 th, .slice ta tl tc] 36)) = V at *
          obtain ⟨b0, b1, b2, b3, b4, b5, b6, b7, b8, b9, b10⟩ := bx11 HB0.out
          go_wp2
          go_ret
          exact ⟨_, rfl, by rw [HR.out]; exact slG_nil _ _ _, HBa.out⟩
        | true =>
          have hok := HOk.out (by simpa using h8)
          obtain ⟨hk1, hil⟩ := hok
          cases i with
          | zero =>
            have HR : Hid (bnN T 0 = []) := by show _ = _; rw [HE.out, h4, h7, h6, h8]; rfl
            clear HE HOk HAn
            go_enter Try.func30, Try.ntmps30
            go_upto_region 1 with fail
            generalize (w.alloc (.cells #[.int .i64 T.k, .int .i64 T.p, .string T.n, .int .i64 T.m, .slice ka kn kc, .slice aa an ac, .int .i64 tk, .string tn, .int .i64 ti, .int .i64 th, .slice ta tl tc] 36)) = V at *
            obtain ⟨b0, b1, b2, b3, b4, b5, b6, b7, b8, b9, b10⟩ := bx11 HB0.out
            go_wp2
            go_ret
            exact ⟨_, rfl, by rw [HR.out]; exact slG_nil _ _ _, HBa.out⟩
          | succ i =>
            obtain ⟨A, hA⟩ : ∃ x, T.arms[i]? = some x := ⟨_, List.getElem?_eq_getElem (by omega)⟩
            have HR : Hid (bnN T (i + 1) = A.1.vars) := by show _ = _; rw [HE.out, h4, h7, h6, h8]; simp [hA]
            obtain ⟨ad, cs, had, -, ⟨vv, cb, rfl, hvv, -⟩, hc0, hcm⟩ := slG_get HA.out hA
            have q2 : _ = some vv := hcm 2 _ (by decide) rfl
            rw [show AmE.k = 14 from rfl] at q2
            obtain ⟨xa, xc, exa, -, -⟩ := HA.out
            simp only [Value.slice.injEq] at exa
            obtain ⟨rfl, -, rfl⟩ := exa
            subst had
            obtain ⟨va, vc, rfl, -⟩ := slice_form hvv
            have HV := Lib.hid hvv
            have hil' : (i : Int) < (an : Int) := by rw [HAn.out]; omega
            have hi0 : (0 : Int) ≤ (i : Int) := by omega
            have him2 : i ≤ 999999 := by omega
            have hgt : (0 : Int) < (i : Int) + 1 := by omega
            clear HE HOk HAn hA hc0 hcm hvv hil
            go_enter Try.func30, Try.ntmps30
            go_upto_region 1 with fail
            generalize (w.alloc (.cells #[.int .i64 T.k, .int .i64 T.p, .string T.n, .int .i64 T.m, .slice ka kn kc, .slice (some ad) an ac, .int .i64 tk, .string tn, .int .i64 ti, .int .i64 th, .slice ta tl tc] 36)) = V at *
            obtain ⟨b0, b1, b2, b3, b4, b5, b6, b7, b8, b9, b10⟩ := bx11 HB0.out
            go_wp2
            go_ret
            exact ⟨_, rfl, by rw [HR.out]; exact HV.out.kept (fun _ _ => trivial) (fun _ _ _ => rfl), HBa.out⟩
set_option maxRecDepth 100000 in
set_option maxHeartbeats 3200000 in
theorem boundIn_any (T : Ex) (i : Nat) (hb : BnOk T i) (c : List Value) (S : Nat → Prop) (w : World) (hkl : T.kids.length ≤ 100000) (him : i ≤ 1000000) (h : RepE w S T c) :
    Calls Try.prog 34 #[.agg c.toArray, .int .i64 i] w fun e w' => ∃ u, e = .returned u ∧ SlG StrE w' (fun _ => True) (bnN T i) u ∧ Below w.heap.size w w' := by
  obtain ⟨kv, av, tc0, hc0, hnm, -, ha, -⟩ := h.open
  obtain ⟨ka, kc, aa, ac, tk, tn, ti, th, ta, tl, tc, rfl⟩ := h.form
  simp only [List.cons.injEq] at hc0
  obtain ⟨-, -, -, -, rfl, rfl, -⟩ := hc0
  have hba : Below w.heap.size w (w.alloc (.cells #[.int .i64 T.k, .int .i64 T.p, .string T.n, .int .i64 T.m, .slice ka T.kids.length kc, .slice aa T.arms.length ac, .int .i64 tk, .string tn, .int .i64 ti, .int .i64 th, .slice ta tl tc] 36)) := (Below.refl _ w).alloc (Nat.le_refl _) _
  have HB0 := Lib.hid (BoxC.made 36 w [.int .i64 T.k, .int .i64 T.p, .string T.n, .int .i64 T.m, .slice ka T.kids.length kc, .slice aa T.arms.length ac, .int .i64 tk, .string tn, .int .i64 ti, .int .i64 th, .slice ta tl tc])
  have HA := Lib.hid (ha.kept (fun _ h => h) (fun b _ hl => hba.block b hl))
  have HBa := Lib.hid hba
  have HE : Hid (bnN T i = if T.k == 4 || T.k == 7 || (T.k == 6 && i == 1) then [T.n] else if T.k == 8 && i != 0 then match T.arms[i - 1]? with | some A => A.1.vars | none => [] else []) := rfl
  have HOk := Lib.hid hb
  clear h ha hba hb hnm
  obtain ⟨kn, hkn⟩ : ∃ n, n = T.kids.length := ⟨_, rfl⟩
  have HKn := Lib.hid hkn
  obtain ⟨an, han⟩ : ∃ n, n = T.arms.length := ⟨_, rfl⟩
  have HAn := Lib.hid han
  simp only [List.toArray] at HB0 ⊢
  rw [← han] at HA HBa HB0 ⊢
  rw [← hkn] at HBa HB0 HA hkl ⊢
  clear han hkn
  cases h4 : (T.k == 4) with
  | true =>
    have HR : Hid (bnN T i = [T.n]) := by show _ = _; rw [HE.out, h4]; rfl
    clear HE HOk HAn
    go_enter Try.func34, Try.ntmps34
    go_upto_region 1 with fail
    generalize (w.alloc (.cells #[.int .i64 T.k, .int .i64 T.p, .string T.n, .int .i64 T.m, .slice ka kn kc, .slice aa an ac, .int .i64 tk, .string tn, .int .i64 ti, .int .i64 th, .slice ta tl tc] 36)) = V at *
    obtain ⟨b0, b1, b2, b3, b4, b5, b6, b7, b8, b9, b10⟩ := bx11 HB0.out
    have HO := Lib.hid (one_str V T.n)
    go_wp2
    go_ret
    exact ⟨_, rfl, by rw [HR.out]; exact HO.out, HBa.out.trans (((Below.refl _ V).alloc (Nat.le_refl _) _).mono HBa.out.size)⟩
  | false =>
    cases h7 : (T.k == 7) with
    | true =>
      have HR : Hid (bnN T i = [T.n]) := by show _ = _; rw [HE.out, h4, h7]; rfl
      clear HE HOk HAn
      go_enter Try.func34, Try.ntmps34
      go_upto_region 1 with fail
      generalize (w.alloc (.cells #[.int .i64 T.k, .int .i64 T.p, .string T.n, .int .i64 T.m, .slice ka kn kc, .slice aa an ac, .int .i64 tk, .string tn, .int .i64 ti, .int .i64 th, .slice ta tl tc] 36)) = V at *
      obtain ⟨b0, b1, b2, b3, b4, b5, b6, b7, b8, b9, b10⟩ := bx11 HB0.out
      have HO := Lib.hid (one_str V T.n)
      go_wp2
      go_ret
      exact ⟨_, rfl, by rw [HR.out]; exact HO.out, HBa.out.trans (((Below.refl _ V).alloc (Nat.le_refl _) _).mono HBa.out.size)⟩
    | false =>
      cases h6 : (T.k == 6) with
      | true =>
        have h8 : (T.k == 8) = false := by have := beq_iff_eq.1 h6; rw [this]; rfl
        cases h1 : ((i : Int) == 1) with
        | true =>
          have h1' : (i == 1) = true := by simp at h1 ⊢; omega
          have HR : Hid (bnN T i = [T.n]) := by show _ = _; rw [HE.out, h4, h7, h6, h1']; rfl
          clear HE HOk HAn
          go_enter Try.func34, Try.ntmps34
          go_upto_region 1 with fail
          generalize (w.alloc (.cells #[.int .i64 T.k, .int .i64 T.p, .string T.n, .int .i64 T.m, .slice ka kn kc, .slice aa an ac, .int .i64 tk, .string tn, .int .i64 ti, .int .i64 th, .slice ta tl tc] 36)) = V at *
          obtain ⟨b0, b1, b2, b3, b4, b5, b6, b7, b8, b9, b10⟩ := bx11 HB0.out
          have HO := Lib.hid (one_str V T.n)
          go_wp2
          go_ret
          exact ⟨_, rfl, by rw [HR.out]; exact HO.out, HBa.out.trans (((Below.refl _ V).alloc (Nat.le_refl _) _).mono HBa.out.size)⟩
        | false =>
          have h1' : (i == 1) = false := by simp at h1 ⊢; omega
          have HR : Hid (bnN T i = []) := by show _ = _; rw [HE.out, h4, h7, h6, h1', h8]; rfl
          clear HE HOk HAn
          go_enter Try.func34, Try.ntmps34
          go_upto_region 1 with fail
          generalize (w.alloc (.cells #[.int .i64 T.k, .int .i64 T.p, .string T.n, .int .i64 T.m, .slice ka kn kc, .slice aa an ac, .int .i64 tk, .string tn, .int .i64 ti, .int .i64 th, .slice ta tl tc] 36)) = V at *
          obtain ⟨b0, b1, b2, b3, b4, b5, b6, b7, b8, b9, b10⟩ := bx11 HB0.out
          go_wp2
          go_ret
          exact ⟨_, rfl, by rw [HR.out]; exact slG_nil _ _ _, HBa.out⟩
      | false =>
        cases h8 : (T.k == 8) with
        | false =>
          have HR : Hid (bnN T i = []) := by show _ = _; rw [HE.out, h4, h7, h6, h8]; rfl
          clear HE HOk HAn
          go_enter Try.func34, Try.ntmps34
          go_upto_region 1 with fail
          generalize (w.alloc (.cells #[.int .i64 T.k, .int .i64 T.p, .string T.n, .int .i64 T.m, .slice ka kn kc, .slice aa an ac, .int .i64 tk, .string tn, .int .i64 ti, .int .i64 th, .slice ta tl tc] 36)) = V at *
          obtain ⟨b0, b1, b2, b3, b4, b5, b6, b7, b8, b9, b10⟩ := bx11 HB0.out
          go_wp2
          go_ret
          exact ⟨_, rfl, by rw [HR.out]; exact slG_nil _ _ _, HBa.out⟩
        | true =>
          have hok := HOk.out (by simpa using h8)
          obtain ⟨hk1, hil2⟩ := hok
          cases i with
          | zero =>
            obtain rfl : kn = 1 := by rw [HKn.out]; exact hk1
            have HR : Hid (bnN T 0 = []) := by show _ = _; rw [HE.out, h4, h7, h6, h8]; rfl
            clear HE HOk HAn
            go_enter Try.func34, Try.ntmps34
            go_upto_region 1 with fail
            generalize (w.alloc (.cells #[.int .i64 T.k, .int .i64 T.p, .string T.n, .int .i64 T.m, .slice ka 1 kc, .slice aa an ac, .int .i64 tk, .string tn, .int .i64 ti, .int .i64 th, .slice ta tl tc] 36)) = V at *
            obtain ⟨b0, b1, b2, b3, b4, b5, b6, b7, b8, b9, b10⟩ := bx11 HB0.out
            go_wp2
            go_ret
            exact ⟨_, rfl, by rw [HR.out]; exact slG_nil _ _ _, HBa.out⟩
          | succ i =>
            obtain ⟨A, hA⟩ : ∃ x, T.arms[i]? = some x := ⟨_, List.getElem?_eq_getElem (by omega)⟩
            have HR : Hid (bnN T (i + 1) = A.1.vars) := by show _ = _; rw [HE.out, h4, h7, h6, h8]; simp [hA]
            obtain ⟨ad, cs, had, -, ⟨vv, cb, rfl, hvv, -⟩, hc0, hcm⟩ := slG_get HA.out hA
            have q2 : _ = some vv := hcm 2 _ (by decide) rfl
            rw [show AmE.k = 14 from rfl] at q2
            obtain ⟨xa, xc, exa, -, -⟩ := HA.out
            simp only [Value.slice.injEq] at exa
            obtain ⟨rfl, -, rfl⟩ := exa
            subst had
            obtain ⟨va, vc, rfl, -⟩ := slice_form hvv
            have HV := Lib.hid hvv
            have hil' : (i : Int) < (an : Int) := by rw [HAn.out]; omega
            have hi0 : (0 : Int) ≤ (i : Int) := by omega
            have him2 : i ≤ 999999 := by omega
            obtain rfl : kn = 1 := by rw [HKn.out]; exact hk1
            clear HE HOk HAn hA hc0 hcm hvv hil2
            go_enter Try.func34, Try.ntmps34
            go_upto_region 1 with fail
            generalize (w.alloc (.cells #[.int .i64 T.k, .int .i64 T.p, .string T.n, .int .i64 T.m, .slice ka 1 kc, .slice (some ad) an ac, .int .i64 tk, .string tn, .int .i64 ti, .int .i64 th, .slice ta tl tc] 36)) = V at *
            obtain ⟨b0, b1, b2, b3, b4, b5, b6, b7, b8, b9, b10⟩ := bx11 HB0.out
            go_wp2
            go_ret
            exact ⟨_, rfl, by rw [HR.out]; exact HV.out.kept (fun _ _ => trivial) (fun _ _ _ => rfl), HBa.out⟩
end Go.Proofs.Ytljgpgmaceackaa

/- The package's scope.Expr at a variable that is not visible. -/
namespace Go.Proofs.Ytljgpgmaceackaa
open Go.RowKit Go.Maps Mth S3

theorem RepE.armsOf {w : World} {S : Nat → Prop} {T : Ex} {a b c d e f : Value} {l : List Value} (h : RepE w S T (a :: b :: c :: d :: e :: f :: l)) : SlG AmE w S T.arms f := by
  obtain ⟨kv, av, tc0, e0, -, -, ha, -⟩ := h.open
  simp only [List.cons.injEq] at e0
  obtain ⟨-, -, -, -, -, rfl, -⟩ := e0
  exact ha
theorem sizeFl : (Try.prog.info? 45).map (·.size) = some 2 := by kernel_rfl
/-- An expression's box and the result's box of a function that returns a fault. -/
structure FtSt (w : World) (c : List Value) (V : World) : Prop where
  box : BoxC 36 V w.heap.size c
  res : BoxC 45 V (w.heap.size + 1) [.int .i64 0, .int .i64 0]
  low : Below w.heap.size w V
theorem FtSt.start (w : World) (c : List Value) : FtSt w c ((w.alloc (.cells c.toArray 36)).alloc (.cells #[.int .i64 0, .int .i64 0] 45)) := by
  have hb1 : Below w.heap.size w (w.alloc (.cells c.toArray 36)) := (Below.refl _ w).alloc (Nat.le_refl _) _
  have hB := BoxC.made 36 w c
  have hs : (w.alloc (.cells c.toArray 36)).heap.size = w.heap.size + 1 := by simp
  generalize (w.alloc (.cells c.toArray 36)) = V at *
  have hb2 : Below V.heap.size V (V.alloc (.cells #[.int .i64 0, .int .i64 0] 45)) := (Below.refl _ V).alloc (Nat.le_refl _) _
  have hB2 := BoxC.made 45 V [.int .i64 0, .int .i64 0]
  rw [hs] at hB2
  exact ⟨hB.lift hb2, hB2, hb1.trans (hb2.mono hb1.size)⟩
theorem FtSt.lift {w : World} {c : List Value} {V V' : World} (H : FtSt w c V) (hb : Below V.heap.size V V') : FtSt w c V' := ⟨H.box.lift hb, H.res.lift hb, H.low.trans (hb.mono H.low.size)⟩
theorem FtSt.fin {w : World} {c : List Value} {V V' : World} (H : FtSt w c V) (hg : V.grownBy V' (some (w.heap.size + 1))) : Below w.heap.size w V' := Below.grown H.low hg H.low.size (fun k hk => by have := Option.some.inj hk; omega)
theorem set2 {t : TypeId} {w : World} {B : Nat} {c0 c1 : Value} (h : BoxC t w B [c0, c1]) (v0 v1 : Value) : BoxC t ((w.setCell ⟨B, 0, none⟩ v0).setCell ⟨B, 1, none⟩ v1) B [v0, v1] ∧ w.grownBy ((w.setCell ⟨B, 0, none⟩ v0).setCell ⟨B, 1, none⟩ v1) (some B) := by
  obtain ⟨h0, g0, -⟩ := h.set 0 v0
  obtain ⟨h1, g1, -⟩ := h0.set 1 v1
  exact ⟨h1, grown_trans g0 g1⟩
theorem one2 (a b : Int) : ∀ u ∈ ([.int .i64 a, .int .i64 b] : List Value), u.oneCell' = true := by intro u hu; simp at hu; rcases hu with rfl | rfl <;> rfl
set_option maxRecDepth 100000 in
set_option maxHeartbeats 6400000 in
theorem nodeVar_any (T : Ex) (hk : T.k = 1) (dv : Value) (S : Nat → Prop) (c : List Value) (w : World) (h : RepE w S T c) :
    Calls Try.prog 40 #[dv, .slice none 0 0, .agg c.toArray] w fun e w' => e = .returned (.agg #[.int .i64 9, .int .i64 T.p]) ∧ Below w.heap.size w w' := by
  have HC : Hid (∀ V : World, Calls Try.prog 56 #[.slice none 0 0, .string T.n] V fun e w' => e = .returned (.bool false) ∧ V = w') := fun V => contains_any [] T.n _ (fun _ => True) V (slG_nil _ _ _)
  obtain ⟨ka, kc, aa, ac, tk, tn, ti, th, ta, tl, tc, rfl⟩ := h.form
  have HF := Lib.hid (FtSt.start w [.int .i64 T.k, .int .i64 T.p, .string T.n, .int .i64 T.m, .slice ka T.kids.length kc, .slice aa T.arms.length ac, .int .i64 tk, .string tn, .int .i64 ti, .int .i64 th, .slice ta tl tc])
  clear h
  generalize T.kids.length = kn at *
  generalize T.arms.length = an at *
  simp only [List.toArray] at HF ⊢
  rw [hk] at HF ⊢
  clear hk
  go_enter Try.func40, Try.ntmps40
  go_upto_region 1 with fail
  generalize ((w.alloc (.cells #[.int .i64 1, .int .i64 T.p, .string T.n, .int .i64 T.m, .slice ka kn kc, .slice aa an ac, .int .i64 tk, .string tn, .int .i64 ti, .int .i64 th, .slice ta tl tc] 36)).alloc (.cells #[.int .i64 0, .int .i64 0] 45)) = V at *
  obtain ⟨b0, b1, b2, b3, b4, b5, b6, b7, b8, b9, b10⟩ := bx11 HF.out.box
  go_wp2_with (first
    | (go_at_call 56; refine (HC.out _).mono ?_; rintro e w1 ⟨rfl, rfl⟩)
    | (refine wpList_storeC rfl _ _ rfl _ _ [.int .i64 9, .int .i64 T.p] HF.out.res rfl rfl sizeFl rfl (one2 _ _) ?_; intro w2 hB2 hg2 hs2))
  have c0 := hB2.cell 0 _ rfl; have c1 := hB2.cell 1 _ rfl
  refine bodyPost_ret (by simp [results, Try.results40, go_sem, c0, c1]; try rfl) rfl ?_
  exact ⟨rfl, HF.out.fin hg2⟩
set_option maxRecDepth 100000 in
set_option maxHeartbeats 6400000 in
theorem exprVar_any (T : Ex) (hk : T.k = 1) (dv : Value) (S : Nat → Prop) (c : List Value) (w : World) (h : RepE w S T c) :
    Calls Try.prog 23 #[dv, .slice none 0 0, .agg c.toArray] w fun e w' => e = .returned (.agg #[.int .i64 9, .int .i64 T.p]) ∧ Below w.heap.size w w' := by
  have HN : Hid (∀ V, Below w.heap.size w V → Calls Try.prog 40 #[dv, .slice none 0 0, .agg c.toArray] V fun e w' => e = .returned (.agg #[.int .i64 9, .int .i64 T.p]) ∧ Below V.heap.size V w') := fun V hV => nodeVar_any T hk dv S c V (h.lift hV)
  obtain ⟨ka, kc, aa, ac, tk, tn, ti, th, ta, tl, tc, rfl⟩ := h.form
  have HF := Lib.hid (FtSt.start w [.int .i64 T.k, .int .i64 T.p, .string T.n, .int .i64 T.m, .slice ka T.kids.length kc, .slice aa T.arms.length ac, .int .i64 tk, .string tn, .int .i64 ti, .int .i64 th, .slice ta tl tc])
  have HMk : Hid (∀ V : World, BoxC 45 (V.alloc (.cells #[.int .i64 0, .int .i64 0] 45)) V.heap.size [.int .i64 0, .int .i64 0]) := fun V => BoxC.made _ V _
  clear h hk
  generalize T.kids.length = kn at *
  generalize T.arms.length = an at *
  simp only [List.toArray] at HF HN ⊢
  go_enter Try.func23, Try.ntmps23
  go_upto_region 1 with fail
  generalize ((w.alloc (.cells #[.int .i64 T.k, .int .i64 T.p, .string T.n, .int .i64 T.m, .slice ka kn kc, .slice aa an ac, .int .i64 tk, .string tn, .int .i64 ti, .int .i64 th, .slice ta tl tc] 36)).alloc (.cells #[.int .i64 0, .int .i64 0] 45)) = V at *
  obtain ⟨b0, b1, b2, b3, b4, b5, b6, b7, b8, b9, b10⟩ := bx11 HF.out.box
  go_upto_region 2 with (first
    | (go_at_call 40; refine (HN.out _ HF.out.low).mono ?_; rintro e w1 ⟨rfl, hb1⟩; have HF1 := Lib.hid (HF.out.lift hb1); clear hb1 b0 b1 b2 b3 b4 b5 b6 b7 b8 b9 b10)
    | (refine wpList_storeC rfl _ _ rfl _ _ [.int .i64 9, .int .i64 T.p] (HMk.out _) rfl rfl sizeFl rfl (one2 _ _) ?_; intro w2 hB2 hg2 hs2))
  have HF2 : Hid (FtSt w _ w2) := HF1.out.lift (Below.grown ((Below.refl _ w1).alloc (Nat.le_refl _) _) hg2 ((Below.refl _ w1).alloc (Nat.le_refl _) _).size (fun k hk => by have := Option.some.inj hk; omega))
  have d0 := hB2.cell 0 _ rfl; have d1 := hB2.cell 1 _ rfl
  clear hB2 hg2 hs2
  generalize w1.heap.size = B at *
  go_wp2_with (refine wpList_storeC rfl _ _ rfl _ _ [.int .i64 9, .int .i64 T.p] HF2.out.res rfl rfl sizeFl rfl (one2 _ _) ?_; intro w3 hB3 hg3 hs3)
  have c0 := hB3.cell 0 _ rfl; have c1 := hB3.cell 1 _ rfl
  refine bodyPost_ret (by simp [results, Try.results23, go_sem, c0, c1]; try rfl) rfl ?_
  exact ⟨rfl, HF2.out.fin hg3⟩
theorem clipNil_any (w : World) : Calls Try.prog 24 #[.slice none 0 0] w fun e w' => e = .returned (.slice none 0 0) ∧ w = w' := by
  go_enter Try.func24, Try.ntmps24
  go_wp2
  go_ret
  exact ⟨rfl, rfl⟩
theorem step_call3 {P : Program} {ops : Array Oper} {a : Act} {w : World} {K : Act → World → Prop} {Q : Exit → Act → World → Prop} {E' : Prop} {dst : Option Tmp} {x y z : Operand} {T : Array TypeId} {ty : TypeId} {pos : String} {after : Array Edge}
    (n : FuncId) (hn : ∀ v u t w, (callFunc n #[v, u, t]).run P w = .ok (.enter n #[v, u, t]) w) (v u t : Value) (R : Value → World → Prop)
    (hx : a.eval x = v) (hy : a.eval y = u) (hz : a.eval z = t) (hC : Calls P n #[v, u, t] w fun e w' => ∃ u, e = .returned u ∧ R u w') (hK : ∀ u w', R u w' → K (a.put dst u) w') :
    if Region.wanted { dst, op := .call { callee := .value (.func n), args := #[x, y, z], argTypes := T }, type := ty, pos, after, guard := none } (yielded ops a.tmps) = true then Oper.wp P { dst, op := .call { callee := .value (.func n), args := #[x, y, z], argTypes := T }, type := ty, pos, after, guard := none } a w K Q else E' := by
  rw [if_pos (by simp [Region.wanted])]
  unfold Oper.wp
  rw [execOp_call_go]
  have e : (#[] ++ #[x, y, z].map a.eval ++ #[] : Array Value) = #[v, u, t] := by simp [hx, hy, hz]
  rw [e, hn, Oper.upon_enter]
  refine hC.mono ?_
  rintro e w' ⟨u, rfl, h⟩
  exact hK u w' h
theorem enterXF (v u t : Value) (w : World) : (callFunc 23 #[v, u, t]).run Try.prog w = .ok (.enter 23 #[v, u, t]) w := by kernel_rfl
theorem enterClip (v : Value) (w : World) : (callFunc 24 #[v]).run Try.prog w = .ok (.enter 24 #[v]) w := by kernel_rfl
set_option maxRecDepth 100000 in
set_option maxHeartbeats 6400000 in
theorem scopeVar_any (T : Ex) (hk : T.k = 1) (dv : Value) (S : Nat → Prop) (c : List Value) (w : World) (h : RepE w S T c) :
    Calls Try.prog 11 #[dv, .slice none 0 0, .agg c.toArray] w fun e w' => e = .returned (.agg #[.int .i64 9, .int .i64 T.p]) ∧ Below w.heap.size w w' := by
  have HN : Hid (∀ V, Below w.heap.size w V → Calls Try.prog 23 #[dv, .slice none 0 0, .agg c.toArray] V fun e w' => ∃ u, e = .returned u ∧ u = .agg #[.int .i64 9, .int .i64 T.p] ∧ Below w.heap.size w w' ∧ Below V.heap.size V w') := fun V hV => (exprVar_any T hk dv S c V (h.lift hV)).mono fun e w' ⟨h1, h2⟩ => ⟨_, h1, rfl, hV.trans (h2.mono hV.size), h2⟩
  have HCl : Hid (∀ V, Calls Try.prog 24 #[.slice none 0 0] V fun e w' => ∃ u, e = .returned u ∧ u = .slice none 0 0 ∧ w' = V) := fun V => (clipNil_any V).mono fun e w' ⟨h1, h2⟩ => ⟨_, h1, rfl, h2.symm⟩
  obtain ⟨ka, kc, aa, ac, tk, tn, ti, th, ta, tl, tc, rfl⟩ := h.form
  have HF := Lib.hid (FtSt.start w [.int .i64 T.k, .int .i64 T.p, .string T.n, .int .i64 T.m, .slice ka T.kids.length kc, .slice aa T.arms.length ac, .int .i64 tk, .string tn, .int .i64 ti, .int .i64 th, .slice ta tl tc])
  clear h hk
  generalize T.kids.length = kn at *
  generalize T.arms.length = an at *
  simp only [List.toArray] at HF HN ⊢
  go_enter Try.func11, Try.ntmps11
  go_upto_region 1 with fail
  generalize ((w.alloc (.cells #[.int .i64 T.k, .int .i64 T.p, .string T.n, .int .i64 T.m, .slice ka kn kc, .slice aa an ac, .int .i64 tk, .string tn, .int .i64 ti, .int .i64 th, .slice ta tl tc] 36)).alloc (.cells #[.int .i64 0, .int .i64 0] 45)) = V at *
  obtain ⟨b0, b1, b2, b3, b4, b5, b6, b7, b8, b9, b10⟩ := bx11 HF.out.box
  have HFd := Lib.hid (HF.out.lift (Below.refl _ V).drew)
  go_region_law
    (first
      | ((with_reducible refine step_call1 24 enterClip (.slice none 0 0) (fun u w' => u = .slice none 0 0 ∧ w' = V.drew) ?_ ?_ ?_); (rfl); (exact HCl.out V.drew); (rintro u w3 ⟨rfl, rfl⟩))
      | ((with_reducible refine step_call3 23 enterXF dv (.slice none 0 0) (.agg #[.int .i64 T.k, .int .i64 T.p, .string T.n, .int .i64 T.m, .slice ka kn kc, .slice aa an ac, .int .i64 tk, .string tn, .int .i64 ti, .int .i64 th, .slice ta tl tc]) (fun u w' => u = .agg #[.int .i64 9, .int .i64 T.p] ∧ Below w.heap.size w w' ∧ FtSt w [.int .i64 T.k, .int .i64 T.p, .string T.n, .int .i64 T.m, .slice ka kn kc, .slice aa an ac, .int .i64 tk, .string tn, .int .i64 ti, .int .i64 th, .slice ta tl tc] w') ?_ ?_ ?_ ?_ ?_); (rfl); (rfl); (rfl); (first | exact (HN.out _ HF.out.low).mono (fun e w' ⟨u, h1, h2, h3, h4⟩ => ⟨u, h1, h2, h3, HF.out.lift h4⟩) | exact (HN.out _ HFd.out.low).mono (fun e w' ⟨u, h1, h2, h3, h4⟩ => ⟨u, h1, h2, h3, HFd.out.lift h4⟩)); (rintro u w5 ⟨rfl, hb5, hF5⟩); (have HF5 := Lib.hid hF5); (have f0 := hF5.res.free 0); (have f1 := hF5.res.free 1); (have e0 := hF5.res.cell 0 _ rfl); (have e1 := hF5.res.cell 1 _ rfl); clear hF5 hb5))
  all_goals
    obtain ⟨hB6, hg6⟩ := set2 HF5.out.res (.int .i64 9) (.int .i64 T.p)
    have HB6 := Lib.hid hB6
    have HL6 := Lib.hid (HF5.out.fin hg6)
    clear hB6 hg6 f0 f1 e0 e1
    generalize (w5.setCell ⟨w.heap.size + 1, 0, none⟩ (.int .i64 9)).setCell ⟨w.heap.size + 1, 1, none⟩ (.int .i64 T.p) = w6 at *
    have c0 := HB6.out.cell 0 _ rfl; have c1 := HB6.out.cell 1 _ rfl
    go_wp2
    refine bodyPost_ret (by simp [results, Try.results11, go_sem, c0, c1]; try rfl) rfl ?_
    exact ⟨rfl, HL6.out⟩
end Go.Proofs.Ytljgpgmaceackaa
