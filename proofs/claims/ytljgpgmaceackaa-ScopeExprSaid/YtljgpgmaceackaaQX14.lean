import Derived.Test.YtljgpgmaceackaaQX13
import Derived.Test.YtljgpgmaceackaaQX09
import Derived.Test.YtljgpgmaceackaaQX12
/- The contracts of the reader's New and of the reference's Parse, of a text of data declarations. -/
namespace Go.Proofs.Ytljgpgmaceackaa.S3
open Go.RowKit Go.Maps Mth

theorem refNew_any (g : Option Addr) (n cap : Nat) (w : World) : Calls Try.prog 45 #[.slice g n cap, .int .i64 0] w fun e w' => e = .returned (.pointer (some ⟨w.heap.size, 0, none⟩)) ∧ Rd w' w.heap.size (.slice g n cap) 0 ∧ Below w.heap.size w w' := by
  have hn : ¬ ((n : Int) < 0) := by omega
  have HA : Hid (∀ X, (w.alloc (.cells X 95)).heap[w.heap.size]? = some (.cells X 95 (0, 0))) := fun X => heap_alloc_new w _
  go_enter Try.func45, Try.ntmps45
  go_wp2
  go_ret
  exact ⟨rfl, HA.out _, (Below.refl _ w).alloc (Nat.le_refl _) _⟩

/-- The reader is as it was where another block was written, that holds a slice. -/
theorem RdT.apart {v v' : World} {b D q : Nat} {ts : List Tok} {sa : Option Addr} {sn sc : Nat} (h : RdT v b ts q) (hne : ts ≠ []) (hD : v.cell? ⟨D, 0, none⟩ = some (.slice sa sn sc)) (hb : D ≠ b) (hg : v.grownBy v' (some D)) : RdT v' b ts q := by
  obtain ⟨lv, hr, ⟨g, cap, hv, hgb, hc⟩, h3⟩ := h
  have hgD : g ≠ D := by
    intro e
    subst e
    cases ts with
    | nil => exact hne rfl
    | cons t _ =>
      have := (hc 0 t rfl).1
      rw [Nat.zero_mul, hD] at this
      cases this
  refine ⟨lv, ?_, ⟨g, cap, hv, hgb, fun j t ht => ?_⟩, h3⟩
  · unfold Rd at *
    rw [hg.block b (Array.getElem?_eq_some_iff.1 hr).1 (fun e => hb (Option.some.inj e).symm), hr]
  · obtain ⟨h1, h2, h3⟩ := hc j t ht
    have k : ∀ o x, v.cell? ⟨g, o, none⟩ = some x → v'.cell? ⟨g, o, none⟩ = some x := fun o x h => hg.cell h (fun e => hgD (Option.some.inj e))
    exact ⟨k _ _ h1, k _ _ h2, k _ _ h3⟩
def pProg (K : Nat) : Nat → List Tok → Nat → List Dat → Option (List Dat)
  | 0, _, _, _ => none
  | f + 1, ts, i, acc =>
    if i < ts.length then
      if rIs ts i ⟨#[100, 97, 116, 97]⟩ then
        match pDecl K ts i with
        | some (d, j) => pProg K f ts j (acc ++ [d])
        | none => none
      else none
    else some acc
theorem prog_cases {K g : Nat} {ts : List Tok} {i : Nat} {acc l : List Dat} (h : pProg K g ts i acc = some l) :
    (¬ i < ts.length ∧ l = acc) ∨ (i < ts.length ∧ rIs ts i ⟨#[100, 97, 116, 97]⟩ = true ∧ ∃ g' d j, g = g' + 1 ∧ pDecl K ts i = some (d, j) ∧ pProg K g' ts j (acc ++ [d]) = some l) := by
  cases g with
  | zero => simp [pProg] at h
  | succ g =>
    unfold pProg at h
    split at h
    · rename_i h1
      split at h
      · rename_i h2
        split at h
        · rename_i d j hd
          exact .inr ⟨h1, h2, g, d, j, rfl, hd, h⟩
        · simp at h
      · simp at h
    · rename_i h1
      simp only [Option.some.injEq] at h
      exact .inl ⟨h1, h.symm⟩
/-- What the loop of Parse holds. -/
structure QSt (w : World) (R F D b base : Nat) (v : World) (q : Nat) (ts : List Tok) (old sv : Value) (acc : List Dat) : Prop where
  rd : RdT v b ts q
  p : v.heap[D]? = some (.cells #[old, .slice none 0 0] 83 (0, 0))
  r1 : v.heap[R]? = some (.cells #[.slice none 0 0, .slice none 0 0] 83 (0, 0))
  r2 : v.heap[R + 1]? = some (.cells #[.int .i64 0, .int .i64 0] 45 (0, 0))
  f : v.heap[F]? = some (.cells #[.int .i64 0, .int .i64 0] 45 (0, 0))
  row : RowG DatE v base (fun c => base ≤ c) sv acc
  low : Below w.heap.size w v
  size : base ≤ v.heap.size
structure QOk (w : World) (R F D b base : Nat) : Prop where
  h0 : R = w.heap.size
  h1 : R + 1 < F
  h2 : F < D
  h3 : D < b
  h4 : b < base
section
variable {w : World} {R F D b base : Nat} {v v' : World} {q q' : Nat} {ts : List Tok} {old sv : Value} {acc : List Dat}
theorem QSt.block {row : Option Nat} (_hQ : QOk w R F D b base) (_h : QSt w R F D b base v q ts old sv acc) (hg : v.grownBy v' row) (X : Nat) (o : Obj) (hX : v.heap[X]? = some o) (hne : some X ≠ row) : v'.heap[X]? = some o :=
  (hg.block X (Array.getElem?_eq_some_iff.1 hX).1 hne).trans hX
theorem QSt.call (hQ : QOk w R F D b base) (h : QSt w R F D b base v q ts old sv acc) (hr : RdT v' b ts q') (hg : v.grownBy v' (some b)) : QSt w R F D b base v' q' ts old sv acc := by
  obtain ⟨h0, h1, h2, h3, h4⟩ := hQ
  have hs := h.size
  refine ⟨hr, h.block ⟨h0, h1, h2, h3, h4⟩ hg _ _ h.p ?_, h.block ⟨h0, h1, h2, h3, h4⟩ hg _ _ h.r1 ?_, h.block ⟨h0, h1, h2, h3, h4⟩ hg _ _ h.r2 ?_, h.block ⟨h0, h1, h2, h3, h4⟩ hg _ _ h.f ?_, h.row.kept hg (h.row.off (by omega)) (fun c hc e => by have := Option.some.inj e; omega), Below.grown h.low hg h.low.size (fun k hk => by have := Option.some.inj hk; omega), Nat.le_trans h.size hg.size⟩
  all_goals (intro e; have := Option.some.inj e; omega)
theorem QSt.lift (hQ : QOk w R F D b base) (h : QSt w R F D b base v q ts old sv acc) (hb : Below v.heap.size v v') : QSt w R F D b base v' q ts old sv acc := h.call hQ (h.rd.lift hb) (grown_of_below hb _)
theorem QSt.drew (hQ : QOk w R F D b base) (h : QSt w R F D b base v q ts old sv acc) : QSt w R F D b base v.drew q ts old sv acc := h.lift hQ (Below.refl _ v).drew
theorem QSt.cell (h : QSt w R F D b base v q ts old sv acc) : v.cell? ⟨D, 0, none⟩ = some old := (cell_of_block h.p (m := 0) rfl).1
theorem QSt.frozen (h : QSt w R F D b base v q ts old sv acc) : v.frozen? ⟨D, 0, none⟩ = false := (cell_of_block h.p (m := 0) rfl).2
theorem QSt.cellA (hQ : QOk w R F D b base) (h : QSt w R F D b base v q ts old sv acc) (o : Obj) : (v.alloc o).cell? ⟨D, 0, none⟩ = some old := (h.lift hQ ((Below.refl _ v).alloc (Nat.le_refl _) o)).cell
theorem QSt.cellD (hQ : QOk w R F D b base) (h : QSt w R F D b base v q ts old sv acc) (o : Obj) : (v.drew.alloc o).cell? ⟨D, 0, none⟩ = some old := (h.lift hQ ((Below.refl _ v).drew.alloc (Nat.le_refl _) o)).cell
theorem step_pushQ (hQ : QOk w R F D b base) (h : QSt w R F D b base v q ts old sv acc) (x : Dat) (c : List Value) (hx : DatE.rep v (fun c => base ≤ c ∧ some c ≠ sv.ownBlock) x c) (X : Array Value) (hX : X = c.toArray)
    {ops : Array Oper} {o : Oper} {a : Act} {K : Act → World → Prop} {Q : Exit → Act → World → Prop} {E' : Prop} (Z : TypeId) (hgd : o.guard = none) (s y : Operand)
    (ho : o.op = .call { callee := .builtin .append, args := #[s, y], argTypes := #[DatE.t, DatE.t] })
    (hs : a.eval s = sv) (nn : Nat) (hnn : nn = v.heap.size) (hy : a.eval y = .slice (some ⟨nn, 0, none⟩) 1 1) (N : Nat) (hN : N = acc.length + 1) (hb : N ≤ 1000000)
    (hK : ∀ (a' : Option Addr) (c' : Nat) (v3 : World), QSt w R F D b base v3 q ts old (.slice a' N c') (acc ++ [x]) → K (a.put o.dst (.slice a' N c')) v3) :
    if Region.wanted o (yielded ops a.tmps) = true then Oper.wp Try.prog o a (v.alloc (.cells X Z)) K Q else E' := by
  subst hnn hX
  have hba : Below v.heap.size v (v.alloc (.cells c.toArray Z)) := (Below.refl _ v).alloc (Nat.le_refl _) _
  have hA := h.lift hQ hba
  have hlt := fun k e => RowG.lt h.row k e
  have hQ' := hQ
  obtain ⟨h0, h1, h2, h3, h4⟩ := hQ
  refine step_pushG DatE hgd s y ho base (fun c => base ≤ c) sv acc hs hA.row v.heap.size Z c (heap_alloc_new v _) hy x (DatE.kept (fun _ h => h) (fun b _ hlt => hba.block b hlt) hx) N hN hb (Nat.le_trans h.size hba.size) ?_
  intro a' c' v3 hrow3 hg3
  have hne : ∀ X, X < base → some X ≠ sv.ownBlock := fun X hX e => by have := (hlt X e.symm).1; omega
  refine hK a' c' v3 ⟨?_, hA.block hQ' hg3 _ _ hA.p (hne _ (by omega)), hA.block hQ' hg3 _ _ hA.r1 (hne _ (by omega)), hA.block hQ' hg3 _ _ hA.r2 (hne _ (by omega)), hA.block hQ' hg3 _ _ hA.f (hne _ (by omega)), hrow3, Below.grown hA.low hg3 hA.low.size (fun k hk => by have := (hlt k hk).1; omega), Nat.le_trans hA.size hg3.size⟩
  cases hv : sv.ownBlock with
  | none => rw [hv] at hg3; exact hA.rd.lift ⟨hg3.os, hg3.tape, hg3.output, hg3.size, fun i hi => hg3.block i hi (by simp)⟩
  | some R' => rw [hv] at hg3; exact hA.rd.other (by have := (hlt R' hv).1; omega) hg3
theorem QSt.stored (hQ : QOk w R F D b base) (hne : ts ≠ []) {sa : Option Addr} {sn sc : Nat} (h : QSt w R F D b base v q ts (.slice sa sn sc) sv acc) : QSt w R F D b base (v.setCell ⟨D, 0, none⟩ sv) q ts sv sv acc := by
  obtain ⟨e1, e2, e3⟩ := set1 h.p 0 sv
  have hQ' := hQ
  obtain ⟨h0, h1, h2, h3, h4⟩ := hQ
  have hn : ∀ X, X ≠ D → some X ≠ some D := fun X hX e => hX (Option.some.inj e)
  refine ⟨h.rd.apart hne h.cell (by omega) e2, ?_, h.block hQ' e2 _ _ h.r1 (hn _ (by omega)), h.block hQ' e2 _ _ h.r2 (hn _ (by omega)), h.block hQ' e2 _ _ h.f (hn _ (by omega)), h.row.kept e2 (h.row.off (by omega)) (fun c hc e => by have := Option.some.inj e; omega), Below.grown h.low e2 h.low.size (fun k hk => by have := Option.some.inj hk; omega), by rw [e3]; exact h.size⟩
  rw [e1]; simp
end
end Go.Proofs.Ytljgpgmaceackaa.S3

/- The contract of the reference's Parse, of a text of data declarations. -/
namespace Go.Proofs.Ytljgpgmaceackaa.S3
open Go.RowKit Go.Maps Mth

theorem enterDecl (v : Value) (w : World) : (callFunc 53 #[v]).run Try.prog w = .ok (.enter 53 #[v]) w := by kernel_rfl
/-- What Parse of a text of declarations needs to know of the text. -/
structure PText (s : ByteArray) (K : Nat) (ts : List Tok) (ds : List Dat) : Prop where
  size : s.size ≤ 4000
  err : ferr (bl s) = 0
  pos : fpos (bl s) = 0
  toks : ftoks (bl s) = ts
  len : ts.length ≤ 1000
  ne : ts ≠ []
  ok : TkOk ts
  hK : K ≤ 1000
  prog : pProg K K ts 0 [] = some ds
  num : ds.length ≤ 8
  lim : ∀ d ∈ ds, OkD d
theorem tok_cells {w : World} {base : Nat} {lv : Value} {ts : List Tok} (h : w.ownsRow base 113 3 lv ts.length (row3 ts)) (hne : ts ≠ []) : ∃ g cap, lv = .slice (some ⟨g, 0, none⟩) ts.length cap ∧ g < w.heap.size ∧ ∀ (j : Nat) (t : Tok), ts[j]? = some t →
    w.cell? ⟨g, j * 3, none⟩ = some (.int .i64 t.kind) ∧ w.cell? ⟨g, j * 3 + 1, none⟩ = some (.string ⟨t.text.toArray⟩) ∧ w.cell? ⟨g, j * 3 + 2, none⟩ = some (.int .i64 t.pos) := by
  have hlt := h.lt
  have hcell := fun g hg => h.cells (g := g) hg
  rcases h.2 with ⟨rfl, h0⟩ | ⟨g, cap, cur, rfl, -, -, -, -, -⟩
  · exact absurd (List.eq_nil_of_length_eq_zero h0) hne
  · refine ⟨g, cap, rfl, (hlt g rfl).2, fun j t ht => ?_⟩
    have key : ∀ m u, (cells3 t)[m]? = some u → w.cell? ⟨g, j * 3 + m, none⟩ = some u := by
      intro m u hu
      have hf : (row3 ts)[j * 3 + m]? = some u := by
        unfold row3
        rw [List.flatMap_def]
        exact flat_get 3 _ (by intro c hc; simp at hc; obtain ⟨x, -, rfl⟩ := hc; rfl) j m (cells3 t) u (by simp [ht]) hu
      have := hcell g rfl _ _ hf
      rwa [add_zero, Nat.zero_add] at this
    exact ⟨key 0 _ rfl, key 1 _ rfl, key 2 _ rfl⟩
theorem datE_of {w : World} {n base : Nat} {d : Dat} {sv pv cv : Value} (hp : SlG StrE w (fun c => n ≤ c) d.params pv) (hc : SlG CtorE w (fun c => n ≤ c) d.ctors cv) (hS : ∀ c, n ≤ c → base ≤ c ∧ some c ≠ sv.ownBlock) :
    DatE.rep w (fun c => base ≤ c ∧ some c ≠ sv.ownBlock) d [.int .i64 d.pos, .string d.name, pv, cv] := ⟨pv, cv, rfl, hp.kept hS (fun _ _ _ => rfl), hc.kept hS (fun _ _ _ => rfl)⟩
set_option maxRecDepth 100000 in
set_option maxHeartbeats 6400000 in
theorem refParse_any (s : ByteArray) (K : Nat) (ts : List Tok) (ds : List Dat) (ht : PText s K ts ds) (w : World) :
    Calls Try.prog 39 #[.string s] w fun e w' => ∃ dv, e = .returned (.tuple #[.agg #[dv, .slice none 0 0], .agg #[.int .i64 0, .int .i64 0]]) ∧ SlG DatE w' (fun c => w.heap.size ≤ c) ds dv ∧ Below w.heap.size w w' := by
  have HT := Lib.hid ht
  have HSc := Lib.hid (fun w => refScan_any s w (by have := ht.size; omega))
  clear ht
  have hb0 : Below w.heap.size w ((w.alloc (.cells #[.slice none 0 0, .slice none 0 0] 83)).alloc (.cells #[.int .i64 0, .int .i64 0] 45)) := ((Below.refl _ w).alloc (Nat.le_refl _) _).alloc (by simp) _
  have HR1 : Hid (((w.alloc (.cells #[.slice none 0 0, .slice none 0 0] 83)).alloc (.cells #[.int .i64 0, .int .i64 0] 45)).heap[w.heap.size]? = some (.cells #[.slice none 0 0, .slice none 0 0] 83 (0, 0))) := by
    show _ = _
    rw [heap_at, if_neg (by simp), heap_at, if_pos rfl]
  have HR2 : Hid (((w.alloc (.cells #[.slice none 0 0, .slice none 0 0] 83)).alloc (.cells #[.int .i64 0, .int .i64 0] 45)).heap[w.heap.size + 1]? = some (.cells #[.int .i64 0, .int .i64 0] 45 (0, 0))) := by
    show _ = _
    rw [heap_at, if_pos (by simp)]
  have hsz0 : w.heap.size + 2 = ((w.alloc (.cells #[.slice none 0 0, .slice none 0 0] 83)).alloc (.cells #[.int .i64 0, .int .i64 0] 45)).heap.size := by simp
  go_enter Try.func39, Try.ntmps39
  go_wp2_with fail
  go_at_call 44
  generalize ((w.alloc (.cells #[.slice none 0 0, .slice none 0 0] 83)).alloc (.cells #[.int .i64 0, .int .i64 0] 45)) = w0 at *
  refine (HSc.out _).mono ?_
  rintro e w1 ⟨lv, rfl, hrow, hb1⟩
  rw [HT.out.err, HT.out.pos]
  rw [HT.out.toks] at hrow
  have hg1 := hb0.trans (hb1.mono hb0.size)
  have HR1' := Lib.hid ((hb1.block _ (by omega)).trans HR1.out)
  have HR2' := Lib.hid ((hb1.block _ (by omega)).trans HR2.out)
  have hsz1 : w.heap.size + 2 ≤ w1.heap.size := by have := hb1.size; omega
  have HTk := Lib.hid hrow
  obtain ⟨tg, tc, rfl, htg, htc⟩ := tok_cells hrow HT.out.ne
  have HTc := Lib.hid htc
  clear hrow hb1 hb0 HR1 HR2 hsz0 HSc HTk htc
  have hbb := ((Below.refl w1.heap.size w1).alloc (Nat.le_refl _) (.cells #[.int .i64 0, .int .i64 0] 45)).alloc (by simp) (.cells #[.slice none 0 0, .slice none 0 0] 83)
  have HF1 : Hid (((w1.alloc (.cells #[.int .i64 0, .int .i64 0] 45)).alloc (.cells #[.slice none 0 0, .slice none 0 0] 83)).heap[w1.heap.size]? = some (.cells #[.int .i64 0, .int .i64 0] 45 (0, 0))) := by
    show _ = _
    rw [heap_at, if_neg (by simp), heap_at, if_pos rfl]
  have HP1 : Hid (((w1.alloc (.cells #[.int .i64 0, .int .i64 0] 45)).alloc (.cells #[.slice none 0 0, .slice none 0 0] 83)).heap[w1.heap.size + 1]? = some (.cells #[.slice none 0 0, .slice none 0 0] 83 (0, 0))) := by
    show _ = _
    rw [heap_at, if_pos (by simp)]
  have hsz2 : ((w1.alloc (.cells #[.int .i64 0, .int .i64 0] 45)).alloc (.cells #[.slice none 0 0, .slice none 0 0] 83)).heap.size = w1.heap.size + 2 := by simp
  go_wp2_with fail
  go_at_call 45
  generalize ((w1.alloc (.cells #[.int .i64 0, .int .i64 0] 45)).alloc (.cells #[.slice none 0 0, .slice none 0 0] 83)) = w2 at *
  refine (refNew_any _ _ _ _).mono ?_
  rintro e w3 ⟨rfl, hrd, hb3⟩
  have hkc : ∀ p v, w1.cell? p = some v → w3.cell? p = some v := fun p v h => by
    have h1 := World.block_lt_of_cell? _ _ h
    exact (hb3.cell (by omega)).trans ((hbb.cell h1).trans h)
  have HQk : Hid (QOk w w.heap.size w1.heap.size (w1.heap.size + 1) w2.heap.size (w2.heap.size + 1)) := ⟨rfl, by omega, by omega, by omega, by omega⟩
  have HQ0 : Hid (QSt w w.heap.size w1.heap.size (w1.heap.size + 1) w2.heap.size (w2.heap.size + 1) w3 0 ts (.slice none 0 0) (.slice none 0 0) []) :=
    ⟨⟨_, hrd, ⟨tg, tc, rfl, by omega, fun j t ht => ⟨hkc _ _ (HTc.out j t ht).1, hkc _ _ (HTc.out j t ht).2.1, hkc _ _ (HTc.out j t ht).2.2⟩⟩, Nat.zero_le _, HT.out.len⟩,
      (hb3.block _ (by omega)).trans HP1.out, (hb3.block _ (by omega)).trans ((hbb.block _ (by omega)).trans HR1'.out), (hb3.block _ (by omega)).trans ((hbb.block _ (by omega)).trans HR2'.out), (hb3.block _ (by omega)).trans HF1.out, rowG_nil _ _ _ _,
      (hg1.trans (hbb.mono hg1.size)).trans (hb3.mono (by omega)), hrd.lt⟩
  have HLen := Lib.hid HT.out.len
  clear hkc hrd hb3 hbb HP1 HF1 HR1' HR2' HTc hg1 htg hsz2
  go_wp2
  go_loopg [] K (fun kk wr => ∃ (acc : List Dat) (q : Nat) (dv : Value), Hid (pProg K kk ts q acc = some ds) ∧ acc.length + kk ≤ K ∧ Hid (QSt w w.heap.size w1.heap.size (w1.heap.size + 1) w2.heap.size (w2.heap.size + 1) wr q ts dv dv acc))
  case atStart => exact ⟨[], 0, _, HT.out.prog, by simp, HQ0⟩
  case round =>
    clear HQ0
    obtain ⟨acc, q, dv, HPg, hak, HQr⟩ := hrel
    obtain ⟨da, dc, rfl, -, -⟩ := HQr.out.row.slice
    obtain ⟨lv', hrd', ⟨tg', tc', rfl, -, -⟩, hqt, -⟩ := HQr.out.rd
    obtain ⟨r0, r1, r2, -⟩ := hrd'.cells
    clear hrd'
    rcases prog_cases HPg.out with ⟨hq, rfl⟩ | ⟨hq, hd, g, d, j, rfl, hdc, hrest⟩
    · have hql : ¬ ((q : Int) < (ts.length : Int)) := by omega
      have hQ := HQk.out
      have hwb : w.heap.size ≤ w2.heap.size + 1 := by have h1 := hQ.h1; have h2 := hQ.h2; have h3 := hQ.h3; omega
      have HSl : Hid (SlG DatE wr (fun c => w.heap.size ≤ c) ds (.slice da ds.length dc)) := HQr.out.row.slG (fun c h => Nat.le_trans hwb h) (fun c h => Nat.le_trans hwb h)
      have HDp := Lib.hid (deep_any ds _ _ wr HT.out.num HT.out.lim HSl.out)
      have d0 := HQr.out.cell
      have d1 : wr.cell? ⟨w1.heap.size + 1, 1, none⟩ = some (.slice none 0 0) := (cell_of_block HQr.out.p (m := 1) rfl).1
      clear hQ hwb
      go_wp2_with fail
      go_at_call 55
      refine HDp.out.mono ?_
      rintro e v5 ⟨rfl, hb5⟩
      have HQ5 := Lib.hid (HQr.out.lift HQk.out hb5)
      have HSl5 := Lib.hid (HSl.out.lift hb5)
      obtain ⟨a0, b0⟩ := cell_of_block HQ5.out.f (m := 0) rfl
      obtain ⟨a1, b1⟩ := cell_of_block HQ5.out.f (m := 1) rfl
      clear hb5 HQr HSl HDp d0 d1 r0 r1 r2 hql hq
      go_wp2
      clear a0 a1 b0 b1 HSl5
      obtain ⟨e1, g1, -⟩ := set1 HQ5.out.f 0 (.int .i64 0)
      obtain ⟨e2, g2, -⟩ := set1 e1 1 (.int .i64 0)
      have hg := grown_trans g1 g2
      clear e1 g1 g2
      generalize ((v5.setCell ⟨w1.heap.size, 0, none⟩ (.int .i64 0)).setCell ⟨w1.heap.size, 1, none⟩ (.int .i64 0)) = v6 at *
      have hQ := HQk.out
      have h0 := hQ.h0
      have h1 := hQ.h1
      have h2 := hQ.h2
      have h3 := hQ.h3
      have hn : ∀ X, X ≠ w1.heap.size → some X ≠ some w1.heap.size := fun X hX e => hX (Option.some.inj e)
      have HSl6 : Hid (SlG DatE v6 (fun c => w2.heap.size + 1 ≤ c) ds (.slice da ds.length dc)) := (HQ5.out.row.slG (S' := fun c => w2.heap.size + 1 ≤ c) (fun _ h => h) (fun _ h => h)).kept (fun _ h => h) (fun c hc hlt => hg.block c hlt (hn c (by omega)))
      have HLow : Hid (Below w.heap.size w v6) := Below.grown HQ5.out.low hg HQ5.out.low.size (fun k hk => by have := Option.some.inj hk; omega)
      have hP := HQ5.out.block hQ hg _ _ HQ5.out.p (hn _ (by omega))
      have hR1 := HQ5.out.block hQ hg _ _ HQ5.out.r1 (hn _ (by omega))
      have hR2 := HQ5.out.block hQ hg _ _ HQ5.out.r2 (hn _ (by omega))
      have d0 : v6.cell? ⟨w1.heap.size + 1, 0, none⟩ = some (.slice da ds.length dc) := (cell_of_block hP (m := 0) rfl).1
      have d1 : v6.cell? ⟨w1.heap.size + 1, 1, none⟩ = some (.slice none 0 0) := (cell_of_block hP (m := 1) rfl).1
      have f0 : v6.cell? ⟨w1.heap.size, 0, none⟩ = some (.int .i64 0) := (cell_of_block e2 (m := 0) (by simp)).1
      have f1 : v6.cell? ⟨w1.heap.size, 1, none⟩ = some (.int .i64 0) := (cell_of_block e2 (m := 1) (by simp)).1
      obtain ⟨a0, b0⟩ := cell_of_block hR1 (m := 0) rfl
      obtain ⟨a1, b1⟩ := cell_of_block hR1 (m := 1) rfl
      obtain ⟨a2, b2⟩ := cell_of_block hR2 (m := 0) rfl
      obtain ⟨a3, b3⟩ := cell_of_block hR2 (m := 1) rfl
      have n1 : ¬ w1.heap.size = w.heap.size := by omega
      have n2 : ¬ w.heap.size = w1.heap.size := by omega
      have n3 : ¬ w1.heap.size = w.heap.size + 1 := by omega
      have n4 : ¬ w.heap.size + 1 = w1.heap.size := by omega
      have n5 : ¬ w1.heap.size + 1 = w.heap.size := by omega
      have n6 : ¬ w.heap.size = w1.heap.size + 1 := by omega
      have HR1 := Lib.hid hR1
      have HR2 := Lib.hid hR2
      clear hP hR1 hR2 e2 hg HQ5 hQ h0 h1 h2 h3 hn
      go_region
      clear d0 d1 f0 f1 a0 a1 a2 a3 b0 b1 b2 b3 n1 n2 n3 n4 n5 n6
      have hQ := HQk.out
      have h1 := hQ.h1
      have h2 := hQ.h2
      have h3 := hQ.h3
      obtain ⟨e1, g1, -⟩ := set1 HR1.out 0 (.slice da ds.length dc)
      obtain ⟨e2, g2, -⟩ := set1 e1 1 (.slice none 0 0)
      have hgA := grown_trans g1 g2
      clear e1 g1 g2
      generalize ((v6.setCell ⟨w.heap.size, 0, none⟩ (.slice da ds.length dc)).setCell ⟨w.heap.size, 1, none⟩ (.slice none 0 0)) = v7 at *
      have hR2 := (hgA.block _ (Array.getElem?_eq_some_iff.1 HR2.out).1 (fun e => by have := Option.some.inj e; omega)).trans HR2.out
      obtain ⟨e3, g3, -⟩ := set1 hR2 0 (.int .i64 0)
      obtain ⟨e4, g4, -⟩ := set1 e3 1 (.int .i64 0)
      have hgB := grown_trans g3 g4
      clear e3 g3 g4
      generalize ((v7.setCell ⟨w.heap.size + 1, 0, none⟩ (.int .i64 0)).setCell ⟨w.heap.size + 1, 1, none⟩ (.int .i64 0)) = v8 at *
      have hR1 := (hgB.block _ (Array.getElem?_eq_some_iff.1 e2).1 (fun e => by have := Option.some.inj e; omega)).trans e2
      have c0 : v8.cell? ⟨w.heap.size, 0, none⟩ = some (.slice da ds.length dc) := (cell_of_block hR1 (m := 0) (by simp)).1
      have c1 : v8.cell? ⟨w.heap.size, 1, none⟩ = some (.slice none 0 0) := (cell_of_block hR1 (m := 1) (by simp)).1
      have c2 : v8.cell? ⟨w.heap.size + 1, 0, none⟩ = some (.int .i64 0) := (cell_of_block e4 (m := 0) (by simp)).1
      have c3 : v8.cell? ⟨w.heap.size + 1, 1, none⟩ = some (.int .i64 0) := (cell_of_block e4 (m := 1) (by simp)).1
      have HSl8 : Hid (SlG DatE v8.drew (fun c => w.heap.size ≤ c) ds (.slice da ds.length dc)) :=
        (((HSl6.out.kept (fun _ h => h) (fun c hc hlt => hgA.block c hlt (fun e => by have := Option.some.inj e; omega))).kept (S' := fun c => w.heap.size ≤ c) (fun c h => by omega) (fun c hc hlt => hgB.block c hlt (fun e => by have := Option.some.inj e; omega)))).lift (Below.refl _ v8).drew
      have hlA := Below.grown HLow.out hgA HLow.out.size (fun k hk => by have := Option.some.inj hk; omega)
      have HL8 : Hid (Below w.heap.size w v8.drew) := (Below.grown hlA hgB hlA.size (fun k hk => by have := Option.some.inj hk; omega)).drew
      clear hlA hgA hgB hR1 hR2 e2 e4 hQ h1 h2 h3
      go_wp2
      refine bodyPost_ret (by simp [results, Try.results39, go_sem, c0, c1, c2, c3]; try rfl) rfl ?_
      exact ⟨_, rfl, HSl8.out, HL8.out⟩
    · have HIs : Hid (∀ w, RdT w w2.heap.size ts q → Calls Try.prog 52 #[.pointer (some ⟨w2.heap.size, 0, none⟩), .string ⟨#[100, 97, 116, 97]⟩] w fun e w' => e = .returned (.bool true) ∧ Below w.heap.size w w') := fun w h => by
        have := rdIs_any ⟨#[100, 97, 116, 97]⟩ w2.heap.size ts q w h
        rwa [hd] at this
      have HDc := Lib.hid (decl_any ts HT.out.ok K HT.out.hK q d j hdc)
      have HPn := Lib.hid hrest
      have hql : (q : Int) < (ts.length : Int) := by omega
      clear hd hdc hrest HPg
      go_wp2_with fail
      go_at_call 52
      refine (HIs.out _ HQr.out.rd).mono ?_
      rintro e v1 ⟨rfl, hb1⟩
      have HQ1 := Lib.hid (HQr.out.lift HQk.out hb1)
      have HQd := Lib.hid (QSt.drew HQk.out HQ1.out)
      clear hb1 HQr HIs r0 r1 r2
      go_wp2_with fail
      have hbd : Below v1.heap.size v1 v1.drew := (Below.refl _ v1).drew
      have hsz1 := HQ1.out.size
      have hbv : w2.heap.size < v1.heap.size := by omega
      have hle : v1.heap.size ≤ v1.drew.heap.size := hbd.size
      have HSV : Hid (∀ c, v1.heap.size ≤ c → w2.heap.size + 1 ≤ c ∧ some c ≠ (Value.slice da acc.length dc).ownBlock) := fun c hc => ⟨by omega, fun e => by have := (RowG.lt HQ1.out.row _ e.symm).2; omega⟩
      have y4 := HQd.out.cell
      have hK1 := HT.out.hK
      have hNb : acc.length + 1 ≤ 1000000 := by omega
      clear hbd hsz1 hK1
      go_region_law
        (first
          | ((with_reducible refine step_call1 53 enterDecl (.pointer (some ⟨w2.heap.size, 0, none⟩)) (fun u w' => ∃ c : List Value, u = .agg c.toArray ∧ DatE.rep w' (fun c => v1.heap.size ≤ c) d c ∧ RdT w' w2.heap.size ts j ∧ v1.drew.grownBy w' (some w2.heap.size)) ?_ ?_ ?_); (rfl); (exact (HDc.out w2.heap.size v1.heap.size _ hbv hle HQd.out.rd).mono fun _ _ ⟨c, h1, h2⟩ => ⟨_, h1, c, rfl, h2⟩); (rintro u v3 ⟨cl, rfl, hrep, hr2, hg2⟩); (have HF := Lib.hid (QSt.call HQk.out HQd.out hr2 hg2)); (obtain ⟨pv, cv, rfl, hpv, hcv⟩ := hrep); (obtain ⟨pa, pc, rfl⟩ := slG_form hpv); (obtain ⟨ca, cc, rfl⟩ := slG_form hcv); (have HE := Lib.hid (datE_of hpv hcv HSV.out)); (have HE2 := Lib.hid (datE_of (hpv.lift (Below.refl _ v3).drew) (hcv.lift (Below.refl _ v3).drew) HSV.out)); (have z4 := HF.out.cell); (have z4o := HF.out.cellA HQk.out); (have z4d := HF.out.cellD HQk.out); clear hpv hcv hr2 hg2 y4)
          | ((with_reducible refine fitA v3 _ ?_); (refine step_pushQ HQk.out HF.out d [.int .i64 d.pos, .string d.name, .slice pa d.params.length pc, .slice ca d.ctors.length cc] HE.out _ rfl _ (by rfl) _ _ (by rfl) (by rfl) _ rfl (by rfl) (acc.length + 1) rfl hNb ?_); (intro a' c' v4 hP); (have HP3 := Lib.hid hP); (have c4 := hP.cell); (have f4 := hP.frozen); clear hP z4 z4o z4d)
          | ((with_reducible refine fitA v3.drew _ ?_); (refine step_pushQ HQk.out (QSt.drew HQk.out HF.out) d [.int .i64 d.pos, .string d.name, .slice pa d.params.length pc, .slice ca d.ctors.length cc] HE2.out _ rfl _ (by rfl) _ _ (by rfl) (by rfl) _ rfl (by rfl) (acc.length + 1) rfl hNb ?_); (intro a' c' v4 hP); (have HP3 := Lib.hid hP); (have c4 := hP.cell); (have f4 := hP.frozen); clear hP z4 z4o z4d))
      all_goals
        have HP4 := Lib.hid (QSt.stored HQk.out HT.out.ne HP3.out)
        clear HP3 c4 f4 HF HE HE2 hNb HQd HQ1
        go_wp2
        go_roundg g
        case measure => omega
        case rel => exact ⟨acc ++ [d], j, _, HPn, by simp; omega, by simpa using HP4⟩
end Go.Proofs.Ytljgpgmaceackaa.S3

/- The text that the maker parses, and the contract of its all. -/
namespace Go.Proofs.Ytljgpgmaceackaa.S3
open Go.RowKit Go.Maps Mth

def allSrc : ByteArray := ⟨#[100, 97, 116, 97, 32, 66, 111, 111, 108, 32, 61, 32, 84, 114, 117, 101, 32, 124, 32, 70, 97, 108, 115, 101, 59, 32, 100, 97, 116, 97, 32, 79, 112, 116, 105, 111, 110, 32, 97, 32, 61, 32, 78, 111, 110, 101, 32, 124, 32, 83, 111, 109, 101, 32, 97, 59, 32, 100, 97, 116, 97, 32, 76, 105, 115, 116, 32, 97, 32, 61, 32, 78, 105, 108, 32, 124, 32, 67, 111, 110, 115, 32, 97, 32, 40, 76, 105, 115, 116, 32, 97, 41, 59, 100, 97, 116, 97, 32, 80, 97, 105, 114, 32, 97, 32, 98, 32, 61, 32, 80, 97, 105, 114, 32, 97, 32, 98, 59, 32, 100, 97, 116, 97, 32, 78, 97, 116, 32, 61, 32, 90, 101, 114, 111, 32, 124, 32, 83, 117, 99, 99, 32, 78, 97, 116, 59, 32, 100, 97, 116, 97, 32, 70, 117, 110, 32, 97, 32, 98, 32, 61, 32, 70, 117, 110, 32, 40, 97, 32, 45, 62, 32, 98, 41, 59, 32, 100, 97, 116, 97, 32, 84, 119, 111, 32, 97, 32, 61, 32, 66, 111, 116, 104, 32, 97, 32, 97, 32, 124, 32, 79, 110, 101, 32, 40, 79, 112, 116, 105, 111, 110, 32, 97, 41, 59]⟩
def allToks : List Tok := ftoks (bl allSrc)
def allDats : List Dat := (pProg 40 40 allToks 0 []).getD []
theorem all_err : ferr (bl allSrc) = 0 := by decide +kernel
theorem all_pos : fpos (bl allSrc) = 0 := by decide +kernel
theorem all_len : (decide (allToks.length ≤ 1000) && decide (0 < allToks.length)) = true := by decide +kernel
theorem all_ok : allToks.all (fun t => decide (t.text.length ≤ 4000)) = true := by decide +kernel
theorem all_some : (pProg 40 40 allToks 0 []).isSome = true := by decide +kernel
theorem all_num : allDats.length = 7 := by decide +kernel
theorem all_lim : allDats.all (fun d => decide (d.params.length ≤ 4) && decide (d.ctors.length ≤ 6) && decide (d.name.size ≤ 4000) && d.ctors.all (fun c => decide (c.fields.length ≤ 4) && c.fields.all (fun T => decide (dep T ≤ 40)))) = true := by decide +kernel
theorem allText : PText allSrc 40 allToks allDats where
  size := by decide +kernel
  err := all_err
  pos := all_pos
  toks := rfl
  len := by have := all_len; simp only [Bool.and_eq_true, decide_eq_true_eq] at this; exact this.1
  ne := by intro h; have := all_len; rw [h] at this; simp at this
  ok := fun t ht => by have := List.all_eq_true.1 all_ok t ht; simpa using this
  hK := by decide
  prog := by
    have h := all_some
    unfold allDats
    cases hp : pProg 40 40 allToks 0 [] with
    | none => rw [hp] at h; cases h
    | some l => rfl
  num := by rw [all_num]; decide
  lim := fun d hd => by
    have := List.all_eq_true.1 all_lim d hd
    simp only [Bool.and_eq_true, decide_eq_true_eq, List.all_eq_true] at this
    exact ⟨this.1.1.1, this.1.1.2, fun c hc => ⟨(this.2 c hc).1, (this.2 c hc).2⟩⟩
set_option maxHeartbeats 1600000 in
theorem all_any (w : World) : Calls Try.prog 22 #[] w fun e w' => ∃ dv, e = .returned dv ∧ SlG DatE w' (fun c => w.heap.size ≤ c) allDats dv ∧ Below w.heap.size w w' := by
  have HP := Lib.hid (fun w => refParse_any allSrc 40 allToks allDats allText w)
  go_enter Try.func22, Try.ntmps22
  go_wp2_with fail
  go_at_call 39
  refine (HP.out _).mono ?_
  rintro e w1 ⟨dv, rfl, hsl, hb1⟩
  obtain ⟨da, dc, rfl⟩ := slG_form hsl
  have HSl := Lib.hid hsl
  have HB := Lib.hid hb1
  have HA : Hid (∀ X Y, Below w1.heap.size w1 ((w1.alloc X).alloc Y)) := fun X Y => ((Below.refl _ w1).alloc (Nat.le_refl _) X).alloc (by simp) Y
  clear hsl hb1 HP
  go_wp2
  go_ret
  exact ⟨_, rfl, HSl.out.lift (HA.out _ _), HB.out.trans ((HA.out _ _).mono HB.out.size)⟩
end Go.Proofs.Ytljgpgmaceackaa.S3

/- The contract of the maker's Datas. -/
namespace Go.Proofs.Ytljgpgmaceackaa.S3
open Go.RowKit Go.Maps Mth

/-- Some of the declarations that the maker knows. -/
def Some_ (ds : List Dat) : Prop := ds.length ≤ 8 ∧ ∀ d ∈ ds, d ∈ allDats
set_option maxRecDepth 100000 in
set_option maxHeartbeats 3200000 in
theorem datas_any (bits : Int) (w : World) : Calls Try.prog 10 #[.int .i64 bits] w fun e w' => ∃ ds dv, e = .returned dv ∧ Some_ ds ∧ SlG DatE w' (fun c => w.heap.size ≤ c) ds dv ∧ Below w.heap.size w w' := by
  have HA := Lib.hid (fun w => all_any w)
  have HN := Lib.hid all_num
  cases hA : (Go.bits BinOp.and IntKind.i64 bits 2 != 0) <;> cases hB : (Go.bits BinOp.and IntKind.i64 bits 64 != 0)
  all_goals
   go_enter Try.func10, Try.ntmps10
   go_wp2_with fail
   go_at_call 22
   refine (HA.out _).mono ?_
   rintro e w1 ⟨dv, rfl, hsl, hb1⟩
   obtain ⟨da, dc, rfl⟩ := slG_form hsl
   rw [HN.out]
   rw [HN.out] at hsl
   have HSl := Lib.hid hsl.bound
   have HB := Lib.hid hb1
   obtain ⟨d, hd⟩ : ∃ x, allDats[1]? = some x := ⟨_, List.getElem?_eq_getElem (by rw [HN.out]; decide)⟩
   obtain ⟨ad, cl, rfl, -, ⟨pv, cv, rfl, hp, hc⟩, hc0, hcm⟩ := slG_get hsl hd
   have q0 := hc0 _ rfl
   have q1 := hcm 1 _ (by decide) rfl
   have q2 := hcm 2 _ (by decide) rfl
   have q3 := hcm 3 _ (by decide) rfl
   simp only [show DatE.k = 4 from rfl] at q0 q1 q2 q3
   simp [Addr.add] at q0 q1 q2 q3
   obtain ⟨pa, pc, rfl⟩ := slG_form hp
   obtain ⟨ca, cc, rfl⟩ := slG_form hc
   have HRp : Hid (DatE.rep w1 (fun c => w.heap.size ≤ c) d [.int .i64 d.pos, .string d.name, .slice pa d.params.length pc, .slice ca d.ctors.length cc]) := ⟨_, _, rfl, hp, hc⟩
   have HM := Lib.hid (List.mem_of_getElem? hd)
   have hx0 : ∀ X, DatE.rep (w1.alloc X) (fun c => (w.heap.size ≤ c ∧ c < w1.heap.size) ∧ some c ≠ (Value.slice none 0 0).ownBlock) d [.int .i64 d.pos, .string d.name, .slice pa d.params.length pc, .slice ca d.ctors.length cc] := fun X =>
     DatE.kept (fun c hc => ⟨hc, by simp [Value.ownBlock]⟩) (fun c hc _ => ((Below.refl _ w1).alloc (Nat.le_refl _) X).block c hc.2) (DatE.bound HRp.out)
   have HX0 := Lib.hid hx0
   have HN0 : Hid (∀ X Z, (w1.alloc (.cells X Z)).heap[w1.heap.size]? = some (.cells X Z (0, 0))) := fun X Z => heap_alloc_new w1 _
   have hbA : ∀ X, Below w1.heap.size w1 (w1.alloc X) := fun X => (Below.refl _ w1).alloc (Nat.le_refl _) X
   clear hc0 hcm hp hc hd hsl hb1 HA hx0
   go_wp2_with (at_builtin; refine wpList_pushG DatE rfl _ _ rfl w1.heap.size (fun c => w.heap.size ≤ c ∧ c < w1.heap.size) (.slice none 0 0) [] rfl (rowG_nil _ _ _ _) w1.heap.size _ [.int .i64 d.pos, .string d.name, .slice pa d.params.length pc, .slice ca d.ctors.length cc] (HN0.out _ _) rfl d (HX0.out _) 1 rfl (by decide) (hbA _).size ?_; intro a' c' w2 hrow2 hg2; have HRow2 := Lib.hid hrow2; have hb2 := Below.grown (hbA _) hg2 (hbA _).size (by intro k hk; simp [Value.ownBlock] at hk); clear hrow2 hg2)
   all_goals
     go_loopw [4, 5] (fun y x wr => ∃ (j : Nat) (xs : List Dat), j ≤ 7 ∧ x = .int .i64 j ∧ Hid (RowG DatE wr w1.heap.size (fun c => w.heap.size ≤ c ∧ c < w1.heap.size) y xs) ∧ Hid (∀ z ∈ xs, z ∈ allDats) ∧ xs.length ≤ j + 1 ∧ Below w1.heap.size w1 wr) (fun _ x _ => 7 - (intOf x).toNat)
     case atStart => first
       | exact ⟨0, [d], Nat.zero_le _, rfl, HRow2, fun z hz => by simp at hz; subst hz; exact HM.out, by simp, hb2⟩
       | exact ⟨0, [], Nat.zero_le _, rfl, rowG_nil _ _ _ _, fun z hz => by simp at hz, by simp, Below.refl _ _⟩
     case round =>
       clear q0 q1 q2 q3 HX0 HN0 hbA HRp HM
       obtain ⟨j, xs, hj, rfl, HRow, HX, hl, hb⟩ := hrel
       by_cases hlt : j < 7
       · obtain ⟨e, he⟩ : ∃ x, allDats[j]? = some x := ⟨_, List.getElem?_eq_getElem (by rw [HN.out]; exact hlt)⟩
         obtain ⟨ad2, cl, had, -, ⟨pv2, cv2, rfl, hp, hc⟩, hc0, hcm⟩ := slG_get (HSl.out.lift hb) he
         cases had
         have q0 := hc0 _ rfl
         have q1 := hcm 1 _ (by decide) rfl
         have q2 := hcm 2 _ (by decide) rfl
         have q3 := hcm 3 _ (by decide) rfl
         simp only [show DatE.k = 4 from rfl] at q0 q1 q2 q3
         obtain ⟨pa2, pc2, rfl⟩ := slG_form hp
         obtain ⟨ca2, cc2, rfl⟩ := slG_form hc
         have HM := Lib.hid (List.mem_of_getElem? he)
         have hx0 : ∀ X, DatE.rep (wr.alloc X) (fun c => (w.heap.size ≤ c ∧ c < w1.heap.size) ∧ some c ≠ u4.ownBlock) e [.int .i64 e.pos, .string e.name, .slice pa2 e.params.length pc2, .slice ca2 e.ctors.length cc2] := fun X =>
           DatE.kept (fun c hc => ⟨hc, fun e => by have := (RowG.lt HRow.out c e.symm).1; omega⟩) (fun c hc hlt => ((Below.refl _ wr).alloc (Nat.le_refl _) X).block c hlt) ⟨_, _, rfl, hp, hc⟩
         have HXe := Lib.hid hx0
         have HNr : Hid (∀ X Z, (wr.alloc (.cells X Z)).heap[wr.heap.size]? = some (.cells X Z (0, 0))) := fun X Z => heap_alloc_new wr _
         have HBr : Hid (∀ X, Below wr.heap.size wr (wr.alloc X)) := fun X => (Below.refl _ wr).alloc (Nat.le_refl _) X
         have HRowA := Lib.hid (fun X => HRow.out.lift (HBr.out X))
         have hsz : w1.heap.size ≤ wr.heap.size := hb.size
         have HLow : Hid (∀ k, u4.ownBlock = some k → w1.heap.size ≤ k) := fun k hk => (RowG.lt HRow.out k hk).1
         have hji : (j : Int) < 7 := by omega
         have hj0 : (0 : Int) ≤ (j : Int) := by omega
         clear hc0 hcm hp hc he hx0
         by_cases hj1 : j = 1
         · subst hj1
           clear q0 q1 q2 q3 HXe HNr HBr HRowA hji hj0
           go_wp2
           go_roundw
           case rel => exact ⟨2, xs, by omega, rfl, HRow, HX, by omega, hb⟩
           case measure => simp [intOf]
         have hj1' : ¬ (j : Int) = 1 := by omega
         go_wp2_with (at_builtin; refine wpList_pushG DatE rfl _ _ rfl w1.heap.size (fun c => w.heap.size ≤ c ∧ c < w1.heap.size) u4 xs rfl (HRowA.out _) wr.heap.size _ [.int .i64 e.pos, .string e.name, .slice pa2 e.params.length pc2, .slice ca2 e.ctors.length cc2] (HNr.out _ _) rfl e (HXe.out _) (xs.length + 1) rfl (by omega) (Nat.le_trans hsz (HBr.out _).size) ?_; intro a3 c3 w3 hrow3 hg3; have HRow3 := Lib.hid hrow3; have hb3 := Below.grown (hb.trans ((HBr.out _).mono hsz)) hg3 (Nat.le_trans hsz (HBr.out _).size) HLow.out; clear hrow3 hg3)
         all_goals
           have hxs : ∀ z ∈ xs ++ [e], z ∈ allDats := fun z hz => by
             rcases List.mem_append.1 hz with h | h
             · exact HX.out z h
             · simp at h; subst h; exact HM.out
           first
             | exact ⟨⟨j + 1, xs ++ [e], hlt, by first | go_num | (simp <;> omega), HRow3, hxs, by simp; omega, hb3⟩, by simp [intOf] <;> omega⟩
             | exact ⟨⟨j + 1, xs, hlt, by first | go_num | (simp <;> omega), HRow, HX, by omega, hb⟩, by simp [intOf] <;> omega⟩
             | (go_roundw
                case rel => first
                  | exact ⟨j + 1, xs ++ [e], hlt, by first | go_num | (simp <;> omega), HRow3, hxs, by simp; omega, hb3⟩
                  | exact ⟨j + 1, xs, hlt, by first | go_num | (simp <;> omega), HRow, HX, by omega, hb⟩
                case measure => simp [intOf]; omega)
       · have hbw := HB.out.size
         have HS7 : Hid (SlG DatE wr (fun c => w.heap.size ≤ c) xs u4) := HRow.out.slG (fun _ h => h.1) (fun c h => Nat.le_trans hbw h)
         have HB7 : Hid (Below w.heap.size w wr) := HB.out.trans (hb.mono hbw)
         have hj7 : ¬ ((j : Int) < 7) := by omega
         go_wp2
         go_ret
         exact ⟨xs, _, rfl, ⟨by omega, HX.out⟩, HS7.out, HB7.out⟩
end Go.Proofs.Ytljgpgmaceackaa.S3

/- How many arguments a known constructor takes: the package's map, the reference's search. -/
namespace Go.Proofs.Ytljgpgmaceackaa
open Go.RowKit Go.Maps Mth S3

def kstep (ks : List (List UInt8 × Int)) (d : Dat) : List (List UInt8 × Int) := if (kf ks (bl d.name)).isSome then ks else ks ++ [(bl d.name, (d.params.length : Int))]
def k0 : List (List UInt8 × Int) := [([73, 110, 116], 0), ([45, 62], 2)]
/-- The known constructors of a list of declarations. -/
def kn (ds : List Dat) : List (List UInt8 × Int) := ds.foldl kstep k0
def ff : List Dat → List UInt8 → Option Int
  | [], _ => none
  | d :: l, s => if bl d.name == s then some (d.params.length : Int) else ff l s
def prm (ds : List Dat) (s : List UInt8) : Option Int := if s == [73, 110, 116] then some 0 else if s == [45, 62] then some 2 else ff ds s
theorem kf_fold (s : List UInt8) : ∀ (ds : List Dat) (ks : List (List UInt8 × Int)), kf (ds.foldl kstep ks) s = match kf ks s with | some x => some x | none => ff ds s := by
  intro ds
  induction ds with
  | nil => intro ks; simp only [List.foldl_nil, ff]; cases kf ks s <;> rfl
  | cons d l ih =>
    intro ks
    rw [List.foldl_cons, ih]
    unfold kstep
    cases hk : kf ks (bl d.name) with
    | some c =>
      simp only [Option.isSome_some, if_true, ff]
      cases hs : kf ks s with
      | some x => rfl
      | none =>
        have : ¬ (bl d.name == s) = true := fun e => by rw [beq_iff_eq.1 e, hs] at hk; cases hk
        rw [if_neg this]
    | none =>
      simp only [Option.isSome_none, Bool.false_eq_true, if_false, ff]
      rw [kf_snoc _ _ _ _ hk]
      by_cases hs : bl d.name = s
      · rw [if_pos hs]
        subst hs
        rw [hk]
        simp
      · rw [if_neg hs]
        have : ¬ (bl d.name == s) = true := fun e => hs (beq_iff_eq.1 e)
        cases kf ks s with
        | some x => rfl
        | none => simp only; rw [if_neg this]
theorem kf_kn (ds : List Dat) (s : List UInt8) : kf (kn ds) s = prm ds s := by
  unfold kn prm
  rw [kf_fold]
  unfold k0
  simp only [kf]
  by_cases h1 : s = [73, 110, 116]
  · subst h1; simp
  · have e1 : ¬ (([73, 110, 116] : List UInt8) == s) = true := fun e => h1 (beq_iff_eq.1 e).symm
    have e2 : ¬ (s == [73, 110, 116]) = true := fun e => h1 (beq_iff_eq.1 e)
    rw [if_neg e1, if_neg e2]
    by_cases h3 : s = [45, 62]
    · subst h3; simp
    · have e3 : ¬ (([45, 62] : List UInt8) == s) = true := fun e => h3 (beq_iff_eq.1 e).symm
      have e4 : ¬ (s == [45, 62]) = true := fun e => h3 (beq_iff_eq.1 e)
      rw [if_neg e3, if_neg e4]
theorem kn_take {ds : List Dat} {j : Nat} {d : Dat} (h : ds[j]? = some d) : (ds.take (j + 1)).foldl kstep k0 = if (kf ((ds.take j).foldl kstep k0) (bl d.name)).isSome then (ds.take j).foldl kstep k0 else (ds.take j).foldl kstep k0 ++ [(bl d.name, (d.params.length : Int))] := by
  rw [List.take_add_one, h, Option.toList, List.foldl_append]
  rfl
/-- Names that fit into memory. -/
def Sized (ds : List Dat) : Prop := ds.length ≤ 1000 ∧ ∀ d ∈ ds, d.name.size ≤ maxLen
theorem size_lit (l : Array UInt8) (h : l.size ≤ 100) : (⟨l⟩ : ByteArray).size ≤ maxLen := by unfold maxLen; show l.size ≤ _; omega
set_option maxRecDepth 100000 in
set_option maxHeartbeats 3200000 in
theorem params_any (ds : List Dat) (hds : Sized ds) (v : Value) (S : Nat → Prop) (w : World) (h : SlG DatE w S ds v) :
    Calls Try.prog 81 #[v] w fun e w' => ∃ b m, e = .returned (.map (some b)) ∧ KM w' b m (kn ds) ∧ m ≤ 2000 ∧ Below w.heap.size w w' := by
  have hmm := @run_makeMap Try.prog
  have HD := Lib.hid h
  have HZ := Lib.hid hds.2
  have hl := hds.1
  obtain ⟨da, dc, rfl, -⟩ := slice_form h
  obtain ⟨dn, hdn⟩ : ∃ n, n = ds.length := ⟨_, rfl⟩
  rw [← hdn] at HD hl ⊢
  have HDn := Lib.hid hdn
  clear hdn h hds
  have HM0 := Lib.hid (KM.made w)
  have HB0 : Hid (Below w.heap.size w (w.alloc (.map #[] 0))) := (Below.refl _ w).alloc (Nat.le_refl _) _
  go_enter Try.func81, Try.ntmps81
  go_wp2_with (first
    | (refine wpList_kLay _ rfl _ _ _ rfl w.heap.size 0 [] rfl HM0.out (by unfold maxLen; omega) ⟨#[73, 110, 116]⟩ rfl (size_lit _ (by decide)) rfl 0 rfl (by decide) ?_; intro w1 hk1 hg1; have HK1 := Lib.hid hk1; have HB1 := Lib.hid (Below.grown HB0.out hg1 HB0.out.size (fun k hk => by cases hk; exact Nat.le_refl _)); clear hk1 hg1)
    | (refine wpList_kLay _ rfl _ _ _ rfl w.heap.size 1 _ rfl HK1.out (by unfold maxLen; omega) ⟨#[45, 62]⟩ rfl (size_lit _ (by decide)) (by decide) 2 rfl (by decide) ?_; intro w2 hk2 hg2; have HK2 := Lib.hid hk2; have HB2 := Lib.hid (Below.grown HB1.out hg2 HB1.out.size (fun k hk => by cases hk; exact Nat.le_refl _)); clear hk2 hg2))
  have HK3 : Hid (KM w2 w.heap.size (0 + 2) ((ds.take 0).foldl kstep k0)) := HK2.out
  clear HK2 HK1 HM0 hmm
  go_loopw [12] (fun x wr => ∃ j : Nat, j ≤ dn ∧ x = .int .i64 j ∧ Hid (KM wr w.heap.size (j + 2) ((ds.take j).foldl kstep k0)) ∧ Hid (Below w.heap.size w wr)) (fun x _ => dn - (intOf x).toNat)
  case atStart => exact ⟨0, Nat.zero_le _, rfl, HK3, HB2⟩
  case round =>
    obtain ⟨j, hj, rfl, HKj, HBj⟩ := hrel
    by_cases hjt : j < dn
    · obtain ⟨d, hd⟩ : ∃ x, ds[j]? = some x := ⟨_, List.getElem?_eq_getElem (by rw [← HDn.out]; exact hjt)⟩
      have HS := Lib.hid (kn_take hd)
      have hdz := HZ.out d (List.mem_of_getElem? hd)
      have HDz := Lib.hid hdz
      obtain ⟨ad, cl, had, -, ⟨pv, cv, rfl, hp, hc⟩, hc0, hcm⟩ := slG_get (HD.out.lift' HBj.out) hd
      cases had
      have q0 := hc0 _ rfl
      have q1 := hcm 1 _ (by decide) rfl
      have q2 := hcm 2 _ (by decide) rfl
      have q3 := hcm 3 _ (by decide) rfl
      simp only [show DatE.k = 4 from rfl] at q0 q1 q2 q3
      obtain ⟨pa, pc, rfl, hpl⟩ := slice_form hp
      obtain ⟨ca, cc, rfl, -⟩ := slice_form hc
      have HKa := Lib.hid (fun o => HKj.out.alloc o)
      have HBa : Hid (∀ o, Below w.heap.size w (wr.alloc o)) := fun o => HBj.out.alloc HBj.out.size o
      have hji : (j : Int) < (dn : Int) := by omega
      have hwf : (Lit.int .i64 (d.params.length : Int)).wf = true := WalkArith.wf_i64 (by unfold maxLen at hpl; omega)
      clear hc0 hcm hp hc hd hpl hdz
      obtain ⟨kk, hkk⟩ : ∃ kk, kk = (ds.take j).foldl kstep k0 := ⟨_, rfl⟩
      rw [← hkk] at HKa HS
      clear hkk HKj
      generalize d.params.length = pl at *
      cases hf : kf kk (bl d.name) with
      | some c =>
        rw [hf] at HS
        have HK4 : Hid (∀ o, KM (wr.alloc o) w.heap.size (j + 1 + 2) ((ds.take (j + 1)).foldl kstep k0)) := fun o => by
          rw [HS.out]
          exact (HKa.out o).mono (Nat.le_succ _)
        have HF := Lib.hid hf
        clear hf
        go_wp2_with (at_lookup; refine wpList_kLookS _ rfl _ _ rfl w.heap.size (j + 2) kk rfl (HKa.out _) d.name rfl HDz.out c HF.out ?_)
        go_roundw
        case rel => exact ⟨j + 1, hjt, by go_num, HK4.out _, HBa.out _⟩
        case measure => simp [intOf]; omega
      | none =>
        rw [hf] at HS
        have HF := Lib.hid hf
        clear hf
        go_wp2_with (first
          | (at_lookup; refine wpList_kLookN _ rfl _ _ rfl w.heap.size (j + 2) kk rfl (HKa.out _) d.name rfl HDz.out HF.out ?_)
          | (at_mapUpdate; refine wpList_kPut _ rfl _ _ _ rfl w.heap.size (j + 2) kk rfl (HKa.out _) (by unfold maxLen; omega) d.name rfl HDz.out HF.out (pl : Int) rfl hwf ?_; intro w4 hk4 hg4; have HK4 := Lib.hid hk4; have HB4 := Lib.hid (Below.grown (HBa.out _) hg4 (HBa.out _).size (fun k hk => by cases hk; exact Nat.le_refl _)); clear hk4 hg4))
        have HK5 : Hid (KM w4 w.heap.size (j + 1 + 2) ((ds.take (j + 1)).foldl kstep k0)) := by
          show KM _ _ _ _
          rw [HS.out]
          exact HK4.out
        go_roundw
        case rel => exact ⟨j + 1, hjt, by go_num, HK5, HB4⟩
        case measure => simp [intOf]; omega
    · have HKf : Hid (KM wr w.heap.size (j + 2) (kn ds)) := by
        have h := HKj.out
        rwa [List.take_of_length_le (by rw [← HDn.out]; omega)] at h
      go_wp2
      go_ret
      exact ⟨_, _, rfl, HKf.out, by omega, HBj.out⟩
end Go.Proofs.Ytljgpgmaceackaa

/- The cells of declarations and constructors; where a constructor is declared. -/
namespace Go.Proofs.Ytljgpgmaceackaa
open Go.RowKit Go.Maps Mth S3

theorem dat_at {w : World} {S : Nat → Prop} {ds : List Dat} {a : Option Addr} {n c : Nat} (h : SlG DatE w S ds (.slice a n c)) {j : Nat} {d : Dat} (hd : ds[j]? = some d) :
    ∃ ad pa pc ca cc, a = some ad ∧ SlG StrE w S d.params (.slice pa d.params.length pc) ∧ SlG CtorE w S d.ctors (.slice ca d.ctors.length cc) ∧ w.cell? (ad.add (j * 4)) = some (.int .i64 d.pos) ∧ w.cell? ⟨(ad.add (j * 4)).block, (ad.add (j * 4)).off + 1, none⟩ = some (.string d.name) ∧
      w.cell? ⟨(ad.add (j * 4)).block, (ad.add (j * 4)).off + 2, none⟩ = some (.slice pa d.params.length pc) ∧ w.cell? ⟨(ad.add (j * 4)).block, (ad.add (j * 4)).off + 3, none⟩ = some (.slice ca d.ctors.length cc) := by
  obtain ⟨ad, cl, had, -, ⟨pv, cv, rfl, hp, hc⟩, hc0, hcm⟩ := slG_get h hd
  have q0 := hc0 _ rfl
  have q1 := hcm 1 _ (by decide) rfl
  have q2 := hcm 2 _ (by decide) rfl
  have q3 := hcm 3 _ (by decide) rfl
  simp only [show DatE.k = 4 from rfl] at q0 q1 q2 q3
  obtain ⟨pa, pc, rfl, -⟩ := slice_form hp
  obtain ⟨ca, cc, rfl, -⟩ := slice_form hc
  exact ⟨ad, pa, pc, ca, cc, had, hp, hc, q0, q1, q2, q3⟩
theorem ctor_at {w : World} {S : Nat → Prop} {cs : List Ctor} {a : Option Addr} {n c : Nat} (h : SlG CtorE w S cs (.slice a n c)) {j : Nat} {x : Ctor} (hx : cs[j]? = some x) :
    ∃ ad fa fc, a = some ad ∧ SlG TyE w S x.fields (.slice fa x.fields.length fc) ∧ w.cell? (ad.add (j * 3)) = some (.int .i64 x.pos) ∧ w.cell? ⟨(ad.add (j * 3)).block, (ad.add (j * 3)).off + 1, none⟩ = some (.string x.name) ∧
      w.cell? ⟨(ad.add (j * 3)).block, (ad.add (j * 3)).off + 2, none⟩ = some (.slice fa x.fields.length fc) := by
  obtain ⟨ad, cl, had, -, ⟨fv, rfl, hf⟩, hc0, hcm⟩ := slG_get h hx
  have q0 := hc0 _ rfl
  have q1 := hcm 1 _ (by decide) rfl
  have q2 := hcm 2 _ (by decide) rfl
  simp only [show CtorE.k = 3 from rfl] at q0 q1 q2
  obtain ⟨fa, fc, rfl, -⟩ := slice_form hf
  exact ⟨ad, fa, fc, had, hf, q0, q1, q2⟩
theorem bl_beq (s t : ByteArray) : (bl s == bl t) = (s.toList == t.toList) := by
  unfold bl
  rw [Lib.toList_data, Lib.toList_data]
def fndC (s : ByteArray) : List Ctor → Nat → Option Nat
  | [], _ => none
  | c :: l, j => if c.name.toList == s.toList then some j else fndC s l (j + 1)
def fndF (s : ByteArray) : List Dat → Nat → Option (Nat × Nat)
  | [], _ => none
  | d :: l, i => match fndC s d.ctors 0 with | some k => some (i, k) | none => fndF s l (i + 1)
/-- Where a constructor is declared. -/
def fnd (ds : List Dat) (s : ByteArray) : Option (Nat × Nat) := fndF s ds 0
theorem fndC_step {s : ByteArray} {l : List Ctor} {j : Nat} {c : Ctor} (h : l[j]? = some c) : fndC s (l.drop j) j = if c.name.toList == s.toList then some j else fndC s (l.drop (j + 1)) (j + 1) := by
  obtain ⟨hl, e⟩ := List.getElem?_eq_some_iff.1 h
  rw [List.drop_eq_getElem_cons hl, e]; rfl
theorem fndF_step {s : ByteArray} {l : List Dat} {i : Nat} {d : Dat} (h : l[i]? = some d) : fndF s (l.drop i) i = match fndC s d.ctors 0 with | some k => some (i, k) | none => fndF s (l.drop (i + 1)) (i + 1) := by
  obtain ⟨hl, e⟩ := List.getElem?_eq_some_iff.1 h
  rw [List.drop_eq_getElem_cons hl, e]; rfl
def fndV : Option (Nat × Nat) → Value
  | some (i, k) => .tuple #[.int .i64 i, .int .i64 k, .bool true]
  | none => .tuple #[.int .i64 0, .int .i64 0, .bool false]
set_option maxRecDepth 100000 in
set_option maxHeartbeats 3200000 in
theorem refFind_any (ds : List Dat) (s : ByteArray) (v : Value) (S : Nat → Prop) (w : World) (h : SlG DatE w S ds v) :
    Calls Try.prog 27 #[v, .string s] w fun e w' => e = .returned (fndV (fnd ds s)) ∧ w = w' := by
  have HD := Lib.hid h
  obtain ⟨da, dc, rfl, hle⟩ := slice_form h
  unfold maxLen at hle
  obtain ⟨dn, hdn⟩ : ∃ n, n = ds.length := ⟨_, rfl⟩
  rw [← hdn] at HD hle ⊢
  have HDn := Lib.hid hdn
  clear hdn h
  have HE : Hid (fnd ds s = fndF s (ds.drop 0) 0) := rfl
  go_enter Try.func27, Try.ntmps27
  go_wp2
  go_loop [7] (fun x => ∃ j : Nat, j ≤ dn ∧ x = .int .i64 j ∧ Hid (fnd ds s = fndF s (ds.drop j) j)) (fun x => dn - (intOf x).toNat)
  case atStart => exact ⟨0, Nat.zero_le _, rfl, HE⟩
  case round =>
    obtain ⟨j, hj, rfl, HF⟩ := hrel
    by_cases hjt : j < dn
    · obtain ⟨d, hd⟩ : ∃ x, ds[j]? = some x := ⟨_, List.getElem?_eq_getElem (by rw [← HDn.out]; exact hjt)⟩
      have HS := Lib.hid (fndF_step (s := s) hd)
      obtain ⟨ad, pa, pc, ca, cc, rfl, -, hct, q0, q1, q2, q3⟩ := dat_at HD.out hd
      have HCt := Lib.hid hct
      obtain ⟨ca', cc', e, hcl⟩ := slice_form hct
      cases e
      unfold maxLen at hcl
      clear hct hd q0 q1 q2
      obtain ⟨cn, hcn⟩ : ∃ n, n = d.ctors.length := ⟨_, rfl⟩
      rw [← hcn] at HCt q3 hcl
      have HCn := Lib.hid hcn
      clear hcn
      have hji : (j : Int) < (dn : Int) := by omega
      have HE2 : Hid (fndC s d.ctors 0 = fndC s (d.ctors.drop 0) 0) := rfl
      go_wp2
      go_loop [8] (fun x => ∃ k : Nat, k ≤ cn ∧ x = .int .i64 k ∧ Hid (fndC s d.ctors 0 = fndC s (d.ctors.drop k) k)) (fun x => cn - (intOf x).toNat)
      case atStart => exact ⟨0, Nat.zero_le _, rfl, HE2⟩
      case round =>
        obtain ⟨k, hk, rfl, HG⟩ := hrel
        by_cases hkt : k < cn
        · obtain ⟨c, hc⟩ : ∃ x, d.ctors[k]? = some x := ⟨_, List.getElem?_eq_getElem (by rw [← HCn.out]; exact hkt)⟩
          have HS2 := Lib.hid (fndC_step (s := s) hc)
          obtain ⟨ad2, fa, fc, rfl, -, r0, r1, r2⟩ := ctor_at HCt.out hc
          clear hc r0 r2
          have hki : (k : Int) < (cn : Int) := by omega
          cases hq : (c.name.toList == s.toList) with
          | true =>
            have HR : Hid (fnd ds s = some (j, k)) := by show _ = _; rw [HF.out, HS.out, HG.out, HS2.out, hq]; rfl
            go_wp2
            go_returns
            exact ⟨by rw [HR.out]; rfl, rfl⟩
          | false =>
            have HR : Hid (fndC s d.ctors 0 = fndC s (d.ctors.drop (k + 1)) (k + 1)) := by show _ = _; rw [HG.out, HS2.out, hq]; rfl
            go_wp2
            go_round
            case rel => exact ⟨k + 1, hkt, by go_num, HR⟩
            case measure => simp [intOf]; omega
        · have HN : Hid (fndC s d.ctors 0 = none) := by
            show _ = _
            rw [HG.out, List.drop_eq_nil_of_le (by rw [← HCn.out]; omega)]; rfl
          have HR : Hid (fnd ds s = fndF s (ds.drop (j + 1)) (j + 1)) := by show _ = _; rw [HF.out, HS.out, HN.out]
          go_wp2
          go_round
          case rel => exact ⟨j + 1, hjt, by go_num, HR⟩
          case measure => simp [intOf]; omega
    · have HR : Hid (fnd ds s = none) := by
        show _ = _
        rw [HF.out, List.drop_eq_nil_of_le (by rw [← HDn.out]; omega)]; rfl
      go_wp2
      go_returns
      exact ⟨by rw [HR.out]; rfl, rfl⟩
set_option maxRecDepth 100000 in
set_option maxHeartbeats 3200000 in
theorem find_any (ds : List Dat) (s : ByteArray) (v : Value) (S : Nat → Prop) (w : World) (h : SlG DatE w S ds v) :
    Calls Try.prog 78 #[v, .string s] w fun e w' => e = .returned (fndV (fnd ds s)) ∧ Below w.heap.size w w' := by
  have HD := Lib.hid h
  obtain ⟨da, dc, rfl, hle⟩ := slice_form h
  unfold maxLen at hle
  obtain ⟨dn, hdn⟩ : ∃ n, n = ds.length := ⟨_, rfl⟩
  rw [← hdn] at HD hle ⊢
  have HDn := Lib.hid hdn
  clear hdn h
  have HE : Hid (fnd ds s = fndF s (ds.drop 0) 0) := rfl
  have HB0 : Hid (Below w.heap.size w w) := Below.refl _ w
  go_enter Try.func78, Try.ntmps78
  go_wp2
  go_loopw [13] (fun x wr => ∃ j : Nat, j ≤ dn ∧ x = .int .i64 j ∧ Hid (fnd ds s = fndF s (ds.drop j) j) ∧ Hid (Below w.heap.size w wr)) (fun x _ => dn - (intOf x).toNat)
  case atStart => exact ⟨0, Nat.zero_le _, rfl, HE, HB0⟩
  case round =>
    obtain ⟨j, hj, rfl, HF, HB⟩ := hrel
    by_cases hjt : j < dn
    · obtain ⟨d, hd⟩ : ∃ x, ds[j]? = some x := ⟨_, List.getElem?_eq_getElem (by rw [← HDn.out]; exact hjt)⟩
      have HS := Lib.hid (fndF_step (s := s) hd)
      obtain ⟨ad, pa, pc, ca, cc, rfl, -, hct, q0, q1, q2, q3⟩ := dat_at (HD.out.lift' HB.out) hd
      have HCt := Lib.hid hct
      obtain ⟨ca', cc', e, hcl⟩ := slice_form hct
      cases e
      unfold maxLen at hcl
      clear hct hd
      generalize d.params.length = pn at *
      obtain ⟨cn, hcn⟩ : ∃ n, n = d.ctors.length := ⟨_, rfl⟩
      rw [← hcn] at HCt q3 hcl
      have HCn := Lib.hid hcn
      clear hcn
      have hji : (j : Int) < (dn : Int) := by omega
      have HE2 : Hid (fndC s d.ctors 0 = fndC s (d.ctors.drop 0) 0) := rfl
      have HBa : Hid (∀ X, Below w.heap.size w (wr.alloc X)) := fun X => HB.out.alloc HB.out.size X
      have HCa : Hid (∀ X, SlG CtorE (wr.alloc X) S d.ctors (.slice ca cn cc)) := fun X => HCt.out.lift' ((Below.refl _ wr).alloc (Nat.le_refl _) X)
      go_wp2
      go_loopw [21] (fun x wq => ∃ k : Nat, k ≤ cn ∧ x = .int .i64 k ∧ Hid (fndC s d.ctors 0 = fndC s (d.ctors.drop k) k) ∧ Hid (Below w.heap.size w wq) ∧ Hid (SlG CtorE wq S d.ctors (.slice ca cn cc))) (fun x _ => cn - (intOf x).toNat)
      case atStart => exact ⟨0, Nat.zero_le _, rfl, HE2, HBa.out _, HCa.out _⟩
      case round =>
        clear q0 q1 q2 q3
        obtain ⟨k, hk, rfl, HG, HBq, HCq⟩ := hrel
        by_cases hkt : k < cn
        · obtain ⟨c, hc⟩ : ∃ x, d.ctors[k]? = some x := ⟨_, List.getElem?_eq_getElem (by rw [← HCn.out]; exact hkt)⟩
          have HS2 := Lib.hid (fndC_step (s := s) hc)
          obtain ⟨ad2, fa, fc, rfl, -, r0, r1, r2⟩ := ctor_at HCq.out hc
          clear hc
          generalize c.fields.length = fn at *
          have hki : (k : Int) < (cn : Int) := by omega
          have HBb : Hid (∀ X, Below w.heap.size w (wr.alloc X)) := fun X => HBq.out.alloc HBq.out.size X
          have HCb : Hid (∀ X, SlG CtorE (wr.alloc X) S d.ctors (.slice (some ad2) cn cc)) := fun X => HCq.out.lift' ((Below.refl _ wr).alloc (Nat.le_refl _) X)
          cases hq : (c.name.toList == s.toList) with
          | true =>
            have HR : Hid (fnd ds s = some (j, k)) := by show _ = _; rw [HF.out, HS.out, HG.out, HS2.out, hq]; rfl
            go_wp2
            go_returns
            exact ⟨by rw [HR.out]; rfl, HBb.out _⟩
          | false =>
            have HR : Hid (fndC s d.ctors 0 = fndC s (d.ctors.drop (k + 1)) (k + 1)) := by show _ = _; rw [HG.out, HS2.out, hq]; rfl
            go_wp2
            go_roundw
            case rel => exact ⟨k + 1, hkt, by go_num, HR, HBb.out _, HCb.out _⟩
            case measure => simp [intOf]; omega
        · have HN : Hid (fndC s d.ctors 0 = none) := by
            show _ = _
            rw [HG.out, List.drop_eq_nil_of_le (by rw [← HCn.out]; omega)]; rfl
          have HR : Hid (fnd ds s = fndF s (ds.drop (j + 1)) (j + 1)) := by show _ = _; rw [HF.out, HS.out, HN.out]
          go_wp2
          go_roundw
          case rel => exact ⟨j + 1, hjt, by go_num, HR, HBq⟩
          case measure => simp [intOf]; omega
    · have HR : Hid (fnd ds s = none) := by
        show _ = _
        rw [HF.out, List.drop_eq_nil_of_le (by rw [← HDn.out]; omega)]; rfl
      go_wp2
      go_returns
      exact ⟨by rw [HR.out]; rfl, HB.out⟩
end Go.Proofs.Ytljgpgmaceackaa
