import Derived.Test.YtgfjcpeeoapjlaaQV21
import Derived.Test.YtgfjcpeeoapjlaaQV22
import Derived.Test.YtgfjcpeeoapjlaaQV02
/- The contracts of the reader's New and of the reference's Parse, of a text of data declarations. -/
namespace Go.Proofs.Ytgfjcpeeoapjlaa.S3
open Go.RowKit Go.Maps Mth

theorem refNew_any (g : Option Addr) (n cap : Nat) (w : World) : Calls Try.prog 51 #[.slice g n cap, .int .i64 0] w fun e w' => e = .returned (.pointer (some ⟨w.heap.size, 0, none⟩)) ∧ Rd w' w.heap.size (.slice g n cap) 0 ∧ Below w.heap.size w w' := by
  have hn : ¬ ((n : Int) < 0) := by omega
  have HA : Hid (∀ X, (w.alloc (.cells X 103)).heap[w.heap.size]? = some (.cells X 103 (0, 0))) := fun X => heap_alloc_new w _
  go_enter Try.func51, Try.ntmps51
  go_wp2
  go_ret
  exact ⟨rfl, HA.out _, (Below.refl _ w).alloc (Nat.le_refl _) _⟩

/-- The reader is as it was where another block was written, that holds a slice. -/
theorem RdT.apart {v v' : World} {b D q : Nat} {ts : List Tok} {sa : Option Addr} {sn sc : Nat} (h : RdT v b ts q) (hne : ts ≠ []) (hD : v.cell? ⟨D, 0, none⟩ = some (.slice sa sn sc)) (hb : D ≠ b) (hg : v.grownBy v' (some D)) : RdT v' b ts q := by
  obtain ⟨lv, hr, ⟨g, cap, hv, hgb, hc⟩, h3⟩ := h
  have hgD : g ≠ D := by
    intro e
    subst e
    cases ts with
    | nil => exact hne rfl
    | cons t _ =>
      have := (hc 0 t rfl).1
      rw [Nat.zero_mul, hD] at this
      cases this
  refine ⟨lv, ?_, ⟨g, cap, hv, hgb, fun j t ht => ?_⟩, h3⟩
  · unfold Rd at *
    rw [hg.block b (Array.getElem?_eq_some_iff.1 hr).1 (fun e => hb (Option.some.inj e).symm), hr]
  · obtain ⟨h1, h2, h3⟩ := hc j t ht
    have k : ∀ o x, v.cell? ⟨g, o, none⟩ = some x → v'.cell? ⟨g, o, none⟩ = some x := fun o x h => hg.cell h (fun e => hgD (Option.some.inj e))
    exact ⟨k _ _ h1, k _ _ h2, k _ _ h3⟩
def pProg (K : Nat) : Nat → List Tok → Nat → List Dat → Option (List Dat)
  | 0, _, _, _ => none
  | f + 1, ts, i, acc =>
    if i < ts.length then
      if rIs ts i ⟨#[100, 97, 116, 97]⟩ then
        match pDecl K ts i with
        | some (d, j) => pProg K f ts j (acc ++ [d])
        | none => none
      else none
    else some acc
theorem prog_cases {K g : Nat} {ts : List Tok} {i : Nat} {acc l : List Dat} (h : pProg K g ts i acc = some l) :
    (¬ i < ts.length ∧ l = acc) ∨ (i < ts.length ∧ rIs ts i ⟨#[100, 97, 116, 97]⟩ = true ∧ ∃ g' d j, g = g' + 1 ∧ pDecl K ts i = some (d, j) ∧ pProg K g' ts j (acc ++ [d]) = some l) := by
  cases g with
  | zero => simp [pProg] at h
  | succ g =>
    unfold pProg at h
    split at h
    · rename_i h1
      split at h
      · rename_i h2
        split at h
        · rename_i d j hd
          exact .inr ⟨h1, h2, g, d, j, rfl, hd, h⟩
        · simp at h
      · simp at h
    · rename_i h1
      simp only [Option.some.injEq] at h
      exact .inl ⟨h1, h.symm⟩
/-- What the loop of Parse holds. -/
structure QSt (w : World) (R F D b base : Nat) (v : World) (q : Nat) (ts : List Tok) (old sv : Value) (acc : List Dat) : Prop where
  rd : RdT v b ts q
  p : v.heap[D]? = some (.cells #[old, .slice none 0 0] 86 (0, 0))
  r1 : v.heap[R]? = some (.cells #[.slice none 0 0, .slice none 0 0] 86 (0, 0))
  r2 : v.heap[R + 1]? = some (.cells #[.int .i64 0, .int .i64 0] 45 (0, 0))
  f : v.heap[F]? = some (.cells #[.int .i64 0, .int .i64 0] 45 (0, 0))
  row : RowG DatE v base (fun c => base ≤ c) sv acc
  low : Below w.heap.size w v
  size : base ≤ v.heap.size
structure QOk (w : World) (R F D b base : Nat) : Prop where
  h0 : R = w.heap.size
  h1 : R + 1 < F
  h2 : F < D
  h3 : D < b
  h4 : b < base
section
variable {w : World} {R F D b base : Nat} {v v' : World} {q q' : Nat} {ts : List Tok} {old sv : Value} {acc : List Dat}
theorem QSt.block {row : Option Nat} (_hQ : QOk w R F D b base) (_h : QSt w R F D b base v q ts old sv acc) (hg : v.grownBy v' row) (X : Nat) (o : Obj) (hX : v.heap[X]? = some o) (hne : some X ≠ row) : v'.heap[X]? = some o :=
  (hg.block X (Array.getElem?_eq_some_iff.1 hX).1 hne).trans hX
theorem QSt.call (hQ : QOk w R F D b base) (h : QSt w R F D b base v q ts old sv acc) (hr : RdT v' b ts q') (hg : v.grownBy v' (some b)) : QSt w R F D b base v' q' ts old sv acc := by
  obtain ⟨h0, h1, h2, h3, h4⟩ := hQ
  have hs := h.size
  refine ⟨hr, h.block ⟨h0, h1, h2, h3, h4⟩ hg _ _ h.p ?_, h.block ⟨h0, h1, h2, h3, h4⟩ hg _ _ h.r1 ?_, h.block ⟨h0, h1, h2, h3, h4⟩ hg _ _ h.r2 ?_, h.block ⟨h0, h1, h2, h3, h4⟩ hg _ _ h.f ?_, h.row.kept hg (h.row.off (by omega)) (fun c hc e => by have := Option.some.inj e; omega), Below.grown h.low hg h.low.size (fun k hk => by have := Option.some.inj hk; omega), Nat.le_trans h.size hg.size⟩
  all_goals (intro e; have := Option.some.inj e; omega)
theorem QSt.lift (hQ : QOk w R F D b base) (h : QSt w R F D b base v q ts old sv acc) (hb : Below v.heap.size v v') : QSt w R F D b base v' q ts old sv acc := h.call hQ (h.rd.lift hb) (grown_of_below hb _)
theorem QSt.drew (hQ : QOk w R F D b base) (h : QSt w R F D b base v q ts old sv acc) : QSt w R F D b base v.drew q ts old sv acc := h.lift hQ (Below.refl _ v).drew
theorem QSt.cell (h : QSt w R F D b base v q ts old sv acc) : v.cell? ⟨D, 0, none⟩ = some old := (cell_of_block h.p (m := 0) rfl).1
theorem QSt.frozen (h : QSt w R F D b base v q ts old sv acc) : v.frozen? ⟨D, 0, none⟩ = false := (cell_of_block h.p (m := 0) rfl).2
theorem QSt.cellA (hQ : QOk w R F D b base) (h : QSt w R F D b base v q ts old sv acc) (o : Obj) : (v.alloc o).cell? ⟨D, 0, none⟩ = some old := (h.lift hQ ((Below.refl _ v).alloc (Nat.le_refl _) o)).cell
theorem QSt.cellD (hQ : QOk w R F D b base) (h : QSt w R F D b base v q ts old sv acc) (o : Obj) : (v.drew.alloc o).cell? ⟨D, 0, none⟩ = some old := (h.lift hQ ((Below.refl _ v).drew.alloc (Nat.le_refl _) o)).cell
theorem step_pushQ (hQ : QOk w R F D b base) (h : QSt w R F D b base v q ts old sv acc) (x : Dat) (c : List Value) (hx : DatE.rep v (fun c => base ≤ c ∧ some c ≠ sv.ownBlock) x c) (X : Array Value) (hX : X = c.toArray)
    {ops : Array Oper} {o : Oper} {a : Act} {K : Act → World → Prop} {Q : Exit → Act → World → Prop} {E' : Prop} (Z : TypeId) (hgd : o.guard = none) (s y : Operand)
    (ho : o.op = .call { callee := .builtin .append, args := #[s, y], argTypes := #[DatE.t, DatE.t] })
    (hs : a.eval s = sv) (nn : Nat) (hnn : nn = v.heap.size) (hy : a.eval y = .slice (some ⟨nn, 0, none⟩) 1 1) (N : Nat) (hN : N = acc.length + 1) (hb : N ≤ 1000000)
    (hK : ∀ (a' : Option Addr) (c' : Nat) (v3 : World), QSt w R F D b base v3 q ts old (.slice a' N c') (acc ++ [x]) → K (a.put o.dst (.slice a' N c')) v3) :
    if Region.wanted o (yielded ops a.tmps) = true then Oper.wp Try.prog o a (v.alloc (.cells X Z)) K Q else E' := by
  subst hnn hX
  have hba : Below v.heap.size v (v.alloc (.cells c.toArray Z)) := (Below.refl _ v).alloc (Nat.le_refl _) _
  have hA := h.lift hQ hba
  have hlt := fun k e => RowG.lt h.row k e
  have hQ' := hQ
  obtain ⟨h0, h1, h2, h3, h4⟩ := hQ
  refine step_pushG DatE hgd s y ho base (fun c => base ≤ c) sv acc hs hA.row v.heap.size Z c (heap_alloc_new v _) hy x (DatE.kept (fun _ h => h) (fun b _ hlt => hba.block b hlt) hx) N hN hb (Nat.le_trans h.size hba.size) ?_
  intro a' c' v3 hrow3 hg3
  have hne : ∀ X, X < base → some X ≠ sv.ownBlock := fun X hX e => by have := (hlt X e.symm).1; omega
  refine hK a' c' v3 ⟨?_, hA.block hQ' hg3 _ _ hA.p (hne _ (by omega)), hA.block hQ' hg3 _ _ hA.r1 (hne _ (by omega)), hA.block hQ' hg3 _ _ hA.r2 (hne _ (by omega)), hA.block hQ' hg3 _ _ hA.f (hne _ (by omega)), hrow3, Below.grown hA.low hg3 hA.low.size (fun k hk => by have := (hlt k hk).1; omega), Nat.le_trans hA.size hg3.size⟩
  cases hv : sv.ownBlock with
  | none => rw [hv] at hg3; exact hA.rd.lift ⟨hg3.os, hg3.tape, hg3.output, hg3.size, fun i hi => hg3.block i hi (by simp)⟩
  | some R' => rw [hv] at hg3; exact hA.rd.other (by have := (hlt R' hv).1; omega) hg3
theorem QSt.stored (hQ : QOk w R F D b base) (hne : ts ≠ []) {sa : Option Addr} {sn sc : Nat} (h : QSt w R F D b base v q ts (.slice sa sn sc) sv acc) : QSt w R F D b base (v.setCell ⟨D, 0, none⟩ sv) q ts sv sv acc := by
  obtain ⟨e1, e2, e3⟩ := set1 h.p 0 sv
  have hQ' := hQ
  obtain ⟨h0, h1, h2, h3, h4⟩ := hQ
  have hn : ∀ X, X ≠ D → some X ≠ some D := fun X hX e => hX (Option.some.inj e)
  refine ⟨h.rd.apart hne h.cell (by omega) e2, ?_, h.block hQ' e2 _ _ h.r1 (hn _ (by omega)), h.block hQ' e2 _ _ h.r2 (hn _ (by omega)), h.block hQ' e2 _ _ h.f (hn _ (by omega)), h.row.kept e2 (h.row.off (by omega)) (fun c hc e => by have := Option.some.inj e; omega), Below.grown h.low e2 h.low.size (fun k hk => by have := Option.some.inj hk; omega), by rw [e3]; exact h.size⟩
  rw [e1]; simp
end
end Go.Proofs.Ytgfjcpeeoapjlaa.S3

/- The contract of the reference's Parse, of a text of data declarations. -/
namespace Go.Proofs.Ytgfjcpeeoapjlaa.S3
open Go.RowKit Go.Maps Mth

theorem enterDecl (v : Value) (w : World) : (callFunc 57 #[v]).run Try.prog w = .ok (.enter 57 #[v]) w := by kernel_rfl
/-- What Parse of a text of declarations needs to know of the text. -/
structure PText (s : ByteArray) (K : Nat) (ts : List Tok) (ds : List Dat) : Prop where
  size : s.size ≤ 4000
  err : ferr (bl s) = 0
  pos : fpos (bl s) = 0
  toks : ftoks (bl s) = ts
  len : ts.length ≤ 1000
  ne : ts ≠ []
  ok : TkOk ts
  hK : K ≤ 1000
  prog : pProg K K ts 0 [] = some ds
  num : ds.length ≤ 8
  lim : ∀ d ∈ ds, OkD d
theorem tok_cells {w : World} {base : Nat} {lv : Value} {ts : List Tok} (h : w.ownsRow base 117 3 lv ts.length (row3 ts)) (hne : ts ≠ []) : ∃ g cap, lv = .slice (some ⟨g, 0, none⟩) ts.length cap ∧ g < w.heap.size ∧ ∀ (j : Nat) (t : Tok), ts[j]? = some t →
    w.cell? ⟨g, j * 3, none⟩ = some (.int .i64 t.kind) ∧ w.cell? ⟨g, j * 3 + 1, none⟩ = some (.string ⟨t.text.toArray⟩) ∧ w.cell? ⟨g, j * 3 + 2, none⟩ = some (.int .i64 t.pos) := by
  have hlt := h.lt
  have hcell := fun g hg => h.cells (g := g) hg
  rcases h.2 with ⟨rfl, h0⟩ | ⟨g, cap, cur, rfl, -, -, -, -, -⟩
  · exact absurd (List.eq_nil_of_length_eq_zero h0) hne
  · refine ⟨g, cap, rfl, (hlt g rfl).2, fun j t ht => ?_⟩
    have key : ∀ m u, (cells3 t)[m]? = some u → w.cell? ⟨g, j * 3 + m, none⟩ = some u := by
      intro m u hu
      have hf : (row3 ts)[j * 3 + m]? = some u := by
        unfold row3
        rw [List.flatMap_def]
        exact flat_get 3 _ (by intro c hc; simp at hc; obtain ⟨x, -, rfl⟩ := hc; rfl) j m (cells3 t) u (by simp [ht]) hu
      have := hcell g rfl _ _ hf
      rwa [add_zero, Nat.zero_add] at this
    exact ⟨key 0 _ rfl, key 1 _ rfl, key 2 _ rfl⟩
theorem datE_of {w : World} {n base : Nat} {d : Dat} {sv pv cv : Value} (hp : SlG StrE w (fun c => n ≤ c) d.params pv) (hc : SlG CtorE w (fun c => n ≤ c) d.ctors cv) (hS : ∀ c, n ≤ c → base ≤ c ∧ some c ≠ sv.ownBlock) :
    DatE.rep w (fun c => base ≤ c ∧ some c ≠ sv.ownBlock) d [.int .i64 d.pos, .string d.name, pv, cv] := ⟨pv, cv, rfl, hp.kept hS (fun _ _ _ => rfl), hc.kept hS (fun _ _ _ => rfl)⟩
set_option maxRecDepth 100000 in
set_option maxHeartbeats 6400000 in
theorem refParse_any (s : ByteArray) (K : Nat) (ts : List Tok) (ds : List Dat) (ht : PText s K ts ds) (w : World) :
    Calls Try.prog 43 #[.string s] w fun e w' => ∃ dv, e = .returned (.tuple #[.agg #[dv, .slice none 0 0], .agg #[.int .i64 0, .int .i64 0]]) ∧ SlG DatE w' (fun c => w.heap.size ≤ c) ds dv ∧ Below w.heap.size w w' := by
  have HT := Lib.hid ht
  have HSc := Lib.hid (fun w => refScan_any s w (by have := ht.size; omega))
  clear ht
  have hb0 : Below w.heap.size w ((w.alloc (.cells #[.slice none 0 0, .slice none 0 0] 86)).alloc (.cells #[.int .i64 0, .int .i64 0] 45)) := ((Below.refl _ w).alloc (Nat.le_refl _) _).alloc (by simp) _
  have HR1 : Hid (((w.alloc (.cells #[.slice none 0 0, .slice none 0 0] 86)).alloc (.cells #[.int .i64 0, .int .i64 0] 45)).heap[w.heap.size]? = some (.cells #[.slice none 0 0, .slice none 0 0] 86 (0, 0))) := by
    show _ = _
    rw [heap_at, if_neg (by simp), heap_at, if_pos rfl]
  have HR2 : Hid (((w.alloc (.cells #[.slice none 0 0, .slice none 0 0] 86)).alloc (.cells #[.int .i64 0, .int .i64 0] 45)).heap[w.heap.size + 1]? = some (.cells #[.int .i64 0, .int .i64 0] 45 (0, 0))) := by
    show _ = _
    rw [heap_at, if_pos (by simp)]
  have hsz0 : w.heap.size + 2 = ((w.alloc (.cells #[.slice none 0 0, .slice none 0 0] 86)).alloc (.cells #[.int .i64 0, .int .i64 0] 45)).heap.size := by simp
  go_enter Try.func43, Try.ntmps43
  go_wp2_with fail
  go_at_call 50
  generalize ((w.alloc (.cells #[.slice none 0 0, .slice none 0 0] 86)).alloc (.cells #[.int .i64 0, .int .i64 0] 45)) = w0 at *
  refine (HSc.out _).mono ?_
  rintro e w1 ⟨lv, rfl, hrow, hb1⟩
  rw [HT.out.err, HT.out.pos]
  rw [HT.out.toks] at hrow
  have hg1 := hb0.trans (hb1.mono hb0.size)
  have HR1' := Lib.hid ((hb1.block _ (by omega)).trans HR1.out)
  have HR2' := Lib.hid ((hb1.block _ (by omega)).trans HR2.out)
  have hsz1 : w.heap.size + 2 ≤ w1.heap.size := by have := hb1.size; omega
  have HTk := Lib.hid hrow
  obtain ⟨tg, tc, rfl, htg, htc⟩ := tok_cells hrow HT.out.ne
  have HTc := Lib.hid htc
  clear hrow hb1 hb0 HR1 HR2 hsz0 HSc HTk htc
  have hbb := ((Below.refl w1.heap.size w1).alloc (Nat.le_refl _) (.cells #[.int .i64 0, .int .i64 0] 45)).alloc (by simp) (.cells #[.slice none 0 0, .slice none 0 0] 86)
  have HF1 : Hid (((w1.alloc (.cells #[.int .i64 0, .int .i64 0] 45)).alloc (.cells #[.slice none 0 0, .slice none 0 0] 86)).heap[w1.heap.size]? = some (.cells #[.int .i64 0, .int .i64 0] 45 (0, 0))) := by
    show _ = _
    rw [heap_at, if_neg (by simp), heap_at, if_pos rfl]
  have HP1 : Hid (((w1.alloc (.cells #[.int .i64 0, .int .i64 0] 45)).alloc (.cells #[.slice none 0 0, .slice none 0 0] 86)).heap[w1.heap.size + 1]? = some (.cells #[.slice none 0 0, .slice none 0 0] 86 (0, 0))) := by
    show _ = _
    rw [heap_at, if_pos (by simp)]
  have hsz2 : ((w1.alloc (.cells #[.int .i64 0, .int .i64 0] 45)).alloc (.cells #[.slice none 0 0, .slice none 0 0] 86)).heap.size = w1.heap.size + 2 := by simp
  go_wp2_with fail
  go_at_call 51
  generalize ((w1.alloc (.cells #[.int .i64 0, .int .i64 0] 45)).alloc (.cells #[.slice none 0 0, .slice none 0 0] 86)) = w2 at *
  refine (refNew_any _ _ _ _).mono ?_
  rintro e w3 ⟨rfl, hrd, hb3⟩
  have hkc : ∀ p v, w1.cell? p = some v → w3.cell? p = some v := fun p v h => by
    have h1 := World.block_lt_of_cell? _ _ h
    exact (hb3.cell (by omega)).trans ((hbb.cell h1).trans h)
  have HQk : Hid (QOk w w.heap.size w1.heap.size (w1.heap.size + 1) w2.heap.size (w2.heap.size + 1)) := ⟨rfl, by omega, by omega, by omega, by omega⟩
  have HQ0 : Hid (QSt w w.heap.size w1.heap.size (w1.heap.size + 1) w2.heap.size (w2.heap.size + 1) w3 0 ts (.slice none 0 0) (.slice none 0 0) []) :=
    ⟨⟨_, hrd, ⟨tg, tc, rfl, by omega, fun j t ht => ⟨hkc _ _ (HTc.out j t ht).1, hkc _ _ (HTc.out j t ht).2.1, hkc _ _ (HTc.out j t ht).2.2⟩⟩, Nat.zero_le _, HT.out.len⟩,
      (hb3.block _ (by omega)).trans HP1.out, (hb3.block _ (by omega)).trans ((hbb.block _ (by omega)).trans HR1'.out), (hb3.block _ (by omega)).trans ((hbb.block _ (by omega)).trans HR2'.out), (hb3.block _ (by omega)).trans HF1.out, rowG_nil _ _ _ _,
      (hg1.trans (hbb.mono hg1.size)).trans (hb3.mono (by omega)), hrd.lt⟩
  have HLen := Lib.hid HT.out.len
  clear hkc hrd hb3 hbb HP1 HF1 HR1' HR2' HTc hg1 htg hsz2
  go_wp2
  go_loopg [] K (fun kk wr => ∃ (acc : List Dat) (q : Nat) (dv : Value), Hid (pProg K kk ts q acc = some ds) ∧ acc.length + kk ≤ K ∧ Hid (QSt w w.heap.size w1.heap.size (w1.heap.size + 1) w2.heap.size (w2.heap.size + 1) wr q ts dv dv acc))
  case atStart => exact ⟨[], 0, _, HT.out.prog, by simp, HQ0⟩
  case round =>
    clear HQ0
    obtain ⟨acc, q, dv, HPg, hak, HQr⟩ := hrel
    obtain ⟨da, dc, rfl, -, -⟩ := HQr.out.row.slice
    obtain ⟨lv', hrd', ⟨tg', tc', rfl, -, -⟩, hqt, -⟩ := HQr.out.rd
    obtain ⟨r0, r1, r2, -⟩ := hrd'.cells
    clear hrd'
    rcases prog_cases HPg.out with ⟨hq, rfl⟩ | ⟨hq, hd, g, d, j, rfl, hdc, hrest⟩
    · have hql : ¬ ((q : Int) < (ts.length : Int)) := by omega
      have hQ := HQk.out
      have hwb : w.heap.size ≤ w2.heap.size + 1 := by have h1 := hQ.h1; have h2 := hQ.h2; have h3 := hQ.h3; omega
      have HSl : Hid (SlG DatE wr (fun c => w.heap.size ≤ c) ds (.slice da ds.length dc)) := HQr.out.row.slG (fun c h => Nat.le_trans hwb h) (fun c h => Nat.le_trans hwb h)
      have HDp := Lib.hid (deep_any ds _ _ wr HT.out.num HT.out.lim HSl.out)
      have d0 := HQr.out.cell
      have d1 : wr.cell? ⟨w1.heap.size + 1, 1, none⟩ = some (.slice none 0 0) := (cell_of_block HQr.out.p (m := 1) rfl).1
      clear hQ hwb
      go_wp2_with fail
      go_at_call 59
      refine HDp.out.mono ?_
      rintro e v5 ⟨rfl, hb5⟩
      have HQ5 := Lib.hid (HQr.out.lift HQk.out hb5)
      have HSl5 := Lib.hid (HSl.out.lift hb5)
      obtain ⟨a0, b0⟩ := cell_of_block HQ5.out.f (m := 0) rfl
      obtain ⟨a1, b1⟩ := cell_of_block HQ5.out.f (m := 1) rfl
      clear hb5 HQr HSl HDp d0 d1 r0 r1 r2 hql hq
      go_wp2
      clear a0 a1 b0 b1 HSl5
      obtain ⟨e1, g1, -⟩ := set1 HQ5.out.f 0 (.int .i64 0)
      obtain ⟨e2, g2, -⟩ := set1 e1 1 (.int .i64 0)
      have hg := grown_trans g1 g2
      clear e1 g1 g2
      generalize ((v5.setCell ⟨w1.heap.size, 0, none⟩ (.int .i64 0)).setCell ⟨w1.heap.size, 1, none⟩ (.int .i64 0)) = v6 at *
      have hQ := HQk.out
      have h0 := hQ.h0
      have h1 := hQ.h1
      have h2 := hQ.h2
      have h3 := hQ.h3
      have hn : ∀ X, X ≠ w1.heap.size → some X ≠ some w1.heap.size := fun X hX e => hX (Option.some.inj e)
      have HSl6 : Hid (SlG DatE v6 (fun c => w2.heap.size + 1 ≤ c) ds (.slice da ds.length dc)) := (HQ5.out.row.slG (S' := fun c => w2.heap.size + 1 ≤ c) (fun _ h => h) (fun _ h => h)).kept (fun _ h => h) (fun c hc hlt => hg.block c hlt (hn c (by omega)))
      have HLow : Hid (Below w.heap.size w v6) := Below.grown HQ5.out.low hg HQ5.out.low.size (fun k hk => by have := Option.some.inj hk; omega)
      have hP := HQ5.out.block hQ hg _ _ HQ5.out.p (hn _ (by omega))
      have hR1 := HQ5.out.block hQ hg _ _ HQ5.out.r1 (hn _ (by omega))
      have hR2 := HQ5.out.block hQ hg _ _ HQ5.out.r2 (hn _ (by omega))
      have d0 : v6.cell? ⟨w1.heap.size + 1, 0, none⟩ = some (.slice da ds.length dc) := (cell_of_block hP (m := 0) rfl).1
      have d1 : v6.cell? ⟨w1.heap.size + 1, 1, none⟩ = some (.slice none 0 0) := (cell_of_block hP (m := 1) rfl).1
      have f0 : v6.cell? ⟨w1.heap.size, 0, none⟩ = some (.int .i64 0) := (cell_of_block e2 (m := 0) (by simp)).1
      have f1 : v6.cell? ⟨w1.heap.size, 1, none⟩ = some (.int .i64 0) := (cell_of_block e2 (m := 1) (by simp)).1
      obtain ⟨a0, b0⟩ := cell_of_block hR1 (m := 0) rfl
      obtain ⟨a1, b1⟩ := cell_of_block hR1 (m := 1) rfl
      obtain ⟨a2, b2⟩ := cell_of_block hR2 (m := 0) rfl
      obtain ⟨a3, b3⟩ := cell_of_block hR2 (m := 1) rfl
      have n1 : ¬ w1.heap.size = w.heap.size := by omega
      have n2 : ¬ w.heap.size = w1.heap.size := by omega
      have n3 : ¬ w1.heap.size = w.heap.size + 1 := by omega
      have n4 : ¬ w.heap.size + 1 = w1.heap.size := by omega
      have n5 : ¬ w1.heap.size + 1 = w.heap.size := by omega
      have n6 : ¬ w.heap.size = w1.heap.size + 1 := by omega
      have HR1 := Lib.hid hR1
      have HR2 := Lib.hid hR2
      clear hP hR1 hR2 e2 hg HQ5 hQ h0 h1 h2 h3 hn
      go_region
      clear d0 d1 f0 f1 a0 a1 a2 a3 b0 b1 b2 b3 n1 n2 n3 n4 n5 n6
      have hQ := HQk.out
      have h1 := hQ.h1
      have h2 := hQ.h2
      have h3 := hQ.h3
      obtain ⟨e1, g1, -⟩ := set1 HR1.out 0 (.slice da ds.length dc)
      obtain ⟨e2, g2, -⟩ := set1 e1 1 (.slice none 0 0)
      have hgA := grown_trans g1 g2
      clear e1 g1 g2
      generalize ((v6.setCell ⟨w.heap.size, 0, none⟩ (.slice da ds.length dc)).setCell ⟨w.heap.size, 1, none⟩ (.slice none 0 0)) = v7 at *
      have hR2 := (hgA.block _ (Array.getElem?_eq_some_iff.1 HR2.out).1 (fun e => by have := Option.some.inj e; omega)).trans HR2.out
      obtain ⟨e3, g3, -⟩ := set1 hR2 0 (.int .i64 0)
      obtain ⟨e4, g4, -⟩ := set1 e3 1 (.int .i64 0)
      have hgB := grown_trans g3 g4
      clear e3 g3 g4
      generalize ((v7.setCell ⟨w.heap.size + 1, 0, none⟩ (.int .i64 0)).setCell ⟨w.heap.size + 1, 1, none⟩ (.int .i64 0)) = v8 at *
      have hR1 := (hgB.block _ (Array.getElem?_eq_some_iff.1 e2).1 (fun e => by have := Option.some.inj e; omega)).trans e2
      have c0 : v8.cell? ⟨w.heap.size, 0, none⟩ = some (.slice da ds.length dc) := (cell_of_block hR1 (m := 0) (by simp)).1
      have c1 : v8.cell? ⟨w.heap.size, 1, none⟩ = some (.slice none 0 0) := (cell_of_block hR1 (m := 1) (by simp)).1
      have c2 : v8.cell? ⟨w.heap.size + 1, 0, none⟩ = some (.int .i64 0) := (cell_of_block e4 (m := 0) (by simp)).1
      have c3 : v8.cell? ⟨w.heap.size + 1, 1, none⟩ = some (.int .i64 0) := (cell_of_block e4 (m := 1) (by simp)).1
      have HSl8 : Hid (SlG DatE v8.drew (fun c => w.heap.size ≤ c) ds (.slice da ds.length dc)) :=
        (((HSl6.out.kept (fun _ h => h) (fun c hc hlt => hgA.block c hlt (fun e => by have := Option.some.inj e; omega))).kept (S' := fun c => w.heap.size ≤ c) (fun c h => by omega) (fun c hc hlt => hgB.block c hlt (fun e => by have := Option.some.inj e; omega)))).lift (Below.refl _ v8).drew
      have hlA := Below.grown HLow.out hgA HLow.out.size (fun k hk => by have := Option.some.inj hk; omega)
      have HL8 : Hid (Below w.heap.size w v8.drew) := (Below.grown hlA hgB hlA.size (fun k hk => by have := Option.some.inj hk; omega)).drew
      clear hlA hgA hgB hR1 hR2 e2 e4 hQ h1 h2 h3
      go_wp2
      refine bodyPost_ret (by simp [results, Try.results43, go_sem, c0, c1, c2, c3]; try rfl) rfl ?_
      exact ⟨_, rfl, HSl8.out, HL8.out⟩
    · have HIs : Hid (∀ w, RdT w w2.heap.size ts q → Calls Try.prog 56 #[.pointer (some ⟨w2.heap.size, 0, none⟩), .string ⟨#[100, 97, 116, 97]⟩] w fun e w' => e = .returned (.bool true) ∧ Below w.heap.size w w') := fun w h => by
        have := rdIs_any ⟨#[100, 97, 116, 97]⟩ w2.heap.size ts q w h
        rwa [hd] at this
      have HDc := Lib.hid (decl_any ts HT.out.ok K HT.out.hK q d j hdc)
      have HPn := Lib.hid hrest
      have hql : (q : Int) < (ts.length : Int) := by omega
      clear hd hdc hrest HPg
      go_wp2_with fail
      go_at_call 56
      refine (HIs.out _ HQr.out.rd).mono ?_
      rintro e v1 ⟨rfl, hb1⟩
      have HQ1 := Lib.hid (HQr.out.lift HQk.out hb1)
      have HQd := Lib.hid (QSt.drew HQk.out HQ1.out)
      clear hb1 HQr HIs r0 r1 r2
      go_wp2_with fail
      have hbd : Below v1.heap.size v1 v1.drew := (Below.refl _ v1).drew
      have hsz1 := HQ1.out.size
      have hbv : w2.heap.size < v1.heap.size := by omega
      have hle : v1.heap.size ≤ v1.drew.heap.size := hbd.size
      have HSV : Hid (∀ c, v1.heap.size ≤ c → w2.heap.size + 1 ≤ c ∧ some c ≠ (Value.slice da acc.length dc).ownBlock) := fun c hc => ⟨by omega, fun e => by have := (RowG.lt HQ1.out.row _ e.symm).2; omega⟩
      have y4 := HQd.out.cell
      have hK1 := HT.out.hK
      have hNb : acc.length + 1 ≤ 1000000 := by omega
      clear hbd hsz1 hK1
      go_region_law
        (first
          | ((with_reducible refine step_call1 57 enterDecl (.pointer (some ⟨w2.heap.size, 0, none⟩)) (fun u w' => ∃ c : List Value, u = .agg c.toArray ∧ DatE.rep w' (fun c => v1.heap.size ≤ c) d c ∧ RdT w' w2.heap.size ts j ∧ v1.drew.grownBy w' (some w2.heap.size)) ?_ ?_ ?_); (rfl); (exact (HDc.out w2.heap.size v1.heap.size _ hbv hle HQd.out.rd).mono fun _ _ ⟨c, h1, h2⟩ => ⟨_, h1, c, rfl, h2⟩); (rintro u v3 ⟨cl, rfl, hrep, hr2, hg2⟩); (have HF := Lib.hid (QSt.call HQk.out HQd.out hr2 hg2)); (obtain ⟨pv, cv, rfl, hpv, hcv⟩ := hrep); (obtain ⟨pa, pc, rfl⟩ := slG_form hpv); (obtain ⟨ca, cc, rfl⟩ := slG_form hcv); (have HE := Lib.hid (datE_of hpv hcv HSV.out)); (have HE2 := Lib.hid (datE_of (hpv.lift (Below.refl _ v3).drew) (hcv.lift (Below.refl _ v3).drew) HSV.out)); (have z4 := HF.out.cell); (have z4o := HF.out.cellA HQk.out); (have z4d := HF.out.cellD HQk.out); clear hpv hcv hr2 hg2 y4)
          | ((with_reducible refine fitA v3 _ ?_); (refine step_pushQ HQk.out HF.out d [.int .i64 d.pos, .string d.name, .slice pa d.params.length pc, .slice ca d.ctors.length cc] HE.out _ rfl _ (by rfl) _ _ (by rfl) (by rfl) _ rfl (by rfl) (acc.length + 1) rfl hNb ?_); (intro a' c' v4 hP); (have HP3 := Lib.hid hP); (have c4 := hP.cell); (have f4 := hP.frozen); clear hP z4 z4o z4d)
          | ((with_reducible refine fitA v3.drew _ ?_); (refine step_pushQ HQk.out (QSt.drew HQk.out HF.out) d [.int .i64 d.pos, .string d.name, .slice pa d.params.length pc, .slice ca d.ctors.length cc] HE2.out _ rfl _ (by rfl) _ _ (by rfl) (by rfl) _ rfl (by rfl) (acc.length + 1) rfl hNb ?_); (intro a' c' v4 hP); (have HP3 := Lib.hid hP); (have c4 := hP.cell); (have f4 := hP.frozen); clear hP z4 z4o z4d))
      all_goals
        have HP4 := Lib.hid (QSt.stored HQk.out HT.out.ne HP3.out)
        clear HP3 c4 f4 HF HE HE2 hNb HQd HQ1
        go_wp2
        go_roundg g
        case measure => omega
        case rel => exact ⟨acc ++ [d], j, _, HPn, by simp; omega, by simpa using HP4⟩
end Go.Proofs.Ytgfjcpeeoapjlaa.S3

/- The text that the law parses, and the contract of its list. -/
namespace Go.Proofs.Ytgfjcpeeoapjlaa
open Go.RowKit Go.Maps Mth S3

def listSrc : ByteArray := ⟨#[100, 97, 116, 97, 32, 76, 105, 115, 116, 32, 97, 32, 61, 32, 78, 105, 108, 32, 124, 32, 67, 111, 110, 115, 32, 97, 32, 40, 76, 105, 115, 116, 32, 97, 41, 59]⟩
def listToks : List Tok := ftoks (bl listSrc)
def listDats : List Dat := (pProg 40 40 listToks 0 []).getD []
theorem list_err : ferr (bl listSrc) = 0 := by decide +kernel
theorem list_pos : fpos (bl listSrc) = 0 := by decide +kernel
theorem list_len : (decide (listToks.length ≤ 1000) && decide (0 < listToks.length)) = true := by decide +kernel
theorem list_ok : listToks.all (fun t => decide (t.text.length ≤ 4000)) = true := by decide +kernel
theorem list_some : (pProg 40 40 listToks 0 []).isSome = true := by decide +kernel
theorem list_num : listDats.length = 1 := by decide +kernel
theorem list_lim : listDats.all (fun d => decide (d.params.length ≤ 4) && decide (d.ctors.length ≤ 6) && decide (d.name.size ≤ 4000) && d.ctors.all (fun c => decide (c.fields.length ≤ 4) && c.fields.all (fun T => decide (dep T ≤ 40)))) = true := by decide +kernel
theorem listText : PText listSrc 40 listToks listDats where
  size := by decide +kernel
  err := list_err
  pos := list_pos
  toks := rfl
  len := by have := list_len; simp only [Bool.and_eq_true, decide_eq_true_eq] at this; exact this.1
  ne := by intro h; have := list_len; rw [h] at this; simp at this
  ok := fun t ht => by have := List.all_eq_true.1 list_ok t ht; simpa using this
  hK := by decide
  prog := by
    have h := list_some
    unfold listDats
    cases hp : pProg 40 40 listToks 0 [] with
    | none => rw [hp] at h; cases h
    | some l => rfl
  num := by rw [list_num]; decide
  lim := fun d hd => by
    have := List.all_eq_true.1 list_lim d hd
    simp only [Bool.and_eq_true, decide_eq_true_eq, List.all_eq_true] at this
    exact ⟨this.1.1.1, this.1.1.2, fun c hc => ⟨(this.2 c hc).1, (this.2 c hc).2⟩⟩
theorem list_name : ∀ d ∈ listDats, d.name.size ≤ 4000 ∧ d.params.length ≤ 4 := fun d hd => by
  have := List.all_eq_true.1 list_lim d hd
  simp only [Bool.and_eq_true, decide_eq_true_eq, List.all_eq_true] at this
  exact ⟨this.1.2, this.1.1.1⟩
theorem list_eq : listDats = [⟨0, ⟨#[76, 105, 115, 116]⟩, [⟨#[97]⟩], [⟨14, ⟨#[78, 105, 108]⟩, []⟩, ⟨20, ⟨#[67, 111, 110, 115]⟩, [.mk 5 ⟨#[97]⟩ 0 0 [], .mk 4 ⟨#[76, 105, 115, 116]⟩ 0 0 [.mk 5 ⟨#[97]⟩ 0 0 []]]⟩]⟩] := by kernel_rfl
end Go.Proofs.Ytgfjcpeeoapjlaa

/- The text that the maker parses, and the contract of its all. -/
namespace Go.Proofs.Ytgfjcpeeoapjlaa.S3
open Go.RowKit Go.Maps Mth

def allSrc : ByteArray := ⟨#[100, 97, 116, 97, 32, 66, 111, 111, 108, 32, 61, 32, 84, 114, 117, 101, 32, 124, 32, 70, 97, 108, 115, 101, 59, 32, 100, 97, 116, 97, 32, 79, 112, 116, 105, 111, 110, 32, 97, 32, 61, 32, 78, 111, 110, 101, 32, 124, 32, 83, 111, 109, 101, 32, 97, 59, 32, 100, 97, 116, 97, 32, 76, 105, 115, 116, 32, 97, 32, 61, 32, 78, 105, 108, 32, 124, 32, 67, 111, 110, 115, 32, 97, 32, 40, 76, 105, 115, 116, 32, 97, 41, 59, 100, 97, 116, 97, 32, 80, 97, 105, 114, 32, 97, 32, 98, 32, 61, 32, 80, 97, 105, 114, 32, 97, 32, 98, 59, 32, 100, 97, 116, 97, 32, 78, 97, 116, 32, 61, 32, 90, 101, 114, 111, 32, 124, 32, 83, 117, 99, 99, 32, 78, 97, 116, 59, 32, 100, 97, 116, 97, 32, 70, 117, 110, 32, 97, 32, 98, 32, 61, 32, 70, 117, 110, 32, 40, 97, 32, 45, 62, 32, 98, 41, 59, 32, 100, 97, 116, 97, 32, 84, 119, 111, 32, 97, 32, 61, 32, 66, 111, 116, 104, 32, 97, 32, 97, 32, 124, 32, 79, 110, 101, 32, 40, 79, 112, 116, 105, 111, 110, 32, 97, 41, 59]⟩
def allToks : List Tok := ftoks (bl allSrc)
def allDats : List Dat := (pProg 40 40 allToks 0 []).getD []
theorem all_err : ferr (bl allSrc) = 0 := by decide +kernel
theorem all_pos : fpos (bl allSrc) = 0 := by decide +kernel
theorem all_len : (decide (allToks.length ≤ 1000) && decide (0 < allToks.length)) = true := by decide +kernel
theorem all_ok : allToks.all (fun t => decide (t.text.length ≤ 4000)) = true := by decide +kernel
theorem all_some : (pProg 40 40 allToks 0 []).isSome = true := by decide +kernel
theorem all_num : allDats.length = 7 := by decide +kernel
theorem all_lim : allDats.all (fun d => decide (d.params.length ≤ 4) && decide (d.ctors.length ≤ 6) && decide (d.name.size ≤ 4000) && d.ctors.all (fun c => decide (c.fields.length ≤ 4) && c.fields.all (fun T => decide (dep T ≤ 40)))) = true := by decide +kernel
theorem allText : PText allSrc 40 allToks allDats where
  size := by decide +kernel
  err := all_err
  pos := all_pos
  toks := rfl
  len := by have := all_len; simp only [Bool.and_eq_true, decide_eq_true_eq] at this; exact this.1
  ne := by intro h; have := all_len; rw [h] at this; simp at this
  ok := fun t ht => by have := List.all_eq_true.1 all_ok t ht; simpa using this
  hK := by decide
  prog := by
    have h := all_some
    unfold allDats
    cases hp : pProg 40 40 allToks 0 [] with
    | none => rw [hp] at h; cases h
    | some l => rfl
  num := by rw [all_num]; decide
  lim := fun d hd => by
    have := List.all_eq_true.1 all_lim d hd
    simp only [Bool.and_eq_true, decide_eq_true_eq, List.all_eq_true] at this
    exact ⟨this.1.1.1, this.1.1.2, fun c hc => ⟨(this.2 c hc).1, (this.2 c hc).2⟩⟩
theorem all_name : ∀ d ∈ allDats, d.name.size ≤ 4000 ∧ d.params.length ≤ 4 := fun d hd => by
  have := List.all_eq_true.1 all_lim d hd
  simp only [Bool.and_eq_true, decide_eq_true_eq, List.all_eq_true] at this
  exact ⟨this.1.2, this.1.1.1⟩
set_option maxHeartbeats 1600000 in
theorem all_any (w : World) : Calls Try.prog 24 #[] w fun e w' => ∃ dv, e = .returned dv ∧ SlG DatE w' (fun c => w.heap.size ≤ c) allDats dv ∧ Below w.heap.size w w' := by
  have HP := Lib.hid (fun w => refParse_any allSrc 40 allToks allDats allText w)
  go_enter Try.func24, Try.ntmps24
  go_wp2_with fail
  go_at_call 43
  refine (HP.out _).mono ?_
  rintro e w1 ⟨dv, rfl, hsl, hb1⟩
  obtain ⟨da, dc, rfl⟩ := slG_form hsl
  have HSl := Lib.hid hsl
  have HB := Lib.hid hb1
  have HA : Hid (∀ X Y, Below w1.heap.size w1 ((w1.alloc X).alloc Y)) := fun X Y => ((Below.refl _ w1).alloc (Nat.le_refl _) X).alloc (by simp) Y
  clear hsl hb1 HP
  go_wp2
  go_ret
  exact ⟨_, rfl, HSl.out.lift (HA.out _ _), HB.out.trans ((HA.out _ _).mono HB.out.size)⟩
end Go.Proofs.Ytgfjcpeeoapjlaa.S3

/- The contract of the maker's Datas. -/
namespace Go.Proofs.Ytgfjcpeeoapjlaa.S3
open Go.RowKit Go.Maps Mth

/-- Some of the declarations that the maker knows. -/
def Some_ (ds : List Dat) : Prop := ds.length ≤ 8 ∧ ∀ d ∈ ds, d ∈ allDats
set_option maxRecDepth 100000 in
set_option maxHeartbeats 3200000 in
theorem datas_any (bits : Int) (w : World) : Calls Try.prog 11 #[.int .i64 bits] w fun e w' => ∃ ds dv, e = .returned dv ∧ Some_ ds ∧ SlG DatE w' (fun c => w.heap.size ≤ c) ds dv ∧ Below w.heap.size w w' := by
  have HA := Lib.hid (fun w => all_any w)
  have HN := Lib.hid all_num
  cases hA : (Go.bits BinOp.and IntKind.i64 bits 2 != 0) <;> cases hB : (Go.bits BinOp.and IntKind.i64 bits 64 != 0)
  all_goals
   go_enter Try.func11, Try.ntmps11
   go_wp2_with fail
   go_at_call 24
   refine (HA.out _).mono ?_
   rintro e w1 ⟨dv, rfl, hsl, hb1⟩
   obtain ⟨da, dc, rfl⟩ := slG_form hsl
   rw [HN.out]
   rw [HN.out] at hsl
   have HSl := Lib.hid hsl.bound
   have HB := Lib.hid hb1
   obtain ⟨d, hd⟩ : ∃ x, allDats[1]? = some x := ⟨_, List.getElem?_eq_getElem (by rw [HN.out]; decide)⟩
   obtain ⟨ad, cl, rfl, -, ⟨pv, cv, rfl, hp, hc⟩, hc0, hcm⟩ := slG_get hsl hd
   have q0 := hc0 _ rfl
   have q1 := hcm 1 _ (by decide) rfl
   have q2 := hcm 2 _ (by decide) rfl
   have q3 := hcm 3 _ (by decide) rfl
   simp only [show DatE.k = 4 from rfl] at q0 q1 q2 q3
   simp [Addr.add] at q0 q1 q2 q3
   obtain ⟨pa, pc, rfl⟩ := slG_form hp
   obtain ⟨ca, cc, rfl⟩ := slG_form hc
   have HRp : Hid (DatE.rep w1 (fun c => w.heap.size ≤ c) d [.int .i64 d.pos, .string d.name, .slice pa d.params.length pc, .slice ca d.ctors.length cc]) := ⟨_, _, rfl, hp, hc⟩
   have HM := Lib.hid (List.mem_of_getElem? hd)
   have hx0 : ∀ X, DatE.rep (w1.alloc X) (fun c => (w.heap.size ≤ c ∧ c < w1.heap.size) ∧ some c ≠ (Value.slice none 0 0).ownBlock) d [.int .i64 d.pos, .string d.name, .slice pa d.params.length pc, .slice ca d.ctors.length cc] := fun X =>
     DatE.kept (fun c hc => ⟨hc, by simp [Value.ownBlock]⟩) (fun c hc _ => ((Below.refl _ w1).alloc (Nat.le_refl _) X).block c hc.2) (DatE.bound HRp.out)
   have HX0 := Lib.hid hx0
   have HN0 : Hid (∀ X Z, (w1.alloc (.cells X Z)).heap[w1.heap.size]? = some (.cells X Z (0, 0))) := fun X Z => heap_alloc_new w1 _
   have hbA : ∀ X, Below w1.heap.size w1 (w1.alloc X) := fun X => (Below.refl _ w1).alloc (Nat.le_refl _) X
   clear hc0 hcm hp hc hd hsl hb1 HA hx0
   go_wp2_with (at_builtin; refine wpList_pushG DatE rfl _ _ rfl w1.heap.size (fun c => w.heap.size ≤ c ∧ c < w1.heap.size) (.slice none 0 0) [] rfl (rowG_nil _ _ _ _) w1.heap.size _ [.int .i64 d.pos, .string d.name, .slice pa d.params.length pc, .slice ca d.ctors.length cc] (HN0.out _ _) rfl d (HX0.out _) 1 rfl (by decide) (hbA _).size ?_; intro a' c' w2 hrow2 hg2; have HRow2 := Lib.hid hrow2; have hb2 := Below.grown (hbA _) hg2 (hbA _).size (by intro k hk; simp [Value.ownBlock] at hk); clear hrow2 hg2)
   all_goals
     go_loopw [4, 5] (fun y x wr => ∃ (j : Nat) (xs : List Dat), j ≤ 7 ∧ x = .int .i64 j ∧ Hid (RowG DatE wr w1.heap.size (fun c => w.heap.size ≤ c ∧ c < w1.heap.size) y xs) ∧ Hid (∀ z ∈ xs, z ∈ allDats) ∧ xs.length ≤ j + 1 ∧ Below w1.heap.size w1 wr) (fun _ x _ => 7 - (intOf x).toNat)
     case atStart => first
       | exact ⟨0, [d], Nat.zero_le _, rfl, HRow2, fun z hz => by simp at hz; subst hz; exact HM.out, by simp, hb2⟩
       | exact ⟨0, [], Nat.zero_le _, rfl, rowG_nil _ _ _ _, fun z hz => by simp at hz, by simp, Below.refl _ _⟩
     case round =>
       clear q0 q1 q2 q3 HX0 HN0 hbA HRp HM
       obtain ⟨j, xs, hj, rfl, HRow, HX, hl, hb⟩ := hrel
       by_cases hlt : j < 7
       · obtain ⟨e, he⟩ : ∃ x, allDats[j]? = some x := ⟨_, List.getElem?_eq_getElem (by rw [HN.out]; exact hlt)⟩
         obtain ⟨ad2, cl, had, -, ⟨pv2, cv2, rfl, hp, hc⟩, hc0, hcm⟩ := slG_get (HSl.out.lift hb) he
         cases had
         have q0 := hc0 _ rfl
         have q1 := hcm 1 _ (by decide) rfl
         have q2 := hcm 2 _ (by decide) rfl
         have q3 := hcm 3 _ (by decide) rfl
         simp only [show DatE.k = 4 from rfl] at q0 q1 q2 q3
         obtain ⟨pa2, pc2, rfl⟩ := slG_form hp
         obtain ⟨ca2, cc2, rfl⟩ := slG_form hc
         have HM := Lib.hid (List.mem_of_getElem? he)
         have hx0 : ∀ X, DatE.rep (wr.alloc X) (fun c => (w.heap.size ≤ c ∧ c < w1.heap.size) ∧ some c ≠ u4.ownBlock) e [.int .i64 e.pos, .string e.name, .slice pa2 e.params.length pc2, .slice ca2 e.ctors.length cc2] := fun X =>
           DatE.kept (fun c hc => ⟨hc, fun e => by have := (RowG.lt HRow.out c e.symm).1; omega⟩) (fun c hc hlt => ((Below.refl _ wr).alloc (Nat.le_refl _) X).block c hlt) ⟨_, _, rfl, hp, hc⟩
         have HXe := Lib.hid hx0
         have HNr : Hid (∀ X Z, (wr.alloc (.cells X Z)).heap[wr.heap.size]? = some (.cells X Z (0, 0))) := fun X Z => heap_alloc_new wr _
         have HBr : Hid (∀ X, Below wr.heap.size wr (wr.alloc X)) := fun X => (Below.refl _ wr).alloc (Nat.le_refl _) X
         have HRowA := Lib.hid (fun X => HRow.out.lift (HBr.out X))
         have hsz : w1.heap.size ≤ wr.heap.size := hb.size
         have HLow : Hid (∀ k, u4.ownBlock = some k → w1.heap.size ≤ k) := fun k hk => (RowG.lt HRow.out k hk).1
         have hji : (j : Int) < 7 := by omega
         have hj0 : (0 : Int) ≤ (j : Int) := by omega
         clear hc0 hcm hp hc he hx0
         by_cases hj1 : j = 1
         · subst hj1
           clear q0 q1 q2 q3 HXe HNr HBr HRowA hji hj0
           go_wp2
           go_roundw
           case rel => exact ⟨2, xs, by omega, rfl, HRow, HX, by omega, hb⟩
           case measure => simp [intOf]
         have hj1' : ¬ (j : Int) = 1 := by omega
         go_wp2_with (at_builtin; refine wpList_pushG DatE rfl _ _ rfl w1.heap.size (fun c => w.heap.size ≤ c ∧ c < w1.heap.size) u4 xs rfl (HRowA.out _) wr.heap.size _ [.int .i64 e.pos, .string e.name, .slice pa2 e.params.length pc2, .slice ca2 e.ctors.length cc2] (HNr.out _ _) rfl e (HXe.out _) (xs.length + 1) rfl (by omega) (Nat.le_trans hsz (HBr.out _).size) ?_; intro a3 c3 w3 hrow3 hg3; have HRow3 := Lib.hid hrow3; have hb3 := Below.grown (hb.trans ((HBr.out _).mono hsz)) hg3 (Nat.le_trans hsz (HBr.out _).size) HLow.out; clear hrow3 hg3)
         all_goals
           have hxs : ∀ z ∈ xs ++ [e], z ∈ allDats := fun z hz => by
             rcases List.mem_append.1 hz with h | h
             · exact HX.out z h
             · simp at h; subst h; exact HM.out
           first
             | exact ⟨⟨j + 1, xs ++ [e], hlt, by first | go_num | (simp <;> omega), HRow3, hxs, by simp; omega, hb3⟩, by simp [intOf] <;> omega⟩
             | exact ⟨⟨j + 1, xs, hlt, by first | go_num | (simp <;> omega), HRow, HX, by omega, hb⟩, by simp [intOf] <;> omega⟩
             | (go_roundw
                case rel => first
                  | exact ⟨j + 1, xs ++ [e], hlt, by first | go_num | (simp <;> omega), HRow3, hxs, by simp; omega, hb3⟩
                  | exact ⟨j + 1, xs, hlt, by first | go_num | (simp <;> omega), HRow, HX, by omega, hb⟩
                case measure => simp [intOf]; omega)
       · have hbw := HB.out.size
         have HS7 : Hid (SlG DatE wr (fun c => w.heap.size ≤ c) xs u4) := HRow.out.slG (fun _ h => h.1) (fun c h => Nat.le_trans hbw h)
         have HB7 : Hid (Below w.heap.size w wr) := HB.out.trans (hb.mono hbw)
         have hj7 : ¬ ((j : Int) < 7) := by omega
         go_wp2
         go_ret
         exact ⟨xs, _, rfl, ⟨by omega, HX.out⟩, HS7.out, HB7.out⟩
end Go.Proofs.Ytgfjcpeeoapjlaa.S3

/- The contract of the maker's Named. -/
namespace Go.Proofs.Ytgfjcpeeoapjlaa.S3
open Go.RowKit Go.Maps Mth

/-- A block that was laid with some elements. -/
theorem slG_block {α : Type} {E : El α} {w : World} {B : Nat} {L : List (List Value)} {xs : List α} {S : Nat → Prop} {Z : TypeId} (h : w.heap[B]? = some (.cells L.flatten.toArray Z (0, 0))) (hS : S B) (hr : ∀ (j : Nat) (x : α), xs[j]? = some x → ∃ c : List Value, L[j]? = some c ∧ E.rep w S x c) (hlen : ∀ c ∈ L, c.length = E.k) (hmax : xs.length ≤ maxLen) :
    SlG E w S xs (.slice (some ⟨B, 0, none⟩) xs.length xs.length) := by
  refine ⟨some ⟨B, 0, none⟩, xs.length, rfl, ⟨Nat.le_refl _, hmax⟩, fun j x hx => ?_⟩
  obtain ⟨c, hc, hrep⟩ := hr j x hx
  refine ⟨_, c, rfl, hS, fun m u hu => ?_, hrep⟩
  rw [add_zero, Nat.zero_add]
  exact (cell_of_block h (by simpa using flat_get E.k L hlen j m c u hc hu)).1
def namTy (c : UInt8) : Ty := .mk 5 ⟨#[c]⟩ 0 0 []
def namCells (c : UInt8) : List Value := [.int .i64 5, .string ⟨#[c]⟩, .int .i64 0, .int .i64 0, .slice none 0 0]
end Go.Proofs.Ytgfjcpeeoapjlaa.S3

/- A tape whose choices lie before it, and the contract of its Next. -/
namespace Go.Proofs.Ytgfjcpeeoapjlaa.S3
open Go.RowKit Go.Maps Mth

/-- A tape in a block of its own; its choices lie in an earlier block. -/
def Tq (w : World) (b : Nat) : Prop :=
  ∃ (zs : List Int) (a : Option Addr) (cap i : Nat), TapeAt w b (.slice a zs.length cap) i ∧ i ≤ zs.length ∧ zs.length ≤ 1000 ∧ ∀ (j : Nat) (x : Int), zs[j]? = some x → ∃ ad, a = some ad ∧ ad.block < b ∧ w.cell? (ad.add j) = some (.int .i64 x)
theorem Tq.lt {w : World} {b : Nat} (h : Tq w b) : b < w.heap.size := by
  obtain ⟨_, _, _, _, h, _⟩ := h
  exact h.lt
theorem Tq.lift {w w' : World} {b : Nat} (h : Tq w b) (hb : Below w.heap.size w w') : Tq w' b := by
  obtain ⟨zs, a, cap, i, h1, h2, h3, h4⟩ := h
  refine ⟨zs, a, cap, i, h1.lift hb, h2, h3, fun j x hx => ?_⟩
  obtain ⟨ad, e1, e2, e3⟩ := h4 j x hx
  exact ⟨ad, e1, e2, (hb.cell (World.block_lt_of_cell? _ _ e3)).trans e3⟩
theorem Tq.other {w w' : World} {b R : Nat} (h : Tq w b) (hR : b < R) (hg : w.grownBy w' (some R)) : Tq w' b := by
  obtain ⟨zs, a, cap, i, h1, h2, h3, h4⟩ := h
  have hl := h1.lt
  refine ⟨zs, a, cap, i, ?_, h2, h3, fun j x hx => ?_⟩
  · unfold TapeAt at *
    rw [hg.block b hl (by intro e; have := Option.some.inj e; omega), h1]
  · obtain ⟨ad, e1, e2, e3⟩ := h4 j x hx
    exact ⟨ad, e1, e2, hg.cell e3 (by rw [add_block]; intro e; have := Option.some.inj e; omega)⟩
set_option maxHeartbeats 1600000 in
theorem next_q (n : Int) (h1 : 1 ≤ n) (h2 : n ≤ 1000) (b : Nat) (w : World) (h : Tq w b) :
    Calls Try.prog 21 #[.pointer (some ⟨b, 0, none⟩), .int .i64 n] w fun e w' => ∃ r : Nat, e = .returned (.int .i64 r) ∧ (r : Int) < n ∧ Tq w' b ∧ w.grownBy w' (some b) := by
  obtain ⟨zs, a, cap, i, ht, hi, hl, hc⟩ := h
  obtain ⟨c0, c1, f1⟩ := ht.cells
  have HC := Lib.hid hc
  clear hc
  by_cases hlt : i < zs.length
  · have hge : decide ((zs.length : Int) ≤ (i : Int)) = false := by simpa using hlt
    obtain ⟨x, hx⟩ : ∃ x, zs[i]? = some x := ⟨_, List.getElem?_eq_getElem hlt⟩
    obtain ⟨ad, rfl, hne, hcx⟩ := HC.out i x hx
    clear hx
    have HT := Lib.hid ht
    have HM : Hid (∀ w, Calls Try.prog 7 #[.int .i64 x, .int .i64 n] w fun e w' => e = .returned (.int .i64 (x % n)) ∧ w' = w) := fun w => (mod_any x n w h1 (by omega)).mono fun _ _ ⟨a, b⟩ => ⟨a, b.symm⟩
    have e1 := Int.emod_nonneg x (b := n) (by omega)
    have e2 := Int.emod_lt_of_pos x (b := n) (by omega)
    generalize x % n = r at *
    clear ht
    obtain ⟨ln, hln⟩ : ∃ ln, ln = zs.length := ⟨_, rfl⟩
    rw [← hln] at hi hl hlt hge c0 HT
    have HL := Lib.hid hln
    clear hln
    go_enter Try.func21, Try.ntmps21
    go_wp2
    go_quiet (fail)
    go_wp2
    have hbd : Below w.heap.size w (w.drewN nq) := below_drewN (Below.refl _ w) nq
    have HT2 := Lib.hid (HT.out.lift hbd)
    have hset := set1 HT2.out 1 (.int .i64 ((i : Int) + 1))
    have HT3 : Hid (TapeAt ((w.drewN nq).setCell ⟨b, 1, none⟩ (.int .i64 ((i : Int) + 1))) b (.slice (some ad) ln cap) (i + 1)) := by
      show TapeAt _ _ _ _
      unfold TapeAt
      rw [hset.1]
      simp
    have HG : Hid (w.grownBy ((w.drewN nq).setCell ⟨b, 1, none⟩ (.int .i64 ((i : Int) + 1))) (some b)) := grown_trans (below_grown_some hbd b) hset.2.1
    have hcx3 : ((w.drewN nq).setCell ⟨b, 1, none⟩ (.int .i64 ((i : Int) + 1))).cell? (ad.add i) = some (.int .i64 x) := HG.out.cell hcx (by rw [add_block]; intro e; have := Option.some.inj e; omega)
    clear hset c0 c1 f1 hcx
    generalize ((w.drewN nq).setCell ⟨b, 1, none⟩ (.int .i64 ((i : Int) + 1))) = W at *
    obtain ⟨c0, c1, f1⟩ := HT3.out.cells
    have hwr : IntKind.i64.wrap (i : Int) = i := by rw [IntKind.wrap_i64]; omega
    go_quiet ((go_at_call 7; exact Calls.quiet_of_same (HM.out _)))
    go_wp2
    go_ret
    have hb2 : Below W.heap.size W (W.drewN nq) := below_drewN (Below.refl _ W) nq
    refine ⟨r.toNat, ret_int (by omega), by omega, ?_, grown_trans HG.out (below_grown_some hb2 b)⟩
    refine Tq.lift ⟨zs, some ad, cap, i + 1, by rw [← HL.out]; exact HT3.out, by rw [← HL.out]; omega, by rw [← HL.out]; omega, fun j y hy => ?_⟩ hb2
    obtain ⟨ad', e, h3, h4⟩ := HC.out j y hy
    exact ⟨ad', e, h3, HG.out.cell h4 (by rw [add_block]; intro e; have := Option.some.inj e; omega)⟩
  · have hge : decide ((zs.length : Int) ≤ (i : Int)) = true := by simpa using hlt
    go_enter Try.func21, Try.ntmps21
    go_wp2
    go_quiet (fail)
    go_wp2
    go_ret
    have hb : Below w.heap.size w (w.drewN nq) := below_drewN (Below.refl _ w) nq
    exact ⟨0, rfl, by omega, Tq.lift ⟨zs, a, cap, i, ht, hi, hl, HC.out⟩ hb, below_grown_some hb b⟩

/-- What a made type of a depth is. -/
def capN : Nat → Nat
  | 0 => 1
  | d + 1 => 2 * capN d + 1
def Ok (d : Nat) (T : Ty) : Prop := (valid T = true ∧ wr T = true) ∧ nodes T ≤ capN d
theorem capN_pos (d : Nat) : 1 ≤ capN d := by cases d <;> simp [capN]
theorem capN_mono (d : Nat) : capN d ≤ capN (d + 1) := by simp [capN]; omega
/-- The names that the maker's declarations have, with up to two parameters. -/
def datOk (d : Dat) : Bool := conOk d.name d.params.length && decide (d.params.length ≤ 2) && decide (d.name.size ≤ 6)
theorem all_dats : allDats.all datOk = true := by decide +kernel
theorem some_dat {ds : List Dat} (h : Some_ ds) {d : Dat} (hd : d ∈ ds) : (conOk d.name d.params.length = true ∧ d.name.size ≤ 6) ∧ d.params.length ≤ 2 ∧ d.name.size ≤ maxLen := by
  have := List.all_eq_true.1 all_dats d (h.2 d hd)
  unfold datOk at this
  simp only [Bool.and_eq_true, decide_eq_true_eq] at this
  exact ⟨⟨this.1.1, this.2⟩, this.1.2, by unfold maxLen; omega⟩
theorem valid_con {n : ByteArray} {ts : List Ty} (h : conOk n ts.length = true) (hv : ∀ T ∈ ts, valid T = true) : valid (con n ts) = true := by
  unfold con
  simp only [valid]
  have : validL ts = true := by rw [validL_any]; simpa using hv
  simp [h, this]
theorem arr_con (T U : Ty) (h : valid T = true) (h' : valid U = true) : valid (con arrN [T, U]) = true :=
  valid_con (show conOk arrN 2 = true by decide +kernel) fun X hX => by
    simp at hX
    rcases hX with rfl | rfl
    · exact h
    · exact h'
theorem int_con : valid (con intN []) = true := valid_con (by decide +kernel) fun X hX => by simp at hX
theorem nodesL_le {ts : List Ty} {m : Nat} (h : ∀ T ∈ ts, nodes T ≤ m) : nodesL ts ≤ ts.length * m := by
  induction ts with
  | nil => simp [nodesL]
  | cons t ts ih =>
    have h1 := h t (by simp)
    have h2 := ih fun T hT => h T (by simp [hT])
    simp only [nodesL, List.length_cons, Nat.add_mul]
    omega
theorem ok_con {n : ByteArray} {ts : List Ty} {d : Nat} (h : conOk n ts.length = true ∧ n.size ≤ 6) (hl : ts.length ≤ 2) (ht : ∀ T ∈ ts, Ok d T) : Ok (d + 1) (con n ts) := by
  refine ⟨⟨valid_con h.1 fun T hT => (ht T hT).1.1, wr_con h.2 fun T hT => (ht T hT).1.2⟩, ?_⟩
  have := nodesL_le (m := capN d) fun T hT => (ht T hT).2
  have h2 := Nat.mul_le_mul_right (capN d) hl
  unfold con
  simp only [nodes, capN]
  omega
theorem ok_int (d : Nat) : Ok d (con intN []) := ⟨⟨int_con, wr_con (by decide) fun T hT => by simp at hT⟩, by have := capN_pos d; simpa [con, nodes, nodesL] using this⟩
theorem ok_arr {T U : Ty} {d : Nat} (h : Ok d T) (h' : Ok d U) : Ok (d + 1) (con arrN [T, U]) :=
  ok_con ⟨show conOk arrN 2 = true by decide +kernel, by decide⟩ (by simp) fun X hX => by
    simp at hX
    rcases hX with rfl | rfl
    · exact h
    · exact h'
theorem ok_leaf {T : Ty} (d : Nat) (h : valid T = true ∧ wr T = true) (ht : T.ts = []) : Ok d T := by
  refine ⟨h, ?_⟩
  have := capN_pos d
  cases T
  simp only [Ty.ts] at ht
  subst ht
  simpa [nodes, nodesL] using this
theorem rep_bare {w : World} {S : Nat → Prop} {T : Ty} {v : Value} (h : Rep w S T v) (ht : T.ts = []) (w' : World) (S' : Nat → Prop) : Rep w' S' T v := by
  obtain ⟨k, n, i, hm, s, eT, rfl, hn, hs⟩ := h.open
  rw [ht] at eT hs
  obtain ⟨a, cap, rfl, hc, _⟩ := hs
  rw [eT]
  exact Rep.close hn ⟨a, cap, rfl, hc, fun j T h => by simp at h⟩
/-- Leaves. -/
def LeafL (ls : List Ty) : Prop := ls.length ≤ 1000 ∧ ∀ T ∈ ls, (valid T = true ∧ wr T = true) ∧ T.ts = []
/-- What the contract of the maker's Type says. -/
def MadeT (d base b : Nat) (w w' : World) (u : Value) : Prop := ∃ T, Rep w' (fun c => base ≤ c) T u ∧ Ok d T ∧ Tq w' b ∧ w.grownBy w' (some b)
def TyAt (d : Nat) : Prop := ∀ (z : Int) (ds : List Dat) (dv : Value) (ls : List Ty) (lv : Value) (S : Nat → Prop) (b base : Nat) (w : World), z = d → d ≤ 4 → Some_ ds → LeafL ls → SlG DatE w S ds dv → SlG TyE w S ls lv → (∀ c, S c → c ≠ b) → Tq w b → base ≤ w.heap.size →
  Calls Try.prog 23 #[.pointer (some ⟨b, 0, none⟩), dv, lv, .int .i64 z] w fun e w' => ∃ u, e = .returned u ∧ MadeT d base b w w' u
end Go.Proofs.Ytgfjcpeeoapjlaa.S3
