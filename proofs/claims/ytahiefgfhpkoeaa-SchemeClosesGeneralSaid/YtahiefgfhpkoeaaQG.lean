/- Schemes: what matching has found, in two rows that are written in place. Schemes: the reference's instance. Schemes: the reference's Instance. Schemes: the reference's General. -/
import Derived.Test.YtahiefgfhpkoeaaQF
import Derived.Deep.MidRow
namespace Go.Proofs.Ytahiefgfhpkoeaa
open Go.RowKit Go.Sort Go.Shelf Go.Maps Mth

theorem own_setCells {base : Nat} {e : TypeId} {size g n cap : Nat} : ∀ (c A o s : List Value) (w : World), c.length = o.length → w.ownsRow base e size (.slice (some ⟨g, 0, none⟩) n cap) n (A ++ o ++ s) →
    (w.setCells g A.length c).ownsRow base e size (.slice (some ⟨g, 0, none⟩) n cap) n (A ++ c ++ s) ∧ w.grownBy (w.setCells g A.length c) (some g) := by
  intro c
  induction c with
  | nil =>
    intro A o s w hl h
    have : o = [] := List.eq_nil_of_length_eq_zero hl.symm
    subst this
    exact ⟨h, rfl, rfl, rfl, Nat.le_refl _, fun _ _ _ => rfl⟩
  | cons v r ih =>
    intro A o s w hl h
    cases o with
    | nil => simp at hl
    | cons u o =>
      obtain ⟨h1, h2⟩ := h.stored A.length v
      have e : (A ++ u :: o ++ s).set A.length v = (A ++ [v]) ++ o ++ s := by simp
      rw [e] at h1
      obtain ⟨h3, h4⟩ := ih (A ++ [v]) o s _ (by simpa using hl) h1
      have e2 : (A ++ [v]).length = A.length + 1 := by simp
      rw [e2] at h3 h4
      refine ⟨by rw [World.setCells]; simpa using h3, ?_⟩
      rw [World.setCells]
      exact grown_trans h2 h4
/-- Some cells of an element of an owned row are written over. -/
theorem RowG.put {α : Type} {E : El α} {w : World} {base : Nat} {S : Nat → Prop} {xs : List α} {g n cap : Nat} (h : RowG E w base S (.slice (some ⟨g, 0, none⟩) n cap) xs) {j : Nat} {x : α} (hx : xs[j]? = some x) (y : α) (m : Nat) (vs : List Value)
    (hy : ∀ c, E.rep w (fun b => S b ∧ b ≠ g) x c → ∃ p o s, c = p ++ o ++ s ∧ p.length = m ∧ vs.length = o.length ∧ E.rep w (fun b => S b ∧ b ≠ g) y (p ++ vs ++ s)) :
    RowG E (w.setCells g (j * E.k + m) vs) base S (.slice (some ⟨g, 0, none⟩) n cap) (xs.set j y) ∧ w.grownBy (w.setCells g (j * E.k + m) vs) (some g) := by
  obtain ⟨a', c', e', -⟩ := h.slice
  cases e'
  obtain ⟨L, hown, hl, hr⟩ := h
  have h5 := rowG_len hl hr
  have hS : ∀ z c, E.rep w (fun b => S b ∧ some b ≠ Value.ownBlock (.slice (some ⟨g, 0, none⟩) xs.length cap)) z c → E.rep w (fun b => S b ∧ b ≠ g) z c := fun z c hc => E.kept (fun b hb => ⟨hb.1, fun e => hb.2 (by rw [e]; rfl)⟩) (fun _ _ _ => rfl) hc
  obtain ⟨c, hc, hrep⟩ := hr j x hx
  obtain ⟨p, o, s, rfl, hp, hvs, hnew⟩ := hy c (hS _ _ hrep)
  have hj : j < L.length := (List.getElem?_eq_some_iff.1 hc).1
  have hLj : L[j] = p ++ o ++ s := (List.getElem?_eq_some_iff.1 hc).2
  have hk : (p ++ o ++ s).length = E.k := (h5 _ (hLj ▸ List.getElem_mem hj)).1
  have htl : (L.take j).flatten.length = j * E.k := by
    rw [List.length_flatten, List.map_congr_left (g := fun _ => E.k) (fun c hc => (h5 c (List.mem_of_mem_take hc)).1), List.map_const', List.sum_replicate_nat, List.length_take, Nat.min_eq_left (Nat.le_of_lt hj)]
  have hsplit : L.flatten = ((L.take j).flatten ++ p) ++ o ++ (s ++ (L.drop (j + 1)).flatten) := by
    conv => lhs; rw [← List.take_append_drop j L, List.drop_eq_getElem_cons hj, hLj]
    simp
  have hset : (L.set j (p ++ vs ++ s)).flatten = ((L.take j).flatten ++ p) ++ vs ++ (s ++ (L.drop (j + 1)).flatten) := by
    rw [List.set_eq_take_append_cons_drop, if_pos hj]
    simp
  have hal : ((L.take j).flatten ++ p).length = j * E.k + m := by rw [List.length_append, htl, hp]
  rw [hsplit] at hown
  obtain ⟨h6, h7⟩ := own_setCells vs _ o _ w hvs hown
  rw [hal, ← hset] at h6
  rw [hal] at h7
  refine ⟨⟨L.set j (p ++ vs ++ s), by rw [List.length_set]; exact h6, by simp [hl], fun i z hz => ?_⟩, h7⟩
  have hkeep : ∀ z c, E.rep w (fun b => S b ∧ b ≠ g) z c → E.rep (w.setCells g (j * E.k + m) vs) (fun b => S b ∧ some b ≠ Value.ownBlock (.slice (some ⟨g, 0, none⟩) xs.length cap)) z c := fun z c hc => E.kept (fun b hb => ⟨hb.1, fun e => hb.2 (by cases e; rfl)⟩) (fun b hb hlt => h7.block b hlt (fun e => hb.2 (by cases e; rfl))) hc
  by_cases e : j = i
  · subst e
    rw [List.getElem?_set_self (by rw [← hl]; exact hj)] at hz
    cases hz
    exact ⟨_, List.getElem?_set_self hj, hkeep _ _ hnew⟩
  · rw [List.getElem?_set_ne e] at hz
    obtain ⟨c, hc, hrep⟩ := hr i z hz
    exact ⟨c, by rw [List.getElem?_set_ne e]; exact hc, hkeep _ _ (hS _ _ hrep)⟩
/-- Cells of an owned row are there and may be written. -/
theorem RowG.free {α : Type} {E : El α} {w : World} {base : Nat} {S : Nat → Prop} {xs : List α} {g n cap : Nat} (h : RowG E w base S (.slice (some ⟨g, 0, none⟩) n cap) xs) (j : Nat) : w.frozen? ⟨g, j, none⟩ = false := by
  obtain ⟨L, hown, hl, hr⟩ := h
  obtain ⟨a', c', e', -⟩ := RowG.slice ⟨L, hown, hl, hr⟩
  cases e'
  exact hown.frozenAt j
theorem rowG_getT {α : Type} {E : El α} {w : World} {base : Nat} {S : Nat → Prop} {xs : List α} {g n cap : Nat} (h : RowG E w base S (.slice (some ⟨g, 0, none⟩) n cap) xs) {j : Nat} {x : α} (hx : xs[j]? = some x) : ∃ c, E.rep w (fun b => S b ∧ b ≠ g) x c ∧ ∀ (m : Nat) (u : Value), c[m]? = some u → w.cell? ⟨g, j * E.k + m, none⟩ = some u := by
  obtain ⟨L, hown, hl, hr⟩ := h
  have h5 := rowG_len hl hr
  obtain ⟨c, hc', hrep⟩ := hr j x hx
  refine ⟨c, E.kept (fun b hb => ⟨hb.1, fun e => hb.2 (by rw [e]; rfl)⟩) (fun _ _ _ => rfl) hrep, fun m u hu => ?_⟩
  have := hown.cells (g := g) rfl _ _ (flat_get E.k L (fun c h => (h5 c h).1) j m c u hc' hu)
  rwa [Addr.add_mid, Nat.zero_add] at this
theorem elInfo_bool : (Try.prog.info? 4).map (fun i => (i.zero, i.size, i.bytes)) = some (some (.bool false), 1, 1) := by kernel_rfl
/-- All but two blocks stays as it was. -/
structure Gr2 (ga gk : Nat) (w w' : World) : Prop where
  os : w'.os = w.os
  tape : w'.tape = w.tape
  output : w'.output = w.output
  size : w.heap.size ≤ w'.heap.size
  block : ∀ k, k < w.heap.size → k ≠ ga → k ≠ gk → w'.heap[k]? = w.heap[k]?
theorem Gr2.refl (ga gk : Nat) (w : World) : Gr2 ga gk w w := ⟨rfl, rfl, rfl, Nat.le_refl _, fun _ _ _ _ => rfl⟩
theorem Gr2.trans {ga gk : Nat} {a b c : World} (h : Gr2 ga gk a b) (k : Gr2 ga gk b c) : Gr2 ga gk a c :=
  ⟨k.os.trans h.os, k.tape.trans h.tape, k.output.trans h.output, Nat.le_trans h.size k.size, fun i hi h1 h2 => (k.block i (Nat.lt_of_lt_of_le hi h.size) h1 h2).trans (h.block i hi h1 h2)⟩
theorem Gr2.of_below {ga gk : Nat} {w w' : World} (hb : Below w.heap.size w w') : Gr2 ga gk w w' := ⟨hb.os, hb.tape, hb.output, hb.size, fun k hk _ _ => hb.block k hk⟩
theorem Gr2.of_a {ga gk : Nat} {w w' : World} (h : w.grownBy w' (some ga)) : Gr2 ga gk w w' := ⟨h.os, h.tape, h.output, h.size, fun k hk h1 _ => h.block k hk (by intro e; exact h1 (Option.some.inj e))⟩
theorem Gr2.of_k {ga gk : Nat} {w w' : World} (h : w.grownBy w' (some gk)) : Gr2 ga gk w w' := ⟨h.os, h.tape, h.output, h.size, fun k hk _ h2 => h.block k hk (by intro e; exact h2 (Option.some.inj e))⟩
theorem Gr2.drew {ga gk : Nat} {w w' : World} (h : Gr2 ga gk w w') : Gr2 ga gk w w'.drew := h.trans (Gr2.of_below (Below.refl _ w').drew)
theorem Gr2.box {ga gk : Nat} {w w' : World} {B : Nat} {c0 c1 c2 c3 c4 : Value} (hb : Box w B c0 c1 c2 c3 c4) (h : Gr2 ga gk w w') (h1 : B ≠ ga) (h2 : B ≠ gk) : Box w' B c0 c1 c2 c3 c4 := hb.kept (h.block B hb.lt h1 h2)
/-- What has been found, and for which numbers. -/
structure InSt (base ga gk ca ck c : Nat) (A : List (Option Ty)) (w : World) : Prop where
  len : A.length = c
  ne : ga ≠ gk
  row : RowG TyE w base (fun b => b < base) (.slice (some ⟨ga, 0, none⟩) c ca) (A.map fun o => o.getD zT)
  known : w.ownsRow base 4 1 (.slice (some ⟨gk, 0, none⟩) c ck) c (A.map fun o => .bool o.isSome)
theorem InSt.lts {base ga gk ca ck c : Nat} {A : List (Option Ty)} {w : World} (h : InSt base ga gk ca ck c A w) : base ≤ ga ∧ ga < w.heap.size ∧ base ≤ gk ∧ gk < w.heap.size := by
  have h1 := h.row.lt ga rfl
  have h2 := World.ownsRow.lt h.known gk rfl
  exact ⟨h1.1, h1.2, h2.1, h2.2⟩
theorem InSt.lift {base ga gk ca ck c : Nat} {A : List (Option Ty)} {w w' : World} (h : InSt base ga gk ca ck c A w) (hb : Below w.heap.size w w') : InSt base ga gk ca ck c A w' :=
  ⟨h.len, h.ne, h.row.lift hb, World.ownsRow.kept h.known (below_gr hb none) (.inr (by simp [Value.ownBlock]))⟩
theorem InSt.cells {base ga gk ca ck c : Nat} {A : List (Option Ty)} {w : World} (h : InSt base ga gk ca ck c A w) {j : Nat} {o : Option Ty} (hj : A[j]? = some o) :
    ∃ k n i hm sa sn sc, (w.cell? ⟨ga, j * 5, none⟩ = some (.int .i64 k) ∧ w.cell? ⟨ga, j * 5 + 1, none⟩ = some (.string n) ∧ w.cell? ⟨ga, j * 5 + 2, none⟩ = some (.int .i64 i) ∧ w.cell? ⟨ga, j * 5 + 3, none⟩ = some (.int .i64 hm) ∧ w.cell? ⟨ga, j * 5 + 4, none⟩ = some (.slice sa sn sc)) ∧
      Rep w (fun b => b < base) (o.getD zT) (.agg #[.int .i64 k, .string n, .int .i64 i, .int .i64 hm, .slice sa sn sc]) ∧ (∀ q, w.frozen? ⟨ga, q, none⟩ = false) ∧ w.cell? ⟨gk, j, none⟩ = some (.bool o.isSome) ∧ (∀ q, w.frozen? ⟨gk, q, none⟩ = false) := by
  obtain ⟨cc, hr, hc⟩ := rowG_getT h.row (j := j) (x := o.getD zT) (by rw [List.getElem?_map, hj]; rfl)
  obtain ⟨k, n, i, hm, sa, sn, sc, e⟩ := Rep.form hr
  have e' : cc = [.int .i64 k, .string n, .int .i64 i, .int .i64 hm, .slice sa sn sc] := by simpa using e
  subst e'
  have hjl : j < c := by rw [← h.len]; exact (List.getElem?_eq_some_iff.1 hj).1
  refine ⟨k, n, i, hm, sa, sn, sc, ⟨hc 0 _ rfl, hc 1 _ rfl, hc 2 _ rfl, hc 3 _ rfl, hc 4 _ rfl⟩, Rep.imp (fun b hb => hb.1) hr, fun q => h.row.free q, ?_, fun q => World.ownsRow.frozenAt h.known q⟩
  rw [World.ownsRow.cellAt h.known j (by omega), List.getElem?_map, hj]; rfl
theorem InSt.put {base ga gk ca ck c : Nat} {A : List (Option Ty)} {w : World} (h : InSt base ga gk ca ck c A w) {j : Nat} (hj : j < c) {T : Ty} {k : Int} {n : ByteArray} {i hm : Int} {s : Value} (hT : Rep w (fun b => b < base) T (.agg #[.int .i64 k, .string n, .int .i64 i, .int .i64 hm, s])) :
    InSt base ga gk ca ck c (A.set j (some T)) ((((((w.setCell ⟨ga, j * 5, none⟩ (.int .i64 k)).setCell ⟨ga, j * 5 + 1, none⟩ (.string n)).setCell ⟨ga, j * 5 + 2, none⟩ (.int .i64 i)).setCell ⟨ga, j * 5 + 3, none⟩ (.int .i64 hm)).setCell ⟨ga, j * 5 + 4, none⟩ s).setCell ⟨gk, j, none⟩ (.bool true)) ∧
    Gr2 ga gk w ((((((w.setCell ⟨ga, j * 5, none⟩ (.int .i64 k)).setCell ⟨ga, j * 5 + 1, none⟩ (.string n)).setCell ⟨ga, j * 5 + 2, none⟩ (.int .i64 i)).setCell ⟨ga, j * 5 + 3, none⟩ (.int .i64 hm)).setCell ⟨ga, j * 5 + 4, none⟩ s).setCell ⟨gk, j, none⟩ (.bool true)) := by
  obtain ⟨l1, l2, l3, l4⟩ := h.lts
  have hjA : j < A.length := by rw [h.len]; exact hj
  have hput := h.row.put (j := j) (x := A[j].getD zT) (by rw [List.getElem?_map, List.getElem?_eq_getElem hjA]; rfl) T 0 [.int .i64 k, .string n, .int .i64 i, .int .i64 hm, s] (fun cc hc => ⟨[], cc, [], by simp, rfl, by rw [(TyE.len hc).1]; rfl, hT.imp fun b hb => ⟨hb, by omega⟩⟩)
  have hch : w.setCells ga (j * TyE.k + 0) [.int .i64 k, .string n, .int .i64 i, .int .i64 hm, s] = ((((w.setCell ⟨ga, j * 5, none⟩ (.int .i64 k)).setCell ⟨ga, j * 5 + 1, none⟩ (.string n)).setCell ⟨ga, j * 5 + 2, none⟩ (.int .i64 i)).setCell ⟨ga, j * 5 + 3, none⟩ (.int .i64 hm)).setCell ⟨ga, j * 5 + 4, none⟩ s := by
    rw [show TyE.k = 5 from rfl]
    simp only [World.setCells, Nat.add_zero, Nat.add_assoc, Nat.reduceAdd]
  rw [hch] at hput
  generalize ((((w.setCell ⟨ga, j * 5, none⟩ (.int .i64 k)).setCell ⟨ga, j * 5 + 1, none⟩ (.string n)).setCell ⟨ga, j * 5 + 2, none⟩ (.int .i64 i)).setCell ⟨ga, j * 5 + 3, none⟩ (.int .i64 hm)).setCell ⟨ga, j * 5 + 4, none⟩ s = x at *
  obtain ⟨p1, p2⟩ := hput
  have hk1 := World.ownsRow.kept h.known p2 (.inr (by simp only [Value.ownBlock, ne_eq, Option.some.injEq]; exact fun e => h.ne e.symm))
  obtain ⟨q1, q2⟩ := World.ownsRow.stored hk1 j (.bool true)
  refine ⟨⟨by rw [List.length_set]; exact h.len, h.ne, ?_, ?_⟩, (Gr2.of_a p2).trans (Gr2.of_k q2)⟩
  · rw [List.map_set]
    exact p1.kept q2 (.inr (by simp only [Value.ownBlock, ne_eq, Option.some.injEq]; exact h.ne)) (fun b hb e => by have := Option.some.inj e; omega)
  · rw [List.map_set]
    exact q1
end Go.Proofs.Ytahiefgfhpkoeaa

namespace Go.Proofs.Ytahiefgfhpkoeaa
open Go.RowKit Go.Sort Go.Shelf Go.Maps Mth

theorem instL_step {ps ts : List Ty} {j : Nat} {p t : Ty} (hp : ps[j]? = some p) (ht : ts[j]? = some t) (A : List (Option Ty)) : instL (ps.drop j) (ts.drop j) A = (match instT p t A with | some A1 => instL (ps.drop (j + 1)) (ts.drop (j + 1)) A1 | none => none) := by
  obtain ⟨hl, e⟩ := List.getElem?_eq_some_iff.1 hp
  obtain ⟨hl2, e2⟩ := List.getElem?_eq_some_iff.1 ht
  rw [List.drop_eq_getElem_cons hl, e, List.drop_eq_getElem_cons hl2, e2]
  rfl
/-- What a TypeBound that has been met meets. -/
def hitT (T : Ty) (A : List (Option Ty)) (j : Nat) : Option Ty → Option (List (Option Ty))
  | some u => if teq u T then some A else none
  | none => some (A.set j (some T))
def InsC (P : Program) (f : Nat) (Pt : Ty) : Prop := ∀ (T : Ty) (A : List (Option Ty)) (u1 u2 : Value) (base ga gk ca ck c : Nat) (w : World), bndIn c Pt = true → c ≤ 1000000 → InSt base ga gk ca ck c A w → Rep w (fun b => b < base) Pt u1 → Rep w (fun b => b < base) T u2 →
  Calls P f #[u1, u2, .slice (some ⟨ga, 0, none⟩) c ca, .slice (some ⟨gk, 0, none⟩) c ck] w fun e w' => e = .returned (.bool (instT Pt T A).isSome) ∧ (∀ A1, instT Pt T A = some A1 → InSt base ga gk ca ck c A1 w') ∧ Gr2 ga gk w w'
set_option maxRecDepth 100000 in
set_option maxHeartbeats 6400000 in
theorem instance_of (P0 : Ty) (H : ∀ U ∈ P0.ts, InsC Try.prog 56 U) : InsC Try.prog 56 P0 := by
  intro T A u1 u2 base ga gk ca ck c w hbi hcl hst hp ht
  have HSt := Lib.hid hst
  obtain ⟨l1, l2, l3, l4⟩ := hst.lts
  have HP := Lib.hid hp
  have HT := Lib.hid ht
  have HH := Lib.hid H
  obtain ⟨k, n, i, hm, ps, eP, rfl, hn, hpl⟩ := hp.open
  obtain ⟨k', n', i', hm', ts, eT, rfl, hn', htl⟩ := ht.open
  obtain ⟨pa, pc, rfl, ⟨hpc, hpc2⟩, hpj⟩ := hpl
  obtain ⟨ta, tc, rfl, ⟨htc, htc2⟩, htj⟩ := htl
  have HPJ := Lib.hid hpj
  have HTJ := Lib.hid htj
  unfold maxLen at hpc2 htc2
  have HM : Hid (instT P0 T A = if k == 2 && decide (i < (A.length : Int)) then (match A[i.toNat]? with | some (some u) => if teq u T then some A else none | _ => some (A.set i.toNat (some T))) else if k == k' && n.toList == n'.toList && i == i' && hm == hm' && P0.ts.length == T.ts.length then instL P0.ts T.ts A else none) := by
    show _ = _
    conv => lhs; rw [eP, instT]
    conv => rhs; rw [eT]
    conv => lhs; rw [eT]
    rfl
  have HBi : Hid ((k != 2 || (decide (0 ≤ i) && decide (i < (c : Int)))) = true ∧ bndInL c P0.ts = true) := by
    show _ ∧ _
    rw [eP, bndIn, Bool.and_eq_true] at hbi
    exact hbi
  obtain ⟨W, hW⟩ : ∃ W, W = ((w.alloc (.cells #[.int .i64 k, .string n, .int .i64 i, .int .i64 hm, .slice pa P0.ts.length pc] 25)).alloc (.cells #[.int .i64 k', .string n', .int .i64 i', .int .i64 hm', .slice ta T.ts.length tc] 25)) := ⟨_, rfl⟩
  have HB1 : Hid (Box W w.heap.size (.int .i64 k) (.string n) (.int .i64 i) (.int .i64 hm) (.slice pa P0.ts.length pc)) := by
    show Box _ _ _ _ _ _ _
    subst hW
    unfold Box; rw [heap_at, if_neg (by simp), heap_at, if_pos rfl]
  have HB2 : Hid (Box W (w.heap.size + 1) (.int .i64 k') (.string n') (.int .i64 i') (.int .i64 hm') (.slice ta T.ts.length tc)) := by
    show Box _ _ _ _ _ _ _
    subst hW
    unfold Box; rw [heap_at, if_pos (by simp)]
  have hlW : Below w.heap.size w W := by subst hW; exact ((Below.refl _ w).alloc (Nat.le_refl _) _).alloc (by simp) _
  have HLW := Lib.hid hlW
  have HStW := Lib.hid (hst.lift hlW)
  have HLen : Hid (A.length = c) := hst.len
  obtain ⟨m, hm0⟩ : ∃ l, l = P0.ts.length := ⟨_, rfl⟩
  rw [← hm0] at HB1 hpc hW HM HP ⊢
  have HM0 := Lib.hid hm0
  obtain ⟨m', hm0'⟩ : ∃ l, l = T.ts.length := ⟨_, rfl⟩
  rw [← hm0'] at HB2 htc hW HM HT ⊢
  have HM1 := Lib.hid hm0'
  clear hm0 hm0' hpj htj hp ht eP eT hn hn' H hst hbi
  cases hk : (k == 2) with
  | true =>
    obtain rfl : k = 2 := by simpa using hk
    obtain ⟨jb, rfl, hjc⟩ : ∃ jb : Nat, i = (jb : Int) ∧ jb < c := by
      have h := HBi.out.1
      simp only [bne_self_eq_false, Bool.false_or, Bool.and_eq_true, decide_eq_true_eq] at h
      exact ⟨i.toNat, by omega, by omega⟩
    have hjci : (jb : Int) < (c : Int) := by omega
    obtain ⟨o, ho⟩ : ∃ o, A[jb]? = some o := ⟨_, List.getElem?_eq_getElem (by rw [HLen.out]; exact hjc)⟩
    have HM2 : Hid (instT P0 T A = hitT T A jb o) := by
      show _ = _
      rw [HM.out, if_pos (by rw [HLen.out]; simp [hjc]), show ((jb : Int)).toNat = jb from by simp, ho]
      cases o <;> rfl
    obtain ⟨xk, xn, xi, xh, xa, xm, xc, ⟨s0, s1, s2, s3, s4⟩, hrx, hfa, hkn, hfk⟩ := HStW.out.cells ho
    obtain ⟨b0, b1, b2, b3, b4⟩ := HB1.out.cells
    obtain ⟨d0, d1, d2, d3, d4⟩ := HB2.out.cells
    clear HM HBi HPJ HTJ HH ho hk
    cases o with
    | some u =>
      have HEq : Hid (∀ W', Below W.heap.size W W' → Calls Try.prog 39 #[.agg #[.int .i64 xk, .string xn, .int .i64 xi, .int .i64 xh, .slice xa xm xc], .agg #[.int .i64 k', .string n', .int .i64 i', .int .i64 hm', .slice ta m' tc]] W' fun e W'' => e = .returned (.bool (teq u T)) ∧ Below W'.heap.size W' W'') := fun W' hb => refEqual_any _ u (Nat.le_refl _) T _ _ _ _ W' (hrx.lift hb) (HT.out.lift (hlW.trans (hb.mono hlW.size)))
      have hHS : ∀ W', Below W.heap.size W W' → W'.cell? ⟨w.heap.size, 2, none⟩ = some (.int .i64 (jb : Int)) ∧ W'.cell? ⟨w.heap.size + 1, 0, none⟩ = some (.int .i64 k') ∧ W'.cell? ⟨w.heap.size + 1, 1, none⟩ = some (.string n') ∧ W'.cell? ⟨w.heap.size + 1, 2, none⟩ = some (.int .i64 i') ∧ W'.cell? ⟨w.heap.size + 1, 3, none⟩ = some (.int .i64 hm') ∧ W'.cell? ⟨w.heap.size + 1, 4, none⟩ = some (.slice ta m' tc) ∧ W'.cell? ⟨ga, jb * 5, none⟩ = some (.int .i64 xk) ∧ W'.cell? ⟨ga, jb * 5 + 1, none⟩ = some (.string xn) ∧ W'.cell? ⟨ga, jb * 5 + 2, none⟩ = some (.int .i64 xi) ∧ W'.cell? ⟨ga, jb * 5 + 3, none⟩ = some (.int .i64 xh) ∧ W'.cell? ⟨ga, jb * 5 + 4, none⟩ = some (.slice xa xm xc) := fun W' hb => by
        have k : ∀ p v, W.cell? p = some v → W'.cell? p = some v := fun p v h => (hb.cell (World.block_lt_of_cell? _ _ h)).trans h
        exact ⟨k _ _ b2, k _ _ d0, k _ _ d1, k _ _ d2, k _ _ d3, k _ _ d4, k _ _ s0, k _ _ s1, k _ _ s2, k _ _ s3, k _ _ s4⟩
      have HS := Lib.hid hHS
      have HD0 : Hid (Below W.heap.size W W.drew) := (Below.refl _ W).drew
      clear hrx hHS
      go_enter Try.func56, Try.ntmps56
      go_upto_region 1 with fail
      rw [← hW]
      clear hW
      have hkn' : W.cell? ⟨gk, jb, none⟩ = some (.bool true) := hkn
      go_upto_region 3 with fail
      cases hq : teq u T
      all_goals
        have HM3 : Hid (instT P0 T A = if teq u T then some A else none) := HM2
        rw [hq] at HEq HM3
        go_wp2_with fail
        go_region_held3 (fun W' => W'.cell? ⟨w.heap.size, 2, none⟩ = some (.int .i64 (jb : Int)) ∧ W'.cell? ⟨w.heap.size + 1, 0, none⟩ = some (.int .i64 k') ∧ W'.cell? ⟨w.heap.size + 1, 1, none⟩ = some (.string n') ∧ W'.cell? ⟨w.heap.size + 1, 2, none⟩ = some (.int .i64 i') ∧ W'.cell? ⟨w.heap.size + 1, 3, none⟩ = some (.int .i64 hm') ∧ W'.cell? ⟨w.heap.size + 1, 4, none⟩ = some (.slice ta m' tc) ∧ W'.cell? ⟨ga, jb * 5, none⟩ = some (.int .i64 xk) ∧ W'.cell? ⟨ga, jb * 5 + 1, none⟩ = some (.string xn) ∧ W'.cell? ⟨ga, jb * 5 + 2, none⟩ = some (.int .i64 xi) ∧ W'.cell? ⟨ga, jb * 5 + 3, none⟩ = some (.int .i64 xh) ∧ W'.cell? ⟨ga, jb * 5 + 4, none⟩ = some (.slice xa xm xc))
          (first
            | with_reducible exact HS.out _ HD3.out
            | with_reducible exact HS.out _ HD0.out)
          (first
            | (go_at_call 39; (with_reducible refine (HEq.out _ HD0.out).mono ?_); rintro e w3 ⟨rfl, hb3⟩; have HD3 := Lib.hid (HD0.out.trans (hb3.mono HD0.out.size)); clear hb3))
        all_goals
          clear b0 b1 b2 b3 b4 d0 d1 d2 d3 d4 s0 s1 s2 s3 s4
          go_split_ands
          go_wp2
          go_ret
          refine ⟨by rw [HM3.out]; rfl, fun A1 h => ?_, Gr2.of_below (HLW.out.trans (HD3.out.mono HLW.out.size))⟩
          first
            | (rw [HM3.out] at h; cases h; done)
            | (rw [HM3.out] at h; cases h; exact HStW.out.lift HD3.out)
    | none =>
      have HPut := Lib.hid (HStW.out.put hjc (HT.out.lift hlW))
      have hne := HStW.out.ne
      have hne' := hne.symm
      have hfk' := hfk jb
      go_enter Try.func56, Try.ntmps56
      go_upto_region 1 with fail
      rw [← hW]
      clear hW
      have hkn' : W.cell? ⟨gk, jb, none⟩ = some (.bool false) := hkn
      go_upto_region 4 with fail
      go_region
      all_goals
        have HI := Lib.hid (HPut.out.1.lift (Below.refl _ _).drew)
        have HG : Hid (Gr2 ga gk w _) := ((Gr2.of_below HLW.out).trans HPut.out.2).drew
        clear HPut b0 b1 b2 b3 b4 d0 d1 d2 d3 d4 s0 s1 s2 s3 s4 hfa hfk hfk' hkn hkn'
        generalize ((((((W.setCell ⟨ga, jb * 5, none⟩ (.int .i64 k')).setCell ⟨ga, jb * 5 + 1, none⟩ (.string n')).setCell ⟨ga, jb * 5 + 2, none⟩ (.int .i64 i')).setCell ⟨ga, jb * 5 + 3, none⟩ (.int .i64 hm')).setCell ⟨ga, jb * 5 + 4, none⟩ (.slice ta m' tc)).setCell ⟨gk, jb, none⟩ (.bool true)) = x at *
        go_wp2
        go_ret
        exact ⟨by rw [HM2.out]; rfl, fun A1 h => by rw [HM2.out] at h; cases h; exact HI.out, HG.out⟩
  | false =>
    have HM2 : Hid (instT P0 T A = if k == k' && n.toList == n'.toList && i == i' && hm == hm' && m == m' then instL P0.ts T.ts A else none) := by
      show _ = _
      rw [HM.out, hk]; rfl
    have HGW : Hid (Gr2 ga gk w W) := Gr2.of_below hlW
    obtain ⟨b0, b1, b2, b3, b4⟩ := HB1.out.cells
    obtain ⟨d0, d1, d2, d3, d4⟩ := HB2.out.cells
    go_enter Try.func56, Try.ntmps56
    go_upto_region 1 with fail
    rw [← hW]
    clear hW
    cases hsame : (k == k' && n.toList == n'.toList && i == i' && hm == hm' && m == m') with
    | false =>
      have HNo : Hid (instT P0 T A = none) := by show _ = _; rw [HM2.out, hsame]; rfl
      cases e1 : (k == k') with
      | false =>
        go_wp2
        all_goals
          go_ret
          exact ⟨by rw [HNo.out]; rfl, fun A1 h => by rw [HNo.out] at h; (cases h), HGW.out⟩
      | true =>
        cases e2 : (n.toList == n'.toList) with
        | false =>
          go_wp2
          all_goals
            go_ret
            exact ⟨by rw [HNo.out]; rfl, fun A1 h => by rw [HNo.out] at h; (cases h), HGW.out⟩
        | true =>
          cases e3 : (i == i') with
          | false =>
            go_wp2
            all_goals
              go_ret
              exact ⟨by rw [HNo.out]; rfl, fun A1 h => by rw [HNo.out] at h; (cases h), HGW.out⟩
          | true =>
            cases e4 : (hm == hm') with
            | false =>
              go_wp2
              all_goals
                go_ret
                exact ⟨by rw [HNo.out]; rfl, fun A1 h => by rw [HNo.out] at h; (cases h), HGW.out⟩
            | true =>
              cases e5 : (m == m') with
              | false =>
                go_wp2
                all_goals
                  go_ret
                  exact ⟨by rw [HNo.out]; rfl, fun A1 h => by rw [HNo.out] at h; (cases h), HGW.out⟩
              | true =>
                rw [e1, e2, e3, e4, e5] at hsame
                cases hsame
    | true =>
      simp only [Bool.and_eq_true] at hsame
      obtain ⟨⟨⟨⟨e1, e2⟩, e3⟩, e4⟩, e5⟩ := hsame
      have HM3 : Hid (instT P0 T A = instL P0.ts T.ts A) := by show _ = _; rw [HM2.out, e1, e2, e3, e4, e5]; rfl
      obtain rfl : m = m' := by simpa using e5
      obtain rfl : k = k' := by simpa using e1
      obtain rfl : i = i' := by simpa using e3
      obtain rfl : hm = hm' := by simpa using e4
      have H0 : Hid (∃ Aj, InSt base ga gk ca ck c Aj W ∧ instL P0.ts T.ts A = instL (P0.ts.drop 0) (T.ts.drop 0) Aj) := ⟨A, HStW.out, by rw [List.drop_zero, List.drop_zero]⟩
      have hwa : w.heap.size ≠ ga := by omega
      have hwk : w.heap.size ≠ gk := by omega
      have hwa1 : w.heap.size + 1 ≠ ga := by omega
      have hwk1 : w.heap.size + 1 ≠ gk := by omega
      have HNe := Lib.hid (And.intro hwa (And.intro hwk (And.intro hwa1 hwk1)))
      have HLs := Lib.hid (And.intro l1 l3)
      clear hlW HM HM2 hwa hwk hwa1 hwk1
      go_wp2
      go_loopw [9] (fun x wr => ∃ j : Nat, j ≤ m ∧ x = .int .i64 j ∧ Hid (∃ Aj, InSt base ga gk ca ck c Aj wr ∧ instL P0.ts T.ts A = instL (P0.ts.drop j) (T.ts.drop j) Aj) ∧ Hid (Gr2 ga gk W wr)) (fun x _ => m - (intOf x).toNat)
      case atStart => exact ⟨0, Nat.zero_le _, rfl, H0, Gr2.refl _ _ _⟩
      case round =>
        clear H0
        obtain ⟨j, hj, rfl, HIn, HGr⟩ := hrel
        have hK : ∀ b, b < base → b < w.heap.size → wr.heap[b]? = w.heap[b]? := fun b h1 h2 => (HGr.out.block b (Nat.lt_of_lt_of_le h2 HLW.out.size) (by have := HLs.out.1; omega) (by have := HLs.out.2; omega)).trans (HLW.out.block b h2)
        have HBr1 := Gr2.box HB1.out HGr.out HNe.out.1 HNe.out.2.1
        have HBr2 := Gr2.box HB2.out HGr.out HNe.out.2.2.1 HNe.out.2.2.2
        obtain ⟨-, -, -, -, b4⟩ := HBr1.cells
        obtain ⟨-, -, -, -, d4⟩ := HBr2.cells
        clear HBr1 HBr2
        by_cases hlt : j < m
        · obtain ⟨Aj, hsj, hij⟩ := HIn.out
          obtain ⟨p, hp⟩ : ∃ x, P0.ts[j]? = some x := ⟨_, List.getElem?_eq_getElem (by rw [← HM0.out]; exact hlt)⟩
          obtain ⟨t, ht⟩ : ∃ x, T.ts[j]? = some x := ⟨_, List.getElem?_eq_getElem (by rw [← HM1.out]; exact hlt)⟩
          obtain ⟨pad, x, rfl, hS1, h5, hx⟩ := HPJ.out j p hp
          obtain ⟨tad, y, rfl, hS2, h5', hy⟩ := HTJ.out j t ht
          have hx' := hx.kept (fun _ h => h) hK
          have hy' := hy.kept (fun _ h => h) hK
          obtain ⟨xk, xn, xi, xh, xa, xm, xc, rfl⟩ := hx.form
          obtain ⟨yk, yn, yi, yh, ya, ym, yc, rfl⟩ := hy.form
          obtain ⟨p0, p1, p2, p3, p4⟩ := five_at (h5.kept (hK _ hS1 h5.lt))
          obtain ⟨t0, t1, t2, t3, t4⟩ := five_at (h5'.kept (hK _ hS2 h5'.lt))
          have HSp := Lib.hid (instL_step hp ht Aj)
          have HC := Lib.hid (HH.out p (List.mem_of_getElem? hp) t Aj _ _ base ga gk ca ck c wr.drew (bndInL_mem HBi.out.2 (List.mem_of_getElem? hp)) hcl (hsj.lift (Below.refl _ wr).drew) (hx'.lift (Below.refl _ wr).drew) (hy'.lift (Below.refl _ wr).drew))
          have hji : (j : Int) < (m : Int) := by omega
          have hS1' : pad.block < base := hS1
          have hS2' : tad.block < base := hS2
          have HS : Hid (∀ W', Gr2 ga gk wr W' → W'.cell? ⟨w.heap.size, 4, none⟩ = some (.slice (some pad) m pc) ∧ W'.cell? ⟨w.heap.size + 1, 4, none⟩ = some (.slice (some tad) m tc) ∧ W'.cell? (pad.add (j * 5)) = some (.int .i64 xk) ∧ W'.cell? ⟨(pad.add (j * 5)).block, (pad.add (j * 5)).off + 1, none⟩ = some (.string xn) ∧ W'.cell? ⟨(pad.add (j * 5)).block, (pad.add (j * 5)).off + 2, none⟩ = some (.int .i64 xi) ∧ W'.cell? ⟨(pad.add (j * 5)).block, (pad.add (j * 5)).off + 3, none⟩ = some (.int .i64 xh) ∧ W'.cell? ⟨(pad.add (j * 5)).block, (pad.add (j * 5)).off + 4, none⟩ = some (.slice xa xm xc) ∧ W'.cell? (tad.add (j * 5)) = some (.int .i64 yk) ∧ W'.cell? ⟨(tad.add (j * 5)).block, (tad.add (j * 5)).off + 1, none⟩ = some (.string yn) ∧ W'.cell? ⟨(tad.add (j * 5)).block, (tad.add (j * 5)).off + 2, none⟩ = some (.int .i64 yi) ∧ W'.cell? ⟨(tad.add (j * 5)).block, (tad.add (j * 5)).off + 3, none⟩ = some (.int .i64 yh) ∧ W'.cell? ⟨(tad.add (j * 5)).block, (tad.add (j * 5)).off + 4, none⟩ = some (.slice ya ym yc)) := fun W' hb => by
            have k : ∀ p v, p.block ≠ ga → p.block ≠ gk → wr.cell? p = some v → W'.cell? p = some v := fun p v n1 n2 h => (World.cell?_of_block (hb.block _ (World.block_lt_of_cell? _ _ h) n1 n2)).trans h
            have a1 : pad.block ≠ ga := by have := HLs.out.1; omega
            have a2 : pad.block ≠ gk := by have := HLs.out.2; omega
            have a3 : tad.block ≠ ga := by have := HLs.out.1; omega
            have a4 : tad.block ≠ gk := by have := HLs.out.2; omega
            have e1 : (pad.add (j * 5)).block = pad.block := add_block _ _
            have e2 : (tad.add (j * 5)).block = tad.block := add_block _ _
            have c1 : (pad.add (j * 5)).block ≠ ga := by rw [e1]; exact a1
            have c2 : (pad.add (j * 5)).block ≠ gk := by rw [e1]; exact a2
            have c3 : (tad.add (j * 5)).block ≠ ga := by rw [e2]; exact a3
            have c4 : (tad.add (j * 5)).block ≠ gk := by rw [e2]; exact a4
            exact ⟨k _ _ HNe.out.1 HNe.out.2.1 b4, k _ _ HNe.out.2.2.1 HNe.out.2.2.2 d4, k _ _ c1 c2 p0, k _ _ c1 c2 p1, k _ _ c1 c2 p2, k _ _ c1 c2 p3, k _ _ c1 c2 p4, k _ _ c3 c4 t0, k _ _ c3 c4 t1, k _ _ c3 c4 t2, k _ _ c3 c4 t3, k _ _ c3 c4 t4⟩
          have HD0 : Hid (Gr2 ga gk wr wr.drew) := (Gr2.refl ga gk wr).drew
          clear hx hy hx' hy' h5 h5' hp ht hsj hS1 hS2 hS1' hS2' HIn hK
          cases hq : instT p t Aj with
          | none =>
            rw [hq] at HC HSp
            have HNo : Hid (instT P0 T A = none) := by show _ = _; rw [HM3.out, hij, HSp.out]
            clear hq hij
            go_wp2_with fail
            go_region_held3 (fun W' => W'.cell? ⟨w.heap.size, 4, none⟩ = some (.slice (some pad) m pc) ∧ W'.cell? ⟨w.heap.size + 1, 4, none⟩ = some (.slice (some tad) m tc) ∧ W'.cell? (pad.add (j * 5)) = some (.int .i64 xk) ∧ W'.cell? ⟨(pad.add (j * 5)).block, (pad.add (j * 5)).off + 1, none⟩ = some (.string xn) ∧ W'.cell? ⟨(pad.add (j * 5)).block, (pad.add (j * 5)).off + 2, none⟩ = some (.int .i64 xi) ∧ W'.cell? ⟨(pad.add (j * 5)).block, (pad.add (j * 5)).off + 3, none⟩ = some (.int .i64 xh) ∧ W'.cell? ⟨(pad.add (j * 5)).block, (pad.add (j * 5)).off + 4, none⟩ = some (.slice xa xm xc) ∧ W'.cell? (tad.add (j * 5)) = some (.int .i64 yk) ∧ W'.cell? ⟨(tad.add (j * 5)).block, (tad.add (j * 5)).off + 1, none⟩ = some (.string yn) ∧ W'.cell? ⟨(tad.add (j * 5)).block, (tad.add (j * 5)).off + 2, none⟩ = some (.int .i64 yi) ∧ W'.cell? ⟨(tad.add (j * 5)).block, (tad.add (j * 5)).off + 3, none⟩ = some (.int .i64 yh) ∧ W'.cell? ⟨(tad.add (j * 5)).block, (tad.add (j * 5)).off + 4, none⟩ = some (.slice ya ym yc))
              (first
                | with_reducible exact HS.out _ HD3.out
                | with_reducible exact HS.out _ HD0.out)
              (first
                | (go_at_call 56; (with_reducible refine HC.out.mono ?_); rintro e w3 ⟨rfl, hin, hg3⟩; have HD3 := Lib.hid (HD0.out.trans hg3); clear hin hg3))
            all_goals
              clear p0 p1 p2 p3 p4 t0 t1 t2 t3 t4 b0 b1 b2 b3 b4 d0 d1 d2 d3 d4
              go_split_ands
              go_wp2
              go_ret
              exact ⟨by rw [HNo.out]; rfl, fun A1 h => by rw [HNo.out] at h; (cases h), HGW.out.trans (HGr.out.trans HD3.out)⟩
          | some A1 =>
            rw [hq] at HC HSp
            have HSp2 : Hid (instL P0.ts T.ts A = instL (P0.ts.drop (j + 1)) (T.ts.drop (j + 1)) A1) := by show _ = _; rw [hij, HSp.out]
            clear hq hij
            go_wp2_with fail
            go_region_held3 (fun W' => W'.cell? ⟨w.heap.size, 4, none⟩ = some (.slice (some pad) m pc) ∧ W'.cell? ⟨w.heap.size + 1, 4, none⟩ = some (.slice (some tad) m tc) ∧ W'.cell? (pad.add (j * 5)) = some (.int .i64 xk) ∧ W'.cell? ⟨(pad.add (j * 5)).block, (pad.add (j * 5)).off + 1, none⟩ = some (.string xn) ∧ W'.cell? ⟨(pad.add (j * 5)).block, (pad.add (j * 5)).off + 2, none⟩ = some (.int .i64 xi) ∧ W'.cell? ⟨(pad.add (j * 5)).block, (pad.add (j * 5)).off + 3, none⟩ = some (.int .i64 xh) ∧ W'.cell? ⟨(pad.add (j * 5)).block, (pad.add (j * 5)).off + 4, none⟩ = some (.slice xa xm xc) ∧ W'.cell? (tad.add (j * 5)) = some (.int .i64 yk) ∧ W'.cell? ⟨(tad.add (j * 5)).block, (tad.add (j * 5)).off + 1, none⟩ = some (.string yn) ∧ W'.cell? ⟨(tad.add (j * 5)).block, (tad.add (j * 5)).off + 2, none⟩ = some (.int .i64 yi) ∧ W'.cell? ⟨(tad.add (j * 5)).block, (tad.add (j * 5)).off + 3, none⟩ = some (.int .i64 yh) ∧ W'.cell? ⟨(tad.add (j * 5)).block, (tad.add (j * 5)).off + 4, none⟩ = some (.slice ya ym yc))
              (first
                | with_reducible exact HS.out _ HD3.out
                | with_reducible exact HS.out _ HD0.out)
              (first
                | (go_at_call 56; (with_reducible refine HC.out.mono ?_); rintro e w3 ⟨rfl, hin, hg3⟩; have HD3 := Lib.hid (HD0.out.trans hg3); have HIn3 := Lib.hid (hin A1 rfl); clear hin hg3))
            all_goals
              clear p0 p1 p2 p3 p4 t0 t1 t2 t3 t4 b0 b1 b2 b3 b4 d0 d1 d2 d3 d4
              go_split_ands
              go_wp2
              go_roundw
              case rel => exact ⟨j + 1, hlt, by go_num, ⟨A1, HIn3.out, HSp2.out⟩, HGr.out.trans HD3.out⟩
              case measure => simp [intOf]; omega
        · obtain ⟨Aj, hsj, hij⟩ := HIn.out
          have HYes : Hid (instT P0 T A = some Aj) := by
            show _ = _
            rw [HM3.out, hij, List.drop_eq_nil_of_le (by rw [← HM0.out]; omega)]
            rfl
          have HSj := Lib.hid hsj
          clear hsj hij HIn
          go_wp2
          go_ret
          exact ⟨by rw [HYes.out]; rfl, fun A1 h => by rw [HYes.out] at h; (cases h); exact HSj.out, HGW.out.trans HGr.out⟩
theorem instance_any (P0 : Ty) : InsC Try.prog 56 P0 := Ty.induct instance_of P0
end Go.Proofs.Ytahiefgfhpkoeaa

namespace Go.Proofs.Ytahiefgfhpkoeaa
open Go.RowKit Go.Sort Go.Shelf Go.Maps Mth

theorem flat_rep (L : List Value) (k : Nat) (hk : L.length = k) : ∀ n j : Nat, (List.replicate n L).flatten[j]? = if j < n * k then L[j % k]? else none := by
  intro n
  induction n with
  | zero => intro j; simp
  | succ n ih =>
    intro j
    rw [List.replicate_succ, List.flatten_cons]
    by_cases h : j < k
    · rw [List.getElem?_append_left (by omega), Nat.mod_eq_of_lt h, if_pos (by rw [Nat.succ_mul]; omega)]
    · rw [List.getElem?_append_right (by omega), ih, hk, show j % k = (j - k) % k from by rw [← Nat.mod_eq_sub_mod (by omega)]]
      congr 1
      rw [Nat.succ_mul]
      simp only [eq_iff_iff]
      omega
/-- 'make([]api.Type, n)': zeros. -/
theorem wpList_makeT {w : World} {ops : Array Oper} {rest : List Oper} {o : Oper} {a : Act} {Q : Exit → Act → World → Prop} (hgd : o.guard = none) (l c : Operand) (ho : o.op = Op.makeSlice 23 l c) (n : Nat) (hl : a.eval l = .int .i64 (n : Int)) (hc : a.eval c = .int .i64 (n : Int)) (hn : n ≤ 1000000) (base : Nat) (S : Nat → Prop) (hb : base ≤ w.heap.size)
    (hK : ∀ w', RowG TyE w' base S (.slice (some ⟨w.heap.size, 0, none⟩) n n) (List.replicate n zT) → w.grownBy w' none → wpList Try.prog ops Q rest (a.put o.dst (.slice (some ⟨w.heap.size, 0, none⟩) n n)) w') :
    wpList Try.prog ops Q (o :: rest) a w := by
  obtain ⟨i, hi, hz0, hz1, hz2⟩ := info_parts Try.info25
  refine wpList_make_full w hgd l c _ ho base 25 i _ 5 Try.underlying23 hi hz0 hz1 _ _ _ _ n hl hc rfl rfl (by rw [hz2]; omega) (by unfold maxLen; omega) hb ?_
  intro w' hown hg
  refine hK w' ⟨List.replicate n [.int .i64 0, .string ⟨#[]⟩, .int .i64 0, .int .i64 0, .slice none 0 0], ?_, by simp, fun j x hx => ?_⟩ hg
  · have : (madeCells (Value.cells (.agg #[.int .i64 0, .string ByteArray.empty, .int .i64 0, .int .i64 0, .slice none 0 0])) (n * 5)).toList = (List.replicate n [Value.int .i64 0, .string ⟨#[]⟩, .int .i64 0, .int .i64 0, .slice none 0 0]).flatten := by
      apply List.ext_getElem?
      intro j
      rw [flat_rep _ 5 rfl]
      by_cases hj : j < n * 5
      · rw [if_pos hj]
        have h5 : j % 5 < 5 := Nat.mod_lt _ (by decide)
        simp [madeCells, hj, Value.cells]
        have : j % 5 = 0 ∨ j % 5 = 1 ∨ j % 5 = 2 ∨ j % 5 = 3 ∨ j % 5 = 4 := by omega
        rcases this with h | h | h | h | h <;> simp [h] <;> rfl
      · simp [madeCells, hj]
    have hown' := hown
    rw [this] at hown'
    simpa [TyE] using hown'
  · have hjn : j < n := by have := (List.getElem?_eq_some_iff.1 hx).1; simpa using this
    have hxz : x = zT := by rw [List.getElem?_replicate, if_pos hjn] at hx; exact (Option.some.inj hx).symm
    subst hxz
    exact ⟨_, by rw [List.getElem?_replicate, if_pos hjn], rep_leaf _ _ 0 ⟨#[]⟩ 0 0 (Nat.zero_le _)⟩
/-- 'make([]bool, n)'. -/
theorem run_makeB (w : World) (n : Nat) (hn : n ≤ 1000000) (base : Nat) (hb : base ≤ w.heap.size) :
    ∃ w', (Instr.makeSlice 83 (.int .i64 (n : Int)) (.int .i64 (n : Int))).run Try.prog w = .ok (.slice (some ⟨w.heap.size, 0, none⟩) n n) w' ∧ w'.ownsRow base 4 1 (.slice (some ⟨w.heap.size, 0, none⟩) n n) n (List.replicate n (.bool false)) ∧ Below w.heap.size w w' := by
  obtain ⟨i, hi, hz0, hz1, hz2⟩ := info_parts elInfo_bool
  obtain ⟨w', h1, h2, h3⟩ := run_make_full (P := Try.prog) w base 83 4 i _ 1 Try.underlying83 hi hz0 hz1 .i64 .i64 n (by rw [hz2]; omega) (by unfold maxLen; omega) hb
  rw [Nat.mul_one, show Value.cells (.bool false) = #[.bool false] from rfl, toList_madeCells_one] at h2
  exact ⟨w', h1, h2, ⟨h3.os, h3.tape, h3.output, h3.size, fun i hi => h3.block i hi (by simp)⟩⟩
theorem InSt.start {base ga gk ca ck c : Nat} {w : World} (h1 : RowG TyE w base (fun b => b < base) (.slice (some ⟨ga, 0, none⟩) c ca) (List.replicate c zT)) (h2 : w.ownsRow base 4 1 (.slice (some ⟨gk, 0, none⟩) c ck) c (List.replicate c (.bool false))) (hne : ga ≠ gk) :
    InSt base ga gk ca ck c (List.replicate c none) w :=
  ⟨List.length_replicate, hne, by rw [List.map_replicate]; exact h1, by rw [List.map_replicate]; exact h2⟩
/-- What Instance gives. -/
def insR : Option (List (Option Ty)) → List Ty
  | some A => A.map fun o => o.getD zT
  | none => []
def InsAt' (P : Program) (f : Nat) : Prop := ∀ (c : Nat) (Pt T : Ty) (cv tv : Value) (S S' : Nat → Prop) (w : World), bndIn c Pt = true → c ≤ 100000 → RepC w S ((c : Int), Pt) cv → Rep w S' T tv →
  Calls P f #[cv, tv] w fun e w' => ∃ u, e = .returned (.tuple #[u, .bool (instT Pt T (List.replicate c none)).isSome]) ∧ SlG TyE w' (fun _ => True) (insR (instT Pt T (List.replicate c none))) u ∧ Below w.heap.size w w'
set_option maxRecDepth 100000 in
set_option maxHeartbeats 6400000 in
theorem refInstance_any : InsAt' Try.prog 29 := by
  intro c Pt T cv tv S S' w hbi hc hcv htv
  obtain ⟨k, n, i, hh, sa, sn, sc, rfl, hx⟩ := hcv.form
  obtain ⟨k', n', i', hh', sa', sn', sc', rfl⟩ := htv.form
  have HX : Hid (Rep w (fun b => b < w.heap.size) Pt (.agg #[.int .i64 k, .string n, .int .i64 i, .int .i64 hh, .slice sa sn sc])) := hx.bound.imp fun b hb => hb.2
  have HT : Hid (Rep w (fun b => b < w.heap.size) T (.agg #[.int .i64 k', .string n', .int .i64 i', .int .i64 hh', .slice sa' sn' sc'])) := htv.bound.imp fun b hb => hb.2
  obtain ⟨V, hV⟩ : ∃ V, V = (w.alloc (.cells #[.int .i64 (c : Int), .int .i64 k, .string n, .int .i64 i, .int .i64 hh, .slice sa sn sc] 27)).alloc (.cells #[.int .i64 k', .string n', .int .i64 i', .int .i64 hh', .slice sa' sn' sc'] 25) := ⟨_, rfl⟩
  have hVb : Below w.heap.size w V := by rw [hV]; exact ((Below.refl _ w).alloc (Nat.le_refl _) _).alloc (by simp) _
  have hVs : V.heap.size = w.heap.size + 2 := by rw [hV]; simp
  have HB1 : Hid (BoxC V w.heap.size (.int .i64 (c : Int)) (.int .i64 k) (.string n) (.int .i64 i) (.int .i64 hh) (.slice sa sn sc)) := by
    show BoxC _ _ _ _ _ _ _ _
    unfold BoxC; rw [hV, heap_at, if_neg (by simp), heap_at, if_pos rfl]
  have HB2 : Hid (Box V (w.heap.size + 1) (.int .i64 k') (.string n') (.int .i64 i') (.int .i64 hh') (.slice sa' sn' sc')) := by
    show Box _ _ _ _ _ _ _
    unfold Box; rw [hV, heap_at, if_pos (by simp)]
  have HVb := Lib.hid hVb
  have HVs := Lib.hid hVs
  have HBi := Lib.hid hbi
  clear hcv htv hx hVb hVs hbi
  have hc1 : c ≤ 1000000 := by omega
  obtain ⟨r, hr⟩ : ∃ r, r = instT Pt T (List.replicate c none) := ⟨_, rfl⟩
  rw [← hr]
  have HR := Lib.hid hr
  clear hr
  go_enter Try.func29, Try.ntmps29
  go_upto_region 1 with fail
  rw [← hV]
  clear hV
  obtain ⟨b0, b1, b2, b3, b4, b5⟩ := HB1.out.cells
  obtain ⟨d0, d1, d2, d3, d4⟩ := HB2.out.cells
  go_upto_region 2 with (at_make; go_loud (refine wpList_makeT rfl _ _ rfl c rfl rfl hc1 V.heap.size (fun b => b < V.heap.size) (Nat.le_refl _) ?_; intro w1 hrow1 hg1))
  have HRow1 := Lib.hid hrow1
  have HB01 : Hid (Below V.heap.size V w1) := ⟨hg1.os, hg1.tape, hg1.output, hg1.size, fun i hi => hg1.block i hi (by simp)⟩
  have hlt1 : V.heap.size < w1.heap.size := (hrow1.lt _ rfl).2
  have HS : Hid (∀ W', Below V.heap.size V W' → W'.cell? ⟨w.heap.size, 0, none⟩ = some (.int .i64 (c : Int)) ∧ W'.cell? ⟨w.heap.size, 1, none⟩ = some (.int .i64 k) ∧ W'.cell? ⟨w.heap.size, 2, none⟩ = some (.string n) ∧ W'.cell? ⟨w.heap.size, 3, none⟩ = some (.int .i64 i) ∧ W'.cell? ⟨w.heap.size, 4, none⟩ = some (.int .i64 hh) ∧ W'.cell? ⟨w.heap.size, 5, none⟩ = some (.slice sa sn sc) ∧ W'.cell? ⟨w.heap.size + 1, 0, none⟩ = some (.int .i64 k') ∧ W'.cell? ⟨w.heap.size + 1, 1, none⟩ = some (.string n') ∧ W'.cell? ⟨w.heap.size + 1, 2, none⟩ = some (.int .i64 i') ∧ W'.cell? ⟨w.heap.size + 1, 3, none⟩ = some (.int .i64 hh') ∧ W'.cell? ⟨w.heap.size + 1, 4, none⟩ = some (.slice sa' sn' sc')) := fun W' hb => by
    have k : ∀ p v, V.cell? p = some v → W'.cell? p = some v := fun p v h => (hb.cell (World.block_lt_of_cell? _ _ h)).trans h
    exact ⟨k _ _ b0, k _ _ b1, k _ _ b2, k _ _ b3, k _ _ b4, k _ _ b5, k _ _ d0, k _ _ d1, k _ _ d2, k _ _ d3, k _ _ d4⟩
  have HD0 : Hid (Below V.heap.size V w1.drew) := HB01.out.trans ((Below.refl _ w1).drew.mono HB01.out.size)
  have hbD : V.heap.size ≤ w1.drew.heap.size := HD0.out.size
  have HCall : Hid (∀ w2, w2.ownsRow V.heap.size 4 1 (.slice (some ⟨w1.heap.size, 0, none⟩) c c) c (List.replicate c (.bool false)) → Below w1.drew.heap.size w1.drew w2 → Calls Try.prog 56 #[.agg #[.int .i64 k, .string n, .int .i64 i, .int .i64 hh, .slice sa sn sc], .agg #[.int .i64 k', .string n', .int .i64 i', .int .i64 hh', .slice sa' sn' sc'], .slice (some ⟨V.heap.size, 0, none⟩) c c, .slice (some ⟨w1.heap.size, 0, none⟩) c c] w2 fun e w' => e = .returned (.bool r.isSome) ∧ (∀ A1, r = some A1 → SlG TyE w' (fun _ => True) (A1.map fun o => o.getD zT) (.slice (some ⟨V.heap.size, 0, none⟩) c c)) ∧ Below V.heap.size V w') := fun w2 hk hb => by
    have hb2 : Below V.heap.size V w2 := HD0.out.trans (hb.mono HD0.out.size)
    have hI : InSt V.heap.size V.heap.size w1.heap.size c c c (List.replicate c none) w2 := InSt.start ((HRow1.out.lift (Below.refl _ w1).drew).lift hb) hk (Nat.ne_of_lt hlt1)
    have hw : Below w.heap.size w w2 := HVb.out.trans (hb2.mono HVb.out.size)
    refine (instance_any Pt T (List.replicate c none) _ _ V.heap.size V.heap.size w1.heap.size c c c w2 HBi.out hc1 hI ((HX.out.lift hw).imp fun b hb => Nat.lt_of_lt_of_le hb HVb.out.size) ((HT.out.lift hw).imp fun b hb => Nat.lt_of_lt_of_le hb HVb.out.size)).mono ?_
    rintro e w' ⟨h1, h2, h3⟩
    rw [← HR.out] at h1 h2
    refine ⟨h1, fun A1 hA => (h2 A1 hA).row.slG (fun _ _ => trivial) (fun _ _ => trivial), ?_⟩
    refine hb2.trans ⟨h3.os, h3.tape, h3.output, h3.size, fun q hq => ?_⟩
    exact h3.block q (Nat.lt_of_lt_of_le hq hb2.size) (by omega) (by intro e; subst e; exact Nat.lt_irrefl _ (Nat.lt_trans hq hlt1))
  obtain ⟨w2, hmk, hk2, hbl2⟩ := run_makeB w1.drew c hc1 V.heap.size hbD
  rw [show w1.drew.heap.size = w1.heap.size from rfl] at hmk hk2
  have HC := Lib.hid (HCall.out w2 hk2 hbl2)
  have HD2 := Lib.hid (HD0.out.trans (hbl2.mono HD0.out.size))
  clear hrow1 hg1 hk2 hbl2 HCall
  cases r with
  | none =>
    go_wp2_with fail
    go_region_held3 (fun W' => W'.cell? ⟨w.heap.size, 0, none⟩ = some (.int .i64 (c : Int)) ∧ W'.cell? ⟨w.heap.size, 1, none⟩ = some (.int .i64 k) ∧ W'.cell? ⟨w.heap.size, 2, none⟩ = some (.string n) ∧ W'.cell? ⟨w.heap.size, 3, none⟩ = some (.int .i64 i) ∧ W'.cell? ⟨w.heap.size, 4, none⟩ = some (.int .i64 hh) ∧ W'.cell? ⟨w.heap.size, 5, none⟩ = some (.slice sa sn sc) ∧ W'.cell? ⟨w.heap.size + 1, 0, none⟩ = some (.int .i64 k') ∧ W'.cell? ⟨w.heap.size + 1, 1, none⟩ = some (.string n') ∧ W'.cell? ⟨w.heap.size + 1, 2, none⟩ = some (.int .i64 i') ∧ W'.cell? ⟨w.heap.size + 1, 3, none⟩ = some (.int .i64 hh') ∧ W'.cell? ⟨w.heap.size + 1, 4, none⟩ = some (.slice sa' sn' sc'))
      (first
        | with_reducible exact HS.out _ HD3.out
        | with_reducible exact HS.out _ HD2.out
        | with_reducible exact HS.out _ HD0.out)
      (first
        | (go_at_call 56; (with_reducible refine HC.out.mono ?_); rintro e w3 ⟨rfl, hin, hb3⟩; have HD3 := Lib.hid hb3; clear hb3 hin))
    all_goals
      clear b0 b1 b2 b3 b4 b5 d0 d1 d2 d3 d4
      go_split_ands
      go_wp2
      refine bodyPost_ret (v := .tuple #[.slice none 0 0, .bool false]) (by simp [results, Try.results29, go_sem]; try rfl) rfl ?_
      exact ⟨_, rfl, slG_nil _ _ _, HVb.out.trans (HD3.out.mono HVb.out.size)⟩
  | some A1 =>
    go_wp2_with fail
    go_region_held3 (fun W' => W'.cell? ⟨w.heap.size, 0, none⟩ = some (.int .i64 (c : Int)) ∧ W'.cell? ⟨w.heap.size, 1, none⟩ = some (.int .i64 k) ∧ W'.cell? ⟨w.heap.size, 2, none⟩ = some (.string n) ∧ W'.cell? ⟨w.heap.size, 3, none⟩ = some (.int .i64 i) ∧ W'.cell? ⟨w.heap.size, 4, none⟩ = some (.int .i64 hh) ∧ W'.cell? ⟨w.heap.size, 5, none⟩ = some (.slice sa sn sc) ∧ W'.cell? ⟨w.heap.size + 1, 0, none⟩ = some (.int .i64 k') ∧ W'.cell? ⟨w.heap.size + 1, 1, none⟩ = some (.string n') ∧ W'.cell? ⟨w.heap.size + 1, 2, none⟩ = some (.int .i64 i') ∧ W'.cell? ⟨w.heap.size + 1, 3, none⟩ = some (.int .i64 hh') ∧ W'.cell? ⟨w.heap.size + 1, 4, none⟩ = some (.slice sa' sn' sc'))
      (first
        | with_reducible exact HS.out _ HD3.out
        | with_reducible exact HS.out _ HD2.out
        | with_reducible exact HS.out _ HD0.out)
      (first
        | (go_at_call 56; (with_reducible refine HC.out.mono ?_); rintro e w3 ⟨rfl, hin, hb3⟩; have HD3 := Lib.hid hb3; have HIn := Lib.hid (hin A1 rfl); clear hb3 hin))
    all_goals
      clear b0 b1 b2 b3 b4 b5 d0 d1 d2 d3 d4
      go_split_ands
      go_wp2
      refine bodyPost_ret (v := .tuple #[.slice (some ⟨V.heap.size, 0, none⟩) c c, .bool true]) (by simp [results, Try.results29, go_sem]; try rfl) rfl ?_
      exact ⟨_, rfl, HIn.out, HVb.out.trans (HD3.out.mono HVb.out.size)⟩
end Go.Proofs.Ytahiefgfhpkoeaa

namespace Go.Proofs.Ytahiefgfhpkoeaa
open Go.RowKit Go.Sort Go.Shelf Go.Maps Mth

/-- The names that stand for the variables of a scheme. -/
def nmG (j : Nat) : ByteArray := (({ data := #[118] } : ByteArray) ++ ({ data := #[97, 98, 99, 100, 101, 102, 103, 104, 105, 106, 107, 108, 109, 110, 111, 112, 113, 114, 115, 116, 117, 118, 119, 120, 121, 122] } : ByteArray).extract j (j + 1) ++ ({ data := #[97, 98, 99, 100, 101, 102, 103, 104, 105, 106, 107, 108, 109, 110, 111, 112, 113, 114, 115, 116, 117, 118, 119, 120, 121, 122] } : ByteArray).extract 0 1)
theorem nmG_inj : InjTo nmG 26 := by
  have all : ∀ i j : Fin 26, bl (nmG i.val) = bl (nmG j.val) → i = j := by decide +kernel
  intro i j hi hj h
  have := all ⟨i, hi⟩ ⟨j, hj⟩ (by rw [h])
  exact congrArg Fin.val this
theorem nmG_size : ∀ j, j < 26 → (nmG j).size ≤ maxLen := by
  have all : ∀ i : Fin 26, (nmG i.val).size = 3 := by decide +kernel
  intro j hj
  rw [all ⟨j, hj⟩]
  unfold maxLen; omega
def GenAt (P : Program) (f : Nat) : Prop := ∀ (ca cb : Nat) (a b : Ty) (u v : Value) (S S' : Nat → Prop) (w : World), bndIn ca a = true → ca ≤ 26 → cb ≤ 26 → nodes b ≤ 100000 → RepC w S ((ca : Int), a) u → RepC w S' ((cb : Int), b) v →
  Calls P f #[u, v] w fun e w' => e = .returned (.bool (instT a (opn (frs nmG cb) b) (List.replicate ca none)).isSome) ∧ Below w.heap.size w w'
theorem frs_snoc (nm : Nat → ByteArray) (j : Nat) : frs nm (j + 1) = frs nm j ++ [N5 nm j] := by
  unfold frs
  rw [List.range_succ, List.map_append]; rfl
theorem enterNamed (v : Value) (w : World) : (callFunc 16 #[v]).run Try.prog w = .ok (.enter 16 #[v]) w := by kernel_rfl
set_option maxRecDepth 100000 in
set_option maxHeartbeats 6400000 in
theorem refGeneral_any : GenAt Try.prog 33 := by
  intro ca cb a b u v S S' w hbi hca hcb hN hu hv
  obtain ⟨k, n, i, hh, sa, sn, sc, rfl, hx⟩ := hu.form
  obtain ⟨k', n', i', hh', sa', sn', sc', rfl, hy⟩ := hv.form
  have HU : Hid (RepC w (fun b => b < w.heap.size) ((ca : Int), a) (.agg #[.int .i64 (ca : Int), .int .i64 k, .string n, .int .i64 i, .int .i64 hh, .slice sa sn sc])) := hu.bound.imp fun b hb => hb.2
  have HY : Hid (Rep w (fun b => b < w.heap.size) b (.agg #[.int .i64 k', .string n', .int .i64 i', .int .i64 hh', .slice sa' sn' sc'])) := hy.bound.imp fun b hb => hb.2
  obtain ⟨V, hV⟩ : ∃ V, V = (w.alloc (.cells #[.int .i64 (ca : Int), .int .i64 k, .string n, .int .i64 i, .int .i64 hh, .slice sa sn sc] 27)).alloc (.cells #[.int .i64 (cb : Int), .int .i64 k', .string n', .int .i64 i', .int .i64 hh', .slice sa' sn' sc'] 27) := ⟨_, rfl⟩
  have hVb : Below w.heap.size w V := by rw [hV]; exact ((Below.refl _ w).alloc (Nat.le_refl _) _).alloc (by simp) _
  have HB1 : Hid (BoxC V w.heap.size (.int .i64 (ca : Int)) (.int .i64 k) (.string n) (.int .i64 i) (.int .i64 hh) (.slice sa sn sc)) := by
    show BoxC _ _ _ _ _ _ _ _
    unfold BoxC; rw [hV, heap_at, if_neg (by simp), heap_at, if_pos rfl]
  have HB2 : Hid (BoxC V (w.heap.size + 1) (.int .i64 (cb : Int)) (.int .i64 k') (.string n') (.int .i64 i') (.int .i64 hh') (.slice sa' sn' sc')) := by
    show BoxC _ _ _ _ _ _ _ _
    unfold BoxC; rw [hV, heap_at, if_pos (by simp)]
  have HVb := Lib.hid hVb
  have HNm := Lib.hid (fun n w => refNamed_any n w)
  have H0 : Hid (RowG TyE V V.heap.size (fun c => V.heap.size ≤ c) (.slice none 0 0) (frs nmG 0)) := rowG_nil _ _ _ _
  obtain ⟨r, hr⟩ : ∃ r, r = (instT a (opn (frs nmG cb) b) (List.replicate ca none)).isSome := ⟨_, rfl⟩
  rw [← hr]
  have HR := Lib.hid hr
  clear hu hv hx hy hVb hr
  go_enter Try.func33, Try.ntmps33
  go_upto_region 1 with fail
  rw [← hV]
  clear hV
  go_wp2
  go_loopw [5, 6] (fun y x wr => ∃ (j : Nat) (ya : Option Addr) (yc : Nat), j ≤ cb ∧ x = .int .i64 j ∧ y = .slice ya j yc ∧ Hid (RowG TyE wr V.heap.size (fun c => V.heap.size ≤ c) (.slice ya j yc) (frs nmG j)) ∧ Hid (Below V.heap.size V wr)) (fun _ x _ => cb - (intOf x).toNat)
  case atStart => exact ⟨0, none, 0, Nat.zero_le _, rfl, rfl, H0, Below.refl _ _⟩
  case round =>
    clear H0
    obtain ⟨j, ya, yc, hj, rfl, rfl, HRow, HLow⟩ := hrel
    obtain ⟨b0, -⟩ := (HB2.out.lift HLow.out).cells
    by_cases hlt : j < cb
    · have hji : (j : Int) < (cb : Int) := by omega
      have h0 : (0 : Int) ≤ (j : Int) := by omega
      have h26 : (j : Int) < 26 := by omega
      have hrem : Int.tmod (j : Int) 26 = (j : Int) := Int.tmod_eq_of_lt h0 h26
      have hquo : Int.tdiv (j : Int) 26 = 0 := Int.tdiv_eq_zero_of_lt h0 h26
      have h27 : (j : Int) + 1 ≤ 26 := by omega
      have h28 : (j : Int) ≤ (j : Int) + 1 := by omega
      have h29 : ¬ (j : Int) + 1 < 0 := by omega
      have h30 : ¬ (j : Int) < 0 := by omega
      have h31 : ¬ (26 : Int) < (j : Int) + 1 := by omega
      have h32 : ¬ (j : Int) + 1 < (j : Int) := by omega
      have hs1 : ¬ 9223372036854775807 < 1 + (min (j + 1) 26 - j) := by omega
      have hs2 : ¬ 9223372036854775807 < 1 + (min (j + 1) 26 - j) + 1 := by omega
      have hz0 : IntKind.i64.wrap 0 = 0 := by rw [IntKind.wrap_i64]; omega
      have hz1 : IntKind.i64.wrap 1 = 1 := by rw [IntKind.wrap_i64]; omega
      have hz2 : Int.tmod 0 26 = 0 := rfl
      have hz3 : Int.tdiv 0 26 = 0 := rfl
      have hw0 : IntKind.i64.wrap (j : Int) = (j : Int) := by rw [IntKind.wrap_i64]; omega
      have hw1 : IntKind.i64.wrap ((j : Int) + 1) = (j : Int) + 1 := by rw [IntKind.wrap_i64]; omega
      have HD0 : Hid (Below V.heap.size V wr.drew) := HLow.out.trans ((Below.refl _ wr).drew.mono HLow.out.size)
      have HC : Hid (Calls Try.prog 16 #[.string (({ data := #[118] } : ByteArray) ++ ({ data := #[97, 98, 99, 100, 101, 102, 103, 104, 105, 106, 107, 108, 109, 110, 111, 112, 113, 114, 115, 116, 117, 118, 119, 120, 121, 122] } : ByteArray).extract j (j + 1) ++ ({ data := #[97, 98, 99, 100, 101, 102, 103, 104, 105, 106, 107, 108, 109, 110, 111, 112, 113, 114, 115, 116, 117, 118, 119, 120, 121, 122] } : ByteArray).extract 0 1)] wr.drew fun e w' => ∃ u, e = .returned u ∧ (u = .agg #[.int .i64 5, .string (nmG j), .int .i64 0, .int .i64 0, .slice none 0 0] ∧ Below wr.drew.heap.size wr.drew w')) := (HNm.out (nmG j) wr.drew).mono fun e w' ⟨h1, h2⟩ => ⟨_, h1, rfl, h2⟩
      have hjb : j + 1 ≤ 1000000 := by omega
      have HLen : Hid (j + 1 = (frs nmG j).length + 1) := by show _ = _; rw [frs_len]
      have HE : Hid (∀ W S, TyE.rep W S (N5 nmG j) [.int .i64 5, .string (nmG j), .int .i64 0, .int .i64 0, .slice none 0 0]) := fun W S => rep_leaf W S 5 (nmG j) 0 0 (nmG_size j (by omega))
      go_wp2_with fail
      go_region_held3 (fun W' => Below V.heap.size V W')
        (first
          | with_reducible exact HD4.out
          | with_reducible exact HD3.out
          | with_reducible exact HD3.out.trans ((HA3.out _).mono HD3.out.size)
          | with_reducible exact HD0.out)
        (first
          | (go_at_call 16; (with_reducible refine HC.out.mono ?_); rintro e w3 ⟨u3, rfl, rfl, hb3⟩; have HA3 := Lib.hid (fun o => (Below.refl _ w3).alloc (Nat.le_refl _) o); have HR3 := Lib.hid ((HRow.out.lift (Below.refl _ wr).drew).lift hb3); have HD3 := Lib.hid (HD0.out.trans (hb3.mono HD0.out.size)); clear hb3)
          | ((refine step_pushG TyE rfl _ _ rfl V.heap.size (fun c => V.heap.size ≤ c) (.slice ya j yc) (frs nmG j) rfl (HR3.out.lift (HA3.out _)) w3.heap.size _ [.int .i64 5, .string (nmG j), .int .i64 0, .int .i64 0, .slice none 0 0] (heap_alloc_new w3 _) rfl (N5 nmG j) (HE.out _ _) (j + 1) HLen.out hjb (Nat.le_trans HD3.out.size (HA3.out _).size) ?_); intro a4 c4 w4 hrow4 hg4; have HRow4 := Lib.hid hrow4; have HD4 : Hid (Below V.heap.size V w4) := Below.grown (HD3.out.trans ((HA3.out _).mono HD3.out.size)) hg4 (Nat.le_trans HD3.out.size (HA3.out _).size) (fun b hb => (HR3.out.lt b hb).1); clear hrow4 hg4))
      all_goals
        go_wp2
        go_roundw
        case rel => exact ⟨j + 1, a4, c4, hlt, by go_num, rfl, by show RowG _ _ _ _ _ _; rw [frs_snoc]; exact HRow4.out, HD4.out⟩
        case measure => simp [intOf]; omega
    · obtain rfl : j = cb := by omega
      clear b0
      obtain ⟨b0, b1, b2, b3, b4, b5⟩ := (HB1.out.lift HLow.out).cells
      obtain ⟨d0, d1, d2, d3, d4, d5⟩ := (HB2.out.lift HLow.out).cells
      have HD0 : Hid (Below wr.heap.size wr wr.drew) := (Below.refl _ wr).drew
      have HW0 : Hid (Below w.heap.size w wr) := HVb.out.trans (HLow.out.mono HVb.out.size)
      have HS : Hid (∀ W', Below wr.heap.size wr W' → W'.cell? ⟨w.heap.size, 0, none⟩ = some (.int .i64 (ca : Int)) ∧ W'.cell? ⟨w.heap.size, 1, none⟩ = some (.int .i64 k) ∧ W'.cell? ⟨w.heap.size, 2, none⟩ = some (.string n) ∧ W'.cell? ⟨w.heap.size, 3, none⟩ = some (.int .i64 i) ∧ W'.cell? ⟨w.heap.size, 4, none⟩ = some (.int .i64 hh) ∧ W'.cell? ⟨w.heap.size, 5, none⟩ = some (.slice sa sn sc) ∧ W'.cell? ⟨w.heap.size + 1, 1, none⟩ = some (.int .i64 k') ∧ W'.cell? ⟨w.heap.size + 1, 2, none⟩ = some (.string n') ∧ W'.cell? ⟨w.heap.size + 1, 3, none⟩ = some (.int .i64 i') ∧ W'.cell? ⟨w.heap.size + 1, 4, none⟩ = some (.int .i64 hh') ∧ W'.cell? ⟨w.heap.size + 1, 5, none⟩ = some (.slice sa' sn' sc')) := fun W' hb => by
        have k : ∀ p v, wr.cell? p = some v → W'.cell? p = some v := fun p v h => (hb.cell (World.block_lt_of_cell? _ _ h)).trans h
        exact ⟨k _ _ b0, k _ _ b1, k _ _ b2, k _ _ b3, k _ _ b4, k _ _ b5, k _ _ d1, k _ _ d2, k _ _ d3, k _ _ d4, k _ _ d5⟩
      have HCo : Hid (Calls Try.prog 57 #[.agg #[.int .i64 k', .string n', .int .i64 i', .int .i64 hh', .slice sa' sn' sc'], .slice ya j yc] wr.drew fun e w' => ∃ u, e = .returned u ∧ Rep w' (fun _ => True) (opn (frs nmG j) b) u ∧ Below wr.drew.heap.size wr.drew w') := by
        have h1 := (slG_repL ((HRow.out.lift HD0.out).slG (S' := fun _ => True) (fun _ _ => trivial) (fun _ _ => trivial))).bound
        exact refOpen_any (frs nmG j) b _ _ (fun _ => True) _ wr.drew (by omega) h1 (fun b hb => ⟨trivial, hb.2⟩) (fun _ _ => trivial) ((HY.out.imp fun _ _ => trivial).lift (HW0.out.trans (HD0.out.mono HW0.out.size)))
      have HCi : Hid (∀ W' u, Below wr.heap.size wr W' → Rep W' (fun _ => True) (opn (frs nmG j) b) u → Calls Try.prog 29 #[.agg #[.int .i64 (ca : Int), .int .i64 k, .string n, .int .i64 i, .int .i64 hh, .slice sa sn sc], u] W' fun e w' => ∃ q, e = .returned (.tuple #[q, .bool r]) ∧ Below W'.heap.size W' w') := fun W' u hb hu => by
        refine (refInstance_any ca a (opn (frs nmG j) b) _ u _ _ W' hbi (by omega) (HU.out.lift (HW0.out.trans (hb.mono HW0.out.size))) hu).mono ?_
        rintro e w' ⟨q, h1, -, h4⟩
        rw [← HR.out] at h1
        exact ⟨q, h1, h4⟩
      clear HRow hlt hj
      go_wp2_with fail
      go_region_held3 (fun W' => W'.cell? ⟨w.heap.size, 0, none⟩ = some (.int .i64 (ca : Int)) ∧ W'.cell? ⟨w.heap.size, 1, none⟩ = some (.int .i64 k) ∧ W'.cell? ⟨w.heap.size, 2, none⟩ = some (.string n) ∧ W'.cell? ⟨w.heap.size, 3, none⟩ = some (.int .i64 i) ∧ W'.cell? ⟨w.heap.size, 4, none⟩ = some (.int .i64 hh) ∧ W'.cell? ⟨w.heap.size, 5, none⟩ = some (.slice sa sn sc) ∧ W'.cell? ⟨w.heap.size + 1, 1, none⟩ = some (.int .i64 k') ∧ W'.cell? ⟨w.heap.size + 1, 2, none⟩ = some (.string n') ∧ W'.cell? ⟨w.heap.size + 1, 3, none⟩ = some (.int .i64 i') ∧ W'.cell? ⟨w.heap.size + 1, 4, none⟩ = some (.int .i64 hh') ∧ W'.cell? ⟨w.heap.size + 1, 5, none⟩ = some (.slice sa' sn' sc'))
        (first
          | with_reducible exact HS.out _ HD4.out
          | with_reducible exact HS.out _ HD3.out
          | with_reducible exact HS.out _ HD0.out)
        (first
          | (go_at_call 57; (with_reducible refine HCo.out.mono ?_); rintro e w3 ⟨u3, rfl, hrep3, hb3⟩; have HP3 := Lib.hid hrep3; have HD3 := Lib.hid (HD0.out.trans (hb3.mono HD0.out.size)); clear hb3 hrep3)
          | (go_at_call 29; (with_reducible refine (HCi.out _ _ HD3.out HP3.out).mono ?_); rintro e w4 ⟨q4, rfl, hb4⟩; have HD4 := Lib.hid (HD3.out.trans (hb4.mono HD3.out.size)); clear hb4))
      all_goals
        clear b0 b1 b2 b3 b4 b5 d0 d1 d2 d3 d4 d5
        go_split_ands
        go_wp2
        go_ret
        exact ⟨rfl, HW0.out.trans (HD4.out.mono HW0.out.size)⟩
end Go.Proofs.Ytahiefgfhpkoeaa
