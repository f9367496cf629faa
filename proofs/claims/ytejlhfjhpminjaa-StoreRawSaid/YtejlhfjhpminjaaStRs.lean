/- Stores: the package's Resolve. -/
import Derived.Test.YtejlhfjhpminjaaStSz
namespace Go.Proofs.Ytejlhfjhpminjaa
open Go.RowKit Go.Sort Go.Shelf Go.Maps Mth

def tyC : List Value := [.int .i64 0, .string ⟨#[]⟩, .int .i64 0, .int .i64 0, .slice none 0 0]
theorem zr_ty : Zr TyE tyC zTy := ⟨by obtain ⟨i, h0, h1, h2, h3⟩ := info_parts Try.info31; exact ⟨i, _, h0, h1, rfl⟩, rfl, fun w S => rep_leaf w S 0 ⟨#[]⟩ 0 0 (Nat.zero_le _)⟩
/-- There is one resolved form at most. -/
theorem res_one {wk : Ty → Ty} : ∀ R R' T : Ty, Res wk R T → Res wk R' T → R = R' := by
  refine Ty.induct fun R ih => ?_
  obtain ⟨k, n, i, h, rs⟩ := R
  intro R' T h1 h2
  obtain ⟨k', n', i', h', rs'⟩ := R'
  rw [Res] at h1 h2
  obtain ⟨rfl, rfl, rfl, rfl, h1⟩ := h1
  obtain ⟨rfl, rfl, rfl, rfl, h2⟩ := h2
  have key : ∀ (rs rs' ts : List Ty), (∀ U ∈ rs, ∀ (R' T : Ty), Res wk U T → Res wk R' T → U = R') → ResL wk rs ts → ResL wk rs' ts → rs = rs' := by
    intro rs
    induction rs with
    | nil =>
      intro rs' ts _ a b
      rw [ResL] at a
      subst a
      cases rs' with
      | nil => rfl
      | cons r rs' => rw [ResL] at b; exact b.elim
    | cons r rs ihr =>
      intro rs' ts hm a b
      cases ts with
      | nil => rw [ResL] at a; exact a.elim
      | cons t ts =>
        cases rs' with
        | nil => rw [ResL] at b; cases b
        | cons r' rs' =>
          rw [ResL] at a b
          rw [hm r (by simp) r' t a.1 b.1, ihr rs' ts (fun U hU => hm U (by simp [hU])) a.2 b.2]
  rw [key rs rs' _ (fun U hU => ih U hU) h1 h2]
/-- A block of zeros as a row. -/
theorem rowG_zeros {α : Type} {E : El α} {zc : List Value} {z0 : α} (hz : Zr E zc z0) {w : World} {g n : Nat} {cur : Array Value} (hg : w.heap[g]? = some (.cells cur E.e (0, 0))) (hc : cur.toList = (List.replicate n zc).flatten) (hn : n ≤ 1000000) (base : Nat) (hb : base ≤ g) (S : Nat → Prop) : RowG E w base S (.slice (some ⟨g, 0, none⟩) n n) (List.replicate n z0) := by
  have hcz : cur.size = n * E.k := by rw [← Array.length_toList, hc, flat_len E.k _ (fun c hc => by rw [(List.mem_replicate.1 hc).2]; exact hz.len)]; simp
  refine ⟨List.replicate n zc, ?_, by simp, fun j x hx => ?_⟩
  · rw [List.length_replicate, ← hc]
    exact ⟨by simpa using hcz, .inr ⟨g, n, cur, rfl, hb, hg, Nat.le_refl _, by unfold maxLen; omega, hcz, by rw [← hcz]; exact List.take_of_length_le (by simp)⟩⟩
  · rw [List.getElem?_replicate] at hx
    split at hx
    · cases hx; next h => exact ⟨zc, by rw [List.getElem?_replicate, if_pos h], hz.rep _ _⟩
    · cases hx
theorem RowG.ats {w : World} {base : Nat} {S : Nat → Prop} {g n cap : Nat} {xs : List Ty} (h : RowG TyE w base S (.slice (some ⟨g, 0, none⟩) n cap) xs) {j : Nat} (hj : j < xs.length) :
    ∃ k n i hm sa sn sc, (w.cell? ⟨g, j * 5, none⟩ = some (.int .i64 k) ∧ w.cell? ⟨g, j * 5 + 1, none⟩ = some (.string n) ∧ w.cell? ⟨g, j * 5 + 2, none⟩ = some (.int .i64 i) ∧ w.cell? ⟨g, j * 5 + 3, none⟩ = some (.int .i64 hm) ∧ w.cell? ⟨g, j * 5 + 4, none⟩ = some (.slice sa sn sc)) ∧ (∀ q, w.frozen? ⟨g, q, none⟩ = false) := by
  obtain ⟨cc, hr, hc⟩ := rowG_getT h (List.getElem?_eq_getElem hj)
  obtain ⟨k, n, i, hm, sa, sn, sc, e⟩ := (let ⟨n, a, m, c, h, _, _⟩ := Rep.frm hr; (⟨_, n, _, _, a, m, c, h⟩ : ∃ k n i h a m c, _ = Value.agg #[.int .i64 k, .string n, .int .i64 i, .int .i64 h, .slice a m c]))
  have e' : cc = [.int .i64 k, .string n, .int .i64 i, .int .i64 hm, .slice sa sn sc] := by simpa using e
  subst e'
  exact ⟨k, n, i, hm, sa, sn, sc, ⟨hc 0 _ rfl, hc 1 _ rfl, hc 2 _ rfl, hc 3 _ rfl, hc 4 _ rfl⟩, fun q => h.free q⟩
/-- A type that is stored into an element of a row of types. -/
theorem RowG.putTy {w : World} {base : Nat} {S : Nat → Prop} {g n cap : Nat} {xs : List Ty} (h : RowG TyE w base S (.slice (some ⟨g, 0, none⟩) n cap) xs) {j : Nat} (hj : j < xs.length) {T : Ty} {k : Int} {nm : ByteArray} {i hm : Int} {s : Value} (hT : Rep w (fun b => S b ∧ b ≠ g) T (.agg #[.int .i64 k, .string nm, .int .i64 i, .int .i64 hm, s])) :
    RowG TyE (((((w.setCell ⟨g, j * 5, none⟩ (.int .i64 k)).setCell ⟨g, j * 5 + 1, none⟩ (.string nm)).setCell ⟨g, j * 5 + 2, none⟩ (.int .i64 i)).setCell ⟨g, j * 5 + 3, none⟩ (.int .i64 hm)).setCell ⟨g, j * 5 + 4, none⟩ s) base S (.slice (some ⟨g, 0, none⟩) n cap) (xs.set j T) ∧
    w.grownBy (((((w.setCell ⟨g, j * 5, none⟩ (.int .i64 k)).setCell ⟨g, j * 5 + 1, none⟩ (.string nm)).setCell ⟨g, j * 5 + 2, none⟩ (.int .i64 i)).setCell ⟨g, j * 5 + 3, none⟩ (.int .i64 hm)).setCell ⟨g, j * 5 + 4, none⟩ s) (some g) := by
  have hput := h.put (List.getElem?_eq_getElem hj) T 0 [.int .i64 k, .string nm, .int .i64 i, .int .i64 hm, s] (fun cc hc => ⟨[], cc, [], by simp, rfl, by rw [(TyE.len hc).1]; rfl, hT⟩)
  have hch : w.setCells g (j * TyE.k + 0) [.int .i64 k, .string nm, .int .i64 i, .int .i64 hm, s] = ((((w.setCell ⟨g, j * 5, none⟩ (.int .i64 k)).setCell ⟨g, j * 5 + 1, none⟩ (.string nm)).setCell ⟨g, j * 5 + 2, none⟩ (.int .i64 i)).setCell ⟨g, j * 5 + 3, none⟩ (.int .i64 hm)).setCell ⟨g, j * 5 + 4, none⟩ s := by
    rw [show TyE.k = 5 from rfl]
    simp only [World.setCells, Nat.add_zero, Nat.add_assoc, Nat.reduceAdd]
  rw [hch] at hput
  exact hput
/-- Some are in, the rest is still empty. -/
def fillR (rs : List Ty) (j : Nat) : List Ty := rs.take j ++ List.replicate (rs.length - j) zTy
theorem fillR_zero (rs : List Ty) : fillR rs 0 = List.replicate rs.length zTy := by unfold fillR; simp
theorem fillR_all (rs : List Ty) : fillR rs rs.length = rs := by unfold fillR; simp
theorem fillR_len (rs : List Ty) {j : Nat} (h : j ≤ rs.length) : (fillR rs j).length = rs.length := by unfold fillR; simp; omega
theorem fillR_set {rs : List Ty} {j : Nat} {r : Ty} (h : rs[j]? = some r) : (fillR rs j).set j r = fillR rs (j + 1) := by
  have hl := (List.getElem?_eq_some_iff.1 h).1
  unfold fillR
  rw [List.set_append_right _ _ (by simp; omega), show j - (rs.take j).length = 0 from by simp; omega, show rs.length - j = (rs.length - (j + 1)) + 1 from by omega, List.replicate_succ, List.set_cons_zero, List.take_add_one, h]
  simp
/-- What the contract of resolved says. -/
def RsAt (P : Program) (f : Nat) (sl : List Slt) (n : Nat) (R : Ty) : Prop := ∀ (T : Ty) (sa : Option Addr) (sc : Nat) (ta : Option Addr) (tn tc : Nat) (v : Value) (S : Nat → Prop) (w : World), Res (walkF sl n) R T → nodes R ≤ 1000000 → SlG SltE w S sl (.slice sa n sc) → Rep w S T v →
  Calls P f #[.agg #[.slice sa n sc, .slice ta tn tc], v] w fun e w' => ∃ u, e = .returned u ∧ Rep w' (fun b => w.heap.size ≤ b) R u ∧ Below w.heap.size w w'
theorem enterResolved (v u : Value) (w : World) : (callFunc 27 #[v, u]).run Try.prog w = .ok (.enter 27 #[v, u]) w := by kernel_rfl
/-- What the loop of resolved holds. -/
structure RvSt (w : World) (sl : List Slt) (S : Nat → Prop) (sv tv : Value) (k : Int) (nm : ByteArray) (i h : Int) (a : Option Addr) (m c : Nat) (ts rs : List Ty) (g j : Nat) (wr : World) : Prop where
  store : BoxC 27 wr w.heap.size [sv, tv]
  box : Box wr (w.heap.size + 1) (.int .i64 k) (.string nm) (.int .i64 i) (.int .i64 h) (.slice a m c)
  zero : Zero wr (w.heap.size + 2)
  slots : SlG SltE wr (fun b => S b ∧ b < w.heap.size) sl sv
  args : RepL wr (fun b => S b ∧ b < w.heap.size) ts (.slice a m c)
  row : RowG TyE wr (w.heap.size + 3) (fun b => w.heap.size + 3 ≤ b) (.slice (some ⟨g, 0, none⟩) m m) (fillR rs j)
  low : Below w.heap.size w wr
theorem RvSt.lift {w : World} {sl : List Slt} {S : Nat → Prop} {sv tv : Value} {k : Int} {nm : ByteArray} {i h : Int} {a : Option Addr} {m c : Nat} {ts rs : List Ty} {g j : Nat} {wr wr' : World} (H : RvSt w sl S sv tv k nm i h a m c ts rs g j wr) (hb : Below wr.heap.size wr wr') : RvSt w sl S sv tv k nm i h a m c ts rs g j wr' :=
  ⟨H.store.lift hb, Box.lift H.box hb, Box.lift H.zero hb, H.slots.up hb, H.args.lift hb, H.row.lift hb, H.low.trans (hb.mono H.low.size)⟩
theorem RvSt.put {w : World} {sl : List Slt} {S : Nat → Prop} {sv tv : Value} {k : Int} {nm : ByteArray} {i h : Int} {a : Option Addr} {m c : Nat} {ts rs : List Ty} {g j : Nat} {wr w' : World} (H : RvSt w sl S sv tv k nm i h a m c ts rs g j wr) (hrow : RowG TyE w' (w.heap.size + 3) (fun b => w.heap.size + 3 ≤ b) (.slice (some ⟨g, 0, none⟩) m m) (fillR rs (j + 1))) (hg : wr.grownBy w' (some g)) : RvSt w sl S sv tv k nm i h a m c ts rs g (j + 1) w' := by
  have hgl := (H.row.lt g rfl).1
  have hk : ∀ b, b < w.heap.size → b < wr.heap.size → w'.heap[b]? = wr.heap[b]? := fun b hb hl => hg.block b hl (by intro e; have := Option.some.inj e; omega)
  exact ⟨H.store.grown hg (by intro e; have := Option.some.inj e; omega), H.box.kept (hg.block _ H.box.lt (by intro e; have := Option.some.inj e; omega)), H.zero.kept (hg.block _ H.zero.lt (by intro e; have := Option.some.inj e; omega)), H.slots.kept (fun _ h => h) (fun b hb hl => hk b hb.2 hl), H.args.kept (fun _ h => h) (fun b hb hl => hk b hb.2 hl), hrow, Below.grown H.low hg H.low.size (fun q hq => by cases hq; omega)⟩
/-- The arguments are put in. -/
theorem RvSt.fin {w : World} {sl : List Slt} {S : Nat → Prop} {sv tv : Value} {k : Int} {nm : ByteArray} {i h : Int} {a : Option Addr} {m c : Nat} {ts rs : List Ty} {g : Nat} {wr : World} (H : RvSt w sl S sv tv k nm i h a m c ts rs g m wr) (hm : m = rs.length) (hn : nm.size ≤ maxLen) :
    Box (wr.setCell ⟨w.heap.size + 1, 4, none⟩ (.slice (some ⟨g, 0, none⟩) m m)) (w.heap.size + 1) (.int .i64 k) (.string nm) (.int .i64 i) (.int .i64 h) (.slice (some ⟨g, 0, none⟩) m m) ∧ Zero (wr.setCell ⟨w.heap.size + 1, 4, none⟩ (.slice (some ⟨g, 0, none⟩) m m)) (w.heap.size + 2) ∧
      Rep (wr.setCell ⟨w.heap.size + 1, 4, none⟩ (.slice (some ⟨g, 0, none⟩) m m)) (fun b => w.heap.size + 3 ≤ b) (.mk k nm i h rs) (.agg #[.int .i64 k, .string nm, .int .i64 i, .int .i64 h, .slice (some ⟨g, 0, none⟩) m m]) ∧ Below w.heap.size w (wr.setCell ⟨w.heap.size + 1, 4, none⟩ (.slice (some ⟨g, 0, none⟩) m m)) := by
  obtain ⟨h1, hg, h3⟩ := set1 (show wr.heap[w.heap.size + 1]? = _ from H.box) 4 (.slice (some ⟨g, 0, none⟩) m m)
  refine ⟨h1, H.zero.kept (hg.block _ H.zero.lt (by intro e; have := Option.some.inj e; omega)), ?_, Below.grown H.low hg H.low.size (fun q hq => by cases hq; omega)⟩
  have hr := slG_repL (H.row.slG (S' := fun b => w.heap.size + 3 ≤ b) (fun _ h => h) (fun _ h => h))
  rw [hm, fillR_all, ← hm] at hr
  exact Rep.close hn (hr.kept (fun _ h => h) (fun b hb hl => hg.block b hl (by intro e; have := Option.some.inj e; omega)))
set_option maxRecDepth 100000 in
set_option maxHeartbeats 6400000 in
theorem resolved_of (sl : List Slt) (n : Nat) (hn : n = sl.length) (hm : n ≤ 1000000) (R : Ty) (ih : ∀ U ∈ R.ts, RsAt Try.prog 27 sl n U) : RsAt Try.prog 27 sl n R := by
  intro T sa sc ta tn tc v S w hres hnr hs hv
  obtain ⟨nm, xa, xn, xc, rfl, -, -⟩ := hv.frm
  obtain ⟨rk, rn, ri, rh, rs⟩ := R
  rw [Res] at hres
  have HW : Hid (∀ W, Below w.heap.size w W → Calls Try.prog 38 #[.agg #[.slice sa n sc, .slice ta tn tc], .agg #[.int .i64 T.k, .string nm, .int .i64 T.i, .int .i64 T.h, .slice xa xn xc]] W _) := fun W hb => walk_any sl T sa n sc ta tn tc _ (fun b => S b ∧ b < w.heap.size) W hn hm (hs.bound.up hb) (hv.bound.lift hb)
  obtain ⟨Q, hQ⟩ : ∃ Q, Q = walkF sl n T := ⟨_, rfl⟩
  rw [← hQ] at HW hres
  clear hQ
  obtain ⟨e1, e2, e3, e4, hrl⟩ := hres
  have E1 := Lib.hid e1
  have E2 := Lib.hid e2
  have E3 := Lib.hid e3
  have E4 := Lib.hid e4
  clear e1 e2 e3 e4
  generalize T.k = k at *
  generalize T.i = i at *
  generalize T.h = hh at *
  obtain ⟨V, hV⟩ : ∃ V, V = ((w.alloc (.cells #[.slice sa n sc, .slice ta tn tc] 27)).alloc (.cells #[.int .i64 k, .string nm, .int .i64 i, .int .i64 hh, .slice xa xn xc] 31)).alloc (.cells #[.int .i64 0, .string ⟨#[]⟩, .int .i64 0, .int .i64 0, .slice none 0 0] 31) := ⟨_, rfl⟩
  have hVb : Below w.heap.size w V := by rw [hV]; exact (((Below.refl _ w).alloc (Nat.le_refl _) _).alloc (by simp) _).alloc (by simp; omega) _
  have hB1 : BoxC 27 V w.heap.size [.slice sa n sc, .slice ta tn tc] := by unfold BoxC; rw [hV, heap_at, if_neg (by simp; omega), heap_at, if_neg (by simp), heap_at, if_pos rfl]
  have hB2 : Box V (w.heap.size + 1) (.int .i64 k) (.string nm) (.int .i64 i) (.int .i64 hh) (.slice xa xn xc) := by unfold Box; rw [hV, heap_at, if_neg (by simp), heap_at, if_pos (by simp)]
  have hB3 : Zero V (w.heap.size + 2) := by unfold Zero Box; rw [hV, heap_at, if_pos (by simp)]
  have HVb := Lib.hid hVb
  have HB1 := Lib.hid hB1
  have HB3 := Lib.hid hB3
  have HSl := Lib.hid hs.bound
  have HIH : Hid (∀ U ∈ rs, RsAt Try.prog 27 sl n U) := ih
  have HRl := Lib.hid hrl
  have HNR := Lib.hid hnr
  have HLen := Lib.hid (resL_len _ _ hrl)
  have hQB2 : Hid (∀ W, Below V.heap.size V W → Box W (w.heap.size + 1) (.int .i64 k) (.string nm) (.int .i64 i) (.int .i64 hh) (.slice xa xn xc)) := fun W hb => Box.lift hB2 hb
  obtain ⟨c0, c1⟩ : V.cell? ⟨w.heap.size, 0, none⟩ = some (.slice sa n sc) ∧ V.cell? ⟨w.heap.size, 1, none⟩ = some (.slice ta tn tc) := ⟨hB1.cell 0 _ rfl, hB1.cell 1 _ rfl⟩
  obtain ⟨d0, d1, d2, d3, d4⟩ := hB2.cells
  have HN := Lib.hid hn
  clear hB1 hB2 hB3 hv hs ih hn hrl hnr
  go_enter Try.func27, Try.ntmps27
  go_upto_region 1 with fail
  rw [← hV]
  clear hV
  go_wp2_with fail
  go_at_call 38
  refine (HW.out V hVb).mono ?_
  rintro e w1 ⟨⟨u, rfl, hr⟩, hb1⟩
  obtain ⟨un, ua, um, uc, rfl, hun, hum⟩ := hr.frm
  have hunl : un.size ≤ maxLen := by
    obtain ⟨_, _, _, _, _, -, e, h, -⟩ := hr.open
    simp at e
    obtain ⟨-, rfl, -⟩ := e
    exact h
  obtain rfl : un = rn := hun.trans E2.out
  rw [E1.out, E3.out, E4.out] at hr ⊢
  clear hun E1 E2 E3 E4
  have hw1 := hVb.trans (hb1.mono hVb.size)
  have hrx : Rep w1 (fun b => S b ∧ b < w.heap.size) Q (.agg #[.int .i64 rk, .string un, .int .i64 ri, .int .i64 rh, .slice ua um uc]) := hr.imp fun b hb => hb.1
  have HB21 := Lib.hid (hQB2.out w1 hb1)
  have HB31 := Lib.hid (Box.lift HB3.out hb1)
  have HB11 := Lib.hid (HB1.out.lift hb1)
  have HSl1 := Lib.hid (HSl.out.up hw1)
  have HL : Hid (RepL w1 (fun b => S b ∧ b < w.heap.size) Q.ts (.slice ua um uc)) := by
    obtain ⟨_, _, _, _, _, eT, e, -, hl⟩ := hrx.open
    simp at e
    obtain ⟨-, -, -, -, rfl⟩ := e
    exact hl
  have HW1 := Lib.hid hw1
  have HNl := Lib.hid hunl
  generalize Q.ts = ts at *
  have hmx : um ≤ 1000000 := by
    have h1 := HLen.out
    have h2 := HNR.out
    have h3 : ∀ l : List Ty, l.length ≤ nodesL l := by
      intro l
      induction l with
      | nil => exact Nat.zero_le _
      | cons t l ih => have := nodes_pos t; simp [nodesL]; omega
    have h4 := h3 rs
    rw [nodes] at h2
    omega
  have HUm : Hid (um = rs.length) := by show _ = _; rw [HLen.out]; exact hum
  clear HW d0 d1 d2 d3 d4 c0 c1 hQB2 hr hrx hum hunl hw1 hb1 hVb HB1 HB3 HSl
  go_upto_region 2 with (refine wpList_store5 rfl _ _ rfl _ _ _ _ _ _ HB21.out rfl _ _ _ _ _ _ _ rfl ?_; intro w2 hB2 hg2 hs2)
  have hb12 : Below w.heap.size w w2 := Below.grown HW1.out hg2 HW1.out.size (fun q hq => by cases hq; omega)
  have hk12 : ∀ b, b < w.heap.size → b < w1.heap.size → w2.heap[b]? = w1.heap[b]? := fun b hb hl => hg2.block b hl (by intro e; have := Option.some.inj e; omega)
  have HL2 : Hid (RepL w2 (fun b => S b ∧ b < w.heap.size) ts (.slice ua um uc)) := HL.out.kept (fun _ h => h) (fun b hb hl => hk12 b hb.2 hl)
  have HSl2 : Hid (SlG SltE w2 (fun b => S b ∧ b < w.heap.size) sl (.slice sa n sc)) := SlG.kept (fun _ h => h) (fun b hb hl => hk12 b hb.2 hl) HSl1.out
  have HB12 : Hid (BoxC 27 w2 w.heap.size [.slice sa n sc, .slice ta tn tc]) := HB11.out.grown hg2 (by intro e; have := Option.some.inj e; omega)
  have HB32 : Hid (Zero w2 (w.heap.size + 2)) := HB31.out.kept (hg2.block _ HB31.out.lt (by intro e; have := Option.some.inj e; omega))
  have HB22 := Lib.hid hB2
  have HW2 := Lib.hid hb12
  obtain ⟨d0, d1, d2, d3, d4⟩ := hB2.cells
  have hw2l : w.heap.size + 3 ≤ w2.heap.size := HB32.out.lt
  clear hB2 hg2 hs2 hb12 hk12 HL HSl1 HB11 HB31 HB21 HW1
  by_cases hz : um = 0
  · subst hz
    have hrs : rs = [] := List.eq_nil_of_length_eq_zero HUm.out.symm
    have HE : Hid (∀ W : World, Rep W (fun b => w.heap.size ≤ b) (.mk rk un ri rh rs) (.agg #[.int .i64 rk, .string un, .int .i64 ri, .int .i64 rh, .slice ua 0 uc])) := by
      intro W
      subst hrs
      refine Rep.close HNl.out ⟨ua, uc, rfl, ⟨Nat.zero_le _, ?_⟩, fun j t h => by simp at h⟩
      obtain ⟨a, cap, e, ⟨-, h2⟩, -⟩ := HL2.out
      simp only [Value.slice.injEq] at e
      obtain ⟨-, -, rfl⟩ := e
      exact h2
    clear hrs
    go_wp2_with (refine wpList_store5 rfl _ _ rfl _ _ _ _ _ _ HB32.out rfl _ _ _ _ _ _ _ rfl ?_; intro w3 hB3 hg3 hs3)
    obtain ⟨c0, c1, c2, c3, c4⟩ := hB3.cells
    refine bodyPost_ret (by simp [results, Try.results27, go_sem, c0, c1, c2, c3, c4]; try rfl) rfl ?_
    exact ⟨_, rfl, HE.out w3, Below.grown HW2.out hg3 HW2.out.size (fun q hq => by cases hq; omega)⟩
  · have hz1 : ¬ ((um : Int) = 0) := by omega
    go_upto_region 5 with (at_make; refine wpList_makeZ zr_ty rfl _ _ rfl um _ rfl rfl rfl hmx ?_; intro cur hcur)
    have hal : Below w2.heap.size w2 (w2.alloc (.cells cur TyE.e)) := (Below.refl _ w2).alloc (Nat.le_refl _) _
    have H0 : Hid (RvSt w sl S (.slice sa n sc) (.slice ta tn tc) rk un ri rh ua um uc ts rs w2.heap.size 0 (w2.alloc (.cells cur TyE.e))) := ⟨HB12.out.lift hal, Box.lift HB22.out hal, Box.lift HB32.out hal, HSl2.out.up hal, HL2.out.lift hal, by
      rw [fillR_zero, ← HUm.out]
      exact rowG_zeros zr_ty (heap_alloc_new w2 _) hcur hmx _ hw2l _, HW2.out.trans (hal.mono HW2.out.size)⟩
    have HG := Lib.hid hw2l
    clear HB12 HB22 HB32 HSl2 HL2 HW2 hcur d0 d1 d2 d3 d4 hw2l
    generalize (w2.alloc (.cells cur TyE.e)) = w3 at *
    generalize w2.heap.size = g at *
    have d4 := H0.out.box.cells.2.2.2.2
    go_wp2
    clear d4
    go_loopw [23] (fun x wr => ∃ j : Nat, j ≤ um ∧ x = .int .i64 j ∧ Hid (RvSt w sl S (.slice sa n sc) (.slice ta tn tc) rk un ri rh ua um uc ts rs g j wr)) (fun x _ => um - (intOf x).toNat)
    case atStart => exact ⟨0, Nat.zero_le _, rfl, H0⟩
    case round =>
      clear H0
      obtain ⟨j, hj, rfl, HR⟩ := hrel
      have hws := HR.out.low.size
      by_cases hlt : j < um
      · have hji : (j : Int) < (um : Int) := by omega
        obtain ⟨U, hU⟩ : ∃ U, ts[j]? = some U := ⟨_, List.getElem?_eq_getElem (by rw [← HLen.out, ← HUm.out]; exact hlt)⟩
        obtain ⟨r, hr, hres⟩ := resL_get _ _ HRl.out j U hU
        obtain ⟨a', cap', e', -, hjj⟩ := HR.out.args
        simp only [Value.slice.injEq] at e'
        obtain ⟨rfl, -, rfl⟩ := e'
        obtain ⟨ad, x, rfl, hS, h5, hx⟩ := hjj j U hU
        obtain ⟨xn', xa', xm', xc', rfl, -, -⟩ := hx.frm
        obtain ⟨p0, p1, p2, p3, p4⟩ := five_at h5
        have HX := Lib.hid hx
        have hrn : nodes r ≤ 1000000 := by
          have h1 := nodesL_mem (List.mem_of_getElem? hr)
          have h2 := HNR.out
          rw [nodes] at h2
          omega
        have HC : Hid (∀ W, Below wr.heap.size wr W → Calls Try.prog 27 #[.agg #[.slice sa n sc, .slice ta tn tc], .agg #[.int .i64 U.k, .string xn', .int .i64 U.i, .int .i64 U.h, .slice xa' xm' xc']] W fun e w' => ∃ u, e = .returned u ∧ Rep w' (fun b => W.heap.size ≤ b) r u ∧ Below W.heap.size W w') := fun W hb =>
          HIH.out r (List.mem_of_getElem? hr) U sa sc ta tn tc _ _ W hres hrn (HR.out.slots.up hb) (hx.lift hb)
        have HFs := Lib.hid (fillR_set hr)
        have HFg : Hid ((fillR rs j)[j]? = some zTy) := by
          show _ = _
          unfold fillR
          have hl : (rs.take j).length = j := by rw [List.length_take, ← HUm.out]; omega
          rw [List.getElem?_append_right (by omega), hl, Nat.sub_self, List.getElem?_replicate, if_pos (by rw [← HUm.out]; omega)]
        clear hjj h5 hx hS hU hr hres hrn
        generalize U.k = k' at *
        generalize U.i = i' at *
        generalize U.h = h' at *
        have HZ : Hid (Zero (wr.alloc (.cells #[.int .i64 0, .string ⟨#[]⟩, .int .i64 0, .int .i64 0, .slice none 0 0] 31)) wr.heap.size) := Box.made _ _ _ _ _ _
        have hal := (Below.refl _ wr).alloc (Nat.le_refl _) (.cells #[.int .i64 0, .string ⟨#[]⟩, .int .i64 0, .int .i64 0, .slice none 0 0] 31)
        go_upto_region 8 with (refine wpList_store5 rfl _ _ rfl _ _ _ _ _ _ HZ.out rfl _ _ _ _ _ _ _ rfl ?_; intro w4 hB4 hg4 hs4)
        have hb4 : Below wr.heap.size wr w4 := Below.grown hal hg4 hal.size (fun z hz => by cases hz; exact Nat.le_refl _)
        have HR4 := Lib.hid (HR.out.lift hb4)
        have HC4 := Lib.hid (HC.out w4 hb4)
        obtain ⟨f0, f1, f2, f3, f4⟩ := hB4.cells
        have c0 := HR4.out.store.cell 0 _ rfl
        have c1 := HR4.out.store.cell 1 _ rfl
        have hg4l := (HR4.out.row.lt g rfl).2
        have hw4 := HR4.out.zero.lt
        clear hB4 hg4 hs4 hal hb4 p0 p1 p2 p3 p4 HX HC HZ HR
        go_wp2_with fail
        go_at_call 27
        refine HC4.out.mono ?_
        rintro e w5 ⟨u, rfl, hru, hb5⟩
        have HR5 := Lib.hid (HR4.out.lift hb5)
        obtain ⟨yn, ya, ym, yc, rfl, -, -⟩ := hru.frm
        have HRu : Hid (Rep w5 (fun b => w.heap.size + 3 ≤ b ∧ b ≠ g) r (.agg #[.int .i64 r.k, .string yn, .int .i64 r.i, .int .i64 r.h, .slice ya ym yc])) := hru.imp fun b hb => by show _ ∧ _; omega
        generalize r.k = k5 at *
        generalize r.i = i5 at *
        generalize r.h = h5 at *
        clear hru hb5 HR4 HC4 f0 f1 f2 f3 f4 c0 c1
        have HFl : Hid (j < (fillR rs j).length) := by show _ < _; rw [fillR_len rs (by rw [← HUm.out]; omega), ← HUm.out]; exact hlt
        obtain ⟨z1, z2, z3, z4, z5, z6, z7, ⟨q0, q1, q2, q3, q4⟩, qf⟩ := HR5.out.row.ats HFl.out
        have HPut := Lib.hid (HR5.out.row.putTy HFl.out HRu.out)
        have f0 := qf (j * 5)
        have f1 := qf (j * 5 + 1)
        have f2 := qf (j * 5 + 2)
        have f3 := qf (j * 5 + 3)
        have f4 := qf (j * 5 + 4)
        clear qf
        go_wp2
        have HR6 := Lib.hid (HR5.out.put (by rw [← HFs.out]; exact HPut.out.1) HPut.out.2)
        clear q0 q1 q2 q3 q4 f0 f1 f2 f3 f4 HR5 HRu HPut
        go_roundw
        case rel => exact ⟨j + 1, hlt, by go_num, HR6⟩
        case measure => simp [intOf]; omega
      · obtain rfl : j = um := by omega
        obtain ⟨d0, d1, d2, d3, d4⟩ := HR.out.box.cells
        have f4 := HR.out.box.frozen.2.2.2.2
        obtain ⟨hB, hZ, hRp, hLw⟩ := HR.out.fin HUm.out HNl.out
        have HBx := Lib.hid hB
        have HZx := Lib.hid hZ
        have HRx := Lib.hid hRp
        have HLx := Lib.hid hLw
        clear hB hZ hRp hLw
        go_upto_region 11 with fail
        clear d0 d1 d2 d3 d4 f4 HR
        generalize (wr.setCell ⟨w.heap.size + 1, 4, none⟩ (.slice (some ⟨g, 0, none⟩) j j)) = x at *
        obtain ⟨d0, d1, d2, d3, d4⟩ := HBx.out.cells
        go_wp2_with (refine wpList_store5 rfl _ _ rfl _ _ _ _ _ _ HZx.out rfl _ _ _ _ _ _ _ rfl ?_; intro w3 hB3 hg3 hs3)
        obtain ⟨c0, c1, c2, c3, c4⟩ := hB3.cells
        refine bodyPost_ret (by simp [results, Try.results27, go_sem, c0, c1, c2, c3, c4]; try rfl) rfl ?_
        exact ⟨_, rfl, HRx.out.kept (fun b hb => by omega) (fun b hb hl => hg3.block b hl (by intro e; have := Option.some.inj e; omega)), Below.grown HLx.out hg3 HLx.out.size (fun q hq => by cases hq; omega)⟩
theorem resolved_any (sl : List Slt) (n : Nat) (hn : n = sl.length) (hm : n ≤ 1000000) (R : Ty) : RsAt Try.prog 27 sl n R := Ty.induct (fun R ih => resolved_of sl n hn hm R ih) R
set_option maxRecDepth 100000 in
set_option maxHeartbeats 6400000 in
/-- Resolve: the resolved form, if it is small. -/
theorem resolve_any (sl : List Slt) (n : Nat) (hn : n = sl.length) (hm : n ≤ 1000000) (T : Ty) (sa : Option Addr) (sc : Nat) (ta : Option Addr) (tn tc : Nat) (v : Value) (S : Nat → Prop) (w : World) (hs : SlG SltE w S sl (.slice sa n sc)) (hv : Rep w S T v) :
    Calls Try.prog 12 #[.agg #[.slice sa n sc, .slice ta tn tc], v] w fun e w' => (∃ u b, e = .returned (.tuple #[u, .bool b]) ∧ b = decide (szF (walkF sl n) 4001 T 4000 ≤ 4000) ∧ (b = true → ∀ R, Res (walkF sl n) R T → Rep w' (fun b => w.heap.size ≤ b) R u) ∧ (b = false → Rep w' (fun b => w.heap.size ≤ b) zTy u)) ∧ Below w.heap.size w w' := by
  obtain ⟨nm, xa, xn, xc, rfl, -, -⟩ := hv.frm
  have HC : Hid (∀ W, Below w.heap.size w W → Calls Try.prog 13 #[.agg #[.slice sa n sc, .slice ta tn tc], .agg #[.int .i64 T.k, .string nm, .int .i64 T.i, .int .i64 T.h, .slice xa xn xc], .int .i64 4000] W _) := fun W hb => size_any sl n hn hm 4000 (Nat.le_refl _) T sa sc ta tn tc _ S W (hs.up hb) (hv.lift hb)
  have HRs : Hid (∀ R, Res (walkF sl n) R T → nodes R ≤ 1000000 → ∀ W, Below w.heap.size w W → Calls Try.prog 27 #[.agg #[.slice sa n sc, .slice ta tn tc], .agg #[.int .i64 T.k, .string nm, .int .i64 T.i, .int .i64 T.h, .slice xa xn xc]] W fun e w' => ∃ u, e = .returned u ∧ Rep w' (fun b => W.heap.size ≤ b) R u ∧ Below W.heap.size W w') := fun R h1 h2 W hb => resolved_any sl n hn hm R T sa sc ta tn tc _ S W h1 h2 (hs.up hb) (hv.lift hb)
  generalize T.k = k at *
  generalize T.i = i at *
  generalize T.h = hh at *
  obtain ⟨V, hV⟩ : ∃ V, V = ((w.alloc (.cells #[.slice sa n sc, .slice ta tn tc] 27)).alloc (.cells #[.int .i64 k, .string nm, .int .i64 i, .int .i64 hh, .slice xa xn xc] 31)).alloc (.cells #[.int .i64 0, .string ⟨#[]⟩, .int .i64 0, .int .i64 0, .slice none 0 0] 31) := ⟨_, rfl⟩
  have hVb : Below w.heap.size w V := by rw [hV]; exact (((Below.refl _ w).alloc (Nat.le_refl _) _).alloc (by simp) _).alloc (by simp; omega) _
  have hB1 : BoxC 27 V w.heap.size [.slice sa n sc, .slice ta tn tc] := by unfold BoxC; rw [hV, heap_at, if_neg (by simp; omega), heap_at, if_neg (by simp), heap_at, if_pos rfl]
  have hB2 : Box V (w.heap.size + 1) (.int .i64 k) (.string nm) (.int .i64 i) (.int .i64 hh) (.slice xa xn xc) := by unfold Box; rw [hV, heap_at, if_neg (by simp), heap_at, if_pos (by simp)]
  have hB3 : Zero V (w.heap.size + 2) := by unfold Zero Box; rw [hV, heap_at, if_pos (by simp)]
  have HB1 := Lib.hid hB1
  have HB2 := Lib.hid hB2
  have HB3 := Lib.hid hB3
  have HVl : Hid (w.heap.size + 2 < V.heap.size) := hB3.lt
  obtain ⟨c0, c1⟩ : V.cell? ⟨w.heap.size, 0, none⟩ = some (.slice sa n sc) ∧ V.cell? ⟨w.heap.size, 1, none⟩ = some (.slice ta tn tc) := ⟨hB1.cell 0 _ rfl, hB1.cell 1 _ rfl⟩
  obtain ⟨d0, d1, d2, d3, d4⟩ := hB2.cells
  have HN := Lib.hid hn
  have HEx := Lib.hid (szF_ex (wk := walkF sl n) 4000 4001 T (by omega))
  have HSz : Hid (∀ R, Res (walkF sl n) R T → (szF (walkF sl n) 4001 T 4000 ≤ 4000 ↔ nodes R ≤ 4000)) := fun R hR => szF_iff hR (by omega)
  clear hB1 hB2 hB3 hv hs hn
  obtain ⟨z, hz⟩ : ∃ z, z = szF (walkF sl n) 4001 T 4000 := ⟨_, rfl⟩
  have e41 : szF (walkF sl n) (4000 + 1) T 4000 = z := hz.symm
  rw [e41] at HC
  rw [← hz] at HEx HSz ⊢
  clear hz e41
  go_enter Try.func12, Try.ntmps12
  go_upto_region 1 with fail
  rw [← hV]
  clear hV
  go_wp2_with fail
  go_at_call 13
  refine (HC.out V hVb).mono ?_
  rintro e w1 ⟨rfl, hb1⟩
  have hw1 := hVb.trans (hb1.mono hVb.size)
  have HW1 := Lib.hid hw1
  have HB31 := Lib.hid (Box.lift HB3.out hb1)
  clear c0 c1 d0 d1 d2 d3 d4
  by_cases hz4 : z ≤ 4000
  · have hzi : (z : Int) ≤ 4000 := by omega
    obtain ⟨R, hR⟩ := HEx.out hz4
    have HR := Lib.hid hR
    have hRn : nodes R ≤ 4000 := ((HSz.out R hR).1 hz4)
    have HCr := Lib.hid (HRs.out R hR (by omega) w1 hw1)
    have c0 := (HB1.out.lift hb1).cell 0 _ rfl
    have c1 := (HB1.out.lift hb1).cell 1 _ rfl
    obtain ⟨d0, d1, d2, d3, d4⟩ := Box.cells (Box.lift HB2.out hb1)
    have hVs := HVl.out
    have hw1V := hb1.size
    clear hR hb1 HC HRs HEx HB1 HB2 HB3
    go_wp2_with fail
    go_at_call 27
    refine HCr.out.mono ?_
    rintro e w2 ⟨u, rfl, hr, hb2⟩
    have HB32 := Lib.hid (Box.lift HB31.out hb2)
    have HW2 := Lib.hid (hw1.trans (hb2.mono hw1.size))
    obtain ⟨yn, ya, ym, yc, rfl, -, -⟩ := hr.frm
    have HRp := Lib.hid hr
    generalize R.k = k5 at *
    generalize R.i = i5 at *
    generalize R.h = h5 at *
    clear hr hb2 c0 c1 d0 d1 d2 d3 d4 hw1
    go_wp2_with (refine wpList_store5 rfl _ _ rfl _ _ _ _ _ _ HB32.out rfl _ _ _ _ _ _ _ rfl ?_; intro w3 hB3 hg3 hs3)
    obtain ⟨c0, c1, c2, c3, c4⟩ := hB3.cells
    refine bodyPost_ret (v := .tuple #[.agg #[.int .i64 k5, .string yn, .int .i64 i5, .int .i64 h5, .slice ya ym yc], .bool true]) (by simp [results, Try.results12, go_sem, c0, c1, c2, c3, c4]; try rfl) rfl ?_
    refine ⟨⟨_, true, rfl, by simp [hz4], fun _ R' hR' => ?_, fun h => by cases h⟩, Below.grown HW2.out hg3 HW2.out.size (fun q hq => by cases hq; omega)⟩
    rw [res_one R' R T hR' HR.out]
    exact HRp.out.kept (fun b hb => by have := hw1V; omega) (fun b hb hl => hg3.block b hl (by intro e; have := Option.some.inj e; omega))
  · have hzi : 4000 < (z : Int) := by omega
    go_wp2_with (refine wpList_store5 rfl _ _ rfl _ _ _ _ _ _ HB31.out rfl _ _ _ _ _ _ _ rfl ?_; intro w3 hB3 hg3 hs3)
    obtain ⟨c0, c1, c2, c3, c4⟩ := hB3.cells
    refine bodyPost_ret (v := .tuple #[.agg #[.int .i64 0, .string ⟨#[]⟩, .int .i64 0, .int .i64 0, .slice none 0 0], .bool false]) (by simp [results, Try.results12, go_sem, c0, c1, c2, c3, c4]; try rfl) rfl ?_
    exact ⟨⟨_, false, rfl, by simp; omega, (fun h => Bool.noConfusion h), fun _ => rep_leaf _ _ 0 ⟨#[]⟩ 0 0 (Nat.zero_le _)⟩, Below.grown HW1.out hg3 HW1.out.size (fun q hq => by cases hq; omega)⟩
end Go.Proofs.Ytejlhfjhpminjaa
