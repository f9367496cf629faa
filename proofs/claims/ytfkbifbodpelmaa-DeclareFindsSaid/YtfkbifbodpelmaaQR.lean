import Derived.Test.YtfkbifbodpelmaaTyPType
import Derived.Test.YtfkbifbodpelmaaTyRepl
import Derived.Deep.DeepCutAuto
import Derived.Deep.QuietTactic
import Derived.BigQuiet
import Derived.Lib.QuietBelow
/- What a loop holds that appends types to the arguments of a struct of its own. -/
namespace Go.Proofs.Ytfkbifbodpelmaa
open Go.RowKit Go.Sort Go.Shelf Go.Maps Mth

/-- The argument's struct, the result's, the struct that is filled, and its row. -/
structure OSt (w : World) (S : Nat → Prop) (a0 a1 a2 a3 a4 c0 c1 c2 c3 : Value) (old sv : Value) (acc : List Ty) (v : World) : Prop where
  a : Box v w.heap.size a0 a1 a2 a3 a4
  r : Zero v (w.heap.size + 1)
  box : Box v (w.heap.size + 2) c0 c1 c2 c3 old
  row : RowG TyE v (w.heap.size + 3) S sv acc
  low : Below w.heap.size w v
  size : w.heap.size + 3 ≤ v.heap.size
section
variable {w v v' : World} {S : Nat → Prop} {a0 a1 a2 a3 a4 c0 c1 c2 c3 old sv : Value} {acc : List Ty}
theorem OSt.lift (h : OSt w S a0 a1 a2 a3 a4 c0 c1 c2 c3 old sv acc v) (hb : Below v.heap.size v v') : OSt w S a0 a1 a2 a3 a4 c0 c1 c2 c3 old sv acc v' :=
  ⟨Box.lift h.a hb, Box.lift h.r hb, Box.lift h.box hb, h.row.lift hb, h.low.trans (hb.mono h.low.size), Nat.le_trans h.size hb.size⟩
theorem OSt.cell (h : OSt w S a0 a1 a2 a3 a4 c0 c1 c2 c3 old sv acc v) : v.cell? ⟨w.heap.size + 2, 4, none⟩ = some old := h.box.cells.2.2.2.2
theorem OSt.arg (h : OSt w S a0 a1 a2 a3 a4 c0 c1 c2 c3 old sv acc v) : v.cell? ⟨w.heap.size, 4, none⟩ = some a4 := h.a.cells.2.2.2.2
theorem OSt.cellA (h : OSt w S a0 a1 a2 a3 a4 c0 c1 c2 c3 old sv acc v) (o : Obj) : (v.alloc o).cell? ⟨w.heap.size + 2, 4, none⟩ = some old := (h.lift ((Below.refl _ v).alloc (Nat.le_refl _) o)).cell
theorem OSt.frozen (h : OSt w S a0 a1 a2 a3 a4 c0 c1 c2 c3 old sv acc v) : v.frozen? ⟨w.heap.size + 2, 4, none⟩ = false := h.box.frozen.2.2.2.2
/-- The field is stored. -/
theorem OSt.stored (hS : ¬ S (w.heap.size + 2)) (h : OSt w S a0 a1 a2 a3 a4 c0 c1 c2 c3 old sv acc v) : OSt w S a0 a1 a2 a3 a4 c0 c1 c2 c3 sv sv acc (v.setCell ⟨w.heap.size + 2, 4, none⟩ sv) := by
  obtain ⟨e1, e2, e3⟩ := set1 h.box 4 sv
  refine ⟨Box.grown h.a e2 (by intro e; have := Option.some.inj e; omega), Box.grown h.r e2 (by intro e; have := Option.some.inj e; omega), ?_, h.row.kept e2 (h.row.off (by omega)) (fun c hc e => by have := Option.some.inj e; subst this; exact hS hc), Below.grown h.low e2 h.low.size (fun k hk => by cases hk; omega), by rw [e3]; exact h.size⟩
  unfold Box
  rw [e1]
  simp
theorem step_pushO (h : OSt w S a0 a1 a2 a3 a4 c0 c1 c2 c3 old sv acc v) (x : Ty) (c : List Value) (hx : TyE.rep v (fun c => S c ∧ some c ≠ sv.ownBlock) x c) (X : Array Value) (hX : X = c.toArray)
    {ops : Array Oper} {o : Oper} {a : Act} {K : Act → World → Prop} {Q : Exit → Act → World → Prop} {E' : Prop} (Z : TypeId) (hgd : o.guard = none) (s y : Operand)
    (ho : o.op = .call { callee := .builtin .append, args := #[s, y], argTypes := #[30, 30] })
    (hs : a.eval s = sv) (nn : Nat) (hnn : nn = v.heap.size) (hy : a.eval y = .slice (some ⟨nn, 0, none⟩) 1 1) (N : Nat) (hN : N = acc.length + 1) (hb : N ≤ 1000000)
    (hK : ∀ (a' : Option Addr) (c' : Nat) (v3 : World), OSt w S a0 a1 a2 a3 a4 c0 c1 c2 c3 old (.slice a' N c') (acc ++ [x]) v3 → K (a.put o.dst (.slice a' N c')) v3) :
    if Region.wanted o (yielded ops a.tmps) = true then Oper.wp Try.prog o a (v.alloc (.cells X Z)) K Q else E' := by
  subst hnn hX
  have hba : Below v.heap.size v (v.alloc (.cells c.toArray Z)) := (Below.refl _ v).alloc (Nat.le_refl _) _
  have hA := h.lift hba
  have hlt := fun k e => RowG.lt h.row k e
  refine step_pushG TyE hgd s y ho (w.heap.size + 3) S sv acc hs hA.row v.heap.size Z c (heap_alloc_new v _) hy x (TyE.kept (fun _ h => h) (fun b _ hlt => hba.block b hlt) hx) N hN hb (Nat.le_trans h.size hba.size) ?_
  intro a' c' v3 hrow3 hg3
  exact hK a' c' v3 ⟨Box.grown hA.a hg3 (fun e => by have := (hlt _ e.symm).1; omega), Box.grown hA.r hg3 (fun e => by have := (hlt _ e.symm).1; omega), Box.grown hA.box hg3 (fun e => by have := (hlt _ e.symm).1; omega), hrow3, Below.grown hA.low hg3 hA.low.size (fun k hk => by have := (hlt k hk).1; omega), Nat.le_trans hA.size hg3.size⟩
end
end Go.Proofs.Ytfkbifbodpelmaa

/- The contract of the reference's Replace. -/
namespace Go.Proofs.Ytfkbifbodpelmaa
open Go.RowKit Go.Sort Go.Shelf Go.Maps Mth

theorem map_take_succ {α β : Type} (f : α → β) {l : List α} {j : Nat} {x : α} (h : l[j]? = some x) : (l.take (j + 1)).map f = (l.take j).map f ++ [f x] := by
  rw [List.take_add_one, h]; simp
/-- What holds when an argument was changed. -/
structure AfterR (w : World) (S : Nat → Prop) (a0 a1 a2 a3 a4 c0 c1 c2 c3 old sv : Value) (acc : List Ty) (V : Ty) (u : Value) (v : World) : Prop where
  o : OSt w S a0 a1 a2 a3 a4 c0 c1 c2 c3 old sv acc v
  rep : Rep v (fun c => S c ∧ some c ≠ sv.ownBlock) V u
theorem AfterR.lift {w : World} {S : Nat → Prop} {a0 a1 a2 a3 a4 c0 c1 c2 c3 old sv : Value} {acc : List Ty} {V : Ty} {u : Value} {v v' : World} (h : AfterR w S a0 a1 a2 a3 a4 c0 c1 c2 c3 old sv acc V u v) (hb : Below v.heap.size v v') : AfterR w S a0 a1 a2 a3 a4 c0 c1 c2 c3 old sv acc V u v' := ⟨h.o.lift hb, h.rep.lift hb⟩
end Go.Proofs.Ytfkbifbodpelmaa

/- The contract of the reference's Open. -/
namespace Go.Proofs.Ytfkbifbodpelmaa
open Go.RowKit Go.Sort Go.Shelf Go.Maps Mth

/-- Is it a quantified variable with an element of the list? -/
def opens (gs : List Ty) (k i : Int) : Bool := k == 2 && decide (0 ≤ i) && decide (i < (gs.length : Int))
mutual
def opn (gs : List Ty) : Ty → Ty
  | .mk k n i h ts => if opens gs k i = true then (gs[i.toNat]?).getD (.mk k n i h ts) else .mk k n i h (opnL gs ts)
def opnL (gs : List Ty) : List Ty → List Ty
  | [] => []
  | t :: l => opn gs t :: opnL gs l
end
theorem opnL_map (gs : List Ty) : ∀ l : List Ty, opnL gs l = l.map (opn gs) := by
  intro l
  induction l with
  | nil => rfl
  | cons t l ih => simp [opnL, ih]
/-- What the contract of an opening says. -/
def OpenAt (P : Program) (f : Nat) (gs : List Ty) (T : Ty) : Prop := ∀ (v av : Value) (S S0 : Nat → Prop) (w : World), nodes T ≤ 1000000 → RepL w S0 gs av → (∀ b, S0 b → S b ∧ b < w.heap.size) → (∀ b, w.heap.size ≤ b → S b) → Rep w S T v →
  Calls P f #[v, av] w fun e w' => ∃ u, e = .returned u ∧ Rep w' S (opn gs T) u ∧ Below w.heap.size w w'
/-- The three ways in which it is none. -/
theorem opens_no {gs : List Ty} {k i : Int} {m : Nat} (hm : m = gs.length) (h : opens gs k i = false) : (k == 2) = false ∨ ((k == 2) = true ∧ decide (0 ≤ i) = false) ∨ ((k == 2) = true ∧ 0 ≤ i ∧ decide (i < (m : Int)) = false) := by
  subst hm
  unfold opens at h
  cases h1 : (k == 2) with
  | false => exact .inl rfl
  | true =>
    by_cases h2 : 0 ≤ i
    · right; right
      refine ⟨rfl, h2, ?_⟩
      rw [h1] at h
      simpa [h2] using h
    · exact .inr (.inl ⟨rfl, by simpa using h2⟩)
theorem opens_yes {gs : List Ty} {k i : Int} (h : opens gs k i = true) : k = 2 ∧ 0 ≤ i ∧ i < (gs.length : Int) := by
  unfold opens at h
  simp only [Bool.and_eq_true, decide_eq_true_eq, beq_iff_eq] at h
  exact ⟨h.1.1, h.1.2, h.2⟩
theorem enterOpen (v u : Value) (w : World) : (callFunc 59 #[v, u]).run Try.prog w = .ok (.enter 59 #[v, u]) w := by kernel_rfl
set_option maxRecDepth 100000 in
set_option maxHeartbeats 6400000 in
theorem refOpen_of (σ : List Ty) (T : Ty) (H : ∀ U ∈ T.ts, OpenAt Try.prog 59 σ U) : OpenAt Try.prog 59 σ T := by
  intro v sv S S0 w hN hA h0 hf h
  have HA := Lib.hid hA
  obtain ⟨a, cap, rfl, ⟨hc1, hc2⟩, hj⟩ := hA
  have HJ := Lib.hid hj
  have HH := Lib.hid H
  obtain ⟨k, n, i, hm, s, eT, rfl, hn, hs⟩ := h.open
  have HR := Lib.hid h
  have HS := Lib.hid hs
  obtain ⟨sa, sc, rfl, ⟨hsc1, hsc2⟩, -⟩ := hs
  have hb2 : Below w.heap.size w ((w.alloc (.cells #[.int .i64 k, .string n, .int .i64 i, .int .i64 hm, .slice sa T.ts.length sc] 32)).alloc (.cells #[.int .i64 0, .string ⟨#[]⟩, .int .i64 0, .int .i64 0, .slice none 0 0] 32)) := ((Below.refl _ w).alloc (Nat.le_refl _) _).alloc (by simp) _
  have HBT : Hid (Box ((w.alloc (.cells #[.int .i64 k, .string n, .int .i64 i, .int .i64 hm, .slice sa T.ts.length sc] 32)).alloc (.cells #[.int .i64 0, .string ⟨#[]⟩, .int .i64 0, .int .i64 0, .slice none 0 0] 32)) w.heap.size (.int .i64 k) (.string n) (.int .i64 i) (.int .i64 hm) (.slice sa T.ts.length sc)) := by
    show Box _ _ _ _ _ _ _
    unfold Box; rw [heap_at, if_neg (by simp), heap_at, if_pos rfl]
  have HBZ : Hid (Zero ((w.alloc (.cells #[.int .i64 k, .string n, .int .i64 i, .int .i64 hm, .slice sa T.ts.length sc] 32)).alloc (.cells #[.int .i64 0, .string ⟨#[]⟩, .int .i64 0, .int .i64 0, .slice none 0 0] 32)) (w.heap.size + 1)) := by
    show Box _ _ _ _ _ _ _
    unfold Box; rw [heap_at, if_pos (by simp)]
  have hs2 : ((w.alloc (.cells #[.int .i64 k, .string n, .int .i64 i, .int .i64 hm, .slice sa T.ts.length sc] 32)).alloc (.cells #[.int .i64 0, .string ⟨#[]⟩, .int .i64 0, .int .i64 0, .slice none 0 0] 32)).heap.size = w.heap.size + 2 := by simp
  have HS2 := Lib.hid hs2
  have HB2 := Lib.hid hb2
  clear hs2 hb2
  cases hk : opens σ k i with
  | false =>
    have HE : Hid (opn σ T = .mk k n i hm (T.ts.map (opn σ))) := by
      show _ = _
      conv => lhs; rw [eT]
      unfold opn
      rw [if_neg (by rw [hk]; simp), opnL_map]
    have hnN := ts_nodes T
    have HNd : Hid (∀ U ∈ T.ts, nodes U ≤ 1000000) := fun U hU => by have := mem_nodes hU; omega
    have HNm := Lib.hid hn
    obtain ⟨l, hl⟩ : ∃ l, l = T.ts := ⟨_, rfl⟩
    rw [← hl] at HH HE HNd hnN hsc1 HBT HBZ HS2 HB2 HS ⊢
    have hA0 : ∀ v, Below w.heap.size w v → RepL v S0 σ (.slice a σ.length cap) := fun v hb => HA.out.lift hb
    have HAv := Lib.hid hA0
    obtain ⟨m, hm'⟩ : ∃ m, m = l.length := ⟨_, rfl⟩
    rw [← hm'] at hnN hsc1 HBT HBZ HS2 HB2 HS ⊢
    have HM := Lib.hid hm'
    obtain ⟨sl, hsl⟩ : ∃ m, m = σ.length := ⟨_, rfl⟩
    have hno := opens_no hsl hk
    rw [← hsl] at HAv hc1 ⊢
    clear hm' hl eT hn hj H h hk hA0 HA HJ hc1 hc2 hsc2 hsl
    go_enter Try.func59, Try.ntmps59
    go_upto_region 1 with fail
    generalize ((w.alloc (.cells #[.int .i64 k, .string n, .int .i64 i, .int .i64 hm, .slice sa m sc] 32)).alloc (.cells #[.int .i64 0, .string ⟨#[]⟩, .int .i64 0, .int .i64 0, .slice none 0 0] 32)) = W2 at *
    obtain ⟨b0, b1, b2, b3, b4⟩ := HBT.out.cells
    go_cut [21] (fun s21 wx => s21 = .bool false ∧ wx = W2)
    case first =>
      rcases hno with h1 | ⟨h1, h2⟩ | ⟨h1, h2, h3⟩
      all_goals
        go_wp2_with fail
        go_meet
        exact ⟨rfl, rfl⟩
    obtain ⟨rfl, hwc⟩ := hcut
    obtain rfl : W2 = wc := hwc.symm
    clear hno
    go_upto_region 3 with fail
    have HBM : Hid (∀ w : World, Zero (w.alloc (.cells #[.int .i64 0, .string ⟨#[]⟩, .int .i64 0, .int .i64 0, .slice none 0 0] 32)) w.heap.size) := fun w => Box.made _ _ _ _ _ _
    have HAl : Hid (∀ w : World, Below w.heap.size w (w.alloc (.cells #[.int .i64 0, .string ⟨#[]⟩, .int .i64 0, .int .i64 0, .slice none 0 0] 32))) := fun w => (Below.refl _ w).alloc (Nat.le_refl _) _
    go_upto_region 4 with (refine wpList_store5 rfl _ _ rfl _ _ _ _ _ _ (HBM.out _) rfl _ _ _ _ _ _ _ rfl ?_; intro w3 hB3 hg3 hs3)
    have e2 := HS2.out
    have h3 : w3.heap.size = w.heap.size + 3 := by rw [hs3]; simp [e2]
    rw [e2] at hB3 hg3
    have HO3 : Hid (OSt w (fun c => S c ∧ c ≠ w.heap.size + 1 ∧ c ≠ w.heap.size + 2) (.int .i64 k) (.string n) (.int .i64 i) (.int .i64 hm) (.slice sa m sc) (.int .i64 k) (.string n) (.int .i64 i) (.int .i64 hm) (.slice sa m sc) (.slice none 0 0) [] w3) :=
      ⟨Box.grown (Box.lift HBT.out (HAl.out W2)) hg3 (by intro e; have := Option.some.inj e; omega), Box.grown (Box.lift HBZ.out (HAl.out W2)) hg3 (by intro e; have := Option.some.inj e; omega), hB3, rowG_nil _ _ _ _, Below.grown (HB2.out.trans ((HAl.out W2).mono HB2.out.size)) hg3 (Nat.le_trans HB2.out.size (HAl.out W2).size) (fun k hk => by cases hk; omega), by omega⟩
    clear hs3 h3 hB3 hg3 HBT HBZ HB2 b0 b1 b2 b3 b4
    clear e2
    generalize W2.heap.size = D at *
    obtain rfl : D = w.heap.size + 2 := HS2.out
    clear HS2
    have hz := HO3.out.cell
    have hzf := HO3.out.frozen
    go_upto_region 5 with fail
    have HO4 := Lib.hid (HO3.out.stored (fun h => h.2.2 rfl))
    generalize w3.setCell _ _ = w4 at *
    clear hz hzf HO3 HAl HBM
    go_wp2
    go_loopw [6] (fun x wr => ∃ (j : Nat) (ya : Option Addr) (yc : Nat), j ≤ m ∧ x = .int .i64 j ∧ Hid (OSt w (fun c => S c ∧ c ≠ w.heap.size + 1 ∧ c ≠ w.heap.size + 2) (.int .i64 k) (.string n) (.int .i64 i) (.int .i64 hm) (.slice sa m sc) (.int .i64 k) (.string n) (.int .i64 i) (.int .i64 hm) (.slice ya j yc) (.slice ya j yc) ((l.take j).map (opn σ)) wr)) (fun x _ => m - (intOf x).toNat)
    case atStart => exact ⟨0, none, 0, Nat.zero_le _, rfl, HO4⟩
    case round =>
      obtain ⟨j, ya, yc, hj, rfl, HO⟩ := hrel
      have zarg := HO.out.arg
      have hsw := HO.out.size
      by_cases hlt : j < m
      · obtain ⟨U, hU⟩ : ∃ x, l[j]? = some x := ⟨_, List.getElem?_eq_getElem (by rw [← HM.out]; exact hlt)⟩
        have HUm : Hid (U ∈ l) := List.mem_of_getElem? hU
        have HStep := Lib.hid (map_take_succ (opn σ) hU)
        have hlow := HO.out.low
        obtain ⟨sad, scap, hv, -, hsj⟩ := HS.out
        simp only [Value.slice.injEq] at hv
        obtain ⟨rfl, -, rfl⟩ := hv
        obtain ⟨ad, x, rfl, hSa, h5, hx⟩ := hsj j U hU
        have hltd := h5.lt
        clear hsj hU
        have hbd : Below wr.heap.size wr wr.drew := (Below.refl _ wr).drew
        have hlowd := hlow.trans (hbd.mono hlow.size)
        have HOd := Lib.hid (HO.out.lift hbd)
        have g5 := h5.kept (hlowd.block _ hltd)
        have hxd := hx.bound.lift hlowd
        obtain ⟨k', n', i', h', s', eU, rfl, hn2, hs2⟩ := hxd.open
        obtain ⟨q0, q1, q2, q3, q4⟩ := five_at g5
        obtain ⟨sa', sc', rfl, -⟩ := hs2
        have HX := Lib.hid hxd
        have hji : (j : Int) < (m : Int) := by omega
        clear h5 hx g5 eU hn2 hSa hxd
        go_upto_region 8 with fail
        clear zarg
        have hlen : j + 1 = ((l.take j).map (opn σ)).length + 1 := by rw [List.length_map, List.length_take, ← HM.out]; omega
        have HLen := Lib.hid hlen
        clear hlen
        have hNb : j + 1 ≤ 1000000 := by omega
        generalize U.ts.length = sn' at *
        have HLow : Hid (∀ c, (Value.slice ya j yc).ownBlock = some c → w.heap.size + 3 ≤ c ∧ c < wr.drew.heap.size) := fun c e => RowG.lt HOd.out.row c e
        have HC : Hid (Calls Try.prog 59 #[.agg #[.int .i64 k', .string n', .int .i64 i', .int .i64 h', .slice sa' sn' sc'], .slice a sl cap] wr.drew fun e w' => ∃ u, e = .returned u ∧ AfterR w (fun c => S c ∧ c ≠ w.heap.size + 1 ∧ c ≠ w.heap.size + 2) (.int .i64 k) (.string n) (.int .i64 i) (.int .i64 hm) (.slice (some ad) m sc) (.int .i64 k) (.string n) (.int .i64 i) (.int .i64 hm) (.slice ya j yc) (.slice ya j yc) ((l.take j).map (opn σ)) (opn σ U) u w') :=
          (HH.out U HUm.out _ _ (fun c => S c ∧ (c < w.heap.size ∨ wr.drew.heap.size ≤ c)) S0 wr.drew (HNd.out U HUm.out) (HAv.out _ hlowd) (fun c hc => ⟨⟨(h0 c hc).1, .inl (h0 c hc).2⟩, Nat.lt_of_lt_of_le (h0 c hc).2 hlowd.size⟩) (fun c hc => ⟨hf c (Nat.le_trans hlowd.size hc), .inr hc⟩) (HX.out.imp fun c hc => ⟨hc.1, .inl hc.2⟩)).mono
            fun e w' ⟨u, h1, h2, h3⟩ => ⟨u, h1, HOd.out.lift h3, h2.imp fun c hc => ⟨⟨hc.1, by rcases hc.2 with h | h <;> have := HOd.out.size <;> omega, by rcases hc.2 with h | h <;> have := HOd.out.size <;> omega⟩, fun e => by have := HLow.out c e.symm; rcases hc.2 with h | h <;> omega⟩⟩
        have zd := HOd.out.cell
        have zarg := HOd.out.arg
        clear hlow hlowd hbd HX HLow HO HOd HH
        go_wp2_with fail
        go_region_law
          (first
            | ((with_reducible refine step_call2 59 enterOpen (.agg #[.int .i64 k', .string n', .int .i64 i', .int .i64 h', .slice sa' sn' sc']) (.slice a sl cap) (fun u w' => AfterR w (fun c => S c ∧ c ≠ w.heap.size + 1 ∧ c ≠ w.heap.size + 2) (.int .i64 k) (.string n) (.int .i64 i) (.int .i64 hm) (.slice (some ad) m sc) (.int .i64 k) (.string n) (.int .i64 i) (.int .i64 hm) (.slice ya j yc) (.slice ya j yc) ((l.take j).map (opn σ)) (opn σ U) u w') ?_ ?_ ?_ ?_); (rfl); (rfl); (exact HC.out); (rintro u v2 hF); (have HF := Lib.hid hF); (obtain ⟨uk, un, ui, uh, ua, un', uc, rfl⟩ := hF.rep.form); (have z4 := hF.o.cell); (have z4o := hF.o.cellA); (have z4d := (hF.lift (Below.refl _ v2).drew).o.cell); (have z4do := (hF.lift (Below.refl _ v2).drew).o.cellA); clear hF zd zarg)
            | ((with_reducible refine fitA v2 _ ?_); (refine step_pushO HF.out.o (opn σ U) [.int .i64 uk, .string un, .int .i64 ui, .int .i64 uh, .slice ua un' uc] HF.out.rep _ rfl _ (by rfl) _ _ (by rfl) (by rfl) _ rfl (by rfl) (j + 1) HLen.out hNb ?_); (intro a' c' v3 hP); (have HP3 := Lib.hid hP); (have c4 := hP.cell); (have f4 := hP.frozen); clear hP z4 z4o z4d z4do)
            | ((with_reducible refine fitA v2.drew _ ?_); (refine step_pushO (HF.out.lift (Below.refl _ v2).drew).o (opn σ U) [.int .i64 uk, .string un, .int .i64 ui, .int .i64 uh, .slice ua un' uc] (HF.out.lift (Below.refl _ v2).drew).rep _ rfl _ (by rfl) _ _ (by rfl) (by rfl) _ rfl (by rfl) (j + 1) HLen.out hNb ?_); (intro a' c' v3 hP); (have HP3 := Lib.hid hP); (have c4 := hP.cell); (have f4 := hP.frozen); clear hP z4 z4o z4d z4do))
        all_goals
          have HP4 := Lib.hid (HP3.out.stored (fun h => h.2.2 rfl))
          rw [← HStep.out] at HP4
          clear HP3 c4 f4 HF HC
          go_wp2
          go_roundw
          case rel => exact ⟨j + 1, a', c', hlt, by go_num, HP4⟩
          case measure => simp [intOf]; omega
      · obtain rfl : j = m := by omega
        have hjf : ¬ (j : Int) < (j : Int) := by omega
        obtain ⟨d0, d1, d2, d3, d4⟩ := HO.out.box.cells
        have HZ9 := Lib.hid HO.out.r
        have hnm := HNm.out
        go_wp2_with (refine wpList_store5 rfl _ _ rfl _ _ _ _ _ _ HZ9.out rfl _ _ _ _ _ _ _ rfl ?_; intro w9 hB9 hg9 hs9)
        obtain ⟨c0, c1, c2, c3, c4⟩ := hB9.cells
        refine bodyPost_ret (by simp [results, Try.results59, go_sem, c0, c1, c2, c3, c4]; try rfl) rfl ?_
        refine ⟨_, rfl, ?_, Below.grown HO.out.low hg9 HO.out.low.size (fun k hk => by cases hk; omega)⟩
        have hrow := HO.out.row
        rw [List.take_of_length_le (by rw [← HM.out]; exact Nat.le_refl _)] at hrow
        have hl := slG_repL (hrow.slG (S' := fun c => S c ∧ c ≠ w.heap.size + 1) (fun c hc => ⟨hc.1, hc.2.1⟩) (fun c hc => ⟨hf c (by omega), by omega⟩))
        rw [HE.out]
        exact (Rep.close hnm hl).kept (fun c hc => hc.1) (fun c hc hlt => hg9.block c hlt (by intro e; have := Option.some.inj e; exact hc.2 this))
  | true =>
    obtain ⟨rfl, hi0, hil⟩ := opens_yes hk
    obtain ⟨X, hX⟩ : ∃ x, σ[i.toNat]? = some x := ⟨_, List.getElem?_eq_getElem (by omega)⟩
    have HE : Hid (opn σ T = X) := by
      show _ = _
      conv => lhs; rw [eT]
      unfold opn
      rw [if_pos hk, hX]
      rfl
    obtain ⟨ad, x, rfl, hS, h5, hx⟩ := hj _ X hX
    obtain ⟨m, hmm⟩ : ∃ m, m = σ.length := ⟨_, rfl⟩
    rw [← hmm] at hc1 hil ⊢
    have g5 := h5.kept (HB2.out.block _ h5.lt)
    have HX := Lib.hid hx.bound
    obtain ⟨k', n', i', h', s', -, rfl, hn2, hs2⟩ := hx.open
    obtain ⟨q0, q1, q2, q3, q4⟩ := five_at g5
    obtain ⟨sa', sc', rfl, -⟩ := hs2
    obtain ⟨q, rfl⟩ : ∃ q : Nat, i = q := ⟨i.toNat, by omega⟩
    simp only [Int.toNat_natCast] at q0 q1 q2 q3 q4
    clear HA HH H hj HJ h eT hn hk HS hsc1 hsc2 hmm hX h5 g5 hx hn2 hS
    generalize X.ts.length = sn' at *
    generalize T.ts.length = sn at *
    have hqi : (q : Int) < (m : Int) := hil
    go_enter Try.func59, Try.ntmps59
    go_upto_region 1 with fail
    generalize ((w.alloc (.cells #[.int .i64 2, .string n, .int .i64 q, .int .i64 hm, .slice sa sn sc] 32)).alloc (.cells #[.int .i64 0, .string ⟨#[]⟩, .int .i64 0, .int .i64 0, .slice none 0 0] 32)) = W at *
    obtain ⟨b0, b1, b2, b3, b4⟩ := HBT.out.cells
    go_wp2_with (refine wpList_store5 rfl _ _ rfl _ _ _ _ _ _ HBZ.out rfl _ _ _ _ _ _ _ rfl ?_; intro w2 hB2 hg2 hs2)
    obtain ⟨c0, c1, c2, c3, c4⟩ := hB2.cells
    refine bodyPost_ret (by simp [results, Try.results59, go_sem, c0, c1, c2, c3, c4]; try rfl) rfl ?_
    refine ⟨_, rfl, ?_, Below.grown HB2.out hg2 HB2.out.size (fun j hj => by cases hj; omega)⟩
    rw [HE.out]
    exact (HX.out.lift HB2.out).kept (fun b hb => (h0 b hb.1).1) (fun b hb hlt => hg2.block b hlt (by intro e; have := Option.some.inj e; have := hb.2; omega))
theorem refOpen_any (gs : List Ty) (T : Ty) : OpenAt Try.prog 59 gs T := Ty.induct (refOpen_of gs) T
end Go.Proofs.Ytfkbifbodpelmaa

/- The contract of the package's Open. -/
namespace Go.Proofs.Ytfkbifbodpelmaa
open Go.RowKit Go.Sort Go.Shelf Go.Maps Mth

set_option maxHeartbeats 1600000 in
theorem openClosure_of (gs : List Ty) (U : Ty) (hU : nodes U ≤ 1000000) (H : OpenAt Try.prog 58 gs U) (W : World) (B : Nat) (sv : Value) (S0 : Nat → Prop) (hB : W.cell? ⟨B, 0, none⟩ = some sv) (hA : RepL W S0 gs sv) (h0 : ∀ b, S0 b → b < W.heap.size) :
    MapOf Try.prog 73 #[.pointer (some ⟨B, 0, none⟩)] (opn gs) W S0 U := by
  intro v S w hS hf hb h
  have hcell := (hb.cell (World.block_lt_of_cell? _ _ hB)).trans hB
  have hlt : B < w.heap.size := World.block_lt_of_cell? _ _ hcell
  have hA' := hA
  obtain ⟨a, cap, rfl, -⟩ := hA'
  obtain ⟨k, n, i, hm, s, -, rfl, -, hs⟩ := h.open
  obtain ⟨sa, sc, rfl, -⟩ := hs
  have HR := Lib.hid h
  have HA := Lib.hid (hA.lift hb)
  have hb2 : ∀ X Y, Below w.heap.size w ((w.alloc (.cells X 32)).alloc (.cells Y 32)) := fun X Y => ((Below.refl _ w).alloc (Nat.le_refl _) _).alloc (by simp) _
  have HC := Lib.hid (fun X Y => H _ _ (fun b => S b ∧ b ≠ w.heap.size + 1) S0 ((w.alloc (.cells X 32)).alloc (.cells Y 32)) hU (HA.out.lift (hb2 X Y))
    (fun b hb' => by have := h0 b hb'; have := hb.size; simp; exact ⟨⟨hS b hb', by omega⟩, by omega⟩) (fun b hb => by simp at hb; exact ⟨hf b (by omega), by omega⟩) ((HR.out.bound.lift (hb2 X Y)).imp fun b hb => ⟨hb.1, by omega⟩))
  clear h hA H
  generalize U.ts.length = sn at *
  generalize gs.length = sl at *
  show Calls Try.prog 73 #[.agg #[.int .i64 k, .string n, .int .i64 i, .int .i64 hm, .slice sa sn sc], .pointer (some ⟨B, 0, none⟩)] w _
  have hcl2 : ∀ X Y, ((w.alloc (.cells X 32)).alloc (.cells Y 32)).cell? ⟨B, 0, none⟩ = some (.slice a sl cap) := fun X Y => ((hb2 X Y).cell hlt).trans hcell
  go_enter Try.func73, Try.ntmps73
  go_wp2_with fail
  go_at_call 58
  refine (HC.out _ _).mono ?_
  rintro e w1 ⟨u, rfl, hrep, hb1⟩
  have hbw := (hb2 _ _).trans (hb1.mono (hb2 _ _).size)
  have HB : Hid (Zero w1 (w.heap.size + 1)) := Box.lift (by unfold Box; rw [heap_at, if_pos (by simp)]) hb1
  clear hb1
  have HRep := Lib.hid hrep
  obtain ⟨k2, n2, i2, h2, s2, -, rfl, -, hs3⟩ := hrep.open
  obtain ⟨sa2, sc2, rfl, -⟩ := hs3
  clear hrep
  generalize (opn gs U).ts.length = sn2 at *
  go_wp2_with (refine wpList_store5 rfl _ _ rfl _ _ _ _ _ _ HB.out rfl _ _ _ _ _ _ _ rfl ?_; intro w2 hB2 hg2 hs2)
  obtain ⟨c0, c1, c2, c3, c4⟩ := hB2.cells
  refine bodyPost_ret (by simp [results, Try.results73, go_sem, c0, c1, c2, c3, c4]; try rfl) rfl ?_
  exact ⟨_, rfl, HRep.out.kept (fun b hb => hb.1) (fun b hb hlt => hg2.block b hlt (by intro e; cases e; exact hb.2 rfl)), Below.grown hbw hg2 hbw.size (fun j hj => by cases hj; omega)⟩

set_option maxRecDepth 100000 in
set_option maxHeartbeats 3200000 in
theorem open_of (gs : List Ty) (T : Ty) (H : ∀ U ∈ T.ts, OpenAt Try.prog 58 gs U) : OpenAt Try.prog 58 gs T := by
  intro v sv S S0 w hN hA h0 hf h
  have eg : ∀ args w, (callFunc 73 args).run Try.prog w = .ok (.enter 73 args) w := enters_of Try.func73 (by kernel_rfl) rfl
  have HA := Lib.hid hA
  obtain ⟨a, cap, rfl, ⟨hc1, hc2⟩, hj⟩ := hA
  obtain ⟨k, n, i, hm, s, eT, rfl, hn, hs⟩ := h.open
  have HR := Lib.hid h
  obtain ⟨sa, sc, rfl, -⟩ := hs
  have hb3 : ∀ X Y Z, Below w.heap.size w (((w.alloc (.cells X 32)).alloc (.cells Y 30)).alloc (.cells Z 32)) := fun X Y Z => (((Below.refl _ w).alloc (Nat.le_refl _) _).alloc (by simp) _).alloc (by simp; omega) _
  cases hk : opens gs k i with
  | false =>
    have HE : Hid (opn gs T = .mk T.k T.n T.i T.h (T.ts.map (opn gs))) := by
      show _ = _
      conv => lhs; rw [eT]
      conv => rhs; rw [eT]
      unfold opn
      rw [if_neg (by rw [hk]; simp), opnL_map]
      rfl
    have HC : Hid (∀ X Y Z, Y = #[Value.slice a gs.length cap] → Calls Try.prog 72 #[.agg #[.int .i64 k, .string n, .int .i64 i, .int .i64 hm, .slice sa T.ts.length sc], .func (.func 73) #[] #[.pointer (some ⟨w.heap.size + 1, 0, none⟩)]] (((w.alloc (.cells X 32)).alloc (.cells Y 30)).alloc (.cells Z 32))
        fun e w' => ∃ u, e = .returned u ∧ Rep w' (fun b => S b ∧ b ≠ w.heap.size + 1 + 1) (.mk T.k T.n T.i T.h (T.ts.map (opn gs))) u ∧ Below (((w.alloc (.cells X 32)).alloc (.cells Y 30)).alloc (.cells Z 32)).heap.size (((w.alloc (.cells X 32)).alloc (.cells Y 30)).alloc (.cells Z 32)) w') := by
      rintro X Y Z rfl
      have hsW : (((w.alloc (.cells X 32)).alloc (.cells #[Value.slice a gs.length cap] 30)).alloc (.cells Z 32)).heap.size = w.heap.size + 1 + 1 + 1 := by simp
      have hcell : (((w.alloc (.cells X 32)).alloc (.cells #[Value.slice a gs.length cap] 30)).alloc (.cells Z 32)).cell? ⟨w.heap.size + 1, 0, none⟩ = some (.slice a gs.length cap) := keep_alloc _ (by simp)
      refine withArgs_of _ _ eg (opn gs) S0 T _ (fun b => S b ∧ b ≠ w.heap.size + 1 + 1) _ (fun b hb => ⟨⟨(h0 b hb).1, by have := (h0 b hb).2; omega⟩, Nat.lt_of_lt_of_le (h0 b hb).2 (hb3 X _ Z).size⟩) (fun b hb => ⟨hf b (by rw [hsW] at hb; omega), by rw [hsW] at hb; omega⟩) (by have := ts_nodes T; omega) (fun U hU => ?_) ((HR.out.bound.imp fun b hb => ⟨hb.1, by omega⟩).lift (hb3 X _ Z))
      exact openClosure_of gs U (by have := mem_nodes hU; omega) (H U hU) _ _ (.slice a gs.length cap) S0 hcell (HA.out.lift (hb3 X _ Z)) (fun b hb => Nat.lt_of_lt_of_le (h0 b hb).2 (hb3 X _ Z).size)
    obtain ⟨sl, hsl⟩ : ∃ m, m = gs.length := ⟨_, rfl⟩
    have hno := opens_no hsl hk
    rw [← hsl] at HC ⊢
    clear HA H hj h eT hn hk hsl hc1
    generalize T.ts.length = sn at *
    go_enter Try.func58, Try.ntmps58
    go_upto_region 1 with fail
    go_cut [19] (fun s19 wx => s19 = .bool false ∧ wx = (((w.alloc (.cells #[.int .i64 k, .string n, .int .i64 i, .int .i64 hm, .slice sa sn sc] 32)).alloc (.cells #[.slice a sl cap] 30)).alloc (.cells #[.int .i64 0, .string ⟨#[]⟩, .int .i64 0, .int .i64 0, .slice none 0 0] 32)))
    case first =>
      rcases hno with h1 | ⟨h1, h2⟩ | ⟨h1, h2, h3⟩
      all_goals
        go_wp2_with fail
        go_meet
        exact ⟨rfl, rfl⟩
    obtain ⟨rfl, hwc⟩ := hcut
    subst hwc
    clear hno
    go_wp2_with fail
    go_at_call 72
    refine (HC.out _ _ _ rfl).mono ?_
    rintro e w1 ⟨u, rfl, hrep, hb1⟩
    have hbw := (hb3 _ _ _).trans (hb1.mono (hb3 _ _ _).size)
    have HB : Hid (Zero w1 (w.heap.size + 1 + 1)) := Box.lift (by unfold Box; rw [heap_at, if_pos (by simp)]) hb1
    clear hb1
    have HRep := Lib.hid hrep
    obtain ⟨k2, n2, i2, h2, s2, -, rfl, -, hs3⟩ := hrep.open
    obtain ⟨sa2, sc2, rfl, -⟩ := hs3
    clear hrep
    generalize (Ty.mk T.k T.n T.i T.h (T.ts.map (opn gs))).ts.length = sn2 at *
    go_wp2_with (refine wpList_store5 rfl _ _ rfl _ _ _ _ _ _ HB.out rfl _ _ _ _ _ _ _ rfl ?_; intro w2 hB2 hg2 hs2)
    obtain ⟨c0, c1, c2, c3, c4⟩ := hB2.cells
    refine bodyPost_ret (by simp [results, Try.results58, go_sem, c0, c1, c2, c3, c4]; try rfl) rfl ?_
    refine ⟨_, rfl, ?_, Below.grown hbw hg2 hbw.size (fun j hj => by cases hj; omega)⟩
    rw [HE.out]
    exact HRep.out.kept (fun b hb => hb.1) (fun b hb hlt => hg2.block b hlt (by intro e; cases e; exact hb.2 rfl))
  | true =>
    obtain ⟨rfl, hi0, hil⟩ := opens_yes hk
    obtain ⟨X, hX⟩ : ∃ x, gs[i.toNat]? = some x := ⟨_, List.getElem?_eq_getElem (by omega)⟩
    have HE : Hid (opn gs T = X) := by
      show _ = _
      conv => lhs; rw [eT]
      unfold opn
      rw [if_pos hk, hX]
      rfl
    obtain ⟨ad, x, rfl, hS, h5, hx⟩ := hj _ X hX
    obtain ⟨m, hmm⟩ : ∃ m, m = gs.length := ⟨_, rfl⟩
    rw [← hmm] at hc1 hil ⊢
    have HB2 := Lib.hid (hb3 #[.int .i64 2, .string n, .int .i64 i, .int .i64 hm, .slice sa T.ts.length sc] #[.slice (some ad) m cap] #[.int .i64 0, .string ⟨#[]⟩, .int .i64 0, .int .i64 0, .slice none 0 0])
    have HBT : Hid (Box (((w.alloc (.cells #[.int .i64 2, .string n, .int .i64 i, .int .i64 hm, .slice sa T.ts.length sc] 32)).alloc (.cells #[.slice (some ad) m cap] 30)).alloc (.cells #[.int .i64 0, .string ⟨#[]⟩, .int .i64 0, .int .i64 0, .slice none 0 0] 32)) w.heap.size (.int .i64 2) (.string n) (.int .i64 i) (.int .i64 hm) (.slice sa T.ts.length sc)) := by
      show Box _ _ _ _ _ _ _
      unfold Box
      rw [heap_at, if_neg (by simp; omega), heap_at, if_neg (by simp), heap_at, if_pos rfl]
    have HBZ : Hid (Zero (((w.alloc (.cells #[.int .i64 2, .string n, .int .i64 i, .int .i64 hm, .slice sa T.ts.length sc] 32)).alloc (.cells #[.slice (some ad) m cap] 30)).alloc (.cells #[.int .i64 0, .string ⟨#[]⟩, .int .i64 0, .int .i64 0, .slice none 0 0] 32)) (w.heap.size + 1 + 1)) := by
      show Box _ _ _ _ _ _ _
      unfold Box
      rw [heap_at, if_pos (by simp)]
    have hz3 : (((w.alloc (.cells #[.int .i64 2, .string n, .int .i64 i, .int .i64 hm, .slice sa T.ts.length sc] 32)).alloc (.cells #[.slice (some ad) m cap] 30)).alloc (.cells #[.int .i64 0, .string ⟨#[]⟩, .int .i64 0, .int .i64 0, .slice none 0 0] 32)).cell? ⟨w.heap.size + 1, 0, none⟩ = some (.slice (some ad) m cap) := keep_alloc _ (by simp)
    have g5 := h5.kept (HB2.out.block _ h5.lt)
    have HX := Lib.hid hx.bound
    obtain ⟨k', n', i', h', s', -, rfl, hn2, hs2⟩ := hx.open
    obtain ⟨q0, q1, q2, q3, q4⟩ := five_at g5
    obtain ⟨sa', sc', rfl, -⟩ := hs2
    obtain ⟨q, rfl⟩ : ∃ q : Nat, i = q := ⟨i.toNat, by omega⟩
    simp only [Int.toNat_natCast] at q0 q1 q2 q3 q4
    clear HA H hj h eT hn hk hmm hX h5 g5 hx hn2 hS hb3
    generalize X.ts.length = sn' at *
    generalize T.ts.length = sn at *
    have hqi : (q : Int) < (m : Int) := hil
    go_enter Try.func58, Try.ntmps58
    go_upto_region 1 with fail
    generalize (((w.alloc (.cells #[.int .i64 2, .string n, .int .i64 q, .int .i64 hm, .slice sa sn sc] 32)).alloc (.cells #[.slice (some ad) m cap] 30)).alloc (.cells #[.int .i64 0, .string ⟨#[]⟩, .int .i64 0, .int .i64 0, .slice none 0 0] 32)) = W at *
    obtain ⟨b0, b1, b2, b3, b4⟩ := HBT.out.cells
    go_wp2_with (refine wpList_store5 rfl _ _ rfl _ _ _ _ _ _ HBZ.out rfl _ _ _ _ _ _ _ rfl ?_; intro w2 hB2 hg2 hs2)
    obtain ⟨c0, c1, c2, c3, c4⟩ := hB2.cells
    refine bodyPost_ret (by simp [results, Try.results58, go_sem, c0, c1, c2, c3, c4]; try rfl) rfl ?_
    refine ⟨_, rfl, ?_, Below.grown HB2.out hg2 HB2.out.size (fun j hj => by cases hj; omega)⟩
    rw [HE.out]
    exact (HX.out.lift HB2.out).kept (fun b hb => (h0 b hb.1).1) (fun b hb hlt => hg2.block b hlt (by intro e; have := Option.some.inj e; have := hb.2; omega))
theorem open_any (gs : List Ty) (T : Ty) : OpenAt Try.prog 58 gs T := Ty.induct (open_of gs) T
end Go.Proofs.Ytfkbifbodpelmaa
