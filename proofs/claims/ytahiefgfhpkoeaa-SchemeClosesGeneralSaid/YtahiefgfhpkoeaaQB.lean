/- The contract of the maker's Vars. The contract of the maker's Named. The contract of the maker's Leaves. A tape whose choices lie before it, and the contract of its Next. The contract of the maker's Type. The contract of the law's made, and of the maker's Type for the ways that the laws call it. -/
import Derived.Test.YtahiefgfhpkoeaaQA
namespace Go.Proofs.Ytahiefgfhpkoeaa
open Go.RowKit Go.Sort Go.Shelf Go.Maps Mth

def varTy (i : Nat) : Ty := .mk 1 ⟨#[]⟩ i 0 []
set_option maxHeartbeats 1600000 in
theorem mkVars_any (n : Nat) (hn : n ≤ 1000) (w : World) : Calls Try.prog 41 #[.int .i64 n] w fun e w' => ∃ v, e = .returned v ∧ RowG TyE w' w.heap.size (fun c => w.heap.size ≤ c) v ((List.range n).map varTy) ∧ Below w.heap.size w w' := by
  go_enter Try.func41, Try.ntmps41
  go_wp2
  go_loopw [3, 4] (fun y x wr => ∃ j : Nat, j ≤ n ∧ x = .int .i64 j ∧ Hid (RowG TyE wr w.heap.size (fun c => w.heap.size ≤ c) y ((List.range j).map varTy)) ∧ Below w.heap.size w wr) (fun _ x _ => n - (intOf x).toNat)
  case atStart => exact ⟨0, Nat.zero_le _, rfl, rowG_nil _ _ _ _, Below.refl _ _⟩
  case round =>
    obtain ⟨j, hj, rfl, HRow, hb⟩ := hrel
    by_cases hlt : j < n
    · have HV := Lib.hid (refVar_any (j : Int) wr)
      have hji : (j : Int) < (n : Int) := by omega
      go_wp2_with fail
      go_at_call 22
      refine HV.out.mono ?_
      rintro e w1 ⟨rfl, hb1⟩
      have HRow1 := Lib.hid (HRow.out.lift hb1)
      have hbw := hb.trans (hb1.mono hb.size)
      have HN : Hid (∀ X Z, (w1.alloc (.cells X Z)).heap[w1.heap.size]? = some (.cells X Z (0, 0))) := fun X Z => heap_alloc_new w1 _
      have HB : Hid (∀ X, Below w1.heap.size w1 (w1.alloc X)) := fun X => (Below.refl _ w1).alloc (Nat.le_refl _) X
      have HRowA := Lib.hid (fun X => HRow1.out.lift (HB.out X))
      have hsz : w.heap.size ≤ w1.heap.size := hbw.size
      have HLow : Hid (∀ k, u3.ownBlock = some k → w.heap.size ≤ k) := fun k hk => (RowG.lt HRow.out k hk).1
      have HE : Hid (∀ W S, TyE.rep W S (varTy j) [.int .i64 1, .string ⟨#[]⟩, .int .i64 j, .int .i64 0, .slice none 0 0]) := fun W S => rep_leaf W S 1 ⟨#[]⟩ j 0 (Nat.zero_le _)
      clear hb1 HV HRow HRow1
      unfold leafV
      go_wp2_with (at_builtin; refine wpList_pushG TyE rfl _ _ rfl w.heap.size (fun c => w.heap.size ≤ c) u3 _ rfl (HRowA.out _) w1.heap.size _ [.int .i64 1, .string ⟨#[]⟩, .int .i64 j, .int .i64 0, .slice none 0 0] (HN.out _ _) rfl (varTy j) (HE.out _ _) (j + 1) (by simp) (by omega) (Nat.le_trans hsz (HB.out _).size) ?_; intro a3 c3 w3 hrow3 hg3; have HRow3 := Lib.hid hrow3; have hb3 := Below.grown (hbw.trans ((HB.out _).mono hsz)) hg3 (Nat.le_trans hsz (HB.out _).size) HLow.out; clear hrow3 hg3)
      have HRow4 : Hid (RowG TyE w3 w.heap.size (fun c => w.heap.size ≤ c) (.slice a3 (j + 1) c3) ((List.range (j + 1)).map varTy)) := by
        show RowG _ _ _ _ _ _
        rw [List.range_succ, List.map_append]
        exact HRow3.out
      go_roundw
      case rel => exact ⟨j + 1, hlt, by go_num, HRow4, hb3⟩
      case measure => simp [intOf]; omega
    · obtain rfl : n = j := by omega
      go_wp2
      go_ret
      exact ⟨_, rfl, HRow.out, hb⟩
end Go.Proofs.Ytahiefgfhpkoeaa

namespace Go.Proofs.Ytahiefgfhpkoeaa
open Go.RowKit Go.Sort Go.Shelf Go.Maps Mth

/-- A block that was laid with some elements. -/
theorem slG_block {α : Type} {E : El α} {w : World} {B : Nat} {L : List (List Value)} {xs : List α} {S : Nat → Prop} {Z : TypeId} (h : w.heap[B]? = some (.cells L.flatten.toArray Z (0, 0))) (hS : S B) (hr : ∀ (j : Nat) (x : α), xs[j]? = some x → ∃ c : List Value, L[j]? = some c ∧ E.rep w S x c) (hlen : ∀ c ∈ L, c.length = E.k) (hmax : xs.length ≤ maxLen) :
    SlG E w S xs (.slice (some ⟨B, 0, none⟩) xs.length xs.length) := by
  refine ⟨some ⟨B, 0, none⟩, xs.length, rfl, ⟨Nat.le_refl _, hmax⟩, fun j x hx => ?_⟩
  obtain ⟨c, hc, hrep⟩ := hr j x hx
  refine ⟨_, c, rfl, hS, fun m u hu => ?_, hrep⟩
  rw [add_zero, Nat.zero_add]
  exact (cell_of_block h (by simpa using flat_get E.k L hlen j m c u hc hu)).1
def namTy (c : UInt8) : Ty := .mk 5 ⟨#[c]⟩ 0 0 []
def namCells (c : UInt8) : List Value := [.int .i64 5, .string ⟨#[c]⟩, .int .i64 0, .int .i64 0, .slice none 0 0]
end Go.Proofs.Ytahiefgfhpkoeaa

namespace Go.Proofs.Ytahiefgfhpkoeaa
open Go.RowKit Go.Sort Go.Shelf Go.Maps Mth

theorem rowT_of {w : World} {base : Nat} {S : Nat → Prop} {v : Value} {ts : List Ty} (h : RowG TyE w base S v ts) : RowT w base S v ts := h
theorem rowG_of {w : World} {base : Nat} {S : Nat → Prop} {v : Value} {ts : List Ty} (h : RowT w base S v ts) : RowG TyE w base S v ts := h
theorem repL_at {w : World} {S : Nat → Prop} {ts : List Ty} {ad : Addr} {n c : Nat} (h : RepL w S ts (.slice (some ad) n c)) : ∀ j T, ts[j]? = some T → ∃ y, Five w ad j y ∧ Rep w S T y := by
  obtain ⟨a, cap, e, -, hj⟩ := h
  cases e
  intro j T hT
  obtain ⟨ad', x, e', -, h5, hx⟩ := hj j T hT
  cases e'
  exact ⟨x, h5, hx⟩
def leafTs : List Ty := [.mk 3 ⟨#[]⟩ 0 0 [], .mk 3 ⟨#[]⟩ 0 1 [], .mk 3 ⟨#[]⟩ 2 (-1) [], .mk 2 ⟨#[]⟩ 0 0 []]
def leafCells (k i h : Int) : List Value := [.int .i64 k, .string ⟨#[]⟩, .int .i64 i, .int .i64 h, .slice none 0 0]
end Go.Proofs.Ytahiefgfhpkoeaa

namespace Go.Proofs.Ytahiefgfhpkoeaa
open Go.RowKit Go.Sort Go.Shelf Go.Maps Mth

/-- A tape in a block of its own; its choices lie in an earlier block. -/
def Tq (w : World) (b : Nat) : Prop :=
  ∃ (zs : List Int) (a : Option Addr) (cap i : Nat), TapeAt w b (.slice a zs.length cap) i ∧ i ≤ zs.length ∧ zs.length ≤ 1000 ∧ ∀ (j : Nat) (x : Int), zs[j]? = some x → ∃ ad, a = some ad ∧ ad.block + 1 < b ∧ w.cell? (ad.add j) = some (.int .i64 x)
theorem Tq.lt {w : World} {b : Nat} (h : Tq w b) : b < w.heap.size := by
  obtain ⟨_, _, _, _, h, _⟩ := h
  exact h.lt
theorem Tq.lift {w w' : World} {b : Nat} (h : Tq w b) (hb : Below w.heap.size w w') : Tq w' b := by
  obtain ⟨zs, a, cap, i, h1, h2, h3, h4⟩ := h
  refine ⟨zs, a, cap, i, h1.lift hb, h2, h3, fun j x hx => ?_⟩
  obtain ⟨ad, e1, e2, e3⟩ := h4 j x hx
  exact ⟨ad, e1, e2, (hb.cell (World.block_lt_of_cell? _ _ e3)).trans e3⟩
theorem Tq.other {w w' : World} {b R : Nat} (h : Tq w b) (hR : b < R) (hg : w.grownBy w' (some R)) : Tq w' b := by
  obtain ⟨zs, a, cap, i, h1, h2, h3, h4⟩ := h
  have hl := h1.lt
  refine ⟨zs, a, cap, i, ?_, h2, h3, fun j x hx => ?_⟩
  · unfold TapeAt at *
    rw [hg.block b hl (by intro e; have := Option.some.inj e; omega), h1]
  · obtain ⟨ad, e1, e2, e3⟩ := h4 j x hx
    exact ⟨ad, e1, e2, hg.cell e3 (by rw [add_block]; intro e; have := Option.some.inj e; omega)⟩
theorem Tq.under {w w' : World} {b R : Nat} (h : Tq w b) (hR : R + 1 = b) (hg : w.grownBy w' (some R)) : Tq w' b := by
  obtain ⟨zs, a, cap, i, h1, h2, h3, h4⟩ := h
  have hl := h1.lt
  refine ⟨zs, a, cap, i, ?_, h2, h3, fun j x hx => ?_⟩
  · unfold TapeAt at *
    rw [hg.block b hl (by intro e; have := Option.some.inj e; omega), h1]
  · obtain ⟨ad, e1, e2, e3⟩ := h4 j x hx
    exact ⟨ad, e1, e2, hg.cell e3 (by rw [add_block]; intro e; have := Option.some.inj e; omega)⟩
set_option maxHeartbeats 1600000 in
theorem next_q (n : Int) (h1 : 1 ≤ n) (h2 : n ≤ 1000) (b : Nat) (w : World) (h : Tq w b) :
    Calls Try.prog 43 #[.pointer (some ⟨b, 0, none⟩), .int .i64 n] w fun e w' => ∃ r : Nat, e = .returned (.int .i64 r) ∧ (r : Int) < n ∧ Tq w' b ∧ w.grownBy w' (some b) := by
  obtain ⟨zs, a, cap, i, ht, hi, hl, hc⟩ := h
  obtain ⟨c0, c1, f1⟩ := ht.cells
  have HC := Lib.hid hc
  clear hc
  by_cases hlt : i < zs.length
  · have hge : decide ((zs.length : Int) ≤ (i : Int)) = false := by simpa using hlt
    obtain ⟨x, hx⟩ : ∃ x, zs[i]? = some x := ⟨_, List.getElem?_eq_getElem hlt⟩
    obtain ⟨ad, rfl, hne, hcx⟩ := HC.out i x hx
    clear hx
    have HT := Lib.hid ht
    have HM : Hid (∀ w, Calls Try.prog 17 #[.int .i64 x, .int .i64 n] w fun e w' => e = .returned (.int .i64 (x % n)) ∧ w' = w) := fun w => (mod_any x n w h1 (by omega)).mono fun _ _ ⟨a, b⟩ => ⟨a, b.symm⟩
    have e1 := Int.emod_nonneg x (b := n) (by omega)
    have e2 := Int.emod_lt_of_pos x (b := n) (by omega)
    generalize x % n = r at *
    clear ht
    obtain ⟨ln, hln⟩ : ∃ ln, ln = zs.length := ⟨_, rfl⟩
    rw [← hln] at hi hl hlt hge c0 HT
    have HL := Lib.hid hln
    clear hln
    go_enter Try.func43, Try.ntmps43
    go_wp2
    go_quiet (fail)
    go_wp2
    have hbd : Below w.heap.size w (w.drewN nq) := below_drewN (Below.refl _ w) nq
    have HT2 := Lib.hid (HT.out.lift hbd)
    have hset := set1 HT2.out 1 (.int .i64 ((i : Int) + 1))
    have HT3 : Hid (TapeAt ((w.drewN nq).setCell ⟨b, 1, none⟩ (.int .i64 ((i : Int) + 1))) b (.slice (some ad) ln cap) (i + 1)) := by
      show TapeAt _ _ _ _
      unfold TapeAt
      rw [hset.1]
      simp
    have HG : Hid (w.grownBy ((w.drewN nq).setCell ⟨b, 1, none⟩ (.int .i64 ((i : Int) + 1))) (some b)) := grown_trans (below_grown_some hbd b) hset.2.1
    have hcx3 : ((w.drewN nq).setCell ⟨b, 1, none⟩ (.int .i64 ((i : Int) + 1))).cell? (ad.add i) = some (.int .i64 x) := HG.out.cell hcx (by rw [add_block]; intro e; have := Option.some.inj e; omega)
    clear hset c0 c1 f1 hcx
    generalize ((w.drewN nq).setCell ⟨b, 1, none⟩ (.int .i64 ((i : Int) + 1))) = W at *
    obtain ⟨c0, c1, f1⟩ := HT3.out.cells
    have hwr : IntKind.i64.wrap (i : Int) = i := by rw [IntKind.wrap_i64]; omega
    go_quiet ((go_at_call 17; exact Calls.quiet_of_same (HM.out _)))
    go_wp2
    go_ret
    have hb2 : Below W.heap.size W (W.drewN nq) := below_drewN (Below.refl _ W) nq
    refine ⟨r.toNat, ret_int (by omega), by omega, ?_, grown_trans HG.out (below_grown_some hb2 b)⟩
    refine Tq.lift ⟨zs, some ad, cap, i + 1, by rw [← HL.out]; exact HT3.out, by rw [← HL.out]; omega, by rw [← HL.out]; omega, fun j y hy => ?_⟩ hb2
    obtain ⟨ad', e, h3, h4⟩ := HC.out j y hy
    exact ⟨ad', e, h3, HG.out.cell h4 (by rw [add_block]; intro e; have := Option.some.inj e; omega)⟩
  · have hge : decide ((zs.length : Int) ≤ (i : Int)) = true := by simpa using hlt
    go_enter Try.func43, Try.ntmps43
    go_wp2
    go_quiet (fail)
    go_wp2
    go_ret
    have hb : Below w.heap.size w (w.drewN nq) := below_drewN (Below.refl _ w) nq
    exact ⟨0, rfl, by omega, Tq.lift ⟨zs, a, cap, i, ht, hi, hl, HC.out⟩ hb, below_grown_some hb b⟩

/-- What a made type of a depth is. -/
def capN : Nat → Nat
  | 0 => 1
  | d + 1 => 2 * capN d + 1
def Ok (d : Nat) (T : Ty) : Prop := valid T = true ∧ nodes T ≤ capN d
theorem capN_pos (d : Nat) : 1 ≤ capN d := by cases d <;> simp [capN]
theorem capN_mono (d : Nat) : capN d ≤ capN (d + 1) := by simp [capN]; omega
/-- The names that the maker's declarations have, with up to two parameters. -/
def datOk (d : Dat) : Bool := conOk d.name d.params.length && decide (d.params.length ≤ 2) && decide (d.name.size ≤ 4000)
theorem all_dats : allDats.all datOk = true := by decide +kernel
theorem some_dat {ds : List Dat} (h : Some_ ds) {d : Dat} (hd : d ∈ ds) : conOk d.name d.params.length = true ∧ d.params.length ≤ 2 ∧ d.name.size ≤ maxLen := by
  have := List.all_eq_true.1 all_dats d (h.2 d hd)
  unfold datOk at this
  simp only [Bool.and_eq_true, decide_eq_true_eq] at this
  exact ⟨this.1.1, this.1.2, by unfold maxLen; omega⟩
theorem valid_con {n : ByteArray} {ts : List Ty} (h : conOk n ts.length = true) (hv : ∀ T ∈ ts, valid T = true) : valid (con n ts) = true := by
  unfold con
  simp only [valid]
  have : validL ts = true := by rw [validL_any]; simpa using hv
  simp [h, this]
theorem arr_con (T U : Ty) (h : valid T = true) (h' : valid U = true) : valid (con arrN [T, U]) = true :=
  valid_con (show conOk arrN 2 = true by decide +kernel) fun X hX => by
    simp at hX
    rcases hX with rfl | rfl
    · exact h
    · exact h'
theorem int_con : valid (con intN []) = true := valid_con (by decide +kernel) fun X hX => by simp at hX
theorem nodesL_le {ts : List Ty} {m : Nat} (h : ∀ T ∈ ts, nodes T ≤ m) : nodesL ts ≤ ts.length * m := by
  induction ts with
  | nil => simp [nodesL]
  | cons t ts ih =>
    have h1 := h t (by simp)
    have h2 := ih fun T hT => h T (by simp [hT])
    simp only [nodesL, List.length_cons, Nat.add_mul]
    omega
theorem ok_con {n : ByteArray} {ts : List Ty} {d : Nat} (h : conOk n ts.length = true) (hl : ts.length ≤ 2) (ht : ∀ T ∈ ts, Ok d T) : Ok (d + 1) (con n ts) := by
  refine ⟨valid_con h fun T hT => (ht T hT).1, ?_⟩
  have := nodesL_le (m := capN d) fun T hT => (ht T hT).2
  have h2 := Nat.mul_le_mul_right (capN d) hl
  unfold con
  simp only [nodes, capN]
  omega
theorem ok_int (d : Nat) : Ok d (con intN []) := ⟨int_con, by have := capN_pos d; simpa [con, nodes, nodesL] using this⟩
theorem ok_arr {T U : Ty} {d : Nat} (h : Ok d T) (h' : Ok d U) : Ok (d + 1) (con arrN [T, U]) :=
  ok_con (show conOk arrN 2 = true by decide +kernel) (by simp) fun X hX => by
    simp at hX
    rcases hX with rfl | rfl
    · exact h
    · exact h'
theorem ok_leaf {T : Ty} (d : Nat) (h : valid T = true) (ht : T.ts = []) : Ok d T := by
  refine ⟨h, ?_⟩
  have := capN_pos d
  cases T
  simp only [Ty.ts] at ht
  subst ht
  simpa [nodes, nodesL] using this
theorem rep_bare {w : World} {S : Nat → Prop} {T : Ty} {v : Value} (h : Rep w S T v) (ht : T.ts = []) (w' : World) (S' : Nat → Prop) : Rep w' S' T v := by
  obtain ⟨k, n, i, hm, s, eT, rfl, hn, hs⟩ := h.open
  rw [ht] at eT hs
  obtain ⟨a, cap, rfl, hc, _⟩ := hs
  rw [eT]
  exact Rep.close hn ⟨a, cap, rfl, hc, fun j T h => by simp at h⟩
/-- Leaves. -/
def LeafL (ls : List Ty) : Prop := ls.length ≤ 1000 ∧ ∀ T ∈ ls, valid T = true ∧ T.ts = []
/-- What the contract of the maker's Type says. -/
def MadeT (d base b : Nat) (w w' : World) (u : Value) : Prop := ∃ T, Rep w' (fun c => base ≤ c) T u ∧ Ok d T ∧ Tq w' b ∧ w.grownBy w' (some b)
def TyAt (d : Nat) : Prop := ∀ (z : Int) (ds : List Dat) (dv : Value) (ls : List Ty) (lv : Value) (S : Nat → Prop) (b base : Nat) (w : World), z = d → d ≤ 4 → Some_ ds → LeafL ls → SlG DatE w S ds dv → SlG TyE w S ls lv → (∀ c, S c → c ≠ b) → Tq w b → base ≤ w.heap.size →
  Calls Try.prog 13 #[.pointer (some ⟨b, 0, none⟩), dv, lv, .int .i64 z] w fun e w' => ∃ u, e = .returned u ∧ MadeT d base b w w' u
end Go.Proofs.Ytahiefgfhpkoeaa

namespace Go.Proofs.Ytahiefgfhpkoeaa
open Go.RowKit Go.Sort Go.Shelf Go.Maps Mth

theorem enterMk (v1 v2 v3 v4 : Value) (w : World) : (callFunc 13 #[v1, v2, v3, v4]).run Try.prog w = .ok (.enter 13 #[v1, v2, v3, v4]) w := by kernel_rfl
theorem step_call4 {P : Program} {ops : Array Oper} {a : Act} {w : World} {K : Act → World → Prop} {Q : Exit → Act → World → Prop} {E' : Prop} {dst : Option Tmp} {x y x' y' : Operand} {T : Array TypeId} {ty : TypeId} {pos : String} {after : Array Edge}
    (n : FuncId) (hn : ∀ v1 v2 v3 v4 w, (callFunc n #[v1, v2, v3, v4]).run P w = .ok (.enter n #[v1, v2, v3, v4]) w) (v1 v2 v3 v4 : Value) (R : Value → World → Prop)
    (hx : a.eval x = v1) (hy : a.eval y = v2) (hx' : a.eval x' = v3) (hy' : a.eval y' = v4) (hC : Calls P n #[v1, v2, v3, v4] w fun e w' => ∃ u, e = .returned u ∧ R u w') (hK : ∀ u w', R u w' → K (a.put dst u) w') :
    if Region.wanted { dst, op := .call { callee := .value (.func n), args := #[x, y, x', y'], argTypes := T }, type := ty, pos, after, guard := none } (yielded ops a.tmps) = true then Oper.wp P { dst, op := .call { callee := .value (.func n), args := #[x, y, x', y'], argTypes := T }, type := ty, pos, after, guard := none } a w K Q else E' := by
  rw [if_pos (by simp [Region.wanted])]
  unfold Oper.wp
  rw [execOp_call_go]
  have e : (#[] ++ #[x, y, x', y'].map a.eval ++ #[] : Array Value) = #[v1, v2, v3, v4] := by simp [hx, hy, hx', hy']
  rw [e, hn, Oper.upon_enter]
  refine hC.mono ?_
  rintro e w' ⟨u, rfl, h⟩
  exact hK u w' h
/-- What holds between the steps: the tape, the result's struct, what came in. -/
structure TSt (w : World) (b : Nat) (v : World) : Prop where
  tp : Tq v b
  zero : Zero v w.heap.size
  grown : w.grownBy v (some b)
  size : w.heap.size + 1 ≤ v.heap.size
theorem TSt.call {w v v' : World} {b : Nat} (hb : b < w.heap.size) (h : TSt w b v) (ht : Tq v' b) (hg : v.grownBy v' (some b)) : TSt w b v' :=
  ⟨ht, Box.grown h.zero hg (by intro e; have := Option.some.inj e; omega), grown_trans h.grown hg, Nat.le_trans h.size hg.size⟩
theorem TSt.lift {w v v' : World} {b : Nat} (hb : b < w.heap.size) (h : TSt w b v) (hl : Below v.heap.size v v') : TSt w b v' :=
  h.call hb (h.tp.lift hl) (grown_of_below hl _)
/-- The end: the result was stored. -/
theorem TSt.done {w v v' : World} {b base d : Nat} {T : Ty} {k : Int} {n : ByteArray} {i h : Int} {a : Option Addr} {m c : Nat} (hb : b < w.heap.size) (hs : TSt w b v) (hg : v.grownBy v' (some w.heap.size)) (hbase : base ≤ w.heap.size)
    (hr : Rep v (fun c => w.heap.size + 1 ≤ c) T (.agg #[.int .i64 k, .string n, .int .i64 i, .int .i64 h, .slice a m c])) (ho : Ok d T) : ∃ u, Ending.returned (.agg #[.int .i64 k, .string n, .int .i64 i, .int .i64 h, .slice a m c]) = .returned u ∧ MadeT d base b w v' u :=
  ⟨_, rfl, T, hr.kept (fun c hc => by omega) (fun c hc hlt => hg.block c hlt (by intro e; have := Option.some.inj e; omega)), ho, hs.tp.other hb hg, grown_fresh hs.grown hg fun R e => by cases e; exact Nat.le_refl _⟩

/-- Block B is a declaration with these cells. -/
def BoxK (w : World) (B : Nat) (c0 c1 c2 c3 : Value) : Prop := w.heap[B]? = some (.cells #[c0, c1, c2, c3] 71 (0, 0))
theorem wpList_storeD {w : World} {ops : Array Oper} {rest : List Oper} {o : Oper} {a : Act} {Q : Exit → Act → World → Prop} (hgd : o.guard = none) (p x : Operand) (ho : o.op = Op.store 71 p x)
    (B : Nat) (c0 c1 c2 c3 : Value) (hB : BoxK w B c0 c1 c2 c3) (hp : a.eval p = .pointer (some ⟨B, 0, none⟩)) (k : Int) (n : ByteArray) (sa : Option Addr) (sn sc : Nat) (ta : Option Addr) (tn tc : Nat)
    (hx : a.eval x = .agg #[.int .i64 k, .string n, .slice sa sn sc, .slice ta tn tc])
    (hK : ∀ w', BoxK w' B (.int .i64 k) (.string n) (.slice sa sn sc) (.slice ta tn tc) → w.grownBy w' (some B) → w'.heap.size = w.heap.size → wpList Try.prog ops Q rest (a.put o.dst undef) w') :
    wpList Try.prog ops Q (o :: rest) a w := by
  have hB' := hB
  unfold BoxK at hB'
  obtain ⟨h0, f0⟩ := cell_of_block hB' (m := 0) rfl
  obtain ⟨h1, f1⟩ := cell_of_block hB' (m := 1) rfl
  obtain ⟨h2, f2⟩ := cell_of_block hB' (m := 2) rfl
  obtain ⟨h3, f3⟩ := cell_of_block hB' (m := 3) rfl
  refine wpList_plain hgd fun K hK' => ?_
  unfold Oper.wp
  simp only [execOp, ho, hp, hx]
  simp [go_sem, h0, h1, h2, h3, f0, f1, f2, f3]
  obtain ⟨a0, g0, s0⟩ := set1 hB' 0 (.int .i64 k)
  obtain ⟨a1, g1, s1⟩ := set1 a0 1 (.string n)
  obtain ⟨a2, g2, s2⟩ := set1 a1 2 (.slice sa sn sc)
  obtain ⟨a3, g3, s3⟩ := set1 a2 3 (.slice ta tn tc)
  refine hK' _ _ (hK _ ?_ (grown_trans (grown_trans (grown_trans g0 g1) g2) g3) (by rw [s3, s2, s1, s0]))
  unfold BoxK
  rw [a3]
  simp
/-- What holds in the loop over a declaration's parameters. -/
structure CSt (w : World) (b D : Nat) (c0 c1 c2 c3 : Value) (v : World) : Prop where
  st : TSt w b v
  box : BoxK v D c0 c1 c2 c3
  size : D + 1 ≤ v.heap.size
theorem CSt.call {w v v' : World} {b D : Nat} {c0 c1 c2 c3 : Value} (hb : b < w.heap.size) (hD : w.heap.size < D) (h : CSt w b D c0 c1 c2 c3 v) (ht : Tq v' b) (hg : v.grownBy v' (some b)) : CSt w b D c0 c1 c2 c3 v' :=
  ⟨h.st.call hb ht hg, (hg.block D h.size (by intro e; have := Option.some.inj e; omega)).trans h.box, Nat.le_trans h.size hg.size⟩
theorem CSt.lift {w v v' : World} {b D : Nat} {c0 c1 c2 c3 : Value} (hb : b < w.heap.size) (hD : w.heap.size < D) (h : CSt w b D c0 c1 c2 c3 v) (hl : Below v.heap.size v v') : CSt w b D c0 c1 c2 c3 v' :=
  h.call hb hD (h.st.tp.lift hl) (grown_of_below hl _)
theorem CSt.push {w v v' : World} {b D : Nat} {c0 c1 c2 c3 : Value} {row : Option Nat} (hb : b < w.heap.size) (hD : w.heap.size < D) (h : CSt w b D c0 c1 c2 c3 v) (hg : v.grownBy v' row) (hr : ∀ k, row = some k → D + 1 ≤ k) : CSt w b D c0 c1 c2 c3 v' := by
  refine ⟨⟨?_, Box.grown h.st.zero hg (by intro e; have := hr _ e.symm; omega), grown_fresh h.st.grown hg fun R e => by have := hr R e; omega, Nat.le_trans h.st.size hg.size⟩, (hg.block D h.size (by intro e; have := hr _ e.symm; omega)).trans h.box, Nat.le_trans h.size hg.size⟩
  cases row with
  | none => exact h.st.tp.lift ⟨hg.os, hg.tape, hg.output, hg.size, fun i hi => hg.block i hi (by simp)⟩
  | some R => exact h.st.tp.other (by have := hr R rfl; omega) hg
theorem refCon_row (n : ByteArray) (ts : List Ty) (hl : ts.length ≤ 1000) (base : Nat) (v : Value) (w : World) (hb : base ≤ w.heap.size) (h : RowG TyE w base (fun c => base ≤ c) v ts) :
    Calls Try.prog 45 #[.string n, v] w fun e w' => ∃ a c, e = .returned (.agg #[.int .i64 4, .string n, .int .i64 0, .int .i64 0, .slice a ts.length c]) ∧ RepL w' (fun c => base ≤ c) ts (.slice a ts.length c) ∧ Below w.heap.size w w' := by
  have hR := slG_repL (h.slG (S' := fun c => base ≤ c) (fun _ h => h) (fun _ h => h))
  obtain ⟨L, hown, hl', hr⟩ := h
  rcases hown.2 with ⟨rfl, h0⟩ | ⟨g, cap, cur, rfl, _⟩
  · obtain rfl := List.eq_nil_of_length_eq_zero h0
    refine (refCon_nil n w).mono ?_
    rintro e w' ⟨rfl, hb'⟩
    exact ⟨none, 0, rfl, repL_nil _ _, hb'⟩
  · exact refCon_any n ts (by omega) _ cap _ w (fun c hc => by omega) hR
/-- What holds when the second argument of an arrow is made. -/
structure MTy (w : World) (b D : Nat) (z2 : World) (d : Nat) (U V : Ty) (u0 u : Value) (c0 c1 c2 c3 c4 : Value) : Prop where
  st : TSt w b z2
  box : Box z2 D c0 c1 c2 c3 c4
  left : Rep z2 (fun c => w.heap.size + 1 ≤ c) U u0
  right : Rep z2 (fun c => w.heap.size + 1 ≤ c) V u
  ok : Ok d V
def AfterArr (w z2 : World) (U V : Ty) (r : Value) (w' : World) : Prop := ∃ a c, r = .agg #[.int .i64 4, .string arrN, .int .i64 0, .int .i64 0, .slice a 2 c] ∧ RepL w' (fun c => w.heap.size + 1 ≤ c) [U, V] (.slice a 2 c) ∧ Below z2.heap.size z2 w'
theorem MTy.arrow {w z2 : World} {b D d : Nat} {U V : Ty} {u0 u : Value} {c0 c1 c2 c3 c4 : Value} (h : MTy w b D z2 d U V u0 u c0 c1 c2 c3 c4) (X : World) (hb : Below z2.heap.size z2 X) :
    Calls Try.prog 38 #[u0, u] X fun e w' => ∃ r, e = .returned r ∧ AfterArr w z2 U V r w' := by
  refine (refArrow_any U V u0 u (fun c => w.heap.size + 1 ≤ c) X (fun c hc => Nat.le_trans h.st.size (Nat.le_trans hb.size hc)) (h.left.lift hb) (h.right.lift hb)).mono ?_
  rintro e w' ⟨a, c, rfl, hr, hb'⟩
  exact ⟨_, rfl, a, c, rfl, hr, hb.trans (hb'.mono hb.size)⟩
theorem mty {w z1 z2 : World} {b D d n : Nat} {U : Ty} {u0 u : Value} {c0 c1 c2 c3 c4 : Value} (hb : b < w.heap.size) (hD : w.heap.size < D) (hm : MadeT d n b z1 z2 u) (hs : TSt w b z1) (hY : Box z1 D c0 c1 c2 c3 c4) (hU : Rep z1 (fun c => w.heap.size + 1 ≤ c) U u0) (hn : w.heap.size + 1 ≤ n) :
    ∃ V, MTy w b D z2 d U V u0 u c0 c1 c2 c3 c4 := by
  obtain ⟨V, hrep, hok, ht, hg⟩ := hm
  exact ⟨V, hs.call hb ht hg, Box.grown hY hg (by intro e; have := Option.some.inj e; omega), hU.kept (fun c hc => hc) (fun c hc hlt => hg.block c hlt (by intro e; have := Option.some.inj e; omega)), hrep.kept (fun c hc => Nat.le_trans hn hc) (fun _ _ _ => rfl), hok⟩

set_option maxRecDepth 100000 in
set_option maxHeartbeats 6400000 in
theorem mk_of (d : Nat) (IH : ∀ d', d = d' + 1 → TyAt d') : TyAt d := by
  intro z ds dv ls lv S b base w hz hd4 hds hls hsd hsl hSb htq hbase
  have hblt := htq.lt
  have HTQ := Lib.hid htq
  have HDS := Lib.hid hds
  have HLS := Lib.hid hls
  have HZ := Lib.hid hz
  have HIH := Lib.hid IH
  obtain ⟨da, dc, rfl⟩ := slG_form hsd
  obtain ⟨la, lc, rfl⟩ := slG_form hsl
  have HD : Hid (∀ v, w.grownBy v (some b) → SlG DatE v S ds (.slice da ds.length dc)) := fun v hg => hsd.kept (fun _ h => h) (fun c hc hlt => hg.block c hlt (fun e => hSb c hc (Option.some.inj e)))
  have HL : Hid (∀ v, w.grownBy v (some b) → SlG TyE v S ls (.slice la ls.length lc)) := fun v hg => hsl.kept (fun _ h => h) (fun c hc hlt => hg.block c hlt (fun e => hSb c hc (Option.some.inj e)))
  have hz0 : 0 ≤ z := by omega
  have hz4 : z ≤ 4 := by omega
  have hln : ls.length ≤ 1000 := hls.1
  have hdn : ds.length ≤ 8 := hds.1
  have HN := Lib.hid (fun n h1 h2 v h => next_q n h1 h2 b v h)
  have hb0 : Below w.heap.size w (w.alloc (.cells #[.int .i64 0, .string ⟨#[]⟩, .int .i64 0, .int .i64 0, .slice none 0 0] 25)) := (Below.refl _ w).alloc (Nat.le_refl _) _
  have HS0 : Hid (TSt w b (w.alloc (.cells #[.int .i64 0, .string ⟨#[]⟩, .int .i64 0, .int .i64 0, .slice none 0 0] 25))) := ⟨htq.lift hb0, Box.made _ _ _ _ _ _, grown_of_below hb0 _, by simp⟩
  have HSb := Lib.hid hSb
  clear hz hds hls hsd hsl htq IH hb0 hSb
  obtain ⟨dn, hdn'⟩ : ∃ n, n = ds.length := ⟨_, rfl⟩
  obtain ⟨ln, hln'⟩ : ∃ n, n = ls.length := ⟨_, rfl⟩
  rw [← hdn'] at hdn HD ⊢
  rw [← hln'] at hln HL ⊢
  have HDN := Lib.hid hdn'
  have HLN := Lib.hid hln'
  clear hdn' hln'
  go_enter Try.func13, Try.ntmps13
  go_wp2_with fail
  go_at_call 43
  refine (HN.out 7 (by decide) (by decide) _ HS0.out.tp).mono ?_
  rintro e w1 ⟨r, rfl, hr7, ht1, hg1⟩
  have HS1 := Lib.hid (HS0.out.call hblt ht1 hg1)
  clear ht1 hg1 HS0
  by_cases hleaf : r < 3 ∧ 0 < ln
  · obtain ⟨hr3, hl0⟩ := hleaf
    have hr3' : (r : Int) < 3 := by omega
    have hl0' : (0 : Int) < (ln : Int) := by omega
    go_wp2_with fail
    go_at_call 43
    refine (HN.out ln (by omega) (by omega) _ HS1.out.tp).mono ?_
    rintro e w2 ⟨q, rfl, hq, ht2, hg2⟩
    have HS2 := Lib.hid (HS1.out.call hblt ht2 hg2)
    have hql : q < ln := by omega
    clear ht2 hg2 HS1
    obtain ⟨T, hT⟩ : ∃ x, ls[q]? = some x := ⟨_, List.getElem?_eq_getElem (by rw [← HLN.out]; exact hql)⟩
    have HT := Lib.hid (HLS.out.2 T (List.mem_of_getElem? hT))
    have hx := HL.out _ HS2.out.grown
    rw [HLN.out] at hx
    obtain ⟨sa', sc', hv', -, hj⟩ := slG_repL hx
    cases hv'
    obtain ⟨ad, x, rfl, -, h5, hrep⟩ := hj q T hT
    clear hj hx hT
    have HR := Lib.hid hrep
    obtain ⟨uk, un, ui, uh, ua, um, uc, rfl⟩ := hrep.form
    obtain ⟨q0, q1, q2, q3, q4⟩ := five_at h5
    have hqi : (q : Int) < (ln : Int) := by omega
    clear hrep h5
    go_wp2_with (refine wpList_store5 rfl _ _ rfl _ _ _ _ _ _ HS2.out.zero rfl _ _ _ _ _ _ _ rfl ?_; intro w3 hB3 hg3 hs3)
    obtain ⟨c0, c1, c2, c3, c4⟩ := hB3.cells
    refine bodyPost_ret (by simp [results, Try.results13, go_sem, c0, c1, c2, c3, c4]; try rfl) rfl ?_
    exact HS2.out.done hblt hg3 hbase (rep_bare HR.out HT.out.2 _ _) (ok_leaf d HT.out.1 HT.out.2)
  · by_cases hint : r < 4 ∨ z < 1
    · have HB0 := Lib.hid HS1.out.zero
      have hcase : ((r : Int) < 3 ∧ decide (0 < ln) = false ∧ (r : Int) < 4) ∨ (decide ((r : Int) < 3) = false ∧ (r : Int) < 4) ∨ (decide ((r : Int) < 3) = false ∧ decide ((r : Int) < 4) = false ∧ z < 1) := by
        by_cases h3 : r < 3
        · have : ¬ (0 < ln) := fun h => hleaf ⟨h3, h⟩
          exact .inl ⟨by omega, by simp; omega, by omega⟩
        · by_cases h4 : r < 4
          · exact .inr (.inl ⟨by simp; omega, by omega⟩)
          · exact .inr (.inr ⟨by simp; omega, by simp; omega, hint.resolve_left h4⟩)
      have HI := Lib.hid (fun w => refInt_any w)
      have hint_ : intN.size ≤ maxLen := by unfold maxLen; decide +kernel
      clear hleaf hint
      rcases hcase with ⟨h1, h2, h3⟩ | ⟨h1, h2⟩ | ⟨h1, h2, h3⟩
      all_goals
        go_wp2_with fail
        go_at_call 44
        refine (HI.out _).mono ?_
        rintro e w2 ⟨rfl, hb2⟩
        have HS2 := Lib.hid (HS1.out.lift hblt hb2)
        clear hb2
        unfold leafV
        go_wp2_with (refine wpList_store5 rfl _ _ rfl _ _ _ _ _ _ HS2.out.zero rfl _ _ _ _ _ _ _ rfl ?_; intro w3 hB3 hg3 hs3)
        obtain ⟨c0, c1, c2, c3, c4⟩ := hB3.cells
        refine bodyPost_ret (by simp [results, Try.results13, go_sem, c0, c1, c2, c3, c4]; try rfl) rfl ?_
        exact HS2.out.done hblt hg3 hbase (rep_leaf _ _ _ _ _ _ hint_) (ok_int d)
    · have hr4 : 4 ≤ r := Nat.le_of_not_lt fun h => hint (.inl h)
      have hz1 : 1 ≤ z := by
        by_cases h : z < 1
        · exact absurd (.inr h) hint
        · omega
      obtain ⟨d', rfl⟩ : ∃ d', d = d' + 1 := ⟨d - 1, by have := HZ.out; omega⟩
      have HT : Hid (∀ v base, TSt w b v → base ≤ v.heap.size → Calls Try.prog 13 #[.pointer (some ⟨b, 0, none⟩), .slice da dn dc, .slice la ln lc, .int .i64 (z - 1)] v fun e w' => ∃ u, e = .returned u ∧ MadeT d' base b v w' u) := fun v base hs hb => by
        have hd := HD.out v hs.grown
        have hl := HL.out v hs.grown
        exact HIH.out d' rfl (z - 1) ds _ ls _ S b base v (by have := HZ.out; omega) (by omega) HDS.out HLS.out hd hl HSb.out hs.tp hb
      clear hleaf hint
      by_cases hcon : r < 6 ∧ 0 < dn
      · obtain ⟨hr6, hd0⟩ := hcon
        have hr45 : r = 4 ∨ r = 5 := by omega
        clear hr4 hr6 hr7
        rcases hr45 with rfl | rfl
        all_goals
          go_wp2_with fail
          go_at_call 43
          refine (HN.out dn (by omega) (by omega) _ HS1.out.tp).mono ?_
          rintro e w2 ⟨q, rfl, hq, ht2, hg2⟩
          have HS2 := Lib.hid (HS1.out.call hblt ht2 hg2)
          have hql : q < dn := by omega
          clear ht2 hg2 HS1
          obtain ⟨D0, hD0⟩ : ∃ x, ds[q]? = some x := ⟨_, List.getElem?_eq_getElem (by rw [← HDN.out]; exact hql)⟩
          have HDat := Lib.hid (some_dat HDS.out (List.mem_of_getElem? hD0))
          have hx := HD.out _ HS2.out.grown
          rw [HDN.out] at hx
          obtain ⟨ad, cl, rfl, -, ⟨pv, cv, rfl, hp, hc⟩, hc0, hcm⟩ := slG_get hx hD0
          have q0 := hc0 _ rfl
          have q1 := hcm 1 _ (by decide) rfl
          have q2 := hcm 2 _ (by decide) rfl
          have q3 := hcm 3 _ (by decide) rfl
          simp only [show DatE.k = 4 from rfl] at q0 q1 q2 q3
          obtain ⟨pa, pc, rfl⟩ := slG_form hp
          obtain ⟨ca, cc, rfl⟩ := slG_form hc
          have hm2 : D0.params.length ≤ 2 := HDat.out.2.1
          have HBM : Hid (∀ w : World, BoxK (w.alloc (.cells #[.int .i64 0, .string ⟨#[]⟩, .slice none 0 0, .slice none 0 0] 71)) w.heap.size (.int .i64 0) (.string ⟨#[]⟩) (.slice none 0 0) (.slice none 0 0)) := fun w => heap_alloc_new w _
          clear hc0 hcm hp hc hx hD0
          have hqi : (q : Int) < (dn : Int) := by omega
          obtain ⟨m, hm⟩ : ∃ m, m = D0.params.length := ⟨_, rfl⟩
          rw [← hm] at q2 hm2 HDat
          have HM := Lib.hid hm
          clear hm
          generalize D0.ctors.length = cn at *
          have hDw : w.heap.size < w2.heap.size := HS2.out.size
          go_wp2_with (refine wpList_storeD rfl _ _ rfl _ _ _ _ _ (HBM.out _) rfl _ _ _ _ _ _ _ _ rfl ?_; intro w3 hB3 hg3 hs3)
          have HC3 : Hid (CSt w b w2.heap.size (.int .i64 D0.pos) (.string D0.name) (.slice pa m pc) (.slice ca cn cc) w3) := by
            have hl : Below w2.heap.size w2 (w2.alloc (.cells #[.int .i64 0, .string ⟨#[]⟩, .slice none 0 0, .slice none 0 0] 71)) := (Below.refl _ w2).alloc (Nat.le_refl _) _
            have hst := HS2.out.lift hblt hl
            exact ⟨⟨hst.tp.other (by omega) hg3, Box.grown hst.zero hg3 (by intro e; have := Option.some.inj e; omega), grown_fresh hst.grown hg3 fun R e => by have := Option.some.inj e; omega, by have := hst.size; omega⟩, hB3, by rw [hs3]; simp⟩
          generalize w2.heap.size = D at *
          clear hB3 hg3 hs3 q0 q1 q2 q3 HBM HS2
          have hlt0 : ∀ c, D + 1 ≤ c → some c ≠ some b := fun c hc e => by have := Option.some.inj e; omega
          have HNB := Lib.hid hlt0
          clear hlt0
          go_wp2
          go_loopw [11, 12] (fun y x wr => ∃ (j : Nat) (ts : List Ty), j ≤ m ∧ x = .int .i64 j ∧ Hid (ts.length = j) ∧ Hid (∀ T ∈ ts, Ok d' T) ∧ Hid (RowG TyE wr (D + 1) (fun c => D + 1 ≤ c) y ts) ∧ Hid (CSt w b D (.int .i64 D0.pos) (.string D0.name) (.slice pa m pc) (.slice ca cn cc) wr)) (fun _ x _ => m - (intOf x).toNat)
          case atStart => exact ⟨0, [], Nat.zero_le _, rfl, rfl, fun T hT => by simp at hT, rowG_nil _ _ _ _, HC3⟩
          case round =>
            obtain ⟨j, ts, hj, rfl, HLen, HOk, HRow, HC⟩ := hrel
            have hbx := HC.out.box
            unfold BoxK at hbx
            have p1 := (cell_of_block hbx (m := 1) rfl).1
            have p2 := (cell_of_block hbx (m := 2) rfl).1
            have hsz := HC.out.size
            clear hbx
            by_cases hlt : j < m
            · have hji : (j : Int) < (m : Int) := by omega
              go_wp2_with fail
              go_at_call 13
              refine (HT.out _ _ HC.out.st (Nat.le_refl _)).mono ?_
              rintro e v1 ⟨u, rfl, T, hrep, hok, htq, hg⟩
              have hlow := fun k e => RowG.lt HRow.out k e
              have HRow1 := Lib.hid (HRow.out.kept hg (RowG.off HRow.out (by omega)) HNB.out)
              have HC1 := Lib.hid (HC.out.call hblt hDw htq hg)
              have hs1 := hg.size
              have HLow : Hid (∀ k, u11.ownBlock = some k → D + 1 ≤ k) := fun k e => (hlow k e).1
              obtain ⟨uk, un, ui, uh, ua, um, uc, rfl⟩ := hrep.form
              have HE : Hid (∀ X, TyE.rep (v1.alloc X) (fun c => D + 1 ≤ c ∧ some c ≠ u11.ownBlock) T [.int .i64 uk, .string un, .int .i64 ui, .int .i64 uh, .slice ua um uc]) := fun X =>
                TyE.kept (S := fun c => wr.heap.size ≤ c) (fun c hc => ⟨by omega, fun e => by have := (hlow c e.symm).2; omega⟩) (fun c _ hlt => ((Below.refl _ v1).alloc (Nat.le_refl _) X).block c hlt) hrep
              have HA : Hid (∀ X, Below v1.heap.size v1 (v1.alloc X)) := fun X => (Below.refl _ v1).alloc (Nat.le_refl _) X
              have HRowA := Lib.hid (fun X => HRow1.out.lift (HA.out X))
              have HCA := Lib.hid (fun X => HC1.out.lift hblt hDw (HA.out X))
              have HN1 : Hid (∀ X Z, (v1.alloc (.cells X Z)).heap[v1.heap.size]? = some (.cells X Z (0, 0))) := fun X Z => heap_alloc_new v1 _
              have HOk1 : Hid (∀ U ∈ ts ++ [T], Ok d' U) := fun U hU => by
                rcases List.mem_append.1 hU with h | h
                · exact HOk.out U h
                · simp at h; subst h; exact hok
              have hjl : j + 1 ≤ 1000000 := by omega
              clear hrep hok htq hg hlow HRow1 HC1 HRow HC p1 p2 HT
              go_wp2_with (at_builtin; refine wpList_pushG TyE rfl _ _ rfl (D + 1) (fun c => D + 1 ≤ c) u11 ts rfl (HRowA.out _) v1.heap.size _ [.int .i64 uk, .string un, .int .i64 ui, .int .i64 uh, .slice ua um uc] (HN1.out _ _) rfl T (HE.out _) (j + 1) (by rw [HLen.out]) hjl (by simp; omega) ?_; intro a3 c3 v3 hrow3 hg3; have HRow3 := Lib.hid hrow3; have HC3' := Lib.hid ((HCA.out _).push hblt hDw hg3 HLow.out); clear hrow3 hg3)
              go_roundw
              case rel => exact ⟨j + 1, ts ++ [T], hlt, by go_num, by show _ = _; simp [HLen.out], HOk1, HRow3, HC3'⟩
              case measure => simp [intOf]; omega
            · obtain rfl : j = m := by omega
              have hjf : ¬ (j : Int) < (j : Int) := by omega
              have HCon : Hid (∀ v, Below wr.heap.size wr v → Calls Try.prog 45 #[.string D0.name, u11] v fun e w' => ∃ a c, e = .returned (.agg #[.int .i64 4, .string D0.name, .int .i64 0, .int .i64 0, .slice a j c]) ∧ RepL w' (fun c => D + 1 ≤ c) ts (.slice a j c) ∧ Below v.heap.size v w') := fun v hb => by
                have := refCon_row D0.name ts (by rw [HLen.out]; omega) (D + 1) u11 v (Nat.le_trans hsz hb.size) (HRow.out.lift hb)
                rw [HLen.out] at this
                exact this
              have HOkC := Lib.hid (ok_con (n := D0.name) (by rw [HLen.out]; exact HDat.out.1) (by rw [HLen.out]; exact hm2) HOk.out)
              go_wp2_with fail
              go_at_call 45
              refine (HCon.out _ (Below.refl _ wr)).mono ?_
              rintro e v1 ⟨ra, rc, rfl, hrl, hb1⟩
              have HS9 := Lib.hid (HC.out.st.lift hblt hb1)
              have HRL := Lib.hid hrl
              clear hrl hb1 p1 p2 HRow
              go_wp2_with (refine wpList_store5 rfl _ _ rfl _ _ _ _ _ _ HS9.out.zero rfl _ _ _ _ _ _ _ rfl ?_; intro v3 hB3 hg3 hs3)
              obtain ⟨c0, c1, c2, c3, c4⟩ := hB3.cells
              refine bodyPost_ret (by simp [results, Try.results13, go_sem, c0, c1, c2, c3, c4]; try rfl) rfl ?_
              exact HS9.out.done hblt hg3 hbase ((Rep.close HDat.out.2.2 (by rw [← HLen.out] at *; exact HRL.out)).imp fun c hc => by omega) HOkC.out
      · have hcase : r = 6 ∨ (r = 4 ∧ decide (0 < dn) = false) ∨ (r = 5 ∧ decide (0 < dn) = false) := by
          by_cases h6 : r < 6
          · have h0 : ¬ (0 < dn) := fun h => hcon ⟨h6, h⟩
            have h45 : r = 4 ∨ r = 5 := by omega
            rcases h45 with h | h
            · exact .inr (.inl ⟨h, by simpa using h0⟩)
            · exact .inr (.inr ⟨h, by simpa using h0⟩)
          · exact .inl (by omega)
        clear hcon hr4 hr7
        rcases hcase with rfl | ⟨rfl, h0⟩ | ⟨rfl, h0⟩
        all_goals
          go_wp2_with fail
          go_at_call 13
          refine (HT.out _ _ HS1.out (Nat.le_refl _)).mono ?_
          rintro e w2 ⟨u0, rfl, U, hrep, hokU, htq, hg⟩
          have hw1 := HS1.out.size
          have HS2 := Lib.hid (HS1.out.call hblt htq hg)
          have hDw : w.heap.size < w2.heap.size := HS2.out.size
          have HU2 : Hid (Rep w2 (fun c => w.heap.size + 1 ≤ c) U u0) := hrep.imp fun c hc => by omega
          have HOkU := Lib.hid hokU
          obtain ⟨uk, un, ui, uh, ua, um, uc, rfl⟩ := hrep.form
          have HBM : Hid (∀ w : World, Zero (w.alloc (.cells #[.int .i64 0, .string ⟨#[]⟩, .int .i64 0, .int .i64 0, .slice none 0 0] 25)) w.heap.size) := fun w => Box.made _ _ _ _ _ _
          clear hrep hokU htq hg HS1
          go_wp2_with (refine wpList_store5 rfl _ _ rfl _ _ _ _ _ _ (HBM.out _) rfl _ _ _ _ _ _ _ rfl ?_; intro z1 hB3 hg3 hs3)
          have hl : Below w2.heap.size w2 (w2.alloc (.cells #[.int .i64 0, .string ⟨#[]⟩, .int .i64 0, .int .i64 0, .slice none 0 0] 25)) := (Below.refl _ w2).alloc (Nat.le_refl _) _
          have hst := HS2.out.lift hblt hl
          have hbd : Below z1.heap.size z1 z1.drew := (Below.refl _ z1).drew
          have HSd : Hid (TSt w b z1.drew) := TSt.lift hblt ⟨hst.tp.other (by omega) hg3, Box.grown hst.zero hg3 (by intro e; have := Option.some.inj e; omega), grown_fresh hst.grown hg3 fun R e => by have := Option.some.inj e; omega, by have := hst.size; omega⟩ hbd
          have HYd := Lib.hid (Box.lift hB3 hbd)
          have HUd := Lib.hid (((HU2.out.bound.lift hl).kept (S' := fun c => w.heap.size + 1 ≤ c) (fun c hc => hc.1) (fun c hc hlt => hg3.block c hlt (by intro e; have := Option.some.inj e; have := hc.2; omega))).lift hbd)
          have hle : w.heap.size + 1 ≤ z1.heap.size := by have := hst.size; omega
          have hle2 : z1.heap.size ≤ z1.drew.heap.size := hbd.size
          generalize w2.heap.size = D at *
          obtain ⟨y0, y1, y2, y3, y4⟩ := HYd.out.cells
          clear hB3 hg3 hs3 hl hst hbd HBM HU2 HS2
          have hwr : IntKind.i64.wrap (z - 1) = z - 1 := by rw [IntKind.wrap_i64]; omega
          go_wp2_with fail
          go_region_law
            (first
              | ((with_reducible refine step_call4 13 enterMk (.pointer (some ⟨b, 0, none⟩)) (.slice da dn dc) (.slice la ln lc) (.int .i64 (z - 1)) (fun u w' => MadeT d' z1.heap.size b z1.drew w' u) ?_ ?_ ?_ ?_ ?_ ?_); (rfl); (rfl); (rfl); (first | rfl | (show Value.int IntKind.i64 (IntKind.i64.wrap (z - 1)) = Value.int IntKind.i64 (z - 1); rw [hwr])); (exact HT.out _ _ HSd.out hle2); (rintro u z2 hmade); (obtain ⟨V, hF⟩ := mty hblt hDw hmade HSd.out HYd.out HUd.out hle); (have HF := Lib.hid hF); (obtain ⟨n0, n1, n2, n3, n4⟩ := HF.out.box.cells); clear hF hmade y0 y1 y2 y3 y4)
              | ((with_reducible refine step_call2 38 enterArrow (.agg #[.int .i64 uk, .string un, .int .i64 ui, .int .i64 uh, .slice ua um uc]) u (AfterArr w z2 U V) ?_ ?_ ?_ ?_); (rfl); (rfl); (first | exact HF.out.arrow _ (Below.refl _ z2) | exact HF.out.arrow _ (Below.refl _ z2).drew); (rintro u z3 ⟨ra, rc, rfl, hrl, hb3⟩); (have HZ3 := Lib.hid (HF.out.st.lift hblt hb3)); (have HRL := Lib.hid hrl); (obtain ⟨c0, c1, c2, c3, c4⟩ := HZ3.out.zero.cells); (obtain ⟨f0, f1, f2, f3, f4⟩ := HZ3.out.zero.frozen); clear hb3 hrl))
          all_goals
            clear hwr
            have hs5 := set5 HZ3.out.zero (.int .i64 4) (.string arrN) (.int .i64 0) (.int .i64 0) (.slice ra 2 rc)
            generalize (((((z3.setCell ⟨w.heap.size, 0, none⟩ (.int .i64 4)).setCell ⟨w.heap.size, 1, none⟩ (.string arrN)).setCell ⟨w.heap.size, 2, none⟩ (.int .i64 0)).setCell ⟨w.heap.size, 3, none⟩ (.int .i64 0)).setCell ⟨w.heap.size, 4, none⟩ (.slice ra 2 rc)) = z4 at *
            clear c0 c1 c2 c3 c4 f0 f1 f2 f3 f4
            obtain ⟨hB, hG, -⟩ := hs5
            obtain ⟨c0, c1, c2, c3, c4⟩ := hB.cells
            clear hB
            go_wp2
            refine bodyPost_ret (by simp [results, Try.results13, go_sem, c0, c1, c2, c3, c4]; try rfl) rfl ?_
            exact HZ3.out.done hblt hG hbase (Rep.close arrN_ok HRL.out) (ok_arr HOkU.out HF.out.ok)
theorem mkType_any : ∀ d, TyAt d := by
  intro d
  induction d with
  | zero => exact mk_of 0 fun d' h => by omega
  | succ d ih => exact mk_of (d + 1) fun d' h => by obtain rfl : d = d' := by omega
                                                    exact ih
end Go.Proofs.Ytahiefgfhpkoeaa

namespace Go.Proofs.Ytahiefgfhpkoeaa
open Go.RowKit Go.Sort Go.Shelf Go.Maps Mth

def leavesL : List Ty := (List.range 4).map varTy ++ leafTs
def namedL : List Ty := [namTy 97, namTy 98, namTy 99]
theorem leaf_all (l : List Ty) (hn : l.length ≤ 1000) (h : l.all (fun T => valid T && T.ts.isEmpty) = true) : LeafL l := ⟨hn, fun T hT => by
  have := List.all_eq_true.1 h T hT
  simpa using this⟩
theorem leavesL_ok : LeafL leavesL := leaf_all _ (by decide) (by decide +kernel)
theorem bothL_ok : LeafL (leavesL ++ namedL) := leaf_all _ (by decide) (by decide +kernel)
theorem noneL_ok : LeafL [] := leaf_all _ (by decide) rfl
theorem slG_some {α : Type} {E : El α} {w : World} {S : Nat → Prop} {x : α} {xs : List α} {v : Value} (h : SlG E w S (x :: xs) v) : ∃ ad cap, v = .slice (some ad) (xs.length + 1) cap := by
  obtain ⟨a, cap, rfl, -, hj⟩ := h
  obtain ⟨ad, _, rfl, _⟩ := hj 0 x rfl
  exact ⟨ad, cap, rfl⟩
end Go.Proofs.Ytahiefgfhpkoeaa
