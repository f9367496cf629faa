import Derived.Test.YtljgpgmaceackaaQX14
import Derived.Test.YtljgpgmaceackaaQX26
/- A tape whose choices lie before it, and the contract of its Next. -/
namespace Go.Proofs.Ytljgpgmaceackaa.S3
open Go.RowKit Go.Maps Mth

/-- A tape in a block of its own; its choices lie in an earlier block. -/
def Tq (w : World) (b : Nat) : Prop :=
  ∃ (zs : List Int) (a : Option Addr) (cap i : Nat), TapeAt w b (.slice a zs.length cap) i ∧ i ≤ zs.length ∧ zs.length ≤ 1000 ∧ ∀ (j : Nat) (x : Int), zs[j]? = some x → ∃ ad, a = some ad ∧ ad.block < b ∧ w.cell? (ad.add j) = some (.int .i64 x)
theorem Tq.lt {w : World} {b : Nat} (h : Tq w b) : b < w.heap.size := by
  obtain ⟨_, _, _, _, h, _⟩ := h
  exact h.lt
theorem Tq.lift {w w' : World} {b : Nat} (h : Tq w b) (hb : Below w.heap.size w w') : Tq w' b := by
  obtain ⟨zs, a, cap, i, h1, h2, h3, h4⟩ := h
  refine ⟨zs, a, cap, i, h1.lift hb, h2, h3, fun j x hx => ?_⟩
  obtain ⟨ad, e1, e2, e3⟩ := h4 j x hx
  exact ⟨ad, e1, e2, (hb.cell (World.block_lt_of_cell? _ _ e3)).trans e3⟩
theorem Tq.other {w w' : World} {b R : Nat} (h : Tq w b) (hR : b < R) (hg : w.grownBy w' (some R)) : Tq w' b := by
  obtain ⟨zs, a, cap, i, h1, h2, h3, h4⟩ := h
  have hl := h1.lt
  refine ⟨zs, a, cap, i, ?_, h2, h3, fun j x hx => ?_⟩
  · unfold TapeAt at *
    rw [hg.block b hl (by intro e; have := Option.some.inj e; omega), h1]
  · obtain ⟨ad, e1, e2, e3⟩ := h4 j x hx
    exact ⟨ad, e1, e2, hg.cell e3 (by rw [add_block]; intro e; have := Option.some.inj e; omega)⟩
set_option maxHeartbeats 1600000 in
theorem next_q (n : Int) (h1 : 1 ≤ n) (h2 : n ≤ 1000) (b : Nat) (w : World) (h : Tq w b) :
    Calls Try.prog 19 #[.pointer (some ⟨b, 0, none⟩), .int .i64 n] w fun e w' => ∃ r : Nat, e = .returned (.int .i64 r) ∧ (r : Int) < n ∧ Tq w' b ∧ w.grownBy w' (some b) := by
  obtain ⟨zs, a, cap, i, ht, hi, hl, hc⟩ := h
  obtain ⟨c0, c1, f1⟩ := ht.cells
  have HC := Lib.hid hc
  clear hc
  by_cases hlt : i < zs.length
  · have hge : decide ((zs.length : Int) ≤ (i : Int)) = false := by simpa using hlt
    obtain ⟨x, hx⟩ : ∃ x, zs[i]? = some x := ⟨_, List.getElem?_eq_getElem hlt⟩
    obtain ⟨ad, rfl, hne, hcx⟩ := HC.out i x hx
    clear hx
    have HT := Lib.hid ht
    have HM : Hid (∀ w, Calls Try.prog 6 #[.int .i64 x, .int .i64 n] w fun e w' => e = .returned (.int .i64 (x % n)) ∧ w' = w) := fun w => (mod_any x n w h1 (by omega)).mono fun _ _ ⟨a, b⟩ => ⟨a, b.symm⟩
    have e1 := Int.emod_nonneg x (b := n) (by omega)
    have e2 := Int.emod_lt_of_pos x (b := n) (by omega)
    generalize x % n = r at *
    clear ht
    obtain ⟨ln, hln⟩ : ∃ ln, ln = zs.length := ⟨_, rfl⟩
    rw [← hln] at hi hl hlt hge c0 HT
    have HL := Lib.hid hln
    clear hln
    go_enter Try.func19, Try.ntmps19
    go_wp2
    go_quiet (fail)
    go_wp2
    have hbd : Below w.heap.size w (w.drewN nq) := below_drewN (Below.refl _ w) nq
    have HT2 := Lib.hid (HT.out.lift hbd)
    have hset := set1 HT2.out 1 (.int .i64 ((i : Int) + 1))
    have HT3 : Hid (TapeAt ((w.drewN nq).setCell ⟨b, 1, none⟩ (.int .i64 ((i : Int) + 1))) b (.slice (some ad) ln cap) (i + 1)) := by
      show TapeAt _ _ _ _
      unfold TapeAt
      rw [hset.1]
      simp
    have HG : Hid (w.grownBy ((w.drewN nq).setCell ⟨b, 1, none⟩ (.int .i64 ((i : Int) + 1))) (some b)) := grown_trans (below_grown_some hbd b) hset.2.1
    have hcx3 : ((w.drewN nq).setCell ⟨b, 1, none⟩ (.int .i64 ((i : Int) + 1))).cell? (ad.add i) = some (.int .i64 x) := HG.out.cell hcx (by rw [add_block]; intro e; have := Option.some.inj e; omega)
    clear hset c0 c1 f1 hcx
    generalize ((w.drewN nq).setCell ⟨b, 1, none⟩ (.int .i64 ((i : Int) + 1))) = W at *
    obtain ⟨c0, c1, f1⟩ := HT3.out.cells
    have hwr : IntKind.i64.wrap (i : Int) = i := by rw [IntKind.wrap_i64]; omega
    go_quiet ((go_at_call 6; exact Calls.quiet_of_same (HM.out _)))
    go_wp2
    go_ret
    have hb2 : Below W.heap.size W (W.drewN nq) := below_drewN (Below.refl _ W) nq
    refine ⟨r.toNat, ret_int (by omega), by omega, ?_, grown_trans HG.out (below_grown_some hb2 b)⟩
    refine Tq.lift ⟨zs, some ad, cap, i + 1, by rw [← HL.out]; exact HT3.out, by rw [← HL.out]; omega, by rw [← HL.out]; omega, fun j y hy => ?_⟩ hb2
    obtain ⟨ad', e, h3, h4⟩ := HC.out j y hy
    exact ⟨ad', e, h3, HG.out.cell h4 (by rw [add_block]; intro e; have := Option.some.inj e; omega)⟩
  · have hge : decide ((zs.length : Int) ≤ (i : Int)) = true := by simpa using hlt
    go_enter Try.func19, Try.ntmps19
    go_wp2
    go_quiet (fail)
    go_wp2
    go_ret
    have hb : Below w.heap.size w (w.drewN nq) := below_drewN (Below.refl _ w) nq
    exact ⟨0, rfl, by omega, Tq.lift ⟨zs, a, cap, i, ht, hi, hl, HC.out⟩ hb, below_grown_some hb b⟩

/-- What a made type of a depth is. -/
def capN : Nat → Nat
  | 0 => 1
  | d + 1 => 2 * capN d + 1
def Ok (d : Nat) (T : Ty) : Prop := (valid T = true ∧ wr T = true) ∧ nodes T ≤ capN d
theorem capN_pos (d : Nat) : 1 ≤ capN d := by cases d <;> simp [capN]
/-- The names that the maker's declarations have, with up to two parameters. -/
def datOk (d : Dat) : Bool := conOk d.name d.params.length && decide (d.params.length ≤ 2) && decide (d.name.size ≤ 6)
theorem all_dats : allDats.all datOk = true := by decide +kernel
theorem some_dat {ds : List Dat} (h : Some_ ds) {d : Dat} (hd : d ∈ ds) : (conOk d.name d.params.length = true ∧ d.name.size ≤ 6) ∧ d.params.length ≤ 2 ∧ d.name.size ≤ maxLen := by
  have := List.all_eq_true.1 all_dats d (h.2 d hd)
  unfold datOk at this
  simp only [Bool.and_eq_true, decide_eq_true_eq] at this
  exact ⟨⟨this.1.1, this.2⟩, this.1.2, by unfold maxLen; omega⟩
theorem valid_con {n : ByteArray} {ts : List Ty} (h : conOk n ts.length = true) (hv : ∀ T ∈ ts, valid T = true) : valid (con n ts) = true := by
  unfold con
  simp only [valid]
  have : validL ts = true := by rw [validL_any]; simpa using hv
  simp [h, this]
theorem int_con : valid (con intN []) = true := valid_con (by decide +kernel) fun X hX => by simp at hX
theorem nodesL_le {ts : List Ty} {m : Nat} (h : ∀ T ∈ ts, nodes T ≤ m) : nodesL ts ≤ ts.length * m := by
  induction ts with
  | nil => simp [nodesL]
  | cons t ts ih =>
    have h1 := h t (by simp)
    have h2 := ih fun T hT => h T (by simp [hT])
    simp only [nodesL, List.length_cons, Nat.add_mul]
    omega
theorem ok_con {n : ByteArray} {ts : List Ty} {d : Nat} (h : conOk n ts.length = true ∧ n.size ≤ 6) (hl : ts.length ≤ 2) (ht : ∀ T ∈ ts, Ok d T) : Ok (d + 1) (con n ts) := by
  refine ⟨⟨valid_con h.1 fun T hT => (ht T hT).1.1, wr_con h.2 fun T hT => (ht T hT).1.2⟩, ?_⟩
  have := nodesL_le (m := capN d) fun T hT => (ht T hT).2
  have h2 := Nat.mul_le_mul_right (capN d) hl
  unfold con
  simp only [nodes, capN]
  omega
theorem ok_int (d : Nat) : Ok d (con intN []) := ⟨⟨int_con, wr_con (by decide) fun T hT => by simp at hT⟩, by have := capN_pos d; simpa [con, nodes, nodesL] using this⟩
theorem ok_arr {T U : Ty} {d : Nat} (h : Ok d T) (h' : Ok d U) : Ok (d + 1) (con arrN [T, U]) :=
  ok_con ⟨show conOk arrN 2 = true by decide +kernel, by decide⟩ (by simp) fun X hX => by
    simp at hX
    rcases hX with rfl | rfl
    · exact h
    · exact h'
theorem ok_leaf {T : Ty} (d : Nat) (h : valid T = true ∧ wr T = true) (ht : T.ts = []) : Ok d T := by
  refine ⟨h, ?_⟩
  have := capN_pos d
  cases T
  simp only [Ty.ts] at ht
  subst ht
  simpa [nodes, nodesL] using this
theorem rep_bare {w : World} {S : Nat → Prop} {T : Ty} {v : Value} (h : Rep w S T v) (ht : T.ts = []) (w' : World) (S' : Nat → Prop) : Rep w' S' T v := by
  obtain ⟨k, n, i, hm, s, eT, rfl, hn, hs⟩ := h.open
  rw [ht] at eT hs
  obtain ⟨a, cap, rfl, hc, _⟩ := hs
  rw [eT]
  exact Rep.close hn ⟨a, cap, rfl, hc, fun j T h => by simp at h⟩
/-- Leaves. -/
def LeafL (ls : List Ty) : Prop := ls.length ≤ 1000 ∧ ∀ T ∈ ls, (valid T = true ∧ wr T = true) ∧ T.ts = []
/-- What the contract of the maker's Type says. -/
def MadeT (d base b : Nat) (w w' : World) (u : Value) : Prop := ∃ T, Rep w' (fun c => base ≤ c) T u ∧ Ok d T ∧ Tq w' b ∧ w.grownBy w' (some b)
def TyAt (d : Nat) : Prop := ∀ (z : Int) (ds : List Dat) (dv : Value) (ls : List Ty) (lv : Value) (S : Nat → Prop) (b base : Nat) (w : World), z = d → d ≤ 4 → Some_ ds → LeafL ls → SlG DatE w S ds dv → SlG TyE w S ls lv → (∀ c, S c → c ≠ b) → Tq w b → base ≤ w.heap.size →
  Calls Try.prog 21 #[.pointer (some ⟨b, 0, none⟩), dv, lv, .int .i64 z] w fun e w' => ∃ u, e = .returned u ∧ MadeT d base b w w' u
end Go.Proofs.Ytljgpgmaceackaa.S3
