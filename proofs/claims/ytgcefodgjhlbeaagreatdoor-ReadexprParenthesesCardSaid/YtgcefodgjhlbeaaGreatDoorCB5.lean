import Derived.Test.YtgcefodgjhlbeaaGreatDoorCB4
import Derived.Deep.DeepCutAuto
import Derived.Deep.RegionLaw
/- The package's reader of expressions: a type behind a colon. -/
namespace Go.Proofs.YtgcefodgjhlbeaaGreatDoor
open Go.RowKit Go.Maps Mth

theorem enterTy16 (v u : Value) (w : World) : (callFunc 104 #[v, u]).run Tryz.prog w = .ok (.enter 104 #[v, u]) w := by kernel_rfl
/-- What readtype.Type returns, its type taken apart. -/
def TyAfter (n e p : Int) (T : Ty) (V : World) (u : Value) (w' : World) : Prop :=
  ∃ uk un ui uh ua um uc, u = .tuple #[.agg #[.int .i64 uk, .string un, .int .i64 ui, .int .i64 uh, .slice ua um uc], .int .i64 n, .agg #[.int .i64 e, .int .i64 p]] ∧ Rep w' (fun g => V.heap.size ≤ g) T (.agg #[.int .i64 uk, .string un, .int .i64 ui, .int .i64 uh, .slice ua um uc]) ∧ Below V.heap.size V w'
set_option maxRecDepth 100000 in
theorem step_ty {ops : Array Oper} {a : Act} {w : World} {K : Act → World → Prop} {Q : Exit → Act → World → Prop} {E' : Prop} {dst : Option Tmp} {x y : Operand} {AT : Array TypeId} {ty : TypeId} {pos : String} {after : Array Edge}
    {W : World} {lv : Value} {i n e p : Int} {T : Ty} (HC : ∀ V, Below W.heap.size W V → Calls Tryz.prog 104 #[lv, .int .i64 i] V fun e' w' => ∃ u, e' = .returned u ∧ TyAfter n e p T V u w')
    (hb : Below W.heap.size W w) (hx : a.eval x = lv) (hy : a.eval y = .int .i64 i) (hK : ∀ u w', TyAfter n e p T w u w' → K (a.put dst u) w') :
    if Region.wanted { dst, op := .call { callee := .value (.func 104), args := #[x, y], argTypes := AT }, type := ty, pos, after, guard := none } (yielded ops a.tmps) = true then Oper.wp Tryz.prog { dst, op := .call { callee := .value (.func 104), args := #[x, y], argTypes := AT }, type := ty, pos, after, guard := none } a w K Q else E' :=
  step_call2 104 enterTy16 lv (.int .i64 i) (TyAfter n e p T w) hx hy (HC w hb) hK
/-- The fault's variable in its block. -/
def Flt (w : World) (R : Nat) (e p : Int) : Prop := w.heap[R]? = some (.cells #[.int .i64 e, .int .i64 p] 43 (0, 0))
theorem Flt.cells {w : World} {R : Nat} {e p : Int} (h : Flt w R e p) : w.cell? ⟨R, 0, none⟩ = some (.int .i64 e) ∧ w.cell? ⟨R, 1, none⟩ = some (.int .i64 p) := by
  unfold Flt at h; simp [World.cell?, h]
theorem Flt.free {w : World} {R : Nat} {e p : Int} (h : Flt w R e p) : w.frozen? ⟨R, 0, none⟩ = false ∧ w.frozen? ⟨R, 1, none⟩ = false := by
  unfold Flt at h; simp [World.frozen?, h]
theorem Flt.lift {w w' : World} {R : Nat} {e p : Int} (h : Flt w R e p) (hb : Below w.heap.size w w') : Flt w' R e p := by
  unfold Flt at *; rw [hb.block _ (Array.getElem?_eq_some_iff.1 h).1]; exact h
/-- What lies behind the region. -/
structure TSt (W : World) (S : Nat → Prop) (R3 R5 : Nat) (c0 c1 c2 c3 c4 : Value) (e p : Int) (T : Ty) (V : World) : Prop where
  box : Box V R3 c0 c1 c2 c3 c4
  flt : Flt V R5 e p
  rep : Rep V S T (.agg #[c0, c1, c2, c3, c4])
  low : Below W.heap.size W V
  hi3 : W.heap.size ≤ R3
  hi5 : W.heap.size ≤ R5

theorem setF {w : World} {R : Nat} {e p : Int} (h : Flt w R e p) (e' p' : Int) : Flt ((w.setCell ⟨R, 0, none⟩ (.int .i64 e')).setCell ⟨R, 1, none⟩ (.int .i64 p')) R e' p' ∧ w.grownBy ((w.setCell ⟨R, 0, none⟩ (.int .i64 e')).setCell ⟨R, 1, none⟩ (.int .i64 p')) (some R) ∧ ((w.setCell ⟨R, 0, none⟩ (.int .i64 e')).setCell ⟨R, 1, none⟩ (.int .i64 p')).heap.size = w.heap.size := by
  obtain ⟨a1, g1, s1⟩ := set1 h 0 (.int .i64 e')
  obtain ⟨a2, g2, s2⟩ := set1 a1 1 (.int .i64 p')
  refine ⟨?_, grown_trans g1 g2, by rw [s2, s1]⟩
  unfold Flt
  rw [a2]
  simp
theorem Flt.grown {w w' : World} {R : Nat} {e p : Int} {row : Option Nat} (h : Flt w R e p) (hg : w.grownBy w' row) (hne : some R ≠ row) : Flt w' R e p := by
  unfold Flt at *; rw [hg.block _ (Array.getElem?_eq_some_iff.1 h).1 hne]; exact h
theorem below_fresh {W w2 X : World} {R : Nat} (hb : Below W.heap.size W w2) (hR : W.heap.size ≤ R) (hg : w2.grownBy X (some R)) : Below W.heap.size W X :=
  Below.grown hb hg hb.size (fun k hk => by cases hk; exact hR)
theorem rep_other {w X : World} {S : Nat → Prop} {R : Nat} {T : Ty} {v : Value} (h : Rep w S T v) (hS : ¬ S R) (hg : w.grownBy X (some R)) : Rep X S T v :=
  h.kept (fun _ h => h) fun g hg' hl => hg.block g hl (by intro e; exact hS (by rw [← Option.some.inj e]; exact hg'))
section
variable {W w2 : World} {S : Nat → Prop} {c0 c1 c2 c3 c4 : Value} {e p : Int} {T : Ty} (hb : Below W.heap.size W w2) (hrep : Rep w2 S T (.agg #[c0, c1, c2, c3, c4]))
include hb hrep
theorem tst1 : TSt W S w2.heap.size (w2.heap.size + 1) c0 c1 c2 c3 c4 e p T ((w2.alloc (.cells #[c0, c1, c2, c3, c4] 32)).alloc (.cells #[.int .i64 e, .int .i64 p] 43)) := by
  have hba : Below w2.heap.size w2 ((w2.alloc (.cells #[c0, c1, c2, c3, c4] 32)).alloc (.cells #[.int .i64 e, .int .i64 p] 43)) := ((Below.refl _ w2).alloc (Nat.le_refl _) _).alloc (by simp) _
  have hs := hb.size
  refine ⟨?_, ?_, hrep.lift hba, hb.trans (hba.mono hb.size), hs, by omega⟩
  · unfold Box; rw [heap_at, if_neg (by simp), heap_at, if_pos rfl]
  · unfold Flt; rw [heap_at, if_pos (by simp)]
theorem tst2 : TSt W S (w2.heap.size + 1) w2.heap.size c0 c1 c2 c3 c4 e p T ((w2.alloc (.cells #[.int .i64 e, .int .i64 p] 43)).alloc (.cells #[c0, c1, c2, c3, c4] 32)) := by
  have hba : Below w2.heap.size w2 ((w2.alloc (.cells #[.int .i64 e, .int .i64 p] 43)).alloc (.cells #[c0, c1, c2, c3, c4] 32)) := ((Below.refl _ w2).alloc (Nat.le_refl _) _).alloc (by simp) _
  have hs := hb.size
  refine ⟨?_, ?_, hrep.lift hba, hb.trans (hba.mono hb.size), by omega, hs⟩
  · unfold Box; rw [heap_at, if_pos (by simp)]
  · unfold Flt; rw [heap_at, if_neg (by simp), heap_at, if_pos rfl]
theorem tst3 {R3 R5 : Nat} {z0 z1 z2 z3 z4 : Value} (hz : Box w2 R3 z0 z1 z2 z3 z4) (hR : W.heap.size ≤ R3) (hS : ¬ S R3) (h5 : R5 = w2.heap.size) : TSt W S R3 R5 c0 c1 c2 c3 c4 e p T ((((((w2.setCell ⟨R3, 0, none⟩ c0).setCell ⟨R3, 1, none⟩ c1).setCell ⟨R3, 2, none⟩ c2).setCell ⟨R3, 3, none⟩ c3).setCell ⟨R3, 4, none⟩ c4).alloc (.cells #[.int .i64 e, .int .i64 p] 43)) := by
  subst h5
  obtain ⟨hB, hg, hs⟩ := set5 hz c0 c1 c2 c3 c4
  have hr := rep_other hrep hS hg
  have hw := below_fresh hb hR hg
  generalize (((((w2.setCell ⟨R3, 0, none⟩ c0).setCell ⟨R3, 1, none⟩ c1).setCell ⟨R3, 2, none⟩ c2).setCell ⟨R3, 3, none⟩ c3).setCell ⟨R3, 4, none⟩ c4) = Y at *
  have hba : Below Y.heap.size Y (Y.alloc (.cells #[.int .i64 e, .int .i64 p] 43)) := (Below.refl _ Y).alloc (Nat.le_refl _) _
  exact ⟨hB.lift hba, by unfold Flt; rw [heap_at, if_pos hs.symm], hr.lift hba, hw.trans (hba.mono hw.size), hR, hb.size⟩
theorem tst4 {R3 R5 : Nat} {e0 p0 : Int} (hz : Flt w2 R5 e0 p0) (hR : W.heap.size ≤ R5) (hS : ¬ S R5) (h3 : R3 = w2.heap.size) : TSt W S R3 R5 c0 c1 c2 c3 c4 e p T (((w2.setCell ⟨R5, 0, none⟩ (.int .i64 e)).setCell ⟨R5, 1, none⟩ (.int .i64 p)).alloc (.cells #[c0, c1, c2, c3, c4] 32)) := by
  subst h3
  obtain ⟨hB, hg, hs⟩ := setF hz e p
  have hr := rep_other hrep hS hg
  have hw := below_fresh hb hR hg
  generalize ((w2.setCell ⟨R5, 0, none⟩ (.int .i64 e)).setCell ⟨R5, 1, none⟩ (.int .i64 p)) = Y at *
  have hba : Below Y.heap.size Y (Y.alloc (.cells #[c0, c1, c2, c3, c4] 32)) := (Below.refl _ Y).alloc (Nat.le_refl _) _
  exact ⟨by unfold Box; rw [heap_at, if_pos hs.symm], hB.lift hba, hr.lift hba, hw.trans (hba.mono hw.size), hb.size, hR⟩
theorem tst5 {R3 R5 : Nat} {z0 z1 z2 z3 z4 : Value} {e0 p0 : Int} (hz : Box w2 R3 z0 z1 z2 z3 z4) (hR : W.heap.size ≤ R3) (hS : ¬ S R3) (hz5 : Flt w2 R5 e0 p0) (hR5 : W.heap.size ≤ R5) (hS5 : ¬ S R5) (hne : R3 ≠ R5) : TSt W S R3 R5 c0 c1 c2 c3 c4 e p T (((((((w2.setCell ⟨R3, 0, none⟩ c0).setCell ⟨R3, 1, none⟩ c1).setCell ⟨R3, 2, none⟩ c2).setCell ⟨R3, 3, none⟩ c3).setCell ⟨R3, 4, none⟩ c4).setCell ⟨R5, 0, none⟩ (.int .i64 e)).setCell ⟨R5, 1, none⟩ (.int .i64 p)) := by
  obtain ⟨hB, hg, hs⟩ := set5 hz c0 c1 c2 c3 c4
  have hr := rep_other hrep hS hg
  have hw := below_fresh hb hR hg
  have hf := hz5.grown hg (by intro x; exact hne (Option.some.inj x).symm)
  generalize (((((w2.setCell ⟨R3, 0, none⟩ c0).setCell ⟨R3, 1, none⟩ c1).setCell ⟨R3, 2, none⟩ c2).setCell ⟨R3, 3, none⟩ c3).setCell ⟨R3, 4, none⟩ c4) = Y at *
  obtain ⟨hF, hg2, hs2⟩ := setF hf e p
  exact ⟨hB.grown hg2 (by intro x; exact hne (Option.some.inj x)), hF, rep_other hr hS5 hg2, below_fresh hw hR5 hg2, hR, hR5⟩
end
section
variable {x w2 : World}
theorem preA (hb : Below (x.alloc (.cells #[.int .i64 0, .string ⟨#[]⟩, .int .i64 0, .int .i64 0, .slice none 0 0] 32)).heap.size (x.alloc (.cells #[.int .i64 0, .string ⟨#[]⟩, .int .i64 0, .int .i64 0, .slice none 0 0] 32)) w2) : Zero w2 x.heap.size := Box.lift (Box.made _ _ _ _ _ _) hb
theorem preB (hb : Below (x.alloc (.cells #[.int .i64 0, .int .i64 0] 43)).heap.size (x.alloc (.cells #[.int .i64 0, .int .i64 0] 43)) w2) : Flt w2 x.heap.size 0 0 := Flt.lift (heap_alloc_new x _) hb
theorem preAB (hb : Below ((x.alloc (.cells #[.int .i64 0, .string ⟨#[]⟩, .int .i64 0, .int .i64 0, .slice none 0 0] 32)).alloc (.cells #[.int .i64 0, .int .i64 0] 43)).heap.size ((x.alloc (.cells #[.int .i64 0, .string ⟨#[]⟩, .int .i64 0, .int .i64 0, .slice none 0 0] 32)).alloc (.cells #[.int .i64 0, .int .i64 0] 43)) w2) : Zero w2 x.heap.size ∧ Flt w2 (x.heap.size + 1) 0 0 :=
  ⟨Box.lift (show Box _ _ _ _ _ _ _ by unfold Box; rw [heap_at, if_neg (by simp), heap_at, if_pos rfl]) hb, Flt.lift (show Flt _ _ _ _ by unfold Flt; rw [heap_at, if_pos (by simp)]) hb⟩
theorem preBA (hb : Below ((x.alloc (.cells #[.int .i64 0, .int .i64 0] 43)).alloc (.cells #[.int .i64 0, .string ⟨#[]⟩, .int .i64 0, .int .i64 0, .slice none 0 0] 32)).heap.size ((x.alloc (.cells #[.int .i64 0, .int .i64 0] 43)).alloc (.cells #[.int .i64 0, .string ⟨#[]⟩, .int .i64 0, .int .i64 0, .slice none 0 0] 32)) w2) : Flt w2 x.heap.size 0 0 ∧ Zero w2 (x.heap.size + 1) :=
  ⟨Flt.lift (show Flt _ _ _ _ by unfold Flt; rw [heap_at, if_neg (by simp), heap_at, if_pos rfl]) hb, Box.lift (show Box _ _ _ _ _ _ _ by unfold Box; rw [heap_at, if_pos (by simp)]) hb⟩
end

theorem TSt.imp {W V : World} {S S' : Nat → Prop} {R3 R5 : Nat} {c0 c1 c2 c3 c4 : Value} {e p : Int} {T : Ty} (h : TSt W S R3 R5 c0 c1 c2 c3 c4 e p T V) (hS : ∀ g, S g → S' g) : TSt W S' R3 R5 c0 c1 c2 c3 c4 e p T V := ⟨h.box, h.flt, h.rep.imp hS, h.low, h.hi3, h.hi5⟩
theorem tAl {W a : World} {b : Nat} (o : Obj) (hsz : b ≤ a.heap.size) (h1 : Below b W a) : Below b W (a.alloc o) := h1.alloc hsz o
theorem tDr {W a : World} {b : Nat} (h1 : Below b W a) : Below b W a.drew := h1.drew
theorem noDrew {x w2 : World} (hb : Below x.drew.heap.size x.drew w2) : Below x.heap.size x w2 := (Below.refl _ x).drew.trans hb
theorem tCall {W a c : World} (h1 : Below W.heap.size W a) (h2 : Below a.heap.size a c) : Below W.heap.size W c := h1.trans (h2.mono h1.size)
theorem hz1 (x : World) (o : Obj) : x.heap.size < (x.alloc o).drew.heap.size := by show _ < (x.alloc o).heap.size; simp
theorem hz2 (x : World) (o o' : Obj) : x.heap.size + 1 < ((x.alloc o).alloc o').drew.heap.size := by show _ < ((x.alloc o).alloc o').heap.size; simp
theorem rdT_cases (ts : List Tok) (k : Int) : (∃ T, ∃ j : Nat, rdT ts k = ⟨T, j, 0, 0⟩ ∧ j ≤ ts.length ∧ startAt ts k < j) ∨ (∃ p, rdT ts k = ⟨zeroT, 0, 3, p⟩) := by
  obtain ⟨R, hR⟩ := (ends_all ts (3 * ts.length + 3)).2.1 (startAt ts k) (startAt_le ts k) (by omega)
  have hrd : rdT ts k = resQ ts R := by unfold rdT; rw [hR]; rfl
  rw [hrd]
  cases R with
  | ok U j =>
    have hj := (goes_all ts _).2.1 _ _ _ hR
    exact .inl ⟨U, j, rfl, hj.2, hj.1⟩
  | bad p => exact .inr ⟨_, rfl⟩

set_option maxRecDepth 100000 in
set_option maxHeartbeats 6400000 in
theorem yTyp_any (ts : List Tok) (s : St) : TypAt ts s := by
  intro ea b w h
  have hok := h.ok
  obtain ⟨hi, hl⟩ := h.le
  have hbw := h.lt
  obtain ⟨la, lc, ⟨c0, c1, -, -⟩, ⟨f1, -, -⟩, hcap, hT⟩ := h.cells
  have HP := Lib.hid (Box.made w (.int .i64 0) (.string ⟨#[]⟩) (.int .i64 0) (.int .i64 0) (.slice none 0 0))
  have hal : Below w.heap.size w (w.alloc (.cells #[.int .i64 0, .string ⟨#[]⟩, .int .i64 0, .int .i64 0, .slice none 0 0] 32)) := (Below.refl _ w).alloc (Nat.le_refl _) _
  have HR1 := Lib.hid (h.lift hal)
  have k0 : (w.alloc (.cells #[.int .i64 0, .string ⟨#[]⟩, .int .i64 0, .int .i64 0, .slice none 0 0] 32)).cell? ⟨b, 0, none⟩ = some (.slice la ts.length lc) := by rw [hal.cell (World.block_lt_of_cell? _ _ c0)]; exact c0
  have k1 : (w.alloc (.cells #[.int .i64 0, .string ⟨#[]⟩, .int .i64 0, .int .i64 0, .slice none 0 0] 32)).cell? ⟨b, 1, none⟩ = some (.int .i64 (s.i : Int)) := by rw [hal.cell (World.block_lt_of_cell? _ _ c1)]; exact c1
  have HAl := Lib.hid hal
  have hsz : w.heap.size < (w.alloc (.cells #[.int .i64 0, .string ⟨#[]⟩, .int .i64 0, .int .i64 0, .slice none 0 0] 32)).heap.size := by simp
  have HSz := Lib.hid hsz
  have HBw := Lib.hid hbw
  have HFl := Lib.hid (fun (p : Int) (V : World) (h : RdY ea V b ts s) => yFail_any ea b ts s p V h)
  obtain ⟨n, e, p, T, hn, HJ, HX⟩ : ∃ n e p T, rdT ts s.i = ⟨T, n, e, p⟩ ∧ Hid ((e = 0 ∧ ∃ j : Nat, n = j ∧ j ≤ ts.length) ∨ e = 3) ∧ Hid (yTyR ts s = if e == 0 then (T, ⟨n.toNat, s.bad, s.p⟩) else (zeroT, yFl s p)) := by
    rcases rdT_cases ts s.i with ⟨T, j, he, hj, -⟩ | ⟨p, he⟩
    · exact ⟨j, 0, 0, T, he, .inl ⟨rfl, j, rfl, hj⟩, by show _ = _; unfold yTyR; rw [he]⟩
    · exact ⟨0, 3, p, zeroT, he, .inr rfl, by show _ = _; unfold yTyR; rw [he]⟩
  have HC : Hid (∀ V, Below (w.alloc (.cells #[.int .i64 0, .string ⟨#[]⟩, .int .i64 0, .int .i64 0, .slice none 0 0] 32)).heap.size (w.alloc (.cells #[.int .i64 0, .string ⟨#[]⟩, .int .i64 0, .int .i64 0, .slice none 0 0] 32)) V → Calls Tryz.prog 104 #[.slice la ts.length lc, .int .i64 (s.i : Int)] V fun e' w' => ∃ u, e' = .returned u ∧ TyAfter n e p T V u w') := fun V hb => by
    have hc := pkType_any ts hok _ _ (s.i : Int) V ((hT.lift hal).lift hb) ((h.g2.lift hal).gl.lift hb)
    rw [hn] at hc
    refine hc.mono ?_
    rintro e' w' ⟨v, rfl, ⟨u, rfl, hrep⟩, hb2⟩
    obtain ⟨uk, un, ui, uh, ua, um, uc, rfl⟩ := hrep.form
    exact ⟨_, rfl, uk, un, ui, uh, ua, um, uc, rfl, hrep, hb2⟩
  clear hal hsz h hT hn hok hbw c0 c1 f1
  go_enter Tryz.func94, Tryz.ntmps94
  go_upto_region 1 with fail
  generalize (w.alloc (.cells #[.int .i64 0, .string ⟨#[]⟩, .int .i64 0, .int .i64 0, .slice none 0 0] 32)) = w1 at *
  have KO : ∀ (o : Obj) {a : Addr} {v : Value}, w1.cell? a = some v → (w1.alloc o).cell? a = some v := fun o a v h => by rw [((Below.refl _ w1).alloc (Nat.le_refl _) o).cell (World.block_lt_of_cell? _ _ h)]; exact h
  have KP : ∀ (o o' : Obj) {a : Addr} {v : Value}, w1.cell? a = some v → ((w1.alloc o).alloc o').cell? a = some v := fun o o' a v h => by rw [(((Below.refl _ w1).alloc (Nat.le_refl _) o).alloc (by simp) o').cell (World.block_lt_of_cell? _ _ h)]; exact h
  have m0 : (w1.alloc (.cells #[.int .i64 0, .string ⟨#[]⟩, .int .i64 0, .int .i64 0, .slice none 0 0] 32)).cell? ⟨b, 0, none⟩ = some (.slice la ts.length lc) := KO _ k0
  have n0 : (w1.alloc (.cells #[.int .i64 0, .string ⟨#[]⟩, .int .i64 0, .int .i64 0, .slice none 0 0] 32)).cell? ⟨b, 1, none⟩ = some (.int .i64 (s.i : Int)) := KO _ k1
  have m1 : (w1.alloc (.cells #[.int .i64 0, .int .i64 0] 43)).cell? ⟨b, 0, none⟩ = some (.slice la ts.length lc) := KO _ k0
  have n1 : (w1.alloc (.cells #[.int .i64 0, .int .i64 0] 43)).cell? ⟨b, 1, none⟩ = some (.int .i64 (s.i : Int)) := KO _ k1
  have m2 : ((w1.alloc (.cells #[.int .i64 0, .string ⟨#[]⟩, .int .i64 0, .int .i64 0, .slice none 0 0] 32)).alloc (.cells #[.int .i64 0, .int .i64 0] 43)).cell? ⟨b, 0, none⟩ = some (.slice la ts.length lc) := KP _ _ k0
  have n2 : ((w1.alloc (.cells #[.int .i64 0, .string ⟨#[]⟩, .int .i64 0, .int .i64 0, .slice none 0 0] 32)).alloc (.cells #[.int .i64 0, .int .i64 0] 43)).cell? ⟨b, 1, none⟩ = some (.int .i64 (s.i : Int)) := KP _ _ k1
  have m3 : ((w1.alloc (.cells #[.int .i64 0, .int .i64 0] 43)).alloc (.cells #[.int .i64 0, .string ⟨#[]⟩, .int .i64 0, .int .i64 0, .slice none 0 0] 32)).cell? ⟨b, 0, none⟩ = some (.slice la ts.length lc) := KP _ _ k0
  have n3 : ((w1.alloc (.cells #[.int .i64 0, .int .i64 0] 43)).alloc (.cells #[.int .i64 0, .string ⟨#[]⟩, .int .i64 0, .int .i64 0, .slice none 0 0] 32)).cell? ⟨b, 1, none⟩ = some (.int .i64 (s.i : Int)) := KP _ _ k1
  clear KO KP
  go_cut [3, 4, 5] (fun s3 s4 s5 wx => ∃ R3 R5 uk un ui uh ua um uc, s3 = .pointer (some ⟨R3, 0, none⟩) ∧ s4 = .int .i64 n ∧ s5 = .pointer (some ⟨R5, 0, none⟩) ∧ Hid (TSt w1 (fun g => w.heap.size < g) R3 R5 (.int .i64 uk) (.string un) (.int .i64 ui) (.int .i64 uh) (.slice ua um uc) e p T wx))
  case first =>
    go_region_law
      (((with_reducible refine step_ty HC.out ?_ ?_ ?_ ?_); (first | exact tDr (Below.refl _ _) | exact tDr (tAl _ (Nat.le_refl _) (Below.refl _ _)) | exact tDr (tAl _ (by simp) (tAl _ (Nat.le_refl _) (Below.refl _ _)))); (rfl); (rfl); (rintro u w2 ⟨uk, un, ui, uh, ua, um, uc, rfl, hrep, hb⟩); (have HRep := Lib.hid hrep); (have hb := noDrew hb); (have HB := Lib.hid hb); (first
        | (have hq := preAB hb; obtain ⟨hA, hB⟩ : Zero w2 w1.heap.size ∧ Flt w2 (w1.heap.size + 1) 0 0 := hq; obtain ⟨z0, z1, z2, z3, z4⟩ := hA.cells; obtain ⟨y0, y1, y2, y3, y4⟩ := hA.frozen; obtain ⟨q0, q1⟩ := hB.cells; obtain ⟨r0, r1⟩ := hB.free)
        | (have hq := preBA hb; obtain ⟨hB, hA⟩ : Flt w2 w1.heap.size 0 0 ∧ Zero w2 (w1.heap.size + 1) := hq; obtain ⟨z0, z1, z2, z3, z4⟩ := hA.cells; obtain ⟨y0, y1, y2, y3, y4⟩ := hA.frozen; obtain ⟨q0, q1⟩ := hB.cells; obtain ⟨r0, r1⟩ := hB.free)
        | (have hq := preA hb; have hA : Zero w2 w1.heap.size := hq; clear hq; obtain ⟨z0, z1, z2, z3, z4⟩ := hA.cells; obtain ⟨y0, y1, y2, y3, y4⟩ := hA.frozen; have hl1 := hA.lt)
        | (have hq := preB hb; have hB : Flt w2 w1.heap.size 0 0 := hq; clear hq; obtain ⟨q0, q1⟩ := hB.cells; obtain ⟨r0, r1⟩ := hB.free; have hl1 := (Array.getElem?_eq_some_iff.1 hB).1)
        | skip); clear hrep hb))
    all_goals
      go_wp2_with fail
      go_meet
      first
        | exact ⟨_, _, _, _, _, _, _, _, _, rfl, rfl, rfl, (tst1 HB.out HRep.out).imp fun g hg => Nat.lt_of_lt_of_le HSz.out hg⟩
        | exact ⟨_, _, _, _, _, _, _, _, _, rfl, rfl, rfl, (tst2 HB.out HRep.out).imp fun g hg => Nat.lt_of_lt_of_le HSz.out hg⟩
        | exact ⟨_, _, _, _, _, _, _, _, _, rfl, rfl, rfl, (tst3 (tCall (tAl _ (Nat.le_refl _) (Below.refl _ _)) HB.out) HRep.out hA (Nat.le_refl _) (Nat.not_le.2 (hz1 _ _)) rfl).imp fun g hg => Nat.lt_of_lt_of_le HSz.out (Nat.le_trans (Nat.le_of_lt (hz1 _ _)) hg)⟩
        | exact ⟨_, _, _, _, _, _, _, _, _, rfl, rfl, rfl, (tst4 (tCall (tAl _ (Nat.le_refl _) (Below.refl _ _)) HB.out) HRep.out hB (Nat.le_refl _) (Nat.not_le.2 (hz1 _ _)) rfl).imp fun g hg => Nat.lt_of_lt_of_le HSz.out (Nat.le_trans (Nat.le_of_lt (hz1 _ _)) hg)⟩
        | exact ⟨_, _, _, _, _, _, _, _, _, rfl, rfl, rfl, (tst5 (tCall (tAl _ (by simp) (tAl _ (Nat.le_refl _) (Below.refl _ _))) HB.out) HRep.out hA (Nat.le_refl _) (Nat.not_le.2 (Nat.lt_of_succ_lt (hz2 _ _ _))) hB (Nat.le_succ _) (Nat.not_le.2 (hz2 _ _ _)) (by simp)).imp fun g hg => Nat.lt_of_lt_of_le HSz.out (Nat.le_trans (Nat.le_of_lt (Nat.lt_of_succ_lt (hz2 _ _ _))) hg)⟩
        | exact ⟨_, _, _, _, _, _, _, _, _, rfl, rfl, rfl, (tst5 (tCall (tAl _ (by simp) (tAl _ (Nat.le_refl _) (Below.refl _ _))) HB.out) HRep.out hA (Nat.le_succ _) (Nat.not_le.2 (hz2 _ _ _)) hB (Nat.le_refl _) (Nat.not_le.2 (Nat.lt_of_succ_lt (hz2 _ _ _))) (by simp)).imp fun g hg => Nat.lt_of_lt_of_le HSz.out (Nat.le_trans (Nat.le_of_lt (Nat.lt_of_succ_lt (hz2 _ _ _))) hg)⟩
  case rest =>
    obtain ⟨R3, R5, uk, un, ui, uh, ua, um, uc, rfl, rfl, rfl, HT⟩ := hcut
    have HRx := Lib.hid (HR1.out.lift HT.out.low)
    have HPx := Lib.hid (Box.lift HP.out HT.out.low)
    have hlo := HT.out.low.size
    have hsw := HSz.out
    have hbw := HBw.out
    have hi3 := HT.out.hi3
    have HWx : Hid (w.grownBy wc (some b)) := grown_of_below (HAl.out.trans (HT.out.low.mono (Nat.le_of_lt hsw))) _
    obtain ⟨d0, d1⟩ := HT.out.flt.cells
    clear HC HR1 HAl HP k0 k1 m0 m1 m2 m3 n0 n1 n2 n3
    rcases HJ.out with ⟨rfl, j, rfl, hj⟩ | rfl
    · have hx : yTyR ts s = (T, ⟨j, s.bad, s.p⟩) := by rw [HX.out]; simp
      have HXx := Lib.hid hx
      obtain ⟨hset, hgset⟩ := HRx.out.set j hj
      have HS1 := Lib.hid hset
      have HS2 := Lib.hid hgset
      obtain ⟨la', lc', ⟨-, k1, -, -⟩, ⟨f1, -, -⟩, -, -⟩ := HRx.out.cells
      have hBx : Box (wc.setCell ⟨b, 1, none⟩ (.int .i64 (j : Int))) R3 (.int .i64 uk) (.string un) (.int .i64 ui) (.int .i64 uh) (.slice ua um uc) := HT.out.box.grown hgset (by intro x; have := Option.some.inj x; omega)
      have HBx := Lib.hid hBx
      have HZx : Hid (Zero (wc.setCell ⟨b, 1, none⟩ (.int .i64 (j : Int))) w.heap.size) := Box.grown HPx.out hgset (by intro x; have := Option.some.inj x; omega)
      have HRp : Hid (Rep (wc.setCell ⟨b, 1, none⟩ (.int .i64 (j : Int))) (fun g => w.heap.size < g) T (.agg #[.int .i64 uk, .string un, .int .i64 ui, .int .i64 uh, .slice ua um uc])) := rep_other HT.out.rep (by omega) hgset
      have HWy := Lib.hid (grown_trans HWx.out hgset)
      clear hset hgset hBx HX HJ hx HFl HWx
      go_upto_region 6 with fail
      generalize wc.setCell ⟨b, 1, none⟩ (.int .i64 (j : Int)) = Y at *
      clear d0 d1 k1 f1
      obtain ⟨z0, z1, z2, z3, z4⟩ := HBx.out.cells
      obtain ⟨y0, y1, y2, y3, y4⟩ := HZx.out.cells
      obtain ⟨x0, x1, x2, x3, x4⟩ := HZx.out.frozen
      go_wp2
      obtain ⟨hB, hG, -⟩ := set5 HZx.out (.int .i64 uk) (.string un) (.int .i64 ui) (.int .i64 uh) (.slice ua um uc)
      generalize (((((Y.setCell ⟨w.heap.size, 0, none⟩ (.int .i64 uk)).setCell ⟨w.heap.size, 1, none⟩ (.string un)).setCell ⟨w.heap.size, 2, none⟩ (.int .i64 ui)).setCell ⟨w.heap.size, 3, none⟩ (.int .i64 uh)).setCell ⟨w.heap.size, 4, none⟩ (.slice ua um uc)) = X at *
      obtain ⟨e0, e1, e2, e3, e4⟩ := hB.cells
      refine bodyPost_ret (by simp [results, Tryz.results94, go_sem, e0, e1, e2, e3, e4]; try rfl) rfl ?_
      rw [HXx.out]
      exact ⟨[.int .i64 uk, .string un, .int .i64 ui, .int .i64 uh, .slice ua um uc], rfl, (rep_other HRp.out (by simp) hG).imp (fun g hg => Nat.le_of_lt hg), HS1.out.other hbw hG, grown_fresh HWy.out hG (fun i e => by cases e; exact Nat.le_refl _)⟩
    · have hx : yTyR ts s = (zeroT, yFl s p) := by rw [HX.out]; rfl
      have HXx := Lib.hid hx
      clear HX HJ hx
      go_wp2_with fail
      go_at_call 91
      refine (HFl.out p _ HRx.out).mono ?_
      rintro e' w5 ⟨rfl, hr5, hg5⟩
      have HR5 := Lib.hid hr5
      have HW5 := Lib.hid (grown_trans HWx.out hg5)
      have HZx : Hid (Zero w5 w.heap.size) := Box.grown HPx.out hg5 (by intro x; have := Option.some.inj x; omega)
      clear hr5 hg5 HPx HRx HWx HT d0 d1 HFl
      obtain ⟨y0, y1, y2, y3, y4⟩ := HZx.out.cells
      obtain ⟨x0, x1, x2, x3, x4⟩ := HZx.out.frozen
      go_wp2
      obtain ⟨hB, hG, -⟩ := set5 HZx.out (.int .i64 0) (.string ⟨#[]⟩) (.int .i64 0) (.int .i64 0) (.slice none 0 0)
      generalize (((((w5.setCell ⟨w.heap.size, 0, none⟩ (.int .i64 0)).setCell ⟨w.heap.size, 1, none⟩ (.string ⟨#[]⟩)).setCell ⟨w.heap.size, 2, none⟩ (.int .i64 0)).setCell ⟨w.heap.size, 3, none⟩ (.int .i64 0)).setCell ⟨w.heap.size, 4, none⟩ (.slice none 0 0)) = X at *
      obtain ⟨e0, e1, e2, e3, e4⟩ := hB.cells
      refine bodyPost_ret (by simp [results, Tryz.results94, go_sem, e0, e1, e2, e3, e4]; try rfl) rfl ?_
      rw [HXx.out]
      exact ⟨[.int .i64 0, .string ⟨#[]⟩, .int .i64 0, .int .i64 0, .slice none 0 0], rfl, rep_leaf _ _ 0 ⟨#[]⟩ 0 0 (by unfold maxLen; decide +kernel), HR5.out.other hbw hG, grown_fresh HW5.out hG (fun i e => by cases e; exact Nat.le_refl _)⟩
end Go.Proofs.YtgcefodgjhlbeaaGreatDoor

/- The package's reader of expressions ends: fuel that is enough. -/
namespace Go.Proofs.YtgcefodgjhlbeaaGreatDoor
open Go.RowKit Mth

/-- How many tokens are left to a state. -/
def mu (ts : List Tok) (s : St) : Nat := if s.bad then 0 else ts.length - s.i
theorem mu_pos {ts : List Tok} {s : St} (h : s.bad = false ∧ s.i < ts.length) : 1 ≤ mu ts s := by
  unfold mu; rw [h.1]; simp only [Bool.false_eq_true, if_false]; omega
theorem mu_step {ts : List Tok} {s : St} (h : 1 ≤ mu ts s) : mu ts (xStep s) + 1 = mu ts s := by
  obtain ⟨i, q, p⟩ := s
  cases q
  · unfold mu xStep at *; simp only [Bool.false_eq_true, if_false] at *; omega
  · unfold mu at h; simp at h
theorem mu_step_le (ts : List Tok) (s : St) : mu ts (xStep s) ≤ mu ts s := by
  obtain ⟨i, q, p⟩ := s
  cases q
  · unfold mu xStep; simp only [Bool.false_eq_true, if_false]; omega
  · unfold mu xStep; simp
theorem mu_fail (ts : List Tok) (s : St) : mu ts (xFail ts s) = 0 := by
  obtain ⟨i, q, p⟩ := s
  cases q <;> simp [mu, xFail]
theorem mu_exp (ts : List Tok) (s : St) (b : Bool) : mu ts (yExp ts s b) ≤ mu ts s := by
  unfold yExp
  cases b
  · simp only [Bool.false_eq_true, if_false]; rw [mu_fail]; omega
  · simp only [if_true]; exact mu_step_le ts s
theorem mu_tyR (ts : List Tok) (s : St) : mu ts (yTyR ts s).2 ≤ mu ts s := by
  obtain ⟨i, q, p0⟩ := s
  rcases rdT_cases ts i with ⟨T, j, he, hj, hs⟩ | ⟨p, he⟩
  · unfold yTyR
    dsimp only
    rw [he]
    cases q
    · unfold startAt at hs
      simp [mu]
      split at hs <;> omega
    · simp [mu]
  · unfold yTyR
    dsimp only
    rw [he]
    cases q <;> simp [mu, yFl]
theorem vars_end (ts : List Tok) : ∀ f s acc, mu ts s + 1 ≤ f → ∃ l s', yVars f ts s acc = some (l, s') ∧ mu ts s' ≤ mu ts s := by
  intro f
  induction f with
  | zero => intro s acc h; omega
  | succ f ih =>
    intro s acc h
    unfold yVars
    cases hk : yK ts s == 1 with
    | false => exact ⟨acc, s, by simp, Nat.le_refl _⟩
    | true =>
      have hp := mu_step (mu_pos (yK_lt (ts := ts) (s := s) (by rw [beq_iff_eq] at hk; rw [hk]; decide)))
      obtain ⟨l, s', hl, hm⟩ := ih (xStep s) (acc ++ [yT ts s]) (by omega)
      exact ⟨l, s', by simpa using hl, by omega⟩
structure YEnds (ts : List Tok) (f : Nat) : Prop where
  expr : ∀ s, 6 * mu ts s + 6 ≤ f → ∃ e s', yExpr f ts s = some (e, s') ∧ mu ts s' ≤ mu ts s
  fn : ∀ s, 1 ≤ mu ts s → 6 * mu ts s + 5 ≤ f → ∃ e s', yFun f ts s = some (e, s') ∧ mu ts s' ≤ mu ts s
  loc : ∀ s, 1 ≤ mu ts s → 6 * mu ts s + 5 ≤ f → ∃ e s', yLoc f ts s = some (e, s') ∧ mu ts s' ≤ mu ts s
  loc2 : ∀ k p s, 6 * mu ts s + 7 ≤ f → ∃ e s', yLoc2 f ts k p s = some (e, s') ∧ mu ts s' ≤ mu ts s
  cas : ∀ s, 1 ≤ mu ts s → 6 * mu ts s + 5 ≤ f → ∃ e s', yCas f ts s = some (e, s') ∧ mu ts s' ≤ mu ts s
  arms : ∀ s acc, 6 * mu ts s + 2 ≤ f → ∃ l s', yArms f ts s acc = some (l, s') ∧ mu ts s' ≤ mu ts s
  arm : ∀ s, 6 * mu ts s + 7 ≤ f → ∃ A s', yArm f ts s = some (A, s') ∧ mu ts s' ≤ mu ts s
  app : ∀ s, 6 * mu ts s + 5 ≤ f → ∃ e s', yApp f ts s = some (e, s') ∧ mu ts s' ≤ mu ts s
  apps : ∀ s e, 6 * mu ts s + 4 ≤ f → ∃ e' s', yApps f ts s e = some (e', s') ∧ mu ts s' ≤ mu ts s
  atom : ∀ s, 6 * mu ts s + 3 ≤ f → ∃ e s', yAtom f ts s = some (e, s') ∧ mu ts s' ≤ mu ts s ∧ (stB (yK ts s) (yT ts s) = true → mu ts s' < mu ts s)
  enc : ∀ s p, 6 * mu ts s + 7 ≤ f → ∃ e s', yEnc f ts s p = some (e, s') ∧ mu ts s' ≤ mu ts s
  held : ∀ s p, 6 * mu ts s + 7 ≤ f → ∃ e s', yHeld f ts s p = some (e, s') ∧ mu ts s' ≤ mu ts s
set_option maxHeartbeats 1600000 in
theorem yends (ts : List Tok) : ∀ f, YEnds ts f := by
  intro f
  induction f with
  | zero => constructor <;> intros <;> omega
  | succ f ih =>
    refine ⟨?_, ?_, ?_, ?_, ?_, ?_, ?_, ?_, ?_, ?_, ?_, ?_⟩
    · intro s h
      unfold yExpr
      cases h1 : yM ts s ⟨#[92]⟩ with
      | true =>
        simp only [if_true]
        exact ih.fn s (mu_pos (yM_lt h1)) (by omega)
      | false =>
        simp only [Bool.false_eq_true, if_false]
        cases h2 : yW ts s ⟨#[108, 101, 116]⟩ with
        | true =>
          simp only [if_true]
          exact ih.loc s (mu_pos (yW_lt h2)) (by omega)
        | false =>
          simp only [Bool.false_eq_true, if_false]
          cases h3 : yW ts s ⟨#[99, 97, 115, 101]⟩ with
          | true =>
            simp only [if_true]
            exact ih.cas s (mu_pos (yW_lt h3)) (by omega)
          | false =>
            simp only [Bool.false_eq_true, if_false]
            exact ih.app s (by omega)
    · intro s hp h
      unfold yFun
      have m1 := mu_step hp
      have m2 := mu_exp ts (xStep s) (yK ts (xStep s) == 1)
      have m3 := mu_exp ts (yExp ts (xStep s) (yK ts (xStep s) == 1)) (yM ts (yExp ts (xStep s) (yK ts (xStep s) == 1)) ⟨#[46]⟩)
      obtain ⟨a, s', ha, hm⟩ := ih.expr (yExp ts (yExp ts (xStep s) (yK ts (xStep s) == 1)) (yM ts (yExp ts (xStep s) (yK ts (xStep s) == 1)) ⟨#[46]⟩)) (by omega)
      rw [ha]
      exact ⟨_, _, rfl, by omega⟩
    · intro s hp h
      unfold yLoc
      have m1 := mu_step hp
      have m2 := mu_step_le ts (xStep s)
      cases hr : yW ts (xStep s) ⟨#[114, 101, 99]⟩ with
      | true =>
        obtain ⟨e, s', he, hm⟩ := ih.loc2 7 (tkP ts s.i) (xStep (xStep s)) (by omega)
        exact ⟨e, s', by simpa using he, by omega⟩
      | false =>
        obtain ⟨e, s', he, hm⟩ := ih.loc2 6 (tkP ts s.i) (xStep s) (by omega)
        exact ⟨e, s', by simpa using he, by omega⟩
    · intro k p s h
      unfold yLoc2
      have m2 := mu_exp ts s (yK ts s == 1)
      have m3 := mu_exp ts (yExp ts s (yK ts s == 1)) (yM ts (yExp ts s (yK ts s == 1)) ⟨#[61]⟩)
      obtain ⟨a, s1, ha, hm1⟩ := ih.expr (yExp ts (yExp ts s (yK ts s == 1)) (yM ts (yExp ts s (yK ts s == 1)) ⟨#[61]⟩)) (by omega)
      rw [ha]
      have m4 := mu_exp ts s1 (yW ts s1 ⟨#[105, 110]⟩)
      obtain ⟨c, s2, hc, hm2⟩ := ih.expr (yExp ts s1 (yW ts s1 ⟨#[105, 110]⟩)) (by omega)
      dsimp only
      rw [hc]
      exact ⟨_, _, rfl, by omega⟩
    · intro s hp h
      unfold yCas
      have m1 := mu_step hp
      obtain ⟨a, s1, ha, hm1⟩ := ih.expr (xStep s) (by omega)
      rw [ha]
      have m4 := mu_exp ts s1 (yW ts s1 ⟨#[111, 102]⟩)
      obtain ⟨A, s2, hA, hm2⟩ := ih.arm (yExp ts s1 (yW ts s1 ⟨#[111, 102]⟩)) (by omega)
      dsimp only
      rw [hA]
      obtain ⟨l, s3, hl, hm3⟩ := ih.arms s2 [A] (by omega)
      dsimp only
      rw [hl]
      have m5 := mu_exp ts s3 (yW ts s3 ⟨#[101, 110, 100]⟩)
      exact ⟨_, _, rfl, by omega⟩
    · intro s acc h
      unfold yArms
      cases h1 : yM ts s ⟨#[124]⟩ with
      | false => exact ⟨acc, s, by simp, Nat.le_refl _⟩
      | true =>
        simp only [if_true]
        have m1 := mu_step (mu_pos (yM_lt h1))
        obtain ⟨A, s2, hA, hm2⟩ := ih.arm (xStep s) (by omega)
        rw [hA]
        obtain ⟨l, s3, hl, hm3⟩ := ih.arms s2 (acc ++ [A]) (by omega)
        exact ⟨l, s3, hl, by omega⟩
    · intro s h
      unfold yArm
      have m1 := mu_exp ts s (yK ts s == 2)
      obtain ⟨vs, s1, hv, hm1⟩ := vars_end ts f (yExp ts s (yK ts s == 2)) [] (by omega)
      rw [hv]
      have m2 := mu_exp ts s1 (yM ts s1 ⟨#[46]⟩)
      obtain ⟨c, s2, hc, hm2⟩ := ih.expr (yExp ts s1 (yM ts s1 ⟨#[46]⟩)) (by omega)
      dsimp only
      rw [hc]
      exact ⟨_, _, rfl, by omega⟩
    · intro s h
      unfold yApp
      obtain ⟨e, s1, he, hm, -⟩ := ih.atom s (by omega)
      rw [he]
      obtain ⟨e', s2, he', hm2⟩ := ih.apps s1 e (by omega)
      exact ⟨e', s2, he', by omega⟩
    · intro s e h
      unfold yApps
      cases h1 : stB (yK ts s) (yT ts s) with
      | false => exact ⟨e, s, by simp, Nat.le_refl _⟩
      | true =>
        simp only [if_true]
        obtain ⟨a, s1, ha, hm, hlt⟩ := ih.atom s (by omega)
        have hlt := hlt h1
        rw [ha]
        obtain ⟨e', s2, he', hm2⟩ := ih.apps s1 (.mk 5 e.p ⟨#[]⟩ 0 zTy [e, a] []) (by omega)
        exact ⟨e', s2, he', by omega⟩
    · intro s h
      unfold yAtom
      cases h1 : stB (yK ts s) (yT ts s) with
      | false => exact ⟨zEx, xFail ts s, by simp, by rw [mu_fail]; omega, fun h => by simp at h⟩
      | true =>
        have m1 := mu_step (mu_pos (stB_lt h1))
        simp only [if_true]
        split
        · exact ⟨_, _, rfl, by omega, fun _ => by omega⟩
        split
        · exact ⟨_, _, rfl, by omega, fun _ => by omega⟩
        split
        · exact ⟨_, _, rfl, by omega, fun _ => by omega⟩
        split
        · obtain ⟨e, s1, he, hm⟩ := ih.enc (xStep s) (yP ts s) (by omega)
          exact ⟨e, s1, he, by omega, fun _ => by omega⟩
        split
        · obtain ⟨e, s1, he, hm⟩ := ih.held (xStep s) (yP ts s) (by omega)
          exact ⟨e, s1, he, by omega, fun _ => by omega⟩
        · exact ⟨_, _, rfl, by omega, fun _ => by omega⟩
    · intro s p h
      unfold yEnc
      obtain ⟨e, s1, he, hm⟩ := ih.expr s (by omega)
      rw [he]
      dsimp only
      split
      · have m2 := mu_step_le ts s1
        have m3 := mu_tyR ts (xStep s1)
        have m4 := mu_exp ts (yTyR ts (xStep s1)).2 (yM ts (yTyR ts (xStep s1)).2 ⟨#[41]⟩)
        exact ⟨_, _, rfl, by omega⟩
      · have m2 := mu_exp ts s1 (yM ts s1 ⟨#[41]⟩)
        exact ⟨_, _, rfl, by omega⟩
    · intro s p h
      unfold yHeld
      obtain ⟨e, s1, he, hm⟩ := ih.expr s (by omega)
      rw [he]
      have m2 := mu_exp ts s1 (yM ts s1 ⟨#[125]⟩)
      exact ⟨_, _, rfl, by omega⟩
end Go.Proofs.YtgcefodgjhlbeaaGreatDoor

/- Plain facts: no expression that is read has too many kids or arms. -/
namespace Go.Proofs.YtgcefodgjhlbeaaGreatDoor
open Go.RowKit Mth

mutual
def bndE : Ex → Bool
  | .mk _ _ _ _ _ kids arms => decide (kids.length ≤ 2) && decide (arms.length ≤ 900000) && bndK kids && bndA arms
def bndK : List Ex → Bool
  | [] => true
  | e :: l => bndE e && bndK l
def bndA : List (AH × Ex) → Bool
  | [] => true
  | (_, e) :: l => bndE e && bndA l
end
theorem bndK_mem : ∀ {l : List Ex}, bndK l = true → ∀ {T : Ex}, T ∈ l → bndE T = true := by
  intro l
  induction l with
  | nil => intro _ T h; simp at h
  | cons t l ih =>
    intro h T hT
    simp only [bndK, Bool.and_eq_true] at h
    rcases List.mem_cons.1 hT with rfl | hT
    · exact h.1
    · exact ih h.2 hT
theorem bndA_mem : ∀ {l : List (AH × Ex)}, bndA l = true → ∀ {A : AH × Ex}, A ∈ l → bndE A.2 = true := by
  intro l
  induction l with
  | nil => intro _ T h; simp at h
  | cons a l ih =>
    obtain ⟨h, e⟩ := a
    intro hs A hA
    simp only [bndA, Bool.and_eq_true] at hs
    rcases List.mem_cons.1 hA with rfl | hA
    · exact hs.1
    · exact ih hs.2 hA
theorem bndA_app : ∀ (l m : List (AH × Ex)), bndA (l ++ m) = (bndA l && bndA m) := by
  intro l m
  induction l with
  | nil => rfl
  | cons a l ih => obtain ⟨h, e⟩ := a; simp [bndA, ih, Bool.and_assoc]
theorem bnd_one {k p : Int} {n : ByteArray} {m : Int} {t : Ty} {a : Ex} (h : bndE a = true) : bndE (.mk k p n m t [a] []) = true := by simp [bndE, bndK, bndA, h]
theorem bnd_two {k p : Int} {n : ByteArray} {m : Int} {t : Ty} {a b : Ex} (h : bndE a = true) (h' : bndE b = true) : bndE (.mk k p n m t [a, b] []) = true := by simp [bndE, bndK, bndA, h, h']
/-! An expression without its places. -/
mutual
def strip : Ex → Ex
  | .mk k _ n m t kids arms => .mk k 0 n m t (stripL kids) (stripA arms)
def stripL : List Ex → List Ex
  | [] => []
  | e :: l => strip e :: stripL l
def stripA : List (AH × Ex) → List (AH × Ex)
  | [] => []
  | (h, e) :: l => (⟨0, h.con, h.vars⟩, strip e) :: stripA l
end
structure YBd (ts : List Tok) (f : Nat) : Prop where
  expr : ∀ s T s', yExpr f ts s = some (T, s') → bndE T = true
  fn : ∀ s T s', yFun f ts s = some (T, s') → bndE T = true
  loc : ∀ s T s', yLoc f ts s = some (T, s') → bndE T = true
  loc2 : ∀ k p s T s', yLoc2 f ts k p s = some (T, s') → bndE T = true
  cas : ∀ s T s', yCas f ts s = some (T, s') → bndE T = true
  arms : ∀ s acc l s', bndA acc = true → yArms f ts s acc = some (l, s') → bndA l = true ∧ l.length ≤ acc.length + f
  arm : ∀ s A s', yArm f ts s = some (A, s') → bndE A.2 = true
  app : ∀ s T s', yApp f ts s = some (T, s') → bndE T = true
  apps : ∀ s e T s', bndE e = true → yApps f ts s e = some (T, s') → bndE T = true
  atom : ∀ s T s', yAtom f ts s = some (T, s') → bndE T = true
  enc : ∀ s p T s', yEnc f ts s p = some (T, s') → bndE T = true
  held : ∀ s p T s', yHeld f ts s p = some (T, s') → bndE T = true
set_option maxHeartbeats 1600000 in
theorem ybds (ts : List Tok) : ∀ f, f ≤ 899999 → YBd ts f := by
  intro f
  induction f with
  | zero => intro _; constructor <;> intros <;> simp_all [yExpr, yFun, yLoc, yLoc2, yCas, yArms, yArm, yApp, yApps, yAtom, yEnc, yHeld]
  | succ f ih =>
    intro hf
    have ih := ih (by omega)
    refine ⟨?_, ?_, ?_, ?_, ?_, ?_, ?_, ?_, ?_, ?_, ?_, ?_⟩
    · intro s T s' h
      unfold yExpr at h
      split at h
      · exact ih.fn _ _ _ h
      split at h
      · exact ih.loc _ _ _ h
      split at h
      · exact ih.cas _ _ _ h
      · exact ih.app _ _ _ h
    · intro s T s' h
      unfold yFun at h
      split at h
      · rename_i a s1 ha
        simp only [Option.some.injEq, Prod.mk.injEq] at h
        rw [← h.1]; exact bnd_one (ih.expr _ _ _ ha)
      · cases h
    · intro s T s' h
      unfold yLoc at h
      exact ih.loc2 _ _ _ _ _ h
    · intro k p s T s' h
      unfold yLoc2 at h
      split at h
      · rename_i a s1 ha
        split at h
        · rename_i c s2 hc
          simp only [Option.some.injEq, Prod.mk.injEq] at h
          rw [← h.1]; exact bnd_two (ih.expr _ _ _ ha) (ih.expr _ _ _ hc)
        · cases h
      · cases h
    · intro s T s' h
      unfold yCas at h
      split at h
      · rename_i a s1 ha
        split at h
        · rename_i A s2 hA
          split at h
          · rename_i l s3 hl
            simp only [Option.some.injEq, Prod.mk.injEq] at h
            rw [← h.1]
            have hA0 := ih.arm _ _ _ hA
            obtain ⟨q1, q2⟩ := ih.arms _ _ _ _ (by obtain ⟨ah, ae⟩ := A; simpa [bndA] using hA0) hl
            simp at q2
            simp [bndE, bndK, q1, ih.expr _ _ _ ha]
            omega
          · cases h
        · cases h
      · cases h
    · intro s acc l s' hacc h
      unfold yArms at h
      split at h
      · split at h
        · rename_i A s2 hA
          obtain ⟨q1, q2⟩ := ih.arms _ _ _ _ (by rw [bndA_app, hacc]; obtain ⟨ah, ae⟩ := A; simpa [bndA] using ih.arm _ _ _ hA) h
          simp at q2
          exact ⟨q1, by omega⟩
        · cases h
      · simp only [Option.some.injEq, Prod.mk.injEq] at h
        rw [← h.1]; exact ⟨hacc, by omega⟩
    · intro s A s' h
      unfold yArm at h
      split at h
      · split at h
        · rename_i c s2 hc
          simp only [Option.some.injEq, Prod.mk.injEq] at h
          rw [← h.1]; exact ih.expr _ _ _ hc
        · cases h
      · cases h
    · intro s T s' h
      unfold yApp at h
      split at h
      · rename_i e s1 he
        exact ih.apps _ _ _ _ (ih.atom _ _ _ he) h
      · cases h
    · intro s e T s' he h
      unfold yApps at h
      split at h
      · split at h
        · rename_i a s1 ha
          exact ih.apps _ _ _ _ (bnd_two he (ih.atom _ _ _ ha)) h
        · cases h
      · simp only [Option.some.injEq, Prod.mk.injEq] at h
        rw [← h.1]; exact he
    · intro s T s' h
      unfold yAtom at h
      split at h
      · split at h
        · simp only [Option.some.injEq, Prod.mk.injEq] at h; rw [← h.1]; rfl
        split at h
        · simp only [Option.some.injEq, Prod.mk.injEq] at h; rw [← h.1]; rfl
        split at h
        · simp only [Option.some.injEq, Prod.mk.injEq] at h; rw [← h.1]; rfl
        split at h
        · exact ih.enc _ _ _ _ h
        split at h
        · exact ih.held _ _ _ _ h
        · simp only [Option.some.injEq, Prod.mk.injEq] at h; rw [← h.1]; rfl
      · simp only [Option.some.injEq, Prod.mk.injEq] at h; rw [← h.1]; rfl
    · intro s p T s' h
      unfold yEnc at h
      split at h
      · rename_i e s1 he
        split at h
        · simp only [Option.some.injEq, Prod.mk.injEq] at h; rw [← h.1]; exact bnd_one (ih.expr _ _ _ he)
        · simp only [Option.some.injEq, Prod.mk.injEq] at h; rw [← h.1]; exact ih.expr _ _ _ he
      · cases h
    · intro s p T s' h
      unfold yHeld at h
      split at h
      · rename_i e s1 he
        simp only [Option.some.injEq, Prod.mk.injEq] at h; rw [← h.1]; exact bnd_one (ih.expr _ _ _ he)
      · cases h
end Go.Proofs.YtgcefodgjhlbeaaGreatDoor
