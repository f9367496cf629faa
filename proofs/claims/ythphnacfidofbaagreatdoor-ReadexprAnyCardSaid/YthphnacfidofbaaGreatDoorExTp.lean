/- The package's reader of expressions: a type behind a colon. -/
import Derived.Test.YthphnacfidofbaaGreatDoorExMd
import Derived.Deep.DeepCutAuto
import Derived.Deep.RegionLaw
namespace Go.Proofs.YthphnacfidofbaaGreatDoor
open Go.RowKit Go.Maps Mth

theorem enterTy16 (v u : Value) (w : World) : (callFunc 15 #[v, u]).run Tryz.prog w = .ok (.enter 15 #[v, u]) w := by kernel_rfl
/-- What readtype.Type returns, its type taken apart. -/
def TyAfter (n e p : Int) (T : Ty) (V : World) (u : Value) (w' : World) : Prop :=
  ∃ uk un ui uh ua um uc, u = .tuple #[.agg #[.int .i64 uk, .string un, .int .i64 ui, .int .i64 uh, .slice ua um uc], .int .i64 n, .agg #[.int .i64 e, .int .i64 p]] ∧ Rep w' (fun g => V.heap.size ≤ g) T (.agg #[.int .i64 uk, .string un, .int .i64 ui, .int .i64 uh, .slice ua um uc]) ∧ Below V.heap.size V w'
set_option maxRecDepth 100000 in
theorem step_ty {ops : Array Oper} {a : Act} {w : World} {K : Act → World → Prop} {Q : Exit → Act → World → Prop} {E' : Prop} {dst : Option Tmp} {x y : Operand} {AT : Array TypeId} {ty : TypeId} {pos : String} {after : Array Edge}
    {W : World} {lv : Value} {i n e p : Int} {T : Ty} (HC : ∀ V, Below W.heap.size W V → Calls Tryz.prog 15 #[lv, .int .i64 i] V fun e' w' => ∃ u, e' = .returned u ∧ TyAfter n e p T V u w')
    (hb : Below W.heap.size W w) (hx : a.eval x = lv) (hy : a.eval y = .int .i64 i) (hK : ∀ u w', TyAfter n e p T w u w' → K (a.put dst u) w') :
    if Region.wanted { dst, op := .call { callee := .value (.func 15), args := #[x, y], argTypes := AT }, type := ty, pos, after, guard := none } (yielded ops a.tmps) = true then Oper.wp Tryz.prog { dst, op := .call { callee := .value (.func 15), args := #[x, y], argTypes := AT }, type := ty, pos, after, guard := none } a w K Q else E' :=
  step_call2 15 enterTy16 lv (.int .i64 i) (TyAfter n e p T w) hx hy (HC w hb) hK
/-- The fault's variable in its block. -/
def Flt (w : World) (R : Nat) (e p : Int) : Prop := w.heap[R]? = some (.cells #[.int .i64 e, .int .i64 p] 40 (0, 0))
theorem Flt.cells {w : World} {R : Nat} {e p : Int} (h : Flt w R e p) : w.cell? ⟨R, 0, none⟩ = some (.int .i64 e) ∧ w.cell? ⟨R, 1, none⟩ = some (.int .i64 p) := by
  unfold Flt at h; simp [World.cell?, h]
theorem Flt.free {w : World} {R : Nat} {e p : Int} (h : Flt w R e p) : w.frozen? ⟨R, 0, none⟩ = false ∧ w.frozen? ⟨R, 1, none⟩ = false := by
  unfold Flt at h; simp [World.frozen?, h]
theorem Flt.lift {w w' : World} {R : Nat} {e p : Int} (h : Flt w R e p) (hb : Below w.heap.size w w') : Flt w' R e p := by
  unfold Flt at *; rw [hb.block _ (Array.getElem?_eq_some_iff.1 h).1]; exact h
/-- What lies behind the region. -/
structure TSt (W : World) (S : Nat → Prop) (R3 R5 : Nat) (c0 c1 c2 c3 c4 : Value) (e p : Int) (T : Ty) (V : World) : Prop where
  box : Box V R3 c0 c1 c2 c3 c4
  flt : Flt V R5 e p
  rep : Rep V S T (.agg #[c0, c1, c2, c3, c4])
  low : Below W.heap.size W V
  hi3 : W.heap.size ≤ R3
  hi5 : W.heap.size ≤ R5

theorem setF {w : World} {R : Nat} {e p : Int} (h : Flt w R e p) (e' p' : Int) : Flt ((w.setCell ⟨R, 0, none⟩ (.int .i64 e')).setCell ⟨R, 1, none⟩ (.int .i64 p')) R e' p' ∧ w.grownBy ((w.setCell ⟨R, 0, none⟩ (.int .i64 e')).setCell ⟨R, 1, none⟩ (.int .i64 p')) (some R) ∧ ((w.setCell ⟨R, 0, none⟩ (.int .i64 e')).setCell ⟨R, 1, none⟩ (.int .i64 p')).heap.size = w.heap.size := by
  obtain ⟨a1, g1, s1⟩ := set1 h 0 (.int .i64 e')
  obtain ⟨a2, g2, s2⟩ := set1 a1 1 (.int .i64 p')
  refine ⟨?_, grown_trans g1 g2, by rw [s2, s1]⟩
  unfold Flt
  rw [a2]
  simp
theorem Flt.grown {w w' : World} {R : Nat} {e p : Int} {row : Option Nat} (h : Flt w R e p) (hg : w.grownBy w' row) (hne : some R ≠ row) : Flt w' R e p := by
  unfold Flt at *; rw [hg.block _ (Array.getElem?_eq_some_iff.1 h).1 hne]; exact h
theorem below_fresh {W w2 X : World} {R : Nat} (hb : Below W.heap.size W w2) (hR : W.heap.size ≤ R) (hg : w2.grownBy X (some R)) : Below W.heap.size W X :=
  Below.grown hb hg hb.size (fun k hk => by cases hk; exact hR)
theorem rep_other {w X : World} {S : Nat → Prop} {R : Nat} {T : Ty} {v : Value} (h : Rep w S T v) (hS : ¬ S R) (hg : w.grownBy X (some R)) : Rep X S T v :=
  h.kept (fun _ h => h) fun g hg' hl => hg.block g hl (by intro e; exact hS (by rw [← Option.some.inj e]; exact hg'))
section
variable {W w2 : World} {S : Nat → Prop} {c0 c1 c2 c3 c4 : Value} {e p : Int} {T : Ty} (hb : Below W.heap.size W w2) (hrep : Rep w2 S T (.agg #[c0, c1, c2, c3, c4]))
include hb hrep
theorem tst1 : TSt W S w2.heap.size (w2.heap.size + 1) c0 c1 c2 c3 c4 e p T ((w2.alloc (.cells #[c0, c1, c2, c3, c4] 30)).alloc (.cells #[.int .i64 e, .int .i64 p] 40)) := by
  have hba : Below w2.heap.size w2 ((w2.alloc (.cells #[c0, c1, c2, c3, c4] 30)).alloc (.cells #[.int .i64 e, .int .i64 p] 40)) := ((Below.refl _ w2).alloc (Nat.le_refl _) _).alloc (by simp) _
  have hs := hb.size
  refine ⟨?_, ?_, hrep.lift hba, hb.trans (hba.mono hb.size), hs, by omega⟩
  · unfold Box; rw [heap_at, if_neg (by simp), heap_at, if_pos rfl]
  · unfold Flt; rw [heap_at, if_pos (by simp)]
theorem tst2 : TSt W S (w2.heap.size + 1) w2.heap.size c0 c1 c2 c3 c4 e p T ((w2.alloc (.cells #[.int .i64 e, .int .i64 p] 40)).alloc (.cells #[c0, c1, c2, c3, c4] 30)) := by
  have hba : Below w2.heap.size w2 ((w2.alloc (.cells #[.int .i64 e, .int .i64 p] 40)).alloc (.cells #[c0, c1, c2, c3, c4] 30)) := ((Below.refl _ w2).alloc (Nat.le_refl _) _).alloc (by simp) _
  have hs := hb.size
  refine ⟨?_, ?_, hrep.lift hba, hb.trans (hba.mono hb.size), by omega, hs⟩
  · unfold Box; rw [heap_at, if_pos (by simp)]
  · unfold Flt; rw [heap_at, if_neg (by simp), heap_at, if_pos rfl]
theorem tst3 {R3 R5 : Nat} {z0 z1 z2 z3 z4 : Value} (hz : Box w2 R3 z0 z1 z2 z3 z4) (hR : W.heap.size ≤ R3) (hS : ¬ S R3) (h5 : R5 = w2.heap.size) : TSt W S R3 R5 c0 c1 c2 c3 c4 e p T ((((((w2.setCell ⟨R3, 0, none⟩ c0).setCell ⟨R3, 1, none⟩ c1).setCell ⟨R3, 2, none⟩ c2).setCell ⟨R3, 3, none⟩ c3).setCell ⟨R3, 4, none⟩ c4).alloc (.cells #[.int .i64 e, .int .i64 p] 40)) := by
  subst h5
  obtain ⟨hB, hg, hs⟩ := set5 hz c0 c1 c2 c3 c4
  have hr := rep_other hrep hS hg
  have hw := below_fresh hb hR hg
  generalize (((((w2.setCell ⟨R3, 0, none⟩ c0).setCell ⟨R3, 1, none⟩ c1).setCell ⟨R3, 2, none⟩ c2).setCell ⟨R3, 3, none⟩ c3).setCell ⟨R3, 4, none⟩ c4) = Y at *
  have hba : Below Y.heap.size Y (Y.alloc (.cells #[.int .i64 e, .int .i64 p] 40)) := (Below.refl _ Y).alloc (Nat.le_refl _) _
  exact ⟨hB.lift hba, by unfold Flt; rw [heap_at, if_pos hs.symm], hr.lift hba, hw.trans (hba.mono hw.size), hR, hb.size⟩
theorem tst4 {R3 R5 : Nat} {e0 p0 : Int} (hz : Flt w2 R5 e0 p0) (hR : W.heap.size ≤ R5) (hS : ¬ S R5) (h3 : R3 = w2.heap.size) : TSt W S R3 R5 c0 c1 c2 c3 c4 e p T (((w2.setCell ⟨R5, 0, none⟩ (.int .i64 e)).setCell ⟨R5, 1, none⟩ (.int .i64 p)).alloc (.cells #[c0, c1, c2, c3, c4] 30)) := by
  subst h3
  obtain ⟨hB, hg, hs⟩ := setF hz e p
  have hr := rep_other hrep hS hg
  have hw := below_fresh hb hR hg
  generalize ((w2.setCell ⟨R5, 0, none⟩ (.int .i64 e)).setCell ⟨R5, 1, none⟩ (.int .i64 p)) = Y at *
  have hba : Below Y.heap.size Y (Y.alloc (.cells #[c0, c1, c2, c3, c4] 30)) := (Below.refl _ Y).alloc (Nat.le_refl _) _
  exact ⟨by unfold Box; rw [heap_at, if_pos hs.symm], hB.lift hba, hr.lift hba, hw.trans (hba.mono hw.size), hb.size, hR⟩
theorem tst5 {R3 R5 : Nat} {z0 z1 z2 z3 z4 : Value} {e0 p0 : Int} (hz : Box w2 R3 z0 z1 z2 z3 z4) (hR : W.heap.size ≤ R3) (hS : ¬ S R3) (hz5 : Flt w2 R5 e0 p0) (hR5 : W.heap.size ≤ R5) (hS5 : ¬ S R5) (hne : R3 ≠ R5) : TSt W S R3 R5 c0 c1 c2 c3 c4 e p T (((((((w2.setCell ⟨R3, 0, none⟩ c0).setCell ⟨R3, 1, none⟩ c1).setCell ⟨R3, 2, none⟩ c2).setCell ⟨R3, 3, none⟩ c3).setCell ⟨R3, 4, none⟩ c4).setCell ⟨R5, 0, none⟩ (.int .i64 e)).setCell ⟨R5, 1, none⟩ (.int .i64 p)) := by
  obtain ⟨hB, hg, hs⟩ := set5 hz c0 c1 c2 c3 c4
  have hr := rep_other hrep hS hg
  have hw := below_fresh hb hR hg
  have hf := hz5.grown hg (by intro x; exact hne (Option.some.inj x).symm)
  generalize (((((w2.setCell ⟨R3, 0, none⟩ c0).setCell ⟨R3, 1, none⟩ c1).setCell ⟨R3, 2, none⟩ c2).setCell ⟨R3, 3, none⟩ c3).setCell ⟨R3, 4, none⟩ c4) = Y at *
  obtain ⟨hF, hg2, hs2⟩ := setF hf e p
  exact ⟨hB.grown hg2 (by intro x; exact hne (Option.some.inj x)), hF, rep_other hr hS5 hg2, below_fresh hw hR5 hg2, hR, hR5⟩
theorem tst6 {R3 R5 : Nat} {z0 z1 z2 z3 z4 : Value} {e0 p0 : Int} (hz : Box w2 R3 z0 z1 z2 z3 z4) (hR : W.heap.size ≤ R3) (hS : ¬ S R3) (hz5 : Flt w2 R5 e0 p0) (hR5 : W.heap.size ≤ R5) (hS5 : ¬ S R5) (hne : R3 ≠ R5) : TSt W S R3 R5 c0 c1 c2 c3 c4 e p T (((((((w2.setCell ⟨R5, 0, none⟩ (.int .i64 e)).setCell ⟨R5, 1, none⟩ (.int .i64 p)).setCell ⟨R3, 0, none⟩ c0).setCell ⟨R3, 1, none⟩ c1).setCell ⟨R3, 2, none⟩ c2).setCell ⟨R3, 3, none⟩ c3).setCell ⟨R3, 4, none⟩ c4) := by
  obtain ⟨hF, hg, hs⟩ := setF hz5 e p
  have hr := rep_other hrep hS5 hg
  have hw := below_fresh hb hR5 hg
  have hx := hz.grown hg (by intro x; exact hne (Option.some.inj x))
  generalize ((w2.setCell ⟨R5, 0, none⟩ (.int .i64 e)).setCell ⟨R5, 1, none⟩ (.int .i64 p)) = Y at *
  obtain ⟨hB, hg2, hs2⟩ := set5 hx c0 c1 c2 c3 c4
  exact ⟨hB, hF.grown hg2 (by intro x; exact hne (Option.some.inj x).symm), rep_other hr hS hg2, below_fresh hw hR hg2, hR, hR5⟩
end
section
variable {x w2 : World}
theorem preA (hb : Below (x.alloc (.cells #[.int .i64 0, .string ⟨#[]⟩, .int .i64 0, .int .i64 0, .slice none 0 0] 30)).heap.size (x.alloc (.cells #[.int .i64 0, .string ⟨#[]⟩, .int .i64 0, .int .i64 0, .slice none 0 0] 30)) w2) : Zero w2 x.heap.size := Box.lift (Box.made _ _ _ _ _ _) hb
theorem preB (hb : Below (x.alloc (.cells #[.int .i64 0, .int .i64 0] 40)).heap.size (x.alloc (.cells #[.int .i64 0, .int .i64 0] 40)) w2) : Flt w2 x.heap.size 0 0 := Flt.lift (heap_alloc_new x _) hb
theorem preAB (hb : Below ((x.alloc (.cells #[.int .i64 0, .string ⟨#[]⟩, .int .i64 0, .int .i64 0, .slice none 0 0] 30)).alloc (.cells #[.int .i64 0, .int .i64 0] 40)).heap.size ((x.alloc (.cells #[.int .i64 0, .string ⟨#[]⟩, .int .i64 0, .int .i64 0, .slice none 0 0] 30)).alloc (.cells #[.int .i64 0, .int .i64 0] 40)) w2) : Zero w2 x.heap.size ∧ Flt w2 (x.heap.size + 1) 0 0 :=
  ⟨Box.lift (show Box _ _ _ _ _ _ _ by unfold Box; rw [heap_at, if_neg (by simp), heap_at, if_pos rfl]) hb, Flt.lift (show Flt _ _ _ _ by unfold Flt; rw [heap_at, if_pos (by simp)]) hb⟩
theorem preBA (hb : Below ((x.alloc (.cells #[.int .i64 0, .int .i64 0] 40)).alloc (.cells #[.int .i64 0, .string ⟨#[]⟩, .int .i64 0, .int .i64 0, .slice none 0 0] 30)).heap.size ((x.alloc (.cells #[.int .i64 0, .int .i64 0] 40)).alloc (.cells #[.int .i64 0, .string ⟨#[]⟩, .int .i64 0, .int .i64 0, .slice none 0 0] 30)) w2) : Flt w2 x.heap.size 0 0 ∧ Zero w2 (x.heap.size + 1) :=
  ⟨Flt.lift (show Flt _ _ _ _ by unfold Flt; rw [heap_at, if_neg (by simp), heap_at, if_pos rfl]) hb, Box.lift (show Box _ _ _ _ _ _ _ by unfold Box; rw [heap_at, if_pos (by simp)]) hb⟩
end

theorem TSt.imp {W V : World} {S S' : Nat → Prop} {R3 R5 : Nat} {c0 c1 c2 c3 c4 : Value} {e p : Int} {T : Ty} (h : TSt W S R3 R5 c0 c1 c2 c3 c4 e p T V) (hS : ∀ g, S g → S' g) : TSt W S' R3 R5 c0 c1 c2 c3 c4 e p T V := ⟨h.box, h.flt, h.rep.imp hS, h.low, h.hi3, h.hi5⟩
theorem tAl {W a : World} {b : Nat} (o : Obj) (hsz : b ≤ a.heap.size) (h1 : Below b W a) : Below b W (a.alloc o) := h1.alloc hsz o
theorem tDr {W a : World} {b : Nat} (h1 : Below b W a) : Below b W a.drew := h1.drew
theorem noDrew {x w2 : World} (hb : Below x.drew.heap.size x.drew w2) : Below x.heap.size x w2 := (Below.refl _ x).drew.trans hb
theorem tCall {W a c : World} (h1 : Below W.heap.size W a) (h2 : Below a.heap.size a c) : Below W.heap.size W c := h1.trans (h2.mono h1.size)
theorem hz1 (x : World) (o : Obj) : x.heap.size < (x.alloc o).drew.heap.size := by show _ < (x.alloc o).heap.size; simp
theorem hz2 (x : World) (o o' : Obj) : x.heap.size + 1 < ((x.alloc o).alloc o').drew.heap.size := by show _ < ((x.alloc o).alloc o').heap.size; simp
theorem rdT_cases (ts : List Tok) (k : Int) : (∃ T, ∃ j : Nat, rdT ts k = ⟨T, j, 0, 0⟩ ∧ j ≤ ts.length ∧ startAt ts k < j) ∨ (∃ p, rdT ts k = ⟨zeroT, 0, 3, p⟩) := by
  obtain ⟨R, hR⟩ := (ends_all ts (3 * ts.length + 3)).2.1 (startAt ts k) (startAt_le ts k) (by omega)
  have hrd : rdT ts k = resQ ts R := by unfold rdT; rw [hR]; rfl
  rw [hrd]
  cases R with
  | ok U j =>
    have hj := (goes_all ts _).2.1 _ _ _ hR
    exact .inl ⟨U, j, rfl, hj.2, hj.1⟩
  | bad p => exact .inr ⟨_, rfl⟩

set_option maxRecDepth 100000 in
set_option maxHeartbeats 6400000 in
theorem yTyp_any (ts : List Tok) (s : St) : TypAt ts s := by
  intro ea b w h
  have hok := h.ok
  obtain ⟨hi, hl⟩ := h.le
  have hbw := h.lt
  obtain ⟨la, lc, ⟨c0, c1, -, -⟩, ⟨f1, -, -⟩, hcap, hT⟩ := h.cells
  have HP := Lib.hid (Box.made w (.int .i64 0) (.string ⟨#[]⟩) (.int .i64 0) (.int .i64 0) (.slice none 0 0))
  have hal : Below w.heap.size w (w.alloc (.cells #[.int .i64 0, .string ⟨#[]⟩, .int .i64 0, .int .i64 0, .slice none 0 0] 30)) := (Below.refl _ w).alloc (Nat.le_refl _) _
  have HR1 := Lib.hid (h.lift hal)
  have k0 : (w.alloc (.cells #[.int .i64 0, .string ⟨#[]⟩, .int .i64 0, .int .i64 0, .slice none 0 0] 30)).cell? ⟨b, 0, none⟩ = some (.slice la ts.length lc) := by rw [hal.cell (World.block_lt_of_cell? _ _ c0)]; exact c0
  have k1 : (w.alloc (.cells #[.int .i64 0, .string ⟨#[]⟩, .int .i64 0, .int .i64 0, .slice none 0 0] 30)).cell? ⟨b, 1, none⟩ = some (.int .i64 (s.i : Int)) := by rw [hal.cell (World.block_lt_of_cell? _ _ c1)]; exact c1
  have HAl := Lib.hid hal
  have hsz : w.heap.size < (w.alloc (.cells #[.int .i64 0, .string ⟨#[]⟩, .int .i64 0, .int .i64 0, .slice none 0 0] 30)).heap.size := by simp
  have HSz := Lib.hid hsz
  have HBw := Lib.hid hbw
  have HFl := Lib.hid (fun (p : Int) (V : World) (h : RdY ea V b ts s) => yFail_any ea b ts s p V h)
  obtain ⟨n, e, p, T, hn, HJ, HX⟩ : ∃ n e p T, rdT ts s.i = ⟨T, n, e, p⟩ ∧ Hid ((e = 0 ∧ ∃ j : Nat, n = j ∧ j ≤ ts.length) ∨ e = 3) ∧ Hid (yTyR ts s = if e == 0 then (T, ⟨n.toNat, s.bad, s.p⟩) else (zeroT, yFl s p)) := by
    rcases rdT_cases ts s.i with ⟨T, j, he, hj, -⟩ | ⟨p, he⟩
    · exact ⟨j, 0, 0, T, he, .inl ⟨rfl, j, rfl, hj⟩, by show _ = _; unfold yTyR; rw [he]⟩
    · exact ⟨0, 3, p, zeroT, he, .inr rfl, by show _ = _; unfold yTyR; rw [he]⟩
  have HC : Hid (∀ V, Below (w.alloc (.cells #[.int .i64 0, .string ⟨#[]⟩, .int .i64 0, .int .i64 0, .slice none 0 0] 30)).heap.size (w.alloc (.cells #[.int .i64 0, .string ⟨#[]⟩, .int .i64 0, .int .i64 0, .slice none 0 0] 30)) V → Calls Tryz.prog 15 #[.slice la ts.length lc, .int .i64 (s.i : Int)] V fun e' w' => ∃ u, e' = .returned u ∧ TyAfter n e p T V u w') := fun V hb => by
    have hc := pkType_any ts hok _ _ (s.i : Int) V ((hT.lift hal).lift hb) ((h.g2.lift hal).gl.lift hb)
    rw [hn] at hc
    refine hc.mono ?_
    rintro e' w' ⟨v, rfl, ⟨u, rfl, hrep⟩, hb2⟩
    obtain ⟨uk, un, ui, uh, ua, um, uc, rfl⟩ := hrep.form
    exact ⟨_, rfl, uk, un, ui, uh, ua, um, uc, rfl, hrep, hb2⟩
  clear hal hsz h hT hn hok hbw c0 c1 f1
  go_enter Tryz.func125, Tryz.ntmps125
  go_upto_region 1 with fail
  generalize (w.alloc (.cells #[.int .i64 0, .string ⟨#[]⟩, .int .i64 0, .int .i64 0, .slice none 0 0] 30)) = w1 at *
  have KO : ∀ (o : Obj) {a : Addr} {v : Value}, w1.cell? a = some v → (w1.alloc o).cell? a = some v := fun o a v h => by rw [((Below.refl _ w1).alloc (Nat.le_refl _) o).cell (World.block_lt_of_cell? _ _ h)]; exact h
  have KP : ∀ (o o' : Obj) {a : Addr} {v : Value}, w1.cell? a = some v → ((w1.alloc o).alloc o').cell? a = some v := fun o o' a v h => by rw [(((Below.refl _ w1).alloc (Nat.le_refl _) o).alloc (by simp) o').cell (World.block_lt_of_cell? _ _ h)]; exact h
  have m0 : (w1.alloc (.cells #[.int .i64 0, .string ⟨#[]⟩, .int .i64 0, .int .i64 0, .slice none 0 0] 30)).cell? ⟨b, 0, none⟩ = some (.slice la ts.length lc) := KO _ k0
  have n0 : (w1.alloc (.cells #[.int .i64 0, .string ⟨#[]⟩, .int .i64 0, .int .i64 0, .slice none 0 0] 30)).cell? ⟨b, 1, none⟩ = some (.int .i64 (s.i : Int)) := KO _ k1
  have m1 : (w1.alloc (.cells #[.int .i64 0, .int .i64 0] 40)).cell? ⟨b, 0, none⟩ = some (.slice la ts.length lc) := KO _ k0
  have n1 : (w1.alloc (.cells #[.int .i64 0, .int .i64 0] 40)).cell? ⟨b, 1, none⟩ = some (.int .i64 (s.i : Int)) := KO _ k1
  have m2 : ((w1.alloc (.cells #[.int .i64 0, .string ⟨#[]⟩, .int .i64 0, .int .i64 0, .slice none 0 0] 30)).alloc (.cells #[.int .i64 0, .int .i64 0] 40)).cell? ⟨b, 0, none⟩ = some (.slice la ts.length lc) := KP _ _ k0
  have n2 : ((w1.alloc (.cells #[.int .i64 0, .string ⟨#[]⟩, .int .i64 0, .int .i64 0, .slice none 0 0] 30)).alloc (.cells #[.int .i64 0, .int .i64 0] 40)).cell? ⟨b, 1, none⟩ = some (.int .i64 (s.i : Int)) := KP _ _ k1
  have m3 : ((w1.alloc (.cells #[.int .i64 0, .int .i64 0] 40)).alloc (.cells #[.int .i64 0, .string ⟨#[]⟩, .int .i64 0, .int .i64 0, .slice none 0 0] 30)).cell? ⟨b, 0, none⟩ = some (.slice la ts.length lc) := KP _ _ k0
  have n3 : ((w1.alloc (.cells #[.int .i64 0, .int .i64 0] 40)).alloc (.cells #[.int .i64 0, .string ⟨#[]⟩, .int .i64 0, .int .i64 0, .slice none 0 0] 30)).cell? ⟨b, 1, none⟩ = some (.int .i64 (s.i : Int)) := KP _ _ k1
  clear KO KP
  go_cut [3, 4, 5] (fun s3 s4 s5 wx => ∃ R3 R5 uk un ui uh ua um uc, s3 = .pointer (some ⟨R3, 0, none⟩) ∧ s4 = .int .i64 n ∧ s5 = .pointer (some ⟨R5, 0, none⟩) ∧ Hid (TSt w1 (fun g => w.heap.size < g) R3 R5 (.int .i64 uk) (.string un) (.int .i64 ui) (.int .i64 uh) (.slice ua um uc) e p T wx))
  case first =>
    go_region_law
      (((with_reducible refine step_ty HC.out ?_ ?_ ?_ ?_); (first | exact tDr (Below.refl _ _) | exact tDr (tAl _ (Nat.le_refl _) (Below.refl _ _)) | exact tDr (tAl _ (by simp) (tAl _ (Nat.le_refl _) (Below.refl _ _)))); (rfl); (rfl); (rintro u w2 ⟨uk, un, ui, uh, ua, um, uc, rfl, hrep, hb⟩); (have HRep := Lib.hid hrep); (have hb := noDrew hb); (have HB := Lib.hid hb); (first
        | (have hq := preAB hb; obtain ⟨hA, hB⟩ : Zero w2 w1.heap.size ∧ Flt w2 (w1.heap.size + 1) 0 0 := hq; obtain ⟨z0, z1, z2, z3, z4⟩ := hA.cells; obtain ⟨y0, y1, y2, y3, y4⟩ := hA.frozen; obtain ⟨q0, q1⟩ := hB.cells; obtain ⟨r0, r1⟩ := hB.free)
        | (have hq := preBA hb; obtain ⟨hB, hA⟩ : Flt w2 w1.heap.size 0 0 ∧ Zero w2 (w1.heap.size + 1) := hq; obtain ⟨z0, z1, z2, z3, z4⟩ := hA.cells; obtain ⟨y0, y1, y2, y3, y4⟩ := hA.frozen; obtain ⟨q0, q1⟩ := hB.cells; obtain ⟨r0, r1⟩ := hB.free)
        | (have hq := preA hb; have hA : Zero w2 w1.heap.size := hq; clear hq; obtain ⟨z0, z1, z2, z3, z4⟩ := hA.cells; obtain ⟨y0, y1, y2, y3, y4⟩ := hA.frozen; have hl1 := hA.lt)
        | (have hq := preB hb; have hB : Flt w2 w1.heap.size 0 0 := hq; clear hq; obtain ⟨q0, q1⟩ := hB.cells; obtain ⟨r0, r1⟩ := hB.free; have hl1 := (Array.getElem?_eq_some_iff.1 hB).1)
        | skip); clear hrep hb))
    all_goals
      go_wp2_with fail
      go_meet
      first
        | exact ⟨_, _, _, _, _, _, _, _, _, rfl, rfl, rfl, (tst1 HB.out HRep.out).imp fun g hg => Nat.lt_of_lt_of_le HSz.out hg⟩
        | exact ⟨_, _, _, _, _, _, _, _, _, rfl, rfl, rfl, (tst2 HB.out HRep.out).imp fun g hg => Nat.lt_of_lt_of_le HSz.out hg⟩
        | exact ⟨_, _, _, _, _, _, _, _, _, rfl, rfl, rfl, (tst3 (tCall (tAl _ (Nat.le_refl _) (Below.refl _ _)) HB.out) HRep.out hA (Nat.le_refl _) (Nat.not_le.2 (hz1 _ _)) rfl).imp fun g hg => Nat.lt_of_lt_of_le HSz.out (Nat.le_trans (Nat.le_of_lt (hz1 _ _)) hg)⟩
        | exact ⟨_, _, _, _, _, _, _, _, _, rfl, rfl, rfl, (tst4 (tCall (tAl _ (Nat.le_refl _) (Below.refl _ _)) HB.out) HRep.out hB (Nat.le_refl _) (Nat.not_le.2 (hz1 _ _)) rfl).imp fun g hg => Nat.lt_of_lt_of_le HSz.out (Nat.le_trans (Nat.le_of_lt (hz1 _ _)) hg)⟩
        | exact ⟨_, _, _, _, _, _, _, _, _, rfl, rfl, rfl, (tst5 (tCall (tAl _ (by simp) (tAl _ (Nat.le_refl _) (Below.refl _ _))) HB.out) HRep.out hA (Nat.le_refl _) (Nat.not_le.2 (Nat.lt_of_succ_lt (hz2 _ _ _))) hB (Nat.le_succ _) (Nat.not_le.2 (hz2 _ _ _)) (by simp)).imp fun g hg => Nat.lt_of_lt_of_le HSz.out (Nat.le_trans (Nat.le_of_lt (Nat.lt_of_succ_lt (hz2 _ _ _))) hg)⟩
        | exact ⟨_, _, _, _, _, _, _, _, _, rfl, rfl, rfl, (tst5 (tCall (tAl _ (by simp) (tAl _ (Nat.le_refl _) (Below.refl _ _))) HB.out) HRep.out hA (Nat.le_succ _) (Nat.not_le.2 (hz2 _ _ _)) hB (Nat.le_refl _) (Nat.not_le.2 (Nat.lt_of_succ_lt (hz2 _ _ _))) (by simp)).imp fun g hg => Nat.lt_of_lt_of_le HSz.out (Nat.le_trans (Nat.le_of_lt (Nat.lt_of_succ_lt (hz2 _ _ _))) hg)⟩
  case rest =>
    obtain ⟨R3, R5, uk, un, ui, uh, ua, um, uc, rfl, rfl, rfl, HT⟩ := hcut
    have HRx := Lib.hid (HR1.out.lift HT.out.low)
    have HPx := Lib.hid (Box.lift HP.out HT.out.low)
    have hlo := HT.out.low.size
    have hsw := HSz.out
    have hbw := HBw.out
    have hi3 := HT.out.hi3
    have HWx : Hid (w.grownBy wc (some b)) := grown_of_below (HAl.out.trans (HT.out.low.mono (Nat.le_of_lt hsw))) _
    obtain ⟨d0, d1⟩ := HT.out.flt.cells
    clear HC HR1 HAl HP k0 k1 m0 m1 m2 m3 n0 n1 n2 n3
    rcases HJ.out with ⟨rfl, j, rfl, hj⟩ | rfl
    · have hx : yTyR ts s = (T, ⟨j, s.bad, s.p⟩) := by rw [HX.out]; simp
      have HXx := Lib.hid hx
      obtain ⟨hset, hgset⟩ := HRx.out.set j hj
      have HS1 := Lib.hid hset
      have HS2 := Lib.hid hgset
      obtain ⟨la', lc', ⟨-, k1, -, -⟩, ⟨f1, -, -⟩, -, -⟩ := HRx.out.cells
      have hBx : Box (wc.setCell ⟨b, 1, none⟩ (.int .i64 (j : Int))) R3 (.int .i64 uk) (.string un) (.int .i64 ui) (.int .i64 uh) (.slice ua um uc) := HT.out.box.grown hgset (by intro x; have := Option.some.inj x; omega)
      have HBx := Lib.hid hBx
      have HZx : Hid (Zero (wc.setCell ⟨b, 1, none⟩ (.int .i64 (j : Int))) w.heap.size) := Box.grown HPx.out hgset (by intro x; have := Option.some.inj x; omega)
      have HRp : Hid (Rep (wc.setCell ⟨b, 1, none⟩ (.int .i64 (j : Int))) (fun g => w.heap.size < g) T (.agg #[.int .i64 uk, .string un, .int .i64 ui, .int .i64 uh, .slice ua um uc])) := rep_other HT.out.rep (by omega) hgset
      have HWy := Lib.hid (grown_trans HWx.out hgset)
      clear hset hgset hBx HX HJ hx HFl HWx
      go_upto_region 6 with fail
      generalize wc.setCell ⟨b, 1, none⟩ (.int .i64 (j : Int)) = Y at *
      clear d0 d1 k1 f1
      obtain ⟨z0, z1, z2, z3, z4⟩ := HBx.out.cells
      obtain ⟨y0, y1, y2, y3, y4⟩ := HZx.out.cells
      obtain ⟨x0, x1, x2, x3, x4⟩ := HZx.out.frozen
      go_wp2
      obtain ⟨hB, hG, -⟩ := set5 HZx.out (.int .i64 uk) (.string un) (.int .i64 ui) (.int .i64 uh) (.slice ua um uc)
      generalize (((((Y.setCell ⟨w.heap.size, 0, none⟩ (.int .i64 uk)).setCell ⟨w.heap.size, 1, none⟩ (.string un)).setCell ⟨w.heap.size, 2, none⟩ (.int .i64 ui)).setCell ⟨w.heap.size, 3, none⟩ (.int .i64 uh)).setCell ⟨w.heap.size, 4, none⟩ (.slice ua um uc)) = X at *
      obtain ⟨e0, e1, e2, e3, e4⟩ := hB.cells
      refine bodyPost_ret (by simp [results, Tryz.results125, go_sem, e0, e1, e2, e3, e4]; try rfl) rfl ?_
      rw [HXx.out]
      exact ⟨[.int .i64 uk, .string un, .int .i64 ui, .int .i64 uh, .slice ua um uc], rfl, (rep_other HRp.out (by simp) hG).imp (fun g hg => Nat.le_of_lt hg), HS1.out.other hbw hG, grown_fresh HWy.out hG (fun i e => by cases e; exact Nat.le_refl _)⟩
    · have hx : yTyR ts s = (zeroT, yFl s p) := by rw [HX.out]; rfl
      have HXx := Lib.hid hx
      clear HX HJ hx
      go_wp2_with fail
      go_at_call 122
      refine (HFl.out p _ HRx.out).mono ?_
      rintro e' w5 ⟨rfl, hr5, hg5⟩
      have HR5 := Lib.hid hr5
      have HW5 := Lib.hid (grown_trans HWx.out hg5)
      have HZx : Hid (Zero w5 w.heap.size) := Box.grown HPx.out hg5 (by intro x; have := Option.some.inj x; omega)
      clear hr5 hg5 HPx HRx HWx HT d0 d1 HFl
      obtain ⟨y0, y1, y2, y3, y4⟩ := HZx.out.cells
      obtain ⟨x0, x1, x2, x3, x4⟩ := HZx.out.frozen
      go_wp2
      obtain ⟨hB, hG, -⟩ := set5 HZx.out (.int .i64 0) (.string ⟨#[]⟩) (.int .i64 0) (.int .i64 0) (.slice none 0 0)
      generalize (((((w5.setCell ⟨w.heap.size, 0, none⟩ (.int .i64 0)).setCell ⟨w.heap.size, 1, none⟩ (.string ⟨#[]⟩)).setCell ⟨w.heap.size, 2, none⟩ (.int .i64 0)).setCell ⟨w.heap.size, 3, none⟩ (.int .i64 0)).setCell ⟨w.heap.size, 4, none⟩ (.slice none 0 0)) = X at *
      obtain ⟨e0, e1, e2, e3, e4⟩ := hB.cells
      refine bodyPost_ret (by simp [results, Tryz.results125, go_sem, e0, e1, e2, e3, e4]; try rfl) rfl ?_
      rw [HXx.out]
      exact ⟨[.int .i64 0, .string ⟨#[]⟩, .int .i64 0, .int .i64 0, .slice none 0 0], rfl, rep_leaf _ _ 0 ⟨#[]⟩ 0 0 (by unfold maxLen; decide +kernel), HR5.out.other hbw hG, grown_fresh HW5.out hG (fun i e => by cases e; exact Nat.le_refl _)⟩
end Go.Proofs.YthphnacfidofbaaGreatDoor
