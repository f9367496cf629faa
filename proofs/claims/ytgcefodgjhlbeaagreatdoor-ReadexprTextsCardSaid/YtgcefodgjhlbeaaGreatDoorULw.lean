import Derived.Test.YtgcefodgjhlbeaaGreatDoorUM7
import Derived.Test.YtgcefodgjhlbeaaGreatDoorUS3
import Derived.Test.YtgcefodgjhlbeaaGreatDoorUE1
import Derived.Test.YtgcefodgjhlbeaaGreatDoorUC6
import Derived.Test.YtgcefodgjhlbeaaGreatDoorUQ5
import Derived.Test.YtgcefodgjhlbeaaGreatDoorUX7
import Derived.Test.YtgcefodgjhlbeaaGreatDoorUE2
import Derived.Test.YtgcefodgjhlbeaaGreatDoorUC4
import Derived.Test.YtgcefodgjhlbeaaGreatDoorUC1
import Derived.Deep.CutBlock
import Derived.Deep.LoopGhost
import Derived.Test.YtgcefodgjhlbeaaGreatDoorUA6
import Derived.Laws.AppendOwnNone
import Derived.Laws.OwnMore
namespace Go.Proofs.YtgcefodgjhlbeaaGreatDoor
open Go.RowKit Go.Maps Mth

mutual
theorem strip_strip : ∀ T : Ex, strip (strip T) = strip T
 | .mk k _ n m t kids arms => by simp only [strip, stripL_strip kids, stripA_strip arms]
theorem stripL_strip : ∀ l : List Ex, stripL (stripL l) = stripL l
 | [] => rfl
 | e :: l => by simp only [stripL, strip_strip e, stripL_strip l]
theorem stripA_strip : ∀ l : List (AH × Ex), stripA (stripA l) = stripA l
 | [] => rfl
 | (h, e) :: l => by simp only [stripA, strip_strip e, stripA_strip l]
end
theorem stripL_len (l : List Ex) : (stripL l).length = l.length := by rw [stripL_map, List.length_map]
theorem stripA_len (l : List (AH × Ex)) : (stripA l).length = l.length := by rw [stripA_map, List.length_map]
mutual
theorem bnd_strip : ∀ T : Ex, bndE (strip T) = bndE T
 | .mk k _ n m t kids arms => by simp only [strip, bndE, stripL_len, stripA_len, bndK_strip kids, bndA_strip arms]
theorem bndK_strip : ∀ l : List Ex, bndK (stripL l) = bndK l
 | [] => rfl
 | e :: l => by simp only [stripL, bndK, bnd_strip e, bndK_strip l]
theorem bndA_strip : ∀ l : List (AH × Ex), bndA (stripA l) = bndA l
 | [] => rfl
 | (h, e) :: l => by simp only [stripA, bndA, bnd_strip e, bndA_strip l]
end
theorem same_strip {T T' : Ex} (h : strip T' = T) (hb : bndE T' = true) (c d : List Value) (S S' : Nat → Prop) (w : World) (h1 : RepE w S T c) (h2 : RepE w S' T' d) : Calls Tryz.prog 14 #[.agg c.toArray, .agg d.toArray] w fun e w' => e = .returned (.bool true) ∧ Below w.heap.size w w' := by
 subst h
 exact equal4_any (strip T') T' (strip_strip T') (by rw [bnd_strip]; exact hb) hb c d S S' w h1 h2
theorem same_strip' {T T' : Ex} (h : strip T' = T) (hb : bndE T' = true) (c d : List Value) (S S' : Nat → Prop) (w : World) (h1 : RepE w S T' c) (h2 : RepE w S' T d) : Calls Tryz.prog 14 #[.agg c.toArray, .agg d.toArray] w fun e w' => e = .returned (.bool true) ∧ Below w.heap.size w w' := by
 subst h
 exact equal4_any T' (strip T') (strip_strip T').symm hb (by rw [bnd_strip]; exact hb) c d S S' w h1 h2
structure TwoE (n : Nat) (T : Ex) (c : List Value) (e p : Int) (V : World) : Prop where
 box : BoxC 34 V n c
 flt : BoxC 43 V (n + 1) [.int .i64 e, .int .i64 p]
 rep : RepE V (fun _ => True) T c
theorem TwoE.lift {n : Nat} {T : Ex} {c : List Value} {e p : Int} {V V' : World} (h : TwoE n T c e p V) (hb : Below V.heap.size V V') : TwoE n T c e p V' :=
 ⟨h.box.lift hb, h.flt.lift hb, h.rep.lift hb⟩
theorem twoE_made {w : World} {T : Ex} {c : List Value} (e p : Int) (hr : RepE w (fun _ => True) T c) : TwoE w.heap.size T c e p ((w.alloc (.cells c.toArray 34)).alloc (.cells #[.int .i64 e, .int .i64 p] 43)) := by
 refine ⟨?_, ?_, hr.lift (((Below.refl _ w).alloc (Nat.le_refl _) _).alloc (by simp) _)⟩
 ·show (_ : Array _)[_]? = _
  rw [heap_at, if_neg (by simp), heap_at, if_pos rfl]
 ·show (_ : Array _)[_]? = _
  rw [heap_at, if_pos (by simp)]
theorem twoE_below (w : World) (c : List Value) (e p : Int) : Below w.heap.size w ((w.alloc (.cells c.toArray 34)).alloc (.cells #[.int .i64 e, .int .i64 p] 43)) := ((Below.refl _ w).alloc (Nat.le_refl _) _).alloc (by simp) _
def RdCE (f : FuncId) (w : World) (v : Value) (k : Int) (r : ResE) : Prop := ∀ V, Below w.heap.size w V → Calls Tryz.prog f #[v, .int .i64 k] V fun e w' => ∃ ka kc aa ac tk tn ti th ta tl tc, e = .returned (.tuple #[.agg #[.int .i64 r.T.k, .int .i64 r.T.p, .string r.T.n, .int .i64 r.T.m, .slice ka r.T.kids.length kc, .slice aa r.T.arms.length ac, .int .i64 tk, .string tn, .int .i64 ti, .int .i64 th, .slice ta tl tc], .int .i64 r.n, .agg #[.int .i64 r.e, .int .i64 r.p]]) ∧ RepE w' (fun _ => True) r.T [.int .i64 r.T.k, .int .i64 r.T.p, .string r.T.n, .int .i64 r.T.m, .slice ka r.T.kids.length kc, .slice aa r.T.arms.length ac, .int .i64 tk, .string tn, .int .i64 ti, .int .i64 th, .slice ta tl tc] ∧ Below V.heap.size V w'
theorem rdCE_of {f : FuncId} {w : World} {v : Value} {k : Int} {r : ResE} (h : ∀ V, Below w.heap.size w V → Calls Tryz.prog f #[v, .int .i64 k] V fun e w' => ∃ x, e = .returned x ∧ ResEAt w' (fun c => V.heap.size ≤ c) r x ∧ Below V.heap.size V w') : RdCE f w v k r := fun V hb => by
 refine (h V hb).mono ?_
 rintro e w' ⟨x, rfl, ⟨c, rfl, hr⟩, hb'⟩
 obtain ⟨ka, kc, aa, ac, tk, tn, ti, th, ta, tl, tc, rfl⟩ := hr.form
 exact ⟨ka, kc, aa, ac, tk, tn, ti, th, ta, tl, tc, rfl, hr.imp fun _ _ => trivial, hb'⟩
theorem tape_newE {w w1 : World} {zs : List Int} {a : Option Addr} {cap n : Nat} (hn : n = zs.length) (hz : zs.length ≤ 1000) (h : Ints w (.slice a n cap) zs) (hb : Below w.heap.size w w1) :
  S3.Tq (w1.alloc (.cells #[.slice a n cap, .int .i64 0] 27)) w1.heap.size := by
 subst hn
 obtain ⟨a', cap', e, -, -, hj⟩ := h
 cases e
 refine ⟨zs, a, cap, 0, ?_, Nat.zero_le _, hz, fun j x hx => ?_⟩
 ·unfold S3.TapeAt; rw [heap_at, if_pos rfl]; rfl
 ·obtain ⟨ad, rfl, hc⟩ := hj j x hx
  have hl := World.block_lt_of_cell? _ _ hc
  have hl1 := Nat.lt_of_lt_of_le hl hb.size
  refine ⟨ad, rfl, by rw [add_block] at hl1; exact hl1, ?_⟩
  rw [((Below.refl _ w1).alloc (Nat.le_refl _) _).cell hl1, hb.cell hl]
  exact hc
structure Me (w : World) (B d : Nat) (T : Ex) (c : List Value) (V : World) : Prop where
 box : BoxC 34 V B c
 rep : RepE V (fun _ => True) T c
 ok : OkE d T
 low : Below w.heap.size w V
theorem Me.lift {w V V' : World} {B d : Nat} {T : Ex} {c : List Value} (h : Me w B d T c V) (hb : Below V.heap.size V V') : Me w B d T c V' :=
 ⟨h.box.lift hb, h.rep.lift hb, h.ok, h.low.trans (hb.mono h.low.size)⟩
theorem me_new {w w3 w4 : World} {base b d : Nat} {T : Ex} {c : List Value} (hl : Below w.heap.size w w3) (hb : w.heap.size ≤ b) (hr : RepE w4 (fun c => base ≤ c) T c) (ho : OkE d T) (hg : w3.grownBy w4 (some b)) :
  Me w w4.heap.size d T c (w4.alloc (.cells c.toArray 34)) := by
 have h1 : Below w.heap.size w w4 := Below.grown hl hg hl.size (fun k hk => by have := Option.some.inj hk; omega)
 have h2 : Below w4.heap.size w4 (w4.alloc (.cells c.toArray 34)) := (Below.refl _ w4).alloc (Nat.le_refl _) _
 exact ⟨BoxC.made _ _ _, (hr.imp fun _ _ => trivial).lift h2, ho, h1.trans (h2.mono h1.size)⟩
theorem capE_le {d : Nat} (hd : d ≤ 4) : capE d ≤ 2805 := by
 have : d = 0 ∨ d = 1 ∨ d = 2 ∨ d = 3 ∨ d = 4 := by omega
 rcases this with rfl | rfl | rfl | rfl | rfl <;> decide
theorem Me.len {w V : World} {B d : Nat} {T : Ex} {c : List Value} (h : Me w B d T c V) (hd : d ≤ 4) : (shE T).length ≤ 2805 := Nat.le_trans h.ok.2 (capE_le hd)
theorem Me.show {w V : World} {B d : Nat} {T : Ex} {c : List Value} (h : Me w B d T c V) (hd : d ≤ 4) : Calls Tryz.prog 10 #[.agg c.toArray] V fun e w' => ∃ s, e = .returned (.string s) ∧ bl s = shE T ∧ Below V.heap.size V w' := by
 refine (xs_any T h.ok.1 (Nat.le_trans (h.len hd) (by omega)) c _ V h.rep).mono ?_
 rintro e w' ⟨rfl, hb⟩
 exact ⟨_, rfl, by simp [bl], hb⟩
theorem parE_snoc (m : Nat) (l : List UInt8) (s : ByteArray) (h : bl s = parT m l) : bl (⟨#[40]⟩ ++ s ++ ⟨#[41]⟩) = parT (m + 1) l := par_bl s _ h
end Go.Proofs.YtgcefodgjhlbeaaGreatDoor

namespace Go.Proofs.YtgcefodgjhlbeaaGreatDoor
open Go.RowKit Go.Maps Mth

def SrcTk (w : World) (us : List Tok) (x : Value) : Prop := (x = .slice none 0 0 ∧ us = []) ∨ ∃ ad c, x = .slice (some ad) us.length c ∧ ∀ (j : Nat) (u : Value), (row3 us)[j]? = some u → w.cell? (ad.add j) = some u
theorem SrcTk.of_row {w : World} {base : Nat} {us : List Tok} {x : Value} (h : w.ownsRow base 76 3 x us.length (row3 us)) : SrcTk w us x := by
 have hc := fun g (hv : x.ownBlock = some g) => h.cells (g := g) hv
 rcases h.2 with ⟨rfl, h0⟩ | ⟨g, cap, cur, rfl, -⟩
 ·exact .inl ⟨rfl, List.eq_nil_of_length_eq_zero h0⟩
 ·exact .inr ⟨_, cap, rfl, hc g rfl⟩
theorem SrcTk.lift {w w' : World} {us : List Tok} {x : Value} (h : SrcTk w us x) (hb : Below w.heap.size w w') : SrcTk w' us x := by
 rcases h with h | ⟨ad, c, e, hc⟩
 ·exact .inl h
 ·exact .inr ⟨ad, c, e, fun j u hu => by
   have := hc j u hu
   rw [hb.cell (World.block_lt_of_cell? _ _ this)]; exact this⟩
theorem SrcTk.one {w : World} {Z : TypeId} {n : Nat} (hn : n = w.heap.size) (k : Int) (x : List UInt8) (p : Nat) : SrcTk (w.alloc (.cells #[.int .i64 k, .string ⟨x.toArray⟩, .int .i64 p] Z)) [⟨k, x, p⟩] (.slice (some ⟨n, 0, none⟩) 1 1) := by
 subst hn
 refine .inr ⟨_, 1, rfl, fun j u hu => ?_⟩
 have hl := (List.getElem?_eq_some_iff.1 hu).1
 have hc : j = 0 ∨ j = 1 ∨ j = 2 := by simp [row3, cells3] at hl; omega
 rcases hc with rfl | rfl | rfl
 all_goals
  simp [row3, cells3] at hu
  subst hu
  simp [Addr.add]
theorem row3_app (a b : List Tok) : row3 (a ++ b) = row3 a ++ row3 b := by simp [row3]
theorem row3_len (l : List Tok) : (row3 l).length = l.length * 3 := by
 induction l with
 | nil => rfl
 | cons t l ih => have : row3 (t :: l) = cells3 t ++ row3 l := rfl; rw [this, List.length_append, ih]; simp [cells3]; omega
theorem row3_one (l : List Tok) : ∀ u ∈ row3 l, u.oneCell' = true := by
 intro u hu
 unfold row3 at hu
 obtain ⟨t, -, ht⟩ := List.mem_flatMap.1 hu
 simp [cells3] at ht
 rcases ht with h | h | h <;> subst h <;> rfl
theorem wpList_pushTk {w : World} {ops : Array Oper} {rest : List Oper} {o : Oper} {a : Act} {Q : Exit → Act → World → Prop} (hgd : o.guard = none) (s x : Operand)
  (ho : o.op = .call { callee := .builtin .append, args := #[s, x], argTypes := #[38, 38] }) (base : Nat) (v : Value) (ts us : List Tok) (hs : a.eval s = v) (hown : w.ownsRow base 76 3 v ts.length (row3 ts))
  (xv : Value) (hx : a.eval x = xv) (hu : SrcTk w us xv) (hl : ts.length + us.length ≤ 1000000) (hbase : base ≤ w.heap.size)
  (hK : ∀ v' w', w'.ownsRow base 76 3 v' (ts ++ us).length (row3 (ts ++ us)) → w.grownBy w' v.ownBlock → wpList Tryz.prog ops Q rest (a.put o.dst v') w') :
  wpList Tryz.prog ops Q (o :: rest) a w := by
 obtain ⟨i, hi, hz, h1, h2⟩ := info_parts Tryz.info76
 rw [List.length_append, row3_app] at hK
 rcases hu with ⟨rfl, rfl⟩ | ⟨ad, c, rfl, hc⟩
 ·exact wpList_append_own_none hgd s x 38 ho base 76 i 3 Tryz.underlying38 hi v ts.length (row3 ts) hs hown hx (hK v w (by simpa [row3] using hown) (World.grownBy.refl w _))
 ·exact wpList_append_own w hgd s x 38 ho base 76 i _ 3 32 Tryz.underlying38 hi hz h1 h2 rfl (by decide) v ts.length (row3 ts) hs hown ad us.length c (row3 us) hx (row3_len us) hc (row3_one us) (by unfold maxLen; omega) (by omega) hbase
   fun v' w' h3 h4 _ => hK v' w' h3 h4
theorem wpList_copyTk {w : World} {ops : Array Oper} {rest : List Oper} {o : Oper} {a : Act} {Q : Exit → Act → World → Prop} (hgd : o.guard = none) (s x : Operand)
  (ho : o.op = .call { callee := .builtin .append, args := #[s, x], argTypes := #[38, 38] }) (us : List Tok) (hs : a.eval s = .slice none 0 0)
  (xv : Value) (hx : a.eval x = xv) (hu : SrcTk w us xv) (hl : us.length ≤ 1000000)
  (hK : ∀ v' w', w'.ownsRow w.heap.size 76 3 v' us.length (row3 us) → Below w.heap.size w w' → wpList Tryz.prog ops Q rest (a.put o.dst v') w') :
  wpList Tryz.prog ops Q (o :: rest) a w := by
 refine wpList_pushTk hgd s x ho w.heap.size (.slice none 0 0) [] us hs (World.ownsRow_nil _ _ _ _) xv hx hu (by simpa using hl) (Nat.le_refl _) fun v' w' h1 h2 => ?_
 exact hK v' w' (by simpa using h1) ⟨h2.os, h2.tape, h2.output, h2.size, fun k hk => h2.block k hk (by simp [Value.ownBlock])⟩
end Go.Proofs.YtgcefodgjhlbeaaGreatDoor

namespace Go.Proofs.YtgcefodgjhlbeaaGreatDoor
open Go.RowKit Go.Maps Mth

theorem row_form {w : World} {base size n : Nat} {e : TypeId} {v : Value} {xs : List Value} (h : w.ownsRow base e size v n xs) (hn : 0 < n) : ∃ g cap, v = .slice (some ⟨g, 0, none⟩) n cap ∧ base ≤ g := by
 rcases h.2 with ⟨-, h0⟩ | ⟨g, cap, cur, rfl, hg, -⟩
 ·omega
 ·exact ⟨g, cap, rfl, hg⟩
theorem ints_lit (w : World) (z : Int) : Ints (w.alloc (.cells #[.int .i64 z] 3)) (.slice (some ⟨w.heap.size, 0, none⟩) 1 1) [z] := by
 refine ⟨_, 1, rfl, by simp, by decide, fun i x hx => ⟨_, rfl, ?_⟩⟩
 have h1 := (List.getElem?_eq_some_iff.1 hx).1
 obtain rfl : i = 0 := by simp at h1; omega
 simp at hx
 subst hx
 simp [Addr.add]
theorem four_stores {w2 : World} {base g cap n : Nat} {xs : List Value} (h : w2.ownsRow base 76 3 (.slice (some ⟨g, 0, none⟩) n cap) n xs) (i : Nat) (a b c d : Value) :
  ((((w2.setCell ⟨g, i, none⟩ a).setCell ⟨g, i + 1, none⟩ b).setCell ⟨g, i + 2, none⟩ c).setCell ⟨g, i + 2, none⟩ d).ownsRow base 76 3 (.slice (some ⟨g, 0, none⟩) n cap) n ((((xs.set i a).set (i + 1) b).set (i + 2) c).set (i + 2) d)
  ∧ w2.grownBy ((((w2.setCell ⟨g, i, none⟩ a).setCell ⟨g, i + 1, none⟩ b).setCell ⟨g, i + 2, none⟩ c).setCell ⟨g, i + 2, none⟩ d) (some g) := by
 obtain ⟨h1, g1⟩ := h.stored i a
 obtain ⟨h2, g2⟩ := h1.stored (i + 1) b
 obtain ⟨h3, g3⟩ := h2.stored (i + 2) c
 obtain ⟨h4, g4⟩ := h3.stored (i + 2) d
 exact ⟨h4, ((g1.trans g2).trans g3).trans g4⟩
theorem tok_set {w2 W : World} {base g cap n k : Nat} {us : List Tok} {t : Tok} (hn : n = us.length) (hk : k < n) (ht : TokAt w2 (fun _ => True) (.slice (some ⟨g, 0, none⟩) n cap) us) (h : w2.ownsRow base 76 3 (.slice (some ⟨g, 0, none⟩) n cap) n (row3 us)) (c : Value)
  (h' : W.ownsRow base 76 3 (.slice (some ⟨g, 0, none⟩) n cap) n (((((row3 us).set (k * 3) (.int .i64 t.kind)).set (k * 3 + 1) (.string ⟨t.text.toArray⟩)).set (k * 3 + 2) c).set (k * 3 + 2) (.int .i64 t.pos))) :
  TokAt W (fun _ => True) (.slice (some ⟨g, 0, none⟩) n cap) (us.set k t) := by
 subst hn
 have hl := h.1
 obtain ⟨a, c', e, hc, hj⟩ := ht
 cases e
 refine ⟨_, cap, by rw [List.length_set], by rw [List.length_set]; exact hc, fun j u hu => ⟨g, rfl, trivial, ?_⟩⟩
 have hjl : j < us.length := by have := (List.getElem?_eq_some_iff.1 hu).1; rwa [List.length_set] at this
 have A := fun i (hi : i < us.length * 3) => h'.cellAt i hi
 have B := fun i (hi : i < us.length * 3) => h.cellAt i hi
 rw [A (j * 3) (by omega), A (j * 3 + 1) (by omega), A (j * 3 + 2) (by omega)]
 by_cases hjk : j = k
 ·subst hjk
  rw [List.getElem?_set_self hjl] at hu
  obtain rfl := Option.some.inj hu
  refine ⟨?_, ?_, ?_⟩
  ·rw [List.getElem?_set_ne (by omega), List.getElem?_set_ne (by omega), List.getElem?_set_ne (by omega), List.getElem?_set_self (by omega)]
  ·rw [List.getElem?_set_ne (by omega), List.getElem?_set_ne (by omega), List.getElem?_set_self (by simp; omega)]
  ·rw [List.getElem?_set_self (by simp; omega)]
 ·rw [List.getElem?_set_ne (by omega)] at hu
  obtain ⟨g', e, -, h1, h2, h3⟩ := hj j u hu
  cases e
  rw [B _ (by omega)] at h1 h2 h3
  refine ⟨?_, ?_, ?_⟩
  ·rw [List.getElem?_set_ne (by omega), List.getElem?_set_ne (by omega), List.getElem?_set_ne (by omega), List.getElem?_set_ne (by omega)]; exact h1
  ·rw [List.getElem?_set_ne (by omega), List.getElem?_set_ne (by omega), List.getElem?_set_ne (by omega), List.getElem?_set_ne (by omega)]; exact h2
  ·rw [List.getElem?_set_ne (by omega), List.getElem?_set_ne (by omega), List.getElem?_set_ne (by omega), List.getElem?_set_ne (by omega)]; exact h3
theorem ok_set {us ws : List Tok} {w0 t0 : Tok} {k : Nat} (h1 : TkOk us) (h2 : TkOk ws) (hw : w0 ∈ ws) (ht : t0 ∈ us) : TkOk (us.set k ⟨w0.kind, w0.text, t0.pos⟩) := by
 refine ⟨by rw [List.length_set]; exact h1.1, fun t h => ?_⟩
 rcases List.mem_or_eq_of_mem_set h with h | rfl
 ·exact h1.2 t h
 ·exact ⟨(h2.2 w0 hw).1, (h1.2 t0 ht).2⟩
theorem val_set {us ws : List Tok} {w0 : Tok} {p k : Nat} (h1 : TkVal us) (h2 : TkVal ws) (hw : w0 ∈ ws) : TkVal (us.set k ⟨w0.kind, w0.text, p⟩) := by
 intro t h
 rcases List.mem_or_eq_of_mem_set h with h | rfl
 ·exact h1 t h
 ·exact h2 w0 hw
set_option maxRecDepth 100000 in
set_option maxHeartbeats 16000000 in
theorem mutated_any (us : List Tok) (lv : Value) (z piece : Int) (w : World) (hs : SrcTk w us lv) (hok : TkOk us) (hval : TkVal us) :
  Calls Tryz.prog 12 #[lv, .int .i64 z, .int .i64 piece] w fun e w' => ∃ ts v, e = .returned v ∧ TokAt w' (fun _ => True) v ts ∧ TkOk ts ∧ TkVal ts ∧ Below w.heap.size w w' := by
 have HS := Lib.hid hs
 have HOk := Lib.hid hok
 have HVal := Lib.hid hval
 have HWd : Hid (∀ V v, Ints V v [piece] → Calls Tryz.prog 29 #[v] V fun e w' => ∃ ts, ScanEnd V ts e w' ∧ TkOk ts ∧ TkVal ts) := fun V v h => words6_any v [piece] V h (by simp)
 have hlen := hok.1
 clear hs hok hval
 go_enter Tryz.func12, Tryz.ntmps12
 go_wp2_with (at_builtin; refine wpList_copyTk rfl _ _ rfl us rfl _ rfl HS.out (by omega) ?_; intro v1 w1 hrow1 hb1; have HRow1 := Lib.hid hrow1; have HB1 := Lib.hid hb1; clear hrow1 hb1)
 go_at_call 29
 refine (HWd.out _ _ (ints_lit w1 piece)).mono ?_
 rintro e w2 ⟨ws, ⟨wv, rfl, hrow2, hb2⟩, hwok, hwval⟩
 have hal : Below w1.heap.size w1 (w1.alloc (.cells #[.int .i64 piece] 3)) := (Below.refl _ w1).alloc (Nat.le_refl _) _
 have hb12 := hal.trans (hb2.mono hal.size)
 have HB2 := Lib.hid (keepCall HB1.out hb12)
 have hrow1 := ownsRow_below HRow1.out hb12
 have hwl := hwok.1
 have HWo := Lib.hid hwok
 have HWv := Lib.hid hwval
 have HTk : Hid (TokAt w2 (fun _ => True) v1 us) := (tokAt_of_row hrow1).kept (fun _ _ => trivial) fun _ _ _ => rfl
 have hge : w1.heap.size ≤ w2.heap.size := hb12.size
 have hlt := HRow1.out.lt
 have hb1s := HB1.out.size
 clear hwok hwval hal hb12 hb2 HWd HS HRow1 HB1
 by_cases h0 : us.length = 0
 ·obtain rfl : us = [] := List.eq_nil_of_length_eq_zero h0
  obtain ⟨a1, c1, rfl, -, -⟩ := HTk.out
  clear hrow1 hrow2
  go_wp2
  go_ret
  exact ⟨[], _, rfl, HTk.out, HOk.out, HVal.out, HB2.out⟩
 ·obtain ⟨g, cap, rfl, hg1⟩ := row_form hrow1 (by omega)
  have HRow1 := Lib.hid hrow1
  have HRow2 := Lib.hid hrow2
  clear hrow1
  by_cases hw0 : ws.length = 0
  ·obtain ⟨a2, c2, rfl, -, -⟩ := tokAt_of_row hrow2
   obtain rfl : ws = [] := List.eq_nil_of_length_eq_zero hw0
   clear hrow2 HRow2 HRow1 HWo HWv
   go_wp2
   all_goals first | (exfalso; omega) | (go_ret; exact ⟨us, _, rfl, HTk.out, HOk.out, HVal.out, HB2.out⟩)
  ·obtain ⟨g2, cap2, rfl, hg2⟩ := row_form hrow2 (by omega)
   have hgl := (hlt g rfl).2
   have hg2' : w1.heap.size + 1 ≤ g2 := by simpa using hg2
   have HTw := Lib.hid (tokAt_of_row hrow2)
   obtain ⟨w0, hw0'⟩ : ∃ t, ws[0]? = some t := ⟨ws[0]'(by omega), List.getElem?_eq_getElem (by omega)⟩
   have e1 := Int.emod_nonneg z (b := (us.length : Int)) (by omega)
   have e2 := Int.emod_lt_of_pos z (b := (us.length : Int)) (by omega)
   have HMd : Hid (∀ w, Calls Tryz.prog 16 #[.int .i64 z, .int .i64 (us.length : Int)] w fun e w' => e = .returned (.int .i64 (z % (us.length : Int))) ∧ w = w') := fun w => S3.mod_any z (us.length : Int) w (by omega) (by omega)
   obtain ⟨kn, hkn⟩ : ∃ kn : Nat, z % (us.length : Int) = kn := ⟨(z % (us.length : Int)).toNat, by omega⟩
   rw [hkn] at HMd e1 e2
   have hkl : kn < us.length := by omega
   have HMw := Lib.hid (List.mem_of_getElem? hw0')
   obtain ⟨t0, ht0⟩ : ∃ t, us[kn]? = some t := ⟨us[kn]'hkl, List.getElem?_eq_getElem hkl⟩
   have HC : Hid (w2.cell? ⟨g, kn * 3, none⟩ = some (.int .i64 t0.kind) ∧ w2.cell? ⟨g, kn * 3 + 1, none⟩ = some (.string ⟨t0.text.toArray⟩) ∧ w2.cell? ⟨g, kn * 3 + 2, none⟩ = some (.int .i64 t0.pos)) := by
    obtain ⟨a, c, e, -, hj⟩ := HTk.out
    cases e
    obtain ⟨g', e, -, h1, h2, h3⟩ := hj kn t0 ht0
    cases e
    exact ⟨h1, h2, h3⟩
   have HD : Hid (w2.cell? ⟨g2, 0, none⟩ = some (.int .i64 w0.kind) ∧ w2.cell? ⟨g2, 1, none⟩ = some (.string ⟨w0.text.toArray⟩) ∧ w2.cell? ⟨g2, 2, none⟩ = some (.int .i64 w0.pos)) := by
    obtain ⟨a, c, e, -, hj⟩ := HTw.out
    cases e
    obtain ⟨g', e, -, h1, h2, h3⟩ := hj 0 w0 hw0'
    cases e
    exact ⟨by simpa using h1, by simpa using h2, by simpa using h3⟩
   have HMt := Lib.hid (List.mem_of_getElem? ht0)
   have HF : Hid (∀ j, w2.frozen? ⟨g, j, none⟩ = false) := fun j => HRow1.out.frozenAt j
   obtain ⟨un, hun⟩ : ∃ n, n = us.length := ⟨_, rfl⟩
   obtain ⟨wn, hwn⟩ : ∃ n, n = ws.length := ⟨_, rfl⟩
   have HUn := Lib.hid hun
   rw [← hun] at h0 hlen hkl HMd HTk HRow1 ⊢
   rw [← hwn] at hw0 hwl ⊢
   obtain ⟨d0, d1, d2⟩ := HD.out
   obtain ⟨c0, c1, c2⟩ := HC.out
   have f0 := HF.out (kn * 3)
   have f1 := HF.out (kn * 3 + 1)
   have f2 := HF.out (kn * 3 + 2)
   have HG1 := Lib.hid hg1
   clear hrow2 e1 e2 hkn hun hwn hlt hg2 hg1 hb1s hge hw0' ht0
   go_wp2_with (go_at_call 16; refine (HMd.out _).mono ?_; rintro e w' ⟨rfl, rfl⟩)
   ·exfalso
    simp at *
    omega
   obtain ⟨hr4, hgr⟩ := four_stores HRow1.out (kn * 3) (.int .i64 w0.kind) (.string ⟨w0.text.toArray⟩) (.int .i64 w0.pos) (.int .i64 t0.pos)
   have hT := tok_set (t := ⟨w0.kind, w0.text, t0.pos⟩) HUn.out hkl HTk.out HRow1.out _ hr4
   go_ret
   exact ⟨_, _, rfl, hT, ok_set HOk.out HWo.out HMw.out HMt.out, val_set HVal.out HWv.out HMw.out, Below.grown HB2.out hgr HB2.out.size (fun k hk => by have := Option.some.inj hk; have := HG1.out; omega)⟩
end Go.Proofs.YtgcefodgjhlbeaaGreatDoor
