import Derived.Test.YtgcefodgjhlbeaaGreatDoorCM7
import Derived.Test.YtgcefodgjhlbeaaGreatDoorCS3
import Derived.Test.YtgcefodgjhlbeaaGreatDoorCE1
import Derived.Test.YtgcefodgjhlbeaaGreatDoorCC6
import Derived.Test.YtgcefodgjhlbeaaGreatDoorCQ5
import Derived.Test.YtgcefodgjhlbeaaGreatDoorCX7
import Derived.Test.YtgcefodgjhlbeaaGreatDoorCE2
import Derived.Test.YtgcefodgjhlbeaaGreatDoorCC4
import Derived.Test.YtgcefodgjhlbeaaGreatDoorCC1
import Derived.Deep.CutBlock
import Derived.Deep.LoopGhost
import Derived.Test.YtgcefodgjhlbeaaGreatDoorCA6
import Derived.Laws.AppendOwnNone
/- What the laws on texts of expressions share: a made expression in its variable, a reading's result in its two. -/
namespace Go.Proofs.YtgcefodgjhlbeaaGreatDoor
open Go.RowKit Go.Maps Mth

mutual
theorem strip_strip : ∀ T : Ex, strip (strip T) = strip T
  | .mk k _ n m t kids arms => by simp only [strip, stripL_strip kids, stripA_strip arms]
theorem stripL_strip : ∀ l : List Ex, stripL (stripL l) = stripL l
  | [] => rfl
  | e :: l => by simp only [stripL, strip_strip e, stripL_strip l]
theorem stripA_strip : ∀ l : List (AH × Ex), stripA (stripA l) = stripA l
  | [] => rfl
  | (h, e) :: l => by simp only [stripA, strip_strip e, stripA_strip l]
end
theorem stripL_len (l : List Ex) : (stripL l).length = l.length := by rw [stripL_map, List.length_map]
theorem stripA_len (l : List (AH × Ex)) : (stripA l).length = l.length := by rw [stripA_map, List.length_map]
mutual
theorem bnd_strip : ∀ T : Ex, bndE (strip T) = bndE T
  | .mk k _ n m t kids arms => by simp only [strip, bndE, stripL_len, stripA_len, bndK_strip kids, bndA_strip arms]
theorem bndK_strip : ∀ l : List Ex, bndK (stripL l) = bndK l
  | [] => rfl
  | e :: l => by simp only [stripL, bndK, bnd_strip e, bndK_strip l]
theorem bndA_strip : ∀ l : List (AH × Ex), bndA (stripA l) = bndA l
  | [] => rfl
  | (h, e) :: l => by simp only [stripA, bndA, bnd_strip e, bndA_strip l]
end
/-- The comparison of an expression with what its text reads as. -/
theorem same_strip {T T' : Ex} (h : strip T' = T) (hb : bndE T' = true) (c d : List Value) (S S' : Nat → Prop) (w : World) (h1 : RepE w S T c) (h2 : RepE w S' T' d) : Calls Tryz.prog 14 #[.agg c.toArray, .agg d.toArray] w fun e w' => e = .returned (.bool true) ∧ Below w.heap.size w w' := by
  subst h
  exact equal4_any (strip T') T' (strip_strip T') (by rw [bnd_strip]; exact hb) hb c d S S' w h1 h2
/-- A result of a reading in its two variables. -/
structure TwoE (n : Nat) (T : Ex) (c : List Value) (e p : Int) (V : World) : Prop where
  box : BoxC 34 V n c
  flt : BoxC 43 V (n + 1) [.int .i64 e, .int .i64 p]
  rep : RepE V (fun _ => True) T c
theorem TwoE.lift {n : Nat} {T : Ex} {c : List Value} {e p : Int} {V V' : World} (h : TwoE n T c e p V) (hb : Below V.heap.size V V') : TwoE n T c e p V' :=
  ⟨h.box.lift hb, h.flt.lift hb, h.rep.lift hb⟩
theorem twoE_made {w : World} {T : Ex} {c : List Value} (e p : Int) (hr : RepE w (fun _ => True) T c) : TwoE w.heap.size T c e p ((w.alloc (.cells c.toArray 34)).alloc (.cells #[.int .i64 e, .int .i64 p] 43)) := by
  refine ⟨?_, ?_, hr.lift (((Below.refl _ w).alloc (Nat.le_refl _) _).alloc (by simp) _)⟩
  · show (_ : Array _)[_]? = _
    rw [heap_at, if_neg (by simp), heap_at, if_pos rfl]
  · show (_ : Array _)[_]? = _
    rw [heap_at, if_pos (by simp)]
theorem twoE_below (w : World) (c : List Value) (e p : Int) : Below w.heap.size w ((w.alloc (.cells c.toArray 34)).alloc (.cells #[.int .i64 e, .int .i64 p] 43)) := ((Below.refl _ w).alloc (Nat.le_refl _) _).alloc (by simp) _
/-- A reading, from any world. -/
def RdCE (f : FuncId) (w : World) (v : Value) (k : Int) (r : ResE) : Prop := ∀ V, Below w.heap.size w V → Calls Tryz.prog f #[v, .int .i64 k] V fun e w' => ∃ ka kc aa ac tk tn ti th ta tl tc, e = .returned (.tuple #[.agg #[.int .i64 r.T.k, .int .i64 r.T.p, .string r.T.n, .int .i64 r.T.m, .slice ka r.T.kids.length kc, .slice aa r.T.arms.length ac, .int .i64 tk, .string tn, .int .i64 ti, .int .i64 th, .slice ta tl tc], .int .i64 r.n, .agg #[.int .i64 r.e, .int .i64 r.p]]) ∧ RepE w' (fun _ => True) r.T [.int .i64 r.T.k, .int .i64 r.T.p, .string r.T.n, .int .i64 r.T.m, .slice ka r.T.kids.length kc, .slice aa r.T.arms.length ac, .int .i64 tk, .string tn, .int .i64 ti, .int .i64 th, .slice ta tl tc] ∧ Below V.heap.size V w'
theorem rdCE_of {f : FuncId} {w : World} {v : Value} {k : Int} {r : ResE} (h : ∀ V, Below w.heap.size w V → Calls Tryz.prog f #[v, .int .i64 k] V fun e w' => ∃ x, e = .returned x ∧ ResEAt w' (fun c => V.heap.size ≤ c) r x ∧ Below V.heap.size V w') : RdCE f w v k r := fun V hb => by
  refine (h V hb).mono ?_
  rintro e w' ⟨x, rfl, ⟨c, rfl, hr⟩, hb'⟩
  obtain ⟨ka, kc, aa, ac, tk, tn, ti, th, ta, tl, tc, rfl⟩ := hr.form
  exact ⟨ka, kc, aa, ac, tk, tn, ti, th, ta, tl, tc, rfl, hr.imp fun _ _ => trivial, hb'⟩
/-- A new tape. -/
theorem tape_newE {w w1 : World} {zs : List Int} {a : Option Addr} {cap n : Nat} (hn : n = zs.length) (hz : zs.length ≤ 1000) (h : Ints w (.slice a n cap) zs) (hb : Below w.heap.size w w1) :
    S3.Tq (w1.alloc (.cells #[.slice a n cap, .int .i64 0] 27)) w1.heap.size := by
  subst hn
  obtain ⟨a', cap', e, -, -, hj⟩ := h
  cases e
  refine ⟨zs, a, cap, 0, ?_, Nat.zero_le _, hz, fun j x hx => ?_⟩
  · unfold S3.TapeAt; rw [heap_at, if_pos rfl]; rfl
  · obtain ⟨ad, rfl, hc⟩ := hj j x hx
    have hl := World.block_lt_of_cell? _ _ hc
    have hl1 := Nat.lt_of_lt_of_le hl hb.size
    refine ⟨ad, rfl, by rw [add_block] at hl1; exact hl1, ?_⟩
    rw [((Below.refl _ w1).alloc (Nat.le_refl _) _).cell hl1, hb.cell hl]
    exact hc
/-- A made expression in its variable. -/
structure Me (w : World) (B d : Nat) (T : Ex) (c : List Value) (V : World) : Prop where
  box : BoxC 34 V B c
  rep : RepE V (fun _ => True) T c
  ok : OkE d T
  low : Below w.heap.size w V
theorem Me.lift {w V V' : World} {B d : Nat} {T : Ex} {c : List Value} (h : Me w B d T c V) (hb : Below V.heap.size V V') : Me w B d T c V' :=
  ⟨h.box.lift hb, h.rep.lift hb, h.ok, h.low.trans (hb.mono h.low.size)⟩
theorem me_new {w w3 w4 : World} {base b d : Nat} {T : Ex} {c : List Value} (hl : Below w.heap.size w w3) (hb : w.heap.size ≤ b) (hr : RepE w4 (fun c => base ≤ c) T c) (ho : OkE d T) (hg : w3.grownBy w4 (some b)) :
    Me w w4.heap.size d T c (w4.alloc (.cells c.toArray 34)) := by
  have h1 : Below w.heap.size w w4 := Below.grown hl hg hl.size (fun k hk => by have := Option.some.inj hk; omega)
  have h2 : Below w4.heap.size w4 (w4.alloc (.cells c.toArray 34)) := (Below.refl _ w4).alloc (Nat.le_refl _) _
  exact ⟨BoxC.made _ _ _, (hr.imp fun _ _ => trivial).lift h2, ho, h1.trans (h2.mono h1.size)⟩
theorem capE_le {d : Nat} (hd : d ≤ 4) : capE d ≤ 2805 := by
  have : d = 0 ∨ d = 1 ∨ d = 2 ∨ d = 3 ∨ d = 4 := by omega
  rcases this with rfl | rfl | rfl | rfl | rfl <;> decide
theorem Me.len {w V : World} {B d : Nat} {T : Ex} {c : List Value} (h : Me w B d T c V) (hd : d ≤ 4) : (shE T).length ≤ 2805 := Nat.le_trans h.ok.2 (capE_le hd)
theorem Me.show {w V : World} {B d : Nat} {T : Ex} {c : List Value} (h : Me w B d T c V) (hd : d ≤ 4) : Calls Tryz.prog 10 #[.agg c.toArray] V fun e w' => ∃ s, e = .returned (.string s) ∧ bl s = shE T ∧ Below V.heap.size V w' := by
  refine (xs_any T h.ok.1 (Nat.le_trans (h.len hd) (by omega)) c _ V h.rep).mono ?_
  rintro e w' ⟨rfl, hb⟩
  exact ⟨_, rfl, by simp [bl], hb⟩
theorem parE_snoc (m : Nat) (l : List UInt8) (s : ByteArray) (h : bl s = parT m l) : bl (⟨#[40]⟩ ++ s ++ ⟨#[41]⟩) = parT (m + 1) l := par_bl s _ h
end Go.Proofs.YtgcefodgjhlbeaaGreatDoor

/- Lists of tokens appended to lists of tokens. -/
namespace Go.Proofs.YtgcefodgjhlbeaaGreatDoor
open Go.RowKit Go.Maps Mth

/-- A list of tokens that is read, nil or not. -/
def SrcTk (w : World) (us : List Tok) (x : Value) : Prop := (x = .slice none 0 0 ∧ us = []) ∨ ∃ ad c, x = .slice (some ad) us.length c ∧ ∀ (j : Nat) (u : Value), (row3 us)[j]? = some u → w.cell? (ad.add j) = some u
theorem SrcTk.lift {w w' : World} {us : List Tok} {x : Value} (h : SrcTk w us x) (hb : Below w.heap.size w w') : SrcTk w' us x := by
  rcases h with h | ⟨ad, c, e, hc⟩
  · exact .inl h
  · exact .inr ⟨ad, c, e, fun j u hu => by
      have := hc j u hu
      rw [hb.cell (World.block_lt_of_cell? _ _ this)]; exact this⟩
theorem SrcTk.one {w : World} {Z : TypeId} {n : Nat} (hn : n = w.heap.size) (k : Int) (x : List UInt8) (p : Nat) : SrcTk (w.alloc (.cells #[.int .i64 k, .string ⟨x.toArray⟩, .int .i64 p] Z)) [⟨k, x, p⟩] (.slice (some ⟨n, 0, none⟩) 1 1) := by
  subst hn
  refine .inr ⟨_, 1, rfl, fun j u hu => ?_⟩
  have hl := (List.getElem?_eq_some_iff.1 hu).1
  have hc : j = 0 ∨ j = 1 ∨ j = 2 := by simp [row3, cells3] at hl; omega
  rcases hc with rfl | rfl | rfl
  all_goals
    simp [row3, cells3] at hu
    subst hu
    simp [Addr.add]
end Go.Proofs.YtgcefodgjhlbeaaGreatDoor
