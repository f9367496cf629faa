import Derived.Test.YtfkbifbodpelmaaDoorVA1
import Derived.StillTailTactics
import Derived.Deep.CutBlock
import Derived.BigQuiet
import Derived.Deep.QuietTactic
import Derived.Deep.LoopGhost
import Derived.Deep.RegionLaw
import Derived.BigCall
import Derived.LaidEql
import Derived.Stop.Asserts
import Derived.RowKitTokens
import Derived.Lib.QuietBelow
import Derived.LoopTactic
import Derived.Handy
import Derived.Shelf.Abstract
/- The reference's reader, whatever its state: its memory. -/
namespace Go.Proofs.YtfkbifbodpelmaaDoor
open Go.RowKit Go.Maps Mth

theorem below_grown_some {w w' : World} (h : Below w.heap.size w w') (b : Nat) : w.grownBy w' (some b) := grown_of_below h _
theorem grown_fresh {a b c : World} {r row : Option Nat} (h : a.grownBy b r) (k : b.grownBy c row) (hr : ∀ i, row = some i → a.heap.size ≤ i) : a.grownBy c r :=
  ⟨k.os.trans h.os, k.tape.trans h.tape, k.output.trans h.output, Nat.le_trans h.size k.size, fun i hi hne => (k.block i (Nat.lt_of_lt_of_le hi h.size) (fun e => by have := hr i e.symm; omega)).trans (h.block i hi hne)⟩

/-- A state of the reader: its place, whether it has failed, and at which offset. -/
structure St where
  i : Nat
  bad : Bool
  p : Int
def txt (ts : List Tok) (i : Nat) : ByteArray := match ts[i]? with | some t => ⟨t.text.toArray⟩ | none => ⟨#[]⟩
/-- The offset of the token at an index, or of the end. -/
def posAt (ts : List Tok) (i : Nat) : Int := match ts[i]? with
  | some t => t.pos
  | none => match ts[ts.length - 1]? with
    | some t => (t.pos : Int) + t.text.length
    | none => 0
def xStep (s : St) : St := ⟨s.i + 1, s.bad, s.p⟩
def xFail (ts : List Tok) (s : St) : St := if s.bad then s else ⟨s.i, true, posAt ts s.i⟩
end Go.Proofs.YtfkbifbodpelmaaDoor

/- The reference's reader, whatever its state: what each small method does. -/
namespace Go.Proofs.YtfkbifbodpelmaaDoor
open Go.RowKit Go.Maps Mth

end Go.Proofs.YtfkbifbodpelmaaDoor

/- The contract of the reader's Atom in any state, out of the one of its Type. -/
namespace Go.Proofs.YtfkbifbodpelmaaDoor
open Go.RowKit Go.Maps Mth

theorem Box.grown {w w' : World} {B : Nat} {c0 c1 c2 c3 c4 : Value} {row : Option Nat} (h : Box w B c0 c1 c2 c3 c4) (hg : w.grownBy w' row) (hne : some B ≠ row) : Box w' B c0 c1 c2 c3 c4 := h.kept (hg.block _ h.lt hne)

end Go.Proofs.YtfkbifbodpelmaaDoor

/- The contract of the reader's Type. -/
namespace Go.Proofs.YtfkbifbodpelmaaDoor
open Go.RowKit Go.Maps Mth

/-- A call at a step of a region that draws its order: by its contract. -/
theorem step_call1 {P : Program} {ops : Array Oper} {a : Act} {w : World} {K : Act → World → Prop} {Q : Exit → Act → World → Prop} {E' : Prop} {dst : Option Tmp} {x : Operand} {T : Array TypeId} {ty : TypeId} {pos : String} {after : Array Edge}
    (n : FuncId) (hn : ∀ v w, (callFunc n #[v]).run P w = .ok (.enter n #[v]) w) (v : Value) (R : Value → World → Prop)
    (hx : a.eval x = v) (hC : Calls P n #[v] w fun e w' => ∃ u, e = .returned u ∧ R u w') (hK : ∀ u w', R u w' → K (a.put dst u) w') :
    if Region.wanted { dst, op := .call { callee := .value (.func n), args := #[x], argTypes := T }, type := ty, pos, after, guard := none } (yielded ops a.tmps) = true then Oper.wp P { dst, op := .call { callee := .value (.func n), args := #[x], argTypes := T }, type := ty, pos, after, guard := none } a w K Q else E' := by
  rw [if_pos (by simp [Region.wanted])]
  unfold Oper.wp
  rw [execOp_call_go]
  have e : (#[] ++ #[x].map a.eval ++ #[] : Array Value) = #[v] := by simp [hx]
  rw [e, hn, Oper.upon_enter]
  refine hC.mono ?_
  rintro e w' ⟨u, rfl, h⟩
  exact hK u w' h
theorem step_call2 {P : Program} {ops : Array Oper} {a : Act} {w : World} {K : Act → World → Prop} {Q : Exit → Act → World → Prop} {E' : Prop} {dst : Option Tmp} {x y : Operand} {T : Array TypeId} {ty : TypeId} {pos : String} {after : Array Edge}
    (n : FuncId) (hn : ∀ v u w, (callFunc n #[v, u]).run P w = .ok (.enter n #[v, u]) w) (v u : Value) (R : Value → World → Prop)
    (hx : a.eval x = v) (hy : a.eval y = u) (hC : Calls P n #[v, u] w fun e w' => ∃ u, e = .returned u ∧ R u w') (hK : ∀ u w', R u w' → K (a.put dst u) w') :
    if Region.wanted { dst, op := .call { callee := .value (.func n), args := #[x, y], argTypes := T }, type := ty, pos, after, guard := none } (yielded ops a.tmps) = true then Oper.wp P { dst, op := .call { callee := .value (.func n), args := #[x, y], argTypes := T }, type := ty, pos, after, guard := none } a w K Q else E' := by
  rw [if_pos (by simp [Region.wanted])]
  unfold Oper.wp
  rw [execOp_call_go]
  have e : (#[] ++ #[x, y].map a.eval ++ #[] : Array Value) = #[v, u] := by simp [hx, hy]
  rw [e, hn, Oper.upon_enter]
  refine hC.mono ?_
  rintro e w' ⟨u, rfl, h⟩
  exact hK u w' h
theorem Rep.form {w : World} {S : Nat → Prop} {T : Ty} {u : Value} (h : Rep w S T u) : ∃ k n i h a m c, u = .agg #[.int .i64 k, .string n, .int .i64 i, .int .i64 h, .slice a m c] := by
  obtain ⟨uk, un, ui, uh, us, -, rfl, -, hus⟩ := h.open
  obtain ⟨ua, uc, rfl, -⟩ := hus
  exact ⟨_, _, _, _, _, _, _, rfl⟩

end Go.Proofs.YtfkbifbodpelmaaDoor

/- The reference's Type and Atom, whole: by the fuel, from any index. -/
namespace Go.Proofs.YtfkbifbodpelmaaDoor
open Go.RowKit Go.Maps Mth

/-- The index from which a list is read. -/
def startAt (ts : List Tok) (k : Int) : Nat := if k < 0 ∨ (ts.length : Int) < k then ts.length else k.toNat
/-- The results of a reading: the type, the index behind it, the error and its offset. -/
structure Res where
  T : Ty
  n : Int
  e : Int
  p : Int
def zeroT : Ty := .mk 0 ⟨#[]⟩ 0 0 []
end Go.Proofs.YtfkbifbodpelmaaDoor

/- The reference's Type and Atom: what they return. -/
namespace Go.Proofs.YtfkbifbodpelmaaDoor
open Go.RowKit Go.Maps Mth

end Go.Proofs.YtfkbifbodpelmaaDoor

/- The package's reader: its memory, and what each small method does. -/
namespace Go.Proofs.YtfkbifbodpelmaaDoor
open Go.RowKit Go.Maps Mth

/-- The kind and the offset of the token at an index; zero at the end. -/
def tkK (ts : List Tok) (i : Nat) : Int := match ts[i]? with | some t => t.kind | none => 0
def tkP (ts : List Tok) (i : Nat) : Int := match ts[i]? with | some t => t.pos | none => 0
/-- Is the next token a mark with this text? -/
def rMark (ts : List Tok) (i : Nat) (s : ByteArray) : Bool := tkK ts i == 5 && (txt ts i).toList == s.toList
def rStart (ts : List Tok) (i : Nat) : Bool := tkK ts i == 1 || tkK ts i == 2 || rMark ts i ⟨#[40]⟩
end Go.Proofs.YtfkbifbodpelmaaDoor

/- The package's reader: the unexpected token; types.Con and types.Arrow. -/
namespace Go.Proofs.YtfkbifbodpelmaaDoor
open Go.RowKit Go.Maps Mth

end Go.Proofs.YtfkbifbodpelmaaDoor

/- types.Con and types.Arrow. -/
namespace Go.Proofs.YtfkbifbodpelmaaDoor
open Go.RowKit Go.Maps Mth

end Go.Proofs.YtfkbifbodpelmaaDoor

/- The package's reading of types: what it is to find, by the fuel; enclosed and atom. -/
namespace Go.Proofs.YtfkbifbodpelmaaDoor
open Go.RowKit Go.Maps Mth

/-- What a reading finds: a type and the index behind it, or the index of the unexpected token. -/
inductive PR where
  | ok (T : Ty) (j : Nat)
  | bad (p : Nat)
inductive PL where
  | ok (l : List Ty) (j : Nat)
  | bad (p : Nat)
def qEncl (ts : List Tok) : Option PR → Option PR
  | none => none
  | some (.bad p) => some (.bad p)
  | some (.ok T j) => if rMark ts j ⟨#[41]⟩ then some (.ok T (j + 1)) else some (.bad j)
mutual
def qAtom : Nat → List Tok → Nat → Option PR
  | 0, _, _ => none
  | f + 1, ts, i =>
    if tkK ts i == 1 then some (.ok (.mk 5 (txt ts i) 0 0 []) (i + 1))
    else if tkK ts i == 2 then some (.ok (.mk 4 (txt ts i) 0 0 []) (i + 1))
    else if rMark ts i ⟨#[40]⟩ then qEncl ts (qType f ts (i + 1))
    else some (.bad i)
def qType : Nat → List Tok → Nat → Option PR
  | 0, _, _ => none
  | f + 1, ts, i =>
    if tkK ts i == 2 then
      match qArgs f ts (i + 1) [] with
      | none => none
      | some (.bad p) => some (.bad p)
      | some (.ok l j) => qArrow f ts j (.mk 4 (txt ts i) 0 0 l)
    else
      match qAtom f ts i with
      | none => none
      | some (.bad p) => some (.bad p)
      | some (.ok T j) => qArrow f ts j T
def qArrow : Nat → List Tok → Nat → Ty → Option PR
  | 0, _, _, _ => none
  | f + 1, ts, i, a =>
    if rMark ts i ⟨#[45, 62]⟩ then
      match qType f ts (i + 1) with
      | none => none
      | some (.bad p) => some (.bad p)
      | some (.ok T j) => some (.ok (con arrN [a, T]) j)
    else some (.ok a i)
def qArgs : Nat → List Tok → Nat → List Ty → Option PL
  | 0, _, _, _ => none
  | f + 1, ts, i, acc =>
    if rStart ts i then
      match qAtom f ts i with
      | none => none
      | some (.bad p) => some (.bad p)
      | some (.ok T j) => qArgs f ts j (acc ++ [T])
    else some (.ok acc i)
end
end Go.Proofs.YtfkbifbodpelmaaDoor

/- The package's reading of types: atom. -/
namespace Go.Proofs.YtfkbifbodpelmaaDoor
open Go.RowKit Go.Maps Mth

end Go.Proofs.YtfkbifbodpelmaaDoor

/- The package's Type and Atom: what they return. -/
namespace Go.Proofs.YtfkbifbodpelmaaDoor
open Go.RowKit Go.Maps Go.Shelf Mth

def resQ (ts : List Tok) : PR → Res
  | .ok T j => ⟨T, j, 0, 0⟩
  | .bad p => ⟨zeroT, 0, 3, posAt ts p⟩
end Go.Proofs.YtfkbifbodpelmaaDoor

/- The package's and the reference's Type and Atom: what they return, by one function. -/
namespace Go.Proofs.YtfkbifbodpelmaaDoor
open Go.RowKit Go.Maps Mth

def rdOf (ts : List Tok) : Option PR → Res
  | some R => resQ ts R
  | none => ⟨zeroT, 0, 0, 0⟩
def rdT (ts : List Tok) (k : Int) : Res := rdOf ts (qType (3 * ts.length + 3) ts (startAt ts k))
end Go.Proofs.YtfkbifbodpelmaaDoor
