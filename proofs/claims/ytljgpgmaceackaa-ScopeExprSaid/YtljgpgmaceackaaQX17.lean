import Derived.Test.YtljgpgmaceackaaQX04
import Derived.Test.YtljgpgmaceackaaQX02
import Derived.ArgAppend
import Derived.Below
import Derived.Deep.DeepAppendRoom
import Derived.Maps.RangeWalk
import Derived.Maps.Range
import Derived.Deep.Onto
import Derived.Test.YtljgpgmaceackaaQX00
import Derived.Test.YtljgpgmaceackaaQX01
/- A list of names that calls hand on: clipped, or a row of their own whose spare room they may write to. -/
namespace Go.Proofs.Ytljgpgmaceackaa
open Go.RowKit Mth

/-- The names, and the block that may be written to behind them. -/
def NmO (w : World) (o : Option Nat) (v : Value) (l : List ByteArray) : Prop :=
  (o = none ∧ SlG StrE w (fun _ => True) l v ∧ ∃ a, v = .slice a l.length l.length) ∨
  ∃ g cap, o = some g ∧ v = .slice (some ⟨g, 0, none⟩) l.length cap ∧ w.ownsRow 0 9 1 v l.length (l.map Value.string)
theorem NmO.slG {w : World} {o : Option Nat} {v : Value} {l : List ByteArray} (h : NmO w o v l) : SlG StrE w (fun _ => True) l v := by
  rcases h with ⟨-, h, -⟩ | ⟨g, cap, -, rfl, h⟩
  · exact h
  · have hh := h
    rcases h.2 with ⟨e, h0⟩ | ⟨g', cap', cur, e, hb, hg, hn, hm, -⟩
    · cases e
    · simp only [Value.slice.injEq, Option.some.injEq, Addr.mk.injEq, and_true, true_and] at e
      obtain ⟨rfl, rfl⟩ := e
      refine ⟨some ⟨g, 0, none⟩, cap, rfl, ⟨hn, hm⟩, fun j x hx => ⟨_, [.string x], rfl, trivial, fun m u hu => ?_, rfl⟩⟩
      match m, hu with
      | 0, hu =>
        simp at hu; subst hu
        have := hh.cells (g := g) rfl j (.string x) (by rw [List.getElem?_map, hx]; rfl)
        rw [show j * StrE.k + 0 = j from by show j * 1 + 0 = j; omega]
        exact this
      | m + 1, hu => simp at hu
theorem NmO.form {w : World} {o : Option Nat} {v : Value} {l : List ByteArray} (h : NmO w o v l) : ∃ a c, v = .slice a l.length c := by
  rcases h with ⟨-, -, a, h⟩ | ⟨g, cap, -, h, -⟩
  · exact ⟨a, _, h⟩
  · exact ⟨_, _, h⟩
theorem NmO.lt {w : World} {o : Option Nat} {v : Value} {l : List ByteArray} (h : NmO w o v l) : ∀ g, o = some g → g < w.heap.size := by
  rintro g rfl
  rcases h with ⟨e, -⟩ | ⟨g', cap, e, rfl, h⟩
  · cases e
  · cases e
    exact (h.lt g rfl).2
/-- Where what changes lies beyond the names' block. -/
theorem NmO.kept {w w' : World} {o row : Option Nat} {v : Value} {l : List ByteArray} (h : NmO w o v l) (hg : w.grownBy w' row) (hr : ∀ k, row = some k → w.heap.size ≤ k) : NmO w' o v l := by
  rcases h with ⟨rfl, h, hv⟩ | ⟨g, cap, rfl, rfl, h⟩
  · exact .inl ⟨rfl, h.kept (fun _ h => h) (fun b _ hl => hg.block b hl (fun e => by have := hr b e.symm; omega)), hv⟩
  · exact .inr ⟨g, cap, rfl, rfl, h.kept hg (.inr fun e => by have h1 := hr g e.symm; have h2 := (h.lt g rfl).2; omega)⟩
theorem NmO.lift {w w' : World} {o : Option Nat} {v : Value} {l : List ByteArray} (h : NmO w o v l) (hb : Below w.heap.size w w') : NmO w' o v l := h.kept (grown_of_below hb none) (fun k e => by cases e)
theorem NmO.nil (w : World) : NmO w none (.slice none 0 0) [] := .inl ⟨rfl, slG_nil _ _ _, none, rfl⟩
theorem map_cells {w : World} {S : Nat → Prop} {l : List ByteArray} {ad : Addr} {n c : Nat} (h : SlG StrE w S l (.slice (some ad) n c)) : ∀ j u, (l.map Value.string)[j]? = some u → w.cell? (ad.add j) = some u := by
  intro j u hu
  rw [List.getElem?_map] at hu
  cases hx : l[j]? with
  | none => rw [hx] at hu; cases hu
  | some x =>
    rw [hx] at hu
    cases hu
    obtain ⟨ad', e, hc⟩ := str_at h j x hx
    cases e
    exact hc
/-- What a call that appends hands on: the longer list, and how the given one comes back. -/
structure Pushed (w w' : World) (o o' : Option Nat) (v v' : Value) (l m : List ByteArray) : Prop where
  now : NmO w' o' v' m
  low : w.grownBy w' o
  new : ∀ g, o' = some g → o = some g ∨ w.heap.size ≤ g
  back : ∀ w'', NmO w'' o' v' m → w'.grownBy w'' o' → NmO w'' o v l
theorem Pushed.on {w w' : World} {o o' : Option Nat} {v v' : Value} {l m : List ByteArray} (h : Pushed w w' o o' v v' l m) {w'' : World} (hg : w'.grownBy w'' o') : w.grownBy w'' o :=
  h.low.andThen hg fun j e => (h.new j e).symm
theorem Pushed.lift {w w' w2 : World} {o o' : Option Nat} {v v' : Value} {l m : List ByteArray} (h : Pushed w w' o o' v v' l m) (hb : Below w'.heap.size w' w2) : Pushed w w2 o o' v v' l m :=
  ⟨h.now.lift hb, h.on (grown_of_below hb _), h.new, fun w'' h1 h2 => h.back w'' h1 ((grown_of_below hb _).trans h2)⟩
/-- The names come through what is written beyond them. -/
theorem NmO.on {W V V' : World} {o : Option Nat} {v : Value} {l : List ByteArray} {k : Nat} (h : NmO W o v l) (hn : NmO V o v l) (hW : W.grownBy V o) (hg : V.grownBy V' (some k)) (hk : W.heap.size ≤ k) : NmO V' o v l := by
  cases o with
  | none => exact h.kept (row := none) (hW.andThen hg fun j e => by have := Option.some.inj e; exact .inl (by omega)) (fun k e => by cases e)
  | some g =>
    have hlt := h.lt g rfl
    rcases hn with ⟨e, -⟩ | ⟨g', cap, e, rfl, hown⟩
    · cases e
    · cases e
      exact .inr ⟨g, cap, rfl, rfl, hown.kept hg (.inr fun e => by have e2 : g = k := Option.some.inj e; omega)⟩
theorem wpList_pushO {w : World} {ops : Array Oper} {rest : List Oper} {op : Oper} {a : Act} {Q : Exit → Act → World → Prop} (hgd : op.guard = none) (s x : Operand)
    (ho : op.op = .call { callee := .builtin .append, args := #[s, x], argTypes := #[25, 25] })
    (o : Option Nat) (v : Value) (l : List ByteArray) (hs : a.eval s = v) (hrow : NmO w o v l) (lv : Value) (hx : a.eval x = lv) (news : List ByteArray) (S' : Nat → Prop) (hl : SlG StrE w S' news lv)
    (hb : l.length + news.length ≤ 1000000)
    (hK : ∀ (o' : Option Nat) (a' : Option Addr) (c' : Nat) (w' : World), Pushed w w' o o' v (.slice a' (l ++ news).length c') l (l ++ news) → wpList Try.prog ops Q rest (a.put op.dst (.slice a' (l ++ news).length c')) w') :
    wpList Try.prog ops Q (op :: rest) a w := by
  obtain ⟨i, z, hi, hz, hk, hby, hzs⟩ := StrE.info
  by_cases hn : news = []
  · subst hn
    obtain ⟨a', c', rfl⟩ := hrow.form
    have hle : l.length ≤ c' := by
      obtain ⟨a2, c2, e, ⟨h1, -⟩, -⟩ := hrow.slG
      simp only [Value.slice.injEq] at e
      obtain ⟨-, -, rfl⟩ := e
      exact h1
    obtain ⟨la, lc, rfl, -, -⟩ := hl
    have hsrc : Src Try.prog i.size 25 (.slice la 0 lc) 0 [] w := by
      cases la with
      | none => exact Src.ofNil w Try.underlying25 lc
      | some ad => exact Src.ofSlice w Try.underlying25 ad 0 lc [] (by simp) (fun j u hu => by simp at hu) (fun u hu => by cases hu)
    have hrun := run_append_nothing (P := Try.prog) w 25 25 op.type StrE.e i Try.underlying25 hi a' l.length c' hle (.slice la 0 lc) hsrc
    refine wpList_plain hgd fun K hK' => ?_
    unfold Oper.wp
    simp [execOp, ho, resolve, invoke, builtin, hs, hx, hrun, Result.andThen]
    have := hK o a' c' w ⟨by simpa using hrow, World.grownBy.refl _ _, fun g e => .inl e, fun w'' h _ => by simpa using h⟩
    rw [List.append_nil] at this
    exact hK' _ _ this
  · obtain ⟨la, lc, rfl, hlc, hj⟩ := hl
    have hl : SlG StrE w S' news (.slice la news.length lc) := ⟨la, lc, rfl, hlc, hj⟩
    obtain ⟨ad, rfl⟩ : ∃ ad, la = some ad := by
      cases news with
      | nil => exact absurd rfl hn
      | cons y m => obtain ⟨ad, c, e, -⟩ := hj 0 y rfl; exact ⟨ad, e⟩
    have hnc := map_cells hl
    have hpos : 0 < news.length := List.length_pos_iff.2 hn
    have h1c : ∀ u ∈ news.map Value.string, u.oneCell' = true := by
      intro u hu
      obtain ⟨x, -, rfl⟩ := List.mem_map.1 hu
      rfl
    have hsz1 : i.size = 1 := hk
    have hbyt : (l.length + news.length) * i.bytes ≤ 140737488355328 := by
      have := Nat.mul_le_mul hb (show i.bytes ≤ 1000 by rw [hby]; exact StrE.hby)
      omega
    -- the row grows elsewhere
    have hgrow : ∀ (ao : Option Addr) (cap : Nat), v = .slice ao l.length cap → (ao = none → l.length = 0 ∧ cap = 0) → (∀ b, ao = some b → ∀ j u, (l.map Value.string)[j]? = some u → w.cell? (b.add j) = some u) → cap < l.length + news.length →
        (∀ (g : Nat) (w' : World), w.grownBy w' none → w.heap.size ≤ g → ∀ w'', w'.grownBy w'' (some g) → NmO w'' o v l) → wpList Try.prog ops Q (op :: rest) a w := by
      intro ao cap hv hnone holds hfull hback
      refine wpList_append_grows w hgd s x 25 ho StrE.e i z 1 i.bytes Try.underlying25 hi hz hsz1 rfl hzs (by decide) ao l.length cap (l.map Value.string) (by rw [hs, hv]) hnone (by simp) holds ad news.length lc (news.map Value.string) hx (by simp) hnc h1c hfull (by unfold maxLen; omega) hbyt fun v' w' hown hg => ?_
      obtain ⟨g, cap', rfl, hbg, -⟩ := hown.form (by omega)
      have hlen : (l ++ news).length = l.length + news.length := List.length_append
      rw [← hlen] at hown ⊢
      refine hK (some g) _ _ w' ⟨.inr ⟨g, cap', rfl, rfl, ?_⟩, hg.but _, fun g' e => by cases e; exact .inr hbg, fun w'' _ hg' => hback g w' hg hbg w'' hg'⟩
      rw [List.map_append]
      exact hown.mono (Nat.zero_le _)
    rcases hrow with ⟨rfl, hsl, ao, hv⟩ | ⟨g, cap, rfl, hv, hown⟩
    · subst hv
      refine hgrow ao l.length rfl (fun e => ?_) (fun b e => ?_) (by omega) (fun g w' hg hbg w'' hg' => ?_)
      · subst e
        have : l = [] := by
          cases l with
          | nil => rfl
          | cons y m => obtain ⟨_, _, _, _, hjj⟩ := hsl; obtain ⟨ad', c, e, -⟩ := hjj 0 y rfl; simp_all
        subst this
        exact ⟨rfl, rfl⟩
      · subst e
        exact map_cells hsl
      · refine .inl ⟨rfl, hsl.kept (fun _ h => h) (fun b _ hl => ?_), ao, rfl⟩
        exact (hg'.block b (Nat.lt_of_lt_of_le hl hg.size) (fun e => by have := Option.some.inj e; omega)).trans (hg.block b hl (by simp))
    · subst hv
      by_cases hroom : l.length + news.length ≤ cap
      · refine wpList_append_own_spare w hgd s x 25 ho 0 StrE.e i 1 Try.underlying25 hi hsz1 g l.length cap (l.map Value.string) hs hown ad news.length lc (news.map Value.string) hx (by simp) hnc h1c hroom fun w' hown' hg => ?_
        have hlen : (l ++ news).length = l.length + news.length := List.length_append
        rw [← hlen] at hown' ⊢
        refine hK (some g) _ _ w' ⟨.inr ⟨g, cap, rfl, rfl, by rw [List.map_append]; exact hown'⟩, hg, fun g' e => .inl e, fun w'' h _ => ?_⟩
        rcases h with ⟨e, -⟩ | ⟨g', cap', e, e', h⟩
        · cases e
        · cases e
          refine .inr ⟨g, cap, rfl, rfl, ?_⟩
          rcases h.2 with ⟨e, -⟩ | ⟨g3, cap3, cur, e, hb3, hc3, hn3, hm3, hs3, ht3⟩
          · cases e
          · simp only [Value.slice.injEq, Option.some.injEq, Addr.mk.injEq, and_true, true_and] at e
            obtain ⟨rfl, rfl⟩ := e
            refine ⟨by simp, .inr ⟨g, cap, cur, rfl, Nat.zero_le _, hc3, by omega, hm3, hs3, ?_⟩⟩
            have : cur.toList.take (l.length * 1) = (cur.toList.take ((l ++ news).length * 1)).take (l.length * 1) := by
              rw [List.take_take, Nat.min_eq_left (by rw [hlen]; omega)]
            rw [this, ht3, List.map_append, List.take_left' (by simp)]
      · refine hgrow (some ⟨g, 0, none⟩) cap rfl (fun e => by cases e) (fun b e => ?_) (by omega) (fun g' w' hg hbg w'' hg' => ?_)
        · cases e
          exact hown.cells (g := g) rfl
        · have hlt := (hown.lt g rfl).2
          exact .inr ⟨g, cap, rfl, rfl, (hown.kept hg (.inr (by simp [Value.ownBlock]))).kept hg' (.inr fun e => by have e2 : g = g' := Option.some.inj e; omega)⟩
end Go.Proofs.Ytljgpgmaceackaa

/- A law on a list of operations as a step of a region that draws its order. -/
namespace Go.Proofs.Ytljgpgmaceackaa
open Go.RowKit Mth

/-- Any law of a list with one operation is a law of a step. -/
theorem step_of_list {P : Program} {ops : Array Oper} {o : Oper} {a : Act} {w : World} {K : Act → World → Prop} {Q : Exit → Act → World → Prop} {E' : Prop} (hgd : o.guard = none)
    (h : ∀ Q' : Exit → Act → World → Prop, (∀ a w, K a w → Q' .normal a w) → wpList P #[] Q' [o] a w) :
    if Region.wanted o (yielded ops a.tmps) = true then Oper.wp P o a w K Q else E' := by
  rw [if_pos (by simp [Region.wanted, hgd])]
  have hh := h (fun e a w => match e with | .normal => K a w | _ => False) (fun _ _ h => h)
  unfold wpList at hh
  rw [if_pos (by simp [Region.wanted, hgd])] at hh
  rcases hh with hh | ⟨_, _, _, hf⟩
  · unfold Oper.wp at *
    generalize (execOp a.eval o).run P w = r at *
    cases r with
    | ok n w' =>
      cases n <;> simp only [Oper.upon] at hh ⊢ <;>
        first
          | exact hh
          | exact Calls.mono hh (fun e w'' he => by
              cases e
              · exact he
              · exact he.elim
              · obtain ⟨_, _, hf⟩ := he; exact hf.elim)
          | exact Rows.mono hh (fun _ _ he => he)
    | halt x w' => cases x <;> simp only [Oper.upon] at hh ⊢ <;> first | exact hh.elim | exact hh
  · exact hf.elim
theorem step_pushStr {w : World} {ops : Array Oper} {o : Oper} {a : Act} {K : Act → World → Prop} {Q : Exit → Act → World → Prop} {E' : Prop} (hgd : o.guard = none) (s x : Operand)
    (ho : o.op = .call { callee := .builtin .append, args := #[s, x], argTypes := #[25, 25] })
    (base : Nat) (v : Value) (xs : List ByteArray) (hs : a.eval s = v) (hrow : RowG StrE w base (fun _ => False) v xs) (lv : Value) (hx : a.eval x = lv) (news : List ByteArray) (S' : Nat → Prop) (hl : SlG StrE w S' news lv)
    (hb : xs.length + news.length ≤ 1000000) (hbase : base ≤ w.heap.size)
    (hK : ∀ (a' : Option Addr) (n' c' : Nat) (w' : World), n' = (xs ++ news).length → RowG StrE w' base (fun _ => False) (.slice a' n' c') (xs ++ news) → w.grownBy w' v.ownBlock → K (a.put o.dst (.slice a' n' c')) w') :
    if Region.wanted o (yielded ops a.tmps) = true then Oper.wp Try.prog o a w K Q else E' :=
  step_of_list hgd fun _ hQ => wpList_pushStr hgd s x ho base v xs hs hrow lv hx news S' hl hb hbase fun a' n' c' w' h1 h2 h3 => hQ _ _ (hK a' n' c' w' h1 h2 h3)
end Go.Proofs.Ytljgpgmaceackaa

/- Plain facts: the canonical text of a written type, its tokens, its length. -/
namespace Go.Proofs.Ytljgpgmaceackaa
open Go.RowKit Go.Maps Mth

theorem tyInd {p : Ty → Prop} (h : ∀ T, (∀ U ∈ T.ts, p U) → p T) : ∀ T, p T := by
  have : ∀ (m : Nat) (T : Ty), nodes T ≤ m → p T := by
    intro m
    induction m with
    | zero => intro T h; have := nodes_pos T; omega
    | succ m ih =>
      intro T hm
      refine h T fun U hU => ih U ?_
      have := nodesL_mem hU
      cases T
      simp only [nodes, Ty.ts] at *
      omega
  exact fun T => this _ T (Nat.le_refl _)
def isArr (T : Ty) : Bool := T.k == 4 && T.n.toList == [45, 62]
def conArgs (T : Ty) : Bool := T.k == 4 && T.ts.length != 0
/-! A type that can be written: names and constructors alone. -/
mutual
def src : Ty → Bool
  | .mk k n i h ts => i == 0 && h == 0 && (if k == 5 then isLo (bl n) && ts.length == 0 else k == 4 && (if n.toList == [45, 62] then ts.length == 2 else isUp (bl n))) && srcL ts
def srcL : List Ty → Bool
  | [] => true
  | t :: l => src t && srcL l
end
theorem srcL_mem : ∀ {l : List Ty}, srcL l = true → ∀ {T : Ty}, T ∈ l → src T = true := by
  intro l
  induction l with
  | nil => intro _ T h; simp at h
  | cons t l ih =>
    intro h T hT
    simp only [srcL, Bool.and_eq_true] at h
    rcases List.mem_cons.1 hT with rfl | hT
    · exact h.1
    · exact ih h.2 hT
def brk (q : Bool) (l : List UInt8) : List UInt8 := if q then 40 :: (l ++ [41]) else l
/-! The canonical text. -/
mutual
def shT : Ty → List UInt8
  | .mk k n _ _ ts => if k == 5 then bl n else if n.toList == [45, 62] then shH ts else bl n ++ shA ts
def shH : List Ty → List UInt8
  | [] => []
  | t :: l => brk (isArr t) (shT t) ++ shB l
def shB : List Ty → List UInt8
  | [] => []
  | t :: l => 32 :: ([45, 62] ++ 32 :: (shT t ++ shB l))
def shA : List Ty → List UInt8
  | [] => []
  | t :: l => 32 :: (brk (conArgs t) (shT t) ++ shA l)
end
/-! Its tokens. -/
theorem brk_len (q : Bool) (l : List UInt8) : (brk q l).length ≤ l.length + 2 := by
  cases q <;> simp [brk]
end Go.Proofs.Ytljgpgmaceackaa

/- An append that leaves the row that it is given as it was: its elements stay where they are. -/
namespace Go.Proofs.Ytljgpgmaceackaa
open Go.RowKit Mth

theorem run_append_kept {P : Program} (w : World) (base : Nat) (t ty e : TypeId) (i : TypeInfo) (z : Value) (size bytes : Nat) (ht : P.underlying t = some (.slice e)) (hi : P.info? e = some i) (hz : i.zero = some z)
    (hsize : i.size = size) (hby : i.bytes = bytes) (hzs : z.cells.size = size) (hsz : 0 < size) (v : Value) (n : Nat) (xs : List Value) (hown : w.ownsRow base e size v n xs)
    (a : Addr) (m c : Nat) (news : List Value) (hl : news.length = m * size) (hnews : ∀ j u, news[j]? = some u → w.cell? (a.add j) = some u) (h1 : ∀ u ∈ news, u.oneCell' = true)
    (h63 : n + m ≤ maxLen) (hbytes : (n + m) * bytes ≤ 140737488355328) (hbase : base ≤ w.heap.size) :
    ∃ v' w', (Builtin.append_ #[t, t] ty #[v, .slice (some a) m c]).run P w = .ok v' w' ∧ w'.ownsRow base e size v' (n + m) (xs ++ news) ∧ w.grownBy w' v.ownBlock ∧
      (v'.ownBlock = v.ownBlock ∨ v'.ownBlock = some w.heap.size) ∧ w'.ownsRow base e size v n xs := by
  obtain ⟨v', w', hr, h2, h3, -, h5⟩ := run_append_own_at (P := P) w base t ty e i z size bytes ht hi hz hsize hby hzs hsz v n xs hown a m c news hl hnews h1 h63 hbytes hbase
  refine ⟨v', w', hr, h2, h3, h5, hown.1, ?_⟩
  subst hsize
  rcases hown.2 with ⟨rfl, rfl⟩ | ⟨g, cap, cur, rfl, hbg, hg, hnc, hcm, hcs, htake⟩
  · exact .inl ⟨rfl, rfl⟩
  · right
    have hgl : g < w.heap.size := (Array.getElem?_eq_some_iff.1 hg).1
    by_cases hroom : n + m ≤ cap
    · have hfit : n * i.size + news.length ≤ cur.size := by rw [hl, hcs, ← Nat.add_mul]; exact Nat.mul_le_mul_right _ hroom
      have hr2 := run_append_room (P := P) (ty := ty) w t e i ht hi g n cap cur hg a m c news hl hnews h1 hroom hfit
      rw [hr] at hr2
      cases hr2
      rcases h2.2 with ⟨e1, -⟩ | ⟨g', cap', cur', e1, k1, k2, k3, k4, k5, k6⟩
      · cases e1
      · cases e1
        refine ⟨g, cap, cur', rfl, hbg, k2, hnc, hcm, k5, ?_⟩
        have := congrArg (List.take (n * i.size)) k6
        rw [List.take_take, Nat.min_eq_left (Nat.mul_le_mul_right _ (by omega)), List.take_left' hown.1] at this
        exact this
    · have holds : ∀ j u, xs[j]? = some u → w.cell? ((⟨g, 0, none⟩ : Addr).add j) = some u := hown.cells (g := g) rfl
      have hr2 := run_append_grow (P := P) (ty := ty) w t e i z ht hi hz ⟨g, 0, none⟩ n cap xs hown.1 holds a m c news hl hnews (by omega) (by simp only [maxLen] at h63; omega) (growslice_fits (by omega) (by rw [hby]; exact hbytes))
      rw [hr] at hr2
      cases hr2
      exact ⟨g, cap, cur, rfl, hbg, (heap_alloc_old w.drew _ hgl).trans hg, hnc, hcm, hcs, htake⟩
/-- wpList_pushS, which says besides that the old row stands. -/
theorem wpList_pushK {α : Type} {w : World} {ops : Array Oper} {rest : List Oper} {o : Oper} {a : Act} {Q : Exit → Act → World → Prop} (E : El α) (hgd : o.guard = none) (s x : Operand)
    (ho : o.op = .call { callee := .builtin .append, args := #[s, x], argTypes := #[E.t, E.t] })
    (base : Nat) (S : Nat → Prop) (v : Value) (xs : List α) (hs : a.eval s = v) (hrow : RowG E w base S v xs) (lv : Value) (hx : a.eval x = lv) (news : List α) (hne : 0 < news.length) (S' : Nat → Prop) (hl : SlG E w S' news lv) (hS : ∀ y c, E.rep w S' y c → E.rep w (fun b => S b ∧ some b ≠ v.ownBlock) y c)
    (hb : xs.length + news.length ≤ 1000000) (hbase : base ≤ w.heap.size)
    (hK : ∀ (a' : Option Addr) (n' c' : Nat) (w' : World), n' = (xs ++ news).length → RowG E w' base S (.slice a' n' c') (xs ++ news) → w.grownBy w' v.ownBlock → RowG E w' base S v xs → wpList Try.prog ops Q rest (a.put o.dst (.slice a' n' c')) w') :
    wpList Try.prog ops Q (o :: rest) a w := by
  obtain ⟨la, lc, rfl, hc, hj⟩ := hl
  cases la with
  | none =>
    cases news with
    | nil => cases hne
    | cons y l => obtain ⟨ad, c, e, -⟩ := hj 0 y rfl; cases e
  | some ad =>
    obtain ⟨i, z, hi, hz, hk, hby, hzs⟩ := E.info
    obtain ⟨L, hown, hl, hr⟩ := hrow
    obtain ⟨M, hml, hmr, hmc⟩ := cells_ofG (w := w) (S := fun b => S b ∧ some b ≠ v.ownBlock) (xs := news) E (ad := ad) (fun j y hy => by
      obtain ⟨ad', c, e, -, h3, h4⟩ := hj j y hy
      cases e
      exact ⟨c, h3, hS y c h4⟩)
    have hMk := rowG_len hml hmr
    have hE := E.hby
    refine wpList_plain hgd fun K hK2 => ?_
    obtain ⟨v', w', hrun, h2, h3, h4, h5⟩ := run_append_kept (P := Try.prog) w base E.t o.type E.e i z E.k E.by_ E.und hi hz hk hby hzs E.hk v xs.length L.flatten hown ad news.length lc M.flatten (by rw [flat_len E.k M fun c h => (hMk c h).1, hml]) hmc (by
      intro u hu
      obtain ⟨c', hc', hu'⟩ := List.mem_flatten.1 hu
      exact (hMk c' hc').2 u hu') (by unfold maxLen; omega) (by
      have := Nat.mul_le_mul (show xs.length + news.length ≤ 1000000 by omega) hE
      omega) hbase
    have hrow' : RowG E w' base S v' (xs ++ news) := push_afterM hl hml hr hmr h2 h3 h4
    have hold : RowG E w' base S v xs := ⟨L, h5, hl, fun j T hT => by
      obtain ⟨c, hc, hrep⟩ := hr j T hT
      exact ⟨c, hc, E.kept (fun b hb => hb) (fun b hb hlt => h3.block b hlt hb.2) hrep⟩⟩
    obtain ⟨a', c', rfl, _⟩ := hrow'.slice
    unfold Oper.wp execOp
    simp only [ho, resolve, invoke, builtin, Sem.run_bind, Sem.run_pure, Result.andThen_ok, List.map_toArray, List.map_cons, List.map_nil, hs, hx, hrun]
    exact hK2 _ _ (hK a' _ c' w' rfl hrow' h3 hold)
/-- A law of a list is a law of a step that is guarded and wanted. -/
theorem step_of_listG {P : Program} {ops : Array Oper} {o : Oper} {a : Act} {w : World} {K : Act → World → Prop} {Q : Exit → Act → World → Prop} {E' : Prop} (hw : Region.wanted o (yielded ops a.tmps) = true)
    (h : ∀ Q' : Exit → Act → World → Prop, (∀ a w, K a w → Q' .normal a w) → wpList P #[] Q' [{ o with guard := none }] a w) :
    if Region.wanted o (yielded ops a.tmps) = true then Oper.wp P o a w K Q else E' := by
  rw [if_pos hw]
  have h1 := step_of_list (P := P) (ops := #[]) (o := { o with guard := none }) (a := a) (w := w) (K := K) (Q := Q) (E' := True) rfl h
  rw [if_pos (by simp [Region.wanted])] at h1
  exact h1
/-- .. as a step of a region that draws, for strings. -/
theorem step_pushK {w : World} {ops : Array Oper} {o : Oper} {a : Act} {K : Act → World → Prop} {Q : Exit → Act → World → Prop} {E' : Prop} (hgd : Region.wanted o (yielded ops a.tmps) = true) (s x : Operand)
    (ho : o.op = .call { callee := .builtin .append, args := #[s, x], argTypes := #[25, 25] })
    (base : Nat) (v : Value) (xs : List ByteArray) (hs : a.eval s = v) (hrow : RowG StrE w base (fun _ => False) v xs) (lv : Value) (hx : a.eval x = lv) (news : List ByteArray) (hne : 0 < news.length) (S' : Nat → Prop) (hl : SlG StrE w S' news lv)
    (hb : xs.length + news.length ≤ 1000000) (hbase : base ≤ w.heap.size)
    (hK : ∀ (a' : Option Addr) (n' c' : Nat) (w' : World), n' = (xs ++ news).length → RowG StrE w' base (fun _ => False) (.slice a' n' c') (xs ++ news) → w.grownBy w' v.ownBlock → RowG StrE w' base (fun _ => False) v xs → K (a.put o.dst (.slice a' n' c')) w') :
    if Region.wanted o (yielded ops a.tmps) = true then Oper.wp Try.prog o a w K Q else E' := by
  refine step_of_listG hgd fun Q' hQ => ?_
  exact wpList_pushK StrE rfl s x ho base (fun _ => False) v xs hs hrow lv hx news hne S' hl (fun y c h => h) hb hbase fun a' n' c' w' h1 h2 h3 h4 => hQ _ _ (hK a' n' c' w' h1 h2 h3 h4)
end Go.Proofs.Ytljgpgmaceackaa
