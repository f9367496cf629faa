import Derived.Test.YtafpngmfhajedaaQB
import Derived.Test.YtafpngmfhajedaaQC
import Derived.Deep.RegionHeld3
import Derived.StillTailTactics
/- The names of a type: the package's Names and the reference's. -/
namespace Go.Proofs.Ytafpngmfhajedaa
open Go.RowKit Go.Sort Go.Shelf Go.Maps Mth

/-- A name more, if it is new. -/
def nmA (out : List ByteArray) (n : ByteArray) : List ByteArray := if (out.map bl).contains (bl n) then out else out ++ [n]
mutual
/-- The names of a type behind others, in the order of their first places. -/
def nms (out : List ByteArray) : Ty → List ByteArray
  | .mk k n _ _ ts => nmsL (if k == 5 then nmA out n else out) ts
def nmsL (out : List ByteArray) : List Ty → List ByteArray
  | [] => out
  | t :: l => nmsL (nms out t) l
end
theorem nms_open (out : List ByteArray) (T : Ty) : nms out T = nmsL (if T.k == 5 then nmA out T.n else out) T.ts := by cases T; simp only [nms]; rfl
theorem nmsL_drop {out : List ByteArray} {l : List Ty} {j : Nat} {T : Ty} (h : l[j]? = some T) : nmsL out (l.drop j) = nmsL (nms out T) (l.drop (j + 1)) := by
  obtain ⟨hl, e⟩ := List.getElem?_eq_some_iff.1 h
  rw [List.drop_eq_getElem_cons hl, e, nmsL]
theorem nodesL_drop {l : List Ty} {j : Nat} {T : Ty} (h : l[j]? = some T) : nodesL (l.drop j) = nodes T + nodesL (l.drop (j + 1)) := by
  obtain ⟨hl, e⟩ := List.getElem?_eq_some_iff.1 h
  rw [List.drop_eq_getElem_cons hl, e]; simp only [nodesL]
theorem nodes_open (T : Ty) : nodes T = nodesL T.ts + 1 := by cases T; rfl
theorem nmA_addN (out : List ByteArray) (n : ByteArray) : (nmA out n).map bl = addN (out.map bl) (bl n) := by
  unfold nmA addN
  split
  · rfl
  · simp
theorem nmA_len (out : List ByteArray) (n : ByteArray) : (nmA out n).length ≤ out.length + 1 := by
  unfold nmA
  split
  · omega
  · simp
theorem grown_two {w w1 w2 : World} {r0 r1 : Option Nat} (h1 : w.grownBy w1 r0) (h2 : w1.grownBy w2 r1) (h : ∀ g, r1 = some g → r0 = some g ∨ w.heap.size ≤ g) : w.grownBy w2 r0 :=
  ⟨h2.os.trans h1.os, h2.tape.trans h1.tape, h2.output.trans h1.output, Nat.le_trans h1.size h2.size, fun k hk hne => by
    rw [h2.block k (Nat.lt_of_lt_of_le hk h1.size) (fun e => by
      rcases h k e.symm with h3 | h3
      · exact hne h3.symm
      · omega)]
    exact h1.block k hk hne⟩
/-- An append, with the place of the new row. -/
theorem wpList_pushH {α : Type} {w : World} {ops : Array Oper} {rest : List Oper} {o : Oper} {a : Act} {Q : Exit → Act → World → Prop} (E : El α) (hgd : o.guard = none) (s x : Operand)
    (ho : o.op = .call { callee := .builtin .append, args := #[s, x], argTypes := #[E.t, E.t] })
    (base : Nat) (S : Nat → Prop) (v : Value) (xs : List α) (hs : a.eval s = v) (hrow : RowG E w base S v xs)
    (B : Nat) (Z : TypeId) (c : List Value) (hB : w.heap[B]? = some (.cells c.toArray Z (0, 0))) (hx : a.eval x = .slice (some ⟨B, 0, none⟩) 1 1) (y : α) (hy : E.rep w (fun b => S b ∧ some b ≠ v.ownBlock) y c)
    (N : Nat) (hN : N = xs.length + 1) (hb : N ≤ 1000000) (hbase : base ≤ w.heap.size)
    (hK : ∀ (a' : Option Addr) (c' : Nat) (w' : World), RowG E w' base S (.slice a' N c') (xs ++ [y]) → w.grownBy w' v.ownBlock → ((Value.slice a' N c').ownBlock = v.ownBlock ∨ (Value.slice a' N c').ownBlock = some w.heap.size) → wpList Try.prog ops Q rest (a.put o.dst (.slice a' N c')) w') :
    wpList Try.prog ops Q (o :: rest) a w := by
  obtain ⟨i, z, hi, hz, hk, hby, hzs⟩ := E.info
  obtain ⟨L, hown, hl, hr⟩ := hrow
  have hc := E.len hy
  have hE := E.hby
  refine wpList_append_own_at w hgd s x E.t ho base E.e i z E.k E.by_ E.und hi hz hk hby hzs E.hk v xs.length L.flatten hs hown ⟨B, 0, none⟩ 1 1 c hx (by omega) (World.news_of_block hB) hc.2 (by unfold maxLen; omega) ?_ hbase ?_
  · have := Nat.mul_le_mul (show xs.length + 1 ≤ 1000000 by omega) hE
    omega
  intro v' w' hown' hg _ hloc
  have hrow' : RowG E w' base S v' (xs ++ [y]) := push_after hl hr hy hown' hg hloc
  obtain ⟨a', c', rfl, _⟩ := hrow'.slice
  have e : (xs ++ [y]).length = N := by rw [List.length_append, hN]; rfl
  rw [e] at hrow' hloc ⊢
  exact hK a' c' w' hrow' hg hloc

structure NwSt (w : World) (mb N : Nat) (ts : List Ty) (o : List ByteArray) (y : Value) (wr : World) : Prop where
  row : RowG StrE wr (mb + 1) (fun _ => False) y o
  sm : ∃ m, SM wr mb m (o.map bl) ∧ o.length ≤ m ∧ m + nodesL ts ≤ N
  low : Below mb w wr
theorem NwSt.lift {w wr wr' : World} {mb N : Nat} {ts : List Ty} {o : List ByteArray} {y : Value} (h : NwSt w mb N ts o y wr) (hb : Below wr.heap.size wr wr') : NwSt w mb N ts o y wr' := by
  obtain ⟨m, h1, h2, h3⟩ := h.sm
  exact ⟨h.row.lift hb, ⟨m, h1.lift hb, h2, h3⟩, h.low.trans (hb.mono (Nat.le_of_lt (Nat.lt_of_lt_of_le h1.lt (Nat.le_refl _))))⟩
end Go.Proofs.Ytafpngmfhajedaa

/- The names of a type: the reference's; both from nothing. -/
namespace Go.Proofs.Ytafpngmfhajedaa
open Go.RowKit Go.Sort Go.Shelf Go.Maps Mth

theorem ixF_neg (s : ByteArray) : ∀ (l : List ByteArray) (j : Nat), decide (ixF s l j < 0) = !((l.map bl).contains (bl s)) := by
  intro l
  induction l with
  | nil => intro j; simp [ixF]
  | cons t l ih =>
    intro j
    rw [List.map_cons, List.contains_cons, bl_beq]
    show decide ((if t.toList == s.toList then (j : Int) else ixF s l (j + 1)) < 0) = _
    by_cases h : t.toList = s.toList
    · have h1 : (t.toList == s.toList) = true := by simpa using h
      have h2 : (s.toList == t.toList) = true := by simpa using h.symm
      simp only [if_pos h1, h2]
      simp
    · have h1 : ¬ (t.toList == s.toList) = true := by simpa using h
      have h2 : (s.toList == t.toList) = false := by simpa using fun e => h e.symm
      simp only [if_neg h1, h2, Bool.false_or]
      exact ih (j + 1)
theorem ix_neg (l : List ByteArray) (s : ByteArray) : decide (ix l s < 0) = !((l.map bl).contains (bl s)) := ixF_neg s l 0
structure RnSt (V : World) (base : Nat) (y0 : Option Nat) (N : Nat) (ts : List Ty) (o : List ByteArray) (y : Value) (wr : World) : Prop where
  row : RowG StrE wr base (fun _ => False) y o
  fr : V.grownBy wr y0
  own : ∀ g, y.ownBlock = some g → y0 = some g ∨ V.heap.size ≤ g
  len : o.length + nodesL ts ≤ N
end Go.Proofs.Ytafpngmfhajedaa

/- The reference's Check: what its loops keep, and that its specification is the package's. -/
namespace Go.Proofs.Ytafpngmfhajedaa
open Go.RowKit Go.Sort Go.Shelf Go.Maps Mth

def anyRep : List ByteArray → List (List UInt8) → Bool
  | [], _ => false
  | n :: l, seen => seen.contains (bl n) || anyRep l (seen ++ [bl n])
theorem rep_iff : ∀ (l : List ByteArray) (seen : List (List UInt8)) (j : Nat), 0 ≤ ixR l seen j ↔ anyRep l seen = true := by
  intro l
  induction l with
  | nil => intro seen j; simp [ixR, anyRep]
  | cons n l ih =>
    intro seen j
    simp only [ixR, anyRep]
    by_cases h : seen.contains (bl n) = true
    · rw [if_pos h, h]; simp
    · rw [if_neg h, Bool.eq_false_iff.2 h, Bool.false_or]; exact ih _ _
theorem rep_any (l : List ByteArray) (seen : List (List UInt8)) (j : Nat) : decide (0 ≤ ixR l seen j) = anyRep l seen := by
  rw [Bool.eq_iff_iff, decide_eq_true_iff]; exact rep_iff l seen j
theorem rep_eq (l : List ByteArray) : rep l = anyRep l [] := rep_any l [] 0
theorem anyRep_step {l : List ByteArray} {j : Nat} {s : ByteArray} (seen : List (List UInt8)) (h : l[j]? = some s) : anyRep (l.drop j) seen = (seen.contains (bl s) || anyRep (l.drop (j + 1)) (seen ++ [bl s])) := by
  obtain ⟨hl, e⟩ := List.getElem?_eq_some_iff.1 h
  rw [List.drop_eq_getElem_cons hl, e]; rfl
theorem take_bl {l : List ByteArray} {j : Nat} {s : ByteArray} (h : l[j]? = some s) : (l.take j).map bl ++ [bl s] = (l.take (j + 1)).map bl := by
  rw [List.take_add_one, h]; simp
theorem slG_take {w : World} {S : Nat → Prop} {ps : List ByteArray} {a : Option Addr} {n c : Nat} (h : SlG StrE w S ps (.slice a n c)) {k : Nat} (hk : k ≤ ps.length) : SlG StrE w S (ps.take k) (.slice a k c) := by
  obtain ⟨a', c', e, ⟨h1, h2⟩, hj⟩ := h
  simp only [Value.slice.injEq] at e
  obtain ⟨rfl, -, rfl⟩ := e
  refine ⟨a, c, by rw [List.length_take, Nat.min_eq_left hk], ⟨by rw [List.length_take]; omega, h2⟩, fun j x hx => hj j x ?_⟩
  rw [List.getElem?_take] at hx
  split at hx
  · exact hx
  · cases hx
theorem ix_pos (l : List ByteArray) (s : ByteArray) : decide (0 ≤ ix l s) = (l.map bl).contains (bl s) := by
  have := ix_neg l s
  by_cases h : 0 ≤ ix l s
  · rw [decide_eq_true h]
    rw [decide_eq_false (by omega)] at this
    cases hc : (l.map bl).contains (bl s) with
    | true => rfl
    | false => rw [hc] at this; cases this
  · rw [decide_eq_false h]
    rw [decide_eq_true (by omega)] at this
    cases hc : (l.map bl).contains (bl s) with
    | true => rw [hc] at this; cases this
    | false => rfl
theorem intn_con (l : List ByteArray) (s : ByteArray) : ([73, 110, 116] :: l.map bl).contains (bl s) = ((s.toList == [73, 110, 116]) || decide (0 ≤ ix l s)) := by
  rw [List.contains_cons, ix_pos]
  have e : bl s = s.toList := (Lib.toList_data s).symm
  rw [e]
/-- The first error of the fields, by the reference. -/
def chkG1 (ds : List Dat) (ns : List ByteArray) : List Ctor → Int × Int
  | [] => (0, 0)
  | c :: l => if frmRL ds ns c.fields == 0 then chkG1 ds ns l else (frmRL ds ns c.fields, c.pos)
def chkG (ds : List Dat) : List Dat → Int × Int
  | [] => (0, 0)
  | d :: l => if (chkG1 ds d.params d.ctors).1 == 0 then chkG ds l else chkG1 ds d.params d.ctors
theorem chkG1_step {ds : List Dat} {ns : List ByteArray} {l : List Ctor} {j : Nat} {c : Ctor} (h : l[j]? = some c) : chkG1 ds ns (l.drop j) = if frmRL ds ns c.fields == 0 then chkG1 ds ns (l.drop (j + 1)) else (frmRL ds ns c.fields, c.pos) := by
  obtain ⟨hl, e⟩ := List.getElem?_eq_some_iff.1 h
  rw [List.drop_eq_getElem_cons hl, e]; rfl
theorem chkG_step {ds : List Dat} {l : List Dat} {j : Nat} {d : Dat} (h : l[j]? = some d) : chkG ds (l.drop j) = if (chkG1 ds d.params d.ctors).1 == 0 then chkG ds (l.drop (j + 1)) else chkG1 ds d.params d.ctors := by
  obtain ⟨hl, e⟩ := List.getElem?_eq_some_iff.1 h
  rw [List.drop_eq_getElem_cons hl, e]; rfl
theorem chkG1_eq (ds : List Dat) (ns : List ByteArray) : ∀ l : List Ctor, (∀ c ∈ l, ∀ f ∈ c.fields, flatT f = true) → chkF1 (kn ds) ns l = chkG1 ds ns l := by
  intro l
  induction l with
  | nil => intro _; rfl
  | cons c l ih =>
    intro h
    have e := frmL_eq ds ns c.fields fun U hU => frm_eq ds ns U (h c (by simp) U hU)
    simp only [chkF1, chkG1, e, ih fun c hc => h c (by simp [hc])]
theorem chkG_eq (ds : List Dat) : ∀ l : List Dat, (∀ d ∈ l, ∀ c ∈ d.ctors, ∀ f ∈ c.fields, flatT f = true) → chkF (kn ds) l = chkG ds l := by
  intro l
  induction l with
  | nil => intro _; rfl
  | cons d l ih =>
    intro h
    have e := chkG1_eq ds d.params d.ctors (h d (by simp))
    simp only [chkF, chkG, e, ih fun d hd => h d (by simp [hd])]
/-- The reference's two rows of names and the fault's box. -/
structure RkSt (w : World) (tv cv : Value) (ts cs : List ByteArray) (wr : World) : Prop where
  tr : RowG StrE wr (w.heap.size + 1) (fun _ => False) tv ts
  cr : RowG StrE wr (w.heap.size + 1) (fun _ => False) cv cs
  ne : ∀ g, tv.ownBlock = some g → cv.ownBlock ≠ some g
  box : BoxC 29 wr w.heap.size [.int .i64 0, .int .i64 0]
  low : Below w.heap.size w wr
theorem RkSt.lift {w : World} {tv cv : Value} {ts cs : List ByteArray} {wr v : World} (H : RkSt w tv cv ts cs wr) (hb : Below wr.heap.size wr v) : RkSt w tv cv ts cs v :=
  ⟨H.tr.lift hb, H.cr.lift hb, H.ne, H.box.lift hb, H.low.trans (hb.mono H.low.size)⟩
theorem RkSt.pushT {w : World} {tv tv' cv : Value} {ts ts' cs : List ByteArray} {wr v : World} (H : RkSt w tv cv ts cs wr) (hr : RowG StrE v (w.heap.size + 1) (fun _ => False) tv' ts') (hg : wr.grownBy v tv.ownBlock) (ho : tv'.ownBlock = tv.ownBlock ∨ tv'.ownBlock = some wr.heap.size) : RkSt w tv' cv ts' cs v := by
  have hl := fun k e => (RowG.lt H.tr k e).1
  refine ⟨hr, H.cr.kept hg ?_ (fun _ h => h.elim), fun g e e' => ?_, H.box.grown hg (fun e => by have := hl _ e.symm; omega), Below.grown H.low hg H.low.size (fun k e => by have := hl k e; omega)⟩
  · cases hc : cv.ownBlock with
    | none => exact .inl rfl
    | some g => exact .inr fun e => H.ne g e.symm hc
  · rcases ho with h | h
    · exact H.ne g (h ▸ e) e'
    · rw [h] at e; cases e; have := (RowG.lt H.cr _ e').2; omega
theorem RkSt.pushC {w : World} {tv cv cv' : Value} {ts cs cs' : List ByteArray} {wr v : World} (H : RkSt w tv cv ts cs wr) (hr : RowG StrE v (w.heap.size + 1) (fun _ => False) cv' cs') (hg : wr.grownBy v cv.ownBlock) (ho : cv'.ownBlock = cv.ownBlock ∨ cv'.ownBlock = some wr.heap.size) : RkSt w tv cv' ts cs' v := by
  have hl := fun k e => (RowG.lt H.cr k e).1
  refine ⟨H.tr.kept hg ?_ (fun _ h => h.elim), hr, fun g e e' => ?_, H.box.grown hg (fun e => by have := hl _ e.symm; omega), Below.grown H.low hg H.low.size (fun k e => by have := hl k e; omega)⟩
  · cases hc : tv.ownBlock with
    | none => exact .inl rfl
    | some g => exact .inr fun e => H.ne g hc e.symm
  · rcases ho with h | h
    · exact H.ne g e (h ▸ e')
    · rw [h] at e'; cases e'; have := (RowG.lt H.tr _ e).2; omega
/-- Within a round: the declaration's box besides. -/
structure RkIn (w : World) (D : Nat) (dl : List Value) (tv cv : Value) (ts cs : List ByteArray) (wr : World) : Prop where
  st : RkSt w tv cv ts cs wr
  dbx : BoxC 36 wr D dl
  dt : tv.ownBlock ≠ some D
  dv : cv.ownBlock ≠ some D
theorem RkIn.lift {w : World} {D : Nat} {dl : List Value} {tv cv : Value} {ts cs : List ByteArray} {wr v : World} (H : RkIn w D dl tv cv ts cs wr) (hb : Below wr.heap.size wr v) : RkIn w D dl tv cv ts cs v :=
  ⟨H.st.lift hb, H.dbx.lift hb, H.dt, H.dv⟩
theorem RkIn.pushT {w : World} {D : Nat} {dl : List Value} {tv tv' cv : Value} {ts ts' cs : List ByteArray} {wr v : World} (H : RkIn w D dl tv cv ts cs wr) (hr : RowG StrE v (w.heap.size + 1) (fun _ => False) tv' ts') (hg : wr.grownBy v tv.ownBlock) (ho : tv'.ownBlock = tv.ownBlock ∨ tv'.ownBlock = some wr.heap.size) : RkIn w D dl tv' cv ts' cs v :=
  ⟨H.st.pushT hr hg ho, H.dbx.grown hg (fun e => H.dt e.symm), fun e => by
    rcases ho with h | h
    · exact H.dt (h ▸ e)
    · rw [h] at e; cases e; have := H.dbx.lt; omega, H.dv⟩
theorem RkIn.pushC {w : World} {D : Nat} {dl : List Value} {tv cv cv' : Value} {ts cs cs' : List ByteArray} {wr v : World} (H : RkIn w D dl tv cv ts cs wr) (hr : RowG StrE v (w.heap.size + 1) (fun _ => False) cv' cs') (hg : wr.grownBy v cv.ownBlock) (ho : cv'.ownBlock = cv.ownBlock ∨ cv'.ownBlock = some wr.heap.size) : RkIn w D dl tv cv' ts cs' v :=
  ⟨H.st.pushC hr hg ho, H.dbx.grown hg (fun e => H.dv e.symm), H.dt, fun e => by
    rcases ho with h | h
    · exact H.dv (h ▸ e)
    · rw [h] at e; cases e; have := H.dbx.lt; omega⟩
end Go.Proofs.Ytafpngmfhajedaa

/- The reference's Check. -/
namespace Go.Proofs.Ytafpngmfhajedaa
open Go.RowKit Go.Sort Go.Shelf Go.Maps Mth

set_option maxRecDepth 100000 in
set_option maxHeartbeats 12800000 in
theorem refCheck_any (ds : List Dat) (hds : GoodD ds) (hfl : ∀ d ∈ ds, ∀ c ∈ d.ctors, ∀ f ∈ c.fields, flatT f = true) (v : Value) (S : Nat → Prop) (w : World) (h : SlG DatE w S ds v) :
    Calls Try.prog 11 #[v] w fun e w' => e = .returned (fltV (chk ds)) ∧ Below w.heap.size w w' := by
  have HD := Lib.hid h
  have HG := Lib.hid hds.2
  have hl := hds.1
  have HK : Hid (chk ds = orP (chkN ds [[73, 110, 116]] []) (chkG ds ds)) := by show _ = _; unfold chk; rw [chkG_eq ds ds hfl]
  obtain ⟨da, dc, rfl, -⟩ := slice_form h
  obtain ⟨dn, hdn⟩ : ∃ n, n = ds.length := ⟨_, rfl⟩
  rw [← hdn] at HD hl ⊢
  have HDn := Lib.hid hdn
  clear hdn h hds hfl
  have hal : Below w.heap.size w (w.alloc (.cells #[.int .i64 0, .int .i64 0] 29)) := (Below.refl _ w).alloc (Nat.le_refl _) _
  have hs0 : (w.alloc (.cells #[.int .i64 0, .int .i64 0] 29)).heap.size = w.heap.size + 1 := by simp
  have H0 : Hid (RkSt w (.slice none 0 0) (.slice none 0 0) [] [] (w.alloc (.cells #[.int .i64 0, .int .i64 0] 29))) := ⟨rowG_nil _ _ _ _, rowG_nil _ _ _ _, fun g e => (by cases e), BoxC.made _ w _, hal⟩
  have HS0 : Hid (w.heap.size + 1 ≤ (w.alloc (.cells #[.int .i64 0, .int .i64 0] 29)).heap.size) := by show _ ≤ _; omega
  clear hal hs0
  have HE : Hid (chkN ds [[73, 110, 116]] [] = chkN (ds.drop 0) ([73, 110, 116] :: ([] : List ByteArray).map bl) (([] : List ByteArray).map bl)) := rfl
  go_enter Try.func11, Try.ntmps11
  go_upto_region 1 with fail
  generalize (w.alloc (.cells #[.int .i64 0, .int .i64 0] 29)) = V at *
  go_wp2
  go_loopw [3, 4, 5] (fun y z x wr => ∃ (j : Nat) (ya : Option Addr) (yc : Nat) (za : Option Addr) (zn zc : Nat) (ts cs : List ByteArray), j ≤ dn ∧ x = .int .i64 j ∧ y = .slice ya j yc ∧ z = .slice za zn zc ∧ zn ≤ 1000 * j ∧ Hid (ts.length = j ∧ cs.length = zn) ∧ Hid (chkN ds [[73, 110, 116]] [] = chkN (ds.drop j) ([73, 110, 116] :: ts.map bl) (cs.map bl)) ∧ Hid (RkSt w (.slice ya j yc) (.slice za zn zc) ts cs wr) ∧ Hid (w.heap.size + 1 ≤ wr.heap.size)) (fun _ _ x _ => dn - (intOf x).toNat)
  case atStart => exact ⟨0, none, 0, none, 0, 0, [], [], Nat.zero_le _, rfl, rfl, rfl, Nat.zero_le _, ⟨rfl, rfl⟩, HE, H0, HS0⟩
  case round =>
    clear HE H0 HS0
    obtain ⟨j, ya, yc, za, zn, zc, ts, cs, hj, rfl, rfl, rfl, hzn, HL, HT, HO, HS⟩ := hrel
    by_cases hjt : j < dn
    · obtain ⟨d, hd⟩ : ∃ x, ds[j]? = some x := ⟨_, List.getElem?_eq_getElem (by rw [← HDn.out]; exact hjt)⟩
      have HSt := Lib.hid (chkN_step (ts := [73, 110, 116] :: ts.map bl) (cs := cs.map bl) hd)
      have hgd := HG.out d (List.mem_of_getElem? hd)
      have hcl := hgd.2.2.1
      have hpl := hgd.1
      obtain ⟨ad, pa, pc, ca, cc, rfl, hp, hct, r0, r1, r2, r3⟩ := dat_at HD.out hd
      have kW : ∀ {p : Addr} {u : Value}, w.cell? p = some u → wr.cell? p = some u := fun {p u} h => (HO.out.low.cell (World.block_lt_of_cell? _ _ h)).trans h
      have r0' := kW r0; have r1' := kW r1; have r2' := kW r2; have r3' := kW r3
      clear r0 r1 r2 r3 kW
      have HP := Lib.hid hp
      have HC := Lib.hid hct
      have HIc := Lib.hid (intn_con ts d.name)
      have hal : Below wr.heap.size wr (wr.alloc (.cells #[.int .i64 d.pos, .string d.name, .slice pa d.params.length pc, .slice ca d.ctors.length cc] 36)) := (Below.refl _ wr).alloc (Nat.le_refl _) _
      have HI0 : Hid (RkIn w wr.heap.size [.int .i64 d.pos, .string d.name, .slice pa d.params.length pc, .slice ca d.ctors.length cc] (.slice ya j yc) (.slice za zn zc) ts cs (wr.alloc (.cells #[.int .i64 d.pos, .string d.name, .slice pa d.params.length pc, .slice ca d.ctors.length cc] 36))) := ⟨HO.out.lift hal, BoxC.made _ wr _, fun e => by have := (RowG.lt HO.out.tr _ e).2; omega, fun e => by have := (RowG.lt HO.out.cr _ e).2; omega⟩
      have HSz : Hid (w.heap.size + 1 ≤ (wr.alloc (.cells #[.int .i64 d.pos, .string d.name, .slice pa d.params.length pc, .slice ca d.ctors.length cc] 36)).heap.size) := Nat.le_trans HS.out hal.size
      have hji : (j : Int) < (dn : Int) := by omega
      clear hp hct hgd hd hal HO HS
      obtain ⟨cl, hcl'⟩ : ∃ n, n = d.ctors.length := ⟨_, rfl⟩
      obtain ⟨pl, hpl'⟩ : ∃ n, n = d.params.length := ⟨_, rfl⟩
      rw [← hcl', ← hpl'] at HI0 HSz
      rw [← hcl'] at hcl HC r3'
      rw [← hpl'] at hpl HP r2'
      have HCn := Lib.hid hcl'
      have HPn := Lib.hid hpl'
      clear hcl' hpl'
      go_upto_region 6 with fail
      generalize (wr.alloc (.cells #[.int .i64 d.pos, .string d.name, .slice pa pl pc, .slice ca cl cc] 36)) = V2 at *
      generalize wr.heap.size = D at *
      clear r0' r1' r2' r3'
      have b1 := HI0.out.dbx.cell 1 _ rfl
      have HIx : Hid (Calls Try.prog 38 #[.slice ya j yc, .string d.name] V2 fun e w' => e = .returned (.int .i64 (ix ts d.name)) ∧ V2 = w') := refIndex_any ts d.name _ (fun _ => True) V2 (HI0.out.st.tr.slG (fun _ _ => trivial) (fun _ _ => trivial))
      generalize ix ts d.name = q0 at *
      cases hq0 : (d.name.toList == [73, 110, 116]) with
      | true =>
        have HR : Hid (chkN ds [[73, 110, 116]] [] = (6, d.pos)) := by show _ = _; rw [HT.out, HSt.out, HIc.out, hq0]; rfl
        go_upto_region 7 with (go_at_call 38; refine HIx.out.mono ?_; rintro e w1 ⟨rfl, rfl⟩)
        clear HIx b1
        go_wp2
        go_loopw [7, 8] (fun s x wq => ∃ k : Nat, k ≤ pl ∧ s = .bool true ∧ x = .int .i64 k ∧ Hid (RkIn w D [.int .i64 d.pos, .string d.name, .slice pa pl pc, .slice ca cl cc] (.slice ya j yc) (.slice za zn zc) ts cs wq)) (fun _ x _ => pl - (intOf x).toNat)
        case atStart => exact ⟨0, Nat.zero_le _, rfl, rfl, HI0⟩
        case round =>
          obtain ⟨k, hk, rfl, rfl, HIk⟩ := hrel
          have b2 := HIk.out.dbx.cell 2 _ rfl
          have b0 := HIk.out.dbx.cell 0 _ rfl
          by_cases hkt : k < pl
          · have hki : (k : Int) < (pl : Int) := by omega
            go_wp2
            go_quiet (fail)
            go_wp2
            go_roundw
            case rel => exact ⟨k + 1, hkt, rfl, by go_num, HIk.out.lift (below_drewN (Below.refl _ _) _)⟩
            case measure => simp [intOf]; omega
          · have hbx := HIk.out.st.box
            go_wp2_with (refine wpList_storeC rfl _ _ rfl _ _ [.int .i64 6, .int .i64 d.pos] hbx rfl rfl (flt_cells _ rfl) rfl (by intro u hu; simp at hu; rcases hu with rfl | rfl <;> rfl) ?_; intro w2 hB2 hg2 hs2)
            have c0 := hB2.cell 0 _ rfl; have c1 := hB2.cell 1 _ rfl
            have hlw := HIk.out.st.low
            refine bodyPost_ret (by simp [results, Try.results11, go_sem, c0, c1]; try rfl) rfl ?_
            exact ⟨by rw [HK.out, HR.out]; rfl, Below.grown hlw hg2 hlw.size (fun k hk => by have := Option.some.inj hk; omega)⟩
      | false =>
        cases hq1 : decide (0 ≤ q0) with
        | true =>
          have HR : Hid (chkN ds [[73, 110, 116]] [] = (6, d.pos)) := by show _ = _; rw [HT.out, HSt.out, HIc.out, hq0, hq1]; rfl
          go_upto_region 7 with (go_at_call 38; refine HIx.out.mono ?_; rintro e w1 ⟨rfl, rfl⟩)
          clear HIx b1
          go_wp2
          go_loopw [7, 8] (fun s x wq => ∃ k : Nat, k ≤ pl ∧ s = .bool true ∧ x = .int .i64 k ∧ Hid (RkIn w D [.int .i64 d.pos, .string d.name, .slice pa pl pc, .slice ca cl cc] (.slice ya j yc) (.slice za zn zc) ts cs wq)) (fun _ x _ => pl - (intOf x).toNat)
          case atStart => exact ⟨0, Nat.zero_le _, rfl, rfl, HI0⟩
          case round =>
            obtain ⟨k, hk, rfl, rfl, HIk⟩ := hrel
            have b2 := HIk.out.dbx.cell 2 _ rfl
            have b0 := HIk.out.dbx.cell 0 _ rfl
            by_cases hkt : k < pl
            · have hki : (k : Int) < (pl : Int) := by omega
              go_wp2
              go_quiet (fail)
              go_wp2
              go_roundw
              case rel => exact ⟨k + 1, hkt, rfl, by go_num, HIk.out.lift (below_drewN (Below.refl _ _) _)⟩
              case measure => simp [intOf]; omega
            · have hbx := HIk.out.st.box
              go_wp2_with (refine wpList_storeC rfl _ _ rfl _ _ [.int .i64 6, .int .i64 d.pos] hbx rfl rfl (flt_cells _ rfl) rfl (by intro u hu; simp at hu; rcases hu with rfl | rfl <;> rfl) ?_; intro w2 hB2 hg2 hs2)
              have c0 := hB2.cell 0 _ rfl; have c1 := hB2.cell 1 _ rfl
              have hlw := HIk.out.st.low
              refine bodyPost_ret (by simp [results, Try.results11, go_sem, c0, c1]; try rfl) rfl ?_
              exact ⟨by rw [HK.out, HR.out]; rfl, Below.grown hlw hg2 hlw.size (fun k hk => by have := Option.some.inj hk; omega)⟩
        | false =>
          rw [hq0, hq1] at HIc
          go_upto_region 7 with (go_at_call 38; refine HIx.out.mono ?_; rintro e w1 ⟨rfl, rfl⟩)
          clear HIx b1
          have HA0 : Hid (anyRep d.params [] = (false || anyRep (d.params.drop 0) ((d.params.take 0).map bl))) := rfl
          go_wp2
          go_loopw [7, 8] (fun s x wq => ∃ (k : Nat) (b : Bool), k ≤ pl ∧ s = .bool b ∧ x = .int .i64 k ∧ Hid (anyRep d.params [] = (b || anyRep (d.params.drop k) ((d.params.take k).map bl))) ∧ Hid (RkIn w D [.int .i64 d.pos, .string d.name, .slice pa pl pc, .slice ca cl cc] (.slice ya j yc) (.slice za zn zc) ts cs wq)) (fun _ x _ => pl - (intOf x).toNat)
          case atStart => exact ⟨0, false, Nat.zero_le _, rfl, rfl, HA0, HI0⟩
          case round =>
            clear HA0 HI0
            obtain ⟨k, b, hk, rfl, rfl, HTk, HIk⟩ := hrel
            have b2 := HIk.out.dbx.cell 2 _ rfl
            by_cases hkt : k < pl
            · have hki : (k : Int) < (pl : Int) := by omega
              cases b with
              | true =>
                have HR : Hid (anyRep d.params [] = (true || anyRep (d.params.drop (k + 1)) ((d.params.take (k + 1)).map bl))) := by show _ = _; rw [HTk.out]; rfl
                go_wp2
                go_quiet (fail)
                go_wp2
                go_roundw
                case rel => exact ⟨k + 1, true, hkt, rfl, by go_num, HR, HIk.out.lift (below_drewN (Below.refl _ _) _)⟩
                case measure => simp [intOf]; omega
              | false =>
                obtain ⟨s, hs⟩ : ∃ x, d.params[k]? = some x := ⟨_, List.getElem?_eq_getElem (by rw [← HPn.out]; exact hkt)⟩
                have HR : Hid (anyRep d.params [] = (decide (0 ≤ ix (d.params.take k) s) || anyRep (d.params.drop (k + 1)) ((d.params.take (k + 1)).map bl))) := by show _ = _; rw [HTk.out, anyRep_step _ hs, ix_pos, take_bl hs]; rfl
                have hpw := HP.out.lift' HIk.out.st.low
                have hkc : (k : Int) ≤ (pc : Int) := by
                  obtain ⟨a', c', e, ⟨h1, h2⟩, -⟩ := hpw
                  simp only [Value.slice.injEq] at e
                  obtain ⟨rfl, h3, rfl⟩ := e
                  omega
                have HIx : Hid (∀ X, Below wr.heap.size wr X → Calls Try.prog 38 #[.slice pa k pc, .string s] X fun e w' => e = .returned (.int .i64 (ix (d.params.take k) s)) ∧ w' = X) := fun X hX => (refIndex_any (d.params.take k) s _ S X (slG_take (hpw.lift' hX) (by rw [← HPn.out]; exact hk))).mono fun _ _ ⟨h1, h2⟩ => ⟨h1, h2.symm⟩
                obtain ⟨pad, rfl, hc⟩ := str_at hpw k s hs
                clear hs hpw HTk
                generalize ix (d.params.take k) s = q at *
                go_wp2
                go_quiet ((go_at_call 38; exact Calls.quiet_of_same (HIx.out _ (below_drewN (Below.refl _ _) _))))
                go_wp2
                go_roundw
                case rel => exact ⟨k + 1, decide (0 ≤ q), hkt, rfl, by go_num, HR, HIk.out.lift (below_drewN (Below.refl _ _) _)⟩
                case measure => simp [intOf]; omega
            · obtain rfl : pl = k := by omega
              have hdr : d.params.drop pl = [] := List.drop_eq_nil_of_le (by rw [← HPn.out]; exact Nat.le_refl _)
              cases b with
              | true =>
                have HR : Hid (chkN ds [[73, 110, 116]] [] = (6, d.pos)) := by
                  have hr : rep d.params = true := by rw [rep_eq, HTk.out]; rfl
                  show _ = _; rw [HT.out, HSt.out, HIc.out, hr]; rfl
                have b0 := HIk.out.dbx.cell 0 _ rfl
                have hbx := HIk.out.st.box
                go_wp2_with (refine wpList_storeC rfl _ _ rfl _ _ [.int .i64 6, .int .i64 d.pos] hbx rfl rfl (flt_cells _ rfl) rfl (by intro u hu; simp at hu; rcases hu with rfl | rfl <;> rfl) ?_; intro w2 hB2 hg2 hs2)
                have c0 := hB2.cell 0 _ rfl; have c1 := hB2.cell 1 _ rfl
                have hlw := HIk.out.st.low
                refine bodyPost_ret (by simp [results, Try.results11, go_sem, c0, c1]; try rfl) rfl ?_
                exact ⟨by rw [HK.out, HR.out]; rfl, Below.grown hlw hg2 hlw.size (fun k hk => by have := Option.some.inj hk; omega)⟩
              | false =>
                have HS3 : Hid (chkN ds [[73, 110, 116]] [] = match chkC d.ctors (cs.map bl) with | (some p, _) => (6, p) | (none, cs') => chkN (ds.drop (j + 1)) ([73, 110, 116] :: (ts ++ [d.name]).map bl) cs') := by
                  have hr : rep d.params = false := by rw [rep_eq, HTk.out, hdr]; rfl
                  have e2 : ([73, 110, 116] :: ts.map bl) ++ [bl d.name] = [73, 110, 116] :: (ts ++ [d.name]).map bl := by simp
                  show _ = _; rw [HT.out, HSt.out, HIc.out, hr, e2]
                  rcases chkC d.ctors (cs.map bl) with ⟨_ | p, c'⟩ <;> rfl
                clear hdr HTk HT HSt HIc HPn HP
                have b1 := HIk.out.dbx.cell 1 _ rfl
                have HSt2 : Hid (∀ V S, StrE.rep V S d.name [.string d.name]) := fun _ _ => rfl
                have HN1 : Hid (∀ X Z, (wr.alloc (.cells X Z)).heap[wr.heap.size]? = some (.cells X Z (0, 0))) := fun X Z => heap_alloc_new wr _
                have HA1 : Hid (∀ X, Below wr.heap.size wr (wr.alloc X)) := fun X => (Below.refl _ wr).alloc (Nat.le_refl _) X
                have HIa := Lib.hid (fun X => HIk.out.lift (HA1.out X))
                have HZw : Hid (∀ X, w.heap.size + 1 ≤ (wr.alloc X).heap.size) := fun X => Nat.le_trans (Nat.lt_of_lt_of_le HIk.out.st.box.lt (Nat.le_refl _)) (HA1.out X).size
                have hj1 : j + 1 ≤ 1000000 := by omega
                go_upto_region 14 with (at_builtin; refine wpList_pushH StrE rfl _ _ rfl (w.heap.size + 1) (fun _ => False) (.slice ya j yc) ts rfl (HIa.out _).st.tr wr.heap.size _ [.string d.name] (HN1.out _ _) rfl d.name (HSt2.out _ _) (j + 1) (by rw [HL.out.1]) hj1 (HZw.out _) ?_; intro a3 c3 w3 hrow3 hg3 ho3; have HI3 := Lib.hid ((HIa.out _).pushT hrow3 hg3 ho3); clear hrow3 hg3 ho3)
                have HC0 : Hid (chkC d.ctors (cs.map bl) = chkC (d.ctors.drop 0) (cs.map bl)) := rfl
                have HL0 : Hid (cs.length = zn) := HL.out.2
                clear b1 b2 HIk HN1 HA1 HIa HZw
                go_wp2
                go_loopw [4, 9] (fun z x wp => ∃ (k : Nat) (za' : Option Addr) (zn' zc' : Nat) (cs' : List ByteArray), k ≤ cl ∧ x = .int .i64 k ∧ z = .slice za' zn' zc' ∧ zn' ≤ zn + k ∧ Hid (cs'.length = zn') ∧ Hid (chkC d.ctors (cs.map bl) = chkC (d.ctors.drop k) (cs'.map bl)) ∧ Hid (RkIn w D [.int .i64 d.pos, .string d.name, .slice pa pl pc, .slice ca cl cc] (.slice a3 (j + 1) c3) (.slice za' zn' zc') (ts ++ [d.name]) cs' wp)) (fun _ x _ => cl - (intOf x).toNat)
                case atStart => exact ⟨0, za, zn, zc, cs, Nat.zero_le _, rfl, rfl, Nat.le_refl _, HL0, HC0, HI3⟩
                case round =>
                  clear HC0 HI3 HL0
                  obtain ⟨m, za', zn', zc', cs', hm, rfl, rfl, hzn', HLc, HTc, HIm⟩ := hrel
                  have b3 := HIm.out.dbx.cell 3 _ rfl
                  by_cases hmt : m < cl
                  · obtain ⟨c, hc⟩ : ∃ x, d.ctors[m]? = some x := ⟨_, List.getElem?_eq_getElem (by rw [← HCn.out]; exact hmt)⟩
                    have HSc := Lib.hid (chkC_step (cs := cs'.map bl) hc)
                    obtain ⟨ad2, fa, fc, rfl, -, r0, r1, r2⟩ := ctor_at (HC.out.lift' HIm.out.st.low) hc
                    have HIx : Hid (Calls Try.prog 38 #[.slice za' zn' zc', .string c.name] wr fun e w' => e = .returned (.int .i64 (ix cs' c.name)) ∧ wr = w') := refIndex_any cs' c.name _ (fun _ => True) wr (HIm.out.st.cr.slG (fun _ _ => trivial) (fun _ _ => trivial))
                    have hmi : (m : Int) < (cl : Int) := by omega
                    rw [← ix_pos] at HSc
                    clear hc
                    cases hq : decide (0 ≤ ix cs' c.name) with
                    | true =>
                      have HR : Hid (chkN ds [[73, 110, 116]] [] = (6, c.pos)) := by show _ = _; rw [HS3.out, HTc.out, HSc.out, hq]; rfl
                      generalize ix cs' c.name = q at *
                      have hbx := HIm.out.st.box
                      go_wp2_with (first
                        | (go_at_call 38; refine HIx.out.mono ?_; rintro e w1 ⟨rfl, rfl⟩)
                        | (refine wpList_storeC rfl _ _ rfl _ _ [.int .i64 6, .int .i64 c.pos] hbx rfl rfl (flt_cells _ rfl) rfl (by intro u hu; simp at hu; rcases hu with rfl | rfl <;> rfl) ?_; intro w2 hB2 hg2 hs2))
                      have c0 := hB2.cell 0 _ rfl; have c1 := hB2.cell 1 _ rfl
                      have hlw := HIm.out.st.low
                      refine bodyPost_ret (by simp [results, Try.results11, go_sem, c0, c1]; try rfl) rfl ?_
                      exact ⟨by rw [HK.out, HR.out]; rfl, Below.grown hlw hg2 hlw.size (fun k hk => by have := Option.some.inj hk; omega)⟩
                    | false =>
                      have HR : Hid (chkC d.ctors (cs.map bl) = chkC (d.ctors.drop (m + 1)) ((cs' ++ [c.name]).map bl)) := by show _ = _; rw [HTc.out, HSc.out, hq]; simp
                      generalize ix cs' c.name = q at *
                      have HSt2 : Hid (∀ V S, StrE.rep V S c.name [.string c.name]) := fun _ _ => rfl
                      have HN1 : Hid (∀ X Z, (wr.alloc (.cells X Z)).heap[wr.heap.size]? = some (.cells X Z (0, 0))) := fun X Z => heap_alloc_new wr _
                      have HA1 : Hid (∀ X, Below wr.heap.size wr (wr.alloc X)) := fun X => (Below.refl _ wr).alloc (Nat.le_refl _) X
                      have HIa := Lib.hid (fun X => HIm.out.lift (HA1.out X))
                      have HZw : Hid (∀ X, w.heap.size + 1 ≤ (wr.alloc X).heap.size) := fun X => Nat.le_trans (Nat.lt_of_lt_of_le HIm.out.st.box.lt (Nat.le_refl _)) (HA1.out X).size
                      have hz1 : zn' + 1 ≤ 1000000 := by omega
                      go_wp2_with (first
                        | (go_at_call 38; refine HIx.out.mono ?_; rintro e w1 ⟨rfl, rfl⟩)
                        | (at_builtin; refine wpList_pushH StrE rfl _ _ rfl (w.heap.size + 1) (fun _ => False) (.slice za' zn' zc') cs' rfl (HIa.out _).st.cr wr.heap.size _ [.string c.name] (HN1.out _ _) rfl c.name (HSt2.out _ _) (zn' + 1) (by rw [HLc.out]) hz1 (HZw.out _) ?_; intro a4 c4 w4 hrow4 hg4 ho4; have HI4 := Lib.hid ((HIa.out _).pushC hrow4 hg4 ho4); clear hrow4 hg4 ho4))
                      have HL4 : Hid ((cs' ++ [c.name]).length = zn' + 1) := by show _ = _; rw [List.length_append, HLc.out]; rfl
                      go_roundw
                      case rel => exact ⟨m + 1, a4, zn' + 1, c4, cs' ++ [c.name], hmt, by go_num, rfl, by omega, HL4, HR, HI4⟩
                      case measure => simp [intOf]; omega
                  · have HN : Hid (chkC d.ctors (cs.map bl) = (none, cs'.map bl)) := by
                      show _ = _
                      rw [HTc.out, List.drop_eq_nil_of_le (by rw [← HCn.out]; omega)]; rfl
                    have HR : Hid (chkN ds [[73, 110, 116]] [] = chkN (ds.drop (j + 1)) ([73, 110, 116] :: (ts ++ [d.name]).map bl) (cs'.map bl)) := by show _ = _; rw [HS3.out, HN.out]
                    have HL4 : Hid ((ts ++ [d.name]).length = j + 1 ∧ cs'.length = zn') := ⟨by rw [List.length_append, HL.out.1]; rfl, HLc.out⟩
                    have HSz2 : Hid (w.heap.size + 1 ≤ wr.heap.size) := HIm.out.st.box.lt
                    have HO2 := Lib.hid HIm.out.st
                    go_wp2
                    go_roundw
                    case rel => exact ⟨j + 1, a3, c3, za', zn', zc', ts ++ [d.name], cs', hjt, by go_num, rfl, rfl, by omega, HL4, HR, HO2, HSz2⟩
                    case measure => simp [intOf]; omega
    · have HN : Hid (chkN ds [[73, 110, 116]] [] = (0, 0)) := by
        show _ = _
        rw [HT.out, List.drop_eq_nil_of_le (by rw [← HDn.out]; omega)]; rfl
      have HK2 : Hid (chk ds = chkG ds ds) := by show _ = _; rw [HK.out, HN.out]; rfl
      have HBx := Lib.hid HO.out.box
      have HLw := Lib.hid HO.out.low
      have HE : Hid (chkG ds ds = chkG ds (ds.drop 0)) := rfl
      have HR0 : Hid (Below wr.heap.size wr wr) := Below.refl _ _
      clear HT HO HS HN HK HL hzn
      generalize wr = W at *
      go_wp2
      go_loopw [10] (fun x wr => ∃ i : Nat, i ≤ dn ∧ x = .int .i64 i ∧ Hid (chkG ds ds = chkG ds (ds.drop i)) ∧ Hid (Below W.heap.size W wr)) (fun x _ => dn - (intOf x).toNat)
      case atStart => exact ⟨0, Nat.zero_le _, rfl, HE, HR0⟩
      case round =>
        clear HE HR0
        obtain ⟨i, hi, rfl, HT, HB⟩ := hrel
        by_cases hit : i < dn
        · obtain ⟨d, hd⟩ : ∃ x, ds[i]? = some x := ⟨_, List.getElem?_eq_getElem (by rw [← HDn.out]; exact hit)⟩
          have HSt := Lib.hid (chkG_step (ds := ds) hd)
          have hgd := HG.out d (List.mem_of_getElem? hd)
          have hcl := hgd.2.2.1
          have HGc := Lib.hid hgd.2.2.2
          obtain ⟨ad, pa, pc, ca, cc, rfl, hp, hct, q0, q1, q2, q3⟩ := dat_at HD.out hd
          have HP := Lib.hid hp
          have HCt := Lib.hid hct
          have HLr := Lib.hid (HLw.out.trans (HB.out.mono HLw.out.size))
          have HQ2 := Lib.hid q2
          have HQ3 := Lib.hid q3
          have hii : (i : Int) < (dn : Int) := by omega
          clear hp hct hgd hd q0 q1 q2 q3
          obtain ⟨cl, hcl'⟩ : ∃ n, n = d.ctors.length := ⟨_, rfl⟩
          rw [← hcl'] at HQ3 HCt hcl
          have HCn := Lib.hid hcl'
          clear hcl'
          generalize d.params.length = pl at *
          have HE1 : Hid (chkG1 ds d.params d.ctors = chkG1 ds d.params (d.ctors.drop 0)) := rfl
          have HR1 : Hid (Below wr.heap.size wr wr) := Below.refl _ _
          generalize wr = W1 at *
          go_wp2
          go_loopw [11] (fun x wr => ∃ k : Nat, k ≤ cl ∧ x = .int .i64 k ∧ Hid (chkG1 ds d.params d.ctors = chkG1 ds d.params (d.ctors.drop k)) ∧ Hid (Below W1.heap.size W1 wr)) (fun x _ => cl - (intOf x).toNat)
          case atStart => exact ⟨0, Nat.zero_le _, rfl, HE1, HR1⟩
          case round =>
            clear HE1 HR1
            obtain ⟨k, hk, rfl, HT1, HBk⟩ := hrel
            have HL1 := Lib.hid (HLr.out.trans (HBk.out.mono HLr.out.size))
            have q3 := (HL1.out.cell (World.block_lt_of_cell? _ _ HQ3.out)).trans HQ3.out
            by_cases hkt : k < cl
            · obtain ⟨c, hc⟩ : ∃ x, d.ctors[k]? = some x := ⟨_, List.getElem?_eq_getElem (by rw [← HCn.out]; exact hkt)⟩
              have HS1 := Lib.hid (chkG1_step (ds := ds) (ns := d.params) hc)
              have hgc := HGc.out c (List.mem_of_getElem? hc)
              have hfl := hgc.1
              obtain ⟨ad2, fa, fc, rfl, hfs, r0, r1, r2⟩ := ctor_at (HCt.out.lift' HL1.out) hc
              obtain ⟨fl, hfl'⟩ : ∃ n, n = c.fields.length := ⟨_, rfl⟩
              rw [← hfl'] at r2 hfs hfl
              have HFl := Lib.hid hfl'
              have HFs := Lib.hid (slG_repL hfs)
              clear hfl' hgc hc hfs
              have hki : (k : Int) < (cl : Int) := by omega
              have hal : Below wr.heap.size wr (wr.alloc (.cells #[.int .i64 c.pos, .string c.name, .slice fa fl fc] 45)) := (Below.refl _ wr).alloc (Nat.le_refl _) _
              have HCb : Hid (BoxC 45 (wr.alloc (.cells #[.int .i64 c.pos, .string c.name, .slice fa fl fc] 45)) wr.heap.size [.int .i64 c.pos, .string c.name, .slice fa fl fc]) := BoxC.made _ wr _
              have HFs2 := Lib.hid (HFs.out.lift hal)
              have HL2 := Lib.hid (HL1.out.trans (hal.mono HL1.out.size))
              have HB2k := Lib.hid (HBk.out.trans (hal.mono HBk.out.size))
              have HBx2 := Lib.hid (HBx.out.lift (HB.out.trans (HB2k.out.mono HB.out.size)))
              clear HFs hal
              go_upto_region 27 with fail
              generalize (wr.alloc (.cells #[.int .i64 c.pos, .string c.name, .slice fa fl fc] 45)) = W2 at *
              generalize wr.heap.size = R2 at *
              clear r0 r1 r2 q3 HBk HL1
              have HE2 : Hid (frmRL ds d.params c.fields = frmRL ds d.params (c.fields.drop 0)) := rfl
              have HR2 : Hid (Below W2.heap.size W2 W2) := Below.refl _ _
              go_wp2
              go_loopw [13] (fun x wr => ∃ m : Nat, m ≤ fl ∧ x = .int .i64 m ∧ Hid (frmRL ds d.params c.fields = frmRL ds d.params (c.fields.drop m)) ∧ Hid (Below W2.heap.size W2 wr)) (fun x _ => fl - (intOf x).toNat)
              case atStart => exact ⟨0, Nat.zero_le _, rfl, HE2, HR2⟩
              case round =>
                clear HE2 HR2
                obtain ⟨m, hm, rfl, HT2, HBm⟩ := hrel
                have HL3 := Lib.hid (HL2.out.trans (HBm.out.mono HL2.out.size))
                have HCm := Lib.hid (HCb.out.lift HBm.out)
                have s2 := HCm.out.cell 2 _ rfl
                by_cases hmt : m < fl
                · obtain ⟨U, hU⟩ : ∃ x, c.fields[m]? = some x := ⟨_, List.getElem?_eq_getElem (by rw [← HFl.out]; exact hmt)⟩
                  have HS2 := Lib.hid (frmRL_drop (ds := ds) (ns := d.params) hU)
                  obtain ⟨fa', fc', e, -, hjx⟩ := HFs2.out.lift HBm.out
                  simp only [Value.slice.injEq] at e
                  obtain ⟨rfl, -, rfl⟩ := e
                  obtain ⟨ad3, x, rfl, hSa, h5, hx⟩ := hjx m U hU
                  obtain ⟨k', n', i', h', s', -, rfl, -, hs'⟩ := hx.open
                  obtain ⟨q0, q1, q2, q3, q4⟩ := five_at h5
                  obtain ⟨ua, uc, rfl, -⟩ := hs'
                  have HF : Hid (∀ V, Below wr.heap.size wr V → Calls Try.prog 39 #[.slice (some ad) dn dc, .agg #[.int .i64 k', .string n', .int .i64 i', .int .i64 h', .slice ua U.ts.length uc], .slice pa pl pc] V fun e w' => e = .returned (.int .i64 (frmR ds d.params U)) ∧ Below V.heap.size V w') := fun V hV => by
                    have hlv := HL3.out.trans (hV.mono HL3.out.size)
                    exact refFormed_any ds d.params U _ _ _ S S S V (HD.out.lift' hlv) (HP.out.lift' hlv) (hx.lift hV)
                  have p2 := (HL3.out.cell (World.block_lt_of_cell? _ _ HQ2.out)).trans HQ2.out
                  have hmi : (m : Int) < (fl : Int) := by omega
                  clear hU hx h5 hjx hSa
                  generalize U.ts.length = un at *
                  generalize frmR ds d.params U = eu at *
                  go_wp2
                  go_still_tail 11, (by kernel_rfl)
                  change wpList _ _ _ _ _ wr.drew
                  have HDr : Hid (Below wr.heap.size wr wr.drew) := (Below.refl _ wr).drew
                  have s0 := (HCm.out.lift HDr.out).cell 0 _ rfl
                  clear q0 q1 q2 q3 q4 p2 s2
                  generalize wr.drew = Wd at *
                  cases hq : (eu == 0) with
                  | true =>
                    have hqn : (eu != 0) = false := by rw [bne, hq]; rfl
                    have HR : Hid (frmRL ds d.params c.fields = frmRL ds d.params (c.fields.drop (m + 1))) := by show _ = _; rw [HT2.out, HS2.out, hq]; rfl
                    clear hq
                    go_wp2_with (go_at_call 39; refine (HF.out _ HDr.out).mono ?_; rintro e w1 ⟨rfl, hb1⟩; have HB2 := Lib.hid (HBm.out.trans ((HDr.out.trans (hb1.mono HDr.out.size)).mono HBm.out.size)); clear hb1)
                    go_roundw
                    case rel => exact ⟨m + 1, hmt, by go_num, HR, HB2⟩
                    case measure => simp [intOf]; omega
                  | false =>
                    have hqn : (eu != 0) = true := by rw [bne, hq]; rfl
                    have hR1 : frmRL ds d.params c.fields = eu := by rw [HT2.out, HS2.out, hq]; rfl
                    have hR2 : chkG1 ds d.params d.ctors = (eu, c.pos) := by rw [HT1.out, HS1.out, hR1, hq]; rfl
                    have HR : Hid (chkG ds ds = (eu, c.pos)) := by show _ = _; rw [HT.out, HSt.out, hR2]; simp [hq]
                    clear hq hR1 hR2
                    go_wp2_with (first
                      | (go_at_call 39; refine (HF.out _ HDr.out).mono ?_; rintro e w1 ⟨rfl, hb1⟩; have hbm := HBm.out.trans ((HDr.out.trans (hb1.mono HDr.out.size)).mono HBm.out.size); have HF4 := Lib.hid (HBx2.out.lift hbm); have c0' := (HCb.out.lift hbm).cell 0 _ rfl; have HB2 := Lib.hid (HL2.out.trans (hbm.mono HL2.out.size)); clear hb1 hbm s0)
                      | (refine wpList_storeC rfl _ _ rfl _ _ [.int .i64 eu, .int .i64 c.pos] HF4.out rfl rfl (flt_cells _ rfl) rfl (by intro u hu; simp at hu; rcases hu with rfl | rfl <;> rfl) ?_; intro w2 hB2 hg2 hs2))
                    have c0 := hB2.cell 0 _ rfl; have c1 := hB2.cell 1 _ rfl
                    refine bodyPost_ret (by simp [results, Try.results11, go_sem, c0, c1]; try rfl) rfl ?_
                    exact ⟨by rw [HK2.out, HR.out]; rfl, Below.grown HB2.out hg2 HB2.out.size (fun k hk => by have := Option.some.inj hk; omega)⟩
                · have hN : frmRL ds d.params c.fields = 0 := by
                    rw [HT2.out, List.drop_eq_nil_of_le (by rw [← HFl.out]; omega)]; rfl
                  have HR : Hid (chkG1 ds d.params d.ctors = chkG1 ds d.params (d.ctors.drop (k + 1))) := by show _ = _; rw [HT1.out, HS1.out, hN]; rfl
                  have HB2 := Lib.hid (HB2k.out.trans (HBm.out.mono HB2k.out.size))
                  clear hN
                  go_wp2
                  go_roundw
                  case rel => exact ⟨k + 1, hkt, by go_num, HR, HB2⟩
                  case measure => simp [intOf]; omega
            · have hN : chkG1 ds d.params d.ctors = (0, 0) := by
                rw [HT1.out, List.drop_eq_nil_of_le (by rw [← HCn.out]; omega)]; rfl
              have HR : Hid (chkG ds ds = chkG ds (ds.drop (i + 1))) := by show _ = _; rw [HT.out, HSt.out, hN]; rfl
              have HB2 := Lib.hid (HB.out.trans (HBk.out.mono HB.out.size))
              clear hN
              go_wp2
              go_roundw
              case rel => exact ⟨i + 1, hit, by go_num, HR, HB2⟩
              case measure => simp [intOf]; omega
        · have HR : Hid (chkG ds ds = (0, 0)) := by
            show _ = _
            rw [HT.out, List.drop_eq_nil_of_le (by rw [← HDn.out]; omega)]; rfl
          have hbx := HBx.out.lift HB.out
          have hlw := HLw.out.trans (HB.out.mono HLw.out.size)
          go_wp2_with (refine wpList_storeC rfl _ _ rfl _ _ [.int .i64 0, .int .i64 0] hbx rfl rfl (flt_cells _ rfl) rfl (by intro u hu; simp at hu; subst hu; rfl) ?_; intro w2 hB2 hg2 hs2)
          have c0 := hB2.cell 0 _ rfl; have c1 := hB2.cell 1 _ rfl
          refine bodyPost_ret (by simp [results, Try.results11, go_sem, c0, c1]; try rfl) rfl ?_
          exact ⟨by rw [HK2.out, HR.out]; rfl, Below.grown hlw hg2 hlw.size (fun k hk => by have := Option.some.inj hk; omega)⟩
end Go.Proofs.Ytafpngmfhajedaa
