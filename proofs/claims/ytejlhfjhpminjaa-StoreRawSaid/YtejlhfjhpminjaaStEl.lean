/- Stores: slots and entries of the trail as elements of rows; rows of zeros, and what is copied into them. -/
import Derived.Test.YtejlhfjhpminjaaStPl
import Derived.Test.YtejlhfjhpminjaaStRow
import Derived.Test.YtejlhfjhpminjaaTyCon
import Derived.Laws.CopyOwn
import Derived.Laws.MakeOwn
import Derived.OwnWalk
import Derived.Deep.MidRow
namespace Go.Proofs.Ytejlhfjhpminjaa
open Go.RowKit Go.Sort Go.Shelf Go.Maps Mth

theorem elInfo_slot : (Try.prog.info? 39).map (fun i => (i.zero, i.size, i.bytes)) = some (some (.agg #[.bool false, .int .i64 0, .string ByteArray.empty, .int .i64 0, .int .i64 0, .slice none 0 0, .int .i64 0, .bool false]), 8, 88) := by kernel_rfl
theorem elInfo_change : (Try.prog.info? 55).map (fun i => (i.zero, i.size, i.bytes)) = some (some (.agg #[.int .i64 0, .bool false, .int .i64 0, .string ByteArray.empty, .int .i64 0, .int .i64 0, .slice none 0 0, .int .i64 0, .bool false, .bool false]), 10, 104) := by kernel_rfl
theorem Rep.frm {w : World} {S : Nat → Prop} {T : Ty} {u : Value} (h : Rep w S T u) : ∃ n a m c, u = .agg #[.int .i64 T.k, .string n, .int .i64 T.i, .int .i64 T.h, .slice a m c] ∧ n = T.n ∧ m = T.ts.length := by
  obtain ⟨uk, un, ui, uh, us, eT, rfl, -, hus⟩ := h.open
  obtain ⟨ua, uc, rfl, -⟩ := hus
  refine ⟨un, ua, _, uc, ?_, ?_, rfl⟩
  · rw [eT]; rfl
  · rw [eT]; rfl
/-- Eight cells that stand for a slot. -/
def SltV (w : World) (S : Nat → Prop) (x : Slt) (c : List Value) : Prop := ∃ (k : Int) (n : ByteArray) (i h : Int) (sa : Option Addr) (sn sc : Nat), c = [.bool x.bound, .int .i64 k, .string n, .int .i64 i, .int .i64 h, .slice sa sn sc, .int .i64 x.home, .bool x.base] ∧ Rep w S x.ty (.agg #[.int .i64 k, .string n, .int .i64 i, .int .i64 h, .slice sa sn sc])
theorem SltV.kept {w w' : World} {S S' : Nat → Prop} {x : Slt} {c : List Value} (h1 : ∀ b, S b → S' b) (h2 : ∀ b, S b → b < w.heap.size → w'.heap[b]? = w.heap[b]?) (h : SltV w S x c) : SltV w' S' x c := by
  obtain ⟨k, n, i, hm, sa, sn, sc, e, hr⟩ := h
  exact ⟨k, n, i, hm, sa, sn, sc, e, hr.kept h1 h2⟩
theorem SltV.bound {w : World} {S : Nat → Prop} {x : Slt} {c : List Value} (h : SltV w S x c) : SltV w (fun b => S b ∧ b < w.heap.size) x c := by
  obtain ⟨k, n, i, hm, sa, sn, sc, e, hr⟩ := h
  exact ⟨k, n, i, hm, sa, sn, sc, e, hr.bound⟩
theorem SltV.imp {w : World} {S S' : Nat → Prop} {x : Slt} {c : List Value} (h1 : ∀ b, S b → S' b) (h : SltV w S x c) : SltV w S' x c := h.kept h1 fun _ _ _ => rfl
theorem SltV.lift {w w' : World} {S : Nat → Prop} {x : Slt} {c : List Value} (h : SltV w S x c) (hb : Below w.heap.size w w') : SltV w' S x c := h.kept (fun _ h => h) fun b _ hl => hb.block b hl
def SltE : El Slt where
  k := 8
  by_ := 88
  e := 39
  t := 24
  rep w S x c := SltV w S x c
  hk := by decide
  und := Try.underlying24
  info := by obtain ⟨i, h0, h1, h2, h3⟩ := info_parts elInfo_slot; exact ⟨i, _, h0, h1, h2, h3, rfl⟩
  hby := by decide
  len h := by
    obtain ⟨k, n, i, hm, sa, sn, sc, rfl, -⟩ := h
    exact ⟨rfl, by intro u hu; simp at hu; rcases hu with rfl | rfl | rfl | rfl | rfl | rfl | rfl | rfl <;> rfl⟩
  kept h1 h2 h := h.kept h1 h2
  bound h := h.bound
def ChgE : El Chg where
  k := 10
  by_ := 104
  e := 55
  t := 25
  rep w S x c := ∃ d, c = .int .i64 x.id :: (d ++ [.bool x.new]) ∧ SltV w S x.old d
  hk := by decide
  und := Try.underlying25
  info := by obtain ⟨i, h0, h1, h2, h3⟩ := info_parts elInfo_change; exact ⟨i, _, h0, h1, h2, h3, rfl⟩
  hby := by decide
  len h := by
    obtain ⟨d, rfl, k, n, i, hm, sa, sn, sc, rfl, -⟩ := h
    exact ⟨rfl, by intro u hu; simp at hu; rcases hu with rfl | rfl | rfl | rfl | rfl | rfl | rfl | rfl | rfl | rfl <;> rfl⟩
  kept h1 h2 h := by
    obtain ⟨d, e, h⟩ := h
    exact ⟨d, e, h.kept h1 h2⟩
  bound h := by
    obtain ⟨d, e, h⟩ := h
    exact ⟨d, e, h.bound⟩
/-- The zero of a kind of elements. -/
structure Zr {α : Type} (E : El α) (zc : List Value) (z0 : α) : Prop where
  info : ∃ i z, Try.prog.info? E.e = some i ∧ i.zero = some z ∧ z.cells = zc.toArray
  len : zc.length = E.k
  rep : ∀ w S, E.rep w S z0 zc
def slC : List Value := [.bool false, .int .i64 0, .string ⟨#[]⟩, .int .i64 0, .int .i64 0, .slice none 0 0, .int .i64 0, .bool false]
def chC : List Value := [.int .i64 0, .bool false, .int .i64 0, .string ⟨#[]⟩, .int .i64 0, .int .i64 0, .slice none 0 0, .int .i64 0, .bool false, .bool false]
def chZ : Chg := ⟨0, slZ, false⟩
theorem sltV_zero (w : World) (S : Nat → Prop) (home : Int) (base : Bool) : SltV w S ⟨false, zTy, home, base⟩ [.bool false, .int .i64 0, .string ⟨#[]⟩, .int .i64 0, .int .i64 0, .slice none 0 0, .int .i64 home, .bool base] := ⟨0, ⟨#[]⟩, 0, 0, none, 0, 0, rfl, rep_leaf _ _ 0 ⟨#[]⟩ 0 0 (Nat.zero_le _)⟩
theorem zr_slt : Zr SltE slC slZ := ⟨by obtain ⟨i, h0, h1, h2, h3⟩ := info_parts elInfo_slot; exact ⟨i, _, h0, h1, rfl⟩, rfl, fun w S => sltV_zero w S 0 false⟩
theorem zr_chg : Zr ChgE chC chZ := ⟨by obtain ⟨i, h0, h1, h2, h3⟩ := info_parts elInfo_change; exact ⟨i, _, h0, h1, rfl⟩, rfl, fun w S => ⟨_, rfl, sltV_zero w S 0 false⟩⟩

theorem flat_rep (L : List Value) (k : Nat) (hk : L.length = k) : ∀ n j : Nat, (List.replicate n L).flatten[j]? = if j < n * k then L[j % k]? else none := by
  intro n
  induction n with
  | zero => intro j; simp
  | succ n ih =>
    intro j
    rw [List.replicate_succ, List.flatten_cons]
    by_cases h : j < k
    · rw [List.getElem?_append_left (by omega), Nat.mod_eq_of_lt h, if_pos (by rw [Nat.succ_mul]; omega)]
    · rw [List.getElem?_append_right (by omega), ih, hk, show j % k = (j - k) % k from by rw [← Nat.mod_eq_sub_mod (by omega)]]
      congr 1
      rw [Nat.succ_mul]
      simp only [eq_iff_iff]
      omega
theorem made_rep (zc : List Value) (k : Nat) (hk : zc.length = k) (h0 : 0 < k) (n : Nat) : (madeCells zc.toArray (n * k)).toList = (List.replicate n zc).flatten := by
  apply List.ext_getElem?
  intro j
  rw [flat_rep _ k hk]
  by_cases hj : j < n * k
  · rw [if_pos hj]
    have h5 : j % k < zc.length := by rw [hk]; exact Nat.mod_lt _ h0
    subst hk
    simp [madeCells, hj, List.getElem?_eq_getElem h5]
  · simp [madeCells, hj]
/-- 'make([]T, n)': a block of zeros. -/
theorem wpList_makeZ {w : World} {ops : Array Oper} {rest : List Oper} {o : Oper} {a : Act} {Q : Exit → Act → World → Prop} {α : Type} {E : El α} {zc : List Value} {z0 : α} (hz : Zr E zc z0) (hgd : o.guard = none) (l c : Operand) (ho : o.op = Op.makeSlice E.t l c) (n : Nat) (N : Int) (hl : a.eval l = .int .i64 N) (hc : a.eval c = .int .i64 N) (hN : N = (n : Int)) (hn : n ≤ 1000000)
    (hK : ∀ cur : Array Value, cur.toList = (List.replicate n zc).flatten → wpList Try.prog ops Q rest (a.put o.dst (.slice (some ⟨w.heap.size, 0, none⟩) n n)) (w.alloc (.cells cur E.e))) : wpList Try.prog ops Q (o :: rest) a w := by
  subst hN
  obtain ⟨i, z, hi, hzz, hzc⟩ := hz.info
  obtain ⟨i', z', hi', hz', hk, hby, hzs⟩ := E.info
  rw [hi] at hi'
  cases hi'
  rw [hzz] at hz'
  cases hz'
  have hE := E.hby
  have hbb : i.bytes * n ≤ 1000 * 1000000 := Nat.mul_le_mul (by rw [hby]; exact hE) hn
  have hbi : (i.bytes : Int) * (n : Int) ≤ 281474976710656 := by rw [← Int.natCast_mul]; omega
  have hrun := run_make (P := Try.prog) w E.t E.e i z E.und hi hzz .i64 .i64 (n : Int) (n : Int) (by omega) (by omega) hbi (by omega)
  simp only [Int.toNat_natCast] at hrun
  refine wpList_plain hgd fun K hK' => ?_
  unfold Oper.wp
  simp [execOp, ho, hl, hc, hrun, Result.andThen]
  exact hK' _ _ (hK _ (by rw [hk, hzc]; exact made_rep zc E.k hz.len E.hk n))
theorem run_copyG (w : World) (dT sT ty elem : TypeId) (k n g dLen dCap : Nat) (a : Addr) (sLen sCap : Nat) (cur : Array Value) (t : TypeId) (cs : List Value)
    (hu : Try.prog.underlying dT = some (.slice elem)) (hs : (Try.prog.info? elem).map (·.size) = some k)
    (hg : w.heap[g]? = some (.cells cur t (0, 0))) (hn : n = Nat.min sLen dLen) (hcl : cs.length = n * k)
    (hsrc : ∀ j v, cs[j]? = some v → w.cell? (a.add j) = some v) (hfit : cs.length ≤ cur.size) (h1 : ∀ v ∈ cs, v.oneCell' = true) :
    (Builtin.copy_ #[dT, sT] ty #[.slice (some ⟨g, 0, none⟩) dLen dCap, .slice (some a) sLen sCap]).run Try.prog w =
      .ok (goInt n) (w.setRow g (cs ++ cur.toList.drop cs.length).toArray) := by
  have hl := run_loadCells_list (P := Try.prog) w a cs hsrc
  have hst := run_storeCells_at Try.prog g 0 t cs 0 cur w hg (by simpa using hfit) h1
  simp only [Nat.zero_add, List.take_zero, List.nil_append] at hst
  cases hq : Try.prog.info? elem with
  | none => simp [hq] at hs
  | some i =>
    have hi : i.size = k := by simpa [hq] using hs
    rw [hcl] at hl
    simp [Builtin.copy_, run_underlying hu, Builtin.lenOf, Builtin.firstCells, sizeOf, typeInfo, hq, hi, ← hn, hl, hst]
theorem run_copyN (w : World) (dT sT ty elem : TypeId) (d : Option Addr) (dLen dCap c : Nat) (hu : Try.prog.underlying dT = some (.slice elem)) (hs : ((Try.prog.info? elem).map (·.size)).isSome = true) :
    (Builtin.copy_ #[dT, sT] ty #[.slice d dLen dCap, .slice none 0 c]).run Try.prog w = .ok (goInt 0) w := by
  cases hq : Try.prog.info? elem with
  | none => simp [hq] at hs
  | some i => cases d <;> simp [Builtin.copy_, run_underlying hu, Builtin.lenOf, Builtin.firstCells, sizeOf, typeInfo, hq, storeCells]
/-- A list is copied to the head of a block of zeros. -/
theorem wpList_copyZ {w : World} {ops : Array Oper} {rest : List Oper} {o : Oper} {a : Act} {Q : Exit → Act → World → Prop} {α : Type} {E : El α} {zc : List Value} {z0 : α} (hz : Zr E zc z0) (hgd : o.guard = none) (d s : Operand)
    (ho : o.op = .call { callee := .builtin .copy, args := #[d, s], argTypes := #[E.t, E.t] }) (xs : List α) (n m g : Nat) (hn : n = xs.length) (hd : a.eval d = .slice (some ⟨g, 0, none⟩) m m) (cur : Array Value) (hg : w.heap[g]? = some (.cells cur E.e (0, 0))) (hcs : cur.toList = (List.replicate m zc).flatten) (hm : m ≤ 1000000) (hnm : n ≤ m)
    (la : Option Addr) (lc : Nat) (hs : a.eval s = .slice la n lc) (S : Nat → Prop) (hsl : SlG E w S xs (.slice la n lc)) (hS : ∀ b, S b → b ≠ g) (base : Nat) (hbg : base ≤ g)
    (hK : ∀ (u : Value) (w' : World), RowG E w' base S (.slice (some ⟨g, 0, none⟩) m m) (xs ++ List.replicate (m - n) z0) → w.grownBy w' (some g) → wpList Try.prog ops Q rest (a.put o.dst u) w') :
    wpList Try.prog ops Q (o :: rest) a w := by
  subst hn
  obtain ⟨i, z, hi, hzz, hk, hby, hzs⟩ := E.info
  have hmx : m ≤ maxLen := by unfold maxLen; omega
  have hzl := hz.len
  have hcz : cur.size = m * E.k := by rw [← Array.length_toList, hcs, flat_len E.k _ (fun c hc => by rw [(List.mem_replicate.1 hc).2]; exact hzl)]; simp
  have hrz : ∀ w' S', ∀ (j : Nat) (x : α), (List.replicate (m - xs.length) z0)[j]? = some x → ∃ c : List Value, (List.replicate (m - xs.length) zc)[j]? = some c ∧ E.rep w' S' x c := fun w' S' j x hj => by
    rw [List.getElem?_replicate] at hj ⊢
    split at hj
    · cases hj; next h => exact ⟨zc, by rw [if_pos h], hz.rep _ _⟩
    · cases hj
  have hlen : (xs ++ List.replicate (m - xs.length) z0).length = m := by simp; omega
  obtain ⟨la', lc', e, hc, hj⟩ := hsl
  cases e
  cases la with
  | none =>
    have hn : xs = [] := by
      cases xs with
      | nil => rfl
      | cons y l => obtain ⟨ad, c, e, -⟩ := hj 0 y rfl; cases e
    subst hn
    have hrun := run_copyN w E.t E.t o.type E.e (some ⟨g, 0, none⟩) m m lc E.und (by rw [hi]; rfl)
    refine wpList_plain hgd fun K hK' => ?_
    unfold Oper.wp
    simp only [List.length_nil] at hd hs
    simp [execOp, ho, resolve, invoke, builtin, hd, hs, hrun, Result.andThen]
    refine hK' _ _ (hK _ w ?_ ⟨rfl, rfl, rfl, Nat.le_refl _, fun _ _ _ => rfl⟩)
    refine ⟨List.replicate m zc, ?_, by simp, fun j x hx => ?_⟩
    · rw [List.nil_append, List.length_nil, Nat.sub_zero, List.length_replicate, ← hcs]
      refine ⟨by simpa using hcz, .inr ⟨g, m, cur, rfl, hbg, hg, Nat.le_refl _, hmx, hcz, by rw [← hcz]; exact List.take_of_length_le (by simp)⟩⟩
    · simp only [List.nil_append] at hx
      obtain ⟨c, h1, h2⟩ := hrz w (fun b => S b ∧ some b ≠ Value.ownBlock (.slice (some ⟨g, 0, none⟩) m m)) j x hx
      exact ⟨c, by simpa using h1, h2⟩
  | some ad =>
    obtain ⟨L, hL1, hL2, hL3⟩ := cells_ofG E (S := S) (xs := xs) (ad := ad) (w := w) fun j x hx => by
      obtain ⟨ad', c, e, -, h3, h4⟩ := hj j x hx
      cases e
      exact ⟨c, h3, h4⟩
    have hLk := rowG_len hL1 hL2
    have hfl : L.flatten.length = xs.length * E.k := by rw [flat_len E.k L fun c h => (hLk c h).1, hL1]
    have hfit : L.flatten.length ≤ cur.size := by rw [hfl, hcz]; exact Nat.mul_le_mul_right _ hnm
    have h1 : ∀ u ∈ L.flatten, u.oneCell' = true := fun u hu => by
      obtain ⟨c', hc', hu'⟩ := List.mem_flatten.1 hu
      exact (hLk c' hc').2 u hu'
    have hdrop : cur.toList.drop L.flatten.length = (List.replicate (m - xs.length) zc).flatten := by
      rw [hcs, hfl]
      have e : List.replicate m zc = List.replicate xs.length zc ++ List.replicate (m - xs.length) zc := by rw [List.replicate_append_replicate]; congr 1; omega
      rw [e, List.flatten_append]
      have h2 : (List.replicate xs.length zc).flatten.length = xs.length * E.k := by rw [flat_len E.k _ (fun c hc => by rw [(List.mem_replicate.1 hc).2]; exact hzl)]; simp
      rw [← h2, List.drop_left]
    have htl : (L.flatten ++ cur.toList.drop L.flatten.length).length = m * E.k := by rw [List.length_append, List.length_drop, Array.length_toList, ← hcz]; exact Nat.add_sub_of_le hfit
    have hfa : L.flatten ++ cur.toList.drop L.flatten.length = (L ++ List.replicate (m - xs.length) zc).flatten := by rw [hdrop, List.flatten_append]
    have hrun := run_copyG w E.t E.t o.type E.e E.k xs.length g m m ad xs.length lc cur E.e L.flatten E.und (by rw [hi]; simpa using hk) hg (Nat.min_eq_left hnm).symm hfl (fun j u hu => hL3 j u hu) hfit h1
    have hrow := setRow_heap w g cur (L.flatten ++ cur.toList.drop L.flatten.length).toArray E.e (0, 0) hg
    have hgr : w.grownBy (w.setRow g (L.flatten ++ cur.toList.drop L.flatten.length).toArray) (some g) := ⟨rfl, rfl, rfl, by simp [World.setRow], fun k _ hk => setRow_other w g k _ (fun e => hk (by rw [e]))⟩
    generalize L.flatten ++ cur.toList.drop L.flatten.length = F at *
    refine wpList_plain hgd fun K hK' => ?_
    unfold Oper.wp
    simp [execOp, ho, resolve, invoke, builtin, hd, hs, hrun, Result.andThen]
    refine hK' _ _ (hK _ _ ⟨L ++ List.replicate (m - xs.length) zc, ?_, by simp [hL1], fun j x hx => ?_⟩ hgr)
    · rw [hlen, ← hfa]
      exact ⟨htl, .inr ⟨g, m, _, rfl, hbg, hrow, Nat.le_refl _, hmx, by simpa using htl, by rw [← htl]; exact List.take_length⟩⟩
    · have hup : ∀ x c, E.rep w S x c → E.rep (w.setRow g F.toArray) (fun b => S b ∧ some b ≠ Value.ownBlock (.slice (some ⟨g, 0, none⟩) m m)) x c := fun x c hr => E.kept (fun b hb => ⟨hb, fun e => hS b hb (Option.some.inj e)⟩) (fun b hb hl => hgr.block b hl (fun e => hS b hb (Option.some.inj e))) hr
      by_cases hjl : j < xs.length
      · rw [List.getElem?_append_left hjl] at hx
        obtain ⟨c, hc', hr⟩ := hL2 j x hx
        exact ⟨c, by rw [List.getElem?_append_left (by omega)]; exact hc', hup _ _ hr⟩
      · rw [List.getElem?_append_right (by omega)] at hx
        obtain ⟨c, hc', hr⟩ := hrz _ _ _ x hx
        exact ⟨c, by rw [List.getElem?_append_right (by omega), hL1]; exact hc', hr⟩
end Go.Proofs.Ytejlhfjhpminjaa
