import Derived.Test.YtljgpgmaceackaaQX09
import Derived.Test.YtljgpgmaceackaaQX04
import Derived.Laws.CopyOwn
import Derived.Laws.MakeOwn
import Derived.Test.YtljgpgmaceackaaQX10
import Derived.Test.YtljgpgmaceackaaQX01
/- A slice made with room for more, the first elements copied in; the package's Children. -/
namespace Go.Proofs.Ytljgpgmaceackaa
open Go.RowKit Go.Maps Mth S3

theorem wpList_makeC {w : World} {ops : Array Oper} {rest : List Oper} {o : Oper} {a : Act} {Q : Exit → Act → World → Prop} {α : Type} (E : El α) (hgd : o.guard = none) (l c : Operand) (ho : o.op = Op.makeSlice E.t l c) (n m : Nat) (hl : a.eval l = .int .i64 n) (C : Int) (hc : a.eval c = .int .i64 C) (hC : C = (m : Int)) (hnm : n ≤ m) (hm : m ≤ 1000000)
    (hK : ∀ cur : Array Value, cur.size = m * E.k → wpList Try.prog ops Q rest (a.put o.dst (.slice (some ⟨w.heap.size, 0, none⟩) n m)) (w.alloc (.cells cur E.e))) : wpList Try.prog ops Q (o :: rest) a w := by
  subst hC
  obtain ⟨i, z, hi, hz, hk, hby, hzs⟩ := E.info
  have hE := E.hby
  have hbb : i.bytes * m ≤ 1000 * 1000000 := Nat.mul_le_mul (by rw [hby]; exact hE) hm
  have hbi : (i.bytes : Int) * (m : Int) ≤ 281474976710656 := by rw [← Int.natCast_mul]; omega
  have hrun := run_make (P := Try.prog) w E.t E.e i z E.und hi hz .i64 .i64 (n : Int) (m : Int) (by omega) (by omega) hbi (by omega)
  simp only [Int.toNat_natCast] at hrun
  refine wpList_plain hgd fun K hK' => ?_
  unfold Oper.wp
  simp [execOp, ho, hl, hc, hrun, Result.andThen]
  exact hK' _ _ (hK _ (by rw [size_madeCells, hk]))
theorem run_copyG (w : World) (dT sT ty elem : TypeId) (k n g dLen dCap : Nat) (a : Addr) (sLen sCap : Nat) (cur : Array Value) (t : TypeId) (cs : List Value)
    (hu : Try.prog.underlying dT = some (.slice elem)) (hs : (Try.prog.info? elem).map (·.size) = some k)
    (hg : w.heap[g]? = some (.cells cur t (0, 0))) (hn : n = Nat.min sLen dLen) (hcl : cs.length = n * k)
    (hsrc : ∀ j v, cs[j]? = some v → w.cell? (a.add j) = some v) (hfit : cs.length ≤ cur.size) (h1 : ∀ v ∈ cs, v.oneCell' = true) :
    (Builtin.copy_ #[dT, sT] ty #[.slice (some ⟨g, 0, none⟩) dLen dCap, .slice (some a) sLen sCap]).run Try.prog w =
      .ok (goInt n) (w.setRow g (cs ++ cur.toList.drop cs.length).toArray) := by
  have hl := run_loadCells_list (P := Try.prog) w a cs hsrc
  have hst := run_storeCells_at Try.prog g 0 t cs 0 cur w hg (by simpa using hfit) h1
  simp only [Nat.zero_add, List.take_zero, List.nil_append] at hst
  cases hq : Try.prog.info? elem with
  | none => simp [hq] at hs
  | some i =>
    have hi : i.size = k := by simpa [hq] using hs
    rw [hcl] at hl
    simp [Builtin.copy_, run_underlying hu, Builtin.lenOf, Builtin.firstCells, sizeOf, typeInfo, hq, hi, ← hn, hl, hst]
theorem run_copyN (w : World) (dT sT ty elem : TypeId) (d : Option Addr) (dLen dCap c : Nat) (hu : Try.prog.underlying dT = some (.slice elem)) (hs : ((Try.prog.info? elem).map (·.size)).isSome = true) :
    (Builtin.copy_ #[dT, sT] ty #[.slice d dLen dCap, .slice none 0 c]).run Try.prog w = .ok (goInt 0) w := by
  cases hq : Try.prog.info? elem with
  | none => simp [hq] at hs
  | some i => cases d <;> simp [Builtin.copy_, run_underlying hu, Builtin.lenOf, Builtin.firstCells, sizeOf, typeInfo, hq, storeCells]
/-- The elements of a list copied to the head of a new row that has room for them. -/
theorem wpList_copyG {w : World} {ops : Array Oper} {rest : List Oper} {o : Oper} {a : Act} {Q : Exit → Act → World → Prop} {α : Type} (E : El α) (hgd : o.guard = none) (d s : Operand)
    (ho : o.op = .call { callee := .builtin .copy, args := #[d, s], argTypes := #[E.t, E.t] }) (xs : List α) (m g : Nat) (hd : a.eval d = .slice (some ⟨g, 0, none⟩) xs.length m) (cur : Array Value) (hg : w.heap[g]? = some (.cells cur E.e (0, 0))) (hcs : cur.size = m * E.k) (hm : m ≤ 1000000) (hnm : xs.length ≤ m)
    (lv : Value) (hs : a.eval s = lv) (S : Nat → Prop) (hsl : SlG E w S xs lv) (hS : ∀ b, S b → b ≠ g) (base : Nat) (hbg : base ≤ g)
    (hK : ∀ (u : Value) (w' : World), RowG E w' base S (.slice (some ⟨g, 0, none⟩) xs.length m) xs → w.grownBy w' (some g) → wpList Try.prog ops Q rest (a.put o.dst u) w') :
    wpList Try.prog ops Q (o :: rest) a w := by
  obtain ⟨i, z, hi, hz, hk, hby, hzs⟩ := E.info
  obtain ⟨la, lc, rfl, hc, hj⟩ := hsl
  have hmx : m ≤ maxLen := by unfold maxLen; omega
  cases la with
  | none =>
    have hn : xs = [] := by
      cases xs with
      | nil => rfl
      | cons y l => obtain ⟨ad, c, e, -⟩ := hj 0 y rfl; cases e
    subst hn
    have hrun := run_copyN w E.t E.t o.type E.e (some ⟨g, 0, none⟩) 0 m lc E.und (by rw [hi]; rfl)
    refine wpList_plain hgd fun K hK' => ?_
    unfold Oper.wp
    simp only [List.length_nil] at hd hs
    simp [execOp, ho, resolve, invoke, builtin, hd, hs, hrun, Result.andThen]
    refine hK' _ _ (hK _ w ⟨[], ⟨by simp, .inr ⟨g, m, cur, rfl, hbg, hg, Nat.zero_le _, hmx, hcs, by simp⟩⟩, rfl, fun j x hx => by simp at hx⟩ ⟨rfl, rfl, rfl, Nat.le_refl _, fun _ _ _ => rfl⟩)
  | some ad =>
    obtain ⟨L, hL1, hL2, hL3⟩ := cells_ofG E (S := S) (xs := xs) (ad := ad) (w := w) fun j x hx => by
      obtain ⟨ad', c, e, -, h3, h4⟩ := hj j x hx
      cases e
      exact ⟨c, h3, h4⟩
    have hLk := rowG_len hL1 hL2
    have hfl : L.flatten.length = xs.length * E.k := by rw [flat_len E.k L fun c h => (hLk c h).1, hL1]
    have hfit : L.flatten.length ≤ cur.size := by rw [hfl, hcs]; exact Nat.mul_le_mul_right _ hnm
    have h1 : ∀ u ∈ L.flatten, u.oneCell' = true := fun u hu => by
      obtain ⟨c', hc', hu'⟩ := List.mem_flatten.1 hu
      exact (hLk c' hc').2 u hu'
    obtain ⟨F, hF⟩ : ∃ F, F = L.flatten := ⟨_, rfl⟩
    rw [← hF] at hfl hfit h1 hL3
    have hrun := run_copyG w E.t E.t o.type E.e E.k xs.length g xs.length m ad xs.length lc cur E.e F E.und (by rw [hi]; simpa using hk) hg (Nat.min_self _).symm hfl (fun j u hu => hL3 j u hu) hfit h1
    have hrow := setRow_heap w g cur (F ++ cur.toList.drop F.length).toArray E.e (0, 0) hg
    have hgr : w.grownBy (w.setRow g (F ++ cur.toList.drop F.length).toArray) (some g) := ⟨rfl, rfl, rfl, by simp [World.setRow], fun k _ hk => setRow_other w g k _ (fun e => hk (by rw [e]))⟩
    refine wpList_plain hgd fun K hK' => ?_
    unfold Oper.wp
    simp [execOp, ho, resolve, invoke, builtin, hd, hs, hrun, Result.andThen]
    refine hK' _ _ (hK _ _ ⟨L, ⟨by rw [← hF]; exact hfl, .inr ⟨g, m, _, rfl, hbg, hrow, hnm, hmx, ?_, ?_⟩⟩, hL1, fun j x hx => ?_⟩ hgr)
    · simp only [List.size_toArray, List.length_append, List.length_drop, Array.length_toList]
      omega
    · rw [← hfl, ← hF]; simp
    · obtain ⟨c, hc', hr⟩ := hL2 j x hx
      exact ⟨c, hc', E.kept (fun b hb => ⟨hb, fun e => hS b hb (Option.some.inj e)⟩) (fun b hb hl => hgr.block b hl (fun e => hS b hb (Option.some.inj e))) hr⟩
end Go.Proofs.Ytljgpgmaceackaa

/- The package's Children. -/
namespace Go.Proofs.Ytljgpgmaceackaa
open Go.RowKit Go.Maps Mth S3

/-- The parts of an expression. -/
def chN (T : Ex) : List Ex := T.kids ++ T.arms.map (·.2)
theorem body_repC {w V : World} {S : Nat → Prop} {v : Value} {T : Ex} {c : List Value} (h : RepE V S T c) (hb : Below V.heap.size V w) (hv : ∀ k, v.ownBlock = some k → V.heap.size ≤ k) (o : Obj) : RepE (w.alloc o) (fun b => (S b ∧ b < V.heap.size) ∧ some b ≠ v.ownBlock) T c := by
  have h1 := h.bound.kept (S' := fun b => (S b ∧ b < V.heap.size) ∧ some b ≠ v.ownBlock) (fun g hg => ⟨hg, fun e => by have := hv g e.symm; have := hg.2; omega⟩) (fun g hg _ => hb.block g hg.2)
  exact h1.lift ((Below.refl _ w).alloc (Nat.le_refl _) o)
set_option maxRecDepth 100000 in
set_option maxHeartbeats 6400000 in
theorem pkChildren_any (T : Ex) (hkl : T.kids.length ≤ 100000) (hal : T.arms.length ≤ 100000) (S : Nat → Prop) (c : List Value) (w : World) (h : RepE w S T c) :
    Calls Try.prog 33 #[.agg c.toArray] w fun e w' => ∃ a cp, e = .returned (.slice a (chN T).length cp) ∧ RowG ExE w' (w.heap.size + 1) (fun b => S b ∧ b < w.heap.size) (.slice a (chN T).length cp) (chN T) ∧ Below w.heap.size w w' := by
  obtain ⟨kv, av, tc0, hc0, -, hk, ha, -⟩ := h.open
  obtain ⟨ka, kc, aa, ac, tk, tn, ti, th, ta, tl, tc, rfl⟩ := h.form
  simp only [List.cons.injEq] at hc0
  obtain ⟨-, -, -, -, rfl, rfl, -⟩ := hc0
  have hba : Below w.heap.size w (w.alloc (.cells #[.int .i64 T.k, .int .i64 T.p, .string T.n, .int .i64 T.m, .slice ka T.kids.length kc, .slice aa T.arms.length ac, .int .i64 tk, .string tn, .int .i64 ti, .int .i64 th, .slice ta tl tc] 36)) := (Below.refl _ w).alloc (Nat.le_refl _) _
  have HB0 := Lib.hid (BoxC.made 36 w [.int .i64 T.k, .int .i64 T.p, .string T.n, .int .i64 T.m, .slice ka T.kids.length kc, .slice aa T.arms.length ac, .int .i64 tk, .string tn, .int .i64 ti, .int .i64 th, .slice ta tl tc])
  have HK := Lib.hid (hk.bound.kept (fun _ h => h) (fun b _ hl => hba.block b hl))
  have HA := Lib.hid (ha.bound.kept (fun _ h => h) (fun b _ hl => hba.block b hl))
  have HBa := Lib.hid hba
  have hsz : (w.alloc (.cells #[.int .i64 T.k, .int .i64 T.p, .string T.n, .int .i64 T.m, .slice ka T.kids.length kc, .slice aa T.arms.length ac, .int .i64 tk, .string tn, .int .i64 ti, .int .i64 th, .slice ta tl tc] 36)).heap.size = w.heap.size + 1 := by simp
  have HSz := Lib.hid hsz
  obtain ⟨n, hn⟩ : ∃ n, n = T.arms.length := ⟨_, rfl⟩
  have HN := Lib.hid hn
  rw [← hn] at hal HB0 HK HA HBa HSz ⊢
  clear h hk ha hba hn hsz
  simp only [List.toArray] at HB0 ⊢
  go_enter Try.func33, Try.ntmps33
  go_upto_region 1 with fail
  generalize (w.alloc (.cells #[.int .i64 T.k, .int .i64 T.p, .string T.n, .int .i64 T.m, .slice ka T.kids.length kc, .slice aa n ac, .int .i64 tk, .string tn, .int .i64 ti, .int .i64 th, .slice ta tl tc] 36)) = V at *
  obtain ⟨b0, b1, b2, b3, b4, b5, b6, b7, b8, b9, b10⟩ := bx11 HB0.out
  have hVw : V.heap.size = w.heap.size + 1 := HSz.out
  go_upto_region 2 with (at_make; refine wpList_makeC ExE rfl _ _ rfl T.kids.length (T.kids.length + n) rfl _ rfl (by omega) (by omega) (by omega) ?_; intro cur hcur; have HCur := Lib.hid hcur; clear hcur)
  have hal1 : Below V.heap.size V (V.alloc (.cells cur ExE.e)) := (Below.refl _ V).alloc (Nat.le_refl _) _
  have HK1 := Lib.hid (HK.out.kept (S' := fun b => S b ∧ b < w.heap.size) (fun _ h => h) (fun b _ hl => hal1.block b hl))
  have HG1 : Hid ((V.alloc (.cells cur ExE.e)).heap[w.heap.size + 1]? = some (.cells cur ExE.e (0, 0))) := by show _ = _; rw [← hVw]; exact heap_alloc_new V _
  have HB1 := Lib.hid (HB0.out.lift hal1)
  have hbv : Below w.heap.size w (V.alloc (.cells cur ExE.e)) := HBa.out.trans (hal1.mono HBa.out.size)
  have HV1 := Lib.hid hbv
  have hb4 := HB1.out.cell 4 _ rfl
  have hb5 := HB1.out.cell 5 _ rfl
  clear b0 b1 b2 b3 b4 b5 b6 b7 b8 b9 b10 HK hal1 hbv
  generalize (V.alloc (.cells cur ExE.e)) = V1 at *
  go_upto_region 3 with (refine wpList_copyG ExE rfl _ _ rfl T.kids (T.kids.length + n) (w.heap.size + 1) rfl cur HG1.out HCur.out (by omega) (by omega) (.slice ka T.kids.length kc) rfl (fun b => S b ∧ b < w.heap.size) HK1.out (fun b hb => by have := hb.2; omega) (w.heap.size + 1) (Nat.le_refl _) ?_; intro u20 V2 hrow hg; have HRow0 := Lib.hid hrow; have HG2 := Lib.hid hg; clear hrow hg)
  have HB2 := Lib.hid (HB1.out.grown HG2.out (by intro e; have := Option.some.inj e; omega))
  have HV2 : Hid (Below w.heap.size w V2) := Below.grown HV1.out HG2.out HV1.out.size (fun k hk => by have := Option.some.inj hk; omega)
  have HA2 := Lib.hid ((HA.out.kept (S' := fun b => S b ∧ b < w.heap.size) (fun _ h => h) (fun b hb hl => (HV2.out.block b hb.2).trans (HBa.out.block b hb.2).symm)))
  have HZ2 : Hid (w.heap.size + 1 ≤ V2.heap.size) := by have h1 := HG2.out.size; have h2 := (Array.getElem?_eq_some_iff.1 HG1.out).1; show _ ≤ _; omega
  clear hb4 hb5 HG1 HB1 HV1 HK1 HG2 HCur HA HB0 HBa HSz hVw
  have b5 := HB2.out.cell 5 _ rfl
  have HRf : Hid (Below V2.heap.size V2 V2) := Below.refl _ _
  go_wp2
  go_loopw [3, 24] (fun y i wr => ∃ (j : Nat) (l : List Ex) (sa : Option Addr) (sc : Nat), j ≤ n ∧ i = .int .i64 j ∧ y = .slice sa l.length sc ∧ l.length ≤ 100000 + j ∧ Hid (l = T.kids ++ (T.arms.take j).map (·.2)) ∧ Hid (RowG ExE wr (w.heap.size + 1) (fun b => S b ∧ b < w.heap.size) (.slice sa l.length sc) l) ∧ Hid (Below w.heap.size w wr) ∧ Hid (w.heap.size + 1 ≤ wr.heap.size)) (fun _ i _ => n - (intOf i).toNat)
  case atStart => exact ⟨0, T.kids, _, _, Nat.zero_le _, rfl, rfl, by omega, by show _ = _; simp, HRow0, HV2, HZ2⟩
  case round =>
    clear HRow0 HZ2 HRf
    obtain ⟨j, l, sa, sc, hj, rfl, rfl, hll, HL, HRow, HBr, HZ⟩ := hrel
    by_cases hlt : j < n
    · obtain ⟨A, hA⟩ : ∃ x, T.arms[j]? = some x := ⟨_, List.getElem?_eq_getElem (by rw [← HN.out]; exact hlt)⟩
      obtain ⟨ad, cc, had, hSa, ⟨vv, cb, rfl, hvv, hrepb⟩, hc0, hcm⟩ := slG_get HA2.out hA
      subst had
      obtain ⟨va, vc, rfl, -⟩ := slice_form hvv
      have HLt : Hid ((T.arms.take (j + 1)).map (·.2) = (T.arms.take j).map (·.2) ++ [A.2]) := by show _ = _; rw [List.take_add_one, hA]; simp
      have hrepw : RepE w (fun b => S b ∧ b < w.heap.size) A.2 cb := hrepb.kept (fun _ h => h) (fun b hb _ => (HV2.out.block b hb.2).symm)
      have HRepB := Lib.hid hrepw
      obtain ⟨kb, kd, ab, ae, uk, un, ui, uh, ua, ul, uc, rfl⟩ := hrepb.form
      generalize A.1.vars.length = vn at *
      rw [show AmE.k = 14 from rfl] at hc0 hcm
      have hkp : ∀ p u, V2.cell? p = some u → p.block < w.heap.size → wr.cell? p = some u := fun p u h hl => by
        rw [HBr.out.cell hl, ← HV2.out.cell hl]; exact h
      have hadb : (ad.add (j * 14)).block < w.heap.size := by rw [add_block]; exact hSa.2
      have q0 := hkp _ _ (hc0 _ rfl) hadb
      have q1 := hkp _ _ (hcm 1 _ (by decide) rfl) hadb
      have q2 := hkp _ _ (hcm 2 _ (by decide) rfl) hadb
      have q3 := hkp _ _ (hcm 3 _ (by decide) rfl) hadb
      have q4 := hkp _ _ (hcm 4 _ (by decide) rfl) hadb
      have q5 := hkp _ _ (hcm 5 _ (by decide) rfl) hadb
      have q6 := hkp _ _ (hcm 6 _ (by decide) rfl) hadb
      have q7 := hkp _ _ (hcm 7 _ (by decide) rfl) hadb
      have q8 := hkp _ _ (hcm 8 _ (by decide) rfl) hadb
      have q9 := hkp _ _ (hcm 9 _ (by decide) rfl) hadb
      have q10 := hkp _ _ (hcm 10 _ (by decide) rfl) hadb
      have q11 := hkp _ _ (hcm 11 _ (by decide) rfl) hadb
      have q12 := hkp _ _ (hcm 12 _ (by decide) rfl) hadb
      have q13 := hkp _ _ (hcm 13 _ (by decide) rfl) hadb
      have hji : (j : Int) < (n : Int) := by omega
      have HBm := Lib.hid (BoxC.made 55 wr [.int .i64 A.1.pos, .string A.1.con, .slice va vn vc, .int .i64 A.2.k, .int .i64 A.2.p, .string A.2.n, .int .i64 A.2.m, .slice kb A.2.kids.length kd, .slice ab A.2.arms.length ae, .int .i64 uk, .string un, .int .i64 ui, .int .i64 uh, .slice ua ul uc])
      have HBy : Hid (Below wr.heap.size wr (wr.alloc (.cells #[.int .i64 A.1.pos, .string A.1.con, .slice va vn vc, .int .i64 A.2.k, .int .i64 A.2.p, .string A.2.n, .int .i64 A.2.m, .slice kb A.2.kids.length kd, .slice ab A.2.arms.length ae, .int .i64 uk, .string un, .int .i64 ui, .int .i64 uh, .slice ua ul uc] 55))) := (Below.refl _ wr).alloc (Nat.le_refl _) _
      have HRow1 := Lib.hid (HRow.out.lift HBy.out)
      have HBr1 := Lib.hid (HBr.out.trans (HBy.out.mono HBr.out.size))
      have HZ1 := Lib.hid (Nat.le_trans HZ.out HBy.out.size)
      have HOwn := Lib.hid (fun k e => Nat.le_trans (Nat.le_succ _) (RowG.lt HRow.out k e).1)
      clear hA hc0 hcm hvv hrepb hrepw hkp hSa hadb HRow HBr HZ
      go_upto_region 6 with fail
      clear q0 q1 q2 q3 q4 q5 q6 q7 q8 q9 q10 q11 q12 q13
      generalize (wr.alloc (.cells #[.int .i64 A.1.pos, .string A.1.con, .slice va vn vc, .int .i64 A.2.k, .int .i64 A.2.p, .string A.2.n, .int .i64 A.2.m, .slice kb A.2.kids.length kd, .slice ab A.2.arms.length ae, .int .i64 uk, .string un, .int .i64 ui, .int .i64 uh, .slice ua ul uc] 55)) = W1 at *
      generalize wr.heap.size = B at *
      have r3 := HBm.out.cell 3 _ rfl; have r4 := HBm.out.cell 4 _ rfl; have r5 := HBm.out.cell 5 _ rfl; have r6 := HBm.out.cell 6 _ rfl; have r7 := HBm.out.cell 7 _ rfl; have r8 := HBm.out.cell 8 _ rfl; have r9 := HBm.out.cell 9 _ rfl; have r10 := HBm.out.cell 10 _ rfl; have r11 := HBm.out.cell 11 _ rfl; have r12 := HBm.out.cell 12 _ rfl; have r13 := HBm.out.cell 13 _ rfl
      have HA1 : Hid (∀ X, Below W1.heap.size W1 (W1.alloc X)) := fun X => (Below.refl _ W1).alloc (Nat.le_refl _) X
      have HRA := Lib.hid (fun X => HRow1.out.lift (HA1.out X))
      have HZA : Hid (∀ X, w.heap.size + 1 ≤ (W1.alloc X).heap.size) := fun X => Nat.le_trans HZ1.out (HA1.out X).size
      have hl1 : l.length + 1 ≤ 1000000 := by omega
      go_wp2_with (at_builtin; refine wpList_pushG ExE rfl _ _ rfl (w.heap.size + 1) (fun b => S b ∧ b < w.heap.size) _ l rfl (HRA.out _) W1.heap.size 36 [.int .i64 A.2.k, .int .i64 A.2.p, .string A.2.n, .int .i64 A.2.m, .slice kb A.2.kids.length kd, .slice ab A.2.arms.length ae, .int .i64 uk, .string un, .int .i64 ui, .int .i64 uh, .slice ua ul uc] (heap_alloc_new W1 _) rfl A.2 ((body_repC HRepB.out HBr1.out HOwn.out _).imp (fun b hb => ⟨⟨hb.1.1.1, hb.1.2⟩, hb.2⟩)) (l.length + 1) rfl hl1 (HZA.out _) ?_; intro sa' sc' w' hrow' hg'; have HRow' := Lib.hid hrow'; have HG' := Lib.hid hg'; clear hrow' hg')
      have HBw : Hid (Below w.heap.size w w') := Below.grown (HBr1.out.trans ((HA1.out _).mono HBr1.out.size)) HG'.out (Nat.le_trans HBr1.out.size (HA1.out _).size) HOwn.out
      have HZ' : Hid (w.heap.size + 1 ≤ w'.heap.size) := Nat.le_trans (HZA.out _) HG'.out.size
      have HRow2 : Hid (RowG ExE w' (w.heap.size + 1) (fun b => S b ∧ b < w.heap.size) (.slice sa' (l ++ [A.2]).length sc') (l ++ [A.2])) := by
        show RowG _ _ _ _ _ _
        rw [List.length_append]
        exact HRow'.out
      have HL2 : Hid (l ++ [A.2] = T.kids ++ (T.arms.take (j + 1)).map (·.2)) := by show _ = _; rw [HLt.out, HL.out, List.append_assoc]
      go_roundw
      case rel => exact ⟨j + 1, l ++ [A.2], sa', sc', hlt, by go_num, by rw [List.length_append]; rfl, by rw [List.length_append]; simp; omega, HL2, HRow2, HBw, HZ'⟩
      case measure => simp [intOf]; omega
    · have HR : Hid (l = chN T) := by
        show _ = _
        rw [HL.out, List.take_of_length_le (by rw [← HN.out]; omega)]; rfl
      go_wp2
      go_ret
      have e : l = chN T := HR.out
      subst e
      exact ⟨_, _, rfl, HRow.out, HBr.out⟩
end Go.Proofs.Ytljgpgmaceackaa

/- The reference's Children. -/
namespace Go.Proofs.Ytljgpgmaceackaa
open Go.RowKit Go.Maps Mth S3

set_option maxRecDepth 100000 in
set_option maxHeartbeats 6400000 in
theorem refChildren_any (T : Ex) (hkl : T.kids.length ≤ 100000) (hal : T.arms.length ≤ 100000) (S : Nat → Prop) (c : List Value) (w : World) (h : RepE w S T c) :
    Calls Try.prog 17 #[.agg c.toArray] w fun e w' => ∃ a cp, e = .returned (.slice a (chN T).length cp) ∧ RowG ExE w' (w.heap.size + 1) (fun b => S b ∧ b < w.heap.size) (.slice a (chN T).length cp) (chN T) ∧ Below w.heap.size w w' := by
  obtain ⟨kv, av, tc0, hc0, -, hk, ha, -⟩ := h.open
  obtain ⟨ka, kc, aa, ac, tk, tn, ti, th, ta, tl, tc, rfl⟩ := h.form
  simp only [List.cons.injEq] at hc0
  obtain ⟨-, -, -, -, rfl, rfl, -⟩ := hc0
  have hba : Below w.heap.size w (w.alloc (.cells #[.int .i64 T.k, .int .i64 T.p, .string T.n, .int .i64 T.m, .slice ka T.kids.length kc, .slice aa T.arms.length ac, .int .i64 tk, .string tn, .int .i64 ti, .int .i64 th, .slice ta tl tc] 36)) := (Below.refl _ w).alloc (Nat.le_refl _) _
  have HB0 := Lib.hid (BoxC.made 36 w [.int .i64 T.k, .int .i64 T.p, .string T.n, .int .i64 T.m, .slice ka T.kids.length kc, .slice aa T.arms.length ac, .int .i64 tk, .string tn, .int .i64 ti, .int .i64 th, .slice ta tl tc])
  have HK := Lib.hid (hk.bound.kept (fun _ h => h) (fun b _ hl => hba.block b hl))
  have HA := Lib.hid (ha.bound.kept (fun _ h => h) (fun b _ hl => hba.block b hl))
  have HBa := Lib.hid hba
  have hsz : (w.alloc (.cells #[.int .i64 T.k, .int .i64 T.p, .string T.n, .int .i64 T.m, .slice ka T.kids.length kc, .slice aa T.arms.length ac, .int .i64 tk, .string tn, .int .i64 ti, .int .i64 th, .slice ta tl tc] 36)).heap.size = w.heap.size + 1 := by simp
  have HSz := Lib.hid hsz
  obtain ⟨n, hn⟩ : ∃ n, n = T.arms.length := ⟨_, rfl⟩
  have HN := Lib.hid hn
  rw [← hn] at hal HB0 HK HA HBa HSz ⊢
  clear h hk ha hba hn hsz
  simp only [List.toArray] at HB0 ⊢
  go_enter Try.func17, Try.ntmps17
  go_upto_region 1 with fail
  generalize (w.alloc (.cells #[.int .i64 T.k, .int .i64 T.p, .string T.n, .int .i64 T.m, .slice ka T.kids.length kc, .slice aa n ac, .int .i64 tk, .string tn, .int .i64 ti, .int .i64 th, .slice ta tl tc] 36)) = V at *
  obtain ⟨b0, b1, b2, b3, b4, b5, b6, b7, b8, b9, b10⟩ := bx11 HB0.out
  have hVw : V.heap.size = w.heap.size + 1 := HSz.out
  have HK1 : Hid (SlG ExE V (fun b => (S b ∧ b < w.heap.size) ∧ some b ≠ Value.ownBlock (.slice none 0 0)) T.kids (.slice ka T.kids.length kc)) := HK.out.kept (fun b h => ⟨h, by simp [Value.ownBlock]⟩) (fun _ _ _ => rfl)
  have HR0 : Hid (RowG ExE V (w.heap.size + 1) (fun b => S b ∧ b < w.heap.size) (.slice none 0 0) []) := rowG_nil _ _ _ _
  have HVz : Hid (w.heap.size + 1 ≤ V.heap.size) := by show _ ≤ _; omega
  go_upto_region 2 with (at_builtin; refine wpList_pushS ExE rfl _ _ rfl (w.heap.size + 1) (fun b => S b ∧ b < w.heap.size) (.slice none 0 0) [] rfl HR0.out (.slice ka T.kids.length kc) rfl T.kids HK1.out (by simp; omega) HVz.out ?_; intro sa0 sn0 sc0 V2 hsn0 hrow hg; have HRow0 := Lib.hid hrow; have HG2 := Lib.hid hg; have HSn := Lib.hid hsn0; clear hrow hg hsn0)
  have HB2 := Lib.hid (HB0.out.grown HG2.out (by intro e; cases e))
  have HV2 : Hid (Below w.heap.size w V2) := Below.grown HBa.out HG2.out HBa.out.size (fun k hk => by cases hk)
  have HA2 := Lib.hid ((HA.out.kept (S' := fun b => S b ∧ b < w.heap.size) (fun _ h => h) (fun b hb hl => (HV2.out.block b hb.2).trans (HBa.out.block b hb.2).symm)))
  have HZ2 : Hid (w.heap.size + 1 ≤ V2.heap.size) := Nat.le_trans HVz.out HG2.out.size
  obtain rfl : sn0 = T.kids.length := by have := HSn.out; simpa using this
  have HRow0' : Hid (RowG ExE V2 (w.heap.size + 1) (fun b => S b ∧ b < w.heap.size) (.slice sa0 T.kids.length sc0) T.kids) := by show RowG _ _ _ _ _ _; have := HRow0.out; rwa [List.nil_append] at this
  clear b0 b1 b2 b3 b4 b5 b6 b7 b8 b9 b10 HK HK1 HR0 HG2 HA HB0 HBa HSz hVw HSn HRow0 HVz
  go_wp2
  go_loopw [3, 4] (fun y i wr => ∃ (j : Nat) (l : List Ex) (sa : Option Addr) (sc : Nat), j ≤ n ∧ i = .int .i64 j ∧ y = .slice sa l.length sc ∧ l.length ≤ 100000 + j ∧ Hid (l = T.kids ++ (T.arms.take j).map (·.2)) ∧ Hid (RowG ExE wr (w.heap.size + 1) (fun b => S b ∧ b < w.heap.size) (.slice sa l.length sc) l) ∧ Hid (Below w.heap.size w wr) ∧ Hid (w.heap.size + 1 ≤ wr.heap.size) ∧ Hid (BoxC 36 wr w.heap.size [.int .i64 T.k, .int .i64 T.p, .string T.n, .int .i64 T.m, .slice ka T.kids.length kc, .slice aa n ac, .int .i64 tk, .string tn, .int .i64 ti, .int .i64 th, .slice ta tl tc])) (fun _ i _ => n - (intOf i).toNat)
  case atStart => exact ⟨0, T.kids, _, _, Nat.zero_le _, rfl, rfl, by omega, by show _ = _; simp, HRow0', HV2, HZ2, HB2⟩
  case round =>
    clear HRow0' HZ2
    obtain ⟨j, l, sa, sc, hj, rfl, rfl, hll, HL, HRow, HBr, HZ, HBx⟩ := hrel
    have b5 := HBx.out.cell 5 _ rfl
    by_cases hlt : j < n
    · obtain ⟨A, hA⟩ : ∃ x, T.arms[j]? = some x := ⟨_, List.getElem?_eq_getElem (by rw [← HN.out]; exact hlt)⟩
      obtain ⟨ad, cc, had, hSa, ⟨vv, cb, rfl, hvv, hrepb⟩, hc0, hcm⟩ := slG_get HA2.out hA
      subst had
      obtain ⟨va, vc, rfl, -⟩ := slice_form hvv
      have HLt : Hid ((T.arms.take (j + 1)).map (·.2) = (T.arms.take j).map (·.2) ++ [A.2]) := by show _ = _; rw [List.take_add_one, hA]; simp
      have hrepw : RepE w (fun b => S b ∧ b < w.heap.size) A.2 cb := hrepb.kept (fun _ h => h) (fun b hb _ => (HV2.out.block b hb.2).symm)
      have HRepB := Lib.hid hrepw
      obtain ⟨kb, kd, ab, ae, uk, un, ui, uh, ua, ul, uc, rfl⟩ := hrepb.form
      generalize A.1.vars.length = vn at *
      rw [show AmE.k = 14 from rfl] at hc0 hcm
      have hkp : ∀ p u, V2.cell? p = some u → p.block < w.heap.size → wr.cell? p = some u := fun p u h hl => by
        rw [HBr.out.cell hl, ← HV2.out.cell hl]; exact h
      have hadb : (ad.add (j * 14)).block < w.heap.size := by rw [add_block]; exact hSa.2
      have q3 := hkp _ _ (hcm 3 _ (by decide) rfl) hadb
      have q4 : wr.cell? ⟨(ad.add (j * 14)).block, (ad.add (j * 14)).off + 3 + 1, none⟩ = some (.int .i64 A.2.p) := by rw [Nat.add_assoc]; exact hkp _ _ (hcm 4 _ (by decide) rfl) hadb
      have q5 : wr.cell? ⟨(ad.add (j * 14)).block, (ad.add (j * 14)).off + 3 + 2, none⟩ = some (.string A.2.n) := by rw [Nat.add_assoc]; exact hkp _ _ (hcm 5 _ (by decide) rfl) hadb
      have q6 : wr.cell? ⟨(ad.add (j * 14)).block, (ad.add (j * 14)).off + 3 + 3, none⟩ = some (.int .i64 A.2.m) := by rw [Nat.add_assoc]; exact hkp _ _ (hcm 6 _ (by decide) rfl) hadb
      have q7 : wr.cell? ⟨(ad.add (j * 14)).block, (ad.add (j * 14)).off + 3 + 4, none⟩ = some (.slice kb A.2.kids.length kd) := by rw [Nat.add_assoc]; exact hkp _ _ (hcm 7 _ (by decide) rfl) hadb
      have q8 : wr.cell? ⟨(ad.add (j * 14)).block, (ad.add (j * 14)).off + 3 + 5, none⟩ = some (.slice ab A.2.arms.length ae) := by rw [Nat.add_assoc]; exact hkp _ _ (hcm 8 _ (by decide) rfl) hadb
      have q9 : wr.cell? ⟨(ad.add (j * 14)).block, (ad.add (j * 14)).off + 3 + 6, none⟩ = some (.int .i64 uk) := by rw [Nat.add_assoc]; exact hkp _ _ (hcm 9 _ (by decide) rfl) hadb
      have q10 : wr.cell? ⟨(ad.add (j * 14)).block, (ad.add (j * 14)).off + 3 + 7, none⟩ = some (.string un) := by rw [Nat.add_assoc]; exact hkp _ _ (hcm 10 _ (by decide) rfl) hadb
      have q11 : wr.cell? ⟨(ad.add (j * 14)).block, (ad.add (j * 14)).off + 3 + 8, none⟩ = some (.int .i64 ui) := by rw [Nat.add_assoc]; exact hkp _ _ (hcm 11 _ (by decide) rfl) hadb
      have q12 : wr.cell? ⟨(ad.add (j * 14)).block, (ad.add (j * 14)).off + 3 + 9, none⟩ = some (.int .i64 uh) := by rw [Nat.add_assoc]; exact hkp _ _ (hcm 12 _ (by decide) rfl) hadb
      have q13 : wr.cell? ⟨(ad.add (j * 14)).block, (ad.add (j * 14)).off + 3 + 10, none⟩ = some (.slice ua ul uc) := by rw [Nat.add_assoc]; exact hkp _ _ (hcm 13 _ (by decide) rfl) hadb
      have hji : (j : Int) < (n : Int) := by omega
      have HRow1 := HRow
      have HBr1 := HBr
      have HZ1 := HZ
      have HOwn := Lib.hid (fun k e => Nat.le_trans (Nat.le_succ _) (RowG.lt HRow.out k e).1)
      have HOw2 := Lib.hid (fun k e => (RowG.lt HRow.out k e).1)
      clear hA hc0 hcm hvv hrepb hrepw hkp hSa hadb HRow HBr HZ
      have HA1 : Hid (∀ X, Below wr.heap.size wr (wr.alloc X)) := fun X => (Below.refl _ wr).alloc (Nat.le_refl _) X
      have HRA := Lib.hid (fun X => HRow1.out.lift (HA1.out X))
      have HZA : Hid (∀ X, w.heap.size + 1 ≤ (wr.alloc X).heap.size) := fun X => Nat.le_trans HZ1.out (HA1.out X).size
      have hl1 : l.length + 1 ≤ 1000000 := by omega
      go_wp2_with (at_builtin; refine wpList_pushG ExE rfl _ _ rfl (w.heap.size + 1) (fun b => S b ∧ b < w.heap.size) _ l rfl (HRA.out _) wr.heap.size 36 [.int .i64 A.2.k, .int .i64 A.2.p, .string A.2.n, .int .i64 A.2.m, .slice kb A.2.kids.length kd, .slice ab A.2.arms.length ae, .int .i64 uk, .string un, .int .i64 ui, .int .i64 uh, .slice ua ul uc] (heap_alloc_new wr _) rfl A.2 ((body_repC HRepB.out HBr1.out HOwn.out _).imp (fun b hb => ⟨⟨hb.1.1.1, hb.1.2⟩, hb.2⟩)) (l.length + 1) rfl hl1 (HZA.out _) ?_; intro sa' sc' w' hrow' hg'; have HRow' := Lib.hid hrow'; have HG' := Lib.hid hg'; clear hrow' hg')
      have HBx' := Lib.hid ((HBx.out.lift (HA1.out _)).grown HG'.out (fun e => by have := HOw2.out _ e.symm; omega))
      have HBw : Hid (Below w.heap.size w w') := Below.grown (HBr1.out.trans ((HA1.out _).mono HBr1.out.size)) HG'.out (Nat.le_trans HBr1.out.size (HA1.out _).size) HOwn.out
      have HZ' : Hid (w.heap.size + 1 ≤ w'.heap.size) := Nat.le_trans (HZA.out _) HG'.out.size
      have HRow2 : Hid (RowG ExE w' (w.heap.size + 1) (fun b => S b ∧ b < w.heap.size) (.slice sa' (l ++ [A.2]).length sc') (l ++ [A.2])) := by
        show RowG _ _ _ _ _ _
        rw [List.length_append]
        exact HRow'.out
      have HL2 : Hid (l ++ [A.2] = T.kids ++ (T.arms.take (j + 1)).map (·.2)) := by show _ = _; rw [HLt.out, HL.out, List.append_assoc]
      go_roundw
      case rel => exact ⟨j + 1, l ++ [A.2], sa', sc', hlt, by go_num, by rw [List.length_append]; rfl, by rw [List.length_append]; simp; omega, HL2, HRow2, HBw, HZ', HBx'⟩
      case measure => simp [intOf]; omega
    · have HR : Hid (l = chN T) := by
        show _ = _
        rw [HL.out, List.take_of_length_le (by rw [← HN.out]; omega)]; rfl
      go_wp2
      go_ret
      have e : l = chN T := HR.out
      subst e
      exact ⟨_, _, rfl, HRow.out, HBr.out⟩
end Go.Proofs.Ytljgpgmaceackaa

/- The reference's Depth of an expression; what ParseExpr asks of depths and widths. -/
namespace Go.Proofs.Ytljgpgmaceackaa
open Go.RowKit Go.Maps Mth S3

/-- Of at most so many levels, with shallow types and narrow arms. -/
def fitE : Nat → Ex → Bool
  | 0, _ => false
  | n + 1, T => decide (T.kids.length ≤ 100000) && decide (T.arms.length ≤ 100000) && (T.k != 9 || decide (dep T.t ≤ 40)) && (T.k != 8 || decide (T.kids.length = 1)) && T.arms.all (fun A => decide (A.1.vars.length ≤ 4)) && (chN T).all (fitE n)
structure Fit (n : Nat) (T : Ex) : Prop where
  kids : T.kids.length ≤ 100000
  arms : T.arms.length ≤ 100000
  typ : T.k = 9 → dep T.t ≤ 40
  one : T.k = 8 → T.kids.length = 1
  vars : ∀ A ∈ T.arms, A.1.vars.length ≤ 4
  all : ∀ U ∈ chN T, fitE n U = true
theorem fit_open {n : Nat} {T : Ex} (h : fitE (n + 1) T = true) : Fit n T := by
  simp only [fitE, Bool.and_eq_true, decide_eq_true_eq, List.all_eq_true, Bool.or_eq_true] at h
  obtain ⟨⟨⟨⟨⟨h1, h2⟩, h3⟩, h6⟩, h4⟩, h5⟩ := h
  refine ⟨h1, h2, fun e => ?_, fun e => ?_, h4, h5⟩
  · rcases h3 with h3 | h3
    · rw [e] at h3; simp at h3
    · exact h3
  · rcases h6 with h6 | h6
    · rw [e] at h6; simp at h6
    · exact h6
theorem fit_pos {n : Nat} {T : Ex} (h : fitE n T = true) : ∃ m, n = m + 1 := by
  cases n with
  | zero => cases h
  | succ m => exact ⟨m, rfl⟩
/-- An expression of a list, cell by cell. -/
theorem ex_at {w : World} {S : Nat → Prop} {xs : List Ex} {a : Option Addr} {n c : Nat} (h : SlG ExE w S xs (.slice a n c)) {j : Nat} {U : Ex} (hU : xs[j]? = some U) :
    ∃ ad kb kd ab ae uk un ui uh ua ul uc, a = some ad ∧ RepE w S U [.int .i64 U.k, .int .i64 U.p, .string U.n, .int .i64 U.m, .slice kb U.kids.length kd, .slice ab U.arms.length ae, .int .i64 uk, .string un, .int .i64 ui, .int .i64 uh, .slice ua ul uc] ∧
      w.cell? (ad.add (j * 11)) = some (.int .i64 U.k) ∧ w.cell? ⟨(ad.add (j * 11)).block, (ad.add (j * 11)).off + 1, none⟩ = some (.int .i64 U.p) ∧ w.cell? ⟨(ad.add (j * 11)).block, (ad.add (j * 11)).off + 2, none⟩ = some (.string U.n) ∧ w.cell? ⟨(ad.add (j * 11)).block, (ad.add (j * 11)).off + 3, none⟩ = some (.int .i64 U.m) ∧ w.cell? ⟨(ad.add (j * 11)).block, (ad.add (j * 11)).off + 4, none⟩ = some (.slice kb U.kids.length kd) ∧ w.cell? ⟨(ad.add (j * 11)).block, (ad.add (j * 11)).off + 5, none⟩ = some (.slice ab U.arms.length ae) ∧
      w.cell? ⟨(ad.add (j * 11)).block, (ad.add (j * 11)).off + 6, none⟩ = some (.int .i64 uk) ∧ w.cell? ⟨(ad.add (j * 11)).block, (ad.add (j * 11)).off + 7, none⟩ = some (.string un) ∧ w.cell? ⟨(ad.add (j * 11)).block, (ad.add (j * 11)).off + 8, none⟩ = some (.int .i64 ui) ∧ w.cell? ⟨(ad.add (j * 11)).block, (ad.add (j * 11)).off + 9, none⟩ = some (.int .i64 uh) ∧ w.cell? ⟨(ad.add (j * 11)).block, (ad.add (j * 11)).off + 10, none⟩ = some (.slice ua ul uc) := by
  obtain ⟨ad, cc, had, -, hr, hc0, hcm⟩ := slG_get h hU
  have hr' : RepE w S U cc := hr
  obtain ⟨kb, kd, ab, ae, uk, un, ui, uh, ua, ul, uc, rfl⟩ := hr'.form
  rw [show ExE.k = 11 from rfl] at hc0 hcm
  exact ⟨ad, kb, kd, ab, ae, uk, un, ui, uh, ua, ul, uc, had, hr', hc0 _ rfl, hcm 1 _ (by decide) rfl, hcm 2 _ (by decide) rfl, hcm 3 _ (by decide) rfl, hcm 4 _ (by decide) rfl, hcm 5 _ (by decide) rfl, hcm 6 _ (by decide) rfl, hcm 7 _ (by decide) rfl, hcm 8 _ (by decide) rfl, hcm 9 _ (by decide) rfl, hcm 10 _ (by decide) rfl⟩
set_option maxRecDepth 100000 in
set_option maxHeartbeats 6400000 in
theorem depth4_any : ∀ (n : Nat), n ≤ 1000 → ∀ (T : Ex), fitE n T = true → ∀ (S : Nat → Prop) (c : List Value) (w : World), RepE w S T c →
    Calls Try.prog 69 #[.agg c.toArray] w fun e w' => ∃ d : Nat, e = .returned (.int .i64 d) ∧ d + 1 ≤ n ∧ Below w.heap.size w w' := by
  intro n
  induction n with
  | zero => intro _ T h; cases h
  | succ n ih =>
    intro hn T hfit S c w h
    have HF := Lib.hid (fit_open hfit)
    have HCh : Hid (∀ V, Below w.heap.size w V → Calls Try.prog 17 #[.agg c.toArray] V fun e w' => ∃ a cp, e = .returned (.slice a (chN T).length cp) ∧ SlG ExE w' (fun _ => True) (chN T) (.slice a (chN T).length cp) ∧ Below V.heap.size V w') := fun V hV => (refChildren_any T HF.out.kids HF.out.arms S c V (h.lift hV)).mono fun e w' ⟨a, cp, h1, h2, h3⟩ => ⟨a, cp, h1, h2.slG (fun _ _ => trivial) (fun _ _ => trivial), h3⟩
    have HI := Lib.hid (ih (by omega))
    have hlen : (chN T).length ≤ 200000 := by unfold chN; rw [List.length_append, List.length_map]; have := HF.out.kids; have := HF.out.arms; omega
    obtain ⟨ka, kc, aa, ac, tk, tn, ti, th, ta, tl, tc, rfl⟩ := h.form
    have hba : Below w.heap.size w (w.alloc (.cells #[.int .i64 T.k, .int .i64 T.p, .string T.n, .int .i64 T.m, .slice ka T.kids.length kc, .slice aa T.arms.length ac, .int .i64 tk, .string tn, .int .i64 ti, .int .i64 th, .slice ta tl tc] 36)) := (Below.refl _ w).alloc (Nat.le_refl _) _
    have HB0 := Lib.hid (BoxC.made 36 w [.int .i64 T.k, .int .i64 T.p, .string T.n, .int .i64 T.m, .slice ka T.kids.length kc, .slice aa T.arms.length ac, .int .i64 tk, .string tn, .int .i64 ti, .int .i64 th, .slice ta tl tc])
    have HBa := Lib.hid hba
    clear h hba hfit ih
    obtain ⟨m, hm⟩ : ∃ m, m = (chN T).length := ⟨_, rfl⟩
    rw [← hm] at HCh hlen
    have HM := Lib.hid hm
    clear hm
    generalize T.kids.length = kn at *
    generalize T.arms.length = an at *
    simp only [List.toArray] at HB0 HCh ⊢
    go_enter Try.func69, Try.ntmps69
    go_upto_region 1 with fail
    generalize (w.alloc (.cells #[.int .i64 T.k, .int .i64 T.p, .string T.n, .int .i64 T.m, .slice ka kn kc, .slice aa an ac, .int .i64 tk, .string tn, .int .i64 ti, .int .i64 th, .slice ta tl tc] 36)) = V at *
    obtain ⟨b0, b1, b2, b3, b4, b5, b6, b7, b8, b9, b10⟩ := bx11 HB0.out
    go_wp2_with fail
    go_at_call 17
    refine (HCh.out V HBa.out).mono ?_
    rintro e W ⟨ca, cp, rfl, hsl, hb1⟩
    have HSl := Lib.hid hsl
    have HBW := Lib.hid (HBa.out.trans (hb1.mono HBa.out.size))
    have HR0 : Hid (Below W.heap.size W W) := Below.refl _ _
    clear hsl hb1 b0 b1 b2 b3 b4 b5 b6 b7 b8 b9 b10 HCh HB0 HBa
    go_wp2
    go_loopw [3, 5] (fun y i wr => ∃ j d : Nat, j ≤ m ∧ i = .int .i64 j ∧ y = .int .i64 d ∧ d ≤ n ∧ Hid (Below W.heap.size W wr)) (fun _ i _ => m - (intOf i).toNat)
    case atStart => exact ⟨0, 0, Nat.zero_le _, rfl, rfl, Nat.zero_le _, HR0⟩
    case round =>
      clear HR0
      obtain ⟨j, d, hj, rfl, rfl, hd, HBr⟩ := hrel
      by_cases hlt : j < m
      · obtain ⟨U, hU⟩ : ∃ x, (chN T)[j]? = some x := ⟨_, List.getElem?_eq_getElem (by rw [← HM.out]; exact hlt)⟩
        have hfU := HF.out.all U (List.mem_of_getElem? hU)
        obtain ⟨n', hn'⟩ := fit_pos hfU
        obtain ⟨ad, kb, kd, ab, ae, uk, un, ui, uh, ua, ul, uc, rfl, hr, q0, q1, q2, q3, q4, q5, q6, q7, q8, q9, q10⟩ := ex_at (HSl.out.kept (fun _ h => h) (fun b _ hl => HBr.out.block b hl)) hU
        have HC := Lib.hid (HI.out U hfU _ _ wr hr)
        have hji : (j : Int) < (m : Int) := by omega
        clear hU hfU hr
        simp only [List.toArray] at HC
        go_wp2_with (go_at_call 69; refine HC.out.mono ?_; rintro e w3 ⟨d', rfl, hd', hb3⟩; have HB3 := Lib.hid (HBr.out.trans (hb3.mono HBr.out.size)); clear hb3)
        go_roundw
        case rel => exact ⟨j + 1, max d (1 + d'), hlt, by go_num, by go_num, by omega, HB3⟩
        case measure => simp [intOf]; omega
      · go_wp2
        go_ret
        exact ⟨d, rfl, by omega, HBW.out.trans (HBr.out.mono HBW.out.size)⟩
end Go.Proofs.Ytljgpgmaceackaa

/- The package's Arms: to which declaration arms belong. -/
namespace Go.Proofs.Ytljgpgmaceackaa
open Go.RowKit Go.Maps Mth S3

/-- Arms have these constructors, in this order. -/
def armsB : List (AH × Ex) → List Ctor → Bool
  | [], [] => true
  | a :: l, c :: m => (a.1.con.toList == c.name.toList) && armsB l m
  | [], _ :: _ => false
  | _ :: _, [] => false
theorem armsB_len : ∀ (l : List (AH × Ex)) (m : List Ctor), l.length ≠ m.length → armsB l m = false := by
  intro l
  induction l with
  | nil => intro m h; cases m with
    | nil => exact absurd rfl h
    | cons c m => rfl
  | cons a l ih => intro m h; cases m with
    | nil => rfl
    | cons c m => simp only [armsB, ih m (by simpa using h), Bool.and_false]
theorem armsB_step {l : List (AH × Ex)} {m : List Ctor} {j : Nat} {a : AH × Ex} {c : Ctor} (h : l[j]? = some a) (h' : m[j]? = some c) : armsB (l.drop j) (m.drop j) = ((a.1.con.toList == c.name.toList) && armsB (l.drop (j + 1)) (m.drop (j + 1))) := by
  obtain ⟨hl, e⟩ := List.getElem?_eq_some_iff.1 h
  obtain ⟨hm, e'⟩ := List.getElem?_eq_some_iff.1 h'
  rw [List.drop_eq_getElem_cons hl, List.drop_eq_getElem_cons hm, e, e']; rfl
/-- To which declaration arms belong. -/
def armsI (xs : List (AH × Ex)) : List Dat → Nat → Option Nat
  | [], _ => none
  | d :: l, i => if armsB xs d.ctors then some i else armsI xs l (i + 1)
theorem armsI_step {xs : List (AH × Ex)} {l : List Dat} {i : Nat} {d : Dat} (h : l[i]? = some d) : armsI xs (l.drop i) i = if armsB xs d.ctors then some i else armsI xs (l.drop (i + 1)) (i + 1) := by
  obtain ⟨hl, e⟩ := List.getElem?_eq_some_iff.1 h
  rw [List.drop_eq_getElem_cons hl, e]; rfl
def armV : Option Nat → Value
  | some i => .tuple #[.int .i64 i, .bool true]
  | none => .tuple #[.int .i64 0, .bool false]
/-- An arm of a list, cell by cell. -/
theorem am_at {w : World} {S : Nat → Prop} {xs : List (AH × Ex)} {a : Option Addr} {n c : Nat} (h : SlG AmE w S xs (.slice a n c)) {j : Nat} {A : AH × Ex} (hA : xs[j]? = some A) :
    ∃ ad va vc kb kd ab ae uk un ui uh ua ul uc, a = some ad ∧ SlG StrE w S A.1.vars (.slice va A.1.vars.length vc) ∧ RepE w S A.2 [.int .i64 A.2.k, .int .i64 A.2.p, .string A.2.n, .int .i64 A.2.m, .slice kb A.2.kids.length kd, .slice ab A.2.arms.length ae, .int .i64 uk, .string un, .int .i64 ui, .int .i64 uh, .slice ua ul uc] ∧
      w.cell? (ad.add (j * 14)) = some (.int .i64 A.1.pos) ∧ ∀ (m : Nat) (u : Value), m ≠ 0 → [.int .i64 A.1.pos, .string A.1.con, .slice va A.1.vars.length vc, .int .i64 A.2.k, .int .i64 A.2.p, .string A.2.n, .int .i64 A.2.m, .slice kb A.2.kids.length kd, .slice ab A.2.arms.length ae, .int .i64 uk, .string un, .int .i64 ui, .int .i64 uh, .slice ua ul uc][m]? = some u → w.cell? ⟨(ad.add (j * 14)).block, (ad.add (j * 14)).off + m, none⟩ = some u := by
  obtain ⟨ad, cc, had, -, ⟨vv, cb, rfl, hvv, hr⟩, hc0, hcm⟩ := slG_get h hA
  obtain ⟨va, vc, rfl, -⟩ := slice_form hvv
  obtain ⟨kb, kd, ab, ae, uk, un, ui, uh, ua, ul, uc, rfl⟩ := hr.form
  rw [show AmE.k = 14 from rfl] at hc0 hcm
  exact ⟨ad, va, vc, kb, kd, ab, ae, uk, un, ui, uh, ua, ul, uc, had, hvv, hr, hc0 _ rfl, fun m u hm hu => hcm m u hm hu⟩
set_option maxRecDepth 100000 in
set_option maxHeartbeats 6400000 in
theorem areArms_any (xs : List (AH × Ex)) (cs : List Ctor) (hal : xs.length ≤ 100000) (av cv : Value) (S S' : Nat → Prop) (w : World) (ha : SlG AmE w S xs av) (hc : SlG CtorE w S' cs cv) :
    Calls Try.prog 32 #[av, cv] w fun e w' => e = .returned (.bool (armsB xs cs)) ∧ Below w.heap.size w w' := by
  have HA := Lib.hid ha
  have HC := Lib.hid hc
  obtain ⟨aa, ac, rfl, hla⟩ := slice_form ha
  obtain ⟨ca, cc, rfl, hlc⟩ := slice_form hc
  clear ha hc
  unfold maxLen at hla hlc
  by_cases hl : xs.length = cs.length
  · obtain ⟨n, hn⟩ : ∃ n, n = xs.length := ⟨_, rfl⟩
    have HN := Lib.hid hn
    have HM : Hid (n = cs.length) := by show _ = _; rw [hn, hl]
    rw [← hl] at HC hlc ⊢
    rw [← hn] at HA HC hla hlc hal ⊢
    clear hn hl
    have HE : Hid (armsB xs cs = armsB (xs.drop 0) (cs.drop 0)) := rfl
    have HR0 : Hid (Below w.heap.size w w) := Below.refl _ _
    go_enter Try.func32, Try.ntmps32
    go_wp2
    go_loopw [14] (fun i wr => ∃ j : Nat, j ≤ n ∧ i = .int .i64 j ∧ Hid (armsB xs cs = armsB (xs.drop j) (cs.drop j)) ∧ Hid (Below w.heap.size w wr)) (fun i _ => n - (intOf i).toNat)
    case atStart => exact ⟨0, Nat.zero_le _, rfl, HE, HR0⟩
    case round =>
      clear HE HR0
      obtain ⟨j, hj, rfl, HT, HB⟩ := hrel
      by_cases hlt : j < n
      · obtain ⟨A, hA⟩ : ∃ x, xs[j]? = some x := ⟨_, List.getElem?_eq_getElem (by rw [← HN.out]; exact hlt)⟩
        obtain ⟨C, hC⟩ : ∃ x, cs[j]? = some x := ⟨_, List.getElem?_eq_getElem (by rw [← HM.out]; exact hlt)⟩
        have HS := Lib.hid (armsB_step hA hC)
        obtain ⟨ad, va, vc, kb, kd, ab, ae, uk, un, ui, uh, ua, ul, uc, rfl, -, -, q0, hq⟩ := am_at (HA.out.kept (fun _ h => h) (fun b _ hl => HB.out.block b hl)) hA
        obtain ⟨cd, cl, hcd, -, ⟨fv, rfl, -⟩, -, hcm⟩ := slG_get HC.out hC
        subst hcd
        have r1 := (HB.out.cell (World.block_lt_of_cell? _ _ (hcm 1 _ (by decide) rfl))).trans (hcm 1 _ (by decide) rfl)
        rw [show CtorE.k = 3 from rfl] at r1
        have q1 := hq 1 _ (by decide) rfl; have q2 := hq 2 _ (by decide) rfl; have q3 := hq 3 _ (by decide) rfl; have q4 := hq 4 _ (by decide) rfl; have q5 := hq 5 _ (by decide) rfl; have q6 := hq 6 _ (by decide) rfl; have q7 := hq 7 _ (by decide) rfl; have q8 := hq 8 _ (by decide) rfl; have q9 := hq 9 _ (by decide) rfl; have q10 := hq 10 _ (by decide) rfl; have q11 := hq 11 _ (by decide) rfl; have q12 := hq 12 _ (by decide) rfl; have q13 := hq 13 _ (by decide) rfl
        have hji : (j : Int) < (n : Int) := by omega
        have hal1 : Below wr.heap.size wr (wr.alloc (.cells #[.int .i64 A.1.pos, .string A.1.con, .slice va A.1.vars.length vc, .int .i64 A.2.k, .int .i64 A.2.p, .string A.2.n, .int .i64 A.2.m, .slice kb A.2.kids.length kd, .slice ab A.2.arms.length ae, .int .i64 uk, .string un, .int .i64 ui, .int .i64 uh, .slice ua ul uc] 55)) := (Below.refl _ wr).alloc (Nat.le_refl _) _
        have HBm := Lib.hid (BoxC.made 55 wr [.int .i64 A.1.pos, .string A.1.con, .slice va A.1.vars.length vc, .int .i64 A.2.k, .int .i64 A.2.p, .string A.2.n, .int .i64 A.2.m, .slice kb A.2.kids.length kd, .slice ab A.2.arms.length ae, .int .i64 uk, .string un, .int .i64 ui, .int .i64 uh, .slice ua ul uc])
        have HR1 := Lib.hid ((hal1.cell (World.block_lt_of_cell? _ _ r1)).trans r1)
        have HB1 := Lib.hid (HB.out.trans (hal1.mono HB.out.size))
        clear hA hC hq hcm hal1 HB r1
        generalize A.1.vars.length = vn at *
        generalize A.2.kids.length = k2 at *
        generalize A.2.arms.length = a2 at *
        simp only [List.toArray] at HBm
        go_upto_region 6 with fail
        clear q0 q1 q2 q3 q4 q5 q6 q7 q8 q9 q10 q11 q12 q13
        generalize (wr.alloc (.cells #[.int .i64 A.1.pos, .string A.1.con, .slice va vn vc, .int .i64 A.2.k, .int .i64 A.2.p, .string A.2.n, .int .i64 A.2.m, .slice kb k2 kd, .slice ab a2 ae, .int .i64 uk, .string un, .int .i64 ui, .int .i64 uh, .slice ua ul uc] 55)) = W1 at *
        generalize wr.heap.size = B at *
        have b1 := HBm.out.cell 1 _ rfl
        have r1 := HR1.out
        have HN1 : Hid (∀ k, Below w.heap.size w (W1.drewN k)) := fun k => HB1.out.trans ((below_drewN (Below.refl _ W1) k).mono HB1.out.size)
        cases hq : (A.1.con.toList == C.name.toList) with
        | true =>
          have HR : Hid (armsB xs cs = armsB (xs.drop (j + 1)) (cs.drop (j + 1))) := by show _ = _; rw [HT.out, HS.out, hq]; rfl
          go_quiet (fail)
          go_wp2
          go_roundw
          case rel => exact ⟨j + 1, hlt, by go_num, HR, HN1.out _⟩
          case measure => simp [intOf]; omega
        | false =>
          have HR : Hid (armsB xs cs = false) := by show _ = _; rw [HT.out, HS.out, hq]; rfl
          go_quiet (fail)
          go_wp2
          go_ret
          exact ⟨by rw [HR.out]; rfl, HN1.out _⟩
      · have HR : Hid (armsB xs cs = true) := by
          show _ = _
          rw [HT.out, List.drop_eq_nil_of_le (by rw [← HN.out]; omega), List.drop_eq_nil_of_le (by rw [← HM.out]; omega)]; rfl
        go_wp2
        go_ret
        exact ⟨by rw [HR.out]; rfl, HB.out⟩
  · have HR := Lib.hid (armsB_len xs cs hl)
    have hli : ((xs.length : Int) == (cs.length : Int)) = false := by simp; omega
    have hln : ((xs.length : Int) != (cs.length : Int)) = true := by rw [bne, hli]; rfl
    clear HA HC
    generalize xs.length = n at *
    generalize cs.length = m at *
    go_enter Try.func32, Try.ntmps32
    go_wp2
    go_ret
    exact ⟨by rw [HR.out]; rfl, Below.refl _ _⟩
set_option maxRecDepth 100000 in
set_option maxHeartbeats 6400000 in
theorem arms_any (ds : List Dat) (xs : List (AH × Ex)) (hal : xs.length ≤ 100000) (dv av : Value) (S S' : Nat → Prop) (w : World) (hd : SlG DatE w S ds dv) (ha : SlG AmE w S' xs av) :
    Calls Try.prog 14 #[dv, av] w fun e w' => e = .returned (armV (armsI xs ds 0)) ∧ Below w.heap.size w w' := by
  have HD := Lib.hid hd
  have HAr : Hid (∀ V cs cv, Below w.heap.size w V → SlG CtorE V S cs cv → Calls Try.prog 32 #[av, cv] V fun e w' => e = .returned (.bool (armsB xs cs)) ∧ Below V.heap.size V w') := fun V cs cv hV hc => areArms_any xs cs hal av cv S' S V (ha.kept (fun _ h => h) (fun b _ hl => hV.block b hl)) hc
  obtain ⟨da, dc, rfl, hld⟩ := slice_form hd
  obtain ⟨aa, ac, rfl, -⟩ := slice_form ha
  clear hd ha
  unfold maxLen at hld
  generalize xs.length = an at *
  obtain ⟨n, hn⟩ : ∃ n, n = ds.length := ⟨_, rfl⟩
  have HN := Lib.hid hn
  rw [← hn] at HD hld ⊢
  clear hn
  have HE : Hid (armsI xs ds 0 = armsI xs (ds.drop 0) 0) := rfl
  have HR0 : Hid (Below w.heap.size w w) := Below.refl _ _
  go_enter Try.func14, Try.ntmps14
  go_wp2
  go_loopw [10] (fun i wr => ∃ j : Nat, j ≤ n ∧ i = .int .i64 j ∧ Hid (armsI xs ds 0 = armsI xs (ds.drop j) j) ∧ Hid (Below w.heap.size w wr)) (fun i _ => n - (intOf i).toNat)
  case atStart => exact ⟨0, Nat.zero_le _, rfl, HE, HR0⟩
  case round =>
    clear HE HR0
    obtain ⟨j, hj, rfl, HT, HB⟩ := hrel
    by_cases hlt : j < n
    · obtain ⟨d, hd⟩ : ∃ x, ds[j]? = some x := ⟨_, List.getElem?_eq_getElem (by rw [← HN.out]; exact hlt)⟩
      have HS := Lib.hid (armsI_step (xs := xs) hd)
      obtain ⟨ad, cc, had, -, ⟨pv, cv, rfl, hp, hcs⟩, hc0, hcm⟩ := slG_get (HD.out.kept (fun _ h => h) (fun b _ hl => HB.out.block b hl)) hd
      subst had
      rw [show DatE.k = 4 from rfl] at hc0 hcm
      obtain ⟨pa, pc, rfl, -⟩ := slice_form hp
      obtain ⟨ca, cc, rfl, -⟩ := slice_form hcs
      have q0 := hc0 _ rfl
      have q1 := hcm 1 _ (by decide) rfl; have q2 := hcm 2 _ (by decide) rfl; have q3 := hcm 3 _ (by decide) rfl
      have hji : (j : Int) < (n : Int) := by omega
      have hal1 : Below wr.heap.size wr (wr.alloc (.cells #[.int .i64 d.pos, .string d.name, .slice pa d.params.length pc, .slice ca d.ctors.length cc] 61)) := (Below.refl _ wr).alloc (Nat.le_refl _) _
      have HBm := Lib.hid (BoxC.made 61 wr [.int .i64 d.pos, .string d.name, .slice pa d.params.length pc, .slice ca d.ctors.length cc])
      have HB1 := Lib.hid (HB.out.trans (hal1.mono HB.out.size))
      have HAd := Lib.hid (HAr.out _ _ _ HB1.out (hcs.kept (fun _ h => h) (fun b _ hl => hal1.block b hl)))
      clear hd hc0 hcm hal1 HB hp hcs
      generalize d.params.length = pn at *
      generalize d.ctors.length = cn at *
      simp only [List.toArray] at HBm
      go_upto_region 4 with fail
      clear q0 q1 q2 q3
      generalize (wr.alloc (.cells #[.int .i64 d.pos, .string d.name, .slice pa pn pc, .slice ca cn cc] 61)) = W1 at *
      generalize wr.heap.size = B at *
      have b3 := HBm.out.cell 3 _ rfl
      cases hq : armsB xs d.ctors with
      | true =>
        have HR : Hid (armsI xs ds 0 = some j) := by show _ = _; rw [HT.out, HS.out, hq]; rfl
        rw [hq] at HAd
        go_wp2_with (go_at_call 32; refine HAd.out.mono ?_; rintro e w3 ⟨rfl, hb3⟩; have HB3 := Lib.hid (HB1.out.trans (hb3.mono HB1.out.size)); clear hb3)
        refine bodyPost_ret (by simp [results, Try.results14, go_sem]; try rfl) rfl ?_
        exact ⟨by rw [HR.out]; rfl, HB3.out⟩
      | false =>
        have HR : Hid (armsI xs ds 0 = armsI xs (ds.drop (j + 1)) (j + 1)) := by show _ = _; rw [HT.out, HS.out, hq]; rfl
        rw [hq] at HAd
        go_wp2_with (go_at_call 32; refine HAd.out.mono ?_; rintro e w3 ⟨rfl, hb3⟩; have HB3 := Lib.hid (HB1.out.trans (hb3.mono HB1.out.size)); clear hb3)
        go_roundw
        case rel => exact ⟨j + 1, hlt, by go_num, HR, HB3⟩
        case measure => simp [intOf]; omega
    · have HR : Hid (armsI xs ds 0 = none) := by
        show _ = _
        rw [HT.out, List.drop_eq_nil_of_le (by rw [← HN.out]; omega)]; rfl
      go_wp2
      refine bodyPost_ret (by simp [results, Try.results14, go_sem]; try rfl) rfl ?_
      exact ⟨by rw [HR.out]; rfl, HB.out⟩
end Go.Proofs.Ytljgpgmaceackaa

/- The part at a path: the reference's At; the names that are bound on the way. -/
namespace Go.Proofs.Ytljgpgmaceackaa
open Go.RowKit Go.Maps Mth S3

/-- The child with an index. -/
def kidE (T : Ex) (z : Int) : Option Ex := if z < 0 then none else (chN T)[z.toNat]?
/-- The names that are bound on the way. -/
def onW : Ex → List Int → Option (List ByteArray)
  | _, [] => some []
  | T, z :: l => match kidE T z with | some U => (onW U l).map (bnN T z.toNat ++ ·) | none => none
/-- The names that are visible at a path. -/
def visN (T : Ex) (zs : List Int) : List ByteArray := match onW T zs with | some l => lastN l | none => []
theorem onW_step {T : Ex} {zs : List Int} {j : Nat} {z : Int} (h : zs[j]? = some z) : onW T (zs.drop j) = match kidE T z with | some U => (onW U (zs.drop (j + 1))).map (bnN T z.toNat ++ ·) | none => none := by
  obtain ⟨hl, e⟩ := List.getElem?_eq_some_iff.1 h
  rw [List.drop_eq_getElem_cons hl, e]; rfl
theorem kidE_some {T U : Ex} {z : Int} (h : kidE T z = some U) : 0 ≤ z ∧ (chN T)[z.toNat]? = some U ∧ z < ((chN T).length : Int) := by
  unfold kidE at h
  split at h
  · cases h
  · have := (List.getElem?_eq_some_iff.1 h).1
    exact ⟨by omega, h, by omega⟩
theorem kidE_none {T : Ex} {z : Int} (h : kidE T z = none) : z < 0 ∨ ((chN T).length : Int) ≤ z := by
  unfold kidE at h
  split at h
  · exact .inl (by assumption)
  · have := List.getElem?_eq_none_iff.1 h
    omega
/-- Of at most so many levels, with lists that are not huge; the ways down bind at most m names, none of them huge. -/
def fitV : Nat → Nat → Ex → Bool
  | 0, _, _ => false
  | n + 1, m, T => decide (T.kids.length ≤ 100000) && decide (T.arms.length ≤ 100000) && (T.k != 8 || decide (T.kids.length = 1)) && (List.range (chN T).length).all fun i => decide ((bnN T i).length ≤ m) && (bnN T i).all (fun x => decide (x.size ≤ 100000)) && match (chN T)[i]? with | some U => fitV n (m - (bnN T i).length) U | none => true
structure FitV (n m : Nat) (T : Ex) : Prop where
  kids : T.kids.length ≤ 100000
  arms : T.arms.length ≤ 100000
  one : T.k = 8 → T.kids.length = 1
  all : ∀ (i : Nat) (U : Ex), (chN T)[i]? = some U → (bnN T i).length ≤ m ∧ (∀ x ∈ bnN T i, x.size ≤ 100000) ∧ fitV n (m - (bnN T i).length) U = true
theorem fitV_open {n m : Nat} {T : Ex} (h : fitV (n + 1) m T = true) : FitV n m T := by
  simp only [fitV, Bool.and_eq_true, decide_eq_true_eq, List.all_eq_true, Bool.or_eq_true] at h
  obtain ⟨⟨⟨h1, h2⟩, h3⟩, h4⟩ := h
  refine ⟨h1, h2, fun e => ?_, fun i U hU => ?_⟩
  · rcases h3 with h3 | h3
    · rw [e] at h3; simp at h3
    · exact h3
  · obtain ⟨⟨h5, h6⟩, h7⟩ := h4 i (List.mem_range.2 (List.getElem?_eq_some_iff.1 hU).1)
    rw [hU] at h7
    exact ⟨h5, h6, h7⟩
theorem fitV_mk {n m : Nat} {T : Ex} (h : FitV n m T) : fitV (n + 1) m T = true := by
  simp only [fitV, Bool.and_eq_true, decide_eq_true_eq, List.all_eq_true, Bool.or_eq_true]
  refine ⟨⟨⟨h.kids, h.arms⟩, ?_⟩, fun i hi => ?_⟩
  · by_cases e : T.k = 8
    · exact .inr (h.one e)
    · left; simpa using e
  · obtain ⟨U, hU⟩ : ∃ U, (chN T)[i]? = some U := ⟨_, List.getElem?_eq_getElem (List.mem_range.1 hi)⟩
    obtain ⟨h1, h2, h3⟩ := h.all i U hU
    rw [hU]
    exact ⟨⟨h1, h2⟩, h3⟩
theorem fitV_pos {n m : Nat} {T : Ex} (h : fitV n m T = true) : ∃ k, n = k + 1 := by
  cases n with
  | zero => cases h
  | succ k => exact ⟨k, rfl⟩
theorem kid_V {n m : Nat} {T U : Ex} {z : Int} (h : fitV n m T = true) (hk : kidE T z = some U) : (bnN T z.toNat).length ≤ m ∧ (∀ x ∈ bnN T z.toNat, x.size ≤ 100000) ∧ ∃ k, fitV k (m - (bnN T z.toNat).length) U = true := by
  obtain ⟨k, rfl⟩ := fitV_pos h
  obtain ⟨h1, h2, h3⟩ := (fitV_open h).all _ U (kidE_some hk).2.1
  exact ⟨h1, h2, k, h3⟩
end Go.Proofs.Ytljgpgmaceackaa

/- The reference's At: the part of an expression at a path. -/
namespace Go.Proofs.Ytljgpgmaceackaa
open Go.RowKit Go.Maps Mth S3

/-- No expression at all. -/
def zE : List Value := [.int .i64 0, .int .i64 0, .string ⟨#[]⟩, .int .i64 0, .slice none 0 0, .slice none 0 0, .int .i64 0, .string ⟨#[]⟩, .int .i64 0, .int .i64 0, .slice none 0 0]
end Go.Proofs.Ytljgpgmaceackaa
