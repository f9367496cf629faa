import Derived.Test.YtgcefodgjhlbeaaGreatDoorCB5
import Derived.Test.YtgcefodgjhlbeaaGreatDoorCB1
import Derived.Test.YtgcefodgjhlbeaaGreatDoorCA5
import Derived.Deep.LoopGhost
import Derived.Test.YtgcefodgjhlbeaaGreatDoorCB4
import Derived.LoopTactic
import Derived.Lib.QuietBelow
import Derived.Deep.RegionHeld3
/- The contracts of chapter 4's reference: words, Children, on what is the same up to places. -/
namespace Go.Proofs.YtgcefodgjhlbeaaGreatDoor
open Go.RowKit Go.Maps Mth

theorem teqL_same : ∀ l : List Ty, (∀ U ∈ l, teq U U = true) → teqL l l = true := by
  intro l
  induction l with
  | nil => intro _; rfl
  | cons x l ihl => intro hl; simp [teqL, hl x (by simp), ihl fun U hU => hl U (by simp [hU])]
theorem teq_same : ∀ (m : Nat) (T : Ty), nodes T ≤ m → teq T T = true := by
  intro m
  induction m with
  | zero => intro T h; have := nodes_pos T; omega
  | succ m ih =>
    intro T hm
    cases T with
    | mk k n i h ts =>
      have : teqL ts ts = true := teqL_same ts fun U hU => ih U (by have := nodesL_mem hU; simp only [nodes] at hm; omega)
      simp [teq, this]
theorem same_ty (T : Ty) (v u : Value) (S S' : Nat → Prop) (V : World) (h : Rep V S T v) (h' : Rep V S' T u) : Calls Tryz.prog 33 #[v, u] V fun e w' => e = .returned (.bool true) ∧ Below V.heap.size V w' := by
  have := refEqual_any _ T (Nat.le_refl _) T v u _ _ V h h'
  rwa [teq_same _ T (Nat.le_refl _)] at this
def chd (T : Ex) : List Ex := T.kids ++ T.arms.map (·.2)
/-- The eleven cells of an element, as a walk meets them. -/
theorem AtC.eleven {w : World} {ad : Addr} {j : Nat} {c0 c1 c2 c3 c4 c5 c6 c7 c8 c9 c10 : Value} (h : AtC w ad (j * 11) [c0, c1, c2, c3, c4, c5, c6, c7, c8, c9, c10]) :
    w.cell? (ad.add (j * 11)) = some c0 ∧ w.cell? ⟨(ad.add (j * 11)).block, (ad.add (j * 11)).off + 1, none⟩ = some c1 ∧ w.cell? ⟨(ad.add (j * 11)).block, (ad.add (j * 11)).off + 2, none⟩ = some c2 ∧ w.cell? ⟨(ad.add (j * 11)).block, (ad.add (j * 11)).off + 3, none⟩ = some c3 ∧ w.cell? ⟨(ad.add (j * 11)).block, (ad.add (j * 11)).off + 4, none⟩ = some c4 ∧ w.cell? ⟨(ad.add (j * 11)).block, (ad.add (j * 11)).off + 5, none⟩ = some c5 ∧ w.cell? ⟨(ad.add (j * 11)).block, (ad.add (j * 11)).off + 6, none⟩ = some c6 ∧ w.cell? ⟨(ad.add (j * 11)).block, (ad.add (j * 11)).off + 7, none⟩ = some c7 ∧ w.cell? ⟨(ad.add (j * 11)).block, (ad.add (j * 11)).off + 8, none⟩ = some c8 ∧ w.cell? ⟨(ad.add (j * 11)).block, (ad.add (j * 11)).off + 9, none⟩ = some c9 ∧ w.cell? ⟨(ad.add (j * 11)).block, (ad.add (j * 11)).off + 10, none⟩ = some c10 := by
  refine ⟨h 0 _ rfl, ?_, ?_, ?_, ?_, ?_, ?_, ?_, ?_, ?_, ?_⟩
  all_goals rw [add_add' _ _ _ (by omega)]
  · exact h 1 _ rfl
  · exact h 2 _ rfl
  · exact h 3 _ rfl
  · exact h 4 _ rfl
  · exact h 5 _ rfl
  · exact h 6 _ rfl
  · exact h 7 _ rfl
  · exact h 8 _ rfl
  · exact h 9 _ rfl
  · exact h 10 _ rfl
/-- append(nil, xs...): a copy. -/
theorem wpList_cloneG {α : Type} {w : World} {ops : Array Oper} {rest : List Oper} {o : Oper} {a : Act} {Q : Exit → Act → World → Prop} (E : El α) (hgd : o.guard = none) (s x : Operand)
    (ho : o.op = .call { callee := .builtin .append, args := #[s, x], argTypes := #[E.t, E.t] }) (hs : a.eval s = .slice none 0 0) (ys : List α) (xv : Value) (S : Nat → Prop) (hy : SlG E w S ys xv) (hx : a.eval x = xv) (hb : ys.length ≤ 1000000)
    (hK : ∀ (a' : Option Addr) (c' : Nat) (w' : World), RowG E w' w.heap.size (fun b => S b ∧ b < w.heap.size) (.slice a' ys.length c') ys → Below w.heap.size w w' → wpList Tryz.prog ops Q rest (a.put o.dst (.slice a' ys.length c')) w') :
    wpList Tryz.prog ops Q (o :: rest) a w := by
  obtain ⟨i, z, hi, hz, hk, hby, hzs⟩ := E.info
  obtain ⟨xa, xc, rfl, hcap, hj⟩ := hy.bound
  have hE := E.hby
  cases xa with
  | none =>
    have h0 : ys = [] := by
      cases ys with
      | nil => rfl
      | cons y ys => obtain ⟨ad, c, h1, -⟩ := hj 0 y rfl; cases h1
    subst h0
    refine wpList_plain hgd fun K hK' => ?_
    have hr : (Builtin.append_ #[E.t, E.t] o.type #[.slice none 0 0, .slice none 0 xc]).run Tryz.prog w = .ok (.slice none 0 0) w := by
      simp [Builtin.append_, run_underlying E.und, sizeOf, typeInfo, hi, Builtin.lenOf, Builtin.firstCells]
    unfold Oper.wp execOp
    simp only [ho, resolve, invoke, builtin, Sem.run_bind, Sem.run_pure, Result.andThen_ok, List.map_toArray, List.map_cons, List.map_nil, hs, hx, List.length_nil, hr]
    exact hK' _ _ (hK none 0 w (rowG_nil E w _ _) (Below.refl _ w))
  | some ad =>
    have hex : ∀ j : Nat, ∃ c : List Value, ∀ y, ys[j]? = some y → (∀ (m : Nat) (u : Value), c[m]? = some u → w.cell? (ad.add (j * E.k + m)) = some u) ∧ E.rep w (fun b => S b ∧ b < w.heap.size) y c := by
      intro j
      cases hy : ys[j]? with
      | none => exact ⟨[], fun y h => by cases h⟩
      | some y0 =>
        obtain ⟨ad', c, h1, -, h3, h4⟩ := hj j y0 hy
        cases h1
        exact ⟨c, fun y h => by cases h; exact ⟨h3, h4⟩⟩
    obtain ⟨g, hg⟩ := Classical.axiomOfChoice hex
    have hlen : ∀ c ∈ (List.range ys.length).map g, c.length = E.k ∧ ∀ u ∈ c, u.oneCell' = true := by
      intro c hc
      obtain ⟨j, hj', rfl⟩ := List.mem_map.1 hc
      rw [List.mem_range] at hj'
      exact E.len (hg j _ (List.getElem?_eq_getElem hj')).2
    have hfl : ((List.range ys.length).map g).flatten.length = ys.length * E.k := by
      rw [List.length_flatten]
      have : ((List.range ys.length).map g).map List.length = List.replicate ys.length E.k := by
        apply List.ext_getElem
        · simp
        · intro i h1 h2
          simp only [List.getElem_map, List.getElem_replicate]
          exact (hlen _ (List.mem_map.2 ⟨_, List.getElem_mem _, rfl⟩)).1
      rw [this]; simp
    refine wpList_append_own_at w hgd s x E.t ho w.heap.size E.e i z E.k E.by_ E.und hi hz hk hby hzs E.hk (.slice none 0 0) 0 [] hs (World.ownsRow_nil _ _ _ _) ad ys.length xc ((List.range ys.length).map g).flatten hx hfl ?_ ?_ (by unfold maxLen; omega) ?_ (Nat.le_refl _) ?_
    · intro n u hu
      have hn : n < ys.length * E.k := by rw [← hfl]; exact (List.getElem?_eq_some_iff.1 hu).1
      have hkp := E.hk
      obtain ⟨q, r, hq, hr, rfl⟩ : ∃ q r, q < ys.length ∧ r < E.k ∧ n = q * E.k + r := ⟨n / E.k, n % E.k, (Nat.div_lt_iff_lt_mul hkp).2 hn, Nat.mod_lt _ hkp, by rw [Nat.mul_comm]; exact (Nat.div_add_mod n E.k).symm⟩
      obtain ⟨h1, h2⟩ := hg q _ (List.getElem?_eq_getElem hq)
      have hl := (E.len h2).1
      have hgu := flat_get E.k _ (fun c h => (hlen c h).1) q r (g q) ((g q)[r]'(by omega)) (by simp [List.getElem?_map, List.getElem?_range hq]) (List.getElem?_eq_getElem _)
      rw [hu] at hgu
      cases hgu
      exact h1 r _ (List.getElem?_eq_getElem _)
    · intro u hu
      obtain ⟨c, hc, hu'⟩ := List.mem_flatten.1 hu
      exact (hlen c hc).2 u hu'
    · have := Nat.mul_le_mul (show 0 + ys.length ≤ 1000000 by omega) hE
      omega
    · intro v' w' hown hgr hnil hloc
      simp only [Nat.zero_add, List.nil_append] at hown
      have hgr' : w.grownBy w' none := hgr
      have hbl : Below w.heap.size w w' := ⟨hgr'.os, hgr'.tape, hgr'.output, hgr'.size, fun i hi => hgr'.block i hi (by simp)⟩
      have hrow : RowG E w' w.heap.size (fun b => S b ∧ b < w.heap.size) v' ys := by
        refine ⟨(List.range ys.length).map g, hown, by simp, fun j y hy => ?_⟩
        have hjl := (List.getElem?_eq_some_iff.1 hy).1
        refine ⟨g j, by simp [List.getElem?_map, List.getElem?_range hjl], E.kept (fun b hb => ⟨hb, ?_⟩) (fun b hb hlt => hbl.block b hlt) (hg j y hy).2⟩
        rcases hloc with e | e
        · rw [e]; simp [Value.ownBlock]
        · rw [e]; intro e'; have := Option.some.inj e'; have := hb.2; omega
      obtain ⟨a', c', rfl, -⟩ := hrow.slice
      exact hK _ _ _ hrow hbl
set_option maxHeartbeats 1600000 in
theorem words_same (vs : List ByteArray) (v u : Value) (S S' : Nat → Prop) (w : World) (h : SlG StrE w S vs v) (h' : SlG StrE w S' vs u) :
    Calls Tryz.prog 34 #[v, u] w fun e w' => e = .returned (.bool true) ∧ Below w.heap.size w w' := by
  obtain ⟨a, cap, rfl, ⟨hc1, hc2⟩, hj⟩ := h
  obtain ⟨a', cap', rfl, ⟨hc1', hc2'⟩, hj'⟩ := h'
  have HJ := Lib.hid hj
  have HJ' := Lib.hid hj'
  clear hj hj'
  unfold maxLen at hc2 hc2'
  obtain ⟨m, hm⟩ : ∃ m, m = vs.length := ⟨_, rfl⟩
  rw [← hm] at hc1 hc1' ⊢
  have HM := Lib.hid hm
  clear hm
  go_enter Tryz.func34, Tryz.ntmps34
  go_wp2
  go_loopw [5] (fun i wr => ∃ j : Nat, j ≤ m ∧ i = .int .i64 j ∧ Below w.heap.size w wr) (fun i _ => m - (intOf i).toNat)
  case atStart => exact ⟨0, Nat.zero_le _, rfl, Below.refl _ _⟩
  case round =>
    obtain ⟨j, hj, rfl, hb⟩ := hrel
    by_cases hlt : j < m
    · obtain ⟨x, hx⟩ : ∃ x, vs[j]? = some x := ⟨_, List.getElem?_eq_getElem (by rw [← HM.out]; exact hlt)⟩
      obtain ⟨ad, c, rfl, -, h1, h2⟩ := HJ.out j x hx
      obtain ⟨ad', c', rfl, -, h1', h2'⟩ := HJ'.out j x hx
      obtain rfl : c = [.string x] := h2
      obtain rfl : c' = [.string x] := h2'
      have g1 := h1 0 _ rfl
      have g1' := h1' 0 _ rfl
      have q1 := (hb.cell (World.block_lt_of_cell? _ _ g1)).trans g1
      have q1' := (hb.cell (World.block_lt_of_cell? _ _ g1')).trans g1'
      have hji : (j : Int) < (m : Int) := by omega
      clear h1 h1' hx g1 g1'
      simp only [StrE, Nat.mul_one, Nat.add_zero] at q1 q1'
      have hxx : (x.toList == x.toList) = true := by simp
      go_wp2
      go_quiet (fail)
      go_wp2
      go_roundw
      case rel => exact ⟨j + 1, hlt, by go_num, by first | exact below_drewN hb _ | exact hb⟩
      case measure => simp [intOf]; omega
    · go_wp2
      go_ret
      exact ⟨rfl, hb⟩
end Go.Proofs.YtgcefodgjhlbeaaGreatDoor

/- The contracts of chapter 4's reference: Children. -/
namespace Go.Proofs.YtgcefodgjhlbeaaGreatDoor
open Go.RowKit Go.Maps Mth

theorem slG_lift {α : Type} {E : El α} {w w' : World} {S : Nat → Prop} {xs : List α} {v : Value} (h : SlG E w S xs v) (hb : Below w.heap.size w w') : SlG E w' S xs v := SlG.kept (fun _ h => h) (fun g _ hl => hb.block g hl) h
/-- The cells of an arm's body, as a walk meets them. -/
theorem body11 {w : World} {ad : Addr} {j : Nat} {v0 v1 v2 c0 c1 c2 c3 c4 c5 c6 c7 c8 c9 c10 : Value} (h : ∀ (m : Nat) (u : Value), [v0, v1, v2, c0, c1, c2, c3, c4, c5, c6, c7, c8, c9, c10][m]? = some u → w.cell? (ad.add (j * 14 + m)) = some u) :
    w.cell? ⟨(ad.add (j * 14)).block, (ad.add (j * 14)).off + 3, none⟩ = some c0 ∧ w.cell? ⟨(ad.add (j * 14)).block, (ad.add (j * 14)).off + 3 + 1, none⟩ = some c1 ∧ w.cell? ⟨(ad.add (j * 14)).block, (ad.add (j * 14)).off + 3 + 2, none⟩ = some c2 ∧ w.cell? ⟨(ad.add (j * 14)).block, (ad.add (j * 14)).off + 3 + 3, none⟩ = some c3 ∧ w.cell? ⟨(ad.add (j * 14)).block, (ad.add (j * 14)).off + 3 + 4, none⟩ = some c4 ∧ w.cell? ⟨(ad.add (j * 14)).block, (ad.add (j * 14)).off + 3 + 5, none⟩ = some c5 ∧ w.cell? ⟨(ad.add (j * 14)).block, (ad.add (j * 14)).off + 3 + 6, none⟩ = some c6 ∧ w.cell? ⟨(ad.add (j * 14)).block, (ad.add (j * 14)).off + 3 + 7, none⟩ = some c7 ∧ w.cell? ⟨(ad.add (j * 14)).block, (ad.add (j * 14)).off + 3 + 8, none⟩ = some c8 ∧ w.cell? ⟨(ad.add (j * 14)).block, (ad.add (j * 14)).off + 3 + 9, none⟩ = some c9 ∧ w.cell? ⟨(ad.add (j * 14)).block, (ad.add (j * 14)).off + 3 + 10, none⟩ = some c10 := by
  refine ⟨?_, ?_, ?_, ?_, ?_, ?_, ?_, ?_, ?_, ?_, ?_⟩
  all_goals (try rw [Nat.add_assoc _ 3]); rw [add_add' _ _ _ (by omega)]
  · exact h 3 _ rfl
  · exact h 4 _ rfl
  · exact h 5 _ rfl
  · exact h 6 _ rfl
  · exact h 7 _ rfl
  · exact h 8 _ rfl
  · exact h 9 _ rfl
  · exact h 10 _ rfl
  · exact h 11 _ rfl
  · exact h 12 _ rfl
  · exact h 13 _ rfl
theorem body_rep {w V : World} {S : Nat → Prop} {v : Value} {T : Ex} {c : List Value} (h : RepE V S T c) (hb : Below V.heap.size V w) (hv : ∀ k, v.ownBlock = some k → V.heap.size ≤ k) (o : Obj) : RepE (w.alloc o) (fun b => (S b ∧ b < V.heap.size) ∧ some b ≠ v.ownBlock) T c := by
  have h1 := h.bound.kept (S' := fun b => (S b ∧ b < V.heap.size) ∧ some b ≠ v.ownBlock) (fun g hg => ⟨hg, fun e => by have := hv g e.symm; have := hg.2; omega⟩) (fun g hg _ => hb.block g hg.2)
  exact h1.lift ((Below.refl _ w).alloc (Nat.le_refl _) o)
set_option maxRecDepth 100000 in
set_option maxHeartbeats 6400000 in
theorem children_any (T : Ex) (hb : T.kids.length ≤ 2 ∧ T.arms.length ≤ 900000) (S : Nat → Prop) (c : List Value) (w : World) (h : RepE w S T c) :
    Calls Tryz.prog 36 #[.agg c.toArray] w fun e w' => ∃ a cp, e = .returned (.slice a (chd T).length cp) ∧ SlG ExE w' (fun _ => True) (chd T) (.slice a (chd T).length cp) ∧ Below w.heap.size w w' := by
  have HR := Lib.hid h
  obtain ⟨kv, av, tc0, hc0, -, hk, ha, -⟩ := h.open
  obtain ⟨ka, kc, aa, ac, tk, tn, ti, th, ta, tl, tc, rfl⟩ := h.form
  simp only [List.cons.injEq] at hc0
  obtain ⟨-, -, -, -, rfl, rfl, -⟩ := hc0
  have hba : Below w.heap.size w (w.alloc (.cells #[.int .i64 T.k, .int .i64 T.p, .string T.n, .int .i64 T.m, .slice ka T.kids.length kc, .slice aa T.arms.length ac, .int .i64 tk, .string tn, .int .i64 ti, .int .i64 th, .slice ta tl tc] 34)) := (Below.refl _ w).alloc (Nat.le_refl _) _
  have HB0 := Lib.hid (BoxC.made 34 w [.int .i64 T.k, .int .i64 T.p, .string T.n, .int .i64 T.m, .slice ka T.kids.length kc, .slice aa T.arms.length ac, .int .i64 tk, .string tn, .int .i64 ti, .int .i64 th, .slice ta tl tc])
  have HK := Lib.hid (slG_lift hk hba)
  have HA := Lib.hid (slG_lift ha hba)
  have HBa := Lib.hid hba
  have hkb := hb.1
  have hab := hb.2
  obtain ⟨n, hn⟩ : ∃ n, n = T.arms.length := ⟨_, rfl⟩
  have HN := Lib.hid hn
  rw [← hn] at hab
  simp only [← hn] at HB0 HA HBa HK ⊢
  clear h hk ha hba hb hn
  simp only [List.toArray] at HB0 ⊢
  go_enter Tryz.func36, Tryz.ntmps36
  go_upto_region 1 with fail
  generalize (w.alloc (.cells #[.int .i64 T.k, .int .i64 T.p, .string T.n, .int .i64 T.m, .slice ka T.kids.length kc, .slice aa n ac, .int .i64 tk, .string tn, .int .i64 ti, .int .i64 th, .slice ta tl tc] 34)) = V at *
  obtain ⟨b0, b1, b2, b3, b4, b5, b6, b7, b8, b9, b10⟩ := HB0.out.all11
  go_wp2_with (at_builtin; refine wpList_cloneG ExE rfl _ _ rfl rfl T.kids _ S HK.out rfl (by omega) ?_; intro sa0 sc0 V2 hrow0 hb0; have HRow0 := Lib.hid hrow0; have HB2 := Lib.hid hb0; clear hrow0 hb0)
  clear b0 b1 b2 b3 b4 b5 b6 b7 b8 b9 b10
  go_loopw [3, 4] (fun y i wr => ∃ (j : Nat) (l : List Ex) (sa : Option Addr) (sc : Nat), j ≤ n ∧ i = .int .i64 j ∧ y = .slice sa l.length sc ∧ l.length ≤ 2 + j ∧ Hid (l = T.kids ++ (T.arms.take j).map (·.2)) ∧ Hid (RowG ExE wr V.heap.size (fun b => S b ∧ b < V.heap.size) (.slice sa l.length sc) l) ∧ Hid (Below V.heap.size V wr)) (fun _ i _ => n - (intOf i).toNat)
  case atStart => exact ⟨0, T.kids, sa0, sc0, Nat.zero_le _, rfl, rfl, by omega, by show _ = _; simp, HRow0, HB2⟩
  case round =>
    clear HRow0 HB2
    obtain ⟨j, l, sa, sc, hj, rfl, rfl, hll, HL, HRow, HBr⟩ := hrel
    obtain ⟨b0, b1, b2, b3, b4, b5, b6, b7, b8, b9, b10⟩ := (BoxC.lift HB0.out HBr.out).all11
    by_cases hlt : j < n
    · obtain ⟨A, hA⟩ : ∃ x, T.arms[j]? = some x := ⟨_, List.getElem?_eq_getElem (by rw [← HN.out]; exact hlt)⟩
      obtain ⟨xa, xc, exa, -, hja⟩ := HA.out
      simp only [Value.slice.injEq] at exa
      obtain ⟨rfl, -, rfl⟩ := exa
      obtain ⟨ad, c, rfl, -, hcells, ⟨vv, cb, rfl, -, hrepb⟩⟩ := hja j A hA
      have HLt : Hid ((T.arms.take (j + 1)).map (·.2) = (T.arms.take j).map (·.2) ++ [A.2]) := by show _ = _; rw [List.take_add_one, hA]; simp
      have HRepB := Lib.hid hrepb
      obtain ⟨kb, kd, ab, ae, uk, un, ui, uh, ua, ul, uc, rfl⟩ := hrepb.form
      have hcells' : ∀ (m : Nat) (u : Value), (.int .i64 A.1.pos :: .string A.1.con :: vv :: [.int .i64 A.2.k, .int .i64 A.2.p, .string A.2.n, .int .i64 A.2.m, .slice kb A.2.kids.length kd, .slice ab A.2.arms.length ae, .int .i64 uk, .string un, .int .i64 ui, .int .i64 uh, .slice ua ul uc])[m]? = some u → wr.cell? (ad.add (j * 14 + m)) = some u := fun m u hu => by
        have h1 : V.cell? (ad.add (j * 14 + m)) = some u := hcells m u hu
        rw [HBr.out.cell (World.block_lt_of_cell? _ _ h1)]; exact h1
      obtain ⟨q0, q1, q2, q3, q4, q5, q6, q7, q8, q9, q10⟩ := body11 hcells'
      have HOwn := Lib.hid (fun k e => (RowG.lt HRow.out k e).1)
      have hji : (j : Int) < (n : Int) := by omega
      have hsz := HBr.out.size
      clear hA hja hcells hcells' hrepb
      go_wp2_with (at_builtin; refine wpList_pushG ExE rfl _ _ rfl V.heap.size (fun b => S b ∧ b < V.heap.size) _ l rfl (HRow.out.lift ((Below.refl _ wr).alloc (Nat.le_refl _) _)) wr.heap.size 34 [.int .i64 A.2.k, .int .i64 A.2.p, .string A.2.n, .int .i64 A.2.m, .slice kb A.2.kids.length kd, .slice ab A.2.arms.length ae, .int .i64 uk, .string un, .int .i64 ui, .int .i64 uh, .slice ua ul uc] (heap_alloc_new wr _) rfl A.2 (body_rep HRepB.out HBr.out HOwn.out _) (l.length + 1) rfl (by omega) (by simp; omega) ?_; intro sa' sc' w' hrow' hg'; have HRow' := Lib.hid hrow'; have HG' := Lib.hid hg'; clear hrow' hg')
      have HBw : Hid (Below V.heap.size V w') := Below.grown (HBr.out.alloc HBr.out.size _) HG'.out (by simp; omega) HOwn.out
      clear q0 q1 q2 q3 q4 q5 q6 q7 q8 q9 q10 b0 b1 b2 b3 b4 b5 b6 b7 b8 b9 b10 HG' hsz
      go_roundw
      case rel => exact ⟨j + 1, l ++ [A.2], sa', sc', hlt, by go_num, by simp, by simp; omega, by show _ = _; rw [HLt.out, HL.out, List.append_assoc], by simpa using HRow', HBw⟩
      case measure => simp [intOf]; omega
    · obtain rfl : l = chd T := by
        rw [HL.out, List.take_of_length_le (by rw [← HN.out]; omega)]; rfl
      go_wp2
      go_ret
      exact ⟨sa, sc, rfl, HRow.out.slG (fun _ _ => trivial) (fun _ _ => trivial), HBa.out.trans (HBr.out.mono HBa.out.size)⟩
end Go.Proofs.YtgcefodgjhlbeaaGreatDoor

/- Chapter 4's reference: Equal and EqualAll on expressions that are the same up to places. -/
namespace Go.Proofs.YtgcefodgjhlbeaaGreatDoor
open Go.RowKit Go.Maps Mth

theorem stripL_map : ∀ l : List Ex, stripL l = l.map strip
  | [] => rfl
  | e :: l => by rw [stripL, stripL_map l]; rfl
theorem stripA_map : ∀ l : List (AH × Ex), stripA l = l.map fun A => (⟨0, A.1.con, A.1.vars⟩, strip A.2)
  | [] => rfl
  | (h, e) :: l => by rw [stripA, stripA_map l]; rfl
/-- What is the same up to places. -/
structure Str (T U : Ex) : Prop where
  k : U.k = T.k
  n : U.n = T.n
  m : U.m = T.m
  t : U.t = T.t
  lk : U.kids.length = T.kids.length
  la : U.arms.length = T.arms.length
  arm : ∀ (j : Nat) (A B : AH × Ex), T.arms[j]? = some A → U.arms[j]? = some B → B.1.con = A.1.con ∧ B.1.vars = A.1.vars
  ch : ∀ (j : Nat) (x y : Ex), (chd T)[j]? = some x → (chd U)[j]? = some y → strip x = strip y
theorem str_of {T U : Ex} (h : strip T = strip U) : Str T U := by
  cases T with
  | mk k p n m t kids arms =>
    cases U with
    | mk k' p' n' m' t' kids' arms' =>
      simp only [strip, stripL_map, stripA_map, Ex.mk.injEq] at h
      obtain ⟨rfl, -, rfl, rfl, rfl, hk, ha⟩ := h
      have lk : kids'.length = kids.length := by simpa using (congrArg List.length hk).symm
      have la : arms'.length = arms.length := by simpa using (congrArg List.length ha).symm
      refine ⟨rfl, rfl, rfl, rfl, lk, la, fun j A B hA hB => ?_, fun j x y hx hy => ?_⟩
      · have := congrArg (fun l => l[j]?) ha
        simp only [List.getElem?_map] at this
        rw [show arms[j]? = some A from hA, show arms'[j]? = some B from hB] at this
        simp at this
        exact ⟨this.1.1.symm, this.1.2.symm⟩
      · have h1 : (chd (.mk k p n m t kids arms)).map strip = (chd (.mk k p' n m t kids' arms')).map strip := by
          show (kids ++ arms.map (·.2)).map strip = (kids' ++ arms'.map (·.2)).map strip
          rw [List.map_append, List.map_append, hk]
          congr 1
          have := congrArg (List.map (·.2)) ha
          rw [List.map_map, List.map_map] at this
          rw [List.map_map, List.map_map]
          exact this
        have := congrArg (fun l => l[j]?) h1
        simp only [List.getElem?_map] at this
        rw [hx, hy] at this
        simpa using this
theorem chd_len {T : Ex} : (chd T).length = T.kids.length + T.arms.length := by simp [chd]
theorem chd_bnd {T : Ex} (h : bndE T = true) {x : Ex} (hx : x ∈ chd T) : bndE x = true := by
  cases T with
  | mk k p n m t kids arms =>
    simp only [bndE, Bool.and_eq_true] at h
    rcases List.mem_append.1 hx with h1 | h1
    · exact bndK_mem h.1.2 h1
    · obtain ⟨A, hA, rfl⟩ := List.mem_map.1 h1
      exact bndA_mem h.2 hA
theorem bnd_len {T : Ex} (h : bndE T = true) : T.kids.length ≤ 2 ∧ T.arms.length ≤ 900000 := by
  cases T with
  | mk k p n m t kids arms =>
    simp only [bndE, Bool.and_eq_true, decide_eq_true_eq] at h
    exact ⟨h.1.1.1, h.1.1.2⟩
/-- Equal of an expression and what is the same up to places. -/
def EqE (f : FuncId) (T : Ex) : Prop := ∀ U, strip T = strip U → bndE T = true → bndE U = true → ∀ (c d : List Value) (S S' : Nat → Prop) (w : World), RepE w S T c → RepE w S' U d → Calls Tryz.prog f #[.agg c.toArray, .agg d.toArray] w fun e w' => e = .returned (.bool true) ∧ Below w.heap.size w w'
set_option maxRecDepth 100000 in
set_option maxHeartbeats 6400000 in
theorem equalAll_of (l l' : List Ex) (H : ∀ (j : Nat) (x y : Ex), l[j]? = some x → l'[j]? = some y → ∀ (c d : List Value) (S S' : Nat → Prop) (w : World), RepE w S x c → RepE w S' y d → Calls Tryz.prog 14 #[.agg c.toArray, .agg d.toArray] w fun e w' => e = .returned (.bool true) ∧ Below w.heap.size w w')
    (hlen : l'.length = l.length) (v u : Value) (S S' : Nat → Prop) (w : World) (h : SlG ExE w S l v) (h' : SlG ExE w S' l' u) : Calls Tryz.prog 35 #[v, u] w fun e w' => e = .returned (.bool true) ∧ Below w.heap.size w w' := by
  obtain ⟨a, cap, rfl, ⟨hc1, hc2⟩, hj⟩ := h
  obtain ⟨a', cap', rfl, ⟨hc1', hc2'⟩, hj'⟩ := h'
  rw [hlen] at hc1' ⊢
  have HJ := Lib.hid hj
  have HJ' := Lib.hid hj'
  have HH := Lib.hid H
  have HLen := Lib.hid hlen
  clear hj hj' H hlen
  unfold maxLen at hc2 hc2'
  obtain ⟨m, hm⟩ : ∃ m, m = l.length := ⟨_, rfl⟩
  rw [← hm] at hc1 hc1' ⊢
  have HM := Lib.hid hm
  clear hm
  go_enter Tryz.func35, Tryz.ntmps35
  go_wp2
  go_loopw [5] (fun i wr => ∃ j : Nat, j ≤ m ∧ i = .int .i64 j ∧ Hid (Below w.heap.size w wr)) (fun i _ => m - (intOf i).toNat)
  case atStart => exact ⟨0, Nat.zero_le _, rfl, Below.refl _ _⟩
  case round =>
    obtain ⟨j, hj, rfl, HB⟩ := hrel
    by_cases hlt : j < m
    · obtain ⟨x, hx⟩ : ∃ x, l[j]? = some x := ⟨_, List.getElem?_eq_getElem (by rw [← HM.out]; exact hlt)⟩
      obtain ⟨y, hy⟩ : ∃ x, l'[j]? = some x := ⟨_, List.getElem?_eq_getElem (by rw [HLen.out, ← HM.out]; exact hlt)⟩
      obtain ⟨ad, c, rfl, -, h1, h2⟩ := HJ.out j x hx
      obtain ⟨ad', d, rfl, -, h1', h2'⟩ := HJ'.out j y hy
      have HC := Lib.hid (HH.out j x y hx hy c d S S')
      have HX := Lib.hid (RepE.lift h2 HB.out)
      have HY := Lib.hid (RepE.lift h2' HB.out)
      have g1 : AtC wr ad (j * 11) c := fun m u hu => by have h : w.cell? (ad.add (j * 11 + m)) = some u := h1 m u hu; rw [HB.out.cell (World.block_lt_of_cell? _ _ h)]; exact h
      have g2 : AtC wr ad' (j * 11) d := fun m u hu => by have h : w.cell? (ad'.add (j * 11 + m)) = some u := h1' m u hu; rw [HB.out.cell (World.block_lt_of_cell? _ _ h)]; exact h
      obtain ⟨ka, kc, aa, ac, tk, tn, ti, th, ta, tl, tc, rfl⟩ := RepE.form h2
      obtain ⟨ka2, kc2, aa2, ac2, tk2, tn2, ti2, th2, ta2, tl2, tc2, rfl⟩ := RepE.form h2'
      obtain ⟨q0, q1, q2, q3, q4, q5, q6, q7, q8, q9, q10⟩ := g1.eleven
      obtain ⟨r0, r1, r2, r3, r4, r5, r6, r7, r8, r9, r10⟩ := g2.eleven
      clear hx hy h1 h1' h2 h2' g1 g2
      have Q0 := cell_regrown q0; have Q1 := cell_regrown q1; have Q2 := cell_regrown q2; have Q3 := cell_regrown q3; have Q4 := cell_regrown q4; have Q5 := cell_regrown q5; have Q6 := cell_regrown q6; have Q7 := cell_regrown q7; have Q8 := cell_regrown q8; have Q9 := cell_regrown q9; have Q10 := cell_regrown q10
      have R0 := cell_regrown r0; have R1 := cell_regrown r1; have R2 := cell_regrown r2; have R3 := cell_regrown r3; have R4 := cell_regrown r4; have R5 := cell_regrown r5; have R6 := cell_regrown r6; have R7 := cell_regrown r7; have R8 := cell_regrown r8; have R9 := cell_regrown r9; have R10 := cell_regrown r10
      have hji : (j : Int) < (m : Int) := by omega
      go_wp2
      refine wp_region_quiet_below (by kernel_rfl) (by kernel_rfl) ?_
      repeat (quiet_step ((go_at_call 14; exact Calls.regrown_of (HC.out _ (HX.out.lift (below_regrown _ _ _)) (HY.out.lift (below_regrown _ _ _))))))
      refine wpQuiet_nil ?_
      intro _ hw'
      obtain ⟨⟨dq, osq⟩, hw''⟩ := hw'
      subst hw''
      have HB2 := Lib.hid (HB.out.trans ((below_regrown wr dq osq).mono HB.out.size))
      clear q0 q1 q2 q3 q4 q5 q6 q7 q8 q9 q10 r0 r1 r2 r3 r4 r5 r6 r7 r8 r9 r10 Q0 Q1 Q2 Q3 Q4 Q5 Q6 Q7 Q8 Q9 Q10 R0 R1 R2 R3 R4 R5 R6 R7 R8 R9 R10
      go_wp2
      go_roundw
      case rel => exact ⟨j + 1, hlt, by go_num, HB2⟩
      case measure => simp [intOf]; omega
    · go_wp2
      go_ret
      exact ⟨rfl, HB.out⟩
end Go.Proofs.YtgcefodgjhlbeaaGreatDoor
