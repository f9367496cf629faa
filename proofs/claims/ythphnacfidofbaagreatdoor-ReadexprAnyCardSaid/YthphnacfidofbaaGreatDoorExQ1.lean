/- The contracts of chapter 4's reference: words, Children, on what is the same up to places. -/
import Derived.Test.YthphnacfidofbaaGreatDoorExMg
import Derived.Test.YthphnacfidofbaaGreatDoorExMa
import Derived.Test.YthphnacfidofbaaGreatDoorTyEqMa
import Derived.Deep.LoopGhost
namespace Go.Proofs.YthphnacfidofbaaGreatDoor
open Go.RowKit Go.Maps Mth

theorem teqL_same : ∀ l : List Ty, (∀ U ∈ l, teq U U = true) → teqL l l = true := by
  intro l
  induction l with
  | nil => intro _; rfl
  | cons x l ihl => intro hl; simp [teqL, hl x (by simp), ihl fun U hU => hl U (by simp [hU])]
theorem teq_same : ∀ (m : Nat) (T : Ty), nodes T ≤ m → teq T T = true := by
  intro m
  induction m with
  | zero => intro T h; have := nodes_pos T; omega
  | succ m ih =>
    intro T hm
    cases T with
    | mk k n i h ts =>
      have : teqL ts ts = true := teqL_same ts fun U hU => ih U (by have := nodesL_mem hU; simp only [nodes] at hm; omega)
      simp [teq, this]
theorem same_ty (T : Ty) (v u : Value) (S S' : Nat → Prop) (V : World) (h : Rep V S T v) (h' : Rep V S' T u) : Calls Tryz.prog 17 #[v, u] V fun e w' => e = .returned (.bool true) ∧ Below V.heap.size V w' := by
  have := refEqual_any _ T (Nat.le_refl _) T v u _ _ V h h'
  rwa [teq_same _ T (Nat.le_refl _)] at this
def chd (T : Ex) : List Ex := T.kids ++ T.arms.map (·.2)
/-- The eleven cells of an element, as a walk meets them. -/
theorem AtC.eleven {w : World} {ad : Addr} {j : Nat} {c0 c1 c2 c3 c4 c5 c6 c7 c8 c9 c10 : Value} (h : AtC w ad (j * 11) [c0, c1, c2, c3, c4, c5, c6, c7, c8, c9, c10]) :
    w.cell? (ad.add (j * 11)) = some c0 ∧ w.cell? ⟨(ad.add (j * 11)).block, (ad.add (j * 11)).off + 1, none⟩ = some c1 ∧ w.cell? ⟨(ad.add (j * 11)).block, (ad.add (j * 11)).off + 2, none⟩ = some c2 ∧ w.cell? ⟨(ad.add (j * 11)).block, (ad.add (j * 11)).off + 3, none⟩ = some c3 ∧ w.cell? ⟨(ad.add (j * 11)).block, (ad.add (j * 11)).off + 4, none⟩ = some c4 ∧ w.cell? ⟨(ad.add (j * 11)).block, (ad.add (j * 11)).off + 5, none⟩ = some c5 ∧ w.cell? ⟨(ad.add (j * 11)).block, (ad.add (j * 11)).off + 6, none⟩ = some c6 ∧ w.cell? ⟨(ad.add (j * 11)).block, (ad.add (j * 11)).off + 7, none⟩ = some c7 ∧ w.cell? ⟨(ad.add (j * 11)).block, (ad.add (j * 11)).off + 8, none⟩ = some c8 ∧ w.cell? ⟨(ad.add (j * 11)).block, (ad.add (j * 11)).off + 9, none⟩ = some c9 ∧ w.cell? ⟨(ad.add (j * 11)).block, (ad.add (j * 11)).off + 10, none⟩ = some c10 := by
  refine ⟨h 0 _ rfl, ?_, ?_, ?_, ?_, ?_, ?_, ?_, ?_, ?_, ?_⟩
  all_goals rw [add_add' _ _ _ (by omega)]
  · exact h 1 _ rfl
  · exact h 2 _ rfl
  · exact h 3 _ rfl
  · exact h 4 _ rfl
  · exact h 5 _ rfl
  · exact h 6 _ rfl
  · exact h 7 _ rfl
  · exact h 8 _ rfl
  · exact h 9 _ rfl
  · exact h 10 _ rfl
/-- append(nil, xs...): a copy. -/
theorem wpList_cloneG {α : Type} {w : World} {ops : Array Oper} {rest : List Oper} {o : Oper} {a : Act} {Q : Exit → Act → World → Prop} (E : El α) (hgd : o.guard = none) (s x : Operand)
    (ho : o.op = .call { callee := .builtin .append, args := #[s, x], argTypes := #[E.t, E.t] }) (hs : a.eval s = .slice none 0 0) (ys : List α) (xv : Value) (S : Nat → Prop) (hy : SlG E w S ys xv) (hx : a.eval x = xv) (hb : ys.length ≤ 1000000)
    (hK : ∀ (a' : Option Addr) (c' : Nat) (w' : World), RowG E w' w.heap.size (fun b => S b ∧ b < w.heap.size) (.slice a' ys.length c') ys → Below w.heap.size w w' → wpList Tryz.prog ops Q rest (a.put o.dst (.slice a' ys.length c')) w') :
    wpList Tryz.prog ops Q (o :: rest) a w := by
  obtain ⟨i, z, hi, hz, hk, hby, hzs⟩ := E.info
  obtain ⟨xa, xc, rfl, hcap, hj⟩ := hy.bound
  have hE := E.hby
  cases xa with
  | none =>
    have h0 : ys = [] := by
      cases ys with
      | nil => rfl
      | cons y ys => obtain ⟨ad, c, h1, -⟩ := hj 0 y rfl; cases h1
    subst h0
    refine wpList_plain hgd fun K hK' => ?_
    have hr : (Builtin.append_ #[E.t, E.t] o.type #[.slice none 0 0, .slice none 0 xc]).run Tryz.prog w = .ok (.slice none 0 0) w := by
      simp [Builtin.append_, run_underlying E.und, sizeOf, typeInfo, hi, Builtin.lenOf, Builtin.firstCells]
    unfold Oper.wp execOp
    simp only [ho, resolve, invoke, builtin, Sem.run_bind, Sem.run_pure, Result.andThen_ok, List.map_toArray, List.map_cons, List.map_nil, hs, hx, List.length_nil, hr]
    exact hK' _ _ (hK none 0 w (rowG_nil E w _ _) (Below.refl _ w))
  | some ad =>
    have hex : ∀ j : Nat, ∃ c : List Value, ∀ y, ys[j]? = some y → (∀ (m : Nat) (u : Value), c[m]? = some u → w.cell? (ad.add (j * E.k + m)) = some u) ∧ E.rep w (fun b => S b ∧ b < w.heap.size) y c := by
      intro j
      cases hy : ys[j]? with
      | none => exact ⟨[], fun y h => by cases h⟩
      | some y0 =>
        obtain ⟨ad', c, h1, -, h3, h4⟩ := hj j y0 hy
        cases h1
        exact ⟨c, fun y h => by cases h; exact ⟨h3, h4⟩⟩
    obtain ⟨g, hg⟩ := Classical.axiomOfChoice hex
    have hlen : ∀ c ∈ (List.range ys.length).map g, c.length = E.k ∧ ∀ u ∈ c, u.oneCell' = true := by
      intro c hc
      obtain ⟨j, hj', rfl⟩ := List.mem_map.1 hc
      rw [List.mem_range] at hj'
      exact E.len (hg j _ (List.getElem?_eq_getElem hj')).2
    have hfl : ((List.range ys.length).map g).flatten.length = ys.length * E.k := by
      rw [List.length_flatten]
      have : ((List.range ys.length).map g).map List.length = List.replicate ys.length E.k := by
        apply List.ext_getElem
        · simp
        · intro i h1 h2
          simp only [List.getElem_map, List.getElem_replicate]
          exact (hlen _ (List.mem_map.2 ⟨_, List.getElem_mem _, rfl⟩)).1
      rw [this]; simp
    refine wpList_append_own_at w hgd s x E.t ho w.heap.size E.e i z E.k E.by_ E.und hi hz hk hby hzs E.hk (.slice none 0 0) 0 [] hs (World.ownsRow_nil _ _ _ _) ad ys.length xc ((List.range ys.length).map g).flatten hx hfl ?_ ?_ (by unfold maxLen; omega) ?_ (Nat.le_refl _) ?_
    · intro n u hu
      have hn : n < ys.length * E.k := by rw [← hfl]; exact (List.getElem?_eq_some_iff.1 hu).1
      have hkp := E.hk
      obtain ⟨q, r, hq, hr, rfl⟩ : ∃ q r, q < ys.length ∧ r < E.k ∧ n = q * E.k + r := ⟨n / E.k, n % E.k, (Nat.div_lt_iff_lt_mul hkp).2 hn, Nat.mod_lt _ hkp, by rw [Nat.mul_comm]; exact (Nat.div_add_mod n E.k).symm⟩
      obtain ⟨h1, h2⟩ := hg q _ (List.getElem?_eq_getElem hq)
      have hl := (E.len h2).1
      have hgu := flat_get E.k _ (fun c h => (hlen c h).1) q r (g q) ((g q)[r]'(by omega)) (by simp [List.getElem?_map, List.getElem?_range hq]) (List.getElem?_eq_getElem _)
      rw [hu] at hgu
      cases hgu
      exact h1 r _ (List.getElem?_eq_getElem _)
    · intro u hu
      obtain ⟨c, hc, hu'⟩ := List.mem_flatten.1 hu
      exact (hlen c hc).2 u hu'
    · have := Nat.mul_le_mul (show 0 + ys.length ≤ 1000000 by omega) hE
      omega
    · intro v' w' hown hgr hnil hloc
      simp only [Nat.zero_add, List.nil_append] at hown
      have hgr' : w.grownBy w' none := hgr
      have hbl : Below w.heap.size w w' := ⟨hgr'.os, hgr'.tape, hgr'.output, hgr'.size, fun i hi => hgr'.block i hi (by simp)⟩
      have hrow : RowG E w' w.heap.size (fun b => S b ∧ b < w.heap.size) v' ys := by
        refine ⟨(List.range ys.length).map g, hown, by simp, fun j y hy => ?_⟩
        have hjl := (List.getElem?_eq_some_iff.1 hy).1
        refine ⟨g j, by simp [List.getElem?_map, List.getElem?_range hjl], E.kept (fun b hb => ⟨hb, ?_⟩) (fun b hb hlt => hbl.block b hlt) (hg j y hy).2⟩
        rcases hloc with e | e
        · rw [e]; simp [Value.ownBlock]
        · rw [e]; intro e'; have := Option.some.inj e'; have := hb.2; omega
      obtain ⟨a', c', rfl, -⟩ := hrow.slice
      exact hK _ _ _ hrow hbl
set_option maxHeartbeats 1600000 in
theorem words_same (vs : List ByteArray) (v u : Value) (S S' : Nat → Prop) (w : World) (h : SlG StrE w S vs v) (h' : SlG StrE w S' vs u) :
    Calls Tryz.prog 56 #[v, u] w fun e w' => e = .returned (.bool true) ∧ Below w.heap.size w w' := by
  obtain ⟨a, cap, rfl, ⟨hc1, hc2⟩, hj⟩ := h
  obtain ⟨a', cap', rfl, ⟨hc1', hc2'⟩, hj'⟩ := h'
  have HJ := Lib.hid hj
  have HJ' := Lib.hid hj'
  clear hj hj'
  unfold maxLen at hc2 hc2'
  obtain ⟨m, hm⟩ : ∃ m, m = vs.length := ⟨_, rfl⟩
  rw [← hm] at hc1 hc1' ⊢
  have HM := Lib.hid hm
  clear hm
  go_enter Tryz.func56, Tryz.ntmps56
  go_wp2
  go_loopw [5] (fun i wr => ∃ j : Nat, j ≤ m ∧ i = .int .i64 j ∧ Below w.heap.size w wr) (fun i _ => m - (intOf i).toNat)
  case atStart => exact ⟨0, Nat.zero_le _, rfl, Below.refl _ _⟩
  case round =>
    obtain ⟨j, hj, rfl, hb⟩ := hrel
    by_cases hlt : j < m
    · obtain ⟨x, hx⟩ : ∃ x, vs[j]? = some x := ⟨_, List.getElem?_eq_getElem (by rw [← HM.out]; exact hlt)⟩
      obtain ⟨ad, c, rfl, -, h1, h2⟩ := HJ.out j x hx
      obtain ⟨ad', c', rfl, -, h1', h2'⟩ := HJ'.out j x hx
      obtain rfl : c = [.string x] := h2
      obtain rfl : c' = [.string x] := h2'
      have g1 := h1 0 _ rfl
      have g1' := h1' 0 _ rfl
      have q1 := (hb.cell (World.block_lt_of_cell? _ _ g1)).trans g1
      have q1' := (hb.cell (World.block_lt_of_cell? _ _ g1')).trans g1'
      have hji : (j : Int) < (m : Int) := by omega
      clear h1 h1' hx g1 g1'
      simp only [StrE, Nat.mul_one, Nat.add_zero] at q1 q1'
      have hxx : (x.toList == x.toList) = true := by simp
      go_wp2
      go_quiet (fail)
      go_wp2
      go_roundw
      case rel => exact ⟨j + 1, hlt, by go_num, by first | exact below_drewN hb _ | exact hb⟩
      case measure => simp [intOf]; omega
    · go_wp2
      go_ret
      exact ⟨rfl, hb⟩
end Go.Proofs.YthphnacfidofbaaGreatDoor
