/- Chapter 4's reference: Equal and EqualAll on expressions that are the same up to places. -/
import Derived.Test.YthphnacfidofbaaGreatDoorExQ2
import Derived.Lib.QuietBelow
import Derived.Deep.RegionHeld3
namespace Go.Proofs.YthphnacfidofbaaGreatDoor
open Go.RowKit Go.Maps Mth

theorem stripL_map : ∀ l : List Ex, stripL l = l.map strip
  | [] => rfl
  | e :: l => by rw [stripL, stripL_map l]; rfl
theorem stripA_map : ∀ l : List (AH × Ex), stripA l = l.map fun A => (⟨0, A.1.con, A.1.vars⟩, strip A.2)
  | [] => rfl
  | (h, e) :: l => by rw [stripA, stripA_map l]; rfl
/-- What is the same up to places. -/
structure Str (T U : Ex) : Prop where
  k : U.k = T.k
  n : U.n = T.n
  m : U.m = T.m
  t : U.t = T.t
  lk : U.kids.length = T.kids.length
  la : U.arms.length = T.arms.length
  arm : ∀ (j : Nat) (A B : AH × Ex), T.arms[j]? = some A → U.arms[j]? = some B → B.1.con = A.1.con ∧ B.1.vars = A.1.vars
  ch : ∀ (j : Nat) (x y : Ex), (chd T)[j]? = some x → (chd U)[j]? = some y → strip x = strip y
theorem str_of {T U : Ex} (h : strip T = strip U) : Str T U := by
  cases T with
  | mk k p n m t kids arms =>
    cases U with
    | mk k' p' n' m' t' kids' arms' =>
      simp only [strip, stripL_map, stripA_map, Ex.mk.injEq] at h
      obtain ⟨rfl, -, rfl, rfl, rfl, hk, ha⟩ := h
      have lk : kids'.length = kids.length := by simpa using (congrArg List.length hk).symm
      have la : arms'.length = arms.length := by simpa using (congrArg List.length ha).symm
      refine ⟨rfl, rfl, rfl, rfl, lk, la, fun j A B hA hB => ?_, fun j x y hx hy => ?_⟩
      · have := congrArg (fun l => l[j]?) ha
        simp only [List.getElem?_map] at this
        rw [show arms[j]? = some A from hA, show arms'[j]? = some B from hB] at this
        simp at this
        exact ⟨this.1.1.symm, this.1.2.symm⟩
      · have h1 : (chd (.mk k p n m t kids arms)).map strip = (chd (.mk k p' n m t kids' arms')).map strip := by
          show (kids ++ arms.map (·.2)).map strip = (kids' ++ arms'.map (·.2)).map strip
          rw [List.map_append, List.map_append, hk]
          congr 1
          have := congrArg (List.map (·.2)) ha
          rw [List.map_map, List.map_map] at this
          rw [List.map_map, List.map_map]
          exact this
        have := congrArg (fun l => l[j]?) h1
        simp only [List.getElem?_map] at this
        rw [hx, hy] at this
        simpa using this
theorem chd_len {T : Ex} : (chd T).length = T.kids.length + T.arms.length := by simp [chd]
theorem chd_bnd {T : Ex} (h : bndE T = true) {x : Ex} (hx : x ∈ chd T) : bndE x = true := by
  cases T with
  | mk k p n m t kids arms =>
    simp only [bndE, Bool.and_eq_true] at h
    rcases List.mem_append.1 hx with h1 | h1
    · exact bndK_mem h.1.2 h1
    · obtain ⟨A, hA, rfl⟩ := List.mem_map.1 h1
      exact bndA_mem h.2 hA
theorem bnd_len {T : Ex} (h : bndE T = true) : T.kids.length ≤ 2 ∧ T.arms.length ≤ 900000 := by
  cases T with
  | mk k p n m t kids arms =>
    simp only [bndE, Bool.and_eq_true, decide_eq_true_eq] at h
    exact ⟨h.1.1.1, h.1.1.2⟩
/-- Equal of an expression and what is the same up to places. -/
def EqE (f : FuncId) (T : Ex) : Prop := ∀ U, strip T = strip U → bndE T = true → bndE U = true → ∀ (c d : List Value) (S S' : Nat → Prop) (w : World), RepE w S T c → RepE w S' U d → Calls Tryz.prog f #[.agg c.toArray, .agg d.toArray] w fun e w' => e = .returned (.bool true) ∧ Below w.heap.size w w'
set_option maxRecDepth 100000 in
set_option maxHeartbeats 6400000 in
theorem equalAll_of (l l' : List Ex) (H : ∀ (j : Nat) (x y : Ex), l[j]? = some x → l'[j]? = some y → ∀ (c d : List Value) (S S' : Nat → Prop) (w : World), RepE w S x c → RepE w S' y d → Calls Tryz.prog 28 #[.agg c.toArray, .agg d.toArray] w fun e w' => e = .returned (.bool true) ∧ Below w.heap.size w w')
    (hlen : l'.length = l.length) (v u : Value) (S S' : Nat → Prop) (w : World) (h : SlG ExE w S l v) (h' : SlG ExE w S' l' u) : Calls Tryz.prog 57 #[v, u] w fun e w' => e = .returned (.bool true) ∧ Below w.heap.size w w' := by
  obtain ⟨a, cap, rfl, ⟨hc1, hc2⟩, hj⟩ := h
  obtain ⟨a', cap', rfl, ⟨hc1', hc2'⟩, hj'⟩ := h'
  rw [hlen] at hc1' ⊢
  have HJ := Lib.hid hj
  have HJ' := Lib.hid hj'
  have HH := Lib.hid H
  have HLen := Lib.hid hlen
  clear hj hj' H hlen
  unfold maxLen at hc2 hc2'
  obtain ⟨m, hm⟩ : ∃ m, m = l.length := ⟨_, rfl⟩
  rw [← hm] at hc1 hc1' ⊢
  have HM := Lib.hid hm
  clear hm
  go_enter Tryz.func57, Tryz.ntmps57
  go_wp2
  go_loopw [5] (fun i wr => ∃ j : Nat, j ≤ m ∧ i = .int .i64 j ∧ Hid (Below w.heap.size w wr)) (fun i _ => m - (intOf i).toNat)
  case atStart => exact ⟨0, Nat.zero_le _, rfl, Below.refl _ _⟩
  case round =>
    obtain ⟨j, hj, rfl, HB⟩ := hrel
    by_cases hlt : j < m
    · obtain ⟨x, hx⟩ : ∃ x, l[j]? = some x := ⟨_, List.getElem?_eq_getElem (by rw [← HM.out]; exact hlt)⟩
      obtain ⟨y, hy⟩ : ∃ x, l'[j]? = some x := ⟨_, List.getElem?_eq_getElem (by rw [HLen.out, ← HM.out]; exact hlt)⟩
      obtain ⟨ad, c, rfl, -, h1, h2⟩ := HJ.out j x hx
      obtain ⟨ad', d, rfl, -, h1', h2'⟩ := HJ'.out j y hy
      have HC := Lib.hid (HH.out j x y hx hy c d S S')
      have HX := Lib.hid (RepE.lift h2 HB.out)
      have HY := Lib.hid (RepE.lift h2' HB.out)
      have g1 : AtC wr ad (j * 11) c := fun m u hu => by have h : w.cell? (ad.add (j * 11 + m)) = some u := h1 m u hu; rw [HB.out.cell (World.block_lt_of_cell? _ _ h)]; exact h
      have g2 : AtC wr ad' (j * 11) d := fun m u hu => by have h : w.cell? (ad'.add (j * 11 + m)) = some u := h1' m u hu; rw [HB.out.cell (World.block_lt_of_cell? _ _ h)]; exact h
      obtain ⟨ka, kc, aa, ac, tk, tn, ti, th, ta, tl, tc, rfl⟩ := RepE.form h2
      obtain ⟨ka2, kc2, aa2, ac2, tk2, tn2, ti2, th2, ta2, tl2, tc2, rfl⟩ := RepE.form h2'
      obtain ⟨q0, q1, q2, q3, q4, q5, q6, q7, q8, q9, q10⟩ := g1.eleven
      obtain ⟨r0, r1, r2, r3, r4, r5, r6, r7, r8, r9, r10⟩ := g2.eleven
      clear hx hy h1 h1' h2 h2' g1 g2
      have Q0 := cell_regrown q0; have Q1 := cell_regrown q1; have Q2 := cell_regrown q2; have Q3 := cell_regrown q3; have Q4 := cell_regrown q4; have Q5 := cell_regrown q5; have Q6 := cell_regrown q6; have Q7 := cell_regrown q7; have Q8 := cell_regrown q8; have Q9 := cell_regrown q9; have Q10 := cell_regrown q10
      have R0 := cell_regrown r0; have R1 := cell_regrown r1; have R2 := cell_regrown r2; have R3 := cell_regrown r3; have R4 := cell_regrown r4; have R5 := cell_regrown r5; have R6 := cell_regrown r6; have R7 := cell_regrown r7; have R8 := cell_regrown r8; have R9 := cell_regrown r9; have R10 := cell_regrown r10
      have hji : (j : Int) < (m : Int) := by omega
      go_wp2
      refine wp_region_quiet_below (by kernel_rfl) (by kernel_rfl) ?_
      repeat (quiet_step ((go_at_call 28; exact Calls.regrown_of (HC.out _ (HX.out.lift (below_regrown _ _ _)) (HY.out.lift (below_regrown _ _ _))))))
      refine wpQuiet_nil ?_
      intro _ hw'
      obtain ⟨⟨dq, osq⟩, hw''⟩ := hw'
      subst hw''
      have HB2 := Lib.hid (HB.out.trans ((below_regrown wr dq osq).mono HB.out.size))
      clear q0 q1 q2 q3 q4 q5 q6 q7 q8 q9 q10 r0 r1 r2 r3 r4 r5 r6 r7 r8 r9 r10 Q0 Q1 Q2 Q3 Q4 Q5 Q6 Q7 Q8 Q9 Q10 R0 R1 R2 R3 R4 R5 R6 R7 R8 R9 R10
      go_wp2
      go_roundw
      case rel => exact ⟨j + 1, hlt, by go_num, HB2⟩
      case measure => simp [intOf]; omega
    · go_wp2
      go_ret
      exact ⟨rfl, HB.out⟩
end Go.Proofs.YthphnacfidofbaaGreatDoor
