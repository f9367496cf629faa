import Derived.Test.YtfkbifbodpelmaaDoorVS2
import Derived.Test.YtfkbifbodpelmaaDoorVB6
import Derived.Deep.LoopGhost
/- The canonical text of an expression: the reference's Expr at a case, and at every expression. -/
namespace Go.Proofs.YtfkbifbodpelmaaDoor
open Go.RowKit Go.Maps Go.Sort Mth

theorem shAr_snoc : ∀ (l : List (AH × Ex)) (h : AH) (e : Ex), shAr (l ++ [(h, e)]) = shAr l ++ 32 :: 124 :: 32 :: (armText h ++ shE e)
  | [], h, e => by simp [shAr]
  | (h', e') :: l, h, e => by simp only [List.cons_append, shAr, shAr_snoc l h e, List.append_assoc, List.cons_append]
/-- What stands between two arms. -/
def sepA (j : Nat) : List UInt8 := if j = 0 then [] else [32, 124, 32]
theorem shA0_snoc (l : List (AH × Ex)) (h : AH) (e : Ex) : shA0 (l ++ [(h, e)]) = shA0 l ++ (sepA l.length ++ (armText h ++ shE e)) := by
  cases l with
  | nil => simp [shA0, shAr, sepA]
  | cons a l =>
    obtain ⟨h', e'⟩ := a
    simp [shA0, shAr_snoc, sepA]
theorem shA0_take (l : List (AH × Ex)) (j : Nat) (A : AH × Ex) (h : l[j]? = some A) : shA0 (l.take (j + 1)) = shA0 (l.take j) ++ (sepA j ++ (armText A.1 ++ shE A.2)) := by
  have hj : j < l.length := (List.getElem?_eq_some_iff.1 h).1
  have hA : l[j] = A := (List.getElem?_eq_some_iff.1 h).2
  rw [List.take_succ_eq_append_getElem hj, hA, show A = (A.1, A.2) from rfl, shA0_snoc, List.length_take, Nat.min_eq_left (by omega)]
theorem shA0_le (l : List (AH × Ex)) : ∀ j, (shA0 (l.take j)).length ≤ (shA0 l).length := by
  have step : ∀ j, (shA0 (l.take j)).length ≤ (shA0 (l.take (j + 1))).length := fun j => by
    cases h : l[j]? with
    | none =>
      have := List.getElem?_eq_none_iff.1 h
      rw [List.take_of_length_le this, List.take_of_length_le (by omega)]
      exact Nat.le_refl _
    | some A => rw [shA0_take l j A h, List.length_append]; omega
  have up : ∀ m j, (shA0 (l.take j)).length ≤ (shA0 (l.take (j + m))).length := fun m => by
    induction m with
    | zero => intro j; exact Nat.le_refl _
    | succ m ih => intro j; exact Nat.le_trans (ih j) (step (j + m))
  intro j
  have := up l.length j
  rwa [List.take_of_length_le (l := l) (i := j + l.length) (by omega)] at this
/-- The text of an arm's names, so far. -/
def vsT (vs : List ByteArray) : List UInt8 := vs.flatMap fun v => 32 :: bl v
theorem vsT_take (vs : List ByteArray) (k : Nat) (v : ByteArray) (h : vs[k]? = some v) : vsT (vs.take (k + 1)) = vsT (vs.take k) ++ 32 :: bl v := by
  have hk : k < vs.length := (List.getElem?_eq_some_iff.1 h).1
  have hv : vs[k] = v := (List.getElem?_eq_some_iff.1 h).2
  rw [List.take_succ_eq_append_getElem hk, hv]
  simp [vsT]
theorem vsT_le (vs : List ByteArray) (k : Nat) : (vsT (vs.take k)).length ≤ (vsT vs).length := by
  conv => rhs; rw [← List.take_append_drop k vs]
  unfold vsT
  rw [List.flatMap_append, List.length_append]
  omega
set_option maxRecDepth 100000 in
set_option maxHeartbeats 12800000 in
theorem shx_case (T a : Ex) (hk : T.k = 8) (hts : T.kids = [a]) (Ha : XC a) (hA : ∀ A ∈ T.arms, XC A.2) (hl : (shE T).length ≤ 100000) (hsh : shE T = [99, 97, 115, 101] ++ 32 :: (shE a ++ 32 :: ([111, 102] ++ 32 :: (shA0 T.arms ++ 32 :: [101, 110, 100])))) (c : List Value) (S : Nat → Prop) (w : World) (h : RepE w S T c) :
    Calls Tryd.prog 14 #[.agg c.toArray] w (ShV w (shE T)) := by
  have hL : (shE a).length + (shA0 T.arms).length + 13 ≤ 100000 := by
    rw [hsh] at hl; simp only [List.length_cons, List.length_append, List.length_nil] at hl; omega
  have HAm := Lib.hid hA
  obtain ⟨kv, av, tc0, hc0, -, hkids, harms, htt⟩ := h.open
  obtain ⟨ka, kc, aa, ac, tk, tn, ti, th, ta, tl, tc, rfl⟩ := h.form
  simp only [List.cons.injEq] at hc0
  obtain ⟨-, -, -, -, rfl, rfl, rfl⟩ := hc0
  rw [hts] at hkids
  obtain ⟨V, hV⟩ : ∃ V, V = w.alloc (.cells #[.int .i64 T.k, .int .i64 T.p, .string T.n, .int .i64 T.m, .slice ka T.kids.length kc, .slice aa T.arms.length ac, .int .i64 tk, .string tn, .int .i64 ti, .int .i64 th, .slice ta tl tc] 37) := ⟨_, rfl⟩
  have hlow : Below w.heap.size w V := by rw [hV]; exact (Below.refl _ w).alloc (Nat.le_refl _) _
  have hbx : BoxC 37 V w.heap.size [.int .i64 T.k, .int .i64 T.p, .string T.n, .int .i64 T.m, .slice ka T.kids.length kc, .slice aa T.arms.length ac, .int .i64 tk, .string tn, .int .i64 ti, .int .i64 th, .slice ta tl tc] := by rw [hV]; exact BoxC.made _ w _
  have HLow : Hid (LoW w V) := hlow
  have HBx := Lib.hid hbx
  obtain ⟨-, hkc, ad, c, rfl, hca, hra⟩ := kids1 (slG_lift hkids hlow)
  have hn1 : T.kids.length = 1 := by rw [hts]; rfl
  rw [hn1] at hV HBx ⊢
  obtain ⟨ka0, kc0, aa0, ac0, tk0, tn0, ti0, th0, ta0, tl0, tc0, rfl⟩ := hra.form
  have HKa : Hid (∀ W, Below V.heap.size V W → Calls Tryd.prog 14 #[.agg #[.int .i64 a.k, .int .i64 a.p, .string a.n, .int .i64 a.m, .slice ka0 a.kids.length kc0, .slice aa0 a.arms.length ac0, .int .i64 tk0, .string tn0, .int .i64 ti0, .int .i64 th0, .slice ta0 tl0 tc0]] W fun e w' => e = .returned (.string ⟨(shE a).toArray⟩) ∧ Below W.heap.size W w') := fun W hW => Ha _ S W (hra.lift hW)
  obtain ⟨q0, q1, q2, q3, q4, q5, q6, q7, q8, q9, q10⟩ := kidA hca
  rw [hk] at hV HBx ⊢
  have HSa := Lib.hid (slG_lift harms hlow)
  have HLA := Lib.hid (shA0_le T.arms)
  rw [hsh]
  clear h hlow hbx htt hk hts Ha hA hkids harms hca hra hn1 hl hsh
  generalize a.kids.length = kl0 at *
  generalize a.arms.length = al0 at *
  generalize shE a = la at *
  generalize T.p = tp at *
  generalize T.m = tm at *
  generalize T.n = nm at *
  generalize hal : T.arms = l at *
  clear hal
  obtain ⟨al, hal⟩ : ∃ n, n = l.length := ⟨_, rfl⟩
  rw [← hal] at hV HBx HSa
  have HAl := Lib.hid hal
  clear hal
  go_enter Tryd.func14, Tryd.ntmps14
  go_upto_region 1 with fail
  rw [← HAl.out, ← hV]
  clear hV
  generalize w.heap.size = B at *
  obtain ⟨b0, b1, b2, b3, b4, b5, b6, b7, b8, b9, b10⟩ := HBx.out.all11
  go_wp2_with fail
  go_at_call 14
  refine (HKa.out _ (Below.refl _ _)).mono ?_
  rintro e V1 ⟨rfl, hb⟩
  have HB1 : Hid (Below V.heap.size V V1) := hb
  clear hb q0 b0 q1 b1 q2 b2 q3 b3 q4 b4 q5 b5 q6 b6 q7 b7 q8 b8 q9 b9 q10 b10 HKa
  have hal9 : al ≤ 9223372036854775807 := by
    obtain ⟨_, _, e, ⟨h1, h2⟩, _⟩ := HSa.out
    rw [← HAl.out] at h1
    unfold maxLen at h2; omega
  obtain ⟨P0, hP0⟩ : ∃ P0, P0 = [99, 97, 115, 101] ++ 32 :: (la ++ 32 :: ([111, 102] ++ 32 :: [])) := ⟨_, rfl⟩
  have hPl : P0.length = la.length + 9 := by rw [hP0]; simp only [List.length_cons, List.length_append, List.length_nil]; omega
  have HP0 := Lib.hid hP0
  clear hP0
  go_wp2
  go_loopw [5, 6] (fun y x wr => ∃ (j : Nat) (s : ByteArray), j ≤ al ∧ x = .int .i64 j ∧ y = .string s ∧ s.size ≤ 100000 ∧ Hid (bl s = P0 ++ shA0 (l.take j)) ∧ Hid (Below V.heap.size V wr)) (fun _ x _ => al - (intOf x).toNat)
  case atStart =>
    refine ⟨0, _, Nat.zero_le _, rfl, rfl, ?_, ?_, HB1⟩
    · simp only [ByteArray.size_append]
      have e1 : (⟨#[99, 97, 115, 101, 32]⟩ : ByteArray).size = 5 := rfl
      have e2 : (⟨#[32, 111, 102, 32]⟩ : ByteArray).size = 4 := rfl
      have e3 : (⟨la.toArray⟩ : ByteArray).size = la.length := by show la.toArray.size = _; simp
      omega
    · show _ = _
      rw [HP0.out]
      simp [bl_app, shA0]
      rfl
  case round =>
    clear HB1
    obtain ⟨j, s, hj, rfl, rfl, hsz, HS, HBr⟩ := hrel
    obtain ⟨b0, b1, b2, b3, b4, b5, b6, b7, b8, b9, b10⟩ := (HBx.out.lift HBr.out).all11
    by_cases hlt : j < al
    · obtain ⟨⟨⟨ap, con, vars⟩, body⟩, hA⟩ : ∃ x, l[j]? = some x := ⟨_, List.getElem?_eq_getElem (by rw [← HAl.out]; exact hlt)⟩
      obtain ⟨xa, xc, exa, ⟨hxc, -⟩, hja⟩ := HSa.out
      simp only [Value.slice.injEq] at exa
      obtain ⟨rfl, -, rfl⟩ := exa
      obtain ⟨ad, c, rfl, -, hcells, ⟨vv, cb, rfl, hvv, hbody⟩⟩ := hja j _ hA
      dsimp only at hcells hvv hbody
      have hv9 : vars.length ≤ 9223372036854775807 := by
        obtain ⟨_, _, _, ⟨h1, h2⟩, _⟩ := hvv
        unfold maxLen at h2; omega
      obtain ⟨va, vc, rfl, -⟩ := hvv.slice
      obtain ⟨kb, kd, ab, ae, uk, un, ui, uh, ua, ul, uc, rfl⟩ := hbody.form
      have HBd : Hid (∀ W, Below V.heap.size V W → Calls Tryd.prog 14 #[.agg #[.int .i64 body.k, .int .i64 body.p, .string body.n, .int .i64 body.m, .slice kb body.kids.length kd, .slice ab body.arms.length ae, .int .i64 uk, .string un, .int .i64 ui, .int .i64 uh, .slice ua ul uc]] W fun e w' => e = .returned (.string ⟨(shE body).toArray⟩) ∧ Below W.heap.size W w') := fun W hW => HAm.out _ (List.mem_of_getElem? hA) _ S W (hbody.lift hW)
      have hcw : ∀ (m : Nat) (u : Value), (.int .i64 ap :: .string con :: .slice va vars.length vc :: [.int .i64 body.k, .int .i64 body.p, .string body.n, .int .i64 body.m, .slice kb body.kids.length kd, .slice ab body.arms.length ae, .int .i64 uk, .string un, .int .i64 ui, .int .i64 uh, .slice ua ul uc])[m]? = some u → wr.cell? (ad.add (j * 14 + m)) = some u := fun m u hu => by
        have h1 : V.cell? (ad.add (j * 14 + m)) = some u := hcells m u hu
        rw [HBr.out.cell (World.block_lt_of_cell? _ _ h1)]; exact h1
      obtain ⟨q0, q1, q2⟩ := arm3 hcw
      obtain ⟨r0, r1, r2, r3, r4, r5, r6, r7, r8, r9, r10⟩ := body11 hcw
      have HVs := Lib.hid (slG_lift hvv HBr.out)
      have htk := shA0_take l j _ hA
      have hle := HLA.out (j + 1)
      rw [htk] at hle
      have hsl : s.size = P0.length + (shA0 (l.take j)).length := by rw [← bl_len, HS.out, List.length_append]
      have hat : (armText ⟨ap, con, vars⟩).length = con.size + (vsT vars).length + 2 := by
        unfold armText
        simp only [List.length_append, List.length_cons, List.length_nil, bl_len]
        rfl
      simp only [List.length_append] at hle
      rw [hat] at hle
      have hmax : s.size + ((sepA j).length + (con.size + (vsT vars).length + 2 + (shE body).length)) ≤ 100000 := by omega
      have hat2 : armText ⟨ap, con, vars⟩ = bl con ++ (vsT vars ++ [46, 32]) := by unfold armText vsT; simp
      rw [hat2] at htk
      have HTk := Lib.hid htk
      have HVl := Lib.hid (vsT_le vars)
      have HSp : Hid (sepA j = if j = 0 then [] else [32, 124, 32]) := rfl
      have hji : (j : Int) < (al : Int) := by omega
      clear hcells hvv hbody hcw hA htk hja hsl hat hat2 hle HAm
      obtain ⟨vl, hvl⟩ : ∃ n, n = vars.length := ⟨_, rfl⟩
      rw [← hvl] at q2 hv9
      have HVn := Lib.hid hvl
      clear hvl
      generalize body.kids.length = x1 at *
      generalize body.arms.length = x2 at *
      generalize shE body = lb at *
      by_cases hj0 : 0 < j
      case' pos =>
        have hsp3 : (sepA j).length = 3 := by rw [HSp.out, if_neg (by omega)]; rfl
        have HX : Hid (bl (s ++ ⟨#[32, 124, 32]⟩ ++ con) = bl s ++ (sepA j ++ bl con)) := by
          show _ = _
          rw [HSp.out, if_neg (by omega)]
          simp [bl_app]
          rfl
      case' neg =>
        have hsp0 : (sepA j).length = 0 := by rw [HSp.out, if_pos (by omega)]; rfl
        have HX : Hid (bl (s ++ con) = bl s ++ (sepA j ++ bl con)) := by
          show _ = _
          rw [HSp.out, if_pos (by omega)]
          simp [bl_app]
      all_goals
        go_wp2
        go_loop [5, 7] (fun y x => ∃ (k : Nat) (s2 : ByteArray), k ≤ vl ∧ x = .int .i64 k ∧ y = .string s2 ∧ s2.size ≤ 100000 ∧ Hid (bl s2 = bl s ++ (sepA j ++ bl con) ++ vsT (vars.take k))) (fun _ x => vl - (intOf x).toNat)
        case atStart =>
          refine ⟨0, _, Nat.zero_le _, rfl, rfl, ?_, ?_⟩
          · rw [← bl_len, HX.out]; simp only [List.length_append, bl_len]; omega
          · show _ = _
            rw [HX.out]
            simp [vsT]
        case round =>
          obtain ⟨k, s2, hk, rfl, rfl, hs2, HS2⟩ := hrel
          by_cases hkl : k < vl
          · obtain ⟨v, hv⟩ : ∃ x, vars[k]? = some x := ⟨_, List.getElem?_eq_getElem (by rw [← HVn.out]; exact hkl)⟩
            obtain ⟨ya, yc, eya, -, hjv⟩ := HVs.out
            simp only [Value.slice.injEq] at eya
            obtain ⟨rfl, -, rfl⟩ := eya
            obtain ⟨ad2, c2, rfl, -, hc2, hc2'⟩ := hjv k v hv
            have hc3 : c2 = [.string v] := hc2'
            subst hc3
            have p0 := hc2 0 _ rfl
            simp only [StrE, Nat.mul_one, Nat.add_zero] at p0
            have HT2 := Lib.hid (vsT_take vars k v hv)
            have hvk := HVl.out (k + 1)
            rw [HT2.out] at hvk
            simp only [List.length_append, List.length_cons, bl_len] at hvk
            have hki : (k : Int) < (vl : Int) := by omega
            have hsz2 : s2.size = s.size + ((sepA j).length + con.size) + (vsT (vars.take k)).length := by rw [← bl_len, HS2.out]; simp only [List.length_append, bl_len]
            have hnew : s2.size + (1 + v.size) ≤ 100000 := by omega
            clear hc2 hc2' hjv hv hvk hsz2
            go_wp2
            go_round
            case rel =>
              refine ⟨k + 1, _, hkl, by go_num, rfl, ?_, ?_⟩
              · simp only [ByteArray.size_append]
                have e1 : (⟨#[32]⟩ : ByteArray).size = 1 := rfl
                omega
              · show _ = _
                rw [HT2.out, bl_app, bl_app, HS2.out]
                simp
                rfl
            case measure => simp [intOf]; omega
          · have hke : k = vl := by omega
            have hki : ¬ (k : Int) < (vl : Int) := by omega
            have hS3 := HS2.out
            rw [hke, HVn.out, List.take_length] at hS3
            have HS3 := Lib.hid hS3
            have hsz2 : s2.size = s.size + ((sepA j).length + con.size) + (vsT vars).length := by rw [← bl_len, HS3.out]; simp only [List.length_append, bl_len]
            have hnew : s2.size + (2 + lb.length) ≤ 100000 := by omega
            clear hS3 hke hsz2 HS2
            go_wp2_with fail
            go_at_call 14
            refine (HBd.out _ HBr.out).mono ?_
            rintro e w2 ⟨rfl, hb2⟩
            have HB2 := Lib.hid (HBr.out.trans (hb2.mono HBr.out.size))
            clear hb2 b0 b1 b2 b3 b4 b5 b6 b7 b8 b9 b10 q0 q1 q2 r0 r1 r2 r3 r4 r5 r6 r7 r8 r9 r10
            go_wp2
            go_roundw
            case rel =>
              refine ⟨j + 1, _, hlt, by go_num, rfl, ?_, ?_, HB2⟩
              · simp only [ByteArray.size_append]
                have e1 : (⟨#[46, 32]⟩ : ByteArray).size = 2 := rfl
                have e2 : (⟨lb.toArray⟩ : ByteArray).size = lb.length := by show lb.toArray.size = _; simp
                omega
              · show _ = _
                rw [HTk.out, bl_app, bl_app, HS3.out, HS.out]
                simp
                rfl
            case measure => simp [intOf]; omega
    · obtain rfl : j = al := by omega
      have hji : ¬ (j : Int) < (j : Int) := by omega
      have hS := HS.out
      rw [HAl.out, List.take_length] at hS
      have HS2 := Lib.hid hS
      have HL : Hid (LoW w wr) := HLow.out.go HBr.out
      clear hS HS
      go_wp2
      go_ret
      exact ⟨ret_eq (by rw [bl_app, HS2.out, HP0.out]; simp; rfl), HL.out⟩
end Go.Proofs.YtfkbifbodpelmaaDoor
