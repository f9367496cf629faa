import Derived.Test.YtljgpgmaceackaaQX18
import Derived.Test.YtljgpgmaceackaaQX21
import Derived.Deep.CutBlock
import Derived.Deep.RegionHeld3
/- The reference's With: an expression with other children. -/
namespace Go.Proofs.Ytljgpgmaceackaa
open Go.RowKit Go.Maps Mth S3

def withA (l : List (AH × Ex)) (us : List Ex) : List (AH × Ex) := List.zipWith (fun A U => (A.1, U)) l us
def withE (T : Ex) (L : List Ex) : Ex := .mk T.k T.p T.n T.m T.t (L.take T.kids.length) (withA T.arms (L.drop T.kids.length))
theorem slG_tk {α : Type} {E : El α} {w : World} {S : Nat → Prop} {xs : List α} {a : Option Addr} {n c : Nat} (h : SlG E w S xs (.slice a n c)) {k : Nat} (hk : k ≤ xs.length) : SlG E w S (xs.take k) (.slice a k c) := by
  obtain ⟨a', c', e, ⟨h1, h2⟩, hj⟩ := h
  simp only [Value.slice.injEq] at e
  obtain ⟨rfl, rfl, rfl⟩ := e
  refine ⟨a, c, by rw [List.length_take, Nat.min_eq_left hk], ⟨by rw [List.length_take, Nat.min_eq_left hk]; omega, h2⟩, fun j x hx => ?_⟩
  rw [List.getElem?_take] at hx
  split at hx
  · exact hj j x hx
  · cases hx
theorem step_pushS {α : Type} {w : World} {ops : Array Oper} {o : Oper} {a : Act} {K : Act → World → Prop} {Q : Exit → Act → World → Prop} {E' : Prop} (E : El α) (hgd : o.guard = none) (s x : Operand)
    (ho : o.op = .call { callee := .builtin .append, args := #[s, x], argTypes := #[E.t, E.t] })
    (base : Nat) (S : Nat → Prop) (v : Value) (xs : List α) (hs : a.eval s = v) (hrow : RowG E w base S v xs) (lv : Value) (hx : a.eval x = lv) (news : List α) (hl : SlG E w (fun b => S b ∧ some b ≠ v.ownBlock) news lv)
    (hb : xs.length + news.length ≤ 1000000) (hbase : base ≤ w.heap.size)
    (hK : ∀ (a' : Option Addr) (n' c' : Nat) (w' : World), n' = (xs ++ news).length → RowG E w' base S (.slice a' n' c') (xs ++ news) → w.grownBy w' v.ownBlock → K (a.put o.dst (.slice a' n' c')) w') :
    if Region.wanted o (yielded ops a.tmps) = true then Oper.wp Try.prog o a w K Q else E' :=
  step_of_list hgd fun _ hQ => wpList_pushS E hgd s x ho base S v xs hs hrow lv hx news hl hb hbase fun a' n' c' w' h1 h2 h3 => hQ _ _ (hK a' n' c' w' h1 h2 h3)
/-- The boxes of With: the argument, the result, and what is made. -/
structure WW (w : World) (e o : List Value) (wr : World) : Prop where
  box : BoxC 36 wr w.heap.size e
  res : BoxC 36 wr (w.heap.size + 1) zE
  out : BoxC 36 wr (w.heap.size + 2) o
  low : Below w.heap.size w wr
theorem WW.ge {w : World} {e o : List Value} {wr : World} (H : WW w e o wr) : w.heap.size + 3 ≤ wr.heap.size := H.out.lt
theorem WW.far {w : World} {e o : List Value} {wr v : World} {row : Option Nat} (H : WW w e o wr) (hg : wr.grownBy v row) (hr : ∀ k, row = some k → w.heap.size + 3 ≤ k) : WW w e o v :=
  ⟨H.box.grown hg (fun e => by have := hr _ e.symm; omega), H.res.grown hg (fun e => by have := hr _ e.symm; omega), H.out.grown hg (fun e => by have := hr _ e.symm; omega), Below.grown H.low hg H.low.size (fun k hk => by have := hr k hk; omega)⟩
theorem WW.set1 {w : World} {e : List Value} {v0 v1 v2 v3 v4 v5 v6 v7 v8 v9 v10 : Value} {wr : World} (H : WW w e [v0, v1, v2, v3, v4, v5, v6, v7, v8, v9, v10] wr) (x : Value) :
    WW w e [v0, v1, v2, v3, x, v5, v6, v7, v8, v9, v10] (wr.setCell ⟨w.heap.size + 2, 4, none⟩ x) ∧ wr.grownBy (wr.setCell ⟨w.heap.size + 2, 4, none⟩ x) (some (w.heap.size + 2)) := by
  obtain ⟨h2, hg, -⟩ := H.out.set 4 x
  exact ⟨⟨H.box.grown hg (fun e => by have := Option.some.inj e; omega), H.res.grown hg (fun e => by have := Option.some.inj e; omega), h2, Below.grown H.low hg H.low.size (fun k hk => by have := Option.some.inj hk; omega)⟩, hg⟩
theorem WW.set2 {w : World} {e : List Value} {v0 v1 v2 v3 v4 v5 v6 v7 v8 v9 v10 : Value} {wr : World} (H : WW w e [v0, v1, v2, v3, v4, v5, v6, v7, v8, v9, v10] wr) (x y : Value) :
    WW w e [v0, v1, v2, v3, x, y, v6, v7, v8, v9, v10] ((wr.setCell ⟨w.heap.size + 2, 4, none⟩ x).setCell ⟨w.heap.size + 2, 5, none⟩ y) ∧ wr.grownBy ((wr.setCell ⟨w.heap.size + 2, 4, none⟩ x).setCell ⟨w.heap.size + 2, 5, none⟩ y) (some (w.heap.size + 2)) := by
  obtain ⟨h1, g1, -⟩ := H.out.set 4 x
  obtain ⟨h2, g2, -⟩ := h1.set 5 y
  have hg := grown_trans g1 g2
  exact ⟨⟨H.box.grown hg (fun e => by have := Option.some.inj e; omega), H.res.grown hg (fun e => by have := Option.some.inj e; omega), h2, Below.grown H.low hg H.low.size (fun k hk => by have := Option.some.inj hk; omega)⟩, hg⟩
/-- The same, whatever the made one's children are. -/
def WX (w : World) (e : List Value) (v : World) : Prop := ∃ x y, WW w e ((e.set 4 x).set 5 y) v
theorem WX.far {w : World} {e : List Value} {wr v : World} (H : WX w e wr) (hg : wr.grownBy v none) : WX w e v := by
  obtain ⟨x, y, h⟩ := H
  exact ⟨x, y, h.far hg (fun k e => by cases e)⟩
theorem WX.ge {w : World} {e : List Value} {wr : World} (H : WX w e wr) : w.heap.size + 3 ≤ wr.heap.size := by
  obtain ⟨x, y, h⟩ := H
  exact h.ge
theorem WX.lift {w : World} {e : List Value} {wr v : World} (H : WX w e wr) (hb : Below wr.heap.size wr v) : WX w e v := H.far (grown_of_below hb none)
theorem WW.made (w : World) (e : List Value) : WW w e e (((w.alloc (.cells e.toArray 36)).alloc (.cells zE.toArray 36)).alloc (.cells e.toArray 36)) := by
  have h1 := BoxC.made 36 w e
  have hs1 : (w.alloc (.cells e.toArray 36)).heap.size = w.heap.size + 1 := by simp
  have hb1 : Below w.heap.size w (w.alloc (.cells e.toArray 36)) := (Below.refl _ w).alloc (Nat.le_refl _) _
  generalize w.alloc (.cells e.toArray 36) = V at *
  have h2 := BoxC.made 36 V zE
  have hs2 : (V.alloc (.cells zE.toArray 36)).heap.size = V.heap.size + 1 := by simp
  have hb2 : Below V.heap.size V (V.alloc (.cells zE.toArray 36)) := (Below.refl _ V).alloc (Nat.le_refl _) _
  generalize V.alloc (.cells zE.toArray 36) = V2 at *
  have h3 := BoxC.made 36 V2 e
  have hb3 : Below V2.heap.size V2 (V2.alloc (.cells e.toArray 36)) := (Below.refl _ V2).alloc (Nat.le_refl _) _
  rw [hs1] at h2 hs2
  rw [hs2] at h3
  exact ⟨(h1.lift hb2).lift hb3, h2.lift hb3, h3, (hb1.trans (hb2.mono hb1.size)).trans (hb3.mono (Nat.le_trans hb1.size hb2.size))⟩
theorem RowG.head {α : Type} {E : El α} {w : World} {base : Nat} {S : Nat → Prop} {xs : List α} {a : Option Addr} {n c : Nat} (h : RowG E w base S (.slice a n c) xs) (hne : 0 < xs.length) : ∃ g, a = some ⟨g, 0, none⟩ ∧ base ≤ g ∧ g < w.heap.size := by
  obtain ⟨L, hown, hl, hr⟩ := h
  rcases hown.2 with ⟨e, h0⟩ | ⟨g, cap', cur, e, hg, hc, _⟩
  · omega
  · cases e
    exact ⟨g, rfl, hg, (Array.getElem?_eq_some_iff.1 hc).1⟩
theorem withA_get {l : List (AH × Ex)} {us : List Ex} {j : Nat} {A : AH × Ex} {U : Ex} (hA : l[j]? = some A) (hU : us[j]? = some U) : (withA l us)[j]? = some (A.1, U) := by
  unfold withA
  rw [List.getElem?_zipWith, hA, hU]
theorem list_done {α : Type} {Z l : List α} {j n : Nat} (hz : Z.length = n) (hl : l.length = n) (hj : n ≤ j) : Z.take j ++ l.drop j = Z := by
  rw [List.take_of_length_le (by omega), List.drop_eq_nil_of_le (by omega), List.append_nil]
theorem step_list {α : Type} {Z l : List α} {j : Nat} {z : α} (hz : Z[j]? = some z) (hl : Z.length = l.length) : (Z.take j ++ l.drop j).set j z = Z.take (j + 1) ++ l.drop (j + 1) := by
  have hj : j < Z.length := (List.getElem?_eq_some_iff.1 hz).1
  have ht : (Z.take j).length = j := by rw [List.length_take]; omega
  rw [List.set_append_right _ _ (by omega), ht, Nat.sub_self, List.drop_eq_getElem_cons (by omega), List.set_cons_zero, List.take_add_one, hz]
  simp
set_option maxRecDepth 100000 in
set_option maxHeartbeats 6400000 in
theorem refWith_any (T : Ex) (L : List Ex) (hkl : T.kids.length ≤ 100000) (hal : T.arms.length ≤ 100000) (hL : L.length = T.kids.length + T.arms.length) (S : Nat → Prop) (c : List Value) (lv : Value) (w : World) (h : RepE w S T c) (hl : SlG ExE w S L lv) :
    Calls Try.prog 18 #[.agg c.toArray, lv] w fun e w' => ∃ c' : List Value, e = .returned (.agg c'.toArray) ∧ RepE w' (fun b => S b ∨ w.heap.size ≤ b) (withE T L) c' ∧ Below w.heap.size w w' := by
  have hlb := hl.bound
  obtain ⟨kv, av, tc0, hc0, hn, hk, ha, htt⟩ := h.bound.open
  obtain ⟨ka, kc, aa, ac, tk, tn, ti, th, ta, tl, tc, rfl⟩ := h.form
  simp only [List.cons.injEq] at hc0
  obtain ⟨-, -, -, -, rfl, rfl, rfl⟩ := hc0
  obtain ⟨la, lc, rfl, hlc⟩ := hl.slice
  have HN := Lib.hid hn
  have HT := Lib.hid htt
  have HA := Lib.hid ha
  have HL := Lib.hid hlb
  have HLen := Lib.hid hL
  clear h hl hk hn htt ha hlb
  obtain ⟨kn, hkn⟩ : ∃ n, n = T.kids.length := ⟨_, rfl⟩
  obtain ⟨an, han⟩ : ∃ n, n = T.arms.length := ⟨_, rfl⟩
  have HKn := Lib.hid hkn
  have HAn := Lib.hid han
  rw [hL] at HL ⊢
  rw [← hkn] at HL hkl ⊢
  rw [← han] at HL hal HA ⊢
  clear hkn han hL
  simp only [List.toArray] 
  have hkl0 : (0 : Int) ≤ (kn : Int) := by omega
  have hkl1 : (kn : Int) ≤ (lc : Int) := by
    obtain ⟨a', c', e, ⟨h1, h2⟩, -⟩ := HL.out
    simp only [Value.slice.injEq] at e
    obtain ⟨-, h3, rfl⟩ := e
    omega
  go_enter Try.func18, Try.ntmps18
  go_upto_region 5 with fail
  have HW0 : Hid (WW w [.int .i64 T.k, .int .i64 T.p, .string T.n, .int .i64 T.m, .slice ka kn kc, .slice aa an ac, .int .i64 tk, .string tn, .int .i64 ti, .int .i64 th, .slice ta tl tc] [.int .i64 T.k, .int .i64 T.p, .string T.n, .int .i64 T.m, .slice ka kn kc, .slice aa an ac, .int .i64 tk, .string tn, .int .i64 ti, .int .i64 th, .slice ta tl tc] (((w.alloc (.cells #[.int .i64 T.k, .int .i64 T.p, .string T.n, .int .i64 T.m, .slice ka kn kc, .slice aa an ac, .int .i64 tk, .string tn, .int .i64 ti, .int .i64 th, .slice ta tl tc] 36)).alloc (.cells #[.int .i64 0, .int .i64 0, .string ⟨#[]⟩, .int .i64 0, .slice none 0 0, .slice none 0 0, .int .i64 0, .string ⟨#[]⟩, .int .i64 0, .int .i64 0, .slice none 0 0] 36)).alloc (.cells #[.int .i64 T.k, .int .i64 T.p, .string T.n, .int .i64 T.m, .slice ka kn kc, .slice aa an ac, .int .i64 tk, .string tn, .int .i64 ti, .int .i64 th, .slice ta tl tc] 36))) := WW.made w [.int .i64 T.k, .int .i64 T.p, .string T.n, .int .i64 T.m, .slice ka kn kc, .slice aa an ac, .int .i64 tk, .string tn, .int .i64 ti, .int .i64 th, .slice ta tl tc]
  generalize (((w.alloc (.cells #[.int .i64 T.k, .int .i64 T.p, .string T.n, .int .i64 T.m, .slice ka kn kc, .slice aa an ac, .int .i64 tk, .string tn, .int .i64 ti, .int .i64 th, .slice ta tl tc] 36)).alloc (.cells #[.int .i64 0, .int .i64 0, .string ⟨#[]⟩, .int .i64 0, .slice none 0 0, .slice none 0 0, .int .i64 0, .string ⟨#[]⟩, .int .i64 0, .int .i64 0, .slice none 0 0] 36)).alloc (.cells #[.int .i64 T.k, .int .i64 T.p, .string T.n, .int .i64 T.m, .slice ka kn kc, .slice aa an ac, .int .i64 tk, .string tn, .int .i64 ti, .int .i64 th, .slice ta tl tc] 36)) = V at *
  have HLk : Hid (∀ v, V.grownBy v (some (w.heap.size + 2)) → SlG ExE v (fun b => (S b ∧ b < w.heap.size) ∧ some b ≠ Value.ownBlock (.slice none 0 0)) (L.take kn) (.slice la kn lc)) := fun v hv => (slG_tk HL.out (by rw [HLen.out, ← HKn.out]; omega)).kept (fun b h => ⟨h, by simp [Value.ownBlock]⟩) (fun b hb _ => (hv.block b (Nat.lt_of_lt_of_le hb.2 HW0.out.low.size) (fun e => by have := Option.some.inj e; have := hb.2; omega)).trans (HW0.out.low.block b hb.2))
  have HAk : Hid (∀ v, V.grownBy v (some (w.heap.size + 2)) → SlG AmE v (fun b => (S b ∧ b < w.heap.size) ∧ some b ≠ Value.ownBlock (.slice none 0 0)) T.arms (.slice aa an ac)) := fun v hv => HA.out.kept (fun b h => ⟨h, by simp [Value.ownBlock]⟩) (fun b hb _ => (hv.block b (Nat.lt_of_lt_of_le hb.2 HW0.out.low.size) (fun e => by have := Option.some.inj e; have := hb.2; omega)).trans (HW0.out.low.block b hb.2))
  have HX0 : Hid (WX w [.int .i64 T.k, .int .i64 T.p, .string T.n, .int .i64 T.m, .slice ka kn kc, .slice aa an ac, .int .i64 tk, .string tn, .int .i64 ti, .int .i64 th, .slice ta tl tc] V) := ⟨_, _, HW0.out⟩
  have HS0 : Hid (∀ v, V.grownBy v (some (w.heap.size + 2)) → WX w [.int .i64 T.k, .int .i64 T.p, .string T.n, .int .i64 T.m, .slice ka kn kc, .slice aa an ac, .int .i64 tk, .string tn, .int .i64 ti, .int .i64 th, .slice ta tl tc] v → (fun v => v.cell? ⟨w.heap.size, 5, none⟩ = some (.slice aa an ac) ∧ V.grownBy v (some (w.heap.size + 2)) ∧ WX w [.int .i64 T.k, .int .i64 T.p, .string T.n, .int .i64 T.m, .slice ka kn kc, .slice aa an ac, .int .i64 tk, .string tn, .int .i64 ti, .int .i64 th, .slice ta tl tc] v) v) := fun v hv hx => ⟨(HW0.out.box.grown hv (fun e => by have := Option.some.inj e; omega)).cell 5 _ rfl, hv, hx⟩
  have HTl : Hid ((L.take kn).length = kn) := by show _ = _; rw [List.length_take, HLen.out, ← HKn.out]; omega
  have HAl : Hid (T.arms.length = an) := HAn.out.symm
  go_region_held3 (fun v => v.cell? ⟨w.heap.size, 5, none⟩ = some (.slice aa an ac) ∧ V.grownBy v (some (w.heap.size + 2)) ∧ WX w [.int .i64 T.k, .int .i64 T.p, .string T.n, .int .i64 T.m, .slice ka kn kc, .slice aa an ac, .int .i64 tk, .string tn, .int .i64 ti, .int .i64 th, .slice ta tl tc] v)
    (first
      | exact HS0.out _ (grown_of_below (Below.refl _ V).drew _) (HX0.out.lift (Below.refl _ V).drew)
      | exact HS0.out _ HGx.out HXx.out
      | exact HS0.out _ (grown_trans HGx.out (HW6.out.set1 _).2) ⟨_, _, (HW6.out.set1 _).1⟩
      | exact HS0.out _ (grown_trans HGx.out (HW6.out.set2 _ _).2) ⟨_, _, (HW6.out.set2 _ _).1⟩)
    (first
      | ((refine step_pushS ExE (by rfl) _ _ (by rfl) (w.heap.size + 3) (fun b => S b ∧ b < w.heap.size) (.slice none 0 0) [] rfl (rowG_nil _ _ _ _) (.slice la kn lc) rfl (L.take kn) ?_ (by rw [HTl.out]; simp; omega) ?_ ?_); (go_split_ands; exact HLk.out _ (by assumption)); (go_split_ands; exact Nat.le_trans HW0.out.ge (World.grownBy.size (row := some (w.heap.size + 2)) (by assumption))); (go_split_ands); (intro a4 n4 c4 w4 hn4 hrow4 hg4); (rw [List.nil_append] at hrow4 hn4); (rw [HTl.out] at hn4); (obtain rfl : kn = n4 := hn4.symm); (have HXx : Hid (WX w [.int .i64 T.k, .int .i64 T.p, .string T.n, .int .i64 T.m, .slice ka kn kc, .slice aa an ac, .int .i64 tk, .string tn, .int .i64 ti, .int .i64 th, .slice ta tl tc] w4) := WX.far (by assumption) hg4); (have HGx : Hid (V.grownBy w4 (some (w.heap.size + 2))) := grown_trans (by assumption) (World.grownBy.but hg4 _)); (have HR4 := Lib.hid hrow4); (have HLo : Hid (w.heap.size + 3 ≤ w4.heap.size) := WX.ge HXx.out); clear hg4 hrow4)
      | ((refine step_pushS AmE (by rfl) _ _ (by rfl) w4.heap.size (fun b => S b ∧ b < w.heap.size) (.slice none 0 0) [] rfl (rowG_nil _ _ _ _) (.slice aa an ac) rfl T.arms (HAk.out _ HGx.out) (by rw [HAl.out]; simp; omega) (Nat.le_refl _) ?_); (intro a6 n6 c6 w6 hn6 hrow6 hg6); (rw [List.nil_append] at hrow6 hn6); (rw [HAl.out] at hn6); (obtain rfl : an = n6 := hn6.symm); (have HXy := Lib.hid (HXx.out.far hg6)); (have HGy : Hid (V.grownBy w6 (some (w.heap.size + 2))) := grown_trans HGx.out (World.grownBy.but hg6 _)); (have HR6 := Lib.hid hrow6); (have HR5 := Lib.hid (HR4.out.kept hg6 (Classical.em _) (fun _ _ => by simp [Value.ownBlock]))); (have HLt := Lib.hid (fun k e => (HR4.out.lt k e).2)); clear HGx; have HGx := HGy; clear HXx; have HXx := HXy; obtain ⟨x6, y6, hw6⟩ := HXx.out; have HW6 : Hid (WW w [.int .i64 T.k, .int .i64 T.p, .string T.n, .int .i64 T.m, .slice ka kn kc, .slice aa an ac, .int .i64 tk, .string tn, .int .i64 ti, .int .i64 th, .slice ta tl tc] [.int .i64 T.k, .int .i64 T.p, .string T.n, .int .i64 T.m, x6, y6, .int .i64 tk, .string tn, .int .i64 ti, .int .i64 th, .slice ta tl tc] w6) := hw6; clear hw6; have f4 := HW6.out.out.free 4; have f5 := HW6.out.out.free 5; have z4 := HW6.out.out.cell 4 _ rfl; have z5 := HW6.out.out.cell 5 _ rfl; clear hg6 hrow6))
  all_goals
    obtain ⟨hW8, hG8⟩ := HW6.out.set2 (.slice a4 kn c4) (.slice a6 an c6)
    have HW8 := Lib.hid hW8
    have HK8 := Lib.hid (HR5.out.kept hG8 (HR5.out.off (by omega)) (fun b hb e => by have := Option.some.inj e; omega))
    have HA8 := Lib.hid (HR6.out.kept hG8 (HR6.out.off (by have := HLo.out; omega)) (fun b hb e => by have := Option.some.inj e; omega))
    clear hW8 hG8 f4 f5 z4 z5 HGx HXx HGy HXy HW6 HR5 HR6 HX0 HS0 HLk HAk HR4
    generalize ((w6.setCell ⟨w.heap.size + 1 + 1, 4, none⟩ (.slice a4 kn c4)).setCell ⟨w.heap.size + 1 + 1, 5, none⟩ (.slice a6 an c6)) = W at *
    clear hn4 hn6 HA HW0 HTl
    go_wp2
    go_loopw [7] (fun i wr => ∃ (j : Nat) (l : List (AH × Ex)), j ≤ an ∧ i = .int .i64 j ∧ Hid (l = (withA T.arms (L.drop kn)).take j ++ T.arms.drop j) ∧ Hid (RowG AmE wr w4.heap.size (fun b => S b ∧ b < w.heap.size) (.slice a6 an c6) l) ∧ Hid (RowG ExE wr (w.heap.size + 3) (fun b => S b ∧ b < w.heap.size) (.slice a4 kn c4) (L.take kn)) ∧ Hid (WW w [.int .i64 T.k, .int .i64 T.p, .string T.n, .int .i64 T.m, .slice ka kn kc, .slice aa an ac, .int .i64 tk, .string tn, .int .i64 ti, .int .i64 th, .slice ta tl tc] [.int .i64 T.k, .int .i64 T.p, .string T.n, .int .i64 T.m, .slice a4 kn c4, .slice a6 an c6, .int .i64 tk, .string tn, .int .i64 ti, .int .i64 th, .slice ta tl tc] wr)) (fun i _ => an - (intOf i).toNat)
    case atStart => exact ⟨0, T.arms, Nat.zero_le _, rfl, by show _ = _; simp, HA8, HK8, HW8⟩
    case round =>
      obtain ⟨j, l, hj, rfl, HLl, HAr, HKr, HWr⟩ := hrel
      have o5 := HWr.out.out.cell 5 _ rfl
      by_cases hlt : j < an
      · obtain ⟨A, hA⟩ : ∃ A, T.arms[j]? = some A := ⟨_, List.getElem?_eq_getElem (by rw [HAl.out]; exact hlt)⟩
        obtain ⟨U, hU⟩ : ∃ U, L[kn + j]? = some U := ⟨_, List.getElem?_eq_getElem (by rw [HLen.out, ← HKn.out, ← HAn.out]; omega)⟩
        have hZ : (withA T.arms (L.drop kn))[j]? = some (A.1, U) := withA_get hA (by rw [List.getElem?_drop]; exact hU)
        have hZl : (withA T.arms (L.drop kn)).length = T.arms.length := by unfold withA; rw [List.length_zipWith, List.length_drop, HLen.out, ← HKn.out, ← HAn.out]; omega
        have hlj : l[j]? = some A := by
          rw [HLl.out, List.getElem?_append_right (by rw [List.length_take]; omega), List.length_take, hZl, HAl.out, Nat.min_eq_left (by omega), Nat.sub_self, List.getElem?_drop]
          exact hA
        have HLn : Hid (l.set j (A.1, U) = (withA T.arms (L.drop kn)).take (j + 1) ++ T.arms.drop (j + 1)) := by show _ = _; rw [HLl.out]; exact step_list hZ hZl
        have HLw := HL.out.kept (S' := fun b => S b ∧ b < w.heap.size) (fun _ h => h) (fun b hb _ => HWr.out.low.block b hb.2)
        obtain ⟨ad, cc, had, hSa, hrepU, hc0, hcm⟩ := slG_get HLw hU
        obtain ⟨kb, kd, ab, ae, uk, un, ui, uh, ua, ul, uc, rfl⟩ := RepE.form hrepU
        have HRu := Lib.hid hrepU
        obtain ⟨g, hg6, hgl, hgs⟩ := HAr.out.head (by have := (List.getElem?_eq_some_iff.1 hlj).1; omega)
        obtain ⟨ad2, cc2, had2, hrep2, hd0, hdm⟩ := rowG_get HAr.out hlj
        obtain ⟨vv, cb, rfl, hvv, hrepb⟩ := hrep2
        obtain ⟨xa, xc, xb, xe, yk, yn, yi, yh, ya, yl, yc, rfl⟩ := hrepb.form
        obtain rfl : (⟨g, 0, none⟩ : Addr) = ad2 := by have := had2.symm.trans hg6; exact (Option.some.inj this).symm
        clear hg6
        subst had had2
        have HAr0 := HAr
        rw [show ExE.k = 11 from rfl] at hc0 hcm
        rw [show AmE.k = 14 from rfl] at hd0 hdm
        have q0 : wr.cell? (ad.add ((kn + j) * 11)) = some (.int .i64 U.k) := hc0 _ rfl
        have q1 : wr.cell? ⟨(ad.add ((kn + j) * 11)).block, (ad.add ((kn + j) * 11)).off + 1, none⟩ = some (.int .i64 U.p) := hcm 1 _ (by decide) rfl
        have q2 : wr.cell? ⟨(ad.add ((kn + j) * 11)).block, (ad.add ((kn + j) * 11)).off + 2, none⟩ = some (.string U.n) := hcm 2 _ (by decide) rfl
        have q3 : wr.cell? ⟨(ad.add ((kn + j) * 11)).block, (ad.add ((kn + j) * 11)).off + 3, none⟩ = some (.int .i64 U.m) := hcm 3 _ (by decide) rfl
        have q4 : wr.cell? ⟨(ad.add ((kn + j) * 11)).block, (ad.add ((kn + j) * 11)).off + 4, none⟩ = some (.slice kb U.kids.length kd) := hcm 4 _ (by decide) rfl
        have q5 : wr.cell? ⟨(ad.add ((kn + j) * 11)).block, (ad.add ((kn + j) * 11)).off + 5, none⟩ = some (.slice ab U.arms.length ae) := hcm 5 _ (by decide) rfl
        have q6 : wr.cell? ⟨(ad.add ((kn + j) * 11)).block, (ad.add ((kn + j) * 11)).off + 6, none⟩ = some (.int .i64 uk) := hcm 6 _ (by decide) rfl
        have q7 : wr.cell? ⟨(ad.add ((kn + j) * 11)).block, (ad.add ((kn + j) * 11)).off + 7, none⟩ = some (.string un) := hcm 7 _ (by decide) rfl
        have q8 : wr.cell? ⟨(ad.add ((kn + j) * 11)).block, (ad.add ((kn + j) * 11)).off + 8, none⟩ = some (.int .i64 ui) := hcm 8 _ (by decide) rfl
        have q9 : wr.cell? ⟨(ad.add ((kn + j) * 11)).block, (ad.add ((kn + j) * 11)).off + 9, none⟩ = some (.int .i64 uh) := hcm 9 _ (by decide) rfl
        have q10 : wr.cell? ⟨(ad.add ((kn + j) * 11)).block, (ad.add ((kn + j) * 11)).off + 10, none⟩ = some (.slice ua ul uc) := hcm 10 _ (by decide) rfl
        have z0 : wr.cell? ⟨g, j * 14 + 3, none⟩ = some (.int .i64 A.2.k) := by have := hdm 3 _ (by decide) rfl; rw [Addr.add_mid, Nat.zero_add] at this; exact this
        have f0 : wr.frozen? ⟨g, j * 14 + 3, none⟩ = false := HAr0.out.free _
        have z1 : wr.cell? ⟨g, j * 14 + 3 + 1, none⟩ = some (.int .i64 A.2.p) := by have := hdm 4 _ (by decide) rfl; rw [Addr.add_mid, Nat.zero_add] at this; exact this
        have f1 : wr.frozen? ⟨g, j * 14 + 3 + 1, none⟩ = false := HAr0.out.free _
        have z2 : wr.cell? ⟨g, j * 14 + 3 + 2, none⟩ = some (.string A.2.n) := by have := hdm 5 _ (by decide) rfl; rw [Addr.add_mid, Nat.zero_add] at this; exact this
        have f2 : wr.frozen? ⟨g, j * 14 + 3 + 2, none⟩ = false := HAr0.out.free _
        have z3 : wr.cell? ⟨g, j * 14 + 3 + 3, none⟩ = some (.int .i64 A.2.m) := by have := hdm 6 _ (by decide) rfl; rw [Addr.add_mid, Nat.zero_add] at this; exact this
        have f3 : wr.frozen? ⟨g, j * 14 + 3 + 3, none⟩ = false := HAr0.out.free _
        have z4 : wr.cell? ⟨g, j * 14 + 3 + 4, none⟩ = some (.slice xa A.2.kids.length xc) := by have := hdm 7 _ (by decide) rfl; rw [Addr.add_mid, Nat.zero_add] at this; exact this
        have f4 : wr.frozen? ⟨g, j * 14 + 3 + 4, none⟩ = false := HAr0.out.free _
        have z5 : wr.cell? ⟨g, j * 14 + 3 + 5, none⟩ = some (.slice xb A.2.arms.length xe) := by have := hdm 8 _ (by decide) rfl; rw [Addr.add_mid, Nat.zero_add] at this; exact this
        have f5 : wr.frozen? ⟨g, j * 14 + 3 + 5, none⟩ = false := HAr0.out.free _
        have z6 : wr.cell? ⟨g, j * 14 + 3 + 6, none⟩ = some (.int .i64 yk) := by have := hdm 9 _ (by decide) rfl; rw [Addr.add_mid, Nat.zero_add] at this; exact this
        have f6 : wr.frozen? ⟨g, j * 14 + 3 + 6, none⟩ = false := HAr0.out.free _
        have z7 : wr.cell? ⟨g, j * 14 + 3 + 7, none⟩ = some (.string yn) := by have := hdm 10 _ (by decide) rfl; rw [Addr.add_mid, Nat.zero_add] at this; exact this
        have f7 : wr.frozen? ⟨g, j * 14 + 3 + 7, none⟩ = false := HAr0.out.free _
        have z8 : wr.cell? ⟨g, j * 14 + 3 + 8, none⟩ = some (.int .i64 yi) := by have := hdm 11 _ (by decide) rfl; rw [Addr.add_mid, Nat.zero_add] at this; exact this
        have f8 : wr.frozen? ⟨g, j * 14 + 3 + 8, none⟩ = false := HAr0.out.free _
        have z9 : wr.cell? ⟨g, j * 14 + 3 + 9, none⟩ = some (.int .i64 yh) := by have := hdm 12 _ (by decide) rfl; rw [Addr.add_mid, Nat.zero_add] at this; exact this
        have f9 : wr.frozen? ⟨g, j * 14 + 3 + 9, none⟩ = false := HAr0.out.free _
        have z10 : wr.cell? ⟨g, j * 14 + 3 + 10, none⟩ = some (.slice ya yl yc) := by have := hdm 13 _ (by decide) rfl; rw [Addr.add_mid, Nat.zero_add] at this; exact this
        have f10 : wr.frozen? ⟨g, j * 14 + 3 + 10, none⟩ = false := HAr0.out.free _
        have hji : (j : Int) < (an : Int) := by omega
        have hq0 : (0 : Int) ≤ ((kn : Int) + (j : Int)) := by omega
        have hq1 : ((kn : Int) + (j : Int)) < (kn : Int) + (an : Int) := by omega
        have hwq : IntKind.i64.wrap ((kn : Int) + (j : Int)) = ((kn : Int) + (j : Int)) := by rw [IntKind.wrap_i64]; omega
        have htn : ((kn : Int) + (j : Int)).toNat = kn + j := by omega
        have hne : some (ad.add ((kn + j) * 11)).block ≠ some g := by rw [add_block]; intro e; have := Option.some.inj e; have := hSa.2; have := HLo.out; omega
        have hS0 : ∀ v, wr.grownBy v (some g) → (fun v => v.cell? ⟨w.heap.size + 2, 5, none⟩ = some (.slice (some ⟨g, 0, none⟩) an c6) ∧ v.cell? (ad.add ((kn + j) * 11)) = some (.int .i64 U.k) ∧ v.cell? ⟨(ad.add ((kn + j) * 11)).block, (ad.add ((kn + j) * 11)).off + 1, none⟩ = some (.int .i64 U.p) ∧ v.cell? ⟨(ad.add ((kn + j) * 11)).block, (ad.add ((kn + j) * 11)).off + 2, none⟩ = some (.string U.n) ∧ v.cell? ⟨(ad.add ((kn + j) * 11)).block, (ad.add ((kn + j) * 11)).off + 3, none⟩ = some (.int .i64 U.m) ∧ v.cell? ⟨(ad.add ((kn + j) * 11)).block, (ad.add ((kn + j) * 11)).off + 4, none⟩ = some (.slice kb U.kids.length kd) ∧ v.cell? ⟨(ad.add ((kn + j) * 11)).block, (ad.add ((kn + j) * 11)).off + 5, none⟩ = some (.slice ab U.arms.length ae) ∧ v.cell? ⟨(ad.add ((kn + j) * 11)).block, (ad.add ((kn + j) * 11)).off + 6, none⟩ = some (.int .i64 uk) ∧ v.cell? ⟨(ad.add ((kn + j) * 11)).block, (ad.add ((kn + j) * 11)).off + 7, none⟩ = some (.string un) ∧ v.cell? ⟨(ad.add ((kn + j) * 11)).block, (ad.add ((kn + j) * 11)).off + 8, none⟩ = some (.int .i64 ui) ∧ v.cell? ⟨(ad.add ((kn + j) * 11)).block, (ad.add ((kn + j) * 11)).off + 9, none⟩ = some (.int .i64 uh) ∧ v.cell? ⟨(ad.add ((kn + j) * 11)).block, (ad.add ((kn + j) * 11)).off + 10, none⟩ = some (.slice ua ul uc) ∧ wr.grownBy v (some g)) v := fun v hv => by
          have k : ∀ {a : Addr} {u : Value}, wr.cell? a = some u → some a.block ≠ some g → v.cell? a = some u := fun h hn => (hv.cell_far _ (World.block_lt_of_cell? _ _ h) hn).trans h
          exact ⟨k o5 (fun e => by have e' : w.heap.size + 2 = g := Option.some.inj e; have := HLo.out; omega), k q0 hne, k q1 hne, k q2 hne, k q3 hne, k q4 hne, k q5 hne, k q6 hne, k q7 hne, k q8 hne, k q9 hne, k q10 hne, hv⟩
        have hput := HAr0.out.put hlj (A.1, U) 3 [.int .i64 U.k, .int .i64 U.p, .string U.n, .int .i64 U.m, .slice kb U.kids.length kd, .slice ab U.arms.length ae, .int .i64 uk, .string un, .int .i64 ui, .int .i64 uh, .slice ua ul uc] (fun c hc => by
          obtain ⟨vv, cb, rfl, h1, h2⟩ := hc
          refine ⟨[.int .i64 A.1.pos, .string A.1.con, vv], cb, [], by simp, rfl, h2.len.1.symm, ⟨vv, _, by simp; rfl, h1, ?_⟩⟩
          exact HRu.out.kept (fun b hb => ⟨hb, by have := hb.2; have := HLo.out; omega⟩) (fun _ _ _ => rfl))
        have HPut : Hid (RowG AmE (((((((((((wr.setCell ⟨g, j * 14 + 3, none⟩ (.int .i64 U.k)).setCell ⟨g, j * 14 + 3 + 1, none⟩ (.int .i64 U.p)).setCell ⟨g, j * 14 + 3 + 2, none⟩ (.string U.n)).setCell ⟨g, j * 14 + 3 + 3, none⟩ (.int .i64 U.m)).setCell ⟨g, j * 14 + 3 + 4, none⟩ (.slice kb U.kids.length kd)).setCell ⟨g, j * 14 + 3 + 5, none⟩ (.slice ab U.arms.length ae)).setCell ⟨g, j * 14 + 3 + 6, none⟩ (.int .i64 uk)).setCell ⟨g, j * 14 + 3 + 7, none⟩ (.string un)).setCell ⟨g, j * 14 + 3 + 8, none⟩ (.int .i64 ui)).setCell ⟨g, j * 14 + 3 + 9, none⟩ (.int .i64 uh)).setCell ⟨g, j * 14 + 3 + 10, none⟩ (.slice ua ul uc)) w4.heap.size (fun b => S b ∧ b < w.heap.size) (.slice (some ⟨g, 0, none⟩) an c6) (l.set j (A.1, U)) ∧ wr.grownBy (((((((((((wr.setCell ⟨g, j * 14 + 3, none⟩ (.int .i64 U.k)).setCell ⟨g, j * 14 + 3 + 1, none⟩ (.int .i64 U.p)).setCell ⟨g, j * 14 + 3 + 2, none⟩ (.string U.n)).setCell ⟨g, j * 14 + 3 + 3, none⟩ (.int .i64 U.m)).setCell ⟨g, j * 14 + 3 + 4, none⟩ (.slice kb U.kids.length kd)).setCell ⟨g, j * 14 + 3 + 5, none⟩ (.slice ab U.arms.length ae)).setCell ⟨g, j * 14 + 3 + 6, none⟩ (.int .i64 uk)).setCell ⟨g, j * 14 + 3 + 7, none⟩ (.string un)).setCell ⟨g, j * 14 + 3 + 8, none⟩ (.int .i64 ui)).setCell ⟨g, j * 14 + 3 + 9, none⟩ (.int .i64 uh)).setCell ⟨g, j * 14 + 3 + 10, none⟩ (.slice ua ul uc)) (some g)) := hput
        have HS0 := Lib.hid hS0
        have HWr9 : Hid (∀ v, wr.grownBy v (some g) → WW w [.int .i64 T.k, .int .i64 T.p, .string T.n, .int .i64 T.m, .slice ka kn kc, .slice aa an ac, .int .i64 tk, .string tn, .int .i64 ti, .int .i64 th, .slice ta tl tc] [.int .i64 T.k, .int .i64 T.p, .string T.n, .int .i64 T.m, .slice a4 kn c4, .slice (some ⟨g, 0, none⟩) an c6, .int .i64 tk, .string tn, .int .i64 ti, .int .i64 th, .slice ta tl tc] v) := fun v hv => HWr.out.far hv (fun k e => by cases e; have := HLo.out; omega)
        have HKr9 : Hid (∀ v, wr.grownBy v (some g) → RowG ExE v (w.heap.size + 3) (fun b => S b ∧ b < w.heap.size) (.slice a4 kn c4) (L.take kn)) := fun v hv => HKr.out.kept hv (by
          cases he : (Value.slice a4 kn c4).ownBlock with
          | none => exact .inl rfl
          | some k => have := HLt.out k he; exact .inr (by intro e; cases e; omega)) (fun b hb e => by have := Option.some.inj e; have := HLo.out; omega)
        clear hput hS0 hrepb hd0 hdm hc0 hcm hrepU HLw HAr HWr HKr HAr0 HRu hvv
        generalize U.kids.length = k3 at *
        generalize U.arms.length = k4 at *
        generalize A.2.kids.length = k5 at *
        generalize A.2.arms.length = k6 at *
        go_upto_region 9 with fail
        go_region_held3 (fun v => v.cell? ⟨w.heap.size + 2, 5, none⟩ = some (.slice (some ⟨g, 0, none⟩) an c6) ∧ v.cell? (ad.add ((kn + j) * 11)) = some (.int .i64 U.k) ∧ v.cell? ⟨(ad.add ((kn + j) * 11)).block, (ad.add ((kn + j) * 11)).off + 1, none⟩ = some (.int .i64 U.p) ∧ v.cell? ⟨(ad.add ((kn + j) * 11)).block, (ad.add ((kn + j) * 11)).off + 2, none⟩ = some (.string U.n) ∧ v.cell? ⟨(ad.add ((kn + j) * 11)).block, (ad.add ((kn + j) * 11)).off + 3, none⟩ = some (.int .i64 U.m) ∧ v.cell? ⟨(ad.add ((kn + j) * 11)).block, (ad.add ((kn + j) * 11)).off + 4, none⟩ = some (.slice kb k3 kd) ∧ v.cell? ⟨(ad.add ((kn + j) * 11)).block, (ad.add ((kn + j) * 11)).off + 5, none⟩ = some (.slice ab k4 ae) ∧ v.cell? ⟨(ad.add ((kn + j) * 11)).block, (ad.add ((kn + j) * 11)).off + 6, none⟩ = some (.int .i64 uk) ∧ v.cell? ⟨(ad.add ((kn + j) * 11)).block, (ad.add ((kn + j) * 11)).off + 7, none⟩ = some (.string un) ∧ v.cell? ⟨(ad.add ((kn + j) * 11)).block, (ad.add ((kn + j) * 11)).off + 8, none⟩ = some (.int .i64 ui) ∧ v.cell? ⟨(ad.add ((kn + j) * 11)).block, (ad.add ((kn + j) * 11)).off + 9, none⟩ = some (.int .i64 uh) ∧ v.cell? ⟨(ad.add ((kn + j) * 11)).block, (ad.add ((kn + j) * 11)).off + 10, none⟩ = some (.slice ua ul uc) ∧ wr.grownBy v (some g))
          (first
            | with_reducible exact HS0.out _ (grown_of_below (Below.refl _ wr).drew _)
            | with_reducible exact HS0.out _ (grown_trans HPut.out.2 (grown_of_below (Below.refl _ _).drew _))
            | with_reducible exact HS0.out _ HPut.out.2)
          (fail)
        all_goals
          have hdr := (Below.refl (((((((((((wr.setCell ⟨g, j * 14 + 3, none⟩ (.int .i64 U.k)).setCell ⟨g, j * 14 + 3 + 1, none⟩ (.int .i64 U.p)).setCell ⟨g, j * 14 + 3 + 2, none⟩ (.string U.n)).setCell ⟨g, j * 14 + 3 + 3, none⟩ (.int .i64 U.m)).setCell ⟨g, j * 14 + 3 + 4, none⟩ (.slice kb k3 kd)).setCell ⟨g, j * 14 + 3 + 5, none⟩ (.slice ab k4 ae)).setCell ⟨g, j * 14 + 3 + 6, none⟩ (.int .i64 uk)).setCell ⟨g, j * 14 + 3 + 7, none⟩ (.string un)).setCell ⟨g, j * 14 + 3 + 8, none⟩ (.int .i64 ui)).setCell ⟨g, j * 14 + 3 + 9, none⟩ (.int .i64 uh)).setCell ⟨g, j * 14 + 3 + 10, none⟩ (.slice ua ul uc)).heap.size (((((((((((wr.setCell ⟨g, j * 14 + 3, none⟩ (.int .i64 U.k)).setCell ⟨g, j * 14 + 3 + 1, none⟩ (.int .i64 U.p)).setCell ⟨g, j * 14 + 3 + 2, none⟩ (.string U.n)).setCell ⟨g, j * 14 + 3 + 3, none⟩ (.int .i64 U.m)).setCell ⟨g, j * 14 + 3 + 4, none⟩ (.slice kb k3 kd)).setCell ⟨g, j * 14 + 3 + 5, none⟩ (.slice ab k4 ae)).setCell ⟨g, j * 14 + 3 + 6, none⟩ (.int .i64 uk)).setCell ⟨g, j * 14 + 3 + 7, none⟩ (.string un)).setCell ⟨g, j * 14 + 3 + 8, none⟩ (.int .i64 ui)).setCell ⟨g, j * 14 + 3 + 9, none⟩ (.int .i64 uh)).setCell ⟨g, j * 14 + 3 + 10, none⟩ (.slice ua ul uc))).drew
          have hg9 := grown_trans HPut.out.2 (grown_of_below hdr (some g))
          have HA9 := Lib.hid (HPut.out.1.lift hdr)
          have HK9 := Lib.hid (HKr9.out _ hg9)
          have HW9 := Lib.hid (HWr9.out _ hg9)
          clear hdr hg9 HPut HKr9 HWr9 HS0 z0 f0 q0 z1 f1 q1 z2 f2 q2 z3 f3 q3 z4 f4 q4 z5 f5 q5 z6 f6 q6 z7 f7 q7 z8 f8 q8 z9 f9 q9 z10 f10 q10
          generalize (((((((((((wr.setCell ⟨g, j * 14 + 3, none⟩ (.int .i64 U.k)).setCell ⟨g, j * 14 + 3 + 1, none⟩ (.int .i64 U.p)).setCell ⟨g, j * 14 + 3 + 2, none⟩ (.string U.n)).setCell ⟨g, j * 14 + 3 + 3, none⟩ (.int .i64 U.m)).setCell ⟨g, j * 14 + 3 + 4, none⟩ (.slice kb k3 kd)).setCell ⟨g, j * 14 + 3 + 5, none⟩ (.slice ab k4 ae)).setCell ⟨g, j * 14 + 3 + 6, none⟩ (.int .i64 uk)).setCell ⟨g, j * 14 + 3 + 7, none⟩ (.string un)).setCell ⟨g, j * 14 + 3 + 8, none⟩ (.int .i64 ui)).setCell ⟨g, j * 14 + 3 + 9, none⟩ (.int .i64 uh)).setCell ⟨g, j * 14 + 3 + 10, none⟩ (.slice ua ul uc)).drew = w9 at *
          rw [HLn.out] at HA9
          go_wp2
          go_roundw
          case rel => exact ⟨j + 1, _, hlt, by go_num, rfl, HA9, HK9, HW9⟩
          case measure => simp [intOf]; omega
      · have o0 := HWr.out.out.cell 0 _ rfl; have o1 := HWr.out.out.cell 1 _ rfl; have o2 := HWr.out.out.cell 2 _ rfl; have o3 := HWr.out.out.cell 3 _ rfl; have o4 := HWr.out.out.cell 4 _ rfl; have o6 := HWr.out.out.cell 6 _ rfl; have o7 := HWr.out.out.cell 7 _ rfl; have o8 := HWr.out.out.cell 8 _ rfl; have o9 := HWr.out.out.cell 9 _ rfl; have o10 := HWr.out.out.cell 10 _ rfl
        go_wp2_with (refine wpList_storeC rfl _ _ rfl _ _ [.int .i64 T.k, .int .i64 T.p, .string T.n, .int .i64 T.m, .slice a4 kn c4, .slice a6 an c6, .int .i64 tk, .string tn, .int .i64 ti, .int .i64 th, .slice ta tl tc] HWr.out.res rfl rfl sizeEx rfl (by intro u hu; simp at hu; rcases hu with rfl | rfl | rfl | rfl | rfl | rfl | rfl | rfl | rfl | rfl | rfl <;> rfl) ?_; intro w9 hB9 hg9 hs9)
        have c0 := hB9.cell 0 _ rfl; have c1 := hB9.cell 1 _ rfl; have c2 := hB9.cell 2 _ rfl; have c3 := hB9.cell 3 _ rfl; have c4' := hB9.cell 4 _ rfl; have c5 := hB9.cell 5 _ rfl; have c6' := hB9.cell 6 _ rfl; have c7 := hB9.cell 7 _ rfl; have c8 := hB9.cell 8 _ rfl; have c9 := hB9.cell 9 _ rfl; have c10 := hB9.cell 10 _ rfl
        have hZl : (withA T.arms (L.drop kn)).length = an := by unfold withA; rw [List.length_zipWith, List.length_drop, HLen.out, ← HKn.out, ← HAn.out]; omega
        have hl : l = withA T.arms (L.drop kn) := HLl.out.trans (list_done hZl HAl.out (by omega))
        have hlow9 : Below w.heap.size w w9 := Below.grown HWr.out.low hg9 HWr.out.low.size (fun k hk => by have := Option.some.inj hk; omega)
        have hK9 := (HKr.out.kept hg9 (HKr.out.off (by omega)) (fun b hb e => by have := Option.some.inj e; omega)).slG (S' := fun b => S b ∨ w.heap.size ≤ b) (fun b h => .inl h.1) (fun b h => .inr (by omega))
        have hA9 := (HAr.out.kept hg9 (HAr.out.off (by have := HLo.out; omega)) (fun b hb e => by have := Option.some.inj e; omega)).slG (S' := fun b => S b ∨ w.heap.size ≤ b) (fun b h => .inl h.1) (fun b h => .inr (by have := HLo.out; omega))
        rw [hl] at hA9
        have hT9 := HT.out.kept (S' := fun b => S b ∨ w.heap.size ≤ b) (fun b h => .inl h.1) (fun b hb _ => hlow9.block b hb.2)
        refine bodyPost_ret (by simp [results, Try.results18, go_sem, c0, c1, c2, c3, c4', c5, c6', c7, c8, c9, c10]; try rfl) rfl ?_
        refine ⟨_, rfl, ?_, hlow9⟩
        unfold withE
        rw [← HKn.out]
        exact RepE.close HN.out hK9 hA9 hT9
end Go.Proofs.Ytljgpgmaceackaa
