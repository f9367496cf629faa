import Derived.Test.YtljgpgmaceackaaQX22
import Derived.Test.YtljgpgmaceackaaQX23
/- The law's marked: an expression with other places. -/
namespace Go.Proofs.Ytljgpgmaceackaa
open Go.RowKit Go.Maps Mth S3

/-- Alike in what binds. -/
structure Lk (T T' : Ex) : Prop where
  k : T'.k = T.k
  n : T'.n = T.n
  t : T'.t = T.t
  kl : T'.kids.length = T.kids.length
  av : T'.arms.map (·.1.vars) = T.arms.map (·.1.vars)
theorem Lk.al {T T' : Ex} (h : Lk T T') : T'.arms.length = T.arms.length := by simpa using congrArg List.length h.av
theorem bnN_map (T : Ex) (i : Nat) : bnN T i = if T.k == 4 || T.k == 7 || (T.k == 6 && i == 1) then [T.n] else if T.k == 8 && i != 0 then ((T.arms.map (·.1.vars))[i - 1]?).getD [] else [] := by
  unfold bnN
  rw [List.getElem?_map]
  cases T.arms[i - 1]? <;> rfl
theorem Lk.bn {T T' : Ex} (h : Lk T T') (i : Nat) : bnN T' i = bnN T i := by rw [bnN_map, bnN_map, h.k, h.n, h.av]
/-- What a walk over an expression may ask. -/
def a8 : Nat → Ex → Bool
  | 0, _ => false
  | n + 1, T => (T.k == 8 || T.arms.length == 0) && (chN T).all (a8 n)
theorem a8_open {n : Nat} {T : Ex} (h : a8 (n + 1) T = true) : (T.k ≠ 8 → T.arms.length = 0) ∧ ∀ U ∈ chN T, a8 n U = true := by
  simp only [a8, Bool.and_eq_true, Bool.or_eq_true, List.all_eq_true, beq_iff_eq] at h
  exact ⟨fun e => h.1.resolve_left e, h.2⟩
def GE (n m : Nat) (T : Ex) : Prop := fitV n m T = true ∧ flE n T = true ∧ a8 n T = true
theorem GE.kid {n m : Nat} {T : Ex} (h : GE (n + 1) m T) : ∀ (i : Nat) (U : Ex), (chN T)[i]? = some U → GE n (m - (bnN T i).length) U := fun i U hU =>
  ⟨((fitV_open h.1).all i U hU).2.2, (flE_open h.2.1).2 U (List.mem_of_getElem? hU), (a8_open h.2.2).2 U (List.mem_of_getElem? hU)⟩
theorem GE.of {n m : Nat} {T T' : Ex} (h : GE (n + 1) m T) (hl : Lk T T') (hc : ∀ (i : Nat) (U : Ex), (chN T')[i]? = some U → GE n (m - (bnN T i).length) U) : GE (n + 1) m T' := by
  have hf := fitV_open h.1
  have ho := flE_open h.2.1
  have hq := a8_open h.2.2
  refine ⟨fitV_mk ⟨by rw [hl.kl]; exact hf.kids, by rw [hl.al]; exact hf.arms, fun e => by rw [hl.kl]; exact hf.one (by rw [← hl.k]; exact e), fun i U hU => ?_⟩, ?_, ?_⟩
  · have hi : i < (chN T).length := by
      have := (List.getElem?_eq_some_iff.1 hU).1
      unfold chN at this ⊢
      rw [List.length_append, List.length_map] at this ⊢
      rw [hl.kl, hl.al] at this
      exact this
    obtain ⟨h1, h2, -⟩ := hf.all i _ (List.getElem?_eq_getElem hi)
    rw [hl.bn]
    exact ⟨h1, h2, (hc i U hU).1⟩
  · simp only [flE, Bool.and_eq_true, Bool.or_eq_true, List.all_eq_true]
    refine ⟨?_, fun U hU => ?_⟩
    · by_cases e : T'.k = 9
      · right; rw [hl.t]; exact ho.1 (by rw [← hl.k]; exact e)
      · left; simpa using e
    · obtain ⟨i, hi, e⟩ := List.getElem_of_mem hU
      exact (hc i U (by rw [← e]; exact List.getElem?_eq_getElem hi)).2.1
  · simp only [a8, Bool.and_eq_true, Bool.or_eq_true, List.all_eq_true, beq_iff_eq]
    refine ⟨?_, fun U hU => ?_⟩
    · by_cases e : T'.k = 8
      · exact .inl e
      · right; rw [hl.al]; exact hq.1 (by rw [← hl.k]; exact e)
    · obtain ⟨i, hi, e⟩ := List.getElem_of_mem hU
      exact (hc i U (by rw [← e]; exact List.getElem?_eq_getElem hi)).2.2
theorem chN_with {T : Ex} {L : List Ex} (h : L.length = T.kids.length + T.arms.length) : chN (withE T L) = L := by
  show L.take T.kids.length ++ (withA T.arms (L.drop T.kids.length)).map (·.2) = L
  have : (withA T.arms (L.drop T.kids.length)).map (·.2) = L.drop T.kids.length := by
    unfold withA
    apply List.ext_getElem?
    intro i
    rw [List.getElem?_map, List.getElem?_zipWith]
    by_cases hi : i < T.arms.length
    · rw [List.getElem?_eq_getElem hi, List.getElem?_eq_getElem (l := L.drop T.kids.length) (by rw [List.length_drop]; omega)]
      rfl
    · rw [List.getElem?_eq_none (l := T.arms) (by omega), List.getElem?_eq_none (l := L.drop T.kids.length) (by rw [List.length_drop]; omega)]
      rfl
  rw [this, List.take_append_drop]
theorem lk_with {T T1 : Ex} {L : List Ex} (hk : T1.k = T.k) (hn : T1.n = T.n) (ht : T1.t = T.t) (hl : T1.kids.length = T.kids.length) (hv : T1.arms.map (·.1.vars) = T.arms.map (·.1.vars)) (h : L.length = T1.kids.length + T1.arms.length) : Lk T (withE T1 L) := by
  refine ⟨hk, hn, ht, ?_, ?_⟩
  · show (L.take T1.kids.length).length = T.kids.length
    rw [List.length_take, ← hl]; omega
  · show (withA T1.arms (L.drop T1.kids.length)).map _ = _
    rw [← hv]
    unfold withA
    apply List.ext_getElem?
    intro i
    rw [List.getElem?_map, List.getElem?_zipWith, List.getElem?_map]
    by_cases hi : i < T1.arms.length
    · rw [List.getElem?_eq_getElem hi, List.getElem?_eq_getElem (l := L.drop T1.kids.length) (by rw [List.length_drop]; omega)]
      rfl
    · rw [List.getElem?_eq_none (l := T1.arms) (by omega)]
theorem rowG_getT {α : Type} {E : El α} {w : World} {base : Nat} {S : Nat → Prop} {xs : List α} {g n cap : Nat} (h : RowG E w base S (.slice (some ⟨g, 0, none⟩) n cap) xs) {j : Nat} {x : α} (hx : xs[j]? = some x) : ∃ c, E.rep w (fun b => S b ∧ b ≠ g) x c ∧ ∀ (m : Nat) (u : Value), c[m]? = some u → w.cell? ⟨g, j * E.k + m, none⟩ = some u := by
  obtain ⟨L, hown, hl, hr⟩ := h
  have h5 := rowG_len hl hr
  obtain ⟨c, hc', hrep⟩ := hr j x hx
  refine ⟨c, E.kept (fun b hb => ⟨hb.1, fun e => hb.2 (by rw [e]; rfl)⟩) (fun _ _ _ => rfl) hrep, fun m u hu => ?_⟩
  have := hown.cells (g := g) rfl _ _ (flat_get E.k L (fun c h => (h5 c h).1) j m c u hc' hu)
  rwa [Addr.add_mid, Nat.zero_add] at this
/-- The box of the argument and the one of the result. -/
structure WM (w : World) (e : List Value) (wr : World) : Prop where
  box : BoxC 36 wr w.heap.size e
  res : BoxC 36 wr (w.heap.size + 1) zE
  low : Below w.heap.size w wr
theorem WM.ge {w : World} {e : List Value} {wr : World} (H : WM w e wr) : w.heap.size + 2 ≤ wr.heap.size := H.res.lt
theorem WM.far {w : World} {e : List Value} {wr v : World} {row : Option Nat} (H : WM w e wr) (hg : wr.grownBy v row) (hr : ∀ k, row = some k → w.heap.size + 2 ≤ k) : WM w e v :=
  ⟨H.box.grown hg (fun e => by have := hr _ e.symm; omega), H.res.grown hg (fun e => by have := hr _ e.symm; omega), Below.grown H.low hg H.low.size (fun k hk => by have := hr k hk; omega)⟩
theorem WM.lift {w : World} {e : List Value} {wr v : World} (H : WM w e wr) (hb : Below wr.heap.size wr v) : WM w e v := H.far (grown_of_below hb none) (fun k e => by cases e)
theorem WM.set {w : World} {e : List Value} {wr : World} (H : WM w e wr) (j : Nat) (x : Value) : WM w (e.set j x) (wr.setCell ⟨w.heap.size, j, none⟩ x) ∧ wr.grownBy (wr.setCell ⟨w.heap.size, j, none⟩ x) (some w.heap.size) := by
  obtain ⟨h1, hg, -⟩ := H.box.set j x
  exact ⟨⟨h1, H.res.grown hg (fun e => by have := Option.some.inj e; omega), Below.grown H.low hg H.low.size (fun k hk => by have := Option.some.inj hk; omega)⟩, hg⟩
theorem WM.made (w : World) (e : List Value) : WM w e ((w.alloc (.cells e.toArray 36)).alloc (.cells zE.toArray 36)) := by
  have h1 := BoxC.made 36 w e
  have hs1 : (w.alloc (.cells e.toArray 36)).heap.size = w.heap.size + 1 := by simp
  have hb1 : Below w.heap.size w (w.alloc (.cells e.toArray 36)) := (Below.refl _ w).alloc (Nat.le_refl _) _
  generalize w.alloc (.cells e.toArray 36) = V at *
  have h2 := BoxC.made 36 V zE
  have hb2 : Below V.heap.size V (V.alloc (.cells zE.toArray 36)) := (Below.refl _ V).alloc (Nat.le_refl _) _
  rw [hs1] at h2
  exact ⟨h1.lift hb2, h2, hb1.trans (hb2.mono hb1.size)⟩
def noP (A : AH × Ex) : ByteArray × List ByteArray × Ex := (A.1.con, A.1.vars, A.2)
theorem noP_set {l : List (AH × Ex)} {j : Nat} {A : AH × Ex} (h : l[j]? = some A) (z : Int) : (l.set j (⟨z, A.1.con, A.1.vars⟩, A.2)).map noP = l.map noP := by
  apply List.ext_getElem?
  intro i
  rw [List.getElem?_map, List.getElem?_map]
  by_cases e : j = i
  · subst e
    rw [List.getElem?_set_self (List.getElem?_eq_some_iff.1 h).1, h]
    rfl
  · rw [List.getElem?_set_ne e]
theorem noP_vars {l l' : List (AH × Ex)} (h : l.map noP = l'.map noP) : l.map (·.1.vars) = l'.map (·.1.vars) := by
  have := congrArg (List.map (fun x : ByteArray × List ByteArray × Ex => x.2.1)) h
  simpa [List.map_map, Function.comp_def, noP] using this
theorem noP_len {l l' : List (AH × Ex)} (h : l.map noP = l'.map noP) : l.length = l'.length := by simpa using congrArg List.length h

set_option maxRecDepth 100000 in
set_option maxHeartbeats 6400000 in
theorem marked_any (n : Nat) : ∀ (m : Nat) (T : Ex) (z : Int) (S : Nat → Prop) (c : List Value) (w : World), GE n m T → RepE w S T c →
    Calls Try.prog 7 #[.agg c.toArray, .int .i64 z] w fun e w' => ∃ (T' : Ex) (c' : List Value) (z' : Int), e = .returned (.tuple #[.agg c'.toArray, .int .i64 z']) ∧ GE n m T' ∧ RepE w' (fun b => S b ∨ w.heap.size ≤ b) T' c' ∧ Below w.heap.size w w' := by
  induction n with
  | zero => intro m T z S c w h; exact absurd h.1 (by simp [fitV])
  | succ n ih =>
  intro m T z S c w hge h
  have hf := fitV_open hge.1
  have hkl := hf.kids
  have hal := hf.arms
  have HG := Lib.hid hge
  have HIh := Lib.hid ih
  obtain ⟨kv, av, tc0, hc0, hn, hk, ha, htt⟩ := h.bound.open
  obtain ⟨ka, kc, aa, ac, tk, tn, ti, th, ta, tl, tc, rfl⟩ := h.form
  simp only [List.cons.injEq] at hc0
  obtain ⟨-, -, -, -, rfl, rfl, rfl⟩ := hc0
  have HN := Lib.hid hn
  have HT := Lib.hid htt
  have HA := Lib.hid ha
  have HK := Lib.hid hk
  clear h hk hn htt ha hge hf ih
  obtain ⟨kn, hkn⟩ : ∃ n, n = T.kids.length := ⟨_, rfl⟩
  obtain ⟨an, han⟩ : ∃ n, n = T.arms.length := ⟨_, rfl⟩
  have HKn := Lib.hid hkn
  have HAn := Lib.hid han
  rw [← hkn] at HK hkl ⊢
  rw [← han] at HA hal ⊢
  clear hkn han
  simp only [List.toArray]
  go_enter Try.func7, Try.ntmps7
  go_upto_region 1 with fail
  have HW0 : Hid (WM w [.int .i64 T.k, .int .i64 T.p, .string T.n, .int .i64 T.m, .slice ka kn kc, .slice aa an ac, .int .i64 tk, .string tn, .int .i64 ti, .int .i64 th, .slice ta tl tc] ((w.alloc (.cells #[.int .i64 T.k, .int .i64 T.p, .string T.n, .int .i64 T.m, .slice ka kn kc, .slice aa an ac, .int .i64 tk, .string tn, .int .i64 ti, .int .i64 th, .slice ta tl tc] 36)).alloc (.cells #[.int .i64 0, .int .i64 0, .string ⟨#[]⟩, .int .i64 0, .slice none 0 0, .slice none 0 0, .int .i64 0, .string ⟨#[]⟩, .int .i64 0, .int .i64 0, .slice none 0 0] 36))) := WM.made w [.int .i64 T.k, .int .i64 T.p, .string T.n, .int .i64 T.m, .slice ka kn kc, .slice aa an ac, .int .i64 tk, .string tn, .int .i64 ti, .int .i64 th, .slice ta tl tc]
  generalize ((w.alloc (.cells #[.int .i64 T.k, .int .i64 T.p, .string T.n, .int .i64 T.m, .slice ka kn kc, .slice aa an ac, .int .i64 tk, .string tn, .int .i64 ti, .int .i64 th, .slice ta tl tc] 36)).alloc (.cells #[.int .i64 0, .int .i64 0, .string ⟨#[]⟩, .int .i64 0, .slice none 0 0, .slice none 0 0, .int .i64 0, .string ⟨#[]⟩, .int .i64 0, .int .i64 0, .slice none 0 0] 36)) = V at *
  have b1 := HW0.out.box.cell 1 _ rfl
  have f1 := HW0.out.box.free 1
  go_upto_region 3 with fail
  have HW1 := Lib.hid (HW0.out.set 1 (.int .i64 z)).1
  clear b1 f1 HW0
  generalize V.setCell ⟨w.heap.size, 1, none⟩ (.int .i64 z) = V1 at *
  have b5 := HW1.out.box.cell 5 _ rfl
  have HA1 : Hid (SlG AmE V1 (fun b => (S b ∧ b < w.heap.size) ∧ some b ≠ Value.ownBlock (.slice none 0 0)) T.arms (.slice aa an ac)) := HA.out.kept (fun b h => ⟨h, by simp [Value.ownBlock]⟩) (fun b hb _ => HW1.out.low.block b hb.2)
  have HAl : Hid (T.arms.length = an) := HAn.out.symm
  go_upto_region 4 with (at_builtin; refine wpList_pushS AmE rfl _ _ rfl (w.heap.size + 2) (fun b => S b ∧ b < w.heap.size) (.slice none 0 0) [] rfl (rowG_nil _ _ _ _) (.slice aa an ac) rfl T.arms HA1.out (by rw [HAl.out]; simp; omega) HW1.out.ge ?_; intro a3 n3 c3 V2 hn3 hrow3 hg3; rw [List.nil_append] at hrow3 hn3; rw [HAl.out] at hn3; obtain rfl : an = n3 := hn3.symm; have HR2 := Lib.hid hrow3; have HW2 := Lib.hid (HW1.out.far hg3 (fun k e => by cases e)); have z5 := HW2.out.box.cell 5 _ rfl; have f5 := HW2.out.box.free 5; clear hrow3 hg3 hn3)
  have HW3 := Lib.hid (HW2.out.set 5 (.slice a3 an c3)).1
  have HR3 := Lib.hid (HR2.out.kept (HW2.out.set 5 (.slice a3 an c3)).2 (HR2.out.off (by omega)) (fun b hb e => by have := Option.some.inj e; omega))
  clear b5 z5 f5 HW1 HW2 HA1 HR2
  generalize V2.setCell ⟨w.heap.size, 5, none⟩ (.slice a3 an c3) = V3 at *
  obtain ⟨cn, hcn⟩ : ∃ n, n = (chN T).length := ⟨_, rfl⟩
  have HCn := Lib.hid hcn
  have hcl : cn = kn + an := by rw [hcn, HKn.out, HAn.out]; unfold chN; rw [List.length_append, List.length_map]
  have HCh : Hid (Calls Try.prog 17 #[.agg #[.int .i64 T.k, .int .i64 z, .string T.n, .int .i64 T.m, .slice ka kn kc, .slice a3 an c3, .int .i64 tk, .string tn, .int .i64 ti, .int .i64 th, .slice ta tl tc]] V3 fun e w' => ∃ a cp, e = .returned (.slice a cn cp) ∧ RowG ExE w' (V3.heap.size + 1) (fun b => S b ∧ b < w.heap.size) (.slice a cn cp) (chN T) ∧ Below V3.heap.size V3 w') := by
    have hK3 := HK.out.kept (S' := (fun b => S b ∧ b < w.heap.size)) (fun _ h => h) (fun b hb _ => HW3.out.low.block b hb.2)
    have := refChildrenX_any (.mk T.k z T.n T.m T.t T.kids T.arms) (by show T.kids.length ≤ _; rw [← HKn.out]; exact hkl) (by show T.arms.length ≤ _; rw [← HAn.out]; exact hal) (fun b => S b ∧ b < w.heap.size) ka a3 ta kc c3 tl tc tk ti th tn V3 (by show SlG ExE V3 _ T.kids (.slice ka T.kids.length kc); rw [← HKn.out]; exact hK3) (fun j A hA => by
      have hA' : T.arms[j]? = some A := hA
      obtain ⟨g, rfl, hg1, hg2⟩ := HR3.out.head (by have := (List.getElem?_eq_some_iff.1 hA').1; omega)
      obtain ⟨ad, cc, e, hr, h0, h1⟩ := rowG_get HR3.out hA'
      obtain rfl := (Option.some.inj e).symm
      refine ⟨_, cc, rfl, hg2, fun m u hu => ?_, hr⟩
      by_cases hm : m = 0
      · subst hm; exact h0 u hu
      · rw [← add_add' _ _ _ hm]; exact h1 m u hm hu)
    have e : (Ex.mk T.k z T.n T.m T.t T.kids T.arms).kids.length = kn := HKn.out.symm
    have e2 : (Ex.mk T.k z T.n T.m T.t T.kids T.arms).arms.length = an := HAn.out.symm
    rw [e, e2] at this
    refine this.mono fun e' w' ⟨a, cp, h1, h2, h3⟩ => ?_
    have e3 : (chN (Ex.mk T.k z T.n T.m T.t T.kids T.arms)).length = cn := HCn.out.symm
    rw [e3] at h1 h2
    exact ⟨a, cp, h1, h2.imp (fun b hb => hb.1), h3⟩
  have HCl := Lib.hid hcl
  have hcb : cn ≤ 200000 := by omega
  clear hcn hcl
  obtain ⟨b0, b1, b2, b3, b4, b5, b6, b7, b8, b9, b10⟩ := bx11 HW3.out.box
  go_upto_region 5 with (go_at_call 17; refine HCh.out.mono ?_; rintro e W ⟨a4, c4, rfl, hrow, hb⟩; have HC4 := Lib.hid hrow; have HR4 := Lib.hid (HR3.out.lift hb); have HW4 := Lib.hid (HW3.out.lift hb); have HLt := Lib.hid (fun k e => (HR3.out.lt k e).2); clear hrow hb)
  have HLo : Hid (w.heap.size + 2 ≤ V3.heap.size) := HW3.out.ge
  clear b0 b1 b2 b3 b4 b5 b6 b7 b8 b9 b10 HCh HR3 HW3 HA
  go_wp2_with fail
  go_loopw [1, 7] (fun x i wr => ∃ (z' : Int) (j : Nat) (l : List (AH × Ex)), x = .int .i64 z' ∧ i = .int .i64 j ∧ j ≤ an ∧ Hid (l.map noP = T.arms.map noP) ∧ Hid (RowG AmE wr (w.heap.size + 2) (fun b => S b ∧ b < w.heap.size) (.slice a3 an c3) l) ∧ Hid (RowG ExE wr (V3.heap.size + 1) (fun b => S b ∧ b < w.heap.size) (.slice a4 cn c4) (chN T)) ∧ Hid (WM w [.int .i64 T.k, .int .i64 z, .string T.n, .int .i64 T.m, .slice ka kn kc, .slice a3 an c3, .int .i64 tk, .string tn, .int .i64 ti, .int .i64 th, .slice ta tl tc] wr)) (fun _ i _ => an - (intOf i).toNat)
  case atStart => exact ⟨_, 0, T.arms, rfl, rfl, Nat.zero_le _, rfl, HR4, HC4, HW4⟩
  case round =>
    clear HR4 HC4 HW4
    obtain ⟨z', j, l, rfl, rfl, hj, HLl, HAr, HCr, HWr⟩ := hrel
    have o5 := HWr.out.box.cell 5 _ rfl
    by_cases hlt : j < an
    · obtain ⟨A, hlj⟩ : ∃ A, l[j]? = some A := ⟨_, List.getElem?_eq_getElem (by rw [noP_len HLl.out, HAl.out]; exact hlt)⟩
      obtain ⟨g, hg6, hgl, hgs⟩ := HAr.out.head (by have := (List.getElem?_eq_some_iff.1 hlj).1; omega)
      subst hg6
      obtain ⟨ad2, cc2, had2, hrep2, hd0, hdm⟩ := rowG_get HAr.out hlj
      obtain rfl : (⟨g, 0, none⟩ : Addr) = ad2 := Option.some.inj had2
      obtain ⟨vv, cb, rfl, hvv, hrepb⟩ := hrep2
      rw [show AmE.k = 14 from rfl] at hd0 hdm
      have z0 : wr.cell? ⟨g, j * 14, none⟩ = some (.int .i64 A.1.pos) := by have := hd0 _ rfl; rwa [Addr.add_mid, Nat.zero_add] at this
      have f0 : wr.frozen? ⟨g, j * 14, none⟩ = false := HAr.out.free _
      have hput := HAr.out.put hlj (⟨z', A.1.con, A.1.vars⟩, A.2) 0 [.int .i64 z'] (fun c hc => by
        obtain ⟨vv, cb, rfl, h1, h2⟩ := hc
        exact ⟨[], [.int .i64 A.1.pos], .string A.1.con :: vv :: cb, rfl, rfl, rfl, ⟨vv, cb, rfl, h1, h2⟩⟩)
      have HPut : Hid (RowG AmE (wr.setCell ⟨g, j * 14, none⟩ (.int .i64 z')) (w.heap.size + 2) (fun b => S b ∧ b < w.heap.size) (.slice (some ⟨g, 0, none⟩) an c3) (l.set j (⟨z', A.1.con, A.1.vars⟩, A.2)) ∧ wr.grownBy (wr.setCell ⟨g, j * 14, none⟩ (.int .i64 z')) (some g)) := hput
      have HL9 : Hid ((l.set j (⟨z', A.1.con, A.1.vars⟩, A.2)).map noP = T.arms.map noP) := (noP_set hlj z').trans HLl.out
      have hglt : g < V3.heap.size := HLt.out g rfl
      have HC9 := Lib.hid (HCr.out.kept HPut.out.2 (HCr.out.off (by omega)) (fun b hb e => by have := Option.some.inj e; have := hb.2; omega))
      have HW9 := Lib.hid (HWr.out.far HPut.out.2 (fun k e => by cases e; omega))
      have HA9 := Lib.hid HPut.out.1
      have hji : (j : Int) < (an : Int) := by omega
      clear hput HPut hrepb hvv hd0 hdm HAr HCr HWr had2
      go_wp2
      clear z0 f0 o5
      generalize wr.setCell ⟨g, j * 14, none⟩ (.int .i64 z') = w9 at *
      go_roundw
      case rel => exact ⟨_, j + 1, _, rfl, by go_num, hlt, HL9, HA9, HC9, HW9⟩
      case measure => simp [intOf]; omega
    · have HGk : Hid (∀ (i : Nat) (U : Ex), (chN T)[i]? = some U → GE n (m - (bnN T i).length) U) := HG.out.kid
      have HC0 := Lib.hid (HCr.out.imp (S' := (fun b => (S b ∧ b < w.heap.size) ∨ w.heap.size + 2 ≤ b)) (fun b h => .inl h))
      have hcn0 := HCn.out
      clear HCr
      go_wp2_with fail
      clear o5
      go_loopw [1, 8] (fun x i wr => ∃ (z' : Int) (j : Nat) (L : List Ex), x = .int .i64 z' ∧ i = .int .i64 j ∧ j ≤ cn ∧ Hid (L.length = cn) ∧ Hid (∀ (i : Nat) (U : Ex), L[i]? = some U → GE n (m - (bnN T i).length) U) ∧ Hid (RowG AmE wr (w.heap.size + 2) (fun b => S b ∧ b < w.heap.size) (.slice a3 an c3) l) ∧ Hid (RowG ExE wr (V3.heap.size + 1) (fun b => (S b ∧ b < w.heap.size) ∨ w.heap.size + 2 ≤ b) (.slice a4 cn c4) L) ∧ Hid (WM w [.int .i64 T.k, .int .i64 z, .string T.n, .int .i64 T.m, .slice ka kn kc, .slice a3 an c3, .int .i64 tk, .string tn, .int .i64 ti, .int .i64 th, .slice ta tl tc] wr)) (fun _ i _ => cn - (intOf i).toNat)
      case atStart => exact ⟨_, 0, chN T, rfl, rfl, Nat.zero_le _, hcn0.symm, HGk, HAr, HC0, HWr⟩
      case round =>
        clear HC0 HGk HAr HWr hj hlt hcn0
        obtain ⟨z2, i, L, rfl, rfl, hi, HLn, HGl, HAr, HCr, HWr⟩ := hrel
        by_cases hlt2 : i < cn
        · obtain ⟨U, hU⟩ : ∃ U, L[i]? = some U := ⟨_, List.getElem?_eq_getElem (by rw [HLn.out]; exact hlt2)⟩
          obtain ⟨g, hg6, hgl, hgs⟩ := HCr.out.head (by rw [HLn.out]; omega)
          subst hg6
          obtain ⟨cc2, hrep2, hdm⟩ := rowG_getT HCr.out hU
          have hr2 : RepE wr (fun b => (fun b => (S b ∧ b < w.heap.size) ∨ w.heap.size + 2 ≤ b) b ∧ b ≠ g) U cc2 := hrep2
          obtain ⟨kb, kd, ab, ae, uk, un, ui, uh, ua, ul, uc, rfl⟩ := hr2.form
          rw [show ExE.k = 11 from rfl] at hdm
          have q0 : wr.cell? ⟨g, i * 11, none⟩ = some (.int .i64 U.k) := hdm 0 _ rfl
          have q1 : wr.cell? ⟨g, i * 11 + 1, none⟩ = some (.int .i64 U.p) := hdm 1 _ rfl
          have q2 : wr.cell? ⟨g, i * 11 + 2, none⟩ = some (.string U.n) := hdm 2 _ rfl
          have q3 : wr.cell? ⟨g, i * 11 + 3, none⟩ = some (.int .i64 U.m) := hdm 3 _ rfl
          have q4 : wr.cell? ⟨g, i * 11 + 4, none⟩ = some (.slice kb U.kids.length kd) := hdm 4 _ rfl
          have q5 : wr.cell? ⟨g, i * 11 + 5, none⟩ = some (.slice ab U.arms.length ae) := hdm 5 _ rfl
          have q6 : wr.cell? ⟨g, i * 11 + 6, none⟩ = some (.int .i64 uk) := hdm 6 _ rfl
          have q7 : wr.cell? ⟨g, i * 11 + 7, none⟩ = some (.string un) := hdm 7 _ rfl
          have q8 : wr.cell? ⟨g, i * 11 + 8, none⟩ = some (.int .i64 ui) := hdm 8 _ rfl
          have q9 : wr.cell? ⟨g, i * 11 + 9, none⟩ = some (.int .i64 uh) := hdm 9 _ rfl
          have q10 : wr.cell? ⟨g, i * 11 + 10, none⟩ = some (.slice ua ul uc) := hdm 10 _ rfl
          have hHk := HGl.out i U hU
          have HRec : Hid (Calls Try.prog 7 #[.agg #[.int .i64 U.k, .int .i64 U.p, .string U.n, .int .i64 U.m, .slice kb U.kids.length kd, .slice ab U.arms.length ae, .int .i64 uk, .string un, .int .i64 ui, .int .i64 uh, .slice ua ul uc], .int .i64 z2] wr fun e w' => ∃ (T' : Ex) (c' : List Value) (z' : Int), e = .returned (.tuple #[.agg c'.toArray, .int .i64 z']) ∧ GE n (m - (bnN T i).length) T' ∧ RepE w' (fun b => (fun b => (S b ∧ b < w.heap.size) ∨ w.heap.size + 2 ≤ b) b ∧ b ≠ g) T' c' ∧ Below wr.heap.size wr w') := (HIh.out _ U z2 _ _ wr hHk hr2).mono fun e w' ⟨T', c', z', h1, h2, h3, h4⟩ => ⟨T', c', z', h1, h2, h3.imp (fun b hb => by
            rcases hb with hb | hb
            · exact hb
            · exact ⟨.inr (Nat.le_trans HWr.out.ge hb), by omega⟩), h4⟩
          have hji : (i : Int) < (cn : Int) := by omega
          clear hrep2 hr2 hdm hHk
          have HU := Lib.hid hU
          clear hU
          generalize U.kids.length = k3 at *
          generalize U.arms.length = k4 at *
          go_wp2_with (first
            | (go_at_call 7; refine HRec.out.mono ?_; rintro e v ⟨U', c', z3, rfl, hGU, hrU, hb⟩; have HAv := Lib.hid (HAr.out.lift hb); have HCv := Lib.hid (HCr.out.lift hb); have HWv := Lib.hid (HWr.out.lift hb); have HRv := Lib.hid hrU; have HGv := Lib.hid hGU; clear hb hrU hGU q0 q1 q2 q3 q4 q5 q6 q7 q8 q9 q10)
            | (refine wpList_putG ExE rfl _ _ _ rfl (V3.heap.size + 1) (fun b => (S b ∧ b < w.heap.size) ∨ w.heap.size + 2 ≤ b) g cn c4 L HCv.out i 0 U U' HU.out c' (i * 11) rfl rfl rfl (by rw [HRv.out.len.1]; exact sizeEx) HRv.out.len.2 (by rw [HRv.out.len.1]; exact Nat.le_refl 11) (fun cc hcc => ⟨[], cc, [], (List.append_nil _).symm, rfl, by rw [HRv.out.len.1]; exact (ExE.len hcc).1.symm, by rw [List.append_nil]; exact HRv.out⟩) ?_; intro v9 hrow9 hg9; have HC9 := Lib.hid hrow9; have HG9 := Lib.hid hg9; clear hrow9 hg9))
          have HL9 : Hid ((L.set i U').length = cn) := by show _ = _; rw [List.length_set]; exact HLn.out
          have HGL9 : Hid (∀ (i' : Nat) (U1 : Ex), (L.set i U')[i']? = some U1 → GE n (m - (bnN T i').length) U1) := fun i' U1 h1 => by
            by_cases e : i = i'
            · subst e
              rw [List.getElem?_set_self (by rw [HLn.out]; exact hlt2)] at h1
              cases h1
              exact HGv.out
            · rw [List.getElem?_set_ne e] at h1
              exact HGl.out i' U1 h1
          have HA9 := Lib.hid (HAv.out.kept HG9.out (by
            cases he : (Value.slice a3 an c3).ownBlock with
            | none => exact .inl rfl
            | some k => have := HLt.out k he; exact .inr (by intro e; cases e; omega)) (fun b hb e => by have := Option.some.inj e; have := hb.2; have := HLo.out; omega))
          have HW9 := Lib.hid (HWv.out.far HG9.out (fun k e => by cases e; have := HLo.out; omega))
          clear HAv HCv HWv HRv HG9 HRec
          go_roundw
          case rel => exact ⟨z3, i + 1, _, rfl, by go_num, hlt2, HL9, HGL9, HA9, HC9, HW9⟩
          case measure => simp [intOf]; omega
        · have hrep : RepE wr (fun b => (S b ∧ b < w.heap.size) ∨ w.heap.size + 2 ≤ b) (.mk T.k z T.n T.m T.t T.kids l) [.int .i64 T.k, .int .i64 z, .string T.n, .int .i64 T.m, .slice ka kn kc, .slice a3 an c3, .int .i64 tk, .string tn, .int .i64 ti, .int .i64 th, .slice ta tl tc] :=
            RepE.close HN.out (HK.out.kept (fun b h => .inl h) (fun b hb _ => HWr.out.low.block b hb.2)) (HAr.out.slG (fun b h => .inl h) (fun b h => .inr h)) (HT.out.kept (fun b h => .inl h) (fun b hb _ => HWr.out.low.block b hb.2))
          have hll : l.length = an := (noP_len HLl.out).trans HAl.out
          have hLL : L.length = (Ex.mk T.k z T.n T.m T.t T.kids l).kids.length + (Ex.mk T.k z T.n T.m T.t T.kids l).arms.length := by
            show L.length = T.kids.length + l.length
            rw [HLn.out, hll, ← HKn.out]; exact HCl.out
          have HWt : Hid (Calls Try.prog 18 #[.agg #[.int .i64 T.k, .int .i64 z, .string T.n, .int .i64 T.m, .slice ka kn kc, .slice a3 an c3, .int .i64 tk, .string tn, .int .i64 ti, .int .i64 th, .slice ta tl tc], .slice a4 cn c4] wr fun e w' => ∃ c' : List Value, e = .returned (.agg c'.toArray) ∧ RepE w' (fun b => (S b ∧ b < w.heap.size) ∨ w.heap.size + 2 ≤ b) (withE (.mk T.k z T.n T.m T.t T.kids l) L) c' ∧ Below wr.heap.size wr w') := by
            have hs := HCr.out.slG (S' := (fun b => (S b ∧ b < w.heap.size) ∨ w.heap.size + 2 ≤ b)) (fun _ h => h) (fun b h => .inr (by have := HLo.out; omega))
            rw [← HLn.out] at hs ⊢
            exact (refWith_any (.mk T.k z T.n T.m T.t T.kids l) L (by show T.kids.length ≤ _; rw [← HKn.out]; exact hkl) (by show l.length ≤ _; rw [hll]; exact hal) hLL (fun b => (S b ∧ b < w.heap.size) ∨ w.heap.size + 2 ≤ b) _ _ wr hrep hs).mono fun e w' ⟨c', h1, h2, h3⟩ => ⟨c', h1, h2.imp (fun b hb => by
              rcases hb with hb | hb
              · exact hb
              · exact .inr (Nat.le_trans HWr.out.ge hb)), h3⟩
          have hGE : GE (n + 1) m (withE (.mk T.k z T.n T.m T.t T.kids l) L) := HG.out.of (lk_with rfl rfl rfl rfl (noP_vars HLl.out) hLL) (by rw [chN_with hLL]; exact HGl.out)
          obtain ⟨b0, b1, b2, b3, b4, b5, b6, b7, b8, b9, b10⟩ := bx11 HWr.out.box
          have HGE := Lib.hid hGE
          clear hGE hLL hrep hll
          generalize withE (.mk T.k z T.n T.m T.t T.kids l) L = T' at HGE HWt
          go_wp2_with (first
            | (go_at_call 18; refine HWt.out.mono ?_; rintro e v ⟨c', rfl, hr, hb⟩; obtain ⟨e0, e1, e2, e3, e4, e5, e6, e7, e8, e9, e10, rfl⟩ := hr.form; have HRv := Lib.hid hr; have HWv := Lib.hid (HWr.out.lift hb); clear hb hr b0 b1 b2 b3 b4 b5 b6 b7 b8 b9 b10)
            | (refine wpList_storeC rfl _ _ rfl _ _ [.int .i64 T'.k, .int .i64 T'.p, .string T'.n, .int .i64 T'.m, .slice e0 T'.kids.length e1, .slice e2 T'.arms.length e3, .int .i64 e4, .string e5, .int .i64 e6, .int .i64 e7, .slice e8 e9 e10] HWv.out.res rfl rfl sizeEx rfl HRv.out.len.2 ?_; intro w9 hB9 hg9 hs9))
          have c0 := hB9.cell 0 _ rfl; have c1 := hB9.cell 1 _ rfl; have c2 := hB9.cell 2 _ rfl; have c3' := hB9.cell 3 _ rfl; have c4' := hB9.cell 4 _ rfl; have c5 := hB9.cell 5 _ rfl; have c6' := hB9.cell 6 _ rfl; have c7 := hB9.cell 7 _ rfl; have c8 := hB9.cell 8 _ rfl; have c9 := hB9.cell 9 _ rfl; have c10 := hB9.cell 10 _ rfl
          have hT9 : RepE w9 (fun b => S b ∨ w.heap.size ≤ b) T' [.int .i64 T'.k, .int .i64 T'.p, .string T'.n, .int .i64 T'.m, .slice e0 T'.kids.length e1, .slice e2 T'.arms.length e3, .int .i64 e4, .string e5, .int .i64 e6, .int .i64 e7, .slice e8 e9 e10] := HRv.out.kept (fun b hb => by
            rcases hb with hb | hb
            · exact .inl hb.1
            · exact .inr (by omega)) (fun b hb hl => hg9.block b hl (fun e => by
            have := Option.some.inj e
            rcases hb with hb | hb
            · have := hb.2; omega
            · omega))
          refine bodyPost_ret (by simp [results, Try.results7, go_sem, c0, c1, c2, c3', c4', c5, c6', c7, c8, c9, c10]; try rfl) rfl ?_
          exact ⟨T', _, z2, rfl, HGE.out, hT9, Below.grown HWv.out.low hg9 HWv.out.low.size (fun k hk => by have := Option.some.inj hk; omega)⟩
end Go.Proofs.Ytljgpgmaceackaa

/- What the law's spoiled keeps: plain facts. -/
namespace Go.Proofs.Ytljgpgmaceackaa
open Go.RowKit Go.Maps Mth S3

theorem fitV_mono : ∀ (n m m' : Nat) (T : Ex), m ≤ m' → fitV n m T = true → fitV n m' T = true := by
  intro n
  induction n with
  | zero => intro m m' T _ h; exact absurd h (by simp [fitV])
  | succ n ih =>
    intro m m' T hm h
    have hf := fitV_open h
    refine fitV_mk ⟨hf.kids, hf.arms, hf.one, fun i U hU => ?_⟩
    obtain ⟨h1, h2, h3⟩ := hf.all i U hU
    exact ⟨by omega, h2, ih _ _ U (by omega) h3⟩
theorem GE.mono {n m m' : Nat} {T : Ex} (h : GE n m T) (hm : m ≤ m') : GE n m' T := ⟨fitV_mono n m m' T hm h.1, h.2⟩
/-- An arm that is well by itself. -/
structure AOk (n m : Nat) (A : AH × Ex) : Prop where
  len : A.1.vars.length ≤ m
  sz : ∀ x ∈ A.1.vars, x.size ≤ 100000
  body : GE n (m - A.1.vars.length) A.2
theorem AOk.mono {n m m' : Nat} {A : AH × Ex} (h : AOk n m A) (hm : m ≤ m') : AOk n m' A := ⟨by have := h.len; omega, h.sz, h.body.mono (by omega)⟩
theorem bnN_eight {T : Ex} (hk : T.k = 8) (i : Nat) : bnN T i = if i = 0 then [] else match T.arms[i - 1]? with | some A => A.1.vars | none => [] := by
  unfold bnN
  rw [hk]
  by_cases h : i = 0
  · subst h; rfl
  · simp [h]
    cases T.arms[i - 1]? <;> rfl
theorem oneX {l : List Ex} (h : l.length = 1) : ∃ a, l = [a] := by
  match l, h with
  | [a], _ => exact ⟨a, rfl⟩
theorem GE.arms8 {n m : Nat} {T : Ex} (h : GE (n + 1) m T) (hk : T.k = 8) : ∃ K, T.kids = [K] ∧ GE n m K ∧ ∀ A ∈ T.arms, AOk n m A := by
  have hf := fitV_open h.1
  obtain ⟨K, hK⟩ := oneX (hf.one hk)
  have h0 : (chN T)[0]? = some K := by unfold chN; rw [hK]; rfl
  refine ⟨K, hK, ?_, fun A hA => ?_⟩
  · have := h.kid 0 K h0
    rw [bnN_eight hk, if_pos rfl] at this
    exact this
  · obtain ⟨i, hi, rfl⟩ := List.getElem_of_mem hA
    have h1 : (chN T)[i + 1]? = some (T.arms[i]).2 := by unfold chN; rw [hK]; simp [hi]
    have hb : bnN T (i + 1) = (T.arms[i]).1.vars := by rw [bnN_eight hk, if_neg (by omega), Nat.add_sub_cancel, List.getElem?_eq_getElem hi]
    obtain ⟨h2, h3, -⟩ := hf.all _ _ h1
    have h4 := h.kid _ _ h1
    rw [hb] at h2 h3 h4
    exact ⟨h2, h3, h4⟩
theorem GE.of8 {n m : Nat} {T : Ex} (hk : T.k = 8) {K : Ex} (hK : T.kids = [K]) (h0 : GE n m K) (hl : T.arms.length ≤ 100000) (ha : ∀ A ∈ T.arms, AOk n m A) : GE (n + 1) m T := by
  have hc : ∀ (i : Nat) (U : Ex), (chN T)[i]? = some U → (bnN T i).length ≤ m ∧ (∀ x ∈ bnN T i, x.size ≤ 100000) ∧ GE n (m - (bnN T i).length) U := by
    intro i U hU
    cases i with
    | zero =>
      have : U = K := by unfold chN at hU; rw [hK] at hU; exact (Option.some.inj hU).symm
      subst this
      rw [bnN_eight hk, if_pos rfl]
      exact ⟨Nat.zero_le _, fun x hx => (by cases hx), h0⟩
    | succ i =>
      have h1 : (T.arms.map (·.2))[i]? = some U := by unfold chN at hU; rw [hK] at hU; simpa using hU
      rw [List.getElem?_map] at h1
      cases hA : T.arms[i]? with
      | none => rw [hA] at h1; cases h1
      | some A =>
        rw [hA] at h1
        cases h1
        have := ha A (List.mem_of_getElem? hA)
        rw [bnN_eight hk, if_neg (by omega), Nat.add_sub_cancel, hA]
        exact ⟨this.len, this.sz, this.body⟩
  refine ⟨fitV_mk ⟨by rw [hK]; simp, hl, fun _ => by rw [hK]; rfl, fun i U hU => ⟨(hc i U hU).1, (hc i U hU).2.1, (hc i U hU).2.2.1⟩⟩, ?_, ?_⟩
  · simp only [flE, Bool.and_eq_true, Bool.or_eq_true, List.all_eq_true]
    refine ⟨.inl (by rw [hk]; rfl), fun U hU => ?_⟩
    obtain ⟨i, hi, e⟩ := List.getElem_of_mem hU
    exact (hc i U (by rw [← e]; exact List.getElem?_eq_getElem hi)).2.2.2.1
  · simp only [a8, Bool.and_eq_true, Bool.or_eq_true, List.all_eq_true, beq_iff_eq]
    refine ⟨.inl hk, fun U hU => ?_⟩
    obtain ⟨i, hi, e⟩ := List.getElem_of_mem hU
    exact (hc i U (by rw [← e]; exact List.getElem?_eq_getElem hi)).2.2.2.2
/-- What is no case and has no children. -/
theorem GE.leaf {n m : Nat} {T : Ex} (hk : T.k ≠ 8) (h9 : T.k ≠ 9) (h1 : T.kids = []) (h2 : T.arms = []) : GE (n + 1) m T := by
  have hc : chN T = [] := by unfold chN; rw [h1, h2]; rfl
  refine ⟨fitV_mk ⟨by rw [h1]; simp, by rw [h2]; simp, fun e => absurd e hk, fun i U hU => by rw [hc] at hU; cases hU⟩, ?_, ?_⟩
  · simp only [flE, Bool.and_eq_true, Bool.or_eq_true, List.all_eq_true]
    exact ⟨.inl (by simpa using h9), fun U hU => by rw [hc] at hU; cases hU⟩
  · simp only [a8, Bool.and_eq_true, Bool.or_eq_true, List.all_eq_true, beq_iff_eq]
    exact ⟨.inr (by rw [h2]; rfl), fun U hU => by rw [hc] at hU; cases hU⟩
end Go.Proofs.Ytljgpgmaceackaa
