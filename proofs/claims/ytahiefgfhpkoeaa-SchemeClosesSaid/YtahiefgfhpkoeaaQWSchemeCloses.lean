/- Schemes: the substitution that the law SchemeCloses makes, in a row whose elements are written over. The law SchemeCloses returns true at every input. -/
import Derived.Test.YtahiefgfhpkoeaaQJ
import Derived.Test.YtahiefgfhpkoeaaDcPsh
import Derived.Test.YtahiefgfhpkoeaaQH
namespace Go.Proofs.Ytahiefgfhpkoeaa
open Go.RowKit Go.Sort Go.Shelf Go.Maps Mth

/-- An append of several, and where it lies. -/
theorem wpList_pushMo {α : Type} {w : World} {ops : Array Oper} {rest : List Oper} {o : Oper} {a : Act} {Q : Exit → Act → World → Prop} (E : El α) (hgd : o.guard = none) (s x : Operand)
    (ho : o.op = .call { callee := .builtin .append, args := #[s, x], argTypes := #[E.t, E.t] })
    (base : Nat) (S : Nat → Prop) (v : Value) (xs : List α) (hs : a.eval s = v) (hrow : RowG E w base S v xs) (ad : Addr) (m c : Nat) (hx : a.eval x = .slice (some ad) m c) (news : List α) (hm : news.length = m)
    (hc : ∀ (j : Nat) (y : α), news[j]? = some y → ∃ c : List Value, (∀ (m : Nat) (u : Value), c[m]? = some u → w.cell? (ad.add (j * E.k + m)) = some u) ∧ E.rep w (fun b => S b ∧ some b ≠ v.ownBlock) y c)
    (N : Nat) (hN : N = xs.length + m) (hb : N ≤ 1000000) (hbase : base ≤ w.heap.size)
    (hK : ∀ (a' : Option Addr) (c' : Nat) (w' : World), RowG E w' base S (.slice a' N c') (xs ++ news) → w.grownBy w' v.ownBlock → ((Value.slice a' N c').ownBlock = v.ownBlock ∨ (Value.slice a' N c').ownBlock = some w.heap.size) → wpList Try.prog ops Q rest (a.put o.dst (.slice a' N c')) w') :
    wpList Try.prog ops Q (o :: rest) a w := by
  obtain ⟨i, z, hi, hz, hk, hby, hzs⟩ := E.info
  obtain ⟨L, hown, hl, hr⟩ := hrow
  obtain ⟨M, hml, hmr, hmc⟩ := cells_ofG E hc
  have hMk := rowG_len hml hmr
  have hE := E.hby
  refine wpList_append_own_at w hgd s x E.t ho base E.e i z E.k E.by_ E.und hi hz hk hby hzs E.hk v xs.length L.flatten hs hown ad m c M.flatten hx (by rw [flat_len E.k M fun c h => (hMk c h).1, hml, hm]) hmc ?_ (by unfold maxLen; omega) ?_ hbase ?_
  · intro u hu
    obtain ⟨c', hc', hu'⟩ := List.mem_flatten.1 hu
    exact (hMk c' hc').2 u hu'
  · have := Nat.mul_le_mul (show xs.length + m ≤ 1000000 by omega) hE
    omega
  intro v' w' hown' hg _ hloc
  have hrow' : RowG E w' base S v' (xs ++ news) := push_afterM hl hml hr hmr (by rw [hm]; exact hown') hg hloc
  obtain ⟨a', c', rfl, _⟩ := hrow'.slice
  have e : (xs ++ news).length = N := by rw [List.length_append, hm, hN]
  rw [e] at hrow' hloc ⊢
  exact hK a' c' w' hrow' hg hloc
/-- An assignment to a variable, appended. -/
theorem wpList_pushV {v : World} {ops : Array Oper} {rest : List Oper} {o : Oper} {a : Act} {Q : Exit → Act → World → Prop} {base : Nat} {sv : Value} {xs : List (Int × Ty)} {Z : TypeId} {i z : Int} (hrow : RowG AsE v base (fun _ => False) sv xs)
    (hgd : o.guard = none) (x y : Operand) (ho : o.op = .call { callee := .builtin .append, args := #[x, y], argTypes := #[46, 46] }) (hs : a.eval x = sv) (nn : Nat) (hnn : nn = v.heap.size) (hy : a.eval y = .slice (some ⟨nn, 0, none⟩) 1 1)
    (N : Nat) (hN : N = xs.length + 1) (hb : N ≤ 1000000) (hbase : base ≤ v.heap.size)
    (hK : ∀ (a' : Option Addr) (c' : Nat) (w' : World), RowG AsE w' base (fun _ => False) (.slice a' N c') (xs ++ [(i, cv z)]) → v.grownBy w' sv.ownBlock → ((Value.slice a' N c').ownBlock = sv.ownBlock ∨ (Value.slice a' N c').ownBlock = some (v.heap.size + 1)) → wpList Try.prog ops Q rest (a.put o.dst (.slice a' N c')) w') :
    wpList Try.prog ops Q (o :: rest) a (v.alloc (.cells #[.int .i64 i, .int .i64 1, .string ⟨#[]⟩, .int .i64 z, .int .i64 0, .slice none 0 0] Z)) := by
  subst hnn
  have hb' : Below v.heap.size v (v.alloc (.cells #[.int .i64 i, .int .i64 1, .string ⟨#[]⟩, .int .i64 z, .int .i64 0, .slice none 0 0] Z)) := (Below.refl _ v).alloc (Nat.le_refl _) _
  refine wpList_pushMo AsE hgd x y ho base _ sv xs hs (hrow.lift hb') ⟨v.heap.size, 0, none⟩ 1 1 hy [(i, cv z)] rfl (fun j q hj => ?_) N hN hb (Nat.le_trans hbase (by simp)) (fun a' c' w' h1 h2 h3 => hK a' c' w' h1 (grown_trans (World.grownBy_alloc v _ _) h2) (by simpa using h3))
  match j, hj with
  | 0, hj =>
    simp at hj; subst hj
    refine ⟨_, fun m u hu => ?_, asE_rep (rep_leaf _ _ 1 ⟨#[]⟩ z 0 (Nat.zero_le _))⟩
    match m, hu with
    | 0, hu | 1, hu | 2, hu | 3, hu | 4, hu | 5, hu => simp at hu; subst hu; simp [Addr.add, AsE]
    | m + 6, hu => simp at hu
  | j + 1, hj => simp at hj
theorem tyInfo5 : (Try.prog.info? 25).map (·.size) = some 5 := by kernel_rfl
/-- What the loop of the law holds: the substitution, and the numbers that were moved. -/
structure CcSt (w : World) (sv mv : Value) (σ : List (Int × Ty)) (ms : List Int) (v : World) : Prop where
  row : RowG AsE v w.heap.size (fun _ => False) sv σ
  mow : RowI v w.heap.size mv ms
  ne : ∀ c, sv.ownBlock = some c → mv.ownBlock ≠ some c
  low : Below w.heap.size w v
theorem CcSt.lift {w v v' : World} {sv mv : Value} {σ : List (Int × Ty)} {ms : List Int} (h : CcSt w sv mv σ ms v) (hb : Below v.heap.size v v') : CcSt w sv mv σ ms v' :=
  ⟨h.row.lift hb, h.mow.lift hb, h.ne, h.low.trans (hb.mono h.low.size)⟩
theorem CcSt.off {w v : World} {sv mv : Value} {σ : List (Int × Ty)} {ms : List Int} (h : CcSt w sv mv σ ms v) : mv.ownBlock = none ∨ mv.ownBlock ≠ sv.ownBlock := by
  cases hm : mv.ownBlock with
  | none => exact .inl rfl
  | some c => exact .inr (fun e => h.ne c e.symm (by rw [hm]))
theorem CcSt.off' {w v : World} {sv mv : Value} {σ : List (Int × Ty)} {ms : List Int} (h : CcSt w sv mv σ ms v) : sv.ownBlock = none ∨ sv.ownBlock ≠ mv.ownBlock := by
  cases hs : sv.ownBlock with
  | none => exact .inl rfl
  | some c => exact .inr (fun e => h.ne c hs e.symm)
theorem CcSt.pushS {w v v' : World} {sv sv' mv : Value} {σ σ' : List (Int × Ty)} {ms : List Int} (h : CcSt w sv mv σ ms v) (hr : RowG AsE v' w.heap.size (fun _ => False) sv' σ') (hg : v.grownBy v' sv.ownBlock) (hl : sv'.ownBlock = sv.ownBlock ∨ sv'.ownBlock = some (v.heap.size + 1)) : CcSt w sv' mv σ' ms v' := by
  refine ⟨hr, h.mow.kept hg h.off, fun c hc e => ?_, Below.grown h.low hg h.low.size (fun k hk => (h.row.lt k hk).1)⟩
  have hlt := (World.ownsRow.lt h.mow c e).2
  rcases hl with hl | hl
  · exact h.ne c (by rw [← hl]; exact hc) e
  · rw [hl] at hc
    have := Option.some.inj hc
    omega
theorem CcSt.pushM {w v v' : World} {sv mv mv' : Value} {σ : List (Int × Ty)} {ms ms' : List Int} (h : CcSt w sv mv σ ms v) (hr : RowI v' w.heap.size mv' ms') (hg : v.grownBy v' mv.ownBlock) (hl : Own v mv mv') : CcSt w sv mv' σ ms' v' := by
  refine ⟨h.row.kept hg h.off' (fun b hb => hb.elim), hr, fun c hc e => ?_, Below.grown h.low hg h.low.size (fun k hk => (World.ownsRow.lt h.mow k hk).1)⟩
  rcases hl c e with hl | hl
  · exact h.ne c hc hl
  · have h2 := (h.row.lt c hc).2
    omega
/-- The type of an assignment is written over. -/
theorem wpList_over {w v : World} {ops : Array Oper} {rest : List Oper} {o : Oper} {a : Act} {Q : Exit → Act → World → Prop} {g n cap : Nat} {mv : Value} {σ : List (Int × Ty)} {ms : List Int} (h : CcSt w (.slice (some ⟨g, 0, none⟩) n cap) mv σ ms v) {j : Nat} {i y z : Int} (hj : σ[j]? = some (i, cv y))
    (hgd : o.guard = none) (x u : Operand) (ho : o.op = Op.store 25 x u) (O : Nat) (hO : O = j * 6 + 1) (hx : a.eval x = .pointer (some ⟨g, O, none⟩)) (hu : a.eval u = .agg #[.int .i64 1, .string ⟨#[]⟩, .int .i64 z, .int .i64 0, .slice none 0 0])
    (hK : ∀ v', CcSt w (.slice (some ⟨g, 0, none⟩) n cap) mv (σ.set j (i, cv z)) ms v' → wpList Try.prog ops Q rest (a.put o.dst undef) v') : wpList Try.prog ops Q (o :: rest) a v := by
  refine wpList_putG AsE hgd 25 x u ho w.heap.size _ g n cap σ h.row j 1 (i, cv y) (i, cv z) hj [.int .i64 1, .string ⟨#[]⟩, .int .i64 z, .int .i64 0, .slice none 0 0] O (by rw [hO]; rfl) hx hu tyInfo5 (by simp [Value.oneCell']) (by show 1 + 5 ≤ 6; omega) (fun cc hc => ?_) (fun v' h1 h2 => hK v' ⟨h1, h.mow.kept h2 h.off, h.ne, Below.grown h.low h2 h.low.size (fun k hk => by cases hk; exact (h.row.lt g rfl).1)⟩)
  obtain ⟨c', rfl, hr⟩ := hc
  obtain ⟨k, n', i', hh, a, m, q, e⟩ := hr.form
  have e' : c' = [.int .i64 k, .string n', .int .i64 i', .int .i64 hh, .slice a m q] := by simpa using e
  subst e'
  exact ⟨[.int .i64 i], [.int .i64 k, .string n', .int .i64 i', .int .i64 hh, .slice a m q], [], by simp, rfl, rfl, _, rfl, rep_leaf _ _ 1 ⟨#[]⟩ z 0 (Nat.zero_le _)⟩
/-- The cells of an assignment to a variable. -/
theorem CcSt.cells {w v : World} {sv mv : Value} {σ : List (Int × Ty)} {ms : List Int} (h : CcSt w sv mv σ ms v) {j : Nat} {i z : Int} (hj : σ[j]? = some (i, cv z)) :
    ∃ g n cap a q, sv = .slice (some ⟨g, 0, none⟩) n cap ∧ (v.cell? ⟨g, j * 6 + 1, none⟩ = some (.int .i64 1) ∧ v.cell? ⟨g, j * 6 + 2, none⟩ = some (.string ⟨#[]⟩) ∧ v.cell? ⟨g, j * 6 + 3, none⟩ = some (.int .i64 z) ∧ v.cell? ⟨g, j * 6 + 4, none⟩ = some (.int .i64 0) ∧ v.cell? ⟨g, j * 6 + 5, none⟩ = some (.slice a 0 q)) ∧ ∀ q, v.frozen? ⟨g, q, none⟩ = false := by
  obtain ⟨L, hown, hl, hr⟩ := h.row
  rcases hown.2 with ⟨rfl, h0⟩ | ⟨g, cap, cur, rfl, hg⟩
  · have : σ = [] := List.eq_nil_of_length_eq_zero h0
    subst this
    simp at hj
  · obtain ⟨cc, hc, hcc⟩ := rowG_getT h.row hj
    obtain ⟨c', rfl, hrep⟩ := hc
    obtain ⟨k, n', i', hh, s, eT, e, -, hs⟩ := hrep.open
    obtain ⟨a, q, rfl, -⟩ := hs
    have e' : c' = [.int .i64 k, .string n', .int .i64 i', .int .i64 hh, .slice a (cv z).ts.length q] := by simpa using e
    subst e'
    unfold cv at eT
    injection eT with e1 e2 e3 e4
    subst e1 e2 e3 e4
    exact ⟨g, _, cap, a, q, rfl, ⟨hcc 1 _ rfl, hcc 2 _ rfl, hcc 3 _ rfl, hcc 4 _ rfl, hcc 5 _ rfl⟩, fun q => h.row.free q⟩
end Go.Proofs.Ytahiefgfhpkoeaa

namespace Go.Proofs.Ytahiefgfhpkoeaa
open Go.RowKit Go.Sort Go.Shelf Go.Maps Mth

set_option maxRecDepth 100000 in
set_option maxHeartbeats 20000000 in
theorem schemeCloses_any (bits : Int) (cv : Value) (zs : List Int) (by_ : Int) (w : World) (hz : Ints w cv zs) :
    Calls Try.prog 4 #[.int .i64 bits, cv, .int .i64 by_] w fun e w' => e = .returned (.bool true) ∧ Below w.heap.size w w' := by
  have HZ := Lib.hid hz
  obtain ⟨ca, cc, rfl, -, -, -⟩ := hz
  have HFi := Lib.hid (fun w => first14_any w)
  have HFw : Hid (∀ w', Below w.heap.size w w' → Calls Try.prog 10 #[.slice ca zs.length cc] w' fun e w'' => e = .returned (.bool (decide (zs.length ≤ 60))) ∧ w' = w'') := fun w' hb => few_any _ zs w' (HZ.out.lift hb)
  have HTp : Hid (zs.length ≤ 60 → ∀ w1, Below w.heap.size w w1 → w.heap.size < w1.heap.size → Tq (w1.alloc (.cells #[.slice ca zs.length cc, .int .i64 0] 33)) w1.heap.size) := fun h w1 hb hs => tape_start (by omega) HZ.out hb hs
  have HMd := Lib.hid (fun b w h => made14_any bits b w h)
  have HAl : Hid (∀ (w : World) (o : Obj), Below w.heap.size w (w.alloc o)) := fun w o => (Below.refl _ w).alloc (Nat.le_refl _) _
  have HBM : Hid (∀ w : World, Zero (w.alloc (.cells #[.int .i64 0, .string ⟨#[]⟩, .int .i64 0, .int .i64 0, .slice none 0 0] 25)) w.heap.size) := fun w => Box.made _ _ _ _ _ _
  have HZm : Hid (∀ w : World, Zero6 (w.alloc (.cells #[.int .i64 0, .int .i64 0, .string ⟨#[]⟩, .int .i64 0, .int .i64 0, .slice none 0 0] 27)) w.heap.size) := fun w => BoxC.made _ _ _ _ _ _ _
  generalize zs.length = zn at *
  cases hfw : decide (zn ≤ 60)
  all_goals
    rw [hfw] at HFw
    have HFwp := Lib.hid hfw
    clear hfw
    go_enter Try.func4, Try.ntmps4
    go_wp2_with fail
    go_at_call 9
    refine (HFi.out _).mono ?_
    rintro e w1 ⟨rfl, hb1, hs1⟩
    go_wp2_with (go_at_call 10; refine (HFw.out _ hb1).mono ?_; rintro e w3 ⟨rfl, rfl⟩)
  any_goals (go_ret; exact ⟨rfl, hb1⟩)
  have hT1 := HTp.out (of_decide_eq_true HFwp.out) _ hb1 hs1
  have hbV : Below w.heap.size w (w1.alloc (.cells #[.slice ca zn cc, .int .i64 0] 33)) := hb1.trans ((HAl.out _ _).mono hb1.size)
  have hVs : (w1.alloc (.cells #[.slice ca zn cc, .int .i64 0] 33)).heap.size = w1.heap.size + 1 := by simp
  generalize hb : w1.heap.size = b at *
  generalize (w1.alloc (.cells #[.slice ca zn cc, .int .i64 0] 33)) = V at *
  have HT1 := Lib.hid hT1
  have HV := Lib.hid hbV
  have HVs := Lib.hid hVs
  have hwb : w.heap.size ≤ b := Nat.le_of_lt hs1
  clear hT1 hbV hVs HTp HFw HFi HFwp hb1 HZ hb hs1
  refine (HMd.out b V HT1.out).mono ?_
  rintro e w2 ⟨T, ids, u, v, rfl, hrep, hok, hrow, hil, hib, htq, hg⟩
  have hV1 : b + 1 ≤ V.heap.size := by have := HVs.out; omega
  obtain ⟨xk, xn, xi, xh, xa, xm, xc, rfl⟩ := hrep.form
  obtain ⟨va, vc, rfl, hvl, hvc⟩ := hrow.slice
  have HG2 : Hid (V.grownBy w2 (some b)) := hg
  have HT2 := Lib.hid htq
  have HX2 : Hid (Rep w2 (fun c => b < c) T (.agg #[.int .i64 xk, .string xn, .int .i64 xi, .int .i64 xh, .slice xa xm xc])) := hrep.imp fun c hc => by omega
  have HR2 : Hid (RowI w2 (b + 1) (.slice va ids.length vc) ids) := ⟨hrow.1, by
    rcases hrow.2 with h | ⟨g, cap, cur, h1, h2, h3⟩
    · exact .inl h
    · exact .inr ⟨g, cap, cur, h1, by omega, h3⟩⟩
  have HOk := Lib.hid hok
  have HIl := Lib.hid hil
  have HIb := Lib.hid hib
  clear hrep hok hrow hil hib htq hg hvl hvc
  go_wp2_with (refine wpList_store5 rfl _ _ rfl _ _ _ _ _ _ (HBM.out w2) rfl _ _ _ _ _ _ _ rfl ?_; intro w4 hB4 hg4 hs4)
  have hb24 : Below w2.heap.size w2 w4 := Below.grown (HAl.out w2 _) hg4 (by simp) (fun k hk => by cases hk; exact Nat.le_refl _)
  have HM1 : Hid (MkX w b w2.heap.size T ids xk xn xi xh xa xm xc (.slice va ids.length vc) w4) := ⟨hB4, HX2.out.lift hb24, HR2.out.lift hb24, HOk.out, HT2.out.lt⟩
  have HT4 : Hid (Tq w4 b) := HT2.out.lift hb24
  have HG4 : Hid (V.grownBy w4 (some b)) := grown_trans HG2.out (grown_of_below hb24 _)
  have hs24 : w2.heap.size < w4.heap.size := by rw [hs4]; simp
  have HOkT := HOk
  clear hB4 hg4 hs4 hb24 HX2 HR2 HT2 HG2 HOk
  have HW4 : Hid (Below w.heap.size w w4) := Below.grown HV.out HG4.out HV.out.size (fun k hk => by cases hk; exact hwb)
  generalize hB1 : w2.heap.size = B1 at *
  generalize hn1 : ids.length = n1 at *
  clear hB1 hn1 hV1 HT4 HG4 HV HVs hs24 hwb HMd HBM HOkT HIl HIb
  have hr0 := Int.emod_nonneg by_ (b := 90) (by omega)
  have hr1 := Int.emod_lt_of_pos by_ (b := 90) (by omega)
  have HMo : Hid (∀ W, Calls Try.prog 17 #[.int .i64 by_, .int .i64 90] W fun e w' => e = .returned (.int .i64 (by_ % 90)) ∧ W = w') := fun W => mod_any by_ 90 W (by omega) (by omega)
  generalize by_ % 90 = r at *
  have HR0 := Lib.hid (And.intro hr0 hr1)
  clear hr0 hr1
  obtain ⟨K, hK⟩ : ∃ K : Int, K = 10 + r * 7 + 4 := ⟨_, rfl⟩
  have HK := Lib.hid hK
  have HKv : Hid (∀ p ∈ mvS ids K 5, valid p.2 = true) := fun p hp => by
    unfold mvS at hp
    obtain ⟨i, hi, rfl⟩ := List.mem_map.1 hp
    have h5 := List.mem_range.1 hi
    have hk := HK.out
    have h0 := HR0.out
    have hz : 0 ≤ mvR ids K (i : Int) ∧ mvR ids K (i : Int) ≤ 1000000 := by
      unfold mvR
      split <;> omega
    simp [cv, valid, idOk, hz.1, hz.2]
  have HK14 : Hid (14 ≤ K) := by show _ ≤ _; have := HR0.out; omega
  clear hK
  have HVr : Hid (∀ i w, Calls Try.prog 22 #[.int .i64 i] w fun e w' => e = .returned (.agg #[.int .i64 1, .string ⟨#[]⟩, .int .i64 i, .int .i64 0, .slice none 0 0]) ∧ Below w.heap.size w w') := fun i w => refVar_any i w
  have HHs : Hid (∀ z W, Below w4.heap.size w4 W → Calls Try.prog 23 #[.slice va n1 vc, .int .i64 z] W fun e w' => e = .returned (.bool (ids.contains z)) ∧ W = w') := fun z W hb => has_any _ _ _ _ ((HM1.out.lift hb).row.ints)
  have H0 : Hid (CcSt w4 (.slice none 0 0) (.slice none 0 0) (mvS ids K 0) (mvL ids K 0) w4) := ⟨rowG_nil _ _ _ _, rowI_nil _ _, (fun c h => by cases h), Below.refl _ _⟩
  go_wp2
  go_loopw [10, 11, 12] (fun s m x wr => ∃ (j : Nat) (sa : Option Addr) (sc : Nat) (ma : Option Addr) (mn mc : Nat), j ≤ 5 ∧ x = .int .i64 j ∧ s = .slice sa j sc ∧ m = .slice ma mn mc ∧ Hid (mn = (mvL ids K j).length) ∧ Hid (CcSt w4 (.slice sa j sc) (.slice ma mn mc) (mvS ids K j) (mvL ids K j) wr)) (fun _ _ x _ => 5 - (intOf x).toNat)
  case atStart => exact ⟨0, none, 0, none, 0, 0, Nat.zero_le _, rfl, rfl, rfl, rfl, H0⟩
  case round =>
    clear H0
    obtain ⟨j, sa, sc, ma, mn, mc, hj, rfl, rfl, rfl, HMn, HSt⟩ := hrel
    by_cases hlt : j < 5
    · have hji : (j : Int) < 5 := by omega
      have HLen : Hid (j + 1 = (mvS ids K j).length + 1) := by show _ = _; unfold mvS; simp
      have hN1 : j + 1 ≤ 1000000 := by omega
      have HHj := Lib.hid (fun W hb => HHs.out (j : Int) W hb)
      cases hq : ids.contains (j : Int) with
      | false =>
        rw [hq] at HHj
        have HE1 : Hid (mvS ids K j ++ [((j : Int), cv (j : Int))] = mvS ids K (j + 1)) := by
          show _ = _
          rw [mvS_snoc]; unfold mvR; rw [hq]; simp
        have HE2 : Hid (mvL ids K (j + 1) = mvL ids K j) := mvL_no K hq
        clear hq
        go_wp2_with (first
          | (go_at_call 22; refine (HVr.out _ _).mono ?_; rintro e w5 ⟨rfl, hb5⟩; have HSt5 := Lib.hid (HSt.out.lift hb5); clear hb5)
          | (at_builtin; refine wpList_pushV HSt5.out.row rfl _ _ rfl rfl _ rfl rfl (j + 1) HLen.out hN1 HSt5.out.low.size ?_; intro a' c' w6 hrow hg hl; have HSt6 := Lib.hid (HSt5.out.pushS hrow hg hl); clear hrow hg hl)
          | (go_at_call 23; refine (HHj.out _ HSt6.out.low).mono ?_; rintro e w7 ⟨rfl, rfl⟩))
        go_roundw
        case rel => exact ⟨j + 1, a', c', ma, mn, mc, hlt, by go_num, rfl, rfl, by show _ = _; rw [HE2.out]; exact HMn.out, by show CcSt _ _ _ _ _ _; rw [HE2.out, ← HE1.out]; exact HSt6.out⟩
        case measure => simp [intOf]; omega
      | true =>
        rw [hq] at HHj
        have HE1 : Hid ((mvS ids K j ++ [((j : Int), cv (j : Int))]).set j ((j : Int), cv (K - (j : Int))) = mvS ids K (j + 1)) := by
          show _ = _
          have hl : (mvS ids K j).length = j := by unfold mvS; simp
          rw [mvS_snoc, List.set_append_right _ _ (by omega), hl, Nat.sub_self]; unfold mvR; rw [hq]; simp
        have HE2 : Hid (mvL ids K (j + 1) = mvL ids K j ++ [K - (j : Int)]) := mvL_yes K hq
        have HAt : Hid ((mvS ids K j ++ [((j : Int), cv (j : Int))])[j]? = some ((j : Int), cv (j : Int))) := by
          show _ = _
          have hl : (mvS ids K j).length = j := by unfold mvS; simp
          rw [List.getElem?_append_right (by omega), hl, Nat.sub_self]; rfl
        clear hq
        go_upto_region 14 with (first
          | (go_at_call 22; refine (HVr.out _ _).mono ?_; rintro e w5 ⟨rfl, hb5⟩; have HSt5 := Lib.hid (HSt.out.lift hb5); clear hb5)
          | (at_builtin; refine wpList_pushV HSt5.out.row rfl _ _ rfl rfl _ rfl rfl (j + 1) HLen.out hN1 HSt5.out.low.size ?_; intro a' c' w6 hrow hg hl; have HSt6 := Lib.hid (HSt5.out.pushS hrow hg hl); clear hrow hg hl)
          | (go_at_call 23; refine (HHj.out _ HSt6.out.low).mono ?_; rintro e w7 ⟨rfl, rfl⟩))
        obtain ⟨g, gn, gc, -, -, eg, -, -⟩ := HSt6.out.cells HAt.out
        cases eg
        obtain ⟨r1, hr1⟩ : ∃ x : Int, x = r * 7 := ⟨_, rfl⟩
        obtain ⟨r2, hr2⟩ : ∃ x : Int, x = 10 + r1 := ⟨_, rfl⟩
        obtain ⟨kj, hkj⟩ : ∃ x : Int, x = K - (j : Int) := ⟨_, rfl⟩
        have hKr := HK.out
        obtain ⟨hr3, hr4⟩ := HR0.out
        have hw1 : IntKind.i64.wrap (r * 7) = r1 := by rw [IntKind.wrap_i64]; omega
        have hw2 : IntKind.i64.wrap (10 + r1) = r2 := by rw [IntKind.wrap_i64]; omega
        have hw3 : IntKind.i64.wrap (r2 + 4) = K := by rw [IntKind.wrap_i64]; omega
        have hw4 : IntKind.i64.wrap (K - (j : Int)) = kj := by rw [IntKind.wrap_i64]; omega
        have HKj := Lib.hid hkj
        clear hkj hr1 hr2 hKr hr3 hr4
        have hjl : (j : Int) < ((j + 1 : Nat) : Int) := by omega
        go_upto_region 15 with (first
          | (go_at_call 17; refine (HMo.out _).mono ?_; rintro e w7 ⟨rfl, rfl⟩)
          | (go_at_call 22; refine (HVr.out _ _).mono ?_; rintro e w8 ⟨rfl, hb8⟩; have HSt8 := Lib.hid (HSt6.out.lift hb8); clear hb8)
          | (refine wpList_over HSt8.out HAt.out rfl _ _ rfl _ rfl rfl rfl ?_; intro w9 hst9; have HSt9 := Lib.hid hst9; clear hst9))
        have HAt2 : Hid (((mvS ids K j ++ [((j : Int), cv (j : Int))]).set j ((j : Int), cv kj))[j]? = some ((j : Int), cv kj)) := by
          show _ = _
          rw [List.getElem?_set_self (List.getElem?_eq_some_iff.1 HAt.out).1]
        obtain ⟨g', gn', gc', ya, yq, eg, ⟨-, -, s3, -, -⟩, -⟩ := HSt9.out.cells HAt2.out
        cases eg
        have HLm : Hid (mn + 1 = (mvL ids K j).length + 1) := by show _ = _; rw [HMn.out]
        have hNm : mn + 1 ≤ 1000000 := by
          have h1 := HMn.out
          unfold mvL at h1
          rw [List.length_map] at h1
          have h2 := List.length_filter_le (fun (i : Nat) => ids.contains (i : Int)) (List.range j)
          rw [List.length_range] at h2
          omega
        clear hw1 hw2 hw3 hw4
        go_wp2_with (at_builtin; refine wpList_pushIo rfl _ _ rfl w4.heap.size (.slice ma mn mc) (mvL ids K j) rfl HSt9.out.mow w9.heap.size rfl rfl (mn + 1) HLm.out hNm HSt9.out.low.size ?_; intro ma' mc' w10 hrow hg hown; have HSt10 := Lib.hid (HSt9.out.pushM hrow hg hown); clear hrow hg hown)
        go_roundw
        case rel =>
          refine ⟨j + 1, some ⟨g, 0, none⟩, _, ma', mn + 1, mc', hlt, by go_num, rfl, rfl, ?_, ?_⟩
          · show _ = _
            rw [HE2.out, List.length_append, HMn.out]; rfl
          · show CcSt _ _ _ _ _ _
            rw [HE2.out, ← HE1.out, ← HKj.out]; exact HSt10.out
        case measure => simp [intOf]; omega
    · obtain rfl : j = 5 := by omega
      have HM5 := Lib.hid (HM1.out.lift HSt.out.low)
      have HWr : Hid (Below w.heap.size w wr) := HW4.out.trans (HSt.out.low.mono HW4.out.size)
      have HSm := Lib.hid (closes_same HK14.out HM1.out.ok.1.1 HM1.out.ok.2 (ids := ids))
      have HVT : Hid (valid T = true ∧ allN QS T = true ∧ nodes T ≤ 15) := by
        have h := HM1.out.ok.1.2
        rw [capN3] at h
        exact ⟨HM1.out.ok.1.1, HM1.out.ok.2, h⟩
      clear HMo HHs HW4 HK HR0 HK14 HMn
      generalize wr = wN at *
      obtain ⟨x0, x1, x2, x3, x4⟩ := HM5.out.box.cells
      have HCp := Lib.hid (fun W' hb => (HM5.out.lift (wq := W') hb).close pkClose_any)
      have HCr := Lib.hid (fun W' hb => (HM5.out.lift (wq := W') hb).close refClose_any)
      go_upto_region 16 with fail
      go_wp2_with fail
      go_at_call 20
      refine (HCp.out wN (Below.refl _ _)).mono ?_
      rintro e w5 ⟨u5, rfl, hc5, hb5⟩
      obtain ⟨ck, cn, ci, ch, cca, cm, cq, rfl, -⟩ := hc5.form
      have HC5 := Lib.hid hc5
      have HB5 := Lib.hid hb5
      clear hc5 hb5 x0 x1 x2 x3 x4
      go_upto_region 17 with (refine wpList_store6 rfl _ _ rfl _ _ _ _ _ _ _ (HZm.out w5) rfl _ _ _ _ _ _ _ _ rfl ?_; intro w6 hB6 hg6 hs6)
      have hb56 : Below w5.heap.size w5 w6 := Below.grown (HAl.out w5 _) hg6 (by simp) (fun k hk => by cases hk; exact Nat.le_refl _)
      have HBc := Lib.hid hB6
      have HC6 := Lib.hid (HC5.out.lift hb56)
      have hB : Below wN.heap.size wN w6 := HB5.out.trans (hb56.mono HB5.out.size)
      have HM6 := Lib.hid (HM5.out.lift hB)
      have HSt6 := Lib.hid (HSt.out.lift hB)
      have HW6 : Hid (Below w.heap.size w w6) := HWr.out.trans (hB.mono HWr.out.size)
      have HCq := Lib.hid (fun W' hb => HCr.out W' (hB.trans (Below.mono hb hB.size)))
      clear hB6 hg6 hs6 hb56 hB HC5 HB5 HM5 HSt HWr HCp HCr
      generalize hB3 : w5.heap.size = B3 at *
      clear hB3
      obtain ⟨c, hc⟩ : ∃ c : Int, c = ((clV ids T).length : Int) := ⟨_, rfl⟩
      rw [← hc] at HC6 HBc HCq ⊢
      have HCe := Lib.hid hc
      clear hc
      have HEq : Hid (∀ {W' : World} {u v : Value} {p : Int × Ty}, RepC W' (fun _ => True) p u → RepC W' (fun _ => True) p v → Calls Try.prog 24 #[u, v] W' fun e w' => e = .returned (.bool true) ∧ Below W'.heap.size W' w') := fun {W' u v p} h1 h2 => by
        have h := refEqualS_any p p u v _ _ W' h1 h2
        rwa [(eqC_iff p p).2 rfl] at h
      have HRp : Hid (∀ W', Below w6.heap.size w6 W' → Calls Try.prog 26 #[.agg #[.int .i64 xk, .string xn, .int .i64 xi, .int .i64 xh, .slice xa xm xc], .slice sa 5 sc] W' fun e w' => ∃ r, e = .returned r ∧ Rep w' (fun _ => True) (repl (mvS ids K 5) T) r ∧ Below W'.heap.size W' w') := fun W' hb => by
        have hA := (slG_asL ((HSt6.out.lift hb).row.slG (S' := fun _ => True) (fun _ _ => trivial) (fun _ _ => trivial))).bound
        exact refRepl_any (mvS ids K 5) T _ _ (fun _ => True) _ W' (by have := HVT.out.2.2; omega) hA (fun _ h => ⟨trivial, h.2⟩) (fun _ _ => trivial) ((HM6.out.lift hb).rep.imp fun _ _ => trivial)
      have HVr2 : Hid (valid (repl (mvS ids K 5) T) = true ∧ nodes (repl (mvS ids K 5) T) ≤ 100) := by
        have hv : ∀ p ∈ mvS ids K 5, valid p.2 = true := fun p hp => HKv.out p hp
        refine ⟨valid_repl hv T HVT.out.1, ?_⟩
        have h1 := nodes_repl (mvS ids K 5) 1 (by decide) (fun p hp => by
          unfold mvS at hp
          obtain ⟨i, -, rfl⟩ := List.mem_map.1 hp
          simp [cv, nodes, nodesL]) T
        have h2 := HVT.out.2.2
        omega
      have HC2 : Hid (∀ W' r, Below w6.heap.size w6 W' → Rep W' (fun _ => True) (repl (mvS ids K 5) T) r → Calls Try.prog 20 #[r, .slice ma mn mc] W' fun e w' => ∃ u, e = .returned u ∧ RepC w' (fun _ => True) (c, clT ids T) u ∧ Below W'.heap.size W' w') := fun W' r hb hr => by
        have h := pkClose_any (repl (mvS ids K 5) T) (mvL ids K 5) _ _ (fun _ => True) W' HVr2.out.1 (plain_of_valid _ HVr2.out.1) (by have := HVr2.out.2; omega) (fun _ _ => trivial) hr (HSt6.out.lift hb).mow.ints
        rw [HSm.out.1, HSm.out.2, ← HCe.out] at h
        exact h
      have HMp : Hid (∀ W', Below w6.heap.size w6 W' → Calls Try.prog 21 #[.agg #[.int .i64 xk, .string xn, .int .i64 xi, .int .i64 xh, .slice xa xm xc]] W' fun e w' => ∃ u, e = .returned u ∧ RepC w' (fun _ => True) (0, T) u ∧ Below W'.heap.size W' w') := fun W' hb => pkMono_any T _ _ W' ((HM6.out.lift hb).rep.imp fun _ _ => trivial)
      have HMr : Hid (∀ W', Below w6.heap.size w6 W' → Calls Try.prog 27 #[.agg #[.int .i64 xk, .string xn, .int .i64 xi, .int .i64 xh, .slice xa xm xc]] W' fun e w' => ∃ u, e = .returned u ∧ RepC w' (fun _ => True) (0, T) u ∧ Below W'.heap.size W' w') := fun W' hb => monoX_any T _ _ W' ((HM6.out.lift hb).rep.imp fun _ _ => trivial)
      have HCl : Hid (∀ W', Below w6.heap.size w6 W' → RepC W' (fun _ => True) (c, clT ids T) (.agg #[.int .i64 c, .int .i64 ck, .string cn, .int .i64 ci, .int .i64 ch, .slice cca cm cq])) := fun W' hb => HC6.out.lift hb
      have HS : Hid (∀ W', Below w6.heap.size w6 W' → W'.cell? ⟨B1, 0, none⟩ = some (.int .i64 xk) ∧ W'.cell? ⟨B1, 1, none⟩ = some (.string xn) ∧ W'.cell? ⟨B1, 2, none⟩ = some (.int .i64 xi) ∧ W'.cell? ⟨B1, 3, none⟩ = some (.int .i64 xh) ∧ W'.cell? ⟨B1, 4, none⟩ = some (.slice xa xm xc) ∧ W'.cell? ⟨B3, 0, none⟩ = some (.int .i64 c) ∧ W'.cell? ⟨B3, 1, none⟩ = some (.int .i64 ck) ∧ W'.cell? ⟨B3, 2, none⟩ = some (.string cn) ∧ W'.cell? ⟨B3, 3, none⟩ = some (.int .i64 ci) ∧ W'.cell? ⟨B3, 4, none⟩ = some (.int .i64 ch) ∧ W'.cell? ⟨B3, 5, none⟩ = some (.slice cca cm cq)) := fun W' hb => by
        obtain ⟨x0, x1, x2, x3, x4⟩ := (HM6.out.lift hb).box.cells
        obtain ⟨c0, c1, c2, c3, c4, c5⟩ := (BoxC.lift HBc.out hb).cells
        exact ⟨x0, x1, x2, x3, x4, c0, c1, c2, c3, c4, c5⟩
      have HD0 : Hid (Below w6.heap.size w6 w6.drew) := (Below.refl _ w6).drew
      clear HM6 HSt6 HBc HC6 HVr2 HSm HVT HM1 HZm
      go_wp2_with fail
      go_region_held3 (fun W' => W'.cell? ⟨B1, 0, none⟩ = some (.int .i64 xk) ∧ W'.cell? ⟨B1, 1, none⟩ = some (.string xn) ∧ W'.cell? ⟨B1, 2, none⟩ = some (.int .i64 xi) ∧ W'.cell? ⟨B1, 3, none⟩ = some (.int .i64 xh) ∧ W'.cell? ⟨B1, 4, none⟩ = some (.slice xa xm xc) ∧ W'.cell? ⟨B3, 0, none⟩ = some (.int .i64 c) ∧ W'.cell? ⟨B3, 1, none⟩ = some (.int .i64 ck) ∧ W'.cell? ⟨B3, 2, none⟩ = some (.string cn) ∧ W'.cell? ⟨B3, 3, none⟩ = some (.int .i64 ci) ∧ W'.cell? ⟨B3, 4, none⟩ = some (.int .i64 ch) ∧ W'.cell? ⟨B3, 5, none⟩ = some (.slice cca cm cq))
        (first
          | with_reducible exact HS.out _ HD8.out
          | with_reducible exact HS.out _ HD7.out
          | with_reducible exact HS.out _ HD6.out
          | with_reducible exact HS.out _ HD5.out
          | with_reducible exact HS.out _ HD4.out
          | with_reducible exact HS.out _ HD3.out
          | with_reducible exact HS.out _ HD2.out
          | with_reducible exact HS.out _ HD1.out
          | with_reducible exact HS.out _ HD0.out)
        (first
          | (go_at_call 25; (with_reducible refine (HCq.out _ HD0.out).mono ?_); rintro e y1 ⟨v1, rfl, hr, hb⟩; have HR1 := Lib.hid hr; have HD1 := Lib.hid (HD0.out.trans (hb.mono HD0.out.size)); clear hr hb)
          | (go_at_call 24; (with_reducible refine (HEq.out (HCl.out _ HD1.out) HR1.out).mono ?_); rintro e y2 ⟨rfl, hb⟩; have HD2 := Lib.hid (HD1.out.trans (hb.mono HD1.out.size)); clear hb)
          | (go_at_call 26; (with_reducible refine (HRp.out _ HD2.out).mono ?_); rintro e y3 ⟨v3, rfl, hr, hb⟩; have HR3 := Lib.hid hr; have HD3 := Lib.hid (HD2.out.trans (hb.mono HD2.out.size)); clear hr hb)
          | (go_at_call 20; (with_reducible refine (HC2.out _ _ HD3.out HR3.out).mono ?_); rintro e y4 ⟨v4, rfl, hr, hb⟩; have HR4 := Lib.hid hr; have HD4 := Lib.hid (HD3.out.trans (hb.mono HD3.out.size)); clear hr hb)
          | (go_at_call 24; (with_reducible refine (HEq.out HR4.out (HCl.out _ HD4.out)).mono ?_); rintro e y5 ⟨rfl, hb⟩; have HD5 := Lib.hid (HD4.out.trans (hb.mono HD4.out.size)); clear hb)
          | (go_at_call 21; (with_reducible refine (HMp.out _ HD5.out).mono ?_); rintro e y6 ⟨v6, rfl, hr, hb⟩; have HR6 := Lib.hid hr; have HD6 := Lib.hid (HD5.out.trans (hb.mono HD5.out.size)); clear hr hb)
          | (go_at_call 27; (with_reducible refine (HMr.out _ HD6.out).mono ?_); rintro e y7 ⟨v7, rfl, hr, hb⟩; have HR6b := Lib.hid (HR6.out.lift hb); have HR7 := Lib.hid hr; have HD7 := Lib.hid (HD6.out.trans (hb.mono HD6.out.size)); clear hr hb)
          | (go_at_call 24; (with_reducible refine (HEq.out HR6b.out HR7.out).mono ?_); rintro e y8 ⟨rfl, hb⟩; have HD8 := Lib.hid (HD7.out.trans (hb.mono HD7.out.size)); clear hb))
      all_goals
        go_split_ands
        go_wp2
        go_ret
        exact ⟨rfl, HW6.out.trans (HD8.out.mono HW6.out.size)⟩
end Go.Proofs.Ytahiefgfhpkoeaa
