import Derived.Test.YtgfjcpeeoapjlaaQV24
/- The package's Arms: to which declaration arms belong. -/
namespace Go.Proofs.Ytgfjcpeeoapjlaa
open Go.RowKit Go.Maps Mth S3

/-- Arms have these constructors, in this order. -/
def armsB : List (AH × Ex) → List Ctor → Bool
  | [], [] => true
  | a :: l, c :: m => (a.1.con.toList == c.name.toList) && armsB l m
  | [], _ :: _ => false
  | _ :: _, [] => false
theorem armsB_len : ∀ (l : List (AH × Ex)) (m : List Ctor), l.length ≠ m.length → armsB l m = false := by
  intro l
  induction l with
  | nil => intro m h; cases m with
    | nil => exact absurd rfl h
    | cons c m => rfl
  | cons a l ih => intro m h; cases m with
    | nil => rfl
    | cons c m => simp only [armsB, ih m (by simpa using h), Bool.and_false]
theorem armsB_step {l : List (AH × Ex)} {m : List Ctor} {j : Nat} {a : AH × Ex} {c : Ctor} (h : l[j]? = some a) (h' : m[j]? = some c) : armsB (l.drop j) (m.drop j) = ((a.1.con.toList == c.name.toList) && armsB (l.drop (j + 1)) (m.drop (j + 1))) := by
  obtain ⟨hl, e⟩ := List.getElem?_eq_some_iff.1 h
  obtain ⟨hm, e'⟩ := List.getElem?_eq_some_iff.1 h'
  rw [List.drop_eq_getElem_cons hl, List.drop_eq_getElem_cons hm, e, e']; rfl
/-- To which declaration arms belong. -/
def armsI (xs : List (AH × Ex)) : List Dat → Nat → Option Nat
  | [], _ => none
  | d :: l, i => if armsB xs d.ctors then some i else armsI xs l (i + 1)
theorem armsI_step {xs : List (AH × Ex)} {l : List Dat} {i : Nat} {d : Dat} (h : l[i]? = some d) : armsI xs (l.drop i) i = if armsB xs d.ctors then some i else armsI xs (l.drop (i + 1)) (i + 1) := by
  obtain ⟨hl, e⟩ := List.getElem?_eq_some_iff.1 h
  rw [List.drop_eq_getElem_cons hl, e]; rfl
def armV : Option Nat → Value
  | some i => .tuple #[.int .i64 i, .bool true]
  | none => .tuple #[.int .i64 0, .bool false]
/-- An arm of a list, cell by cell. -/
theorem am_at {w : World} {S : Nat → Prop} {xs : List (AH × Ex)} {a : Option Addr} {n c : Nat} (h : SlG AmE w S xs (.slice a n c)) {j : Nat} {A : AH × Ex} (hA : xs[j]? = some A) :
    ∃ ad va vc kb kd ab ae uk un ui uh ua ul uc, a = some ad ∧ SlG StrE w S A.1.vars (.slice va A.1.vars.length vc) ∧ RepE w S A.2 [.int .i64 A.2.k, .int .i64 A.2.p, .string A.2.n, .int .i64 A.2.m, .slice kb A.2.kids.length kd, .slice ab A.2.arms.length ae, .int .i64 uk, .string un, .int .i64 ui, .int .i64 uh, .slice ua ul uc] ∧
      w.cell? (ad.add (j * 14)) = some (.int .i64 A.1.pos) ∧ ∀ (m : Nat) (u : Value), m ≠ 0 → [.int .i64 A.1.pos, .string A.1.con, .slice va A.1.vars.length vc, .int .i64 A.2.k, .int .i64 A.2.p, .string A.2.n, .int .i64 A.2.m, .slice kb A.2.kids.length kd, .slice ab A.2.arms.length ae, .int .i64 uk, .string un, .int .i64 ui, .int .i64 uh, .slice ua ul uc][m]? = some u → w.cell? ⟨(ad.add (j * 14)).block, (ad.add (j * 14)).off + m, none⟩ = some u := by
  obtain ⟨ad, cc, had, -, ⟨vv, cb, rfl, hvv, hr⟩, hc0, hcm⟩ := slG_get h hA
  obtain ⟨va, vc, rfl, -⟩ := slice_form hvv
  obtain ⟨kb, kd, ab, ae, uk, un, ui, uh, ua, ul, uc, rfl⟩ := hr.form
  rw [show AmE.k = 14 from rfl] at hc0 hcm
  exact ⟨ad, va, vc, kb, kd, ab, ae, uk, un, ui, uh, ua, ul, uc, had, hvv, hr, hc0 _ rfl, fun m u hm hu => hcm m u hm hu⟩
set_option maxRecDepth 100000 in
set_option maxHeartbeats 6400000 in
theorem areArms_any (xs : List (AH × Ex)) (cs : List Ctor) (hal : xs.length ≤ 1000) (av cv : Value) (S S' : Nat → Prop) (w : World) (ha : SlG AmE w S xs av) (hc : SlG CtorE w S' cs cv) :
    Calls Try.prog 39 #[av, cv] w fun e w' => e = .returned (.bool (armsB xs cs)) ∧ Below w.heap.size w w' := by
  have HA := Lib.hid ha
  have HC := Lib.hid hc
  obtain ⟨aa, ac, rfl, hla⟩ := slice_form ha
  obtain ⟨ca, cc, rfl, hlc⟩ := slice_form hc
  clear ha hc
  unfold maxLen at hla hlc
  by_cases hl : xs.length = cs.length
  · obtain ⟨n, hn⟩ : ∃ n, n = xs.length := ⟨_, rfl⟩
    have HN := Lib.hid hn
    have HM : Hid (n = cs.length) := by show _ = _; rw [hn, hl]
    rw [← hl] at HC hlc ⊢
    rw [← hn] at HA HC hla hlc hal ⊢
    clear hn hl
    have HE : Hid (armsB xs cs = armsB (xs.drop 0) (cs.drop 0)) := rfl
    have HR0 : Hid (Below w.heap.size w w) := Below.refl _ _
    go_enter Try.func39, Try.ntmps39
    go_wp2
    go_loopw [14] (fun i wr => ∃ j : Nat, j ≤ n ∧ i = .int .i64 j ∧ Hid (armsB xs cs = armsB (xs.drop j) (cs.drop j)) ∧ Hid (Below w.heap.size w wr)) (fun i _ => n - (intOf i).toNat)
    case atStart => exact ⟨0, Nat.zero_le _, rfl, HE, HR0⟩
    case round =>
      clear HE HR0
      obtain ⟨j, hj, rfl, HT, HB⟩ := hrel
      by_cases hlt : j < n
      · obtain ⟨A, hA⟩ : ∃ x, xs[j]? = some x := ⟨_, List.getElem?_eq_getElem (by rw [← HN.out]; exact hlt)⟩
        obtain ⟨C, hC⟩ : ∃ x, cs[j]? = some x := ⟨_, List.getElem?_eq_getElem (by rw [← HM.out]; exact hlt)⟩
        have HS := Lib.hid (armsB_step hA hC)
        obtain ⟨ad, va, vc, kb, kd, ab, ae, uk, un, ui, uh, ua, ul, uc, rfl, -, -, q0, hq⟩ := am_at (HA.out.kept (fun _ h => h) (fun b _ hl => HB.out.block b hl)) hA
        obtain ⟨cd, cl, hcd, -, ⟨fv, rfl, -⟩, -, hcm⟩ := slG_get HC.out hC
        subst hcd
        have r1 := (HB.out.cell (World.block_lt_of_cell? _ _ (hcm 1 _ (by decide) rfl))).trans (hcm 1 _ (by decide) rfl)
        rw [show CtorE.k = 3 from rfl] at r1
        have q1 := hq 1 _ (by decide) rfl; have q2 := hq 2 _ (by decide) rfl; have q3 := hq 3 _ (by decide) rfl; have q4 := hq 4 _ (by decide) rfl; have q5 := hq 5 _ (by decide) rfl; have q6 := hq 6 _ (by decide) rfl; have q7 := hq 7 _ (by decide) rfl; have q8 := hq 8 _ (by decide) rfl; have q9 := hq 9 _ (by decide) rfl; have q10 := hq 10 _ (by decide) rfl; have q11 := hq 11 _ (by decide) rfl; have q12 := hq 12 _ (by decide) rfl; have q13 := hq 13 _ (by decide) rfl
        have hji : (j : Int) < (n : Int) := by omega
        have hal1 : Below wr.heap.size wr (wr.alloc (.cells #[.int .i64 A.1.pos, .string A.1.con, .slice va A.1.vars.length vc, .int .i64 A.2.k, .int .i64 A.2.p, .string A.2.n, .int .i64 A.2.m, .slice kb A.2.kids.length kd, .slice ab A.2.arms.length ae, .int .i64 uk, .string un, .int .i64 ui, .int .i64 uh, .slice ua ul uc] 56)) := (Below.refl _ wr).alloc (Nat.le_refl _) _
        have HBm := Lib.hid (BoxC.made 56 wr [.int .i64 A.1.pos, .string A.1.con, .slice va A.1.vars.length vc, .int .i64 A.2.k, .int .i64 A.2.p, .string A.2.n, .int .i64 A.2.m, .slice kb A.2.kids.length kd, .slice ab A.2.arms.length ae, .int .i64 uk, .string un, .int .i64 ui, .int .i64 uh, .slice ua ul uc])
        have HR1 := Lib.hid ((hal1.cell (World.block_lt_of_cell? _ _ r1)).trans r1)
        have HB1 := Lib.hid (HB.out.trans (hal1.mono HB.out.size))
        clear hA hC hq hcm hal1 HB r1
        generalize A.1.vars.length = vn at *
        generalize A.2.kids.length = k2 at *
        generalize A.2.arms.length = a2 at *
        simp only [List.toArray] at HBm
        go_upto_region 6 with fail
        clear q0 q1 q2 q3 q4 q5 q6 q7 q8 q9 q10 q11 q12 q13
        generalize (wr.alloc (.cells #[.int .i64 A.1.pos, .string A.1.con, .slice va vn vc, .int .i64 A.2.k, .int .i64 A.2.p, .string A.2.n, .int .i64 A.2.m, .slice kb k2 kd, .slice ab a2 ae, .int .i64 uk, .string un, .int .i64 ui, .int .i64 uh, .slice ua ul uc] 56)) = W1 at *
        generalize wr.heap.size = B at *
        have b1 := HBm.out.cell 1 _ rfl
        have r1 := HR1.out
        have HN1 : Hid (∀ k, Below w.heap.size w (W1.drewN k)) := fun k => HB1.out.trans ((below_drewN (Below.refl _ W1) k).mono HB1.out.size)
        cases hq : (A.1.con.toList == C.name.toList) with
        | true =>
          have HR : Hid (armsB xs cs = armsB (xs.drop (j + 1)) (cs.drop (j + 1))) := by show _ = _; rw [HT.out, HS.out, hq]; rfl
          go_quiet (fail)
          go_wp2
          go_roundw
          case rel => exact ⟨j + 1, hlt, by go_num, HR, HN1.out _⟩
          case measure => simp [intOf]; omega
        | false =>
          have HR : Hid (armsB xs cs = false) := by show _ = _; rw [HT.out, HS.out, hq]; rfl
          go_quiet (fail)
          go_wp2
          go_ret
          exact ⟨by rw [HR.out]; rfl, HN1.out _⟩
      · have HR : Hid (armsB xs cs = true) := by
          show _ = _
          rw [HT.out, List.drop_eq_nil_of_le (by rw [← HN.out]; omega), List.drop_eq_nil_of_le (by rw [← HM.out]; omega)]; rfl
        go_wp2
        go_ret
        exact ⟨by rw [HR.out]; rfl, HB.out⟩
  · have HR := Lib.hid (armsB_len xs cs hl)
    have hli : ((xs.length : Int) == (cs.length : Int)) = false := by simp; omega
    have hln : ((xs.length : Int) != (cs.length : Int)) = true := by rw [bne, hli]; rfl
    clear HA HC
    generalize xs.length = n at *
    generalize cs.length = m at *
    go_enter Try.func39, Try.ntmps39
    go_wp2
    go_ret
    exact ⟨by rw [HR.out]; rfl, Below.refl _ _⟩
set_option maxRecDepth 100000 in
set_option maxHeartbeats 6400000 in
theorem arms_any (ds : List Dat) (xs : List (AH × Ex)) (hal : xs.length ≤ 1000) (dv av : Value) (S S' : Nat → Prop) (w : World) (hd : SlG DatE w S ds dv) (ha : SlG AmE w S' xs av) :
    Calls Try.prog 19 #[dv, av] w fun e w' => e = .returned (armV (armsI xs ds 0)) ∧ Below w.heap.size w w' := by
  have HD := Lib.hid hd
  have HAr : Hid (∀ V cs cv, Below w.heap.size w V → SlG CtorE V S cs cv → Calls Try.prog 39 #[av, cv] V fun e w' => e = .returned (.bool (armsB xs cs)) ∧ Below V.heap.size V w') := fun V cs cv hV hc => areArms_any xs cs hal av cv S' S V (ha.kept (fun _ h => h) (fun b _ hl => hV.block b hl)) hc
  obtain ⟨da, dc, rfl, hld⟩ := slice_form hd
  obtain ⟨aa, ac, rfl, -⟩ := slice_form ha
  clear hd ha
  unfold maxLen at hld
  generalize xs.length = an at *
  obtain ⟨n, hn⟩ : ∃ n, n = ds.length := ⟨_, rfl⟩
  have HN := Lib.hid hn
  rw [← hn] at HD hld ⊢
  clear hn
  have HE : Hid (armsI xs ds 0 = armsI xs (ds.drop 0) 0) := rfl
  have HR0 : Hid (Below w.heap.size w w) := Below.refl _ _
  go_enter Try.func19, Try.ntmps19
  go_wp2
  go_loopw [10] (fun i wr => ∃ j : Nat, j ≤ n ∧ i = .int .i64 j ∧ Hid (armsI xs ds 0 = armsI xs (ds.drop j) j) ∧ Hid (Below w.heap.size w wr)) (fun i _ => n - (intOf i).toNat)
  case atStart => exact ⟨0, Nat.zero_le _, rfl, HE, HR0⟩
  case round =>
    clear HE HR0
    obtain ⟨j, hj, rfl, HT, HB⟩ := hrel
    by_cases hlt : j < n
    · obtain ⟨d, hd⟩ : ∃ x, ds[j]? = some x := ⟨_, List.getElem?_eq_getElem (by rw [← HN.out]; exact hlt)⟩
      have HS := Lib.hid (armsI_step (xs := xs) hd)
      obtain ⟨ad, cc, had, -, ⟨pv, cv, rfl, hp, hcs⟩, hc0, hcm⟩ := slG_get (HD.out.kept (fun _ h => h) (fun b _ hl => HB.out.block b hl)) hd
      subst had
      rw [show DatE.k = 4 from rfl] at hc0 hcm
      obtain ⟨pa, pc, rfl, -⟩ := slice_form hp
      obtain ⟨ca, cc, rfl, -⟩ := slice_form hcs
      have q0 := hc0 _ rfl
      have q1 := hcm 1 _ (by decide) rfl; have q2 := hcm 2 _ (by decide) rfl; have q3 := hcm 3 _ (by decide) rfl
      have hji : (j : Int) < (n : Int) := by omega
      have hal1 : Below wr.heap.size wr (wr.alloc (.cells #[.int .i64 d.pos, .string d.name, .slice pa d.params.length pc, .slice ca d.ctors.length cc] 62)) := (Below.refl _ wr).alloc (Nat.le_refl _) _
      have HBm := Lib.hid (BoxC.made 62 wr [.int .i64 d.pos, .string d.name, .slice pa d.params.length pc, .slice ca d.ctors.length cc])
      have HB1 := Lib.hid (HB.out.trans (hal1.mono HB.out.size))
      have HAd := Lib.hid (HAr.out _ _ _ HB1.out (hcs.kept (fun _ h => h) (fun b _ hl => hal1.block b hl)))
      clear hd hc0 hcm hal1 HB hp hcs
      generalize d.params.length = pn at *
      generalize d.ctors.length = cn at *
      simp only [List.toArray] at HBm
      go_upto_region 4 with fail
      clear q0 q1 q2 q3
      generalize (wr.alloc (.cells #[.int .i64 d.pos, .string d.name, .slice pa pn pc, .slice ca cn cc] 62)) = W1 at *
      generalize wr.heap.size = B at *
      have b3 := HBm.out.cell 3 _ rfl
      cases hq : armsB xs d.ctors with
      | true =>
        have HR : Hid (armsI xs ds 0 = some j) := by show _ = _; rw [HT.out, HS.out, hq]; rfl
        rw [hq] at HAd
        go_wp2_with (go_at_call 39; refine HAd.out.mono ?_; rintro e w3 ⟨rfl, hb3⟩; have HB3 := Lib.hid (HB1.out.trans (hb3.mono HB1.out.size)); clear hb3)
        refine bodyPost_ret (by simp [results, Try.results19, go_sem]; try rfl) rfl ?_
        exact ⟨by rw [HR.out]; rfl, HB3.out⟩
      | false =>
        have HR : Hid (armsI xs ds 0 = armsI xs (ds.drop (j + 1)) (j + 1)) := by show _ = _; rw [HT.out, HS.out, hq]; rfl
        rw [hq] at HAd
        go_wp2_with (go_at_call 39; refine HAd.out.mono ?_; rintro e w3 ⟨rfl, hb3⟩; have HB3 := Lib.hid (HB1.out.trans (hb3.mono HB1.out.size)); clear hb3)
        go_roundw
        case rel => exact ⟨j + 1, hlt, by go_num, HR, HB3⟩
        case measure => simp [intOf]; omega
    · have HR : Hid (armsI xs ds 0 = none) := by
        show _ = _
        rw [HT.out, List.drop_eq_nil_of_le (by rw [← HN.out]; omega)]; rfl
      go_wp2
      refine bodyPost_ret (by simp [results, Try.results19, go_sem]; try rfl) rfl ?_
      exact ⟨by rw [HR.out]; rfl, HB.out⟩
end Go.Proofs.Ytgfjcpeeoapjlaa
