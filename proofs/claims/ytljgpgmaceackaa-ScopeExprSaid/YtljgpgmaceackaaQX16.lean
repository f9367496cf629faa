import Derived.Test.YtljgpgmaceackaaQX09
import Derived.Test.YtljgpgmaceackaaQX11
import Derived.Test.YtljgpgmaceackaaQX04
import Derived.Test.YtljgpgmaceackaaQX15
import Derived.Deep.QuietTactic
/- What scope.Expr answers, as a function; names that are or are not declared; names that are repeated. -/
namespace Go.Proofs.Ytljgpgmaceackaa
open Go.RowKit Go.Maps Mth S3

def ftV (p : Int × Int) : Value := .agg #[.int .i64 p.1, .int .i64 p.2]
/-- The place of the first arm whose constructor is not declared. -/
def armUn (ds : List Dat) : List (AH × Ex) → Option Int
  | [] => none
  | a :: l => if (fnd ds a.1.con).isSome then armUn ds l else some a.1.pos
/-- A name of the second list is in the first, or is repeated. -/
def repF (pre : List ByteArray) : List ByteArray → Bool
  | [] => false
  | x :: l => hasN pre x || repF (pre ++ [x]) l
/-- The first arm with too few or many names, or with a repeated one. -/
def armChk : List (AH × Ex) → List Ctor → Int × Int
  | a :: l, c :: m => if a.1.vars.length == c.fields.length then (if repF [] a.1.vars then (6, a.1.pos) else armChk l m) else (8, a.1.pos)
  | _, _ => (0, 0)
def casS (ds : List Dat) (T : Ex) : Int × Int :=
  match armUn ds T.arms with
  | some p => (9, p)
  | none => match armsI T.arms ds 0 with
    | none => (10, T.p)
    | some i => match ds[i]? with
      | some D => armChk T.arms D.ctors
      | none => (0, 0)
/-- The error of a node apart from its children. -/
def nodS (ds : List Dat) (ns : List ByteArray) (T : Ex) : Int × Int :=
  if T.k == 1 then (if hasN ns T.n then (0, 0) else (9, T.p))
  else if T.k == 2 then (if (fnd ds T.n).isSome then (0, 0) else (9, T.p))
  else if T.k == 8 then casS ds T
  else if T.k == 9 then (if frmR ds [] T.t == 0 then (0, 0) else (frmR ds [] T.t, T.p))
  else (0, 0)
def scK (f : List ByteArray → Ex → Int × Int) (ns : List ByteArray) (T : Ex) : List Ex → Nat → Int × Int
  | [], _ => (0, 0)
  | U :: l, i => if (f (ns ++ bnN T i) U).1 == 0 then scK f ns T l (i + 1) else f (ns ++ bnN T i) U
/-- The first error of an expression, where names are visible. -/
def scE (ds : List Dat) : Nat → List ByteArray → Ex → Int × Int
  | 0, _, _ => (0, 0)
  | n + 1, ns, T => if (nodS ds ns T).1 == 0 then scK (scE ds n) ns T (chN T) 0 else nodS ds ns T
theorem armUn_step {ds : List Dat} {l : List (AH × Ex)} {j : Nat} {a : AH × Ex} (h : l[j]? = some a) : armUn ds (l.drop j) = if (fnd ds a.1.con).isSome then armUn ds (l.drop (j + 1)) else some a.1.pos := by
  obtain ⟨hl, e⟩ := List.getElem?_eq_some_iff.1 h
  rw [List.drop_eq_getElem_cons hl, e]; rfl
theorem armChk_step {l : List (AH × Ex)} {m : List Ctor} {j : Nat} {a : AH × Ex} {c : Ctor} (h : l[j]? = some a) (h' : m[j]? = some c) : armChk (l.drop j) (m.drop j) = if a.1.vars.length == c.fields.length then (if repF [] a.1.vars then (6, a.1.pos) else armChk (l.drop (j + 1)) (m.drop (j + 1))) else (8, a.1.pos) := by
  obtain ⟨hl, e⟩ := List.getElem?_eq_some_iff.1 h
  obtain ⟨hm, e'⟩ := List.getElem?_eq_some_iff.1 h'
  rw [List.drop_eq_getElem_cons hl, List.drop_eq_getElem_cons hm, e, e']; rfl
theorem repF_step {l : List ByteArray} {j : Nat} {x : ByteArray} (h : l[j]? = some x) : repF (l.take j) (l.drop j) = (hasN (l.take j) x || repF (l.take (j + 1)) (l.drop (j + 1))) := by
  obtain ⟨hl, e⟩ := List.getElem?_eq_some_iff.1 h
  rw [List.drop_eq_getElem_cons hl, e]
  show (hasN _ _ || _) = _
  congr 2
  rw [List.take_add_one, h]; rfl
theorem scK_step {f : List ByteArray → Ex → Int × Int} {ns : List ByteArray} {T U : Ex} {l : List Ex} {j : Nat} (h : l[j]? = some U) : scK f ns T (l.drop j) j = if (f (ns ++ bnN T j) U).1 == 0 then scK f ns T (l.drop (j + 1)) (j + 1) else f (ns ++ bnN T j) U := by
  obtain ⟨hl, e⟩ := List.getElem?_eq_some_iff.1 h
  rw [List.drop_eq_getElem_cons hl, e]; rfl
theorem armsI_lt {xs : List (AH × Ex)} : ∀ {ds : List Dat} {i j : Nat}, armsI xs ds i = some j → i ≤ j ∧ ∃ d, ds[j - i]? = some d ∧ armsB xs d.ctors = true := by
  intro ds
  induction ds with
  | nil => intro i j h; cases h
  | cons d l ih =>
    intro i j h
    simp only [armsI] at h
    split at h
    · rename_i hb
      cases h
      exact ⟨Nat.le_refl _, d, by simp, hb⟩
    · obtain ⟨h1, d', h2, h3⟩ := ih h
      refine ⟨by omega, d', ?_, h3⟩
      rw [show j - i = (j - (i + 1)) + 1 by omega]
      simpa using h2
theorem armsB_length {l : List (AH × Ex)} {m : List Ctor} (h : armsB l m = true) : l.length = m.length := by
  by_cases e : l.length = m.length
  · exact e
  · rw [armsB_len l m e] at h; cases h
theorem ix_has (l : List ByteArray) (s : ByteArray) : decide (0 ≤ ix l s) = hasN l s := by
  have : ∀ (l : List ByteArray) (j : Nat), decide (0 ≤ ixF s l j) = hasN l s := by
    intro l
    induction l with
    | nil => intro j; rfl
    | cons t l ih =>
      intro j
      simp only [ixF, hasN, List.any_cons]
      have hih := ih (j + 1)
      simp only [hasN] at hih
      by_cases h : (t.toList == s.toList) = true
      · simp [h]
      · simp only [Bool.not_eq_true] at h
        simp [h, hih]
  exact this l 0
theorem containsN_any (ns : List ByteArray) (s : ByteArray) (v : Value) (S : Nat → Prop) (w : World) (h : SlG StrE w S ns v) :
    Calls Try.prog 56 #[v, .string s] w fun e w' => e = .returned (.bool (hasN ns s)) ∧ w = w' := by
  have := contains_any ns s v S w h
  rwa [ix_has] at this
set_option maxHeartbeats 1600000 in
theorem isDeclared_any (ds : List Dat) (s : ByteArray) (v : Value) (S : Nat → Prop) (w : World) (h : SlG DatE w S ds v) :
    Calls Try.prog 57 #[v, .string s] w fun e w' => e = .returned (.bool (fnd ds s).isSome) ∧ Below w.heap.size w w' := by
  have HF := Lib.hid (find_any ds s v S w h)
  clear h
  cases hf : fnd ds s with
  | none =>
    rw [hf] at HF
    unfold fndV at HF
    clear hf
    go_enter Try.func57, Try.ntmps57
    go_wp2_with (go_at_call 78; refine HF.out.mono ?_; rintro e w1 ⟨rfl, hb1⟩)
    go_ret
    exact ⟨rfl, hb1⟩
  | some q =>
    obtain ⟨i, k⟩ := q
    rw [hf] at HF
    unfold fndV at HF
    clear hf
    go_enter Try.func57, Try.ntmps57
    go_wp2_with (go_at_call 78; refine HF.out.mono ?_; rintro e w1 ⟨rfl, hb1⟩)
    go_ret
    exact ⟨rfl, hb1⟩
/-- The first elements of a list of names. -/
theorem slG_take {w : World} {S : Nat → Prop} {ps : List ByteArray} {a : Option Addr} {n c : Nat} (h : SlG StrE w S ps (.slice a n c)) {k : Nat} (hk : k ≤ ps.length) : SlG StrE w S (ps.take k) (.slice a k c) := by
  obtain ⟨a', c', e, ⟨h1, h2⟩, hj⟩ := h
  simp only [Value.slice.injEq] at e
  obtain ⟨rfl, rfl, rfl⟩ := e
  refine ⟨a, c, by rw [List.length_take, Nat.min_eq_left hk], ⟨by rw [List.length_take]; omega, h2⟩, fun j x hx => ?_⟩
  have : ps[j]? = some x := by
    rw [List.getElem?_take] at hx
    split at hx
    · exact hx
    · cases hx
  exact hj j x this
set_option maxHeartbeats 3200000 in
theorem hasRep_any (l : List ByteArray) (v : Value) (S : Nat → Prop) (w : World) (h : SlG StrE w S l v) :
    Calls Try.prog 79 #[v] w fun e w' => e = .returned (.bool (repF [] l)) ∧ w = w' := by
  have HL := Lib.hid h
  obtain ⟨a, c, rfl, hle⟩ := slice_form h
  have HJ := Lib.hid (str_at h)
  have hmc : l.length ≤ c := by
    obtain ⟨a', c', e, ⟨h1, h2⟩, -⟩ := h
    simp only [Value.slice.injEq] at e
    obtain ⟨-, -, rfl⟩ := e
    exact h1
  clear h
  unfold maxLen at hle
  have HC : Hid (∀ (k : Nat) (s : ByteArray), k ≤ l.length → Calls Try.prog 56 #[.slice a k c, .string s] w fun e w' => e = .returned (.bool (hasN (l.take k) s)) ∧ w = w') := fun k s hk => containsN_any _ s _ S w (slG_take HL.out hk)
  obtain ⟨m, hm⟩ : ∃ m, m = l.length := ⟨_, rfl⟩
  rw [← hm] at hle hmc HC ⊢
  have HM := Lib.hid hm
  clear hm HL
  have HE : Hid (repF [] l = repF (l.take 0) (l.drop 0)) := rfl
  go_enter Try.func79, Try.ntmps79
  go_wp2
  go_loop [7] (fun i => ∃ j : Nat, j ≤ m ∧ i = .int .i64 j ∧ Hid (repF [] l = repF (l.take j) (l.drop j))) (fun i => m - (intOf i).toNat)
  case atStart => exact ⟨0, Nat.zero_le _, rfl, HE⟩
  case round =>
    obtain ⟨j, hj, rfl, HT⟩ := hrel
    by_cases hlt : j < m
    · obtain ⟨t, ht⟩ : ∃ x, l[j]? = some x := ⟨_, List.getElem?_eq_getElem (by rw [← HM.out]; exact hlt)⟩
      obtain ⟨ad, rfl, hc⟩ := HJ.out j t ht
      have HS := Lib.hid (repF_step ht)
      have HCj := Lib.hid (HC.out j t hj)
      have hji : (j : Int) < (m : Int) := by omega
      have hjc : j ≤ c := by omega
      clear ht HC
      cases hq : hasN (l.take j) t with
      | true =>
        have HR : Hid (repF [] l = true) := by show _ = _; rw [HT.out, HS.out, hq]; rfl
        rw [hq] at HCj
        clear hq
        go_wp2_with (go_at_call 56; refine HCj.out.mono ?_; rintro e w1 ⟨rfl, rfl⟩)
        go_ret
        exact ⟨by rw [HR.out]; rfl, rfl⟩
      | false =>
        have HR : Hid (repF [] l = repF (l.take (j + 1)) (l.drop (j + 1))) := by show _ = _; rw [HT.out, HS.out, hq]; rfl
        rw [hq] at HCj
        clear hq
        go_wp2_with (go_at_call 56; refine HCj.out.mono ?_; rintro e w1 ⟨rfl, rfl⟩)
        go_round
        case rel => exact ⟨j + 1, hlt, by go_num, HR⟩
        case measure => simp [intOf]; omega
    · have HR : Hid (repF [] l = false) := by
        show _ = _
        rw [HT.out, List.drop_eq_nil_of_le (by rw [← HM.out]; omega)]; rfl
      go_wp2
      go_ret
      exact ⟨by rw [HR.out]; rfl, rfl⟩
end Go.Proofs.Ytljgpgmaceackaa

/- The package's caseFault: the error of a case apart from its children. -/
namespace Go.Proofs.Ytljgpgmaceackaa
open Go.RowKit Go.Maps Mth S3

set_option maxRecDepth 100000 in
set_option maxHeartbeats 12800000 in
theorem caseFault_any (ds : List Dat) (T : Ex) (hal : T.arms.length ≤ 100000) (dv : Value) (S S' : Nat → Prop) (c : List Value) (w : World) (hd : SlG DatE w S ds dv) (h : RepE w S' T c) :
    Calls Try.prog 58 #[dv, .agg c.toArray] w fun e w' => e = .returned (ftV (casS ds T)) ∧ Below w.heap.size w w' := by
  obtain ⟨ka, kc, aa, ac, tk, tn, ti, th, ta, tl, tc, rfl⟩ := h.form
  have HA := Lib.hid h.armsOf
  have HD := Lib.hid hd
  have HF := Lib.hid (FtSt.start w [.int .i64 T.k, .int .i64 T.p, .string T.n, .int .i64 T.m, .slice ka T.kids.length kc, .slice aa T.arms.length ac, .int .i64 tk, .string tn, .int .i64 ti, .int .i64 th, .slice ta tl tc])
  obtain ⟨da, dc, rfl, hdl⟩ := slice_form hd
  have HDs := Lib.hid hd
  clear h hd
  unfold maxLen at hdl
  obtain ⟨n, hn⟩ : ∃ n, n = T.arms.length := ⟨_, rfl⟩
  rw [← hn] at HA HF hal ⊢
  have HN := Lib.hid hn
  clear hn
  obtain ⟨dn, hdn⟩ : ∃ n, n = ds.length := ⟨_, rfl⟩
  rw [← hdn] at HD HDs hdl ⊢
  have HDl := Lib.hid hdn
  clear hdn
  generalize T.kids.length = kn at *
  simp only [List.toArray] at HF ⊢
  go_enter Try.func58, Try.ntmps58
  go_upto_region 1 with fail
  generalize ((w.alloc (.cells #[.int .i64 T.k, .int .i64 T.p, .string T.n, .int .i64 T.m, .slice ka kn kc, .slice aa n ac, .int .i64 tk, .string tn, .int .i64 ti, .int .i64 th, .slice ta tl tc] 36)).alloc (.cells #[.int .i64 0, .int .i64 0] 45)) = V at *
  have HE0 : Hid (armUn ds T.arms = armUn ds (T.arms.drop 0)) := rfl
  obtain ⟨b0, b1, b2, b3, b4, b5, b6, b7, b8, b9, b10⟩ := bx11 HF.out.box
  go_wp2_with fail
  go_loopw [14] (fun i wr => ∃ j : Nat, j ≤ n ∧ i = .int .i64 j ∧ Hid (armUn ds T.arms = armUn ds (T.arms.drop j)) ∧ Hid (FtSt w [.int .i64 T.k, .int .i64 T.p, .string T.n, .int .i64 T.m, .slice ka kn kc, .slice aa n ac, .int .i64 tk, .string tn, .int .i64 ti, .int .i64 th, .slice ta tl tc] wr)) (fun i _ => n - (intOf i).toNat)
  case atStart => exact ⟨0, Nat.zero_le _, rfl, HE0, HF⟩
  case round =>
    clear HE0 HF b0 b1 b2 b3 b4 b5 b6 b7 b8 b9 b10
    obtain ⟨j, hj, rfl, HT, HW⟩ := hrel
    by_cases hlt : j < n
    · obtain ⟨A, hA⟩ : ∃ x, T.arms[j]? = some x := ⟨_, List.getElem?_eq_getElem (by rw [← HN.out]; exact hlt)⟩
      have HS := Lib.hid (armUn_step (ds := ds) hA)
      obtain ⟨ad, va, vc, kb, kd, ab, ae, uk, un, ui, uh, ua, ul, uc, rfl, -, -, q0, hq⟩ := am_at (HA.out.kept (fun _ h => h) (fun b _ hl => HW.out.low.block b hl)) hA
      have q1 := hq 1 _ (by decide) rfl; have q2 := hq 2 _ (by decide) rfl; have q3 := hq 3 _ (by decide) rfl; have q4 := hq 4 _ (by decide) rfl; have q5 := hq 5 _ (by decide) rfl; have q6 := hq 6 _ (by decide) rfl; have q7 := hq 7 _ (by decide) rfl; have q8 := hq 8 _ (by decide) rfl; have q9 := hq 9 _ (by decide) rfl; have q10 := hq 10 _ (by decide) rfl; have q11 := hq 11 _ (by decide) rfl; have q12 := hq 12 _ (by decide) rfl; have q13 := hq 13 _ (by decide) rfl
      have hji : (j : Int) < (n : Int) := by omega
      have hal1 : Below wr.heap.size wr (wr.alloc (.cells #[.int .i64 A.1.pos, .string A.1.con, .slice va A.1.vars.length vc, .int .i64 A.2.k, .int .i64 A.2.p, .string A.2.n, .int .i64 A.2.m, .slice kb A.2.kids.length kd, .slice ab A.2.arms.length ae, .int .i64 uk, .string un, .int .i64 ui, .int .i64 uh, .slice ua ul uc] 55)) := (Below.refl _ wr).alloc (Nat.le_refl _) _
      have HBm := Lib.hid (BoxC.made 55 wr [.int .i64 A.1.pos, .string A.1.con, .slice va A.1.vars.length vc, .int .i64 A.2.k, .int .i64 A.2.p, .string A.2.n, .int .i64 A.2.m, .slice kb A.2.kids.length kd, .slice ab A.2.arms.length ae, .int .i64 uk, .string un, .int .i64 ui, .int .i64 uh, .slice ua ul uc])
      have HW1 := Lib.hid (HW.out.lift hal1)
      have HId : Hid (∀ V, Below w.heap.size w V → Calls Try.prog 57 #[.slice da dn dc, .string A.1.con] V fun e w' => e = .returned (.bool (fnd ds A.1.con).isSome) ∧ Below V.heap.size V w') := fun V hV => isDeclared_any ds A.1.con _ S V (HD.out.lift' hV)
      clear hA hq hal1 HW
      generalize A.1.vars.length = vn at *
      generalize A.2.kids.length = k2 at *
      generalize A.2.arms.length = a2 at *
      simp only [List.toArray] at HBm
      go_upto_region 4 with fail
      clear q0 q1 q2 q3 q4 q5 q6 q7 q8 q9 q10 q11 q12 q13
      generalize (wr.alloc (.cells #[.int .i64 A.1.pos, .string A.1.con, .slice va vn vc, .int .i64 A.2.k, .int .i64 A.2.p, .string A.2.n, .int .i64 A.2.m, .slice kb k2 kd, .slice ab a2 ae, .int .i64 uk, .string un, .int .i64 ui, .int .i64 uh, .slice ua ul uc] 55)) = W1 at *
      generalize wr.heap.size = B at *
      have b0 := HBm.out.cell 0 _ rfl
      have b1 := HBm.out.cell 1 _ rfl
      cases hq : (fnd ds A.1.con).isSome with
      | true =>
        have HR : Hid (armUn ds T.arms = armUn ds (T.arms.drop (j + 1))) := by show _ = _; rw [HT.out, HS.out, hq]; rfl
        rw [hq] at HId
        clear hq HS HT
        go_wp2_with (go_at_call 57; refine (HId.out _ HW1.out.low).mono ?_; rintro e w5 ⟨rfl, hb5⟩; have HW5 := Lib.hid (HW1.out.lift hb5); clear hb5 b0 b1)
        go_roundw
        case rel => exact ⟨j + 1, hlt, by go_num, HR, HW5⟩
        case measure => simp [intOf]; omega
      | false =>
        have HR : Hid (casS ds T = (9, A.1.pos)) := by show _ = _; unfold casS; rw [HT.out, HS.out, hq]; rfl
        rw [hq] at HId
        clear hq HS HT
        go_wp2_with (first
          | (go_at_call 57; refine (HId.out _ HW1.out.low).mono ?_; rintro e w5 ⟨rfl, hb5⟩; have HW5 := Lib.hid (HW1.out.lift hb5); have d0 := (HBm.out.lift hb5).cell 0 _ rfl; clear hb5 b0 b1)
          | (refine wpList_storeC rfl _ _ rfl _ _ [.int .i64 9, .int .i64 A.1.pos] HW5.out.res rfl rfl sizeFl rfl (one2 _ _) ?_; intro w9 hB9 hg9 hs9))
        have c0 := hB9.cell 0 _ rfl; have c1 := hB9.cell 1 _ rfl
        refine bodyPost_ret (by simp [results, Try.results58, go_sem, c0, c1]; try rfl) rfl ?_
        exact ⟨by rw [HR.out]; rfl, HW5.out.fin hg9⟩
    · have HU : Hid (armUn ds T.arms = none) := by
        show _ = _
        rw [HT.out, List.drop_eq_nil_of_le (by rw [← HN.out]; omega)]; rfl
      obtain ⟨b0, b1, b2, b3, b4, b5, b6, b7, b8, b9, b10⟩ := bx11 HW.out.box
      have HAr : Hid (Calls Try.prog 14 #[.slice da dn dc, .slice aa n ac] wr fun e w' => e = .returned (armV (armsI T.arms ds 0)) ∧ Below wr.heap.size wr w') := by
        have := arms_any ds T.arms (by rw [← HN.out]; exact hal) _ _ S S' wr (HD.out.lift' HW.out.low) (HA.out.kept (fun _ h => h) (fun b _ hl => HW.out.low.block b hl))
        exact this
      clear HT
      cases hai : armsI T.arms ds 0 with
      | none =>
        have HR : Hid (casS ds T = (10, T.p)) := by show _ = _; unfold casS; rw [HU.out, hai]
        rw [hai] at HAr
        unfold armV at HAr
        clear hai HU
        go_wp2_with (first
          | (go_at_call 14; refine HAr.out.mono ?_; rintro e w5 ⟨rfl, hb5⟩; have HW5 := Lib.hid (HW.out.lift hb5); obtain ⟨-, d1, -⟩ := bx11 HW5.out.box; clear hb5 b0 b1 b2 b3 b4 b5 b6 b7 b8 b9 b10)
          | (refine wpList_storeC rfl _ _ rfl _ _ [.int .i64 10, .int .i64 T.p] HW5.out.res rfl rfl sizeFl rfl (one2 _ _) ?_; intro w9 hB9 hg9 hs9))
        have c0 := hB9.cell 0 _ rfl; have c1 := hB9.cell 1 _ rfl
        refine bodyPost_ret (by simp [results, Try.results58, go_sem, c0, c1]; try rfl) rfl ?_
        exact ⟨by rw [HR.out]; rfl, HW5.out.fin hg9⟩
      | some g =>
        obtain ⟨-, D, hD, hB⟩ := armsI_lt hai
        rw [Nat.sub_zero] at hD
        have HL2 : Hid (n = D.ctors.length) := by show _ = _; rw [HN.out]; exact armsB_length hB
        have HR0 : Hid (casS ds T = armChk (T.arms.drop 0) (D.ctors.drop 0)) := by show _ = _; unfold casS; rw [HU.out, hai]; dsimp only; rw [hD]; rfl
        rw [hai] at HAr
        unfold armV at HAr
        have hgl : g < ds.length := (List.getElem?_eq_some_iff.1 hD).1
        obtain ⟨dad, pa, pc, ca, cc, hda, -, hct, -, -, -, e3⟩ := dat_at HDs.out hD
        subst hda
        have HCt := Lib.hid hct
        have HE3 := Lib.hid e3
        rw [← HDl.out] at hgl
        have hgi : (g : Int) < (dn : Int) := by omega
        clear hai HU hB hD hct e3
        go_upto_region 8 with (go_at_call 14; refine HAr.out.mono ?_; rintro e w5 ⟨rfl, hb5⟩; have HW5 := Lib.hid (HW.out.lift hb5); clear hb5 b0 b1 b2 b3 b4 b5 b6 b7 b8 b9 b10)
        obtain ⟨b0, b1, b2, b3, b4, b5, b6, b7, b8, b9, b10⟩ := bx11 HW5.out.box
        clear HW HAr
        rw [← HL2.out] at HCt HE3
        generalize hwr : wr = wr0 at *
        go_wp2_with fail
        go_loopw [42] (fun i wr => ∃ j : Nat, j ≤ n ∧ i = .int .i64 j ∧ Hid (casS ds T = armChk (T.arms.drop j) (D.ctors.drop j)) ∧ Hid (FtSt w [.int .i64 T.k, .int .i64 T.p, .string T.n, .int .i64 T.m, .slice ka kn kc, .slice aa n ac, .int .i64 tk, .string tn, .int .i64 ti, .int .i64 th, .slice ta tl tc] wr)) (fun i _ => n - (intOf i).toNat)
        case atStart => exact ⟨0, Nat.zero_le _, rfl, HR0, HW5⟩
        case round =>
          clear HR0 HW5 b0 b1 b2 b3 b4 b5 b6 b7 b8 b9 b10
          obtain ⟨j, hj, rfl, HT, HW⟩ := hrel
          by_cases hlt : j < n
          · obtain ⟨A, hA⟩ : ∃ x, T.arms[j]? = some x := ⟨_, List.getElem?_eq_getElem (by rw [← HN.out]; exact hlt)⟩
            obtain ⟨C, hC⟩ : ∃ x, D.ctors[j]? = some x := ⟨_, List.getElem?_eq_getElem (by rw [← HL2.out]; exact hlt)⟩
            have HS := Lib.hid (armChk_step hA hC)
            obtain ⟨ad, va, vc, kb, kd, ab, ae, uk, un, ui, uh, ua, ul, uc, rfl, hvv, -, q0, hq⟩ := am_at (HA.out.kept (fun _ h => h) (fun b _ hl => HW.out.low.block b hl)) hA
            have q1 := hq 1 _ (by decide) rfl; have q2 := hq 2 _ (by decide) rfl; have q3 := hq 3 _ (by decide) rfl; have q4 := hq 4 _ (by decide) rfl; have q5 := hq 5 _ (by decide) rfl; have q6 := hq 6 _ (by decide) rfl; have q7 := hq 7 _ (by decide) rfl; have q8 := hq 8 _ (by decide) rfl; have q9 := hq 9 _ (by decide) rfl; have q10 := hq 10 _ (by decide) rfl; have q11 := hq 11 _ (by decide) rfl; have q12 := hq 12 _ (by decide) rfl; have q13 := hq 13 _ (by decide) rfl
            obtain ⟨cad, fa, fc, hca, -, -, -, e2⟩ := ctor_at HCt.out hC
            subst hca
            have hji : (j : Int) < (n : Int) := by omega
            have hal1 : Below wr.heap.size wr (wr.alloc (.cells #[.int .i64 A.1.pos, .string A.1.con, .slice va A.1.vars.length vc, .int .i64 A.2.k, .int .i64 A.2.p, .string A.2.n, .int .i64 A.2.m, .slice kb A.2.kids.length kd, .slice ab A.2.arms.length ae, .int .i64 uk, .string un, .int .i64 ui, .int .i64 uh, .slice ua ul uc] 55)) := (Below.refl _ wr).alloc (Nat.le_refl _) _
            have HBm := Lib.hid (BoxC.made 55 wr [.int .i64 A.1.pos, .string A.1.con, .slice va A.1.vars.length vc, .int .i64 A.2.k, .int .i64 A.2.p, .string A.2.n, .int .i64 A.2.m, .slice kb A.2.kids.length kd, .slice ab A.2.arms.length ae, .int .i64 uk, .string un, .int .i64 ui, .int .i64 uh, .slice ua ul uc])
            have HW1 := Lib.hid (HW.out.lift hal1)
            have r3 := (HW1.out.low.cell (World.block_lt_of_cell? _ _ HE3.out)).trans HE3.out
            have r2 := (HW1.out.low.cell (World.block_lt_of_cell? _ _ e2)).trans e2
            have HRp : Hid (∀ V, Below wr.heap.size wr V → Calls Try.prog 79 #[.slice va A.1.vars.length vc] V fun e w' => e = .returned (.bool (repF [] A.1.vars)) ∧ V = w') := fun V hV => hasRep_any A.1.vars _ _ V (hvv.lift' hV)
            have HAl := Lib.hid hal1
            clear hA hC hq hal1 HW e2 hvv
            obtain ⟨vn, hvn⟩ : ∃ n, n = A.1.vars.length := ⟨_, rfl⟩
            rw [← hvn] at HBm HW1 HRp HAl q2 r3 r2
            have HVn := Lib.hid hvn
            clear hvn
            obtain ⟨fn, hfn⟩ : ∃ n, n = C.fields.length := ⟨_, rfl⟩
            rw [← hfn] at r2
            have HFn := Lib.hid hfn
            clear hfn
            rw [← HVn.out, ← HFn.out] at HS
            generalize A.2.kids.length = k2 at *
            generalize A.2.arms.length = a2 at *
            simp only [List.toArray] at HBm
            go_upto_region 13 with fail
            clear q0 q1 q2 q3 q4 q5 q6 q7 q8 q9 q10 q11 q12 q13
            generalize (wr.alloc (.cells #[.int .i64 A.1.pos, .string A.1.con, .slice va vn vc, .int .i64 A.2.k, .int .i64 A.2.p, .string A.2.n, .int .i64 A.2.m, .slice kb k2 kd, .slice ab a2 ae, .int .i64 uk, .string un, .int .i64 ui, .int .i64 uh, .slice ua ul uc] 55)) = W1 at *
            generalize wr.heap.size = B at *
            have b0 := HBm.out.cell 0 _ rfl
            have b2 := HBm.out.cell 2 _ rfl
            cases hq : (vn == fn) with
            | false =>
              have HR : Hid (casS ds T = (8, A.1.pos)) := by show _ = _; rw [HT.out, HS.out, hq]; rfl
              have hne : ((vn : Int) == (fn : Int)) = false := by simp at hq ⊢; omega
              have hnb : ((vn : Int) != (fn : Int)) = true := by rw [bne, hne]; rfl
              have HWd : Hid (∀ k, FtSt w _ (W1.drewN k)) := fun k => HW1.out.lift (below_drewN (Below.refl _ W1) k)
              clear hq HS HT
              go_quiet (fail)
              go_wp2_with (refine wpList_storeC rfl _ _ rfl _ _ [.int .i64 8, .int .i64 A.1.pos] (HWd.out nq).res rfl rfl sizeFl rfl (one2 _ _) ?_; intro w9 hB9 hg9 hs9)
              have c0 := hB9.cell 0 _ rfl; have c1 := hB9.cell 1 _ rfl
              refine bodyPost_ret (by simp [results, Try.results58, go_sem, c0, c1]; try rfl) rfl ?_
              exact ⟨by rw [HR.out]; rfl, (HWd.out nq).fin hg9⟩
            | true =>
              have hne : ((vn : Int) == (fn : Int)) = true := by simp at hq ⊢; omega
              have hnb : ((vn : Int) != (fn : Int)) = false := by rw [bne, hne]; rfl
              have HWd : Hid (∀ k, FtSt w _ (W1.drewN k)) := fun k => HW1.out.lift (below_drewN (Below.refl _ W1) k)
              have HRq : Hid (∀ k, Calls Try.prog 79 #[.slice va vn vc] (W1.drewN k) fun e w' => e = .returned (.bool (repF [] A.1.vars)) ∧ W1.drewN k = w') := fun k => HRp.out _ (below_drewN HAl.out k)
              cases hr : repF [] A.1.vars with
              | true =>
                have HR : Hid (casS ds T = (6, A.1.pos)) := by show _ = _; rw [HT.out, HS.out, hq, hr]; rfl
                rw [hr] at HRq
                clear hq hr HS HT HRp
                go_quiet (fail)
                go_wp2_with (first
                  | (go_at_call 79; refine (HRq.out nq).mono ?_; rintro e w8 ⟨rfl, rfl⟩)
                  | (refine wpList_storeC rfl _ _ rfl _ _ [.int .i64 6, .int .i64 A.1.pos] (HWd.out nq).res rfl rfl sizeFl rfl (one2 _ _) ?_; intro w9 hB9 hg9 hs9))
                have c0 := hB9.cell 0 _ rfl; have c1 := hB9.cell 1 _ rfl
                refine bodyPost_ret (by simp [results, Try.results58, go_sem, c0, c1]; try rfl) rfl ?_
                exact ⟨by rw [HR.out]; rfl, (HWd.out nq).fin hg9⟩
              | false =>
                have HR : Hid (casS ds T = armChk (T.arms.drop (j + 1)) (D.ctors.drop (j + 1))) := by show _ = _; rw [HT.out, HS.out, hq, hr]; rfl
                rw [hr] at HRq
                clear hq hr HS HT HRp
                go_quiet (fail)
                have HW9 := Lib.hid (HWd.out nq)
                go_wp2_with (go_at_call 79; refine (HRq.out nq).mono ?_; rintro e w8 ⟨rfl, rfl⟩)
                go_roundw
                case rel => exact ⟨j + 1, hlt, by go_num, HR, HW9⟩
                case measure => simp [intOf]; omega
          · have HR : Hid (casS ds T = (0, 0)) := by
              show _ = _
              rw [HT.out, List.drop_eq_nil_of_le (by rw [← HN.out]; omega)]; rfl
            go_wp2_with (refine wpList_storeC rfl _ _ rfl _ _ [.int .i64 0, .int .i64 0] HW.out.res rfl rfl sizeFl rfl (one2 _ _) ?_; intro w9 hB9 hg9 hs9)
            have c0 := hB9.cell 0 _ rfl; have c1 := hB9.cell 1 _ rfl
            refine bodyPost_ret (by simp [results, Try.results58, go_sem, c0, c1]; try rfl) rfl ?_
            exact ⟨by rw [HR.out]; rfl, HW.out.fin hg9⟩
end Go.Proofs.Ytljgpgmaceackaa

/- The package's nodeFault: the error of an expression apart from its children. -/
namespace Go.Proofs.Ytljgpgmaceackaa
open Go.RowKit Go.Maps Mth S3

theorem RepE.typOf {w : World} {S : Nat → Prop} {T : Ex} {a b c d e f : Value} {l : List Value} (h : RepE w S T (a :: b :: c :: d :: e :: f :: l)) : Rep w S T.t (.agg l.toArray) := by
  obtain ⟨kv, av, tc0, e0, -, -, -, ht⟩ := h.open
  simp only [List.cons.injEq] at e0
  obtain ⟨-, -, -, -, -, -, rfl⟩ := e0
  exact ht
set_option maxRecDepth 100000 in
set_option maxHeartbeats 12800000 in
theorem nodeFault_any (ds : List Dat) (hds : Sized ds) (ns : List ByteArray) (T : Ex) (hal : T.arms.length ≤ 100000) (hfl : T.k = 9 → flatT T.t = true) (dv nv : Value) (S S' S'' : Nat → Prop) (c : List Value) (w : World) (hd : SlG DatE w S ds dv) (hn : SlG StrE w S'' ns nv) (h : RepE w S' T c) :
    Calls Try.prog 40 #[dv, nv, .agg c.toArray] w fun e w' => e = .returned (ftV (nodS ds ns T)) ∧ Below w.heap.size w w' := by
  have HCs : Hid (∀ V, Below w.heap.size w V → Calls Try.prog 58 #[dv, .agg c.toArray] V fun e w' => e = .returned (ftV (casS ds T)) ∧ Below V.heap.size V w') := fun V hV => caseFault_any ds T hal dv S S' c V (hd.lift' hV) (h.lift hV)
  have HCt : Hid (∀ V, Below w.heap.size w V → Calls Try.prog 56 #[nv, .string T.n] V fun e w' => e = .returned (.bool (hasN ns T.n)) ∧ V = w') := fun V hV => containsN_any ns T.n nv S'' V (hn.lift' hV)
  have HId : Hid (∀ V, Below w.heap.size w V → Calls Try.prog 57 #[dv, .string T.n] V fun e w' => e = .returned (.bool (fnd ds T.n).isSome) ∧ Below V.heap.size V w') := fun V hV => isDeclared_any ds T.n dv S V (hd.lift' hV)
  obtain ⟨ka, kc, aa, ac, tk, tn, ti, th, ta, tl, tc, rfl⟩ := h.form
  have HFm : Hid (T.k = 9 → ∀ V, Below w.heap.size w V → Calls Try.prog 59 #[dv, .agg #[.int .i64 tk, .string tn, .int .i64 ti, .int .i64 th, .slice ta tl tc], .slice none 0 0] V fun e w' => e = .returned (.int .i64 (frmR ds [] T.t)) ∧ Below V.heap.size V w') := fun h9 V hV => by
    have := pkFormed_any ds hds [] T.t dv _ _ S' (fun _ => True) S V (hd.lift' hV) (slG_nil _ _ _) (h.typOf.lift hV)
    rwa [frm_eq ds [] T.t (hfl h9)] at this
  have HF := Lib.hid (FtSt.start w [.int .i64 T.k, .int .i64 T.p, .string T.n, .int .i64 T.m, .slice ka T.kids.length kc, .slice aa T.arms.length ac, .int .i64 tk, .string tn, .int .i64 ti, .int .i64 th, .slice ta tl tc])
  clear h hn hd hfl
  generalize T.kids.length = kn at *
  generalize T.arms.length = an at *
  simp only [List.toArray] at HF HCs ⊢
  cases h1 : (T.k == 1) with
  | true =>
    have e1 : T.k = 1 := by simpa using h1
    clear HCs HId HFm h1
    cases hq : hasN ns T.n with
    | true =>
      have HR : Hid (nodS ds ns T = (0, 0)) := by show _ = _; unfold nodS; rw [e1, hq]; rfl
      rw [e1] at HF ⊢
      rw [hq] at HCt
      clear e1 hq
      go_enter Try.func40, Try.ntmps40
      go_upto_region 1 with fail
      generalize ((w.alloc (.cells #[.int .i64 1, .int .i64 T.p, .string T.n, .int .i64 T.m, .slice ka kn kc, .slice aa an ac, .int .i64 tk, .string tn, .int .i64 ti, .int .i64 th, .slice ta tl tc] 36)).alloc (.cells #[.int .i64 0, .int .i64 0] 45)) = V at *
      obtain ⟨b0, b1, b2, b3, b4, b5, b6, b7, b8, b9, b10⟩ := bx11 HF.out.box
      go_wp2_with (first
        | (go_at_call 56; refine (HCt.out _ HF.out.low).mono ?_; rintro e w1 ⟨rfl, rfl⟩)
        | (refine wpList_storeC rfl _ _ rfl _ _ [.int .i64 0, .int .i64 0] HF.out.res rfl rfl sizeFl rfl (one2 _ _) ?_; intro w9 hB9 hg9 hs9))
      have c0 := hB9.cell 0 _ rfl; have c1 := hB9.cell 1 _ rfl
      refine bodyPost_ret (by simp [results, Try.results40, go_sem, c0, c1]; try rfl) rfl ?_
      exact ⟨by rw [HR.out]; rfl, HF.out.fin hg9⟩
    | false =>
      have HR : Hid (nodS ds ns T = (9, T.p)) := by show _ = _; unfold nodS; rw [e1, hq]; rfl
      rw [e1] at HF ⊢
      rw [hq] at HCt
      clear e1 hq
      go_enter Try.func40, Try.ntmps40
      go_upto_region 1 with fail
      generalize ((w.alloc (.cells #[.int .i64 1, .int .i64 T.p, .string T.n, .int .i64 T.m, .slice ka kn kc, .slice aa an ac, .int .i64 tk, .string tn, .int .i64 ti, .int .i64 th, .slice ta tl tc] 36)).alloc (.cells #[.int .i64 0, .int .i64 0] 45)) = V at *
      obtain ⟨b0, b1, b2, b3, b4, b5, b6, b7, b8, b9, b10⟩ := bx11 HF.out.box
      go_wp2_with (first
        | (go_at_call 56; refine (HCt.out _ HF.out.low).mono ?_; rintro e w1 ⟨rfl, rfl⟩)
        | (refine wpList_storeC rfl _ _ rfl _ _ [.int .i64 9, .int .i64 T.p] HF.out.res rfl rfl sizeFl rfl (one2 _ _) ?_; intro w9 hB9 hg9 hs9))
      have c0 := hB9.cell 0 _ rfl; have c1 := hB9.cell 1 _ rfl
      refine bodyPost_ret (by simp [results, Try.results40, go_sem, c0, c1]; try rfl) rfl ?_
      exact ⟨by rw [HR.out]; rfl, HF.out.fin hg9⟩
  | false =>
  cases h2 : (T.k == 2) with
  | true =>
    have e1 : T.k = 2 := by simpa using h2
    clear HCs HCt HFm h1 h2
    cases hq : (fnd ds T.n).isSome with
    | true =>
      have HR : Hid (nodS ds ns T = (0, 0)) := by show _ = _; unfold nodS; rw [e1, hq]; rfl
      rw [e1] at HF ⊢
      rw [hq] at HId
      clear e1 hq
      go_enter Try.func40, Try.ntmps40
      go_upto_region 1 with fail
      generalize ((w.alloc (.cells #[.int .i64 2, .int .i64 T.p, .string T.n, .int .i64 T.m, .slice ka kn kc, .slice aa an ac, .int .i64 tk, .string tn, .int .i64 ti, .int .i64 th, .slice ta tl tc] 36)).alloc (.cells #[.int .i64 0, .int .i64 0] 45)) = V at *
      obtain ⟨b0, b1, b2, b3, b4, b5, b6, b7, b8, b9, b10⟩ := bx11 HF.out.box
      go_wp2_with (first
        | (go_at_call 57; refine (HId.out _ HF.out.low).mono ?_; rintro e w1 ⟨rfl, hb1⟩; have HF1 := Lib.hid (HF.out.lift hb1); clear hb1)
        | (refine wpList_storeC rfl _ _ rfl _ _ [.int .i64 0, .int .i64 0] HF1.out.res rfl rfl sizeFl rfl (one2 _ _) ?_; intro w9 hB9 hg9 hs9))
      have c0 := hB9.cell 0 _ rfl; have c1 := hB9.cell 1 _ rfl
      refine bodyPost_ret (by simp [results, Try.results40, go_sem, c0, c1]; try rfl) rfl ?_
      exact ⟨by rw [HR.out]; rfl, HF1.out.fin hg9⟩
    | false =>
      have HR : Hid (nodS ds ns T = (9, T.p)) := by show _ = _; unfold nodS; rw [e1, hq]; rfl
      rw [e1] at HF ⊢
      rw [hq] at HId
      clear e1 hq
      go_enter Try.func40, Try.ntmps40
      go_upto_region 1 with fail
      generalize ((w.alloc (.cells #[.int .i64 2, .int .i64 T.p, .string T.n, .int .i64 T.m, .slice ka kn kc, .slice aa an ac, .int .i64 tk, .string tn, .int .i64 ti, .int .i64 th, .slice ta tl tc] 36)).alloc (.cells #[.int .i64 0, .int .i64 0] 45)) = V at *
      obtain ⟨b0, b1, b2, b3, b4, b5, b6, b7, b8, b9, b10⟩ := bx11 HF.out.box
      go_wp2_with (first
        | (go_at_call 57; refine (HId.out _ HF.out.low).mono ?_; rintro e w1 ⟨rfl, hb1⟩; have HF1 := Lib.hid (HF.out.lift hb1); obtain ⟨-, d1, -⟩ := bx11 HF1.out.box; clear hb1 b0 b1 b2 b3 b4 b5 b6 b7 b8 b9 b10)
        | (refine wpList_storeC rfl _ _ rfl _ _ [.int .i64 9, .int .i64 T.p] HF1.out.res rfl rfl sizeFl rfl (one2 _ _) ?_; intro w9 hB9 hg9 hs9))
      have c0 := hB9.cell 0 _ rfl; have c1 := hB9.cell 1 _ rfl
      refine bodyPost_ret (by simp [results, Try.results40, go_sem, c0, c1]; try rfl) rfl ?_
      exact ⟨by rw [HR.out]; rfl, HF1.out.fin hg9⟩
  | false =>
  cases h8 : (T.k == 8) with
  | true =>
    have e1 : T.k = 8 := by simpa using h8
    have HR : Hid (nodS ds ns T = casS ds T) := by show _ = _; unfold nodS; rw [e1]; rfl
    clear HId HCt HFm h1 h2 h8
    unfold ftV at HCs
    generalize casS ds T = q at *
    obtain ⟨qe, qp⟩ := q
    dsimp only at HCs
    rw [e1] at HF HCs ⊢
    clear e1
    go_enter Try.func40, Try.ntmps40
    go_upto_region 1 with fail
    generalize ((w.alloc (.cells #[.int .i64 8, .int .i64 T.p, .string T.n, .int .i64 T.m, .slice ka kn kc, .slice aa an ac, .int .i64 tk, .string tn, .int .i64 ti, .int .i64 th, .slice ta tl tc] 36)).alloc (.cells #[.int .i64 0, .int .i64 0] 45)) = V at *
    obtain ⟨b0, b1, b2, b3, b4, b5, b6, b7, b8, b9, b10⟩ := bx11 HF.out.box
    go_wp2_with (first
      | (go_at_call 58; refine (HCs.out _ HF.out.low).mono ?_; rintro e w1 ⟨rfl, hb1⟩; have HF1 := Lib.hid (HF.out.lift hb1); clear hb1 b0 b1 b2 b3 b4 b5 b6 b7 b8 b9 b10)
      | (refine wpList_storeC rfl _ _ rfl _ _ [.int .i64 qe, .int .i64 qp] HF1.out.res rfl rfl sizeFl rfl (one2 _ _) ?_; intro w9 hB9 hg9 hs9))
    have c0 := hB9.cell 0 _ rfl; have c1 := hB9.cell 1 _ rfl
    refine bodyPost_ret (by simp [results, Try.results40, go_sem, c0, c1]; try rfl) rfl ?_
    exact ⟨by rw [HR.out]; rfl, HF1.out.fin hg9⟩
  | false =>
  cases h9 : (T.k == 9) with
  | true =>
    have e1 : T.k = 9 := by simpa using h9
    have HF9 := Lib.hid (HFm.out e1)
    clear HId HCt HCs h1 h2 h8 h9 HFm
    cases hq : (frmR ds [] T.t == 0) with
    | true =>
      have HR : Hid (nodS ds ns T = (0, 0)) := by show _ = _; unfold nodS; rw [e1, hq]; rfl
      have e0 : frmR ds [] T.t = 0 := by simpa using hq
      rw [e0] at HF9
      rw [e1] at HF ⊢
      clear e1 hq e0
      go_enter Try.func40, Try.ntmps40
      go_upto_region 1 with fail
      generalize ((w.alloc (.cells #[.int .i64 9, .int .i64 T.p, .string T.n, .int .i64 T.m, .slice ka kn kc, .slice aa an ac, .int .i64 tk, .string tn, .int .i64 ti, .int .i64 th, .slice ta tl tc] 36)).alloc (.cells #[.int .i64 0, .int .i64 0] 45)) = V at *
      obtain ⟨b0, b1, b2, b3, b4, b5, b6, b7, b8, b9, b10⟩ := bx11 HF.out.box
      go_wp2_with (first
        | (go_at_call 59; refine (HF9.out _ HF.out.low).mono ?_; rintro e w1 ⟨rfl, hb1⟩; have HF1 := Lib.hid (HF.out.lift hb1); clear hb1)
        | (refine wpList_storeC rfl _ _ rfl _ _ [.int .i64 0, .int .i64 0] HF1.out.res rfl rfl sizeFl rfl (one2 _ _) ?_; intro w9 hB9 hg9 hs9))
      have c0 := hB9.cell 0 _ rfl; have c1 := hB9.cell 1 _ rfl
      refine bodyPost_ret (by simp [results, Try.results40, go_sem, c0, c1]; try rfl) rfl ?_
      exact ⟨by rw [HR.out]; rfl, HF1.out.fin hg9⟩
    | false =>
      have HR : Hid (nodS ds ns T = (frmR ds [] T.t, T.p)) := by show _ = _; unfold nodS; rw [e1, hq]; rfl
      rw [e1] at HF ⊢
      generalize frmR ds [] T.t = fe at *
      have hne : (fe != 0) = true := by rw [bne, hq]; rfl
      clear e1 hq
      go_enter Try.func40, Try.ntmps40
      go_upto_region 1 with fail
      generalize ((w.alloc (.cells #[.int .i64 9, .int .i64 T.p, .string T.n, .int .i64 T.m, .slice ka kn kc, .slice aa an ac, .int .i64 tk, .string tn, .int .i64 ti, .int .i64 th, .slice ta tl tc] 36)).alloc (.cells #[.int .i64 0, .int .i64 0] 45)) = V at *
      obtain ⟨b0, b1, b2, b3, b4, b5, b6, b7, b8, b9, b10⟩ := bx11 HF.out.box
      go_wp2_with (first
        | (go_at_call 59; refine (HF9.out _ HF.out.low).mono ?_; rintro e w1 ⟨rfl, hb1⟩; have HF1 := Lib.hid (HF.out.lift hb1); obtain ⟨-, d1, -⟩ := bx11 HF1.out.box; clear hb1 b0 b1 b2 b3 b4 b5 b6 b7 b8 b9 b10)
        | (refine wpList_storeC rfl _ _ rfl _ _ [.int .i64 fe, .int .i64 T.p] HF1.out.res rfl rfl sizeFl rfl (one2 _ _) ?_; intro w9 hB9 hg9 hs9))
      have c0 := hB9.cell 0 _ rfl; have c1 := hB9.cell 1 _ rfl
      refine bodyPost_ret (by simp [results, Try.results40, go_sem, c0, c1]; try rfl) rfl ?_
      exact ⟨by rw [HR.out]; rfl, HF1.out.fin hg9⟩
  | false =>
    have HR : Hid (nodS ds ns T = (0, 0)) := by show _ = _; unfold nodS; rw [h1, h2, h8, h9]; rfl
    clear HId HCt HCs HFm
    go_enter Try.func40, Try.ntmps40
    go_upto_region 1 with fail
    generalize ((w.alloc (.cells #[.int .i64 T.k, .int .i64 T.p, .string T.n, .int .i64 T.m, .slice ka kn kc, .slice aa an ac, .int .i64 tk, .string tn, .int .i64 ti, .int .i64 th, .slice ta tl tc] 36)).alloc (.cells #[.int .i64 0, .int .i64 0] 45)) = V at *
    obtain ⟨b0, b1, b2, b3, b4, b5, b6, b7, b8, b9, b10⟩ := bx11 HF.out.box
    go_wp2_with (refine wpList_storeC rfl _ _ rfl _ _ [.int .i64 0, .int .i64 0] HF.out.res rfl rfl sizeFl rfl (one2 _ _) ?_; intro w9 hB9 hg9 hs9)
    have c0 := hB9.cell 0 _ rfl; have c1 := hB9.cell 1 _ rfl
    refine bodyPost_ret (by simp [results, Try.results40, go_sem, c0, c1]; try rfl) rfl ?_
    exact ⟨by rw [HR.out]; rfl, HF.out.fin hg9⟩
end Go.Proofs.Ytljgpgmaceackaa
