/- Plain facts: the maker's types are written types, how long their texts are, and what the package's reader returns at the tokens of these. -/
import Derived.Test.YthphnacfidofbaaGreatDoorRtTy
import Derived.Test.YthphnacfidofbaaGreatDoorTyPlMa
import Derived.Test.YthphnacfidofbaaGreatDoorTyRes
namespace Go.Proofs.YthphnacfidofbaaGreatDoor
open Go.RowKit Go.Maps Mth

theorem src_of_valid : ∀ T : Ty, S3.valid T = true → wr T = true → src T = true := by
  refine tyInd fun T ih hv hw => ?_
  cases T with
  | mk k n i h ts =>
    simp only [wr, Bool.and_eq_true] at hw
    obtain ⟨⟨hk, -⟩, hl⟩ := hw
    have hsL : S3.validL ts = true → srcL ts = true := fun hvl => by
      have h1 : ∀ U ∈ ts, src U = true := fun U hU => ih U hU (S3.validL_mem hvl hU) (wrL_mem hl hU)
      clear ih hv hl hvl hk
      induction ts with
      | nil => rfl
      | cons t l ihl => simp only [srcL, Bool.and_eq_true]; exact ⟨h1 t (by simp), ihl fun U hU => h1 U (by simp [hU])⟩
    by_cases h5 : k = 5
    · subst h5
      simp only [S3.valid] at hv
      rw [if_neg (by decide), if_neg (by decide), if_neg (by decide), if_pos trivial] at hv
      simp only [Bool.and_eq_true, decide_eq_true_eq, beq_iff_eq] at hv
      obtain ⟨⟨⟨h1, rfl⟩, rfl⟩, h4⟩ := hv
      obtain rfl : ts = [] := List.eq_nil_of_length_eq_zero h4
      simp [src, srcL, h1]
    · have h4 : k = 4 := by
        simp only [Bool.or_eq_true, beq_iff_eq] at hk
        rcases hk with h | h
        · exact h
        · exact absurd h h5
      subst h4
      simp only [S3.valid] at hv
      rw [if_neg (by decide), if_neg (by decide), if_pos trivial] at hv
      simp only [Bool.and_eq_true, beq_iff_eq] at hv
      obtain ⟨⟨⟨rfl, rfl⟩, hc⟩, hvl⟩ := hv
      have hs := hsL hvl
      have e5 : ((4 : Int) == 5) = false := rfl
      have e4 : ((4 : Int) == 4) = true := rfl
      have e0 : ((0 : Int) == 0) = true := rfl
      simp only [src, hs, e5, e4, e0, Bool.true_and, Bool.and_true, Bool.false_eq_true, if_false]
      unfold S3.conOk at hc
      cases ha : n.toList == [45, 62] with
      | true => rw [ha] at hc; simpa using hc
      | false =>
        rw [ha] at hc
        simp only [Bool.false_eq_true, if_false] at hc ⊢
        cases hI : n.toList == [73, 110, 116] with
        | true =>
          have : bl n = [73, 110, 116] := by
            have := eq_of_beq hI
            rw [Lib.toList_data] at this
            exact this
          rw [this]
          decide
        | false =>
          rw [hI] at hc
          simp only [Bool.false_eq_true, if_false, Bool.and_eq_true] at hc
          exact hc.1
theorem shT_len6 : ∀ T, src T = true → wr T = true → (shT T).length ≤ 9 * nodes T := by
  have key : ∀ T, src T = true → wr T = true → (shT T).length + 3 ≤ 9 * nodes T := by
    refine tyInd fun T ih hs hw => ?_
    cases T with
    | mk k n i h ts =>
      simp only [src, Bool.and_eq_true] at hs
      simp only [wr, Bool.and_eq_true, decide_eq_true_eq] at hw
      obtain ⟨⟨-, hk⟩, hl⟩ := hs
      have ih' : ∀ U ∈ ts, (shT U).length + 3 ≤ 9 * nodes U := fun U hU => ih U hU (srcL_mem hl hU) (wrL_mem hw.2 hU)
      have hn : (bl n).length ≤ 6 := by rw [bl_len]; exact hw.1.2
      simp only [shT, nodes]
      cases h5 : k == 5 with
      | true => simp only [if_true]; omega
      | false =>
        rw [h5] at hk
        simp only [Bool.false_eq_true, if_false, Bool.and_eq_true] at hk ⊢
        cases ha : n.toList == [45, 62] with
        | true =>
          rw [ha] at hk
          simp only [if_true, beq_iff_eq] at hk ⊢
          match ts, hk.2 with
          | [a, c], _ =>
            have h1 := ih' a (by simp)
            have h2 := ih' c (by simp)
            have h3 := brk_len (isArr a) (shT a)
            simp only [shH, shB, nodesL, List.length_append, List.length_cons, List.length_nil]
            omega
        | false =>
          simp only [Bool.false_eq_true, if_false]
          have hA : ∀ l : List Ty, (∀ U ∈ l, (shT U).length + 3 ≤ 9 * nodes U) → (shA l).length ≤ 9 * nodesL l := by
            intro l
            induction l with
            | nil => intro _; simp [shA]
            | cons t l ihl =>
              intro hh
              have h1 := hh t (by simp)
              have h2 := ihl fun U hU => hh U (by simp [hU])
              have h3 := brk_len (conArgs t) (shT t)
              simp only [shA, nodesL, List.length_cons, List.length_append]
              omega
          have h2 := hA ts ih'
          rw [List.length_append]
          omega
  intro T h1 h2
  have := key T h1 h2
  omega
/-- The tokens of the canonical text, in so many parentheses. -/
theorem toks_of {T : Ty} (hs : src T = true) (hn : nodes T ≤ 31) {s : ByteArray} {m : Nat} (hm : m ≤ 5) (hb : bl s = parT m (shT T)) : kt (ftoks (bl s)) = wk (parTk m (tkT T)) := by
  have h1 := (par_sc (sc_T T hs) m).alone 0
  have h2 := shT_len2 T hs
  have h3 := parT_len (shT T) m
  unfold ftoks
  rw [hb, if_neg (by omega), h1.2]
  exact h1.1
theorem kt_len (l : List Tok) : (kt l).length = l.length := by simp [kt]
theorem start_zero (ts : List Tok) : startAt ts 0 = 0 := by unfold startAt; rw [if_neg (by omega)]; rfl
theorem kt_drop0 {ts : List Tok} {L : List (Int × List UInt8)} (h : kt ts = L) : (kt ts).drop 0 = L := h
theorem rdT_of {ts : List Tok} {T : Ty} {n : Nat} (h : qType (3 * ts.length + 3) ts 0 = some (.ok T n)) : rdT ts 0 = ⟨T, n, 0, 0⟩ := by
  unfold rdT; rw [start_zero, h]; rfl
theorem rdA_of {ts : List Tok} {T : Ty} {n : Nat} (h : qAtom (3 * ts.length + 3) ts 0 = some (.ok T n)) : rdA ts 0 = ⟨T, n, 0, 0⟩ := by
  unfold rdA; rw [start_zero, h]; rfl
/-- The whole text of a type. -/
theorem rdT_text {T : Ty} (hs : src T = true) {ts : List Tok} (h : kt ts = wk (tkT T)) : rdT ts 0 = ⟨T, ts.length, 0, 0⟩ := by
  have hl : ts.length = (tkT T).length := by rw [← kt_len ts, h, wk_len]
  have := (ty_ok T hs).2.2 (3 * ts.length + 3) ts 0 [] (by rw [List.append_nil]; exact h) noArg_nil noArr_nil (by omega)
  rw [rdT_of this, hl]
  simp
/-- With a semicolon behind it. -/
theorem rdT_behind {T : Ty} (hs : src T = true) {ts : List Tok} {rest : List (Int × List UInt8)} (h : kt ts = wk (tkT T) ++ ((5, [59]) :: rest)) : rdT ts 0 = ⟨T, (tkT T).length, 0, 0⟩ := by
  have := (ty_ok T hs).2.2 (3 * ts.length + 3) ts 0 _ (kt_drop0 h) (noArg_mark (by decide)) (noArr_mark (by decide)) (by omega)
  rw [rdT_of this]
  simp
theorem rdA_par {T : Ty} (hs : src T = true) {m : Nat} {ts : List Tok} (h : kt ts = wk (parTk (m + 1) (tkT T))) : rdA ts 0 = ⟨T, ts.length, 0, 0⟩ := by
  have hl : ts.length = (parTk (m + 1) (tkT T)).length := by rw [← kt_len ts, h, wk_len]
  have hr := par_reads (T := T) (ws := tkT T) (ty_ok T hs).2.2 m
  have := encW (f := 3 * ts.length + 3) (ts := ts) (i := 0) (rest := []) hr (by rw [List.append_nil]; exact h) (by omega)
  rw [rdA_of this, hl]
  simp [parTk]
end Go.Proofs.YthphnacfidofbaaGreatDoor
