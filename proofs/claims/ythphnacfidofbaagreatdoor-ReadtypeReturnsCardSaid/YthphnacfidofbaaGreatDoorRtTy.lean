/- Plain facts: the tokens of the canonical text of a written type are read as this type. -/
import Derived.Test.YthphnacfidofbaaGreatDoorRtMa
import Derived.Test.YthphnacfidofbaaGreatDoorTyQX
namespace Go.Proofs.YthphnacfidofbaaGreatDoor
open Go.RowKit Go.Maps Mth

/-! Reading. -/
theorem at_tok {ts : List Tok} {i : Nat} {k : Int} {x : List UInt8} {rest : List (Int × List UInt8)} (h : (kt ts).drop i = (k, x) :: rest) :
    tkK ts i = k ∧ txt ts i = ⟨x.toArray⟩ ∧ (kt ts).drop (i + 1) = rest ∧ i < ts.length := by
  have hg : (kt ts)[i]? = some (k, x) := by
    have : ((kt ts).drop i)[0]? = some (k, x) := by rw [h]; rfl
    rwa [List.getElem?_drop, Nat.add_zero] at this
  have hd1 : (kt ts).drop (i + 1) = rest := by rw [← List.drop_drop, h]; rfl
  unfold kt at hg
  rw [List.getElem?_map] at hg
  obtain ⟨t, ht, he⟩ := Option.map_eq_some_iff.1 hg
  simp only [Prod.mk.injEq] at he
  refine ⟨?_, ?_, hd1, (List.getElem?_eq_some_iff.1 ht).1⟩
  · unfold tkK; rw [ht]; exact he.1
  · rw [txt_some ht, he.2]
theorem at_len {ts : List Tok} {i : Nat} {L : List (Int × List UInt8)} (h : (kt ts).drop i = L) : ts.length - i = L.length := by
  rw [← h, List.length_drop]; simp [kt]
theorem at_end {ts : List Tok} {i : Nat} (h : (kt ts).drop i = []) : tkK ts i = 0 := by
  have h2 : ts.length ≤ i := by
    have := at_len h
    simp at this; omega
  unfold tkK; rw [List.getElem?_eq_none h2]
theorem rMark_at {ts : List Tok} {i : Nat} {k : Int} {x : List UInt8} {rest : List (Int × List UInt8)} (h : (kt ts).drop i = (k, x) :: rest) (s : ByteArray) : rMark ts i s = (k == 5 && x == bl s) := by
  obtain ⟨h1, h2, -⟩ := at_tok h
  unfold rMark
  rw [h1, h2, Lib.toList_data, Lib.toList_data]
  rfl
theorem rMark_end {ts : List Tok} {i : Nat} (h : (kt ts).drop i = []) (s : ByteArray) : rMark ts i s = false := by
  unfold rMark; rw [at_end h]; rfl
/-- No argument, or no arrow, follows. -/
def NoArg (r : List (Int × List UInt8)) : Prop := ∀ k x q, r = (k, x) :: q → k ≠ 1 ∧ k ≠ 2 ∧ ¬ (k = 5 ∧ x = [40])
def NoArr (r : List (Int × List UInt8)) : Prop := ∀ k x q, r = (k, x) :: q → ¬ (k = 5 ∧ x = [45, 62])
theorem noArg_mark {x : List UInt8} {q : List (Int × List UInt8)} (h : x ≠ [40]) : NoArg ((5, x) :: q) := fun k y r e => by
  cases e; exact ⟨by decide, by decide, fun e => h e.2⟩
theorem noArr_mark {x : List UInt8} {q : List (Int × List UInt8)} (h : x ≠ [45, 62]) : NoArr ((5, x) :: q) := fun k y r e => by
  cases e; exact fun e => h e.2
theorem noArg_nil : NoArg [] := fun k x q e => by cases e
theorem noArr_nil : NoArr [] := fun k x q e => by cases e
theorem start_no {ts : List Tok} {i : Nat} {r : List (Int × List UInt8)} (h : (kt ts).drop i = r) (hn : NoArg r) : rStart ts i = false := by
  cases r with
  | nil => unfold rStart; rw [at_end h, rMark_end h]; rfl
  | cons a q =>
    obtain ⟨k, x⟩ := a
    obtain ⟨h1, h2, h3⟩ := hn k x q rfl
    unfold rStart
    rw [(at_tok h).1, rMark_at h]
    have e1 : (k == 1) = false := by simpa using h1
    have e2 : (k == 2) = false := by simpa using h2
    rw [e1, e2]
    cases hk : (k == 5) with
    | false => rfl
    | true =>
      have hx : ¬ x = [40] := fun e => h3 ⟨by simpa using hk, e⟩
      have : (x == bl ⟨#[40]⟩) = false := by rw [beq_eq_false_iff_ne]; exact hx
      rw [this]; rfl
theorem arrow_no {ts : List Tok} {i : Nat} {r : List (Int × List UInt8)} (h : (kt ts).drop i = r) (hn : NoArr r) : rMark ts i ⟨#[45, 62]⟩ = false := by
  cases r with
  | nil => exact rMark_end h _
  | cons a q =>
    obtain ⟨k, x⟩ := a
    have h3 := hn k x q rfl
    rw [rMark_at h]
    cases hk : (k == 5) with
    | false => rfl
    | true =>
      have hx : ¬ x = [45, 62] := fun e => h3 ⟨by simpa using hk, e⟩
      have : (x == bl ⟨#[45, 62]⟩) = false := by rw [beq_eq_false_iff_ne]; exact hx
      rw [this]; rfl
theorem atom_starts {f : Nat} {ts : List Tok} {i : Nat} {T : Ty} {j : Nat} (h : qAtom f ts i = some (.ok T j)) : rStart ts i = true := by
  cases f with
  | zero => simp [qAtom] at h
  | succ f =>
    unfold qAtom at h
    unfold rStart
    cases h1 : tkK ts i == 1 with
    | true => rfl
    | false =>
      cases h2 : tkK ts i == 2 with
      | true => rfl
      | false =>
        cases h3 : rMark ts i ⟨#[40]⟩ with
        | true => rfl
        | false => rw [h1, h2, h3] at h; simp at h
def AtomOk (T : Ty) : Prop := ∀ f ts i rest, (kt ts).drop i = wk (brkW (conArgs T) (tkT T)) ++ rest → 3 * (ts.length - i) + 1 ≤ f → qAtom f ts i = some (.ok T (i + (brkW (conArgs T) (tkT T)).length))
def HeadOk (T : Ty) : Prop := ∀ f ts i rest, (kt ts).drop i = wk (brkW (isArr T) (tkT T)) ++ rest → NoArg rest → 3 * (ts.length - i) + 2 ≤ f → qType (f + 1) ts i = qArrow f ts (i + (brkW (isArr T) (tkT T)).length) T
def TypeOk (T : Ty) : Prop := ∀ f ts i rest, (kt ts).drop i = wk (tkT T) ++ rest → NoArg rest → NoArr rest → 3 * (ts.length - i) + 3 ≤ f → qType f ts i = some (.ok T (i + (tkT T).length))
theorem drop_add {α : Type} {l : List α} {i : Nat} {a r : List α} (h : l.drop i = a ++ r) : l.drop (i + a.length) = r := by
  rw [← List.drop_drop, h, List.drop_left]
theorem wk_len (l : List (List UInt8)) : (wk l).length = l.length := by simp [wk]
theorem args_ok : ∀ l : List Ty, (∀ U ∈ l, AtomOk U) → ∀ f ts i acc rest, (kt ts).drop i = wk (tkA l) ++ rest → NoArg rest → 3 * (ts.length - i) + 2 ≤ f → qArgs f ts i acc = some (.ok (acc ++ l) (i + (tkA l).length)) := by
  intro l
  induction l with
  | nil =>
    intro _ f ts i acc rest h hn hf
    obtain ⟨f, rfl⟩ : ∃ g, f = g + 1 := ⟨f - 1, by omega⟩
    unfold qArgs
    rw [start_no (by simpa [tkA, wk] using h) hn]
    simp [tkA]
  | cons t l ih =>
    intro hA f ts i acc rest h hn hf
    obtain ⟨f, rfl⟩ : ∃ g, f = g + 1 := ⟨f - 1, by omega⟩
    simp only [tkA] at h ⊢
    rw [wk_app, List.append_assoc] at h
    have ha := hA t (by simp) f ts i _ h (by omega)
    unfold qArgs
    rw [atom_starts ha, ha]
    simp only [if_true]
    have hlt := rStart_lt (atom_starts ha)
    have hd := drop_add h
    rw [wk_len] at hd
    have hpos : 1 ≤ (brkW (conArgs t) (tkT t)).length := by
      cases hz : (brkW (conArgs t) (tkT t)).length with
      | zero =>
        rw [hz] at ha
        have := (goes_all ts f).1 i t (i + 0) ha
        omega
      | succ n => omega
    rw [ih (fun U hU => hA U (by simp [hU])) f ts _ (acc ++ [t]) rest hd hn (by omega), List.append_assoc, List.length_append, Nat.add_assoc]
    rfl
theorem wk_cons (x : List UInt8) (l : List (List UInt8)) : wk (x :: l) = (rkind x, x) :: wk l := rfl
theorem r40 : rkind [40] = 5 := by decide
theorem r41 : rkind [41] = 5 := by decide
theorem rAr : rkind [45, 62] = 5 := by decide
theorem enc_at {T : Ty} {f : Nat} {ts : List Tok} {i : Nat} {rest : List (Int × List UInt8)} (hT : TypeOk T) (h : (kt ts).drop i = wk ([40] :: (tkT T ++ [[41]])) ++ rest) (hf : 3 * (ts.length - i) + 1 ≤ f) :
    qAtom f ts i = some (.ok T (i + ([40] :: (tkT T ++ [[41]])).length)) := by
  obtain ⟨f, rfl⟩ : ∃ g, f = g + 1 := ⟨f - 1, by omega⟩
  rw [wk_cons, wk_app, r40] at h
  have h0 : (kt ts).drop i = (5, [40]) :: (wk (tkT T) ++ ((5, [41]) :: rest)) := by rw [h]; simp [wk, r41]
  obtain ⟨k1, -, d1, hlt⟩ := at_tok h0
  unfold qAtom
  rw [k1, rMark_at h0]
  have hq := hT f ts (i + 1) _ d1 (noArg_mark (by decide)) (noArr_mark (by decide)) (by omega)
  rw [if_neg (by decide), if_neg (by decide), if_pos (by decide), hq]
  have d2 := drop_add d1
  rw [wk_len] at d2
  simp only [qEncl]
  rw [rMark_at d2, if_pos (by decide)]
  simp only [List.length_cons, List.length_append, List.length_nil]
  congr 2
  omega
theorem ty_ok : ∀ T, src T = true → AtomOk T ∧ HeadOk T ∧ TypeOk T := by
  refine tyInd fun T ih hs => ?_
  cases T with
  | mk k n i h ts =>
    simp only [src, Bool.and_eq_true] at hs
    obtain ⟨⟨⟨hi0, hh0⟩, hk⟩, hl⟩ := hs
    rw [beq_iff_eq] at hi0 hh0
    subst hi0
    subst hh0
    have ih' : ∀ U ∈ ts, AtomOk U ∧ HeadOk U ∧ TypeOk U := fun U hU => ih U hU (srcL_mem hl hU)
    cases h5 : k == 5 with
    | true =>
      rw [h5] at hk
      have hk5 : k = 5 := by simpa using h5
      subst hk5
      simp only [if_true, Bool.and_eq_true, beq_iff_eq] at hk
      obtain ⟨hlo, hts⟩ := hk
      obtain rfl : ts = [] := List.eq_nil_of_length_eq_zero (by simpa using hts)
      have e1 : tkT (.mk 5 n 0 0 []) = [bl n] := by simp [tkT]
      have eC : conArgs (.mk 5 n 0 0 []) = false := rfl
      have eA : isArr (.mk 5 n 0 0 []) = false := rfl
      have hatom : ∀ f ts i rest, (kt ts).drop i = wk [bl n] ++ rest → qAtom (f + 1) ts i = some (.ok (.mk 5 n 0 0 []) (i + 1)) := by
        intro f ts i rest h
        obtain ⟨k1, t1, d1, hlt⟩ := at_tok (k := rkind (bl n)) (x := bl n) (rest := rest) (by rw [h]; rfl)
        rw [rkind_lo hlo] at k1
        unfold qAtom
        rw [k1, t1, if_pos (by decide), ← mk_bl n]
      have hhead : HeadOk (.mk 5 n 0 0 []) := by
        intro f ts i rest h hn hf
        rw [eA, e1] at *
        simp only [brkW, Bool.false_eq_true, if_false] at h ⊢
        obtain ⟨f, rfl⟩ : ∃ g, f = g + 1 := ⟨f - 1, by omega⟩
        obtain ⟨k1, -, d1, hlt⟩ := at_tok (k := rkind (bl n)) (x := bl n) (rest := rest) (by rw [h]; rfl)
        rw [rkind_lo hlo] at k1
        unfold qType
        rw [k1, if_neg (by decide), hatom f ts i rest h]
        rfl
      refine ⟨?_, hhead, ?_⟩
      · intro f ts i rest h hf
        rw [eC, e1] at *
        simp only [brkW, Bool.false_eq_true, if_false] at h ⊢
        obtain ⟨f, rfl⟩ : ∃ g, f = g + 1 := ⟨f - 1, by omega⟩
        exact hatom f ts i rest h
      · intro f ts i rest h hn hr hf
        obtain ⟨f, rfl⟩ : ∃ g, f = g + 2 := ⟨f - 2, by omega⟩
        have h' : (kt ts).drop i = wk (brkW (isArr (.mk 5 n 0 0 [])) (tkT (.mk 5 n 0 0 []))) ++ rest := by rw [eA]; exact h
        rw [hhead (f + 1) ts i rest h' hn (by omega)]
        have hd := drop_add h
        rw [wk_len] at hd
        unfold qArrow
        rw [eA]
        simp only [brkW, Bool.false_eq_true, if_false]
        rw [arrow_no hd hr]
        rfl
    | false =>
      rw [h5] at hk
      simp only [Bool.false_eq_true, if_false, Bool.and_eq_true] at hk
      obtain ⟨hk4, hk⟩ := hk
      rw [beq_iff_eq] at hk4
      subst hk4
      cases ha : n.toList == [45, 62] with
      | true =>
        rw [ha] at hk
        simp only [if_true, beq_iff_eq] at hk
        have hn : n = arrN := by
          rw [bl_eq]
          have := eq_of_beq ha
          rw [Lib.toList_data] at this
          exact this
        match ts, hk with
        | [a, c], _ =>
          obtain ⟨-, Ha, Fa⟩ := ih' a (by simp)
          obtain ⟨-, -, Fc⟩ := ih' c (by simp)
          have e1 : tkT (.mk 4 n 0 0 [a, c]) = brkW (isArr a) (tkT a) ++ [45, 62] :: tkT c := by simp [tkT, ha, tkH, tkB]
          have eA : isArr (.mk 4 n 0 0 [a, c]) = true := by simp [isArr, Ty.k, Ty.n, ha]
          have eC : conArgs (.mk 4 n 0 0 [a, c]) = true := rfl
          have F : TypeOk (.mk 4 n 0 0 [a, c]) := by
            intro f ts i rest h hnA hnR hf
            obtain ⟨f, rfl⟩ : ∃ g, f = g + 2 := ⟨f - 2, by omega⟩
            rw [e1] at h ⊢
            have h0 : (kt ts).drop i = wk (brkW (isArr a) (tkT a)) ++ ((5, [45, 62]) :: (wk (tkT c) ++ rest)) := by rw [h]; simp [wk, rAr]
            have hlen := at_len h0
            rw [Ha (f + 1) ts i _ h0 (noArg_mark (by decide)) (by omega)]
            have d1 := drop_add h0
            rw [wk_len] at d1
            obtain ⟨-, -, d2, hlt⟩ := at_tok d1
            unfold qArrow
            rw [rMark_at d1, if_pos (by decide)]
            simp only [List.length_append, List.length_cons, wk_len] at hlen
            rw [Fc f ts _ rest d2 hnA hnR (by omega), hn]
            simp only [List.length_append, List.length_cons]
            congr 2
            omega
          refine ⟨?_, ?_, F⟩
          · intro f ts i rest h hf
            rw [eC] at h ⊢
            exact enc_at F h hf
          · intro f ts i rest h hnA hf
            rw [eA] at h ⊢
            have ha := enc_at (f := f) F h (by omega)
            have h0 : (kt ts).drop i = (5, [40]) :: (wk (tkT (.mk 4 n 0 0 [a, c]) ++ [[41]]) ++ rest) := by rw [h]; simp [brkW, wk, r40]
            unfold qType
            rw [(at_tok h0).1, if_neg (by decide), ha]
            rfl
      | false =>
        rw [ha] at hk
        simp only [Bool.false_eq_true, if_false] at hk
        have e1 : tkT (.mk 4 n 0 0 ts) = bl n :: tkA ts := by simp [tkT, ha]
        have eA : isArr (.mk 4 n 0 0 ts) = false := by simp [isArr, Ty.k, Ty.n, ha]
        have H : HeadOk (.mk 4 n 0 0 ts) := by
          intro f us i rest h hnA hf
          rw [eA, e1] at *
          simp only [brkW, Bool.false_eq_true, if_false] at h ⊢
          obtain ⟨k1, t1, d1, hlt⟩ := at_tok (k := rkind (bl n)) (x := bl n) (rest := wk (tkA ts) ++ rest) (by rw [h]; rfl)
          rw [rkind_up hk] at k1
          unfold qType
          rw [k1, t1, if_pos (by decide), args_ok ts (fun U hU => (ih' U hU).1) f us (i + 1) [] rest d1 hnA (by omega), ← mk_bl n]
          simp only [List.nil_append, List.length_cons]
          congr 1
          omega
        have F : TypeOk (.mk 4 n 0 0 ts) := by
          intro f us i rest h hnA hnR hf
          obtain ⟨f, rfl⟩ : ∃ g, f = g + 2 := ⟨f - 2, by omega⟩
          have h' : (kt us).drop i = wk (brkW (isArr (.mk 4 n 0 0 ts)) (tkT (.mk 4 n 0 0 ts))) ++ rest := by rw [eA]; exact h
          rw [H (f + 1) us i rest h' hnA (by omega)]
          have hd := drop_add h
          rw [wk_len] at hd
          unfold qArrow
          rw [eA]
          simp only [brkW, Bool.false_eq_true, if_false]
          rw [arrow_no hd hnR]
          rfl
        refine ⟨?_, H, F⟩
        intro f us i rest h hf
        cases hc : conArgs (.mk 4 n 0 0 ts) with
        | true =>
          rw [hc] at h
          exact enc_at F h hf
        | false =>
          rw [hc] at h
          simp only [brkW, Bool.false_eq_true, if_false] at h ⊢
          obtain rfl : ts = [] := by
            cases ts with
            | nil => rfl
            | cons t l => simp [conArgs, Ty.k, Ty.ts] at hc
          have e2 : tkT (.mk 4 n 0 0 []) = [bl n] := by rw [e1]; rfl
          rw [e2] at h ⊢
          obtain ⟨f, rfl⟩ : ∃ g, f = g + 1 := ⟨f - 1, by omega⟩
          obtain ⟨k1, t1, d1, hlt⟩ := at_tok (k := rkind (bl n)) (x := bl n) (rest := rest) (by rw [h]; rfl)
          rw [rkind_up hk] at k1
          unfold qAtom
          rw [k1, t1, if_neg (by decide), if_pos (by decide), ← mk_bl n]
          rfl
/-! Superfluous parentheses; lengths. -/
/-- These tokens are read as this type. -/
def ReadsT (ws : List (List UInt8)) (T : Ty) : Prop := ∀ f ts i rest, (kt ts).drop i = wk ws ++ rest → NoArg rest → NoArr rest → 3 * (ts.length - i) + 3 ≤ f → qType f ts i = some (.ok T (i + ws.length))
theorem encW {ws : List (List UInt8)} {T : Ty} (hT : ReadsT ws T) {f : Nat} {ts : List Tok} {i : Nat} {rest : List (Int × List UInt8)} (h : (kt ts).drop i = wk ([40] :: (ws ++ [[41]])) ++ rest) (hf : 3 * (ts.length - i) + 1 ≤ f) :
    qAtom f ts i = some (.ok T (i + ([40] :: (ws ++ [[41]])).length)) := by
  obtain ⟨f, rfl⟩ : ∃ g, f = g + 1 := ⟨f - 1, by omega⟩
  rw [wk_cons, wk_app, r40] at h
  have h0 : (kt ts).drop i = (5, [40]) :: (wk ws ++ ((5, [41]) :: rest)) := by rw [h]; simp [wk, r41]
  obtain ⟨k1, -, d1, hlt⟩ := at_tok h0
  unfold qAtom
  rw [k1, rMark_at h0]
  have hq := hT f ts (i + 1) _ d1 (noArg_mark (by decide)) (noArr_mark (by decide)) (by omega)
  rw [if_neg (by decide), if_neg (by decide), if_pos (by decide), hq]
  have d2 := drop_add d1
  rw [wk_len] at d2
  simp only [qEncl]
  rw [rMark_at d2, if_pos (by decide)]
  simp only [List.length_cons, List.length_append, List.length_nil]
  congr 2
  omega
theorem parW {ws : List (List UInt8)} {T : Ty} (hT : ReadsT ws T) : ReadsT ([40] :: (ws ++ [[41]])) T := by
  intro f ts i rest h hA hR hf
  obtain ⟨f, rfl⟩ : ∃ g, f = g + 2 := ⟨f - 2, by omega⟩
  have ha := encW (f := f + 1) hT h (by omega)
  have h0 : (kt ts).drop i = (5, [40]) :: (wk (ws ++ [[41]]) ++ rest) := by rw [h]; simp [wk, r40]
  have hd := drop_add h
  rw [wk_len] at hd
  unfold qType
  rw [(at_tok h0).1, if_neg (by decide), ha]
  dsimp only
  unfold qArrow
  rw [arrow_no hd hR]
  rfl
/-- The text in so many parentheses, and its tokens. -/
def parT : Nat → List UInt8 → List UInt8
  | 0, l => l
  | n + 1, l => 40 :: (parT n l ++ [41])
def parTk : Nat → List (List UInt8) → List (List UInt8)
  | 0, l => l
  | n + 1, l => [40] :: (parTk n l ++ [[41]])
theorem par_reads {T : Ty} {ws : List (List UInt8)} (h : ReadsT ws T) : ∀ n, ReadsT (parTk n ws) T
  | 0 => h
  | n + 1 => parW (par_reads h n)
theorem par_sc {l : List UInt8} {a : List (List UInt8)} (h : Sc l a) : ∀ n, Sc (parT n l) (parTk n a)
  | 0 => h
  | n + 1 => (Sc.par (par_sc h n)).sc
theorem parT_len (l : List UInt8) : ∀ n, (parT n l).length = l.length + 2 * n
  | 0 => rfl
  | n + 1 => by simp only [parT, List.length_cons, List.length_append, List.length_nil, parT_len l n]; omega
end Go.Proofs.YthphnacfidofbaaGreatDoor
