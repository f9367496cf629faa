/- Schemes: the package's countBound and Valid. Schemes: the package's countBound and Valid, walked. Schemes: the package's Close. Schemes: the package's Free. Schemes: the package's contracts, all in one import. Schemes: the law's first. Schemes: what the laws share. -/
import Derived.Test.YtahiefgfhpkoeaaQF
import Derived.Test.YtahiefgfhpkoeaaQH
import Derived.Test.YtahiefgfhpkoeaaQI
namespace Go.Proofs.Ytahiefgfhpkoeaa
open Go.RowKit Go.Sort Go.Shelf Go.Maps Mth

mutual
/-- How many TypeBound there are up to the end, if they are numbered as they occur. -/
def cnB (c : Int) : Ty → Option Int
  | .mk k _ i _ ts =>
    if k == 5 then none
    else if k == 2 then (if i == c then some (c + 1) else if i < c then some c else none)
    else cnBL c ts
def cnBL (c : Int) : List Ty → Option Int
  | [] => some c
  | t :: l => match cnB c t with
    | some d => cnBL d l
    | none => none
end
theorem cnBL_step {l : List Ty} {j : Nat} {t : Ty} (h : l[j]? = some t) (c : Int) : cnBL c (l.drop j) = (match cnB c t with | some d => cnBL d (l.drop (j + 1)) | none => none) := by
  obtain ⟨hl, e⟩ := List.getElem?_eq_some_iff.1 h
  rw [List.drop_eq_getElem_cons hl, e]
  rfl
/-- The numbers 0 .. c - 1. -/
def upto (c : Nat) : List Int := (List.range c).map Int.ofNat
theorem upto_has (c : Nat) (i : Int) : (upto c).contains i = (decide (0 ≤ i) && decide (i < (c : Int))) := by
  unfold upto
  rw [Bool.eq_iff_iff]
  simp only [List.contains_iff_mem, List.mem_map, List.mem_range, Bool.and_eq_true, decide_eq_true_eq]
  constructor
  · rintro ⟨a, h, rfl⟩
    exact ⟨Int.natCast_nonneg a, by have : (a : Int) < (c : Int) := by omega
                                    exact this⟩
  · rintro ⟨h1, h2⟩
    exact ⟨i.toNat, by omega, by have : ((i.toNat : Nat) : Int) = i := Int.toNat_of_nonneg h1
                                 exact this⟩
theorem upto_snoc (c : Nat) : upto c ++ [(c : Int)] = upto (c + 1) := by
  unfold upto
  rw [List.range_succ, List.map_append]; rfl
theorem upto_len (c : Nat) : (upto c).length = c := by unfold upto; simp
/-- What comes behind a list that is there stays behind it. -/
theorem bdn_pre : ∀ T : Ty, ∀ A : List Int, ∃ B, bdn A T = A ++ B := Ty.induct fun T ih A => by
  obtain ⟨k, n, i, h, ts⟩ := T
  have hL : ∀ (l : List Ty), (∀ U ∈ l, U ∈ ts) → ∀ A : List Int, ∃ B, bdnL A l = A ++ B := by
    intro l
    induction l with
    | nil => intro _ A; exact ⟨[], by rw [bdnL]; simp⟩
    | cons t l ihl =>
      intro hm A
      obtain ⟨B, hB⟩ := ih t (hm t (by simp)) A
      obtain ⟨C, hC⟩ := ihl (fun U hU => hm U (by simp [hU])) (bdn A t)
      exact ⟨B ++ C, by rw [bdnL, hC, hB, List.append_assoc]⟩
  rw [bdn]
  obtain ⟨B, hB⟩ := hL ts (fun _ h => h) (if (k == 2 && !A.contains i) = true then A ++ [i] else A)
  rw [hB]
  split
  · exact ⟨[i] ++ B, by simp⟩
  · exact ⟨B, rfl⟩
theorem bdnL_pre : ∀ (l : List Ty) (A : List Int), ∃ B, bdnL A l = A ++ B := by
  intro l
  induction l with
  | nil => intro A; exact ⟨[], by rw [bdnL]; simp⟩
  | cons t l ih =>
    intro A
    obtain ⟨B, hB⟩ := bdn_pre t A
    obtain ⟨C, hC⟩ := ih (bdn A t)
    exact ⟨B ++ C, by rw [bdnL, hC, hB, List.append_assoc]⟩
/-- Counting says whether the numbers are the first ones. -/
def CnAt (T : Ty) : Prop := valid T = true → ∀ c : Nat, match cnB (c : Int) T with
  | some d => hasK 5 T = false ∧ ∃ e : Nat, d = (e : Int) ∧ bdn (upto c) T = upto e
  | none => hasK 5 T = true ∨ ∀ m : Nat, bdn (upto c) T ≠ upto m
theorem upto_pre {c m : Nat} {i : Int} {B : List Int} (h : upto c ++ i :: B = upto m) : i = (c : Int) := by
  have h1 : (upto c ++ i :: B)[c]? = some i := by rw [List.getElem?_append_right (by rw [upto_len]; exact Nat.le_refl _), upto_len, Nat.sub_self]; rfl
  rw [h] at h1
  unfold upto at h1
  rw [List.getElem?_map] at h1
  cases e : (List.range m)[c]? with
  | none => rw [e] at h1; cases h1
  | some x =>
    rw [e] at h1
    obtain ⟨hl, e2⟩ := List.getElem?_eq_some_iff.1 e
    rw [List.getElem_range] at e2
    subst e2
    exact (Option.some.inj h1).symm
theorem upto_take {c m : Nat} {B : List Int} (h : upto c ++ B = upto m) : ∃ e, c ≤ e ∧ upto c ++ B = upto e := ⟨m, by have := congrArg List.length h; simp [upto_len] at this; omega, h⟩
theorem pre_upto : ∀ {A B : List Int} {m : Nat}, A ++ B = upto m → ∃ e, A = upto e := by
  intro A B m h
  refine ⟨A.length, ?_⟩
  have h1 := congrArg (List.take A.length) h
  rw [List.take_left' rfl] at h1
  rw [h1]
  have hl : A.length ≤ m := by have := congrArg List.length h; simp [upto_len] at this; omega
  unfold upto
  rw [← List.map_take, List.take_range, List.length_map, List.length_range]
theorem cnL : ∀ l : List Ty, (∀ U ∈ l, CnAt U) → (∀ U ∈ l, valid U = true) → ∀ c : Nat, match cnBL (c : Int) l with
    | some d => hasKL 5 l = false ∧ ∃ e : Nat, d = (e : Int) ∧ bdnL (upto c) l = upto e
    | none => hasKL 5 l = true ∨ ∀ m : Nat, bdnL (upto c) l ≠ upto m := by
  intro l
  induction l with
  | nil => intro _ _ c; rw [cnBL]; exact ⟨rfl, c, rfl, by rw [bdnL]⟩
  | cons t l ih =>
    intro hm hv c
    have h1 := hm t (by simp) (hv t (by simp)) c
    rw [cnBL]
    cases h : cnB (c : Int) t with
    | none =>
      rw [h] at h1
      simp only
      rcases h1 with h1 | h1
      · left; rw [hasKL, h1]; rfl
      · right
        intro m e
        rw [bdnL] at e
        obtain ⟨B, hB⟩ := bdnL_pre l (bdn (upto c) t)
        rw [hB] at e
        obtain ⟨e', he'⟩ := pre_upto e
        exact h1 e' he'
    | some d =>
      rw [h] at h1
      obtain ⟨h2, e, rfl, h3⟩ := h1
      have h4 := ih (fun U hU => hm U (by simp [hU])) (fun U hU => hv U (by simp [hU])) e
      simp only
      rw [hasKL, h2, bdnL, h3]
      simpa using h4
theorem cn_all : ∀ T : Ty, CnAt T := Ty.induct fun T ih hv c => by
  have hkids : ∀ U ∈ T.ts, valid U = true := by obtain ⟨k, n, i, h, ts⟩ := T; exact valid_kids hv
  obtain ⟨k, n, i, h, ts⟩ := T
  rw [cnB]
  by_cases h5 : k = 5
  · subst h5
    simp only [beq_self_eq_true, if_true]
    left; rw [hasK]; rfl
  · have h5' : (k == 5) = false := by simpa using h5
    rw [if_neg (by simp [h5'])]
    by_cases h2 : k = 2
    · subst h2
      have hts : ts = [] := by
        have := hv
        simp [valid] at this
        simp_all
      subst hts
      rw [if_pos (by simp)]
      have hK : hasK 5 (.mk 2 n i h []) = false := by simp [hasK, hasKL]
      by_cases e : i = (c : Int)
      · subst e
        rw [if_pos (by simp)]
        refine ⟨hK, c + 1, by simp, ?_⟩
        rw [bdn, bdnL, upto_has]
        simp [upto_snoc]
      · rw [if_neg (by simpa using e)]
        have h0 : 0 ≤ i := by
          have := hv
          simp [valid, idOk] at this
          exact this.1.1.1
        by_cases l : i < (c : Int)
        · rw [if_pos l]
          refine ⟨hK, c, rfl, ?_⟩
          rw [bdn, bdnL, upto_has]
          simp [h0, l]
        · rw [if_neg l]
          right
          intro m em
          rw [bdn, bdnL, upto_has] at em
          simp [l] at em
          exact e (upto_pre em)
    · have h2' : (k == 2) = false := by simpa using h2
      rw [if_neg (by simp [h2'])]
      have := cnL ts ih hkids c
      rw [hasK, h5', bdn, h2']
      simpa using this
theorem cn_sch (c : Int) (T : Ty) : schV c T = ((match cnB 0 T with | some d => d == c | none => false) && valid T) := by
  unfold schV
  cases hv : valid T with
  | false => simp
  | true =>
    have h := cn_all T hv 0
    rw [show ((0 : Nat) : Int) = 0 from rfl, show upto 0 = [] from rfl] at h
    cases e : cnB 0 T with
    | none =>
      rw [e] at h
      rcases h with h | h
      · rw [h]; simp
      · have : (bdn [] T == (List.range (bdn [] T).length).map Int.ofNat) = false := by
          rw [beq_eq_false_iff_ne]
          exact h _
        rw [this]; simp
    | some d =>
      rw [e] at h
      obtain ⟨h1, m, rfl, h2⟩ := h
      rw [h1, h2, upto_len]
      have : (upto m == (List.range m).map Int.ofNat) = true := by rw [beq_iff_eq]; rfl
      rw [this]
      simp
end Go.Proofs.Ytahiefgfhpkoeaa

namespace Go.Proofs.Ytahiefgfhpkoeaa
open Go.RowKit Go.Sort Go.Shelf Go.Maps Mth

theorem cnBL_le : ∀ (l : List Ty), (∀ U ∈ l, ∀ c d : Int, cnB c U = some d → c ≤ d ∧ d ≤ c + nodes U) → ∀ c d : Int, cnBL c l = some d → c ≤ d ∧ d ≤ c + nodesL l := by
  intro l
  induction l with
  | nil => intro _ c d h; rw [cnBL] at h; cases h; exact ⟨Int.le_refl _, by simp [nodesL]⟩
  | cons t l ih =>
    intro hm c d h
    rw [cnBL] at h
    cases e : cnB c t with
    | none => rw [e] at h; cases h
    | some x =>
      rw [e] at h
      obtain ⟨h1, h2⟩ := hm t (by simp) c x e
      obtain ⟨h3, h4⟩ := ih (fun U hU => hm U (by simp [hU])) x d h
      have : nodesL (t :: l) = nodes t + nodesL l := rfl
      omega
theorem cnB_le : ∀ T : Ty, ∀ c d : Int, cnB c T = some d → c ≤ d ∧ d ≤ c + nodes T := Ty.induct fun T ih c d h => by
  obtain ⟨k, n, i, hh, ts⟩ := T
  have hN : nodes (.mk k n i hh ts) = nodesL ts + 1 := by rw [nodes]
  rw [cnB] at h
  split at h
  · cases h
  · split at h
    · split at h
      · cases h; omega
      · split at h
        · cases h; omega
        · cases h
    · have := cnBL_le ts ih c d h
      omega
def CbAt (U : Ty) : Prop := ∀ (c : Int) (v : Value) (S : Nat → Prop) (w : World), 0 ≤ c → c + nodes U ≤ 4000000 → Rep w S U v → Calls Try.prog 47 #[v, .int .i64 c] w fun e w' => (∃ x, e = .returned (.tuple #[.int .i64 x, .bool (cnB c U).isSome]) ∧ ∀ d, cnB c U = some d → x = d) ∧ Below w.heap.size w w'
theorem nodesL_drop {l : List Ty} {j : Nat} {t : Ty} (h : l[j]? = some t) : nodesL (l.drop j) = nodes t + nodesL (l.drop (j + 1)) := by
  obtain ⟨hl, e⟩ := List.getElem?_eq_some_iff.1 h
  rw [List.drop_eq_getElem_cons hl, e]; rfl
set_option maxRecDepth 100000 in
set_option maxHeartbeats 6400000 in
theorem countBound_of (T : Ty) (H : ∀ U ∈ T.ts, CbAt U) : CbAt T := by
  intro c v S w hc0 hcN h
  obtain ⟨k, n, i, hm, s, eT, rfl, hn, hs⟩ := h.open
  have hb0 : ∀ X Z, Below w.heap.size w (w.alloc (.cells X Z)) := fun X Z => (Below.refl _ w).alloc (Nat.le_refl _) _
  have HB0 := Lib.hid hb0
  obtain ⟨sa, sc, rfl, ⟨hc1, hc2⟩, hj⟩ := hs
  have HJ := Lib.hid hj
  have HH := Lib.hid H
  have HE : Hid (cnB c T = if k == 5 then none else if k == 2 then (if i == c then some (c + 1) else if i < c then some c else none) else cnBL c T.ts) := by
    show _ = _
    conv => lhs; rw [eT, cnB]
  have HN : Hid (c + nodesL T.ts ≤ 4000000) := by
    show _ ≤ _
    have : nodes T = nodesL T.ts + 1 := by rw [eT, nodes]; rfl
    omega
  clear h eT hn H hj hcN hb0
  unfold maxLen at hc2
  obtain ⟨l, hl⟩ : ∃ l, l = T.ts := ⟨_, rfl⟩
  rw [← hl] at HJ HH HE hc1 HN ⊢
  clear hl
  cases h5 : (k == 5) with
  | true =>
    have HE2 : Hid (cnB c T = none) := by show _ = _; rw [HE.out, h5]; rfl
    go_enter Try.func47, Try.ntmps47
    go_wp2
    refine bodyPost_ret (v := .tuple #[.int .i64 0, .bool false]) (by simp [results, Try.results47, go_sem]; try rfl) rfl ?_
    exact ⟨⟨0, by rw [HE2.out]; rfl, fun d h => by rw [HE2.out] at h; (cases h)⟩, HB0.out _ _⟩
  | false =>
    cases h2 : (k == 2) with
    | true =>
      have hN1 : c + 1 ≤ 4000001 := by have := HN.out; omega
      by_cases e1 : i = c
      · subst e1
        have HE2 : Hid (cnB i T = some (i + 1)) := by show _ = _; rw [HE.out, h5, h2]; simp
        have hw : IntKind.i64.wrap (i + 1) = i + 1 := by rw [IntKind.wrap_i64]; omega
        go_enter Try.func47, Try.ntmps47
        go_wp2
        refine bodyPost_ret (v := .tuple #[.int .i64 (i + 1), .bool true]) (by simp [results, Try.results47, go_sem]; try rfl) rfl ?_
        exact ⟨⟨i + 1, by rw [HE2.out]; rfl, fun d h => by rw [HE2.out] at h; (cases h; rfl)⟩, HB0.out _ _⟩
      · have e1' : (i == c) = false := by simpa using e1
        cases e2 : decide (i < c) with
        | true =>
          have hlt : i < c := by simpa using e2
          have HE2 : Hid (cnB c T = some c) := by show _ = _; rw [HE.out, h5, h2, e1', if_neg (by simp), if_pos rfl, if_neg (by simp), if_pos hlt]
          go_enter Try.func47, Try.ntmps47
          go_upto_region 6 with fail
          go_region
          all_goals
            go_wp2
            refine bodyPost_ret (v := .tuple #[.int .i64 c, .bool true]) (by simp [results, Try.results47, go_sem]; try rfl) rfl ?_
            exact ⟨⟨c, by rw [HE2.out]; rfl, fun d h => by rw [HE2.out] at h; (cases h; rfl)⟩, (HB0.out _ _).drew⟩
        | false =>
          have hlt : ¬ i < c := by simpa using e2
          have HE2 : Hid (cnB c T = none) := by show _ = _; rw [HE.out, h5, h2, e1', if_neg (by simp), if_pos rfl, if_neg (by simp), if_neg hlt]
          go_enter Try.func47, Try.ntmps47
          go_upto_region 6 with fail
          go_region
          all_goals
            go_wp2
            refine bodyPost_ret (v := .tuple #[.int .i64 c, .bool false]) (by simp [results, Try.results47, go_sem]; try rfl) rfl ?_
            exact ⟨⟨c, by rw [HE2.out]; rfl, fun d h => by rw [HE2.out] at h; (cases h)⟩, (HB0.out _ _).drew⟩
    | false =>
      have HE2 : Hid (cnB c T = cnBL c (l.drop 0)) := by show _ = _; rw [HE.out, h5, h2]; simp
      have HN0 : Hid (c + nodesL (l.drop 0) ≤ 4000000) := by show _ ≤ _; simpa using HN.out
      obtain ⟨m, hmm⟩ : ∃ m, m = l.length := ⟨_, rfl⟩
      rw [← hmm] at hc1 ⊢
      have HM := Lib.hid hmm
      clear hmm HE HN
      go_enter Try.func47, Try.ntmps47
      go_wp2
      go_loopw [1, 38] (fun y x wr => ∃ (j : Nat) (d : Int), j ≤ m ∧ x = .int .i64 j ∧ y = .int .i64 d ∧ 0 ≤ d ∧ Hid (d + nodesL (l.drop j) ≤ 4000000) ∧ Hid (cnB c T = cnBL d (l.drop j)) ∧ Below (w.heap.size + 1) (w.alloc (.cells #[.int .i64 k, .string n, .int .i64 i, .int .i64 hm, .slice sa m sc] 25)) wr) (fun _ x _ => m - (intOf x).toNat)
      case atStart => exact ⟨0, c, Nat.zero_le _, rfl, rfl, hc0, HN0, HE2, Below.refl _ _⟩
      case round =>
        obtain ⟨j, d, hj, rfl, rfl, hd0, HNd, HT, hb⟩ := hrel
        have hbw := box_below hb
        have hsz := hb.size
        by_cases hlt : j < m
        · obtain ⟨U, hU⟩ : ∃ x, l[j]? = some x := ⟨_, List.getElem?_eq_getElem (by rw [← HM.out]; exact hlt)⟩
          have HUm : Hid (U ∈ l) := List.mem_of_getElem? hU
          obtain ⟨ad, x, rfl, hS, h5', hx⟩ := HJ.out j U hU
          have HS := Lib.hid (cnBL_step hU d)
          have HND := Lib.hid (nodesL_drop hU)
          clear hU
          have hx' := hx.lift hbw
          have g5 := h5'.kept (hbw.block _ h5'.lt)
          obtain ⟨k', n', i', h', sa', sn', sc', rfl⟩ := hx'.form
          obtain ⟨q0, q1, q2, q3, q4⟩ := five_at g5
          clear h5' hx g5 hS
          have hji : (j : Int) < (m : Int) := by omega
          have HC := Lib.hid (fun o => HH.out U HUm.out d _ S (wr.alloc o) hd0 (by have h1 := HNd.out; have h2 := HND.out; omega) (hx'.lift ((Below.refl _ wr).alloc (Nat.le_refl _) o)))
          have HBA : Hid (∀ o, Below w.heap.size w (wr.alloc o)) := fun o => hbw.trans (((Below.refl _ wr).alloc (Nat.le_refl _) o).mono hbw.size)
          have HBA1 : Hid (∀ o, Below (w.heap.size + 1) (w.alloc (.cells #[.int .i64 k, .string n, .int .i64 i, .int .i64 hm, .slice (some ad) m sc] 25)) (wr.alloc o)) := fun o => hb.trans (((Below.refl _ wr).alloc (Nat.le_refl _) o).mono (by simp at hsz; omega))
          clear hx'
          cases hq : cnB d U with
          | none =>
            rw [hq] at HC
            have HNo : Hid (cnB c T = none) := by show _ = _; rw [HT.out, HS.out, hq]
            clear hq
            go_wp2_with (go_at_call 47; refine (HC.out _).mono ?_; rintro e w1 ⟨⟨x1, rfl, hx1⟩, hb1⟩)
            refine bodyPost_ret (v := .tuple #[.int .i64 0, .bool false]) (by simp [results, Try.results47, go_sem]; try rfl) rfl ?_
            exact ⟨⟨0, by rw [HNo.out]; rfl, fun d h => by rw [HNo.out] at h; (cases h)⟩, (HBA.out _).trans (hb1.mono (HBA.out _).size)⟩
          | some d1 =>
            rw [hq] at HC
            have HS2 : Hid (cnB c T = cnBL d1 (l.drop (j + 1))) := by show _ = _; rw [HT.out, HS.out, hq]
            obtain ⟨k1, k2⟩ := cnB_le U d d1 hq
            have hd1 : 0 ≤ d1 := by omega
            have HN1 : Hid (d1 + nodesL (l.drop (j + 1)) ≤ 4000000) := by show _ ≤ _; have h1 := HNd.out; have h2 := HND.out; omega
            clear hq k1 k2
            go_wp2_with (go_at_call 47; refine (HC.out _).mono ?_; rintro e w1 ⟨⟨x1, rfl, hx1⟩, hb1⟩; obtain rfl : x1 = d1 := hx1 d1 rfl)
            go_roundw
            case rel => exact ⟨j + 1, _, hlt, by go_num, rfl, hd1, HN1, HS2, (HBA1.out _).trans (hb1.mono (by simp at hsz ⊢; omega))⟩
            case measure => simp [intOf]; omega
        · have HS2 : Hid (cnB c T = some d) := by
            show _ = _
            rw [HT.out, List.drop_eq_nil_of_le (by rw [← HM.out]; omega)]; rfl
          go_wp2
          refine bodyPost_ret (v := .tuple #[.int .i64 d, .bool true]) (by simp [results, Try.results47, go_sem]; try rfl) rfl ?_
          exact ⟨⟨d, by rw [HS2.out]; rfl, fun e h => by rw [HS2.out] at h; (cases h; rfl)⟩, hbw⟩
theorem countBound_any : ∀ T : Ty, CbAt T := Ty.induct fun T ih => countBound_of T ih
set_option maxHeartbeats 3200000 in
theorem pkValid_any : ValSAt Try.prog 18 := by
  intro c T v S w hN h
  obtain ⟨k, n, i, hh, sa, sn, sc, rfl, hx⟩ := h.form
  have HX : Hid (Rep w (fun b => b < w.heap.size) T (.agg #[.int .i64 k, .string n, .int .i64 i, .int .i64 hh, .slice sa sn sc])) := hx.bound.imp fun b hb => hb.2
  obtain ⟨V, hV⟩ : ∃ V, V = w.alloc (.cells #[.int .i64 c, .int .i64 k, .string n, .int .i64 i, .int .i64 hh, .slice sa sn sc] 27) := ⟨_, rfl⟩
  have hb0 : Below w.heap.size w V := hV ▸ (Below.refl _ w).alloc (Nat.le_refl _) _
  have hBox : BoxC V w.heap.size (.int .i64 c) (.int .i64 k) (.string n) (.int .i64 i) (.int .i64 hh) (.slice sa sn sc) := hV ▸ BoxC.made _ _ _ _ _ _ _
  have HBx := Lib.hid hBox
  have HB0 := Lib.hid hb0
  have HVe := Lib.hid hV
  have HCb := Lib.hid (countBound_any T 0 _ _ V (Int.le_refl _) (by omega) (HX.out.lift hb0))
  have HVal := Lib.hid (fun W (hb : Below w.heap.size w W) => valid_any T _ _ W (HX.out.lift hb))
  have HE := Lib.hid (cn_sch c T)
  clear hx h hb0 hBox hV hN
  generalize valid T = q at *
  cases hr : cnB 0 T with
  | none =>
    rw [hr] at HE HCb
    go_enter Try.func18, Try.ntmps18
    go_upto_region 1 with fail
    rw [← HVe.out]
    obtain ⟨b0, b1, b2, b3, b4, b5⟩ := HBx.out.cells
    go_wp2_with (go_at_call 47; refine HCb.out.mono ?_; rintro e w1 ⟨⟨x, rfl, hx⟩, hb1⟩; obtain ⟨e0, e1, e2, e3, e4, e5⟩ := (HBx.out.lift hb1).cells)
    go_ret
    exact ⟨ret_bool (by rw [HE.out]; rfl), HB0.out.trans (hb1.mono HB0.out.size)⟩
  | some d =>
    rw [hr] at HE HCb
    cases hd : (d == c) with
    | false =>
      have HF : Hid (schV c T = false) := by show _ = _; rw [HE.out]; simp only; rw [hd]; rfl
      go_enter Try.func18, Try.ntmps18
      go_upto_region 1 with fail
      rw [← HVe.out]
      obtain ⟨b0, b1, b2, b3, b4, b5⟩ := HBx.out.cells
      go_wp2_with (go_at_call 47; refine HCb.out.mono ?_; rintro e w1 ⟨⟨x, rfl, hx⟩, hb1⟩; obtain rfl : x = d := hx d rfl; obtain ⟨e0, e1, e2, e3, e4, e5⟩ := (HBx.out.lift hb1).cells)
      go_ret
      exact ⟨ret_bool (by rw [HF.out]), HB0.out.trans (hb1.mono HB0.out.size)⟩
    | true =>
      have HF : Hid (schV c T = q) := by show _ = _; rw [HE.out]; simp only; rw [hd]; simp
      go_enter Try.func18, Try.ntmps18
      go_upto_region 1 with fail
      rw [← HVe.out]
      obtain ⟨b0, b1, b2, b3, b4, b5⟩ := HBx.out.cells
      go_wp2_with (first
        | (go_at_call 47; refine HCb.out.mono ?_; rintro e w1 ⟨⟨x, rfl, hx⟩, hb1⟩; obtain rfl : x = d := hx d rfl; have HB1 := Lib.hid (HB0.out.trans (hb1.mono HB0.out.size)); obtain ⟨e0, e1, e2, e3, e4, e5⟩ := (HBx.out.lift hb1).cells)
        | (go_at_call 48; refine (HVal.out _ HB1.out).mono ?_; rintro e w2 ⟨rfl, hb2⟩))
      go_ret
      exact ⟨ret_bool (by rw [HF.out]), HB1.out.trans (hb2.mono HB1.out.size)⟩
end Go.Proofs.Ytahiefgfhpkoeaa

namespace Go.Proofs.Ytahiefgfhpkoeaa
open Go.RowKit Go.Sort Go.Shelf Go.Maps Mth

theorem idx_any (zs : List Int) (z : Int) (v : Value) (w : World) (h : Ints w v zs) : Calls Try.prog 69 #[v, .int .i64 z] w fun e w' => (∃ r : Int, e = .returned (.int .i64 r) ∧ (decide (0 ≤ r)) = zs.contains z) ∧ w = w' := by
  obtain ⟨a, cap, rfl, hc1, hc2, hj⟩ := h
  have HJ := Lib.hid hj
  unfold maxLen at hc2
  obtain ⟨m, hm⟩ : ∃ m, m = zs.length := ⟨_, rfl⟩
  rw [← hm] at hc1 ⊢
  have HM := Lib.hid hm
  have H0 : Hid (zs.contains z = (zs.drop 0).contains z) := by show _ = _; simp
  clear hj hm
  go_enter Try.func69, Try.ntmps69
  go_wp2
  go_loopw [8] (fun x wr => ∃ j : Nat, j ≤ m ∧ x = .int .i64 j ∧ Hid (zs.contains z = (zs.drop j).contains z) ∧ wr = w) (fun x _ => m - (intOf x).toNat)
  case atStart => exact ⟨0, Nat.zero_le _, rfl, H0, rfl⟩
  case round =>
    obtain ⟨j, hj, rfl, HT, rfl⟩ := hrel
    by_cases hlt : j < m
    · obtain ⟨y, hy⟩ : ∃ x, zs[j]? = some x := ⟨_, List.getElem?_eq_getElem (by rw [← HM.out]; exact hlt)⟩
      obtain ⟨ad, e, hc0⟩ := HJ.out j y hy
      subst e
      obtain ⟨hl, e⟩ := List.getElem?_eq_some_iff.1 hy
      have HS : Hid ((zs.drop j).contains z = ((z == y) || (zs.drop (j + 1)).contains z)) := by
        show _ = _
        rw [List.drop_eq_getElem_cons hl, e, List.contains_cons]
      clear hy hl e
      have hji : (j : Int) < (m : Int) := by omega
      cases hq : (z == y) with
      | true =>
        have HY : Hid (zs.contains z = true) := by show _ = _; rw [HT.out, HS.out, hq]; rfl
        go_wp2
        go_ret
        exact ⟨⟨(j : Int), rfl, by rw [HY.out]; simp⟩, rfl⟩
      | false =>
        have HT2 : Hid (zs.contains z = (zs.drop (j + 1)).contains z) := by show _ = _; rw [HT.out, HS.out, hq]; rfl
        go_wp2
        go_roundw
        case rel => exact ⟨j + 1, hlt, by go_num, HT2, trivial⟩
        case measure => simp [intOf]; omega
    · have HN : Hid (zs.contains z = false) := by show _ = _; rw [HT.out, List.drop_eq_nil_of_le (by rw [← HM.out]; omega)]; rfl
      go_wp2
      go_ret
      exact ⟨⟨-1, rfl, by rw [HN.out]; rfl⟩, rfl⟩
theorem con_any (zs : List Int) (z : Int) (v : Value) (w : World) (h : Ints w v zs) : Calls Try.prog 53 #[v, .int .i64 z] w fun e w' => e = .returned (.bool (zs.contains z)) ∧ w = w' := by
  have HI := Lib.hid (idx_any zs z v w h)
  clear h
  generalize zs.contains z = q at *
  go_enter Try.func53, Try.ntmps53
  go_wp2_with (go_at_call 69; refine HI.out.mono ?_; rintro e w1 ⟨⟨r, rfl, hr⟩, rfl⟩)
  go_ret
  exact ⟨ret_bool (by rw [← hr]), rfl⟩
set_option maxRecDepth 100000 in
set_option maxHeartbeats 6400000 in
theorem pkClose_any : CloAt Try.prog 20 := by
  intro T ids tv iv S w hv hp hN hf h hi
  obtain ⟨k, n, i, hh, sa, sn, sc, rfl⟩ := h.form
  obtain ⟨ia, ic, rfl, hic1, hic2, hic⟩ := hi
  have hi : Ints w (.slice ia ids.length ic) ids := ⟨ia, ic, rfl, hic1, hic2, hic⟩
  have HX := Lib.hid h
  obtain ⟨V, hV⟩ : ∃ V, V = (w.alloc (.cells #[.int .i64 k, .string n, .int .i64 i, .int .i64 hh, .slice sa sn sc] 25)).alloc (.cells #[.int .i64 0, .int .i64 0, .string ⟨#[]⟩, .int .i64 0, .int .i64 0, .slice none 0 0] 27) := ⟨_, rfl⟩
  have hVb : Below w.heap.size w V := by rw [hV]; exact ((Below.refl _ w).alloc (Nat.le_refl _) _).alloc (by simp) _
  have HBx : Hid (Box V w.heap.size (.int .i64 k) (.string n) (.int .i64 i) (.int .i64 hh) (.slice sa sn sc)) := by
    show Box _ _ _ _ _ _ _
    unfold Box; rw [hV, heap_at, if_neg (by simp), heap_at, if_pos rfl]
  have HZ : Hid (Zero6 V (w.heap.size + 1)) := by
    show BoxC _ _ _ _ _ _ _ _
    unfold BoxC; rw [hV, heap_at, if_pos (by simp)]
  have HVb := Lib.hid hVb
  have HVs : Hid (V.heap.size = w.heap.size + 2) := by show _ = _; rw [hV]; simp
  have HVe := Lib.hid hV
  obtain ⟨vs, hvs⟩ : ∃ vs, vs = ded [] (vids T) := ⟨_, rfl⟩
  have hVX : Below w.heap.size w (V.alloc (.cells #[.int .i64 k, .string n, .int .i64 i, .int .i64 hh, .slice sa sn sc] 25)) := hVb.alloc hVb.size _
  have HVars : Hid (Calls Try.prog 52 #[.slice (some ⟨V.heap.size, 0, none⟩) 1 1] (V.alloc (.cells #[.int .i64 k, .string n, .int .i64 i, .int .i64 hh, .slice sa sn sc] 25)) fun e w' => ∃ u, e = .returned u ∧ Ints w' u vs ∧ Below (V.alloc (.cells #[.int .i64 k, .string n, .int .i64 i, .int .i64 hh, .slice sa sn sc] 25)).heap.size (V.alloc (.cells #[.int .i64 k, .string n, .int .i64 i, .int .i64 hh, .slice sa sn sc] 25)) w') := by
    rw [hvs, ← varsOf_one hp]
    exact m27 (S := fun _ => True) (fun U hU => by simp at hU; subst hU; exact hv) (by have : nodesL [T] = nodes T := rfl; omega) (repL_one _ trivial ((h.imp fun _ _ => trivial).lift hVb))
  obtain ⟨q, hq⟩ : ∃ q : Int → Bool, q = fun v => ids.contains v := ⟨_, rfl⟩
  have HQ : Hid (∀ z, ids.contains z = q z) := fun z => by rw [hq]
  have HcV : Hid (clV ids T = vs.filter q) := by show _ = _; rw [hvs, hq]; rfl
  have HHas : Hid (∀ z W, Below w.heap.size w W → Calls Try.prog 53 #[.slice ia ids.length ic, .int .i64 z] W fun e w' => e = .returned (.bool (q z)) ∧ W = w') := fun z W hb => by
    rw [hq]; exact con_any _ _ _ _ (hi.lift hb)
  have hvl : vs.length ≤ 100000 := by
    rw [hvs, ← varsOf_one hp]
    unfold varsOf
    have h1 := ded_le ((nkL 1 [T]).map Ty.i) []
    have h2 := nkL_len 1 [T]
    have h3 : nodesL [T] = nodes T := rfl
    simp only [List.length_nil, List.length_map] at h1
    omega
  obtain ⟨m, hm⟩ : ∃ m, m = vs.length := ⟨_, rfl⟩
  rw [← hm] at hvl
  have HM := Lib.hid hm
  clear hV h hi hic hvs hq hm hVb hVX hic1 hic2
  generalize ids.length = il at *
  go_enter Try.func20, Try.ntmps20
  go_upto_region 1 with fail
  rw [← HVe.out]
  obtain ⟨b0, b1, b2, b3, b4⟩ := HBx.out.cells
  go_upto_region 2 with fail
  go_wp2_with (go_at_call 52; refine HVars.out.mono ?_; rintro e w1 ⟨v1, rfl, hiv, hb1⟩; obtain ⟨va, vc, rfl, -, hvc2, hvj⟩ := hiv)
  have HB1 : Hid (Below V.heap.size V w1) := ((Below.refl _ V).alloc (Nat.le_refl _) _).trans (hb1.mono (by simp))
  have HWB1 : Hid (Below w.heap.size w w1) := HVb.out.trans (HB1.out.mono HVb.out.size)
  have HVJ := Lib.hid hvj
  rw [← HM.out]
  clear hb1 hvj b0 b1 b2 b3 b4 HVars
  have HB : Hid (Box w1 w.heap.size (.int .i64 k) (.string n) (.int .i64 i) (.int .i64 hh) (.slice sa sn sc)) := HBx.out.lift HB1.out
  have HZ1 : Hid (Zero6 w1 (w.heap.size + 1)) := BoxC.lift HZ.out HB1.out
  have hs1 : w.heap.size + 2 ≤ w1.heap.size := by have := HB1.out.size; have := HVs.out; omega
  have HS1 := Lib.hid hs1
  have HIV : Hid (∀ (j : Nat) (z : Int), vs[j]? = some z → ∀ W, Below w1.heap.size w1 W → ∃ ad, va = some ad ∧ W.cell? (ad.add j) = some (.int .i64 z)) := fun j z hz W hb => by
    obtain ⟨ad, e, hc⟩ := HVJ.out j z hz
    exact ⟨ad, e, (hb.cell (World.block_lt_of_cell? _ _ hc)).trans hc⟩
  have H0 : Hid (ClSt w1 (.slice none 0 0) (clF ((vs.take 0).filter q) 0) w1) := ⟨by simp [clF]; exact rowG_nil _ _ _ _, Below.refl _ _⟩
  clear hs1 HBx HZ HVJ
  go_loopw [5, 12] (fun y x wr => ∃ (j : Nat) (ya : Option Addr) (n yc : Nat), j ≤ m ∧ x = .int .i64 j ∧ y = .slice ya n yc ∧ Hid (n = ((vs.take j).filter q).length) ∧ Hid (ClSt w1 (.slice ya n yc) (clF ((vs.take j).filter q) 0) wr)) (fun _ x _ => m - (intOf x).toNat)
  case atStart => exact ⟨0, none, 0, 0, Nat.zero_le _, rfl, rfl, by show _ = _; simp, H0⟩
  case round =>
    clear H0
    obtain ⟨j, ya, nn, yc, hj, rfl, rfl, HNn, HSt⟩ := hrel
    by_cases hlt : j < m
    · obtain ⟨z, hz⟩ : ∃ x, vs[j]? = some x := ⟨_, List.getElem?_eq_getElem (by rw [← HM.out]; exact hlt)⟩
      have HFt := Lib.hid (filterTk q hz)
      obtain ⟨ad, e, hc0⟩ := HIV.out j z hz wr HSt.out.low
      subst e
      have hji : (j : Int) < (m : Int) := by omega
      have hnb : nn ≤ j := by
        have h1 := HNn.out
        have h2 := List.length_filter_le q (vs.take j)
        have h3 := List.length_take_le j vs
        omega
      have HH1 := HHas.out z wr (HWB1.out.trans (HSt.out.low.mono HWB1.out.size))
      clear hz
      cases hq : q z with
      | false =>
        rw [hq] at HH1
        have HT1 : Hid ((vs.take (j + 1)).filter q = (vs.take j).filter q) := by show _ = _; rw [HFt.out, hq]; rfl
        clear hq
        go_wp2_with (go_at_call 53; refine HH1.mono ?_; rintro e w3 ⟨rfl, rfl⟩)
        go_roundw
        case rel => exact ⟨j + 1, _, nn, yc, hlt, by go_num, rfl, by show _ = _; rw [HT1.out]; exact HNn.out, by show ClSt _ _ _ _; rw [HT1.out]; exact HSt.out⟩
        case measure => simp [intOf]; omega
      | true =>
        rw [hq] at HH1
        have HT1 : Hid ((vs.take (j + 1)).filter q = (vs.take j).filter q ++ [z]) := by show _ = _; rw [HFt.out, hq]; rfl
        have HT2 : Hid (clF ((vs.take (j + 1)).filter q) 0 = clF ((vs.take j).filter q) 0 ++ [(z, bd (nn : Int))]) := by
          show _ = _; rw [HT1.out, clF_snoc, ← HNn.out]; simp
        have HLen : Hid (nn + 1 = (clF ((vs.take j).filter q) 0).length + 1) := by show _ = _; rw [clF_len, ← HNn.out]
        have hN1 : nn + 1 ≤ 1000000 := by omega
        have HP : Hid (∀ W, Rep W (fun c => w1.heap.size ≤ c ∧ some c ≠ (Value.slice ya nn yc).ownBlock) (bd (nn : Int)) (.agg #[.int .i64 2, .string ⟨#[]⟩, .int .i64 (nn : Int), .int .i64 0, .slice none 0 0])) := fun W => rep_leaf W _ 2 ⟨#[]⟩ _ 0 (Nat.zero_le _)
        clear hq
        go_wp2_with (first
          | (go_at_call 53; refine HH1.mono ?_; rintro e w3 ⟨rfl, rfl⟩)
          | (at_builtin; refine wpList_pushAs HSt.out.row (HP.out _) rfl _ _ rfl rfl _ rfl rfl (nn + 1) HLen.out hN1 HSt.out.low.size ?_; intro a' c' w4 hrow hg; have HSt4 := Lib.hid (HSt.out.push hrow hg); clear hrow hg))
        go_roundw
        case rel => exact ⟨j + 1, a', nn + 1, c', hlt, by go_num, rfl, by show _ = _; rw [HT1.out, List.length_append, ← HNn.out]; rfl, by show ClSt _ _ _ _; rw [HT2.out]; exact HSt4.out⟩
        case measure => simp [intOf]; omega
    · obtain rfl : j = m := by omega
      have hT : (vs.take j).filter q = vs.filter q := by rw [List.take_of_length_le (by rw [← HM.out]; exact Nat.le_refl _)]
      rw [hT] at HNn HSt
      have HLx : Hid (nn = (clV ids T).length ∧ clF (vs.filter q) 0 = clF (clV ids T) 0) := by show _ ∧ _; rw [HcV.out]; exact ⟨HNn.out, rfl⟩
      have HBr : Hid (Box wr w.heap.size (.int .i64 k) (.string n) (.int .i64 i) (.int .i64 hh) (.slice sa sn sc)) := HB.out.lift HSt.out.low
      have HZr : Hid (Zero6 wr (w.heap.size + 1)) := BoxC.lift HZ1.out HSt.out.low
      have HWr : Hid (Below w.heap.size w wr) := HWB1.out.trans (HSt.out.low.mono HWB1.out.size)
      have HR : Hid (Calls Try.prog 54 #[.slice ya nn yc, .agg #[.int .i64 k, .string n, .int .i64 i, .int .i64 hh, .slice sa sn sc]] wr fun e w' => ∃ u, e = .returned u ∧ Rep w' (fun b => S b ∧ b ≠ w.heap.size + 1) (clT ids T) u ∧ Below wr.heap.size wr w') := by
        have := apply_any (clF (vs.filter q) 0) T _ _ (fun b => S b ∧ b ≠ w.heap.size + 1) _ wr (by omega) HSt.out.asL (fun b hb => ⟨⟨hf b (by have := HS1.out; omega), by have := HS1.out; omega⟩, hb.2⟩) (fun b hb => ⟨hf b (by have := HS1.out; have := HSt.out.low.size; omega), by have := HS1.out; have := HSt.out.low.size; omega⟩) ((HX.out.bound.lift HWr.out).imp fun b hb => ⟨hb.1, by omega⟩)
        rwa [HLx.out.2] at this
      obtain ⟨b0, b1, b2, b3, b4⟩ := HBr.out.cells
      clear hT
      go_wp2_with fail
      go_at_call 54
      refine HR.out.mono ?_
      rintro e w2 ⟨u, rfl, hrep, hb2⟩
      have HZ2 : Hid (Zero6 w2 (w.heap.size + 1)) := BoxC.lift HZr.out hb2
      have HW2 : Hid (Below w.heap.size w w2) := HWr.out.trans (hb2.mono HWr.out.size)
      obtain ⟨uk, un, ui, uh, ua, um, uc, rfl⟩ := hrep.form
      have HRep := Lib.hid hrep
      clear hrep hb2
      go_wp2_with (refine wpList_store6 rfl _ _ rfl _ _ _ _ _ _ _ HZ2.out rfl _ _ _ _ _ _ _ _ rfl ?_; intro w3 hB3 hg3 hs3)
      obtain ⟨c0, c1, c2, c3, c4, c5⟩ := hB3.cells
      refine bodyPost_ret (v := .agg #[.int .i64 (nn : Int), .int .i64 uk, .string un, .int .i64 ui, .int .i64 uh, .slice ua um uc]) (by simp [results, Try.results20, go_sem, c0, c1, c2, c3, c4, c5]; try rfl) rfl ?_
      refine ⟨_, rfl, ⟨uk, un, ui, uh, _, by rw [HLx.out.1], ?_⟩, Below.grown HW2.out hg3 HW2.out.size (fun j hj => by cases hj; omega)⟩
      exact HRep.out.kept (fun b hb => hb.1) (fun b hb hlt => hg3.block b hlt (by intro e; cases e; exact hb.2 rfl))
end Go.Proofs.Ytahiefgfhpkoeaa

namespace Go.Proofs.Ytahiefgfhpkoeaa
open Go.RowKit Go.Sort Go.Shelf Go.Maps Mth

/-- Some are in, the rest is still empty. -/
def fillS (L : List Ty) (c j : Nat) : List Ty := L.take j ++ List.replicate (c - j) zT
theorem fillS_zero (L : List Ty) (c : Nat) : fillS L c 0 = List.replicate c zT := by unfold fillS; simp
theorem fillS_len {L : List Ty} {c j : Nat} (hl : L.length = c) (hj : j ≤ c) : (fillS L c j).length = c := by
  unfold fillS
  simp [hl]
  omega
theorem fillS_all {L : List Ty} {c : Nat} (hl : L.length = c) : fillS L c c = L := by
  unfold fillS
  rw [List.take_of_length_le (by omega), Nat.sub_self]; simp
theorem fillS_set {L : List Ty} {c j : Nat} (hl : L.length = c) (hj : j < c) {T : Ty} (h : L[j]? = some T) : (fillS L c j).set j T = fillS L c (j + 1) := by
  unfold fillS
  have h1 : (L.take j).length = j := by simp [hl]; omega
  rw [List.set_append_right _ _ (by omega), h1, Nat.sub_self, show c - j = (c - (j + 1)) + 1 from by omega, List.replicate_succ, List.set_cons_zero, List.take_add_one, h]
  simp
set_option maxRecDepth 100000 in
set_option maxHeartbeats 6400000 in
theorem pkFree_any : FreAt Try.prog 36 := by
  intro cs lv S w hv hN hl h
  obtain ⟨la, lc, rfl, -⟩ := h.slice
  have HL := Lib.hid h
  obtain ⟨m, hm⟩ : ∃ m, m = cs.length := ⟨_, rfl⟩
  rw [← hm] at hl HL ⊢
  have HM := Lib.hid hm
  have HMl : Hid ((cs.map Prod.snd).length = m) := by show _ = _; rw [List.length_map, hm]
  have HVars : Hid (∀ W v, RepL W (fun _ => True) (cs.map Prod.snd) v → Calls Try.prog 52 #[v] W fun e w' => ∃ u, e = .returned u ∧ Ints w' u (varsOf (cs.map Prod.snd)) ∧ Below W.heap.size W w') := fun W v h => m27 (fun U hU => by
    obtain ⟨p, hp, rfl⟩ := List.mem_map.1 hU
    exact hv p hp) (by omega) h
  have hm1 : m ≤ 1000000 := by omega
  clear hm h hv hN
  go_enter Try.func36, Try.ntmps36
  go_upto_region 2 with (at_make; refine wpList_makeT rfl _ _ rfl m rfl rfl hm1 w.heap.size (fun b => b < w.heap.size) (Nat.le_refl _) ?_; intro w2 hrow2 hg2)
  have H0 : Hid (RowG TyE w2 w.heap.size (fun b => b < w.heap.size) (.slice (some ⟨w.heap.size, 0, none⟩) m m) (fillS (cs.map Prod.snd) m 0) ∧ Below w.heap.size w w2) := by
    show _ ∧ _
    rw [fillS_zero]; exact ⟨hrow2, Below.grown (Below.refl _ w) hg2 (Nat.le_refl _) (fun j hj => by cases hj)⟩
  clear hrow2 hg2
  go_wp2
  go_loopw [11] (fun x wr => ∃ j : Nat, j ≤ m ∧ x = .int .i64 j ∧ Hid (RowG TyE wr w.heap.size (fun b => b < w.heap.size) (.slice (some ⟨w.heap.size, 0, none⟩) m m) (fillS (cs.map Prod.snd) m j) ∧ Below w.heap.size w wr)) (fun x _ => m - (intOf x).toNat)
  case atStart => exact ⟨0, Nat.zero_le _, rfl, H0⟩
  case round =>
    clear H0
    obtain ⟨j, hj, rfl, HRw⟩ := hrel
    by_cases hlt : j < m
    · obtain ⟨p, hp⟩ : ∃ x, cs[j]? = some x := ⟨_, List.getElem?_eq_getElem (by rw [← HM.out]; exact hlt)⟩
      obtain ⟨ad, k, nm, i, hh, sa, sn, sc, e, h6, hx⟩ := slG_six HL.out hp
      subst e
      obtain ⟨q0, q1, q2, q3, q4, q5⟩ := h6.kept (HRw.out.2.block _ h6.lt)
      have HFs := Lib.hid (fillS_set HMl.out hlt (T := p.2) (by rw [List.getElem?_map, hp]; rfl))
      have HFl : Hid (j < (fillS (cs.map Prod.snd) m j).length) := by show _ < _; rw [fillS_len HMl.out hj]; exact hlt
      have hji : (j : Int) < (m : Int) := by omega
      have HRw1 := Lib.hid (fun o => HRw.out.1.lift ((Below.refl _ wr).alloc (Nat.le_refl _) o))
      have HX : Hid (∀ o, Rep (wr.alloc o) (fun b => b < w.heap.size ∧ b ≠ w.heap.size) p.2 (.agg #[.int .i64 k, .string nm, .int .i64 i, .int .i64 hh, .slice sa sn sc])) := fun o => (hx.imp (fun b hb => ⟨hb.2, by omega⟩)).lift (HRw.out.2.alloc HRw.out.2.size o)
      clear h6 hx hp
      obtain ⟨V, hV⟩ : ∃ V, V = wr.alloc (.cells #[.int .i64 p.1, .int .i64 k, .string nm, .int .i64 i, .int .i64 hh, .slice sa sn sc] 27) := ⟨_, rfl⟩
      have HPut := Lib.hid ((hV ▸ HRw1.out _ : RowG TyE V _ _ _ _).putTy HFl.out (hV ▸ HX.out _ : Rep V _ _ _))
      obtain ⟨zk, zn, zi, zh, za, zm, zc, ⟨s0, s1, s2, s3, s4⟩, hfa⟩ := (hV ▸ HRw1.out _ : RowG TyE V _ _ _ _).ats HFl.out
      have HBx : Hid (BoxC V wr.heap.size (.int .i64 p.1) (.int .i64 k) (.string nm) (.int .i64 i) (.int .i64 hh) (.slice sa sn sc)) := by
        show BoxC _ _ _ _ _ _ _ _
        unfold BoxC; rw [hV]; exact heap_alloc_new wr _
      have HVb : Hid (Below w.heap.size w V) := by show Below _ _ _; rw [hV]; exact HRw.out.2.alloc HRw.out.2.size _
      go_upto_region 5 with fail
      rw [← hV]
      clear hV
      obtain ⟨b0, b1, b2, b3, b4, b5⟩ := HBx.out.cells
      go_wp2
      have HR4 := Lib.hid HPut.out.1
      have HG4 := Lib.hid (Below.grown HVb.out HPut.out.2 HVb.out.size (fun k hk => by cases hk; exact Nat.le_refl _))
      clear HPut s0 s1 s2 s3 s4 hfa
      generalize ((((V.setCell ⟨w.heap.size, j * 5, none⟩ (.int .i64 k)).setCell ⟨w.heap.size, j * 5 + 1, none⟩ (.string nm)).setCell ⟨w.heap.size, j * 5 + 2, none⟩ (.int .i64 i)).setCell ⟨w.heap.size, j * 5 + 3, none⟩ (.int .i64 hh)).setCell ⟨w.heap.size, j * 5 + 4, none⟩ (.slice sa sn sc) = x at *
      go_roundw
      case rel => exact ⟨j + 1, hlt, by go_num, by show _ ∧ _; rw [← HFs.out]; exact ⟨HR4.out, HG4.out⟩⟩
      case measure => simp [intOf]; omega
    · obtain rfl : j = m := by omega
      have HFa := Lib.hid (fillS_all HMl.out)
      have HRw2 := HRw.out.1
      rw [HFa.out] at HRw2
      have HV := Lib.hid (HVars.out wr _ (slG_repL (HRw2.slG (fun _ _ => trivial) (fun _ _ => trivial))))
      clear HRw2
      go_wp2_with (go_at_call 52; refine HV.out.mono ?_; rintro e w3 ⟨u, rfl, hi, hb⟩)
      go_ret
      exact ⟨_, rfl, hi, HRw.out.2.trans (hb.mono HRw.out.2.size)⟩
end Go.Proofs.Ytahiefgfhpkoeaa

namespace Go.Proofs.Ytahiefgfhpkoeaa
open Go.RowKit Go.Sort Go.Shelf Go.Maps Mth

theorem pkContracts : ValSAt Try.prog 18 ∧ CloAt Try.prog 20 ∧ MonAt Try.prog 21 ∧ InsAtP Try.prog 28 ∧ GenAtP Try.prog 32 ∧ EqSAt Try.prog 34 ∧ FreAt Try.prog 36 :=
  ⟨pkValid_any, pkClose_any, pkMono_any, pkInstance_any, pkGeneral_any, pkEqualS_any, pkFree_any⟩
end Go.Proofs.Ytahiefgfhpkoeaa

namespace Go.Proofs.Ytahiefgfhpkoeaa
open Go.RowKit Go.Sort Go.Shelf Go.Maps Mth

def sA : Ty := con arrN [bd 0, bd 1]
def sB : Ty := con arrN [bd 0, bd 0]
def sX : Ty := con arrN [.mk 1 ⟨#[]⟩ 7 0 [], .mk 1 ⟨#[]⟩ 3 0 []]
def sY : Ty := con arrN [.mk 1 ⟨#[]⟩ 7 0 [], bd 0]
theorem okA : SchOk 26 2 sA := ⟨by decide +kernel, by decide +kernel, by decide +kernel, by decide, by decide +kernel⟩
theorem okB : SchOk 26 1 sB := ⟨by decide +kernel, by decide +kernel, by decide +kernel, by decide, by decide +kernel⟩
theorem ints_one (W : World) (z : Int) (Z : TypeId) : Ints (W.alloc (.cells #[.int .i64 z] Z)) (.slice (some ⟨W.heap.size, 0, none⟩) 1 1) [z] := by
  refine ⟨_, 1, rfl, Nat.le_refl _, by unfold maxLen; omega, fun i x hx => ?_⟩
  cases i with
  | zero => simp at hx; subst hx; exact ⟨_, rfl, by simp [Addr.add]⟩
  | succ i => simp at hx
set_option maxRecDepth 100000 in
set_option maxHeartbeats 6400000 in
theorem first14_any (w : World) : Calls Try.prog 9 #[] w fun e w' => e = .returned (.bool true) ∧ Below w.heap.size w w' ∧ w.heap.size < w'.heap.size := by
  have hsa : arrN.size ≤ maxLen := by unfold maxLen; decide +kernel
  have HBd : Hid (∀ i w, Calls Try.prog 15 #[.int .i64 i] w fun e w' => e = .returned (.agg #[.int .i64 2, .string ⟨#[]⟩, .int .i64 i, .int .i64 0, .slice none 0 0]) ∧ Below w.heap.size w w') := fun i w => refBound_any i w
  have HVr : Hid (∀ i w, Calls Try.prog 22 #[.int .i64 i] w fun e w' => e = .returned (.agg #[.int .i64 1, .string ⟨#[]⟩, .int .i64 i, .int .i64 0, .slice none 0 0]) ∧ Below w.heap.size w w') := fun i w => refVar_any i w
  have HAr : Hid (∀ (k1 k2 i1 i2 : Int) W, Calls Try.prog 38 #[.agg #[.int .i64 k1, .string ⟨#[]⟩, .int .i64 i1, .int .i64 0, .slice none 0 0], .agg #[.int .i64 k2, .string ⟨#[]⟩, .int .i64 i2, .int .i64 0, .slice none 0 0]] W fun e w' => ∃ a c, e = .returned (.agg #[.int .i64 4, .string arrN, .int .i64 0, .int .i64 0, .slice a 2 c]) ∧ Rep w' (fun _ => True) (con arrN [.mk k1 ⟨#[]⟩ i1 0 [], .mk k2 ⟨#[]⟩ i2 0 []]) (.agg #[.int .i64 4, .string arrN, .int .i64 0, .int .i64 0, .slice a 2 c]) ∧ Below W.heap.size W w') := fun k1 k2 i1 i2 W => by
    refine (refArrow_any (.mk k1 ⟨#[]⟩ i1 0 []) (.mk k2 ⟨#[]⟩ i2 0 []) _ _ (fun _ => True) W (fun _ _ => trivial) (rep_leaf _ _ _ _ _ _ (Nat.zero_le _)) (rep_leaf _ _ _ _ _ _ (Nat.zero_le _))).mono ?_
    rintro e w' ⟨a, c, rfl, h1, h2⟩
    exact ⟨a, c, rfl, Rep.close hsa h1, h2⟩
  have HAl : Hid (∀ (w : World) (o : Obj), Below w.heap.size w (w.alloc o)) := fun w o => (Below.refl _ w).alloc (Nat.le_refl _) _
  have HZm : Hid (∀ w : World, Zero6 (w.alloc (.cells #[.int .i64 0, .int .i64 0, .string ⟨#[]⟩, .int .i64 0, .int .i64 0, .slice none 0 0] 27)) w.heap.size) := fun w => BoxC.made _ _ _ _ _ _ _
  clear hsa
  go_enter Try.func9, Try.ntmps9
  go_wp2_with fail
  go_at_call 15
  refine (HBd.out 0 w).mono ?_
  rintro e w1 ⟨rfl, hb1⟩
  have HL1 : Hid (Below w.heap.size w w1) := hb1
  clear hb1
  go_wp2_with fail
  go_at_call 15
  refine (HBd.out 1 w1).mono ?_
  rintro e w2 ⟨rfl, hb2⟩
  have HL2 : Hid (Below w.heap.size w w2) := HL1.out.trans (hb2.mono HL1.out.size)
  clear hb2
  go_wp2_with fail
  go_at_call 38
  refine (HAr.out 2 2 0 1 w2).mono ?_
  rintro e w3 ⟨aa, ac, rfl, hra, hb3⟩
  have HL3 : Hid (Below w.heap.size w w3) := HL2.out.trans (hb3.mono HL2.out.size)
  clear hb3
  go_wp2_with (refine wpList_store6 rfl _ _ rfl _ _ _ _ _ _ _ (HZm.out w3) rfl _ _ _ _ _ _ _ _ rfl ?_; intro w4 hB4 hg4 hs4)
  have HBA := Lib.hid hB4
  have hbs4 : Below w3.heap.size w3 w4 := Below.grown (HAl.out w3 _) hg4 (by simp) (fun k hk => by cases hk; exact Nat.le_refl _)
  have HL4 : Hid (Below w.heap.size w w4) := HL3.out.trans (hbs4.mono HL3.out.size)
  have HRA4 : Hid (Rep w4 (fun _ => True) sA (.agg #[.int .i64 4, .string arrN, .int .i64 0, .int .i64 0, .slice aa 2 ac])) := hra.lift hbs4
  clear hra hB4 hg4 hs4 hbs4
  go_wp2_with fail
  go_at_call 15
  refine (HBd.out 0 w4).mono ?_
  rintro e w5 ⟨rfl, hb5⟩
  have HBA5 := Lib.hid (BoxC.lift HBA.out hb5)
  have HRA5 := Lib.hid (HRA4.out.lift hb5)
  clear HBA HRA4
  have HL5 : Hid (Below w.heap.size w w5) := HL4.out.trans (hb5.mono HL4.out.size)
  clear hb5
  go_wp2_with fail
  go_at_call 15
  refine (HBd.out 0 w5).mono ?_
  rintro e w6 ⟨rfl, hb6⟩
  have HBA6 := Lib.hid (BoxC.lift HBA5.out hb6)
  have HRA6 := Lib.hid (HRA5.out.lift hb6)
  clear HBA5 HRA5
  have HL6 : Hid (Below w.heap.size w w6) := HL5.out.trans (hb6.mono HL5.out.size)
  clear hb6
  go_wp2_with fail
  go_at_call 38
  refine (HAr.out 2 2 0 0 w6).mono ?_
  rintro e w7 ⟨ba, bc, rfl, hrb, hb7⟩
  have HBA7 := Lib.hid (BoxC.lift HBA6.out hb7)
  have HRA7 := Lib.hid (HRA6.out.lift hb7)
  clear HBA6 HRA6
  have HL7 : Hid (Below w.heap.size w w7) := HL6.out.trans (hb7.mono HL6.out.size)
  clear hb7
  go_wp2_with (refine wpList_store6 rfl _ _ rfl _ _ _ _ _ _ _ (HZm.out w7) rfl _ _ _ _ _ _ _ _ rfl ?_; intro w8 hB8 hg8 hs8)
  have HBB := Lib.hid hB8
  have hbs8 : Below w7.heap.size w7 w8 := Below.grown (HAl.out w7 _) hg8 (by simp) (fun k hk => by cases hk; exact Nat.le_refl _)
  have HL8 : Hid (Below w.heap.size w w8) := HL7.out.trans (hbs8.mono HL7.out.size)
  have HBA8 := Lib.hid (BoxC.lift HBA7.out hbs8)
  have HRA8 := Lib.hid (HRA7.out.lift hbs8)
  have HBB8 := HBB
  have HRB8 : Hid (Rep w8 (fun _ => True) sB (.agg #[.int .i64 4, .string arrN, .int .i64 0, .int .i64 0, .slice ba 2 bc])) := hrb.lift hbs8
  clear hrb HBB HBA7 HRA7 hB8 hg8 hs8 hbs8
  go_wp2_with fail
  go_at_call 22
  refine (HVr.out 7 w8).mono ?_
  rintro e w9 ⟨rfl, hb9⟩
  have HBA9 := Lib.hid (BoxC.lift HBA8.out hb9)
  have HRA9 := Lib.hid (HRA8.out.lift hb9)
  have HBB9 := Lib.hid (BoxC.lift HBB8.out hb9)
  have HRB9 := Lib.hid (HRB8.out.lift hb9)
  clear HBA8 HRA8 HBB8 HRB8
  have HL9 : Hid (Below w.heap.size w w9) := HL8.out.trans (hb9.mono HL8.out.size)
  clear hb9
  go_wp2_with fail
  go_at_call 22
  refine (HVr.out 3 w9).mono ?_
  rintro e w10 ⟨rfl, hb10⟩
  have HBA10 := Lib.hid (BoxC.lift HBA9.out hb10)
  have HRA10 := Lib.hid (HRA9.out.lift hb10)
  have HBB10 := Lib.hid (BoxC.lift HBB9.out hb10)
  have HRB10 := Lib.hid (HRB9.out.lift hb10)
  clear HBA9 HRA9 HBB9 HRB9
  have HL10 : Hid (Below w.heap.size w w10) := HL9.out.trans (hb10.mono HL9.out.size)
  clear hb10
  go_wp2_with fail
  go_at_call 38
  refine (HAr.out 1 1 7 3 w10).mono ?_
  rintro e w11 ⟨xa, xc, rfl, hrx, hb11⟩
  have HBA11 := Lib.hid (BoxC.lift HBA10.out hb11)
  have HRA11 := Lib.hid (HRA10.out.lift hb11)
  have HBB11 := Lib.hid (BoxC.lift HBB10.out hb11)
  have HRB11 := Lib.hid (HRB10.out.lift hb11)
  clear HBA10 HRA10 HBB10 HRB10
  have HL11 : Hid (Below w.heap.size w w11) := HL10.out.trans (hb11.mono HL10.out.size)
  clear hb11
  have HClo : Hid (Calls Try.prog 20 #[.agg #[.int .i64 4, .string arrN, .int .i64 0, .int .i64 0, .slice xa 2 xc], .slice (some ⟨w11.heap.size, 0, none⟩) 1 1] (w11.alloc (.cells #[.int .i64 3] 3)) fun e w' => ∃ u, e = .returned u ∧ RepC w' (fun _ => True) (1, sY) u ∧ Below w11.heap.size w11 w') := by
    have hal := HAl.out w11 (.cells #[.int .i64 3] 3)
    have h1 : ((clV [3] sX).length : Int) = 1 ∧ clT [3] sX = sY := ⟨by decide +kernel, teq_eq _ _ (by decide +kernel)⟩
    refine (pkClose_any sX [3] _ _ (fun _ => True) _ (by decide +kernel) (by decide +kernel) (by decide +kernel) (fun _ _ => trivial) (hrx.lift hal) (ints_one _ _ _)).mono ?_
    rintro e w' ⟨u, rfl, h2, h3⟩
    rw [h1.1, h1.2] at h2
    exact ⟨u, rfl, h2, hal.trans (h3.mono hal.size)⟩
  clear hrx
  go_wp2_with fail
  go_at_call 20
  refine HClo.out.mono ?_
  rintro e w12 ⟨uc, rfl, hrc, hb12⟩
  have HBA12 := Lib.hid (BoxC.lift HBA11.out hb12)
  have HRA12 := Lib.hid (HRA11.out.lift hb12)
  have HBB12 := Lib.hid (BoxC.lift HBB11.out hb12)
  have HRB12 := Lib.hid (HRB11.out.lift hb12)
  clear HBA11 HRA11 HBB11 HRB11
  have HL12 : Hid (Below w.heap.size w w12) := HL11.out.trans (hb12.mono HL11.out.size)
  clear hb12
  obtain ⟨ck, cn, ci, chh, ca, cm, cq, rfl, hrc5⟩ := hrc.form
  clear hrc HClo
  go_wp2_with (refine wpList_store6 rfl _ _ rfl _ _ _ _ _ _ _ (HZm.out w12) rfl _ _ _ _ _ _ _ _ rfl ?_; intro w13 hB13 hg13 hs13)
  have HBC := Lib.hid hB13
  have hbs13 : Below w12.heap.size w12 w13 := Below.grown (HAl.out w12 _) hg13 (by simp) (fun k hk => by cases hk; exact Nat.le_refl _)
  have HL13 : Hid (Below w.heap.size w w13) := HL12.out.trans (hbs13.mono HL12.out.size)
  have HBA13 := Lib.hid (BoxC.lift HBA12.out hbs13)
  have HRA13 := Lib.hid (HRA12.out.lift hbs13)
  have HBB13 := Lib.hid (BoxC.lift HBB12.out hbs13)
  have HRB13 := Lib.hid (HRB12.out.lift hbs13)
  have HRC13 : Hid (Rep w13 (fun _ => True) sY (.agg #[.int .i64 ck, .string cn, .int .i64 ci, .int .i64 chh, .slice ca cm cq])) := hrc5.lift hbs13
  clear hrc5 HBA12 HRA12 HBB12 HRB12 hB13 hg13 hs13 hbs13
  have HV := HL13
  have HXA : Hid (RepC w13 (fun _ => True) (2, sA) (.agg #[.int .i64 2, .int .i64 4, .string arrN, .int .i64 0, .int .i64 0, .slice aa 2 ac])) := ⟨_, _, _, _, _, rfl, HRA13.out⟩
  have HXB : Hid (RepC w13 (fun _ => True) (1, sB) (.agg #[.int .i64 1, .int .i64 4, .string arrN, .int .i64 0, .int .i64 0, .slice ba 2 bc])) := ⟨_, _, _, _, _, rfl, HRB13.out⟩
  have HG1 : Hid (∀ W', Below w13.heap.size w13 W' → Calls Try.prog 32 #[.agg #[.int .i64 2, .int .i64 4, .string arrN, .int .i64 0, .int .i64 0, .slice aa 2 ac], .agg #[.int .i64 1, .int .i64 4, .string arrN, .int .i64 0, .int .i64 0, .slice ba 2 bc]] W' fun e w' => e = .returned (.bool true) ∧ Below W'.heap.size W' w') := fun W' hb => by
    have h := pkGeneral_any 2 1 sA sB _ _ _ _ W' okA okB (HXA.out.lift hb) (HXB.out.lift hb)
    rwa [show (instT sA (opn (frs nmG 1) sB) (List.replicate 2 none)).isSome = true by decide +kernel] at h
  have HG2 : Hid (∀ W', Below w13.heap.size w13 W' → Calls Try.prog 32 #[.agg #[.int .i64 1, .int .i64 4, .string arrN, .int .i64 0, .int .i64 0, .slice ba 2 bc], .agg #[.int .i64 2, .int .i64 4, .string arrN, .int .i64 0, .int .i64 0, .slice aa 2 ac]] W' fun e w' => e = .returned (.bool false) ∧ Below W'.heap.size W' w') := fun W' hb => by
    have h := pkGeneral_any 1 2 sB sA _ _ _ _ W' okB okA (HXB.out.lift hb) (HXA.out.lift hb)
    rwa [show (instT sB (opn (frs nmG 2) sA) (List.replicate 1 none)).isSome = false by decide +kernel] at h
  have HVal : Hid (∀ W', Below w13.heap.size w13 W' → Calls Try.prog 18 #[.agg #[.int .i64 2, .int .i64 4, .string arrN, .int .i64 0, .int .i64 0, .slice aa 2 ac]] W' fun e w' => e = .returned (.bool true) ∧ Below W'.heap.size W' w') := fun W' hb => by
    have h := pkValid_any 2 sA _ _ W' (by decide +kernel) (HXA.out.lift hb)
    rwa [show schV 2 sA = true by decide +kernel] at h
  have HEq : Hid (∀ W' u, Below w13.heap.size w13 W' → Rep W' (fun _ => True) (con arrN [.mk 1 ⟨#[]⟩ 7 0 [], .mk 2 ⟨#[]⟩ 0 0 []]) u → Calls Try.prog 39 #[.agg #[.int .i64 ck, .string cn, .int .i64 ci, .int .i64 chh, .slice ca cm cq], u] W' fun e w' => e = .returned (.bool true) ∧ Below W'.heap.size W' w') := fun W' u hb hu => by
    have h := refEqual_any _ sY (Nat.le_refl _) sY _ u _ _ W' (HRC13.out.lift hb) hu
    rwa [teq_id] at h
  have HCells : Hid (w13.cell? ⟨w3.heap.size, 0, none⟩ = some (.int .i64 2) ∧ w13.cell? ⟨w3.heap.size, 1, none⟩ = some (.int .i64 4) ∧ w13.cell? ⟨w3.heap.size, 2, none⟩ = some (.string arrN) ∧ w13.cell? ⟨w3.heap.size, 3, none⟩ = some (.int .i64 0) ∧ w13.cell? ⟨w3.heap.size, 4, none⟩ = some (.int .i64 0) ∧ w13.cell? ⟨w3.heap.size, 5, none⟩ = some (.slice aa 2 ac) ∧ w13.cell? ⟨w7.heap.size, 0, none⟩ = some (.int .i64 1) ∧ w13.cell? ⟨w7.heap.size, 1, none⟩ = some (.int .i64 4) ∧ w13.cell? ⟨w7.heap.size, 2, none⟩ = some (.string arrN) ∧ w13.cell? ⟨w7.heap.size, 3, none⟩ = some (.int .i64 0) ∧ w13.cell? ⟨w7.heap.size, 4, none⟩ = some (.int .i64 0) ∧ w13.cell? ⟨w7.heap.size, 5, none⟩ = some (.slice ba 2 bc) ∧ w13.cell? ⟨w12.heap.size, 0, none⟩ = some (.int .i64 1) ∧ w13.cell? ⟨w12.heap.size, 1, none⟩ = some (.int .i64 ck) ∧ w13.cell? ⟨w12.heap.size, 2, none⟩ = some (.string cn) ∧ w13.cell? ⟨w12.heap.size, 3, none⟩ = some (.int .i64 ci) ∧ w13.cell? ⟨w12.heap.size, 4, none⟩ = some (.int .i64 chh) ∧ w13.cell? ⟨w12.heap.size, 5, none⟩ = some (.slice ca cm cq)) := by
    obtain ⟨a0, a1, a2, a3, a4, a5⟩ := HBA13.out.cells
    obtain ⟨b0, b1, b2, b3, b4, b5⟩ := HBB13.out.cells
    obtain ⟨c0, c1, c2, c3, c4, c5⟩ := HBC.out.cells
    exact ⟨a0, a1, a2, a3, a4, a5, b0, b1, b2, b3, b4, b5, c0, c1, c2, c3, c4, c5⟩
  have HSz : Hid (w.heap.size < w13.heap.size) := Nat.lt_of_le_of_lt HL3.out.size (World.block_lt_of_cell? _ _ HCells.out.1)
  clear HBC HBA13 HRA13 HBB13 HRB13 HRC13 HXA HXB HAl HZm
  generalize hA : w3.heap.size = bA at *
  generalize hB : w7.heap.size = bB at *
  generalize hC : w12.heap.size = bC at *
  have HS : Hid (∀ W', Below w13.heap.size w13 W' → W'.cell? ⟨bA, 0, none⟩ = some (.int .i64 2) ∧ W'.cell? ⟨bA, 1, none⟩ = some (.int .i64 4) ∧ W'.cell? ⟨bA, 2, none⟩ = some (.string arrN) ∧ W'.cell? ⟨bA, 3, none⟩ = some (.int .i64 0) ∧ W'.cell? ⟨bA, 4, none⟩ = some (.int .i64 0) ∧ W'.cell? ⟨bA, 5, none⟩ = some (.slice aa 2 ac) ∧ W'.cell? ⟨bB, 0, none⟩ = some (.int .i64 1) ∧ W'.cell? ⟨bB, 1, none⟩ = some (.int .i64 4) ∧ W'.cell? ⟨bB, 2, none⟩ = some (.string arrN) ∧ W'.cell? ⟨bB, 3, none⟩ = some (.int .i64 0) ∧ W'.cell? ⟨bB, 4, none⟩ = some (.int .i64 0) ∧ W'.cell? ⟨bB, 5, none⟩ = some (.slice ba 2 bc) ∧ W'.cell? ⟨bC, 0, none⟩ = some (.int .i64 1) ∧ W'.cell? ⟨bC, 1, none⟩ = some (.int .i64 ck) ∧ W'.cell? ⟨bC, 2, none⟩ = some (.string cn) ∧ W'.cell? ⟨bC, 3, none⟩ = some (.int .i64 ci) ∧ W'.cell? ⟨bC, 4, none⟩ = some (.int .i64 chh) ∧ W'.cell? ⟨bC, 5, none⟩ = some (.slice ca cm cq)) := fun W' hb => by
    have k : ∀ p v, w13.cell? p = some v → W'.cell? p = some v := fun p v h => (hb.cell (World.block_lt_of_cell? _ _ h)).trans h
    obtain ⟨a0, a1, a2, a3, a4, a5, b0, b1, b2, b3, b4, b5, c0, c1, c2, c3, c4, c5⟩ := HCells.out
    exact ⟨k _ _ a0, k _ _ a1, k _ _ a2, k _ _ a3, k _ _ a4, k _ _ a5, k _ _ b0, k _ _ b1, k _ _ b2, k _ _ b3, k _ _ b4, k _ _ b5, k _ _ c0, k _ _ c1, k _ _ c2, k _ _ c3, k _ _ c4, k _ _ c5⟩
  have HD0 : Hid (Below w13.heap.size w13 w13.drew) := (Below.refl _ w13).drew
  go_wp2_with fail
  go_region_held3 (fun W' => W'.cell? ⟨bA, 0, none⟩ = some (.int .i64 2) ∧ W'.cell? ⟨bA, 1, none⟩ = some (.int .i64 4) ∧ W'.cell? ⟨bA, 2, none⟩ = some (.string arrN) ∧ W'.cell? ⟨bA, 3, none⟩ = some (.int .i64 0) ∧ W'.cell? ⟨bA, 4, none⟩ = some (.int .i64 0) ∧ W'.cell? ⟨bA, 5, none⟩ = some (.slice aa 2 ac) ∧ W'.cell? ⟨bB, 0, none⟩ = some (.int .i64 1) ∧ W'.cell? ⟨bB, 1, none⟩ = some (.int .i64 4) ∧ W'.cell? ⟨bB, 2, none⟩ = some (.string arrN) ∧ W'.cell? ⟨bB, 3, none⟩ = some (.int .i64 0) ∧ W'.cell? ⟨bB, 4, none⟩ = some (.int .i64 0) ∧ W'.cell? ⟨bB, 5, none⟩ = some (.slice ba 2 bc) ∧ W'.cell? ⟨bC, 0, none⟩ = some (.int .i64 1) ∧ W'.cell? ⟨bC, 1, none⟩ = some (.int .i64 ck) ∧ W'.cell? ⟨bC, 2, none⟩ = some (.string cn) ∧ W'.cell? ⟨bC, 3, none⟩ = some (.int .i64 ci) ∧ W'.cell? ⟨bC, 4, none⟩ = some (.int .i64 chh) ∧ W'.cell? ⟨bC, 5, none⟩ = some (.slice ca cm cq))
    (first
      | with_reducible exact HS.out _ HD7.out
      | with_reducible exact HS.out _ HD6.out
      | with_reducible exact HS.out _ HD5.out
      | with_reducible exact HS.out _ HD4.out
      | with_reducible exact HS.out _ HD3.out
      | with_reducible exact HS.out _ HD2.out
      | with_reducible exact HS.out _ HD1.out
      | with_reducible exact HS.out _ HD0.out)
    (first
      | (go_at_call 32; (with_reducible refine (HG1.out _ HD0.out).mono ?_); rintro e x1 ⟨rfl, hb⟩; have HD1 := Lib.hid (HD0.out.trans (hb.mono HD0.out.size)); clear hb)
      | (go_at_call 32; (with_reducible refine (HG2.out _ HD1.out).mono ?_); rintro e x2 ⟨rfl, hb⟩; have HD2 := Lib.hid (HD1.out.trans (hb.mono HD1.out.size)); clear hb)
      | (go_at_call 22; (with_reducible refine (HVr.out 7 _).mono ?_); rintro e x3 ⟨rfl, hb⟩; have HD3 := Lib.hid (HD2.out.trans (hb.mono HD2.out.size)); clear hb)
      | (go_at_call 15; (with_reducible refine (HBd.out 0 _).mono ?_); rintro e x4 ⟨rfl, hb⟩; have HD4 := Lib.hid (HD3.out.trans (hb.mono HD3.out.size)); clear hb)
      | (go_at_call 38; (with_reducible refine (HAr.out 1 2 7 0 _).mono ?_); rintro e x5 ⟨ya, yc, rfl, hry, hb⟩; have HY := Lib.hid hry; have HD5 := Lib.hid (HD4.out.trans (hb.mono HD4.out.size)); clear hb hry)
      | (go_at_call 39; (with_reducible refine (HEq.out _ _ HD5.out HY.out).mono ?_); rintro e x6 ⟨rfl, hb⟩; have HD6 := Lib.hid (HD5.out.trans (hb.mono HD5.out.size)); clear hb)
      | (go_at_call 18; (with_reducible refine (HVal.out _ HD6.out).mono ?_); rintro e x7 ⟨rfl, hb⟩; have HD7 := Lib.hid (HD6.out.trans (hb.mono HD6.out.size)); clear hb))
  all_goals
    go_split_ands
    go_wp2
    go_ret
    exact ⟨rfl, HV.out.trans (HD7.out.mono HV.out.size), Nat.lt_of_lt_of_le HSz.out HD7.out.size⟩
end Go.Proofs.Ytahiefgfhpkoeaa

namespace Go.Proofs.Ytahiefgfhpkoeaa
open Go.RowKit Go.Sort Go.Shelf Go.Maps Mth

/-- A tape of numbers that came in. -/
theorem tape_start {w w1 : World} {zs : List Int} {ca : Option Addr} {cc : Nat} (hz : zs.length ≤ 1000) (h : Ints w (.slice ca zs.length cc) zs) (hb : Below w.heap.size w w1) (hs : w.heap.size < w1.heap.size) :
    Tq (w1.alloc (.cells #[.slice ca zs.length cc, .int .i64 0] 33)) w1.heap.size := by
  obtain ⟨a, cap, e, -, -, hc⟩ := h
  cases e
  refine ⟨zs, ca, cc, 0, ?_, Nat.zero_le _, hz, fun j x hx => ?_⟩
  · unfold TapeAt; rw [heap_at, if_pos rfl]; rfl
  · obtain ⟨ad, rfl, hcell⟩ := hc j x hx
    have hl := World.block_lt_of_cell? _ _ hcell
    have hl2 := hl
    rw [add_block] at hl2
    refine ⟨ad, rfl, by omega, ?_⟩
    rw [((hb.trans ((Below.refl _ w1).alloc (Nat.le_refl _) _ |>.mono hb.size))).cell hl]; exact hcell
/-- One value that the law's made gave, in a box, with its numbers. -/
structure MkX (w : World) (b B : Nat) (T : Ty) (ids : List Int) (xk : Int) (xn : ByteArray) (xi xh : Int) (xa : Option Addr) (xm xc : Nat) (v : Value) (wr : World) : Prop where
  box : Box wr B (.int .i64 xk) (.string xn) (.int .i64 xi) (.int .i64 xh) (.slice xa xm xc)
  rep : Rep wr (fun c => b < c) T (.agg #[.int .i64 xk, .string xn, .int .i64 xi, .int .i64 xh, .slice xa xm xc])
  row : RowI wr (b + 1) v ids
  ok : OkN QS 3 T
  gt : b < B
theorem MkX.far {w : World} {b B : Nat} {T : Ty} {ids : List Int} {xk : Int} {xn : ByteArray} {xi xh : Int} {xa : Option Addr} {xm xc : Nat} {v : Value} {wr wq : World} (h : MkX w b B T ids xk xn xi xh xa xm xc v wr) (hg : wr.grownBy wq (some b)) : MkX w b B T ids xk xn xi xh xa xm xc v wq :=
  ⟨Box.grown h.box hg (by intro e; have := Option.some.inj e; have := h.gt; omega), h.rep.kept (fun _ h => h) (fun c hc hl => hg.block c hl (by intro e; have := Option.some.inj e; omega)), h.row.kept hg (h.row.off (Nat.lt_succ_self b)), h.ok, h.gt⟩
theorem MkX.lift {w : World} {b B : Nat} {T : Ty} {ids : List Int} {xk : Int} {xn : ByteArray} {xi xh : Int} {xa : Option Addr} {xm xc : Nat} {v : Value} {wr wq : World} (h : MkX w b B T ids xk xn xi xh xa xm xc v wr) (hb : Below wr.heap.size wr wq) : MkX w b B T ids xk xn xi xh xa xm xc v wq := h.far (grown_of_below hb _)
theorem capN3 : capN 3 = 15 := rfl
theorem MkX.close {w : World} {b B : Nat} {T : Ty} {ids : List Int} {xk : Int} {xn : ByteArray} {xi xh : Int} {xa : Option Addr} {xm xc : Nat} {v : Value} {wr : World} (h : MkX w b B T ids xk xn xi xh xa xm xc v wr) {P : Program} {f : Nat} (hf : CloAt P f) :
    Calls P f #[.agg #[.int .i64 xk, .string xn, .int .i64 xi, .int .i64 xh, .slice xa xm xc], v] wr fun e w' => ∃ u, e = .returned u ∧ RepC w' (fun _ => True) (((clV ids T).length : Int), clT ids T) u ∧ Below wr.heap.size wr w' :=
  hf T ids _ v (fun _ => True) wr h.ok.1.1 (plain_of_valid T h.ok.1.1) (by have := h.ok.1.2; rw [capN3] at this; omega) (fun _ _ => trivial) (h.rep.imp fun _ _ => trivial) h.row.ints
end Go.Proofs.Ytahiefgfhpkoeaa
