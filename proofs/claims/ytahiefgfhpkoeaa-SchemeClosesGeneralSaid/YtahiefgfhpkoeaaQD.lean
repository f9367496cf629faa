/- Schemes: when a type is an instance of one. Plain facts. Schemes: being at least as general is an order. Plain facts. Schemes: what closing makes. Plain facts. Types by generality: being below. Plain facts. Most general unifiers. Plain facts. The unifier that is found is one, and idempotent. Plain facts. Unifying comes to an end, and speaks of the given variables alone. Plain facts. Schemes: closing does not depend on the numbers of the variables; what is closed whole is most general. Plain facts. -/
import Derived.Test.YtahiefgfhpkoeaaTyRefOpen
import Derived.Test.YtahiefgfhpkoeaaTyOrd
import Derived.Test.YtahiefgfhpkoeaaQC
namespace Go.Proofs.Ytahiefgfhpkoeaa
open Go.RowKit Mth

mutual
/-- The TypeBound of a type have the numbers 0 .. c - 1. -/
def bndIn (c : Nat) : Ty → Bool
  | .mk k _ i _ ts => (k != 2 || (decide (0 ≤ i) && decide (i < (c : Int)))) && bndInL c ts
def bndInL (c : Nat) : List Ty → Bool
  | [] => true
  | t :: l => bndIn c t && bndInL c l
end
theorem bndInL_mem {c : Nat} : ∀ {l : List Ty}, bndInL c l = true → ∀ {U : Ty}, U ∈ l → bndIn c U = true := by
  intro l
  induction l with
  | nil => intro _ U hU; cases hU
  | cons t l ih =>
    intro h U hU
    simp only [bndInL, Bool.and_eq_true] at h
    rcases List.mem_cons.1 hU with rfl | hU
    · exact h.1
    · exact ih h.2 hU
mutual
/-- Matches a type with TypeBound against a type; what has been found so far. -/
def instT : Ty → Ty → List (Option Ty) → Option (List (Option Ty))
  | .mk k n i h ps, t, A =>
    if k == 2 && decide (i < (A.length : Int)) then
      match A[i.toNat]? with
      | some (some u) => if teq u t then some A else none
      | _ => some (A.set i.toNat (some t))
    else if k == t.k && n.toList == t.n.toList && i == t.i && h == t.h && ps.length == t.ts.length then instL ps t.ts A else none
def instL : List Ty → List Ty → List (Option Ty) → Option (List (Option Ty))
  | [], _, A => some A
  | _ :: _, [], A => some A
  | p :: ps, t :: ts, A =>
    match instT p t A with
    | some A1 => instL ps ts A1
    | none => none
end
/-- What is found is what is there. -/
def FoundIn (A : List (Option Ty)) (gs : List Ty) : Prop := A.length = gs.length ∧ ∀ (i : Nat) (u : Ty), A[i]? = some (some u) → gs[i]? = some u
def MoreA (A A1 : List (Option Ty)) : Prop := A1.length = A.length ∧ ∀ (i : Nat) (u : Ty), A[i]? = some (some u) → A1[i]? = some (some u)
theorem MoreA.refl (A : List (Option Ty)) : MoreA A A := ⟨rfl, fun _ _ h => h⟩
theorem MoreA.trans {A B C : List (Option Ty)} (h : MoreA A B) (k : MoreA B C) : MoreA A C := ⟨k.1.trans h.1, fun i u e => k.2 i u (h.2 i u e)⟩
theorem opn_bound {gs : List Ty} {i : Int} (h0 : 0 ≤ i) (h1 : i < (gs.length : Int)) (n : ByteArray) (h : Int) (ts : List Ty) : opn gs (.mk 2 n i h ts) = gs[i.toNat]'(by omega) := by
  rw [opn, if_pos (by simp [opens, h0, h1]), List.getElem?_eq_getElem (by omega)]
  rfl
theorem opn_not {gs : List Ty} {k : Int} (hk : k ≠ 2) (n : ByteArray) (i h : Int) (ts : List Ty) : opn gs (.mk k n i h ts) = .mk k n i h (ts.map (opn gs)) := by
  rw [opn, if_neg (by simp [opens, hk]), opnL_map]
/-- Completeness: an instance is found, by the very types. -/
def InsAt (gs : List Ty) (P : Ty) : Prop := bndIn gs.length P = true → ∀ A, FoundIn A gs → ∃ A1, instT P (opn gs P) A = some A1 ∧ FoundIn A1 gs ∧ MoreA A A1
theorem insL (gs : List Ty) : ∀ ps : List Ty, (∀ U ∈ ps, InsAt gs U) → bndInL gs.length ps = true → ∀ A, FoundIn A gs →
    ∃ A1, instL ps (ps.map (opn gs)) A = some A1 ∧ FoundIn A1 gs ∧ MoreA A A1 := by
  intro ps
  induction ps with
  | nil => intro _ _ A hA; exact ⟨A, by simp [instL], hA, MoreA.refl A⟩
  | cons p ps ih =>
    intro hm hp A hA
    simp only [bndInL, Bool.and_eq_true] at hp
    obtain ⟨A1, h1, h2, h3⟩ := hm p (by simp) hp.1 A hA
    obtain ⟨A2, k1, k2, k3⟩ := ih (fun U hU => hm U (by simp [hU])) hp.2 A1 h2
    refine ⟨A2, ?_, k2, h3.trans k3⟩
    rw [List.map_cons, instL, h1]
    exact k1
theorem found_set {A : List (Option Ty)} {gs : List Ty} (h : FoundIn A gs) {i : Nat} (hi : i < gs.length) : FoundIn (A.set i (some gs[i])) gs := by
  refine ⟨by rw [List.length_set]; exact h.1, fun j u hj => ?_⟩
  by_cases e : i = j
  · subst e
    rw [List.getElem?_set_self (by rw [h.1]; exact hi)] at hj
    cases hj
    exact List.getElem?_eq_getElem hi
  · rw [List.getElem?_set_ne e] at hj
    exact h.2 j u hj
theorem ins_all (gs : List Ty) : ∀ P : Ty, InsAt gs P := Ty.induct fun P ih hp A hA => by
  obtain ⟨k, n, i, h, ps⟩ := P
  simp only [bndIn, Bool.and_eq_true, Bool.or_eq_true] at hp
  by_cases hk : k = 2
  · subst hk
    obtain ⟨h0, h1⟩ : 0 ≤ i ∧ i < (gs.length : Int) := by simpa using hp.1
    rw [opn_bound h0 h1, instT, if_pos (by rw [hA.1]; simp [h1])]
    have hi : i.toNat < gs.length := by omega
    cases e : A[i.toNat]? with
    | none => exact absurd e (by rw [List.getElem?_eq_getElem (by rw [hA.1]; exact hi)]; simp)
    | some o =>
      cases o with
      | some u =>
        have hu := hA.2 _ _ e
        rw [List.getElem?_eq_getElem hi] at hu
        cases hu
        refine ⟨A, ?_, hA, MoreA.refl A⟩
        simp only [teq_id, if_true]
      | none =>
        refine ⟨A.set i.toNat (some gs[i.toNat]), rfl, found_set hA hi, by rw [List.length_set], fun j u hj => ?_⟩
        by_cases c : i.toNat = j
        · subst c; rw [e] at hj; cases hj
        · rw [List.getElem?_set_ne c]; exact hj
  · have hk' : (k == 2) = false := by simpa using hk
    obtain ⟨A1, h1, h2, h3⟩ := insL gs ps (fun U hU => ih U hU) hp.2 A hA
    refine ⟨A1, ?_, h2, h3⟩
    rw [opn_not hk, instT, hk']
    simp only [Ty.k, Ty.n, Ty.i, Ty.h, Ty.ts, beq_self_eq_true, List.length_map, Bool.and_self, Bool.false_and, if_true, Bool.false_eq_true, if_false]
    exact h1
/-- Soundness: what is found makes the pattern the type. -/
def SndAt (P : Ty) : Prop := ∀ (t : Ty) (A A1 : List (Option Ty)), bndIn A.length P = true → instT P t A = some A1 → MoreA A A1 ∧ ∀ gs, FoundIn A1 gs → opn gs P = t
theorem sndL : ∀ ps : List Ty, (∀ U ∈ ps, SndAt U) → ∀ (ts : List Ty) (A A1 : List (Option Ty)), ps.length = ts.length → bndInL A.length ps = true → instL ps ts A = some A1 →
    MoreA A A1 ∧ ∀ gs, FoundIn A1 gs → ps.map (opn gs) = ts := by
  intro ps
  induction ps with
  | nil =>
    intro _ ts A A1 hl _ h
    rw [instL] at h
    cases h
    refine ⟨MoreA.refl A, fun gs _ => ?_⟩
    exact (List.eq_nil_of_length_eq_zero hl.symm).symm
  | cons p ps ih =>
    intro hm ts A A1 hl hb h
    cases ts with
    | nil => cases hl
    | cons t ts =>
      simp only [bndInL, Bool.and_eq_true] at hb
      rw [instL] at h
      cases e : instT p t A with
      | none => rw [e] at h; cases h
      | some A2 =>
        rw [e] at h
        obtain ⟨m1, s1⟩ := hm p (by simp) t A A2 hb.1 e
        obtain ⟨m2, s2⟩ := ih (fun U hU => hm U (by simp [hU])) ts A2 A1 (by simpa using hl) (by rw [m1.1]; exact hb.2) h
        refine ⟨m1.trans m2, fun gs hg => ?_⟩
        rw [List.map_cons, s2 gs hg, s1 gs ⟨by rw [← m2.1]; exact hg.1, fun i u hi => hg.2 i u (m2.2 i u hi)⟩]
theorem snd_all : ∀ P : Ty, SndAt P := Ty.induct fun P ih t A A1 hb h => by
  obtain ⟨k, n, i, hh, ps⟩ := P
  simp only [bndIn, Bool.and_eq_true, Bool.or_eq_true] at hb
  by_cases hk : k = 2
  · subst hk
    obtain ⟨h0, h1⟩ : 0 ≤ i ∧ i < (A.length : Int) := by simpa using hb.1
    have hi : i.toNat < A.length := by omega
    rw [instT, if_pos (by simp [h1])] at h
    have goal : ∀ gs, FoundIn A1 gs → A1[i.toNat]? = some (some t) → A1.length = A.length → opn gs (.mk 2 n i hh ps) = t := fun gs hg e hl => by
      have hgl : gs.length = A.length := by rw [← hg.1, hl]
      rw [opn_bound h0 (by rw [hgl]; exact h1)]
      have := hg.2 _ _ e
      rw [List.getElem?_eq_getElem (by omega)] at this
      exact Option.some.inj this
    cases e : A[i.toNat]? with
    | none => exact absurd e (by rw [List.getElem?_eq_getElem hi]; simp)
    | some o =>
      rw [e] at h
      cases o with
      | some u =>
        simp only at h
        by_cases c : teq u t = true
        · rw [if_pos c] at h
          cases h
          have := teq_eq u t c
          subst this
          exact ⟨MoreA.refl A, fun gs hg => goal gs hg e rfl⟩
        · rw [if_neg c] at h; cases h
      | none =>
        simp only at h
        cases h
        refine ⟨⟨by rw [List.length_set], fun j u hj => ?_⟩, fun gs hg => goal gs hg (List.getElem?_set_self hi) (by rw [List.length_set])⟩
        by_cases c : i.toNat = j
        · subst c; rw [e] at hj; cases hj
        · rw [List.getElem?_set_ne c]; exact hj
  · have hk' : (k == 2) = false := by simpa using hk
    rw [instT, hk'] at h
    simp only [Bool.false_and, Bool.false_eq_true, if_false] at h
    split at h
    · next c =>
      simp only [Bool.and_eq_true, beq_iff_eq] at c
      obtain ⟨⟨⟨⟨c1, c2⟩, c3⟩, c4⟩, c5⟩ := c
      obtain ⟨m, s⟩ := sndL ps (fun U hU => ih U hU) t.ts A A1 c5 hb.2 h
      refine ⟨m, fun gs hg => ?_⟩
      rw [opn_not hk, s gs hg]
      obtain ⟨k', n', i', h', ts'⟩ := t
      simp only [Ty.k, Ty.n, Ty.i, Ty.h, Ty.ts] at c1 c2 c3 c4 ⊢
      have hn : n = n' := by
        obtain ⟨d⟩ := n
        obtain ⟨d'⟩ := n'
        rw [Lib.toList_data, Lib.toList_data] at c2
        have : d = d' := Array.toList_inj.1 c2
        rw [this]
      rw [c1, hn, c3, c4]
    · cases h
/-- A type is an instance exactly if it is found to be one. -/
theorem inst_iff {c : Nat} {P t : Ty} (hb : bndIn c P = true) : (∃ A, instT P t (List.replicate c none) = some A) ↔ ∃ gs, gs.length = c ∧ opn gs P = t := by
  have hl : (List.replicate c (none : Option Ty)).length = c := List.length_replicate
  constructor
  · rintro ⟨A, h⟩
    obtain ⟨m, s⟩ := snd_all P t _ A (by rw [hl]; exact hb) h
    refine ⟨A.map fun o => o.getD default, by rw [List.length_map, m.1, hl], s _ ⟨by rw [List.length_map], fun i u e => ?_⟩⟩
    rw [List.getElem?_map, e]
    rfl
  · rintro ⟨gs, h1, rfl⟩
    subst h1
    obtain ⟨A, h, -⟩ := ins_all gs P hb (List.replicate gs.length none) ⟨List.length_replicate, fun i u e => by rw [List.getElem?_replicate] at e; split at e <;> cases e⟩
    exact ⟨A, h⟩
end Go.Proofs.Ytahiefgfhpkoeaa

namespace Go.Proofs.Ytahiefgfhpkoeaa
open Go.RowKit Mth

mutual
/-- No written type variable occurs. -/
def noNm : Ty → Bool
  | .mk k _ _ _ ts => k != 5 && noNmL ts
def noNmL : List Ty → Bool
  | [] => true
  | t :: l => noNm t && noNmL l
end
theorem noNmL_mem : ∀ {l : List Ty}, noNmL l = true → ∀ {U : Ty}, U ∈ l → noNm U = true := by
  intro l
  induction l with
  | nil => intro _ U hU; cases hU
  | cons t l ih =>
    intro h U hU
    simp only [noNmL, Bool.and_eq_true] at h
    rcases List.mem_cons.1 hU with rfl | hU
    · exact h.1
    · exact ih h.2 hU
mutual
/-- The TypeBound of a type are plain. -/
def plB : Ty → Bool
  | .mk k n _ h ts => (k != 2 || (n.toList == [] && h == 0 && ts.length == 0)) && plBL ts
def plBL : List Ty → Bool
  | [] => true
  | t :: l => plB t && plBL l
end
theorem plBL_mem : ∀ {l : List Ty}, plBL l = true → ∀ {U : Ty}, U ∈ l → plB U = true := by
  intro l
  induction l with
  | nil => intro _ U hU; cases hU
  | cons t l ih =>
    intro h U hU
    simp only [plBL, Bool.and_eq_true] at h
    rcases List.mem_cons.1 hU with rfl | hU
    · exact h.1
    · exact ih h.2 hU
mutual
/-- The numbers of the TypeBound, from left to right. -/
def bnds : Ty → List Int
  | .mk k _ i _ ts => if k == 2 then [i] else bndsL ts
def bndsL : List Ty → List Int
  | [] => []
  | t :: l => bnds t ++ bndsL l
end
mutual
/-- The written type variables, from left to right. -/
def nodes5 : Ty → List Ty
  | .mk k n i h ts => (if k == 5 then [.mk k n i h ts] else []) ++ nodes5L ts
def nodes5L : List Ty → List Ty
  | [] => []
  | t :: l => nodes5 t ++ nodes5L l
end
theorem bndsL_flat : ∀ l : List Ty, bndsL l = l.flatMap bnds := by
  intro l
  induction l with
  | nil => rfl
  | cons t l ih => rw [bndsL, ih, List.flatMap_cons]
theorem nodes5L_flat : ∀ l : List Ty, nodes5L l = l.flatMap nodes5 := by
  intro l
  induction l with
  | nil => rfl
  | cons t l ih => rw [nodes5L, ih, List.flatMap_cons]
mutual
/-- Written type variables replaced. -/
def rnT (ρ : ByteArray → Option Ty) : Ty → Ty
  | .mk k n i h ts => if k == 5 then (ρ n).getD (.mk k n i h ts) else .mk k n i h (rnL ρ ts)
def rnL (ρ : ByteArray → Option Ty) : List Ty → List Ty
  | [] => []
  | t :: l => rnT ρ t :: rnL ρ l
end
theorem rnL_map (ρ : ByteArray → Option Ty) : ∀ l : List Ty, rnL ρ l = l.map (rnT ρ) := by
  intro l
  induction l with
  | nil => rfl
  | cons t l ih => rw [rnL, ih, List.map_cons]
theorem rnT_k (ρ : ByteArray → Option Ty) (X : Ty) (h : X.k ≠ 5) : (rnT ρ X).k = X.k := by
  obtain ⟨k, n, i, hh, ts⟩ := X
  have h : k ≠ 5 := h
  rw [rnT, if_neg (by simpa using h)]
  rfl
/-- What stands at a TypeBound. -/
theorem opn_at {gs : List Ty} {c : Nat} (hc : gs.length = c) {n : ByteArray} {i h : Int} {ts : List Ty} (hb : bndIn c (.mk 2 n i h ts) = true) : i.toNat < gs.length ∧ 0 ≤ i ∧ opn gs (.mk 2 n i h ts) = gs.getD i.toNat default := by
  simp only [bndIn, Bool.and_eq_true, Bool.or_eq_true] at hb
  obtain ⟨h0, h1⟩ : 0 ≤ i ∧ i < (c : Int) := by simpa using hb.1
  have hi : i.toNat < gs.length := by omega
  refine ⟨hi, h0, ?_⟩
  rw [opn_bound h0 (by omega), List.getD_eq_getElem?_getD, List.getElem?_eq_getElem hi]
  rfl
theorem rn_opn (ρ : ByteArray → Option Ty) (gs : List Ty) : ∀ P : Ty, noNm P = true → bndIn gs.length P = true → rnT ρ (opn gs P) = opn (gs.map (rnT ρ)) P := Ty.induct fun P ih hn hb => by
  obtain ⟨k, n, i, h, ts⟩ := P
  by_cases hk : k = 2
  · subst hk
    obtain ⟨hi, h0, e⟩ := opn_at rfl hb
    obtain ⟨-, -, e'⟩ := opn_at (gs := gs.map (rnT ρ)) (c := gs.length) (by rw [List.length_map]) hb
    rw [e, e', List.getD_eq_getElem?_getD, List.getD_eq_getElem?_getD, List.getElem?_map, List.getElem?_eq_getElem hi]
    rfl
  · simp only [noNm, Bool.and_eq_true, bne_iff_ne] at hn
    simp only [bndIn, Bool.and_eq_true] at hb
    rw [opn_not hk, opn_not hk, rnT, if_neg (by simpa using hn.1), rnL_map, List.map_map]
    congr 1
    exact List.map_congr_left fun U hU => ih U hU (noNmL_mem hn.2 hU) (bndInL_mem hb.2 hU)
theorem opn_inj_at (gs gs' : List Ty) (c : Nat) (h1 : gs.length = c) (h2 : gs'.length = c) : ∀ P : Ty, bndIn c P = true → opn gs P = opn gs' P → ∀ i ∈ bnds P, gs.getD i.toNat default = gs'.getD i.toNat default := Ty.induct fun P ih hb he j hj => by
  obtain ⟨k, n, i, h, ts⟩ := P
  by_cases hk : k = 2
  · subst hk
    rw [bnds, if_pos (by rfl)] at hj
    obtain rfl : j = i := by simpa using hj
    rw [(opn_at h1 hb).2.2, (opn_at h2 hb).2.2] at he
    exact he
  · rw [opn_not hk, opn_not hk] at he
    rw [bnds, if_neg (by simpa using hk), bndsL_flat, List.mem_flatMap] at hj
    obtain ⟨U, hU, hj⟩ := hj
    simp only [bndIn, Bool.and_eq_true] at hb
    injection he with _ _ _ _ he
    exact ih U hU (bndInL_mem hb.2 hU) (List.map_inj_left.1 he U hU) j hj
theorem flatMap_congr' {α β : Type} {f g : α → List β} {l : List α} (h : ∀ x ∈ l, f x = g x) : l.flatMap f = l.flatMap g := by
  induction l with
  | nil => rfl
  | cons a l ih => rw [List.flatMap_cons, List.flatMap_cons, h a (by simp), ih fun x hx => h x (by simp [hx])]
theorem nodes5_opn (gs : List Ty) : ∀ P : Ty, noNm P = true → bndIn gs.length P = true → nodes5 (opn gs P) = (bnds P).flatMap fun i => nodes5 (gs.getD i.toNat default) := Ty.induct fun P ih hn hb => by
  obtain ⟨k, n, i, h, ts⟩ := P
  by_cases hk : k = 2
  · subst hk
    rw [(opn_at rfl hb).2.2, bnds, if_pos (by rfl)]
    simp
  · simp only [noNm, Bool.and_eq_true, bne_iff_ne] at hn
    simp only [bndIn, Bool.and_eq_true] at hb
    rw [opn_not hk, nodes5, if_neg (by simpa using hn.1), List.nil_append, nodes5L_flat, bnds, if_neg (by simpa using hk), bndsL_flat, List.flatMap_map, List.flatMap_assoc]
    exact flatMap_congr' fun U hU => ih U hU (noNmL_mem hn.2 hU) (bndInL_mem hb.2 hU)
/-- The i-th new name, as a type. -/
def N5 (nm : Nat → ByteArray) (i : Nat) : Ty := .mk 5 (nm i) 0 0 []
def frs (nm : Nat → ByteArray) (c : Nat) : List Ty := (List.range c).map (N5 nm)
theorem frs_len (nm : Nat → ByteArray) (c : Nat) : (frs nm c).length = c := by unfold frs; rw [List.length_map, List.length_range]
theorem frs_at (nm : Nat → ByteArray) {c i : Nat} (h : i < c) : (frs nm c).getD i default = N5 nm i := by
  unfold frs
  rw [List.getD_eq_getElem?_getD, List.getElem?_map, List.getElem?_range h]
  rfl
def GenS (nm : Nat → ByteArray) (ca : Nat) (a : Ty) (cb : Nat) (b : Ty) : Prop := ∃ gs : List Ty, gs.length = ca ∧ opn gs a = opn (frs nm cb) b
theorem genS_refl (nm : Nat → ByteArray) (c : Nat) (a : Ty) : GenS nm c a c a := ⟨frs nm c, frs_len nm c, rfl⟩
/-- The replacement of the first names by types. -/
def toR (nm : Nat → ByteArray) (hs : List Ty) (n : ByteArray) : Option Ty := ((List.range hs.length).find? fun i => decide (nm i = n)).bind fun i => hs[i]?
def InjTo (nm : Nat → ByteArray) (M : Nat) : Prop := ∀ i j, i < M → j < M → nm i = nm j → i = j
theorem toR_at {nm : Nat → ByteArray} {M : Nat} (hnm : InjTo nm M) {hs : List Ty} (hM : hs.length ≤ M) {i : Nat} (hi : i < hs.length) : toR nm hs (nm i) = some hs[i] := by
  unfold toR
  have : (List.range hs.length).find? (fun j => decide (nm j = nm i)) = some i := by
    rw [List.find?_eq_some_iff_getElem]
    refine ⟨decide_eq_true rfl, i, by rw [List.length_range]; exact hi, List.getElem_range _, fun j hj => ?_⟩
    rw [List.getElem_range]
    have : nm j ≠ nm i := fun e => by have := hnm j i (by omega) (by omega) e; omega
    rw [decide_eq_false this]
    rfl
  rw [this]
  simp [hi]
theorem frs_rn {nm : Nat → ByteArray} {M : Nat} (hnm : InjTo nm M) {hs : List Ty} (hM : hs.length ≤ M) : (frs nm hs.length).map (rnT (toR nm hs)) = hs := by
  unfold frs
  rw [List.map_map]
  apply List.ext_getElem
  · simp
  · intro i h1 h2
    have hi : i < hs.length := h2
    simp only [List.getElem_map, Function.comp_apply, List.getElem_range]
    unfold N5
    rw [rnT, if_pos (by rfl), toR_at hnm hM hi]
    rfl
/-- A scheme as the law has it. -/
structure SchOk (M c : Nat) (a : Ty) : Prop where
  no : noNm a = true
  bnd : bndIn c a = true
  pl : plB a = true
  le : c ≤ M
  can : ded [] (bnds a) = (List.range c).map Int.ofNat
theorem genS_trans {nm : Nat → ByteArray} {M ca cb cc : Nat} {a b d : Ty} (hnm : InjTo nm M) (ha : SchOk M ca a) (hb : SchOk M cb b) (h1 : GenS nm ca a cb b) (h2 : GenS nm cb b cc d) : GenS nm ca a cc d := by
  obtain ⟨gs, rfl, e1⟩ := h1
  obtain ⟨hs, rfl, e2⟩ := h2
  refine ⟨gs.map (rnT (toR nm hs)), by rw [List.length_map], ?_⟩
  rw [← rn_opn _ gs a ha.no ha.bnd, e1, rn_opn _ _ b hb.no (by rw [frs_len]; exact hb.bnd), frs_rn hnm hb.le, e2]
theorem ded_mem (x : Int) : ∀ (l acc : List Int), x ∈ ded acc l ↔ x ∈ acc ∨ x ∈ l := by
  intro l
  induction l with
  | nil => intro acc; simp [ded]
  | cons y l ih =>
    intro acc
    rw [ded]
    split
    · next h =>
      rw [ih]
      have hy : y ∈ acc := by simpa using h
      constructor
      · rintro (h | h)
        · exact .inl h
        · exact .inr (by simp [h])
      · rintro (h | h)
        · exact .inl h
        · rcases List.mem_cons.1 h with rfl | h
          · exact .inl hy
          · exact .inr h
    · rw [ih, List.mem_append, List.mem_singleton, List.mem_cons]
      constructor
      · rintro ((h | h) | h)
        · exact .inl h
        · exact .inr (.inl h)
        · exact .inr (.inr h)
      · rintro (h | h | h)
        · exact .inl (.inl h)
        · exact .inl (.inr h)
        · exact .inr h
theorem SchOk.occurs {M c : Nat} {a : Ty} (h : SchOk M c a) {i : Nat} (hi : i < c) : (i : Int) ∈ bnds a := by
  have := (ded_mem (i : Int) (bnds a) []).1 (by rw [h.can]; exact List.mem_map.2 ⟨i, List.mem_range.2 hi, rfl⟩)
  simpa using this
theorem ded_map {f : Int → Int} : ∀ (l acc : List Int), (∀ x y, (x ∈ acc ∨ x ∈ l) → (y ∈ acc ∨ y ∈ l) → f x = f y → x = y) → ded (acc.map f) (l.map f) = (ded acc l).map f := by
  intro l
  induction l with
  | nil => intro acc _; simp [ded]
  | cons y l ih =>
    intro acc hf
    have hc : (acc.map f).contains (f y) = acc.contains y := by
      cases e : acc.contains y with
      | true =>
        have : y ∈ acc := by simpa using e
        simpa using ⟨y, this, rfl⟩
      | false =>
        have hy : y ∉ acc := by simpa using e
        have : f y ∉ acc.map f := fun h => by
          obtain ⟨z, hz, e1⟩ := List.mem_map.1 h
          exact hy (hf z y (.inl hz) (.inr (by simp)) e1 ▸ hz)
        simpa using this
    rw [List.map_cons, ded, ded, hc]
    split
    · exact ih acc fun x z hx hz => hf x z (hx.imp id (by intro h; simp [h])) (hz.imp id (by intro h; simp [h]))
    · have := ih (acc ++ [y]) fun x z hx hz => hf x z (by
        rcases hx with h | h
        · rcases List.mem_append.1 h with h | h
          · exact .inl h
          · right; simp at h; simp [h]
        · right; simp [h]) (by
        rcases hz with h | h
        · rcases List.mem_append.1 h with h | h
          · exact .inl h
          · right; simp at h; simp [h]
        · right; simp [h])
      rw [List.map_append] at this
      exact this
/-- The types that a more general scheme is opened with are new names, if the other is as general. -/
theorem gen_names {nm : Nat → ByteArray} {M ca cb : Nat} {a b : Ty} (hnm : InjTo nm M) (ha : SchOk M ca a) (hb : SchOk M cb b) {gs hs : List Ty} (hg : gs.length = ca) (hh : hs.length = cb)
    (e1 : opn gs a = opn (frs nm cb) b) (e2 : opn hs b = opn (frs nm ca) a) : ∀ i, i < ca → ∃ j, j < cb ∧ gs.getD i default = N5 nm j ∧ hs.getD j default = N5 nm i := by
  subst hh
  have e3 : opn (gs.map (rnT (toR nm hs))) a = opn (frs nm ca) a := by
    rw [← rn_opn _ gs a ha.no (by rw [hg]; exact ha.bnd), e1, rn_opn _ _ b hb.no (by rw [frs_len]; exact hb.bnd), frs_rn hnm hb.le, e2]
  intro i hi
  have hig : i < gs.length := by omega
  have h3 := opn_inj_at _ _ ca (by rw [List.length_map]; exact hg) (frs_len nm ca) a ha.bnd e3 i (ha.occurs hi)
  rw [Int.toNat_natCast, frs_at nm hi, List.getD_eq_getElem?_getD, List.getElem?_map, List.getElem?_eq_getElem hig] at h3
  have h3 : rnT (toR nm hs) gs[i] = N5 nm i := h3
  have hk : gs[i].k = 5 := by
    by_cases e : gs[i].k = 5
    · exact e
    · have := rnT_k (toR nm hs) gs[i] e
      rw [h3] at this
      exact this.symm
  have hgi : gs.getD i default = gs[i] := by rw [List.getD_eq_getElem?_getD, List.getElem?_eq_getElem hig]; rfl
  have hm : gs[i] ∈ nodes5 (opn gs a) := by
    rw [nodes5_opn gs a ha.no (by rw [hg]; exact ha.bnd), List.mem_flatMap]
    refine ⟨i, ha.occurs hi, ?_⟩
    rw [Int.toNat_natCast, hgi]
    cases hX : gs[i] with
    | mk k n i' h' ts =>
      rw [hX] at hk
      have hk : k = 5 := hk
      subst hk
      rw [nodes5]
      simp
  rw [e1, nodes5_opn _ b hb.no (by rw [frs_len]; exact hb.bnd), List.mem_flatMap] at hm
  obtain ⟨x, hx, hm⟩ := hm
  have hxr := (ded_mem x (bnds b) []).2 (.inr hx)
  rw [hb.can, List.mem_map] at hxr
  obtain ⟨j, hj, rfl⟩ := hxr
  have hj : j < hs.length := List.mem_range.1 hj
  rw [show (Int.ofNat j).toNat = j from rfl, frs_at nm hj] at hm
  have hm : gs[i] = N5 nm j := by
    unfold N5 at hm ⊢
    rw [nodes5] at hm
    simpa [nodes5L] using hm
  refine ⟨j, hj, by rw [hgi, hm], ?_⟩
  rw [hm] at h3
  unfold N5 at h3
  rw [rnT, if_pos (by rfl), toR_at hnm hb.le hj] at h3
  rw [List.getD_eq_getElem?_getD, List.getElem?_eq_getElem hj]
  exact h3
theorem frs_inj {nm : Nat → ByteArray} {M c : Nat} (hnm : InjTo nm M) (hc : c ≤ M) : ∀ P : Ty, noNm P = true → bndIn c P = true → plB P = true → ∀ Q : Ty, noNm Q = true → bndIn c Q = true → plB Q = true → opn (frs nm c) P = opn (frs nm c) Q → P = Q := Ty.induct fun P ih p1 p2 p3 Q q1 q2 q3 he => by
  obtain ⟨k, n, i, h, ts⟩ := P
  obtain ⟨k', n', i', h', ts'⟩ := Q
  have pl : ∀ {n : ByteArray} {i h : Int} {ts : List Ty}, plB (.mk 2 n i h ts) = true → n = ⟨#[]⟩ ∧ h = 0 ∧ ts = [] := fun {n i h ts} hp => by
    simp only [plB, Bool.and_eq_true, Bool.or_eq_true] at hp
    obtain ⟨⟨hn, h0⟩, ht⟩ : (n.toList = [] ∧ h = 0) ∧ ts = [] := by simpa using hp.1
    obtain ⟨d⟩ := n
    rw [Lib.toList_data] at hn
    have : d = #[] := by simpa using hn
    exact ⟨by rw [this], h0, ht⟩
  by_cases hk : k = 2
  · subst hk
    obtain ⟨hi, h0, e⟩ := opn_at (frs_len nm c) p2
    rw [frs_len] at hi
    rw [e, frs_at nm hi] at he
    by_cases hk' : k' = 2
    · subst hk'
      obtain ⟨hi', h0', e'⟩ := opn_at (frs_len nm c) q2
      rw [frs_len] at hi'
      rw [e', frs_at nm hi'] at he
      unfold N5 at he
      injection he with _ he
      have := hnm _ _ (by omega) (by omega) he
      obtain ⟨rfl, rfl, rfl⟩ := pl p3
      obtain ⟨rfl, rfl, rfl⟩ := pl q3
      have : i = i' := by omega
      rw [this]
    · rw [opn_not hk'] at he
      unfold N5 at he
      injection he with he
      simp only [noNm, Bool.and_eq_true, bne_iff_ne] at q1
      exact absurd he.symm q1.1
  · by_cases hk' : k' = 2
    · subst hk'
      obtain ⟨hi', h0', e'⟩ := opn_at (frs_len nm c) q2
      rw [frs_len] at hi'
      rw [opn_not hk, e', frs_at nm hi'] at he
      unfold N5 at he
      injection he with he
      simp only [noNm, Bool.and_eq_true, bne_iff_ne] at p1
      exact absurd he p1.1
    · rw [opn_not hk, opn_not hk'] at he
      injection he with e1 e2 e3 e4 e5
      subst e1 e2 e3 e4
      simp only [noNm, Bool.and_eq_true] at p1 q1
      simp only [bndIn, Bool.and_eq_true] at p2 q2
      simp only [plB, Bool.and_eq_true] at p3 q3
      have hl : ts.length = ts'.length := by simpa using congrArg List.length e5
      congr 1
      refine List.ext_getElem hl fun j h1 h2 => ?_
      have hU := List.getElem_mem h1
      have hV := List.getElem_mem h2
      refine ih _ hU (noNmL_mem p1.2 hU) (bndInL_mem p2.2 hU) (plBL_mem p3.2 hU) _ (noNmL_mem q1.2 hV) (bndInL_mem q2.2 hV) (plBL_mem q3.2 hV) ?_
      have := congrArg (fun l : List Ty => l[j]?) e5
      simpa [h1, h2] using this
/-- In both directions only for equal schemes. -/
theorem genS_anti {nm : Nat → ByteArray} {M ca cb : Nat} {a b : Ty} (hnm : InjTo nm M) (ha : SchOk M ca a) (hb : SchOk M cb b) (h1 : GenS nm ca a cb b) (h2 : GenS nm cb b ca a) : ca = cb ∧ a = b := by
  obtain ⟨gs, hg, e1⟩ := h1
  obtain ⟨hs, hh, e2⟩ := h2
  have A := gen_names hnm ha hb hg hh e1 e2
  have B := gen_names hnm hb ha hh hg e2 e1
  -- the numbers that they go to
  let f : Int → Int := fun x => if h : x.toNat < ca then ((A x.toNat h).choose : Int) else x
  have hf : ∀ i (h : i < ca), ∃ j : Nat, f i = j ∧ j < cb ∧ gs.getD i default = N5 nm j ∧ hs.getD j default = N5 nm i := fun i h => by
    refine ⟨(A i h).choose, ?_, (A i h).choose_spec⟩
    show (if h : (i : Int).toNat < ca then ((A (i : Int).toNat h).choose : Int) else (i : Int)) = _
    rw [dif_pos (show (i : Int).toNat < ca from h)]
  have hmem : ∀ {c : Nat} {t : Ty}, SchOk M c t → ∀ x ∈ bnds t, ∃ i : Nat, i < c ∧ x = i := fun {c t} h x hx => by
    have := (ded_mem x (bnds t) []).2 (.inr hx)
    rw [h.can, List.mem_map] at this
    obtain ⟨i, hi, rfl⟩ := this
    exact ⟨i, List.mem_range.1 hi, rfl⟩
  have hN : ∀ i j, i < M → j < M → N5 nm i = N5 nm j → i = j := fun i j h1 h2 e => by
    unfold N5 at e
    injection e with _ e
    exact hnm i j h1 h2 e
  have hla := ha.le
  have hlb := hb.le
  have hL : (bnds a).map f = bnds b := by
    have h5 : nodes5 (opn gs a) = nodes5 (opn (frs nm cb) b) := by rw [e1]
    rw [nodes5_opn gs a ha.no (by rw [hg]; exact ha.bnd), nodes5_opn _ b hb.no (by rw [frs_len]; exact hb.bnd)] at h5
    have h6 : (bnds a).flatMap (fun i => nodes5 (gs.getD i.toNat default)) = ((bnds a).map f).map fun x => N5 nm x.toNat := by
      rw [List.map_map, ← List.flatMap_singleton' ((bnds a).map _), List.flatMap_map]
      refine flatMap_congr' fun x hx => ?_
      obtain ⟨i, hi, rfl⟩ := hmem ha x hx
      obtain ⟨j, hj, -, hgj, -⟩ := hf i hi
      rw [Int.toNat_natCast, hgj]
      show nodes5 (N5 nm j) = [N5 nm (f i).toNat]
      rw [hj]
      simp [N5, nodes5, nodes5L]
    have h7 : (bnds b).flatMap (fun i => nodes5 ((frs nm cb).getD i.toNat default)) = (bnds b).map fun x => N5 nm x.toNat := by
      rw [← List.flatMap_singleton' ((bnds b).map _), List.flatMap_map]
      refine flatMap_congr' fun x hx => ?_
      obtain ⟨i, hi, rfl⟩ := hmem hb x hx
      rw [Int.toNat_natCast, frs_at nm hi]
      simp [N5, nodes5, nodes5L]
    rw [h6, h7] at h5
    have hl : ((bnds a).map f).length = (bnds b).length := by simpa using congrArg List.length h5
    refine List.ext_getElem hl fun p p1 p2 => ?_
    have hp := congrArg (fun l : List Ty => l[p]?) h5
    simp only [List.getElem?_map, List.getElem?_eq_getElem p1, List.getElem?_eq_getElem p2, Option.map_some, Option.some.injEq] at hp
    have p3 : p < (bnds a).length := by simpa using p1
    obtain ⟨i, hi, hx⟩ := hmem ha _ (List.getElem_mem p3)
    obtain ⟨i', hi', hx'⟩ := hmem hb _ (List.getElem_mem p2)
    obtain ⟨j, hj, hjc, -, -⟩ := hf i hi
    have e0 : ((bnds a).map f)[p] = (j : Int) := by rw [List.getElem_map, hx]; exact hj
    rw [e0, hx', Int.toNat_natCast, Int.toNat_natCast] at hp
    rw [e0, hx', hN j i' (by omega) (by omega) hp]
  have hinj : ∀ x y, x ∈ bnds a → y ∈ bnds a → f x = f y → x = y := fun x y hx hy e => by
    obtain ⟨i, hi, rfl⟩ := hmem ha x hx
    obtain ⟨i', hi', rfl⟩ := hmem ha y hy
    obtain ⟨j, hj, -, -, k1⟩ := hf i hi
    obtain ⟨j', hj', -, -, k2⟩ := hf i' hi'
    have : j = j' := by rw [hj, hj'] at e; omega
    subst this
    rw [k1] at k2
    rw [hN i i' (by omega) (by omega) k2]
  have hd := ded_map (f := f) (bnds a) [] fun x y hx hy => hinj x y (by simpa using hx) (by simpa using hy)
  rw [List.map_nil, hL, ha.can, hb.can, List.map_map] at hd
  have hc : ca = cb := by simpa using (congrArg List.length hd).symm
  subst hc
  refine ⟨rfl, ?_⟩
  have hid : ∀ i, i < ca → f i = i := fun i hi => by
    have := congrArg (fun l : List Int => l[i]?) hd
    simp only [List.getElem?_map, List.getElem?_range hi, Option.map_some, Option.some.injEq, Function.comp_apply] at this
    exact this.symm
  have hgs : gs = frs nm ca := by
    refine List.ext_getElem (by rw [hg, frs_len]) fun i h1 h2 => ?_
    have hi : i < ca := by omega
    obtain ⟨j, hj, -, k1, -⟩ := hf i hi
    rw [hid i hi] at hj
    have : j = i := by omega
    subst this
    rw [← frs_at nm hi, List.getD_eq_getElem?_getD, List.getElem?_eq_getElem h1] at k1
    rw [List.getD_eq_getElem?_getD, List.getElem?_eq_getElem h2] at k1
    exact k1
  rw [hgs] at e1
  exact frs_inj hnm ha.le a ha.no ha.bnd ha.pl b hb.no hb.bnd hb.pl e1
end Go.Proofs.Ytahiefgfhpkoeaa

namespace Go.Proofs.Ytahiefgfhpkoeaa
open Go.RowKit Mth

mutual
/-- The numbers of the type variables, from left to right. -/
def vids : Ty → List Int
  | .mk k _ i _ ts => if k == 1 then [i] else vidsL ts
def vidsL : List Ty → List Int
  | [] => []
  | t :: l => vids t ++ vidsL l
end
theorem vidsL_flat : ∀ l : List Ty, vidsL l = l.flatMap vids := by
  intro l
  induction l with
  | nil => rfl
  | cons t l ih => rw [vidsL, ih, List.flatMap_cons]
mutual
/-- Neither a TypeBound nor a written variable occurs. -/
def openT : Ty → Bool
  | .mk k _ _ _ ts => k != 2 && k != 5 && openTL ts
def openTL : List Ty → Bool
  | [] => true
  | t :: l => openT t && openTL l
end
theorem openTL_mem : ∀ {l : List Ty}, openTL l = true → ∀ {U : Ty}, U ∈ l → openT U = true := by
  intro l
  induction l with
  | nil => intro _ U hU; cases hU
  | cons t l ih =>
    intro h U hU
    simp only [openTL, Bool.and_eq_true] at h
    rcases List.mem_cons.1 hU with rfl | hU
    · exact h.1
    · exact ih h.2 hU
theorem allL_of {p : Ty → Bool} {q : List Ty → Bool} (h0 : q [] = true) (h1 : ∀ t l, q (t :: l) = (p t && q l)) : ∀ {l : List Ty}, (∀ U ∈ l, p U = true) → q l = true := by
  intro l
  induction l with
  | nil => intro _; exact h0
  | cons t l ih => intro h; rw [h1, h t (by simp), ih fun U hU => h U (by simp [hU])]; rfl
def bd (j : Int) : Ty := .mk 2 ⟨#[]⟩ j 0 []
/-- The variables of L become the TypeBound 0, 1, .. -/
def clF : List Int → Int → List (Int × Ty)
  | [], _ => []
  | v :: L, j => (v, bd j) :: clF L (j + 1)
/-- The place of a number in a list. -/
def plc : List Int → Int → Option Nat
  | [], _ => none
  | v :: L, i => if v == i then some 0 else (plc L i).map (· + 1)
theorem look_clF : ∀ (L : List Int) (j i : Int), look (clF L j) i = (plc L i).map fun (p : Nat) => bd (j + p) := by
  intro L
  induction L with
  | nil => intro j i; rfl
  | cons v L ih =>
    intro j i
    rw [clF, plc, look_cons]
    cases e : v == i with
    | true => simp
    | false =>
      simp only [Bool.false_eq_true, if_false]
      rw [ih, Option.map_map]
      congr 1
      funext p
      show bd (j + 1 + (p : Int)) = bd (j + ((p + 1 : Nat) : Int))
      rw [show j + 1 + (p : Int) = j + ((p + 1 : Nat) : Int) by omega]
theorem plc_lt : ∀ {L : List Int} {i : Int} {p : Nat}, plc L i = some p → p < L.length ∧ L[p]? = some i := by
  intro L
  induction L with
  | nil => intro i p h; cases h
  | cons v L ih =>
    intro i p h
    rw [plc] at h
    cases e : v == i with
    | true =>
      rw [e, if_pos rfl] at h
      cases h
      exact ⟨by simp, by simpa using e⟩
    | false =>
      rw [e] at h
      simp only [Bool.false_eq_true, if_false, Option.map_eq_some_iff] at h
      obtain ⟨q, h, rfl⟩ := h
      obtain ⟨h1, h2⟩ := ih h
      exact ⟨by simp; exact h1, by simpa using h2⟩
theorem plc_none : ∀ {L : List Int} {i : Int}, i ∉ L → plc L i = none := by
  intro L
  induction L with
  | nil => intro i _; rfl
  | cons v L ih =>
    intro i h
    rw [plc, if_neg (by simpa using fun e : v = i => h (by simp [e])), ih fun e => h (by simp [e])]
    rfl
theorem plc_some : ∀ {L : List Int} {i : Int}, i ∈ L → ∃ p, plc L i = some p := by
  intro L
  induction L with
  | nil => intro i h; cases h
  | cons v L ih =>
    intro i h
    rw [plc]
    by_cases e : v = i
    · exact ⟨0, by rw [if_pos (by simpa using e)]⟩
    · obtain ⟨p, hp⟩ := ih (by
        rcases List.mem_cons.1 h with h | h
        · exact absurd h.symm e
        · exact h)
      exact ⟨p + 1, by rw [if_neg (by simpa using e), hp]; rfl⟩
/-- What is quantified: the variables of a list, in the order in which they occur first. -/
def clV (ids : List Int) (t : Ty) : List Int := (ded [] (vids t)).filter fun v => ids.contains v
def clT (ids : List Int) (t : Ty) : Ty := repl (clF (clV ids t) 0) t
theorem plain_leaf {n : ByteArray} {i h : Int} {ts : List Ty} (hp : plainV (.mk 1 n i h ts) = true) : n.toList = [] ∧ h = 0 ∧ ts = [] := by
  simp only [plainV, beq_self_eq_true, if_true, Bool.and_eq_true, beq_iff_eq] at hp
  exact ⟨hp.1.1, hp.1.2, List.eq_nil_of_length_eq_zero hp.2⟩
theorem plain_kids {k : Int} (hk : k ≠ 1) {n : ByteArray} {i h : Int} {ts : List Ty} (hp : plainV (.mk k n i h ts) = true) : plainVL ts = true := by
  rwa [plainV, if_neg (by simpa using hk)] at hp
/-- What holds of each node of a closed type. -/
theorem clT_all {p : Ty → Bool} {q : List Ty → Bool} (L : List Int) (h0 : q [] = true) (h1 : ∀ t l, q (t :: l) = (p t && q l)) (hb : ∀ j : Nat, j < L.length → p (bd j) = true)
    (hn : ∀ (k : Int) (n : ByteArray) (i h : Int) (ts : List Ty), k ≠ 2 → k ≠ 5 → p (.mk k n i h ts) = q ts) : ∀ t : Ty, openT t = true → plainV t = true → p (repl (clF L 0) t) = true := Ty.induct fun t ih ht hp => by
  obtain ⟨k, n, i, h, ts⟩ := t
  simp only [openT, Bool.and_eq_true, bne_iff_ne] at ht
  by_cases hk : k = 1
  · subst hk
    rw [repl_one, look_clF]
    cases e : plc L i with
    | some j =>
      simp only [Option.map_some, Option.getD_some, Int.zero_add]
      exact hb j (plc_lt e).1
    | none =>
      obtain ⟨-, -, rfl⟩ := plain_leaf hp
      simp only [Option.map_none, Option.getD_none]
      rw [hn _ _ _ _ _ (by decide) (by decide)]
      exact h0
  · rw [repl_not _ hk, hn _ _ _ _ _ ht.1.1 ht.1.2]
    exact allL_of h0 h1 fun U hU => by
      obtain ⟨V, hV, rfl⟩ := List.mem_map.1 hU
      exact ih V hV (openTL_mem ht.2 hV) (plainVL_mem (plain_kids hk hp) hV)
theorem clT_bnds (L : List Int) : ∀ t : Ty, openT t = true → plainV t = true → bnds (repl (clF L 0) t) = (vids t).filterMap fun i => (plc L i).map Int.ofNat := Ty.induct fun t ih ht hp => by
  obtain ⟨k, n, i, h, ts⟩ := t
  simp only [openT, Bool.and_eq_true, bne_iff_ne] at ht
  by_cases hk : k = 1
  · subst hk
    rw [repl_one, look_clF, vids, if_pos (by rfl)]
    cases e : plc L i with
    | some j =>
      simp only [Option.map_some, Option.getD_some, Int.zero_add, List.filterMap_cons, e, List.filterMap_nil]
      rfl
    | none =>
      obtain ⟨-, -, rfl⟩ := plain_leaf hp
      simp only [Option.map_none, Option.getD_none, List.filterMap_cons, e, List.filterMap_nil]
      rfl
  · rw [repl_not _ hk, bnds, if_neg (by simpa using ht.1.1), bndsL_flat, vids, if_neg (by simpa using hk), vidsL_flat, List.flatMap_map, List.filterMap_flatMap]
    exact flatMap_congr' fun U hU => ih U hU (openTL_mem ht.2 hU) (plainVL_mem (plain_kids hk hp) hU)
theorem ded_filterMap {f : Int → Option Int} (hf : ∀ x y z, f x = some z → f y = some z → x = y) : ∀ (l acc : List Int), ded (acc.filterMap f) (l.filterMap f) = (ded acc l).filterMap f := by
  intro l
  induction l with
  | nil => intro acc; simp [ded]
  | cons y l ih =>
    intro acc
    cases e : f y with
    | none =>
      rw [List.filterMap_cons, e]
      show ded (acc.filterMap f) (l.filterMap f) = _
      rw [show ded acc (y :: l) = if acc.contains y = true then ded acc l else ded (acc ++ [y]) l from rfl]
      split
      · exact ih acc
      · have := ih (acc ++ [y])
        rw [List.filterMap_append, List.filterMap_cons, e, List.filterMap_nil, List.append_nil] at this
        exact this
    | some z =>
      rw [List.filterMap_cons, e]
      show ded (acc.filterMap f) (z :: l.filterMap f) = _
      rw [ded, ded]
      have hc : (acc.filterMap f).contains z = acc.contains y := by
        cases h : acc.contains y with
        | true =>
          have : y ∈ acc := by simpa using h
          simpa using ⟨y, this, e⟩
        | false =>
          have hy : y ∉ acc := by simpa using h
          have : z ∉ acc.filterMap f := fun hz => by
            obtain ⟨x, hx, e1⟩ := List.mem_filterMap.1 hz
            exact hy (hf x y z e1 e ▸ hx)
          simpa using this
      rw [hc]
      split
      · exact ih acc
      · have := ih (acc ++ [y])
        rw [List.filterMap_append, List.filterMap_cons, e, List.filterMap_nil] at this
        exact this
theorem ded_nodup : ∀ (l acc : List Int), acc.Nodup → (ded acc l).Nodup := by
  intro l
  induction l with
  | nil => intro acc h; exact h
  | cons y l ih =>
    intro acc h
    rw [ded]
    split
    · exact ih acc h
    · next hy =>
      have hy : y ∉ acc := by simpa using hy
      exact ih _ (List.nodup_append.2 ⟨h, by simp, fun a ha b hb e => by simp at hb; subst hb; subst e; exact hy ha⟩)
theorem plc_at : ∀ {L : List Int}, L.Nodup → ∀ {p : Nat} (h : p < L.length), plc L L[p] = some p := by
  intro L
  induction L with
  | nil => intro _ p h; cases h
  | cons v L ih =>
    intro hn p h
    obtain ⟨h1, h2⟩ := List.nodup_cons.1 hn
    cases p with
    | zero => rw [plc]; simp
    | succ p =>
      have hp : p < L.length := by simpa using h
      have hne : v ≠ L[p] := fun e => h1 (e ▸ List.getElem_mem hp)
      rw [List.getElem_cons_succ, plc, if_neg (by simpa using hne), ih h2 hp]
      rfl
theorem filterMap_congr' {α β : Type} {f g : α → Option β} : ∀ {l : List α}, (∀ x ∈ l, f x = g x) → l.filterMap f = l.filterMap g := by
  intro l
  induction l with
  | nil => intro _; rfl
  | cons a l ih => intro h; rw [List.filterMap_cons, List.filterMap_cons, h a (by simp), ih fun x hx => h x (by simp [hx])]
theorem plc_range {L : List Int} (h : L.Nodup) : (L.filterMap fun i => (plc L i).map Int.ofNat) = (List.range L.length).map Int.ofNat := by
  have : (L.filterMap fun i => (plc L i).map Int.ofNat) = L.map fun i => ((plc L i).map Int.ofNat).getD 0 := by
    rw [← List.filterMap_eq_map]
    refine filterMap_congr' fun i hi => ?_
    obtain ⟨p, hp⟩ := plc_some hi
    simp [hp]
  rw [this]
  refine List.ext_getElem (by simp) fun p h1 h2 => ?_
  have hp : p < L.length := by simpa using h1
  simp [plc_at h hp]
theorem clV_nodup (ids : List Int) (t : Ty) : (clV ids t).Nodup := (ded_nodup _ _ List.nodup_nil).filter _
theorem filterMap_filter {α β : Type} {f : α → Option β} {q : α → Bool} : ∀ {l : List α}, (∀ x ∈ l, q x = false → f x = none) → (l.filter q).filterMap f = l.filterMap f := by
  intro l
  induction l with
  | nil => intro _; rfl
  | cons a l ih =>
    intro h
    have := ih fun x hx => h x (by simp [hx])
    rw [List.filter_cons, List.filterMap_cons]
    cases e : q a with
    | true => rw [if_pos rfl, List.filterMap_cons, this]
    | false => rw [if_neg (by simp), this, h a (by simp) e]
/-- Closing makes what the order's facts ask. -/
theorem clT_ok {M : Nat} (ids : List Int) (t : Ty) (ht : openT t = true) (hp : plainV t = true) (hM : (clV ids t).length ≤ M) : SchOk M (clV ids t).length (clT ids t) := by
  refine ⟨?_, ?_, ?_, hM, ?_⟩
  · exact clT_all (q := noNmL) _ rfl (fun _ _ => rfl) (fun j _ => rfl) (fun k n i h ts _ h5 => by rw [noNm]; simp [h5]) t ht hp
  · exact clT_all (q := bndInL (clV ids t).length) _ rfl (fun _ _ => rfl) (fun j hj => by simp [bd, bndIn, bndInL]; omega) (fun k n i h ts h2 _ => by rw [bndIn]; simp [h2]) t ht hp
  · exact clT_all (q := plBL) _ rfl (fun _ _ => rfl) (fun j _ => by simp [bd, plB, plBL]) (fun k n i h ts h2 _ => by rw [plB]; simp [h2]) t ht hp
  · unfold clT
    rw [clT_bnds _ t ht hp]
    have h1 := ded_filterMap (f := fun i => (plc (clV ids t) i).map Int.ofNat) (fun x y z hx hy => by
      simp only [Option.map_eq_some_iff] at hx hy
      obtain ⟨p, hp, rfl⟩ := hx
      obtain ⟨p', hp', e⟩ := hy
      have e : p' = p := Int.ofNat.inj e
      subst e
      have := (plc_lt hp).2
      rw [(plc_lt hp').2] at this
      exact (Option.some.inj this).symm) (vids t) []
    rw [List.filterMap_nil] at h1
    rw [h1, ← filterMap_filter (q := fun v => ids.contains v) (fun x hx hq => by
      have : x ∉ clV ids t := fun h => by
        have := (List.mem_filter.1 h).2
        rw [hq] at this
        cases this
      rw [plc_none this]
      rfl)]
    exact plc_range (clV_nodup ids t)
end Go.Proofs.Ytahiefgfhpkoeaa

namespace Go.Proofs.Ytahiefgfhpkoeaa
open Go.RowKit Mth

theorem MoreS.refl (s : List (Int × Ty)) : MoreS s s := fun _ _ h => h
theorem MoreS.trans {a b c : List (Int × Ty)} (h : MoreS a b) (k : MoreS b c) : MoreS a c := fun i t e => k i t (h i t e)
/-- Soundness of matching: what is found makes the pattern the type. -/
def MSndAt (P : Ty) : Prop := plainV P = true → ∀ (t : Ty) (s s1 : List (Int × Ty)), mtch P t s = some s1 → MoreS s s1 ∧ ∀ s2, MoreS s1 s2 → repl s2 P = t
theorem msndL : ∀ ps : List Ty, (∀ U ∈ ps, MSndAt U) → plainVL ps = true → ∀ (ts : List Ty) (s s1 : List (Int × Ty)), ps.length = ts.length → mtchL ps ts s = some s1 →
    MoreS s s1 ∧ ∀ s2, MoreS s1 s2 → ps.map (repl s2) = ts := by
  intro ps
  induction ps with
  | nil =>
    intro _ _ ts s s1 hl h
    rw [mtchL] at h
    cases h
    exact ⟨MoreS.refl s, fun s2 _ => (List.eq_nil_of_length_eq_zero hl.symm).symm⟩
  | cons p ps ih =>
    intro hm hp ts s s1 hl h
    cases ts with
    | nil => cases hl
    | cons t ts =>
      simp only [plainVL, Bool.and_eq_true] at hp
      rw [mtchL] at h
      cases e : mtch p t s with
      | none => rw [e] at h; cases h
      | some s2 =>
        rw [e] at h
        obtain ⟨m1, k1⟩ := hm p (by simp) hp.1 t s s2 e
        obtain ⟨m2, k2⟩ := ih (fun U hU => hm U (by simp [hU])) hp.2 ts s2 s1 (by simpa using hl) h
        exact ⟨m1.trans m2, fun s3 m3 => by rw [List.map_cons, k2 s3 m3, k1 s3 (m2.trans m3)]⟩
theorem msnd_all : ∀ P : Ty, MSndAt P := Ty.induct fun P ih hp t s s1 hm => by
  obtain ⟨k, n, i, h, ps⟩ := P
  by_cases hk : k = 1
  · subst hk
    rw [mtch, if_pos (by rfl)] at hm
    cases ha : asgd s i with
    | true =>
      rw [ha, if_pos rfl] at hm
      by_cases c : teq (repl s (.mk 1 n i h ps)) t = true
      · rw [if_pos c] at hm
        cases hm
        have e := teq_eq _ _ c
        refine ⟨MoreS.refl _, fun s2 m => ?_⟩
        obtain ⟨u, hu⟩ := look_some ha
        rw [repl_one, hu] at e
        rw [repl_one, m i u hu]
        exact e
      · rw [if_neg c] at hm; cases hm
    | false =>
      rw [ha] at hm
      simp only [Bool.false_eq_true, if_false, Option.some.injEq] at hm
      subst hm
      refine ⟨fun j u hj => by rw [look_append, hj], fun s2 m => ?_⟩
      have := m i t (by rw [look_append, look_none ha]; simp [look])
      rw [repl_one, this]
      rfl
  · have hk' : (k == 1) = false := by simpa using hk
    rw [plainV, hk'] at hp
    rw [mtch, hk'] at hm
    simp only [Bool.false_eq_true, if_false] at hm
    split at hm
    · next c =>
      simp only [Bool.and_eq_true, beq_iff_eq] at c
      obtain ⟨⟨⟨⟨c1, c2⟩, c3⟩, c4⟩, c5⟩ := c
      obtain ⟨m1, k1⟩ := msndL ps (fun U hU => ih U hU) hp t.ts s s1 c5 hm
      refine ⟨m1, fun s2 m2 => ?_⟩
      rw [repl_not _ hk, k1 s2 m2]
      obtain ⟨k', n', i', h', ts'⟩ := t
      simp only [Ty.k, Ty.n, Ty.i, Ty.h, Ty.ts] at c1 c2 c3 c4 ⊢
      have hn : n = n' := by
        obtain ⟨d⟩ := n
        obtain ⟨d'⟩ := n'
        rw [Lib.toList_data, Lib.toList_data] at c2
        have : d = d' := Array.toList_inj.1 c2
        rw [this]
      rw [c1, hn, c3, c4]
    · cases hm
/-- Is a below b? -/
def leqT (a b : Ty) : Bool := (mtch b a []).isSome
theorem leq_iff {a b : Ty} (hb : plainV b = true) : leqT a b = true ↔ ∃ σ, repl σ b = a := by
  unfold leqT
  constructor
  · intro h
    obtain ⟨s, hs⟩ := Option.isSome_iff_exists.1 h
    obtain ⟨-, k⟩ := msnd_all b hb a [] s hs
    exact ⟨s, k s (MoreS.refl s)⟩
  · rintro ⟨σ, rfl⟩
    obtain ⟨s, hs, -⟩ := mat_all σ b hb [] (agree_nil σ)
    rw [hs]
    rfl
theorem leq_refl {a : Ty} (ha : plainV a = true) : leqT a a = true := (leq_iff ha).2 ⟨[], repl_nil a⟩
theorem leq_trans {a b c : Ty} (hb : plainV b = true) (hc : plainV c = true) (h1 : leqT a b = true) (h2 : leqT b c = true) : leqT a c = true := by
  obtain ⟨σ, e1⟩ := (leq_iff hb).1 h1
  obtain ⟨τ, e2⟩ := (leq_iff hc).1 h2
  exact (leq_iff hc).2 ⟨cmpS τ σ, by rw [repl_cmp, e2, e1]⟩
/-! The most special common generalization. -/
mutual
/-- The type, and the pairs of parts that became variables, in order. -/
def comT : Ty → Ty → List (Ty × Ty) → Ty × List (Ty × Ty)
  | .mk k n i h xs, b, P =>
    if k == b.k && n.toList == b.n.toList && i == b.i && h == b.h && xs.length == b.ts.length && k != 1 then
      let r := comL xs b.ts P
      (.mk k n i h r.1, r.2)
    else
      match P.findIdx? fun p => teq p.1 (.mk k n i h xs) && teq p.2 b with
      | some j => (cv j, P)
      | none => (cv P.length, P ++ [(.mk k n i h xs, b)])
def comL : List Ty → List Ty → List (Ty × Ty) → List Ty × List (Ty × Ty)
  | [], _, P => ([], P)
  | _ :: _, [], P => ([], P)
  | a :: xs, b :: bs, P =>
    let r := comT a b P
    let q := comL xs bs r.2
    (r.1 :: q.1, q.2)
end
/-- The substitutions that make the two types. -/
def subA (j : Int) : List (Ty × Ty) → List (Int × Ty)
  | [] => []
  | p :: P => (j, p.1) :: subA (j + 1) P
def subB (j : Int) : List (Ty × Ty) → List (Int × Ty)
  | [] => []
  | p :: P => (j, p.2) :: subB (j + 1) P
theorem look_subA : ∀ (P : List (Ty × Ty)) (j : Int) (i : Nat) (p : Ty × Ty), P[i]? = some p → look (subA j P) (j + i) = some p.1 := by
  intro P
  induction P with
  | nil => intro j i p h; simp at h
  | cons q P ih =>
    intro j i p h
    rw [subA, look_cons]
    cases i with
    | zero => simp at h; subst h; simp
    | succ i =>
      have : (j == j + ((i + 1 : Nat) : Int)) = false := by rw [beq_eq_false_iff_ne]; omega
      simp only [this, Bool.false_eq_true, if_false]
      rw [show j + ((i + 1 : Nat) : Int) = j + 1 + (i : Int) by omega]
      exact ih (j + 1) i p (by simpa using h)
theorem look_subB : ∀ (P : List (Ty × Ty)) (j : Int) (i : Nat) (p : Ty × Ty), P[i]? = some p → look (subB j P) (j + i) = some p.2 := by
  intro P
  induction P with
  | nil => intro j i p h; simp at h
  | cons q P ih =>
    intro j i p h
    rw [subB, look_cons]
    cases i with
    | zero => simp at h; subst h; simp
    | succ i =>
      have : (j == j + ((i + 1 : Nat) : Int)) = false := by rw [beq_eq_false_iff_ne]; omega
      simp only [this, Bool.false_eq_true, if_false]
      rw [show j + ((i + 1 : Nat) : Int) = j + 1 + (i : Int) by omega]
      exact ih (j + 1) i p (by simpa using h)
theorem repl_cv {σ : List (Int × Ty)} {i : Int} {t : Ty} (h : look σ i = some t) : repl σ (cv i) = t := by unfold cv; rw [repl_one, h]; rfl
/-- P is a beginning of Q. -/
def Pre (P Q : List (Ty × Ty)) : Prop := ∀ (i : Nat) (p : Ty × Ty), P[i]? = some p → Q[i]? = some p
theorem Pre.refl (P : List (Ty × Ty)) : Pre P P := fun _ _ h => h
theorem Pre.trans {P Q R : List (Ty × Ty)} (h : Pre P Q) (k : Pre Q R) : Pre P R := fun i p e => k i p (h i p e)
/-- Both types are instances of it by the substitutions. -/
def ComAt (a : Ty) : Prop := ∀ (b : Ty) (P : List (Ty × Ty)), Pre P (comT a b P).2 ∧ ∀ Q, Pre (comT a b P).2 Q → repl (subA 0 Q) (comT a b P).1 = a ∧ repl (subB 0 Q) (comT a b P).1 = b
theorem comL_ok : ∀ xs : List Ty, (∀ U ∈ xs, ComAt U) → ∀ (bs : List Ty) (P : List (Ty × Ty)), xs.length = bs.length →
    Pre P (comL xs bs P).2 ∧ ∀ Q, Pre (comL xs bs P).2 Q → (comL xs bs P).1.map (repl (subA 0 Q)) = xs ∧ (comL xs bs P).1.map (repl (subB 0 Q)) = bs := by
  intro xs
  induction xs with
  | nil =>
    intro _ bs P hl
    have := List.eq_nil_of_length_eq_zero hl.symm
    subst this
    exact ⟨Pre.refl P, fun _ _ => ⟨rfl, rfl⟩⟩
  | cons a xs ih =>
    intro hm bs P hl
    cases bs with
    | nil => cases hl
    | cons b bs =>
      obtain ⟨h1, h2⟩ := hm a (by simp) b P
      obtain ⟨h3, h4⟩ := ih (fun U hU => hm U (by simp [hU])) bs (comT a b P).2 (by simpa using hl)
      rw [comL]
      refine ⟨h1.trans h3, fun Q hQ => ?_⟩
      obtain ⟨e1, e2⟩ := h2 Q (h3.trans hQ)
      obtain ⟨e3, e4⟩ := h4 Q hQ
      simp only [List.map_cons, e1, e2, e3, e4, and_self]
theorem com_all : ∀ a : Ty, ComAt a := Ty.induct fun a ih b P => by
  obtain ⟨k, n, i, h, xs⟩ := a
  rw [comT]
  split
  · next c =>
    simp only [Bool.and_eq_true, beq_iff_eq, bne_iff_ne] at c
    obtain ⟨⟨⟨⟨⟨c1, c2⟩, c3⟩, c4⟩, c5⟩, c6⟩ := c
    obtain ⟨h1, h2⟩ := comL_ok xs (fun U hU => ih U hU) b.ts P c5
    refine ⟨h1, fun Q hQ => ?_⟩
    obtain ⟨e1, e2⟩ := h2 Q hQ
    obtain ⟨k', n', i', h', bs⟩ := b
    simp only [Ty.k, Ty.n, Ty.i, Ty.h, Ty.ts] at c1 c2 c3 c4 e1 e2 ⊢
    have hn : n = n' := by
      obtain ⟨d⟩ := n
      obtain ⟨d'⟩ := n'
      rw [Lib.toList_data, Lib.toList_data] at c2
      have : d = d' := Array.toList_inj.1 c2
      rw [this]
    subst c1 hn c3 c4
    rw [repl_not _ c6, repl_not _ c6, e1, e2]
    exact ⟨rfl, rfl⟩
  · have hv : ∀ (j : Nat) (p : Ty × Ty) (Q : List (Ty × Ty)), Q[j]? = some p → repl (subA 0 Q) (cv j) = p.1 ∧ repl (subB 0 Q) (cv j) = p.2 := fun j p Q hQ => by
      have h1 := look_subA Q 0 j p hQ
      have h2 := look_subB Q 0 j p hQ
      rw [Int.zero_add] at h1 h2
      exact ⟨repl_cv h1, repl_cv h2⟩
    split
    · next j hj =>
      obtain ⟨hl, hp, -⟩ := List.findIdx?_eq_some_iff_getElem.1 hj
      simp only [Bool.and_eq_true] at hp
      refine ⟨Pre.refl P, fun Q hQ => ?_⟩
      have := hv j P[j] Q (hQ j P[j] (List.getElem?_eq_getElem hl))
      rw [teq_eq _ _ hp.1, teq_eq _ _ hp.2] at this
      exact this
    · refine ⟨fun i p hi => ?_, fun Q hQ => ?_⟩
      · rw [List.getElem?_append_left (List.getElem?_eq_some_iff.1 hi).1]
        exact hi
      · exact hv P.length (.mk k n i h xs, b) Q (hQ P.length (.mk k n i h xs, b) (by simp))
/-- What has been seen stays as it was seen. -/
def StbAt (a : Ty) : Prop := ∀ (b : Ty) (P Q : List (Ty × Ty)), Pre (comT a b P).2 Q → comT a b Q = ((comT a b P).1, Q)
theorem stbL : ∀ xs : List Ty, (∀ U ∈ xs, StbAt U) → ∀ (bs : List Ty) (P Q : List (Ty × Ty)), xs.length = bs.length → Pre (comL xs bs P).2 Q → comL xs bs Q = ((comL xs bs P).1, Q) := by
  intro xs
  induction xs with
  | nil => intro _ bs P Q _ _; rfl
  | cons a xs ih =>
    intro hm bs P Q hl hQ
    cases bs with
    | nil => cases hl
    | cons b bs =>
      have hl' : xs.length = bs.length := by simpa using hl
      rw [comL] at hQ
      have h3 := (comL_ok xs (fun U _ => com_all U) bs (comT a b P).2 hl').1
      have e1 := hm a (by simp) b P Q (h3.trans hQ)
      have e2 := ih (fun U hU => hm U (by simp [hU])) bs (comT a b P).2 Q hl' hQ
      rw [comL, comL, e1]
      simp only [e2]
theorem stb_all : ∀ a : Ty, StbAt a := Ty.induct fun a ih b P Q hQ => by
  obtain ⟨k, n, i, h, xs⟩ := a
  rw [comT] at hQ ⊢
  rw [comT]
  split
  · next c =>
    rw [if_pos c] at hQ
    simp only [Bool.and_eq_true, beq_iff_eq] at c
    have := stbL xs (fun U hU => ih U hU) b.ts P Q c.1.2 hQ
    simp only [this]
  · next c =>
    rw [if_neg c] at hQ
    have key : ∀ j : Nat, (hj : j < Q.length) → (teq Q[j].1 (.mk k n i h xs) && teq Q[j].2 b) = true → (∀ l, (hl : l < j) → ¬ (teq (Q[l]'(Nat.lt_trans hl hj)).1 (.mk k n i h xs) && teq (Q[l]'(Nat.lt_trans hl hj)).2 b) = true) → (Q.findIdx? fun p => teq p.1 (.mk k n i h xs) && teq p.2 b) = some j := fun j hj h1 h2 => List.findIdx?_eq_some_iff_getElem.2 ⟨hj, h1, fun l hl => h2 l hl⟩
    cases e : P.findIdx? fun p => teq p.1 (.mk k n i h xs) && teq p.2 b with
    | some j =>
      rw [e] at hQ
      obtain ⟨hl, hp, hmin⟩ := List.findIdx?_eq_some_iff_getElem.1 e
      have at_ : ∀ l (hlt : l < P.length), ∃ hq : l < Q.length, Q[l] = P[l] := fun l hlt => by
        have := hQ l P[l] (List.getElem?_eq_getElem hlt)
        exact List.getElem?_eq_some_iff.1 this
      obtain ⟨hq, eq⟩ := at_ j hl
      rw [key j hq (by rw [eq]; exact hp) (fun l hlj => by
        obtain ⟨hq2, eq2⟩ := at_ l (Nat.lt_trans hlj hl)
        rw [eq2]
        exact hmin l hlj)]
    | none =>
      rw [e] at hQ
      have hno := List.findIdx?_eq_none_iff.1 e
      have hlast := hQ P.length (.mk k n i h xs, b) (by simp)
      obtain ⟨hq, eq⟩ := List.getElem?_eq_some_iff.1 hlast
      rw [key P.length hq (by rw [eq]; simp [teq_id]) (fun l hl => by
        have := hQ l P[l] (by rw [List.getElem?_append_left hl]; exact List.getElem?_eq_getElem hl)
        obtain ⟨hq2, eq2⟩ := List.getElem?_eq_some_iff.1 this
        rw [eq2, hno P[l] (List.getElem_mem hl)]
        simp)]
/-- Every type above both is above it. -/
def LstAt (σ τ : List (Int × Ty)) (x : Ty) : Prop := plainV x = true → ∀ P Q : List (Ty × Ty), Pre (comT (repl σ x) (repl τ x) P).2 Q →
    ∀ ρ : List (Int × Ty), (∀ v, asgd ρ v = true → look ρ v = some (comT (repl σ (cv v)) (repl τ (cv v)) Q).1) → (∀ v ∈ vids x, asgd ρ v = true) → (comT (repl σ x) (repl τ x) P).1 = repl ρ x
theorem lstL (σ τ : List (Int × Ty)) : ∀ xs : List Ty, (∀ U ∈ xs, LstAt σ τ U) → plainVL xs = true → ∀ P Q : List (Ty × Ty), Pre (comL (xs.map (repl σ)) (xs.map (repl τ)) P).2 Q →
    ∀ ρ : List (Int × Ty), (∀ v, asgd ρ v = true → look ρ v = some (comT (repl σ (cv v)) (repl τ (cv v)) Q).1) → (∀ v ∈ xs.flatMap vids, asgd ρ v = true) → (comL (xs.map (repl σ)) (xs.map (repl τ)) P).1 = xs.map (repl ρ) := by
  intro xs
  induction xs with
  | nil => intro _ _ P Q _ ρ _ _; rfl
  | cons a xs ih =>
    intro hm hp P Q hQ ρ h1 h2
    simp only [plainVL, Bool.and_eq_true] at hp
    rw [List.map_cons, List.map_cons, comL] at hQ ⊢
    have h3 := (comL_ok (xs.map (repl σ)) (fun U _ => com_all U) (xs.map (repl τ)) (comT (repl σ a) (repl τ a) P).2 (by simp)).1
    have e1 := hm a (by simp) hp.1 P Q (h3.trans hQ) ρ h1 (fun v hv => h2 v (by simp [hv]))
    have e2 := ih (fun U hU => hm U (by simp [hU])) hp.2 (comT (repl σ a) (repl τ a) P).2 Q hQ ρ h1 (fun v hv => h2 v (by
      rw [List.flatMap_cons, List.mem_append]
      exact .inr hv))
    rw [List.map_cons]
    simp only [e1, e2]
theorem lst_all (σ τ : List (Int × Ty)) : ∀ x : Ty, LstAt σ τ x := Ty.induct fun x ih hp P Q hQ ρ h1 h2 => by
  obtain ⟨k, n, i, h, ts⟩ := x
  by_cases hk : k = 1
  · subst hk
    obtain ⟨hn, rfl, rfl⟩ := plain_leaf hp
    have hn : n = ⟨#[]⟩ := by
      obtain ⟨d⟩ := n
      have hd : d.toList = [] := by rw [← Lib.toList_data]; exact hn
      have : d = #[] := by simpa using hd
      rw [this]
    subst hn
    have ha := h2 i (by rw [vids]; simp)
    change (comT (repl σ (cv i)) (repl τ (cv i)) P).1 = repl ρ (cv i)
    change Pre (comT (repl σ (cv i)) (repl τ (cv i)) P).2 Q at hQ
    rw [repl_cv (h1 i ha), stb_all _ _ P Q hQ]
  · rw [repl_not _ hk, repl_not _ hk] at hQ ⊢
    have c : (k == (Ty.mk k n i h (ts.map (repl τ))).k && n.toList == (Ty.mk k n i h (ts.map (repl τ))).n.toList && i == (Ty.mk k n i h (ts.map (repl τ))).i && h == (Ty.mk k n i h (ts.map (repl τ))).h && (ts.map (repl σ)).length == (Ty.mk k n i h (ts.map (repl τ))).ts.length && k != 1) = true := by
      simp [Ty.k, Ty.n, Ty.i, Ty.h, Ty.ts, hk]
    rw [comT, if_pos c] at hQ ⊢
    have hv : vids (.mk k n i h ts) = ts.flatMap vids := by rw [vids, if_neg (by simpa using hk), vidsL_flat]
    rw [hv] at h2
    have := lstL σ τ ts (fun U hU => ih U hU) (plain_kids hk hp) P Q hQ ρ h1 h2
    rw [repl_not _ hk]
    simp only [Ty.ts] at this ⊢
    rw [this]
theorem asgd_vids (l : List Int) (f : Int → Ty) (v : Int) : asgd (l.map fun i => (i, f i)) v = l.contains v ∧ (asgd (l.map fun i => (i, f i)) v = true → look (l.map fun i => (i, f i)) v = some (f v)) := by
  induction l with
  | nil => exact ⟨rfl, fun h => by cases h⟩
  | cons a l ih =>
    rw [List.map_cons, asgd_cons, look_cons]
    by_cases e : a = v
    · subst e
      simp
    · have e' : (a == v) = false := by simpa using e
      have e2 : (v == a) = false := by simpa using fun h : v = a => e h.symm
      rw [e', List.contains_cons, e2]
      simp only [Bool.false_or, Bool.false_eq_true, if_false]
      exact ih
theorem com_least {a b x : Ty} (hx : plainV x = true) (h1 : ∃ σ, repl σ x = a) (h2 : ∃ τ, repl τ x = b) : ∃ ρ, repl ρ x = (comT a b []).1 := by
  obtain ⟨σ, rfl⟩ := h1
  obtain ⟨τ, rfl⟩ := h2
  refine ⟨(vids x).map fun v => (v, (comT (repl σ (cv v)) (repl τ (cv v)) (comT (repl σ x) (repl τ x) []).2).1), ?_⟩
  refine (lst_all σ τ x hx [] _ (Pre.refl _) _ (fun v hv => ?_) (fun v hv => ?_)).symm
  · exact (asgd_vids (vids x) (fun v => (comT (repl σ (cv v)) (repl τ (cv v)) (comT (repl σ x) (repl τ x) []).2).1) v).2 hv
  · rw [(asgd_vids (vids x) (fun v => (comT (repl σ (cv v)) (repl τ (cv v)) (comT (repl σ x) (repl τ x) []).2).1) v).1]
    simpa using hv
end Go.Proofs.Ytahiefgfhpkoeaa

namespace Go.Proofs.Ytahiefgfhpkoeaa
open Go.RowKit Mth

/-- What θ does is not changed by s ahead of it. -/
def Absb (s θ : List (Int × Ty)) : Prop := ∀ T : Ty, repl θ (repl s T) = repl θ T
theorem absb_nil (θ : List (Int × Ty)) : Absb [] θ := fun T => by rw [repl_nil]
/-- Does a variable occur? -/
def occT (i : Int) (T : Ty) : Bool := (vids T).contains i
theorem repl_ext {σ τ : List (Int × Ty)} : ∀ T : Ty, plainV T = true → (∀ v ∈ vids T, repl σ (cv v) = repl τ (cv v)) → repl σ T = repl τ T := Ty.induct fun T ih hp h => by
  obtain ⟨k, n, i, hh, ts⟩ := T
  by_cases hk : k = 1
  · subst hk
    obtain ⟨hn, rfl, rfl⟩ := plain_leaf hp
    have hn : n = ⟨#[]⟩ := by
      obtain ⟨d⟩ := n
      have hd : d.toList = [] := by rw [← Lib.toList_data]; exact hn
      have : d = #[] := by simpa using hd
      rw [this]
    subst hn
    exact h i (by rw [vids]; simp)
  · rw [repl_not _ hk, repl_not _ hk]
    congr 1
    rw [vids, if_neg (by simpa using hk), vidsL_flat] at h
    exact List.map_congr_left fun U hU => ih U hU (plainVL_mem (plain_kids hk hp) hU) fun v hv => h v (List.mem_flatMap.2 ⟨U, hU, hv⟩)
theorem repl_id : ∀ {σ : List (Int × Ty)} (T : Ty), plainV T = true → (∀ v ∈ vids T, asgd σ v = false) → repl σ T = T := fun {σ} T hp h => by
  have := repl_ext (σ := σ) (τ := []) T hp fun v hv => by
    unfold cv
    rw [repl_one, repl_one, look_none (h v hv)]
    rfl
  rw [this, repl_nil]
theorem look_single (i : Int) (t : Ty) : look [(i, t)] i = some t := by simp [look]
theorem asgd_single {i v : Int} (t : Ty) (h : v ≠ i) : asgd [(i, t)] v = false := by
  rw [asgd_cons]
  simpa [asgd] using fun e : i = v => h e.symm
/-- A variable and a type that θ makes equal: replacing the one by the other changes nothing under θ. -/
theorem absb_one {θ : List (Int × Ty)} {i : Int} {t : Ty} (h : repl θ (cv i) = repl θ t) : ∀ T : Ty, plainV T = true → repl θ (repl [(i, t)] T) = repl θ T := fun T hp => by
  rw [← repl_cmp]
  refine repl_ext T hp fun v hv => ?_
  rw [repl_cmp]
  by_cases e : v = i
  · subst e
    rw [repl_cv (look_single v t), h]
  · congr 1
    unfold cv
    rw [repl_one, look_none (asgd_single t e)]
    rfl
theorem plainV_repl {σ : List (Int × Ty)} (hs : ∀ i t, look σ i = some t → plainV t = true) : ∀ T : Ty, plainV T = true → plainV (repl σ T) = true := Ty.induct fun T ih hp => by
  obtain ⟨k, n, i, h, ts⟩ := T
  by_cases hk : k = 1
  · subst hk
    rw [repl_one]
    cases e : look σ i with
    | some t => exact hs i t e
    | none => exact hp
  · rw [repl_not _ hk, plainV, if_neg (by simpa using hk)]
    exact allL_of rfl (fun _ _ => rfl) fun U hU => by
      obtain ⟨V, hV, rfl⟩ := List.mem_map.1 hU
      exact ih V hV (plainVL_mem (plain_kids hk hp) hV)
/-- The parts of a type are smaller: what a variable in it becomes is, too. -/
theorem nodes_occ {θ : List (Int × Ty)} {i : Int} : ∀ T : Ty, plainV T = true → i ∈ vids T → nodes (repl θ (cv i)) ≤ nodes (repl θ T) ∧ (T.k ≠ 1 → nodes (repl θ (cv i)) < nodes (repl θ T)) := Ty.induct fun T ih hp hv => by
  obtain ⟨k, n, j, h, ts⟩ := T
  by_cases hk : k = 1
  · subst hk
    obtain ⟨hn, rfl, rfl⟩ := plain_leaf hp
    have hn : n = ⟨#[]⟩ := by
      obtain ⟨d⟩ := n
      have hd : d.toList = [] := by rw [← Lib.toList_data]; exact hn
      have : d = #[] := by simpa using hd
      rw [this]
    subst hn
    rw [vids, if_pos (by rfl)] at hv
    obtain rfl : i = j := by simpa using hv
    exact ⟨Nat.le_refl _, fun h => absurd rfl h⟩
  · rw [vids, if_neg (by simpa using hk), vidsL_flat, List.mem_flatMap] at hv
    obtain ⟨U, hU, hv⟩ := hv
    have h1 := (ih U hU (plainVL_mem (plain_kids hk hp) hU) hv).1
    have h2 : nodes (repl θ U) < nodes (repl θ (.mk k n j h ts)) := by
      rw [repl_not _ hk]
      exact mem_nodes (T := .mk k n j h (ts.map (repl θ))) (List.mem_map.2 ⟨U, hU, rfl⟩)
    exact ⟨by omega, fun _ => by omega⟩
/-- What a variable occurs in, and is not, it can't become equal to. -/
theorem occ_no {θ : List (Int × Ty)} {i : Int} {t : Ty} (hp : plainV t = true) (ho : occT i t = true) (hk : t.k ≠ 1) : repl θ (cv i) ≠ repl θ t := fun e => by
  have := (nodes_occ (θ := θ) t hp (by unfold occT at ho; simpa using ho)).2 hk
  rw [e] at this
  omega
theorem cv_of {T : Ty} (hp : plainV T = true) (hk : T.k = 1) : T = cv T.i := by
  obtain ⟨k, n, i, h, ts⟩ := T
  have hk : k = 1 := hk
  subst hk
  obtain ⟨hn, rfl, rfl⟩ := plain_leaf hp
  have hn : n = ⟨#[]⟩ := by
    obtain ⟨d⟩ := n
    have hd : d.toList = [] := by rw [← Lib.toList_data]; exact hn
    have : d = #[] := by simpa using hd
    rw [this]
  subst hn
  rfl
/-! The unifier that the document's own answer finds: 1 for a mismatch, 2 for a variable that occurs. -/
inductive UR where
  | ok (s : List (Int × Ty))
  | bad (e : Int)
def asgU (i : Int) (t : Ty) (s : List (Int × Ty)) : UR := if occT i t then .bad 2 else .ok (cmpS s [(i, t)])
def headsEq (A B : Ty) : Bool := A.k == B.k && A.n.toList == B.n.toList && A.i == B.i && A.h == B.h && A.ts.length == B.ts.length
mutual
def uni : Nat → Ty → Ty → List (Int × Ty) → Option UR
  | 0, _, _, _ => none
  | f + 1, a, b, s =>
    if teq (repl s a) (repl s b) then some (.ok s)
    else if (repl s a).k == 1 then some (asgU (repl s a).i (repl s b) s)
    else if (repl s b).k == 1 then some (asgU (repl s b).i (repl s a) s)
    else if headsEq (repl s a) (repl s b) then uniL f (repl s a).ts (repl s b).ts s
    else some (.bad 1)
def uniL : Nat → List Ty → List Ty → List (Int × Ty) → Option UR
  | 0, _, _, _ => none
  | _ + 1, [], _, s => some (.ok s)
  | _ + 1, _ :: _, [], s => some (.ok s)
  | f + 1, a :: as', b :: bs, s =>
    match uni f a b s with
    | some (.ok s1) => uniL f as' bs s1
    | r => r
end
/-- A list that has been found: what it gives is plain. -/
def PlS (s : List (Int × Ty)) : Prop := ∀ i t, look s i = some t → plainV t = true
theorem plS_nil : PlS [] := fun i t h => by cases h
theorem plS_cmp {s : List (Int × Ty)} {i : Int} {t : Ty} (hs : PlS s) (ht : plainV t = true) : PlS (cmpS s [(i, t)]) := fun j u h => by
  rw [look_cmp] at h
  have h1 : PlS [(i, t)] := fun j u h => by
    by_cases e : j = i
    · subst e
      rw [look_single] at h
      cases h
      exact ht
    · rw [look_none (asgd_single t e)] at h
      cases h
  cases e : look s j with
  | some v =>
    rw [e] at h
    cases h
    exact plainV_repl h1 v (hs j v e)
  | none =>
    rw [e] at h
    exact h1 j u h
/-- Most general: whatever makes the two equal, and says nothing against what has been found, has nothing against what is found. -/
def UGen (r : Option UR) (θ : List (Int × Ty)) : Prop := ∀ u, r = some u → ∃ s1, u = .ok s1 ∧ PlS s1 ∧ (∀ T, plainV T = true → repl θ (repl s1 T) = repl θ T)
theorem asg_gen {i : Int} {t : Ty} {s θ : List (Int × Ty)} (hs : PlS s) (ht : plainV t = true) (ha : ∀ T, plainV T = true → repl θ (repl s T) = repl θ T) (he : repl θ (cv i) = repl θ t) (hne : t ≠ cv i) : UGen (some (asgU i t s)) θ := fun u hu => by
  cases hu
  unfold asgU
  have hno : occT i t = false := by
    cases h : occT i t with
    | false => rfl
    | true =>
      by_cases hk : t.k = 1
      · have := cv_of ht hk
        rw [this] at h hne
        unfold occT cv at h
        rw [vids, if_pos (by rfl)] at h
        have : i = t.i := by simpa using h
        exact absurd (by rw [this]) hne
      · exact absurd he (occ_no ht h hk)
  rw [hno]
  refine ⟨_, rfl, plS_cmp hs ht, fun T hT => ?_⟩
  rw [repl_cmp, absb_one he _ (plainV_repl hs T hT), ha T hT]
theorem uni_gen (θ : List (Int × Ty)) : ∀ f : Nat, (∀ (a b : Ty) (s : List (Int × Ty)), plainV a = true → plainV b = true → PlS s → (∀ T, plainV T = true → repl θ (repl s T) = repl θ T) → repl θ a = repl θ b → UGen (uni f a b s) θ) ∧
    ∀ (xs ys : List Ty) (s : List (Int × Ty)), plainVL xs = true → plainVL ys = true → PlS s → (∀ T, plainV T = true → repl θ (repl s T) = repl θ T) → xs.map (repl θ) = ys.map (repl θ) → UGen (uniL f xs ys s) θ := by
  intro f
  induction f with
  | zero => exact ⟨fun _ _ _ _ _ _ _ _ u h => (by cases h), fun _ _ _ _ _ _ _ _ u h => (by cases h)⟩
  | succ f ih =>
    constructor
    · intro a b s ha hb hs hA he
      have pa := plainV_repl hs a ha
      have pb := plainV_repl hs b hb
      have he' : repl θ (repl s a) = repl θ (repl s b) := by rw [hA a ha, hA b hb, he]
      rw [uni]
      generalize repl s a = A at *
      generalize repl s b = B at *
      split
      · exact fun u hu => by cases hu; exact ⟨s, rfl, hs, hA⟩
      · next hne =>
        have hne : A ≠ B := fun e => hne (by rw [e]; exact teq_id B)
        split
        · next k1 =>
          have k1 := cv_of pa (by simpa using k1)
          refine asg_gen hs pb hA (by rw [← k1]; exact he') fun e => hne (by rw [k1, e])
        · next k1 =>
          split
          · next k2 =>
            have k2 := cv_of pb (by simpa using k2)
            refine asg_gen hs pa hA (by rw [← k2]; exact he'.symm) fun e => hne (by rw [e, ← k2])
          · next k2 =>
            obtain ⟨k, n, i, h, xs⟩ := A
            obtain ⟨k', n', i', h', ys⟩ := B
            have k1 : k ≠ 1 := fun e => k1 (show (k == 1) = true by simpa using e)
            have k2 : k' ≠ 1 := fun e => k2 (show (k' == 1) = true by simpa using e)
            rw [repl_not _ k1, repl_not _ k2] at he'
            injection he' with e1 e2 e3 e4 e5
            subst e1 e2 e3 e4
            have hl : xs.length = ys.length := by simpa using congrArg List.length e5
            rw [if_pos (by simp [headsEq, Ty.k, Ty.n, Ty.i, Ty.h, Ty.ts, hl])]
            exact ih.2 xs ys s (plain_kids k1 pa) (plain_kids k1 pb) hs hA e5
    · intro xs ys s hx hy hs hA he
      cases xs with
      | nil => exact fun u hu => by rw [uniL] at hu; cases hu; exact ⟨s, rfl, hs, hA⟩
      | cons a xs =>
        cases ys with
        | nil => cases he
        | cons b ys =>
          simp only [plainVL, Bool.and_eq_true] at hx hy
          simp only [List.map_cons, List.cons.injEq] at he
          intro u hu
          rw [uniL] at hu
          have h1 := ih.1 a b s hx.1 hy.1 hs hA he.1
          cases e : uni f a b s with
          | none => rw [e] at hu; cases hu
          | some r =>
            obtain ⟨s1, rfl, p1, a1⟩ := h1 r e
            rw [e] at hu
            exact ih.2 xs ys s1 hx.2 hy.2 p1 a1 he.2 u hu
end Go.Proofs.Ytahiefgfhpkoeaa

namespace Go.Proofs.Ytahiefgfhpkoeaa
open Go.RowKit Mth

/-- s leaves the variables of T alone. -/
def FixS (s : List (Int × Ty)) (T : Ty) : Prop := ∀ v ∈ vids T, repl s (cv v) = cv v
theorem FixS.repl {s : List (Int × Ty)} {T : Ty} (h : FixS s T) (hp : plainV T = true) : repl s T = T := by
  have := repl_ext (σ := s) (τ := []) T hp fun v hv => by rw [h v hv, repl_nil]
  rw [this, repl_nil]
theorem vids_cv (i : Int) : vids (cv i) = [i] := by unfold cv; rw [vids, if_pos (by rfl)]
theorem vids_one {i : Int} {t : Ty} : ∀ U : Ty, plainV U = true → ∀ v ∈ vids (repl [(i, t)] U), (v ∈ vids U ∧ v ≠ i) ∨ v ∈ vids t := Ty.induct fun U ih hp v hv => by
  obtain ⟨k, n, j, h, ts⟩ := U
  by_cases hk : k = 1
  · have e := cv_of hp hk
    have ej : (Ty.mk k n j h ts).i = j := rfl
    rw [ej] at e
    rw [e] at hv ⊢
    by_cases c : j = i
    · subst c
      rw [repl_cv (look_single j t)] at hv
      exact .inr hv
    · have : repl [(i, t)] (cv j) = cv j := by
        unfold cv
        rw [repl_one, look_none (asgd_single t c)]
        rfl
      rw [this] at hv
      refine .inl ⟨hv, fun e2 => ?_⟩
      rw [vids_cv] at hv
      have : v = j := by simpa using hv
      exact c (by rw [← this, e2])
  · rw [repl_not _ hk, vids, if_neg (by simpa using hk), vidsL_flat, List.mem_flatMap] at hv
    obtain ⟨W, hW, hv⟩ := hv
    obtain ⟨W, hW', rfl⟩ := List.mem_map.1 hW
    rcases ih W hW' (plainVL_mem (plain_kids hk hp) hW') v hv with ⟨h1, h2⟩ | h1
    · refine .inl ⟨?_, h2⟩
      rw [vids, if_neg (by simpa using hk), vidsL_flat]
      exact List.mem_flatMap.2 ⟨W, hW', h1⟩
    · exact .inr h1
/-- What has been found: plain types; what it makes is left alone by it. -/
structure InvS (s : List (Int × Ty)) : Prop where
  pl : PlS s
  fix : ∀ T, plainV T = true → FixS s (repl s T)
theorem invS_nil : InvS [] := ⟨plS_nil, fun _ _ v _ => repl_nil (cv v)⟩
/-- s1 says more than s. -/
def ExtS (s s1 : List (Int × Ty)) : Prop := ∃ r, PlS r ∧ ∀ T, repl s1 T = repl r (repl s T)
theorem ExtS.refl (s : List (Int × Ty)) : ExtS s s := ⟨[], plS_nil, fun _ => (repl_nil _).symm⟩
theorem plS_comp {s r : List (Int × Ty)} (hs : PlS s) (hr : PlS r) : PlS (cmpS s r) := fun j u h => by
  rw [look_cmp] at h
  cases e : look s j with
  | some v =>
    rw [e] at h
    cases h
    exact plainV_repl hr v (hs j v e)
  | none =>
    rw [e] at h
    exact hr j u h
theorem ExtS.trans {a b c : List (Int × Ty)} (h : ExtS a b) (k : ExtS b c) : ExtS a c := by
  obtain ⟨r, hr, e⟩ := h
  obtain ⟨q, hq, e'⟩ := k
  exact ⟨cmpS r q, plS_comp hr hq, fun T => by rw [e', e, repl_cmp]⟩
theorem plS_one {i : Int} {t : Ty} (ht : plainV t = true) : PlS [(i, t)] := fun j u h => by
  by_cases e : j = i
  · subst e
    rw [look_single] at h
    cases h
    exact ht
  · rw [look_none (asgd_single t e)] at h
    cases h
theorem one_other {i v : Int} (t : Ty) (h : v ≠ i) : repl [(i, t)] (cv v) = cv v := by
  unfold cv
  rw [repl_one, look_none (asgd_single t h)]
  rfl
theorem inv_asg {i : Int} {t : Ty} {s : List (Int × Ty)} (hs : InvS s) (ht : plainV t = true) (hf : FixS s t) (ho : occT i t = false) : InvS (cmpS s [(i, t)]) ∧ ExtS s (cmpS s [(i, t)]) := by
  have hni : i ∉ vids t := by unfold occT at ho; simpa using ho
  refine ⟨⟨plS_cmp hs.pl ht, fun T hT v hv => ?_⟩, [(i, t)], plS_one ht, fun T => repl_cmp s [(i, t)] T⟩
  rw [repl_cmp] at hv ⊢
  rcases vids_one (repl s T) (plainV_repl hs.pl T hT) v hv with ⟨h1, h2⟩ | h1
  · rw [hs.fix T hT v h1, one_other t h2]
  · have hvi : v ≠ i := fun e => hni (by rw [← e]; exact h1)
    rw [hf v h1, one_other t hvi]
def USnd (r : Option UR) (s : List (Int × Ty)) (Q : List (Int × Ty) → Prop) : Prop := ∀ s1, r = some (.ok s1) → InvS s1 ∧ ExtS s s1 ∧ Q s1
theorem asg_snd {i : Int} {t : Ty} {s : List (Int × Ty)} (hs : InvS s) (ht : plainV t = true) (hf : FixS s t) (hi : repl s (cv i) = cv i) : USnd (some (asgU i t s)) s fun s1 => repl s1 (cv i) = repl s1 t := fun s1 h1 => by
  unfold asgU at h1
  cases ho : occT i t with
  | true => rw [ho] at h1; cases h1
  | false =>
    rw [ho] at h1
    cases h1
    obtain ⟨h2, h3⟩ := inv_asg hs ht hf ho
    refine ⟨h2, h3, ?_⟩
    have hni : i ∉ vids t := by unfold occT at ho; simpa using ho
    show repl (cmpS s [(i, t)]) (cv i) = repl (cmpS s [(i, t)]) t
    rw [repl_cmp, repl_cmp, hi, repl_cv (look_single i t), hf.repl ht]
    have := repl_ext (σ := [(i, t)]) (τ := []) t ht fun v hv => by
      have hvi : v ≠ i := fun e => hni (by rw [← e]; exact hv)
      rw [one_other t hvi, repl_nil]
    rw [this, repl_nil]
theorem uni_snd : ∀ f : Nat, (∀ (a b : Ty) (s : List (Int × Ty)), plainV a = true → plainV b = true → InvS s → USnd (uni f a b s) s fun s1 => repl s1 a = repl s1 b) ∧
    ∀ (xs ys : List Ty) (s : List (Int × Ty)), plainVL xs = true → plainVL ys = true → InvS s → xs.length = ys.length → USnd (uniL f xs ys s) s fun s1 => xs.map (repl s1) = ys.map (repl s1) := by
  intro f
  induction f with
  | zero => exact ⟨fun _ _ _ _ _ _ _ h => (by cases h), fun _ _ _ _ _ _ _ _ h => (by cases h)⟩
  | succ f ih =>
    constructor
    · intro a b s ha hb hs s1 h1
      have pa := plainV_repl hs.pl a ha
      have pb := plainV_repl hs.pl b hb
      have fa := hs.fix a ha
      have fb := hs.fix b hb
      -- it is enough to make what they stand for equal
      have back : InvS s1 ∧ ExtS s s1 ∧ repl s1 (repl s a) = repl s1 (repl s b) → InvS s1 ∧ ExtS s s1 ∧ repl s1 a = repl s1 b := fun ⟨k1, ⟨r, hr, e⟩, k3⟩ => by
        refine ⟨k1, ⟨r, hr, e⟩, ?_⟩
        rw [e (repl s a), e (repl s b), fa.repl pa, fb.repl pb] at k3
        rw [e a, e b, k3]
      apply back
      rw [uni] at h1
      generalize repl s a = A at *
      generalize repl s b = B at *
      split at h1
      · next he =>
        cases h1
        exact ⟨hs, ExtS.refl s, by rw [teq_eq _ _ he]⟩
      · split at h1
        · next k1 =>
          have k1 := cv_of pa (by simpa using k1)
          have hi : repl s (cv A.i) = cv A.i := by rw [← k1]; exact fa.repl pa
          have := asg_snd hs pb fb hi s1 h1
          rw [← k1] at this
          exact this
        · split at h1
          · next k2 =>
            have k2 := cv_of pb (by simpa using k2)
            have hi : repl s (cv B.i) = cv B.i := by rw [← k2]; exact fb.repl pb
            have := asg_snd hs pa fa hi s1 h1
            rw [← k2] at this
            exact ⟨this.1, this.2.1, this.2.2.symm⟩
          · next k1 k2 =>
            split at h1
            · next hh =>
              obtain ⟨k, n, i, h, xs⟩ := A
              obtain ⟨k', n', i', h', ys⟩ := B
              have k1 : k ≠ 1 := fun e => k1 (show (k == 1) = true by simpa using e)
              have k2 : k' ≠ 1 := fun e => k2 (show (k' == 1) = true by simpa using e)
              simp only [headsEq, Ty.k, Ty.n, Ty.i, Ty.h, Ty.ts, Bool.and_eq_true, beq_iff_eq] at hh
              obtain ⟨⟨⟨⟨c1, c2⟩, c3⟩, c4⟩, c5⟩ := hh
              have hn : n = n' := by
                obtain ⟨d⟩ := n
                obtain ⟨d'⟩ := n'
                rw [Lib.toList_data, Lib.toList_data] at c2
                have : d = d' := Array.toList_inj.1 c2
                rw [this]
              subst c1 hn c3 c4
              obtain ⟨q1, q2, q3⟩ := ih.2 xs ys s (plain_kids k1 pa) (plain_kids k1 pb) hs c5 s1 h1
              refine ⟨q1, q2, ?_⟩
              rw [repl_not _ k1, repl_not _ k1, q3]
            · cases h1
    · intro xs ys s hx hy hs hl s1 h1
      cases xs with
      | nil =>
        have := List.eq_nil_of_length_eq_zero hl.symm
        subst this
        rw [uniL] at h1
        cases h1
        exact ⟨hs, ExtS.refl s, rfl⟩
      | cons a xs =>
        cases ys with
        | nil => cases hl
        | cons b ys =>
          simp only [plainVL, Bool.and_eq_true] at hx hy
          rw [uniL] at h1
          cases e : uni f a b s with
          | none => rw [e] at h1; cases h1
          | some r =>
            rw [e] at h1
            cases r with
            | bad z => cases h1
            | ok s2 =>
              obtain ⟨p1, p2, p3⟩ := ih.1 a b s hx.1 hy.1 hs s2 e
              obtain ⟨q1, q2, q3⟩ := ih.2 xs ys s2 hx.2 hy.2 p1 (by simpa using hl) s1 h1
              refine ⟨q1, p2.trans q2, ?_⟩
              obtain ⟨r, -, er⟩ := q2
              rw [List.map_cons, List.map_cons, q3, er a, er b, p3]
end Go.Proofs.Ytahiefgfhpkoeaa

namespace Go.Proofs.Ytahiefgfhpkoeaa
open Go.RowKit Mth

/-- A list speaks of the variables V alone, of each once. -/
structure DomS (V : List Int) (s : List (Int × Ty)) : Prop where
  mem : ∀ p ∈ s, p.1 ∈ V ∧ ∀ v ∈ vids p.2, v ∈ V
  nd : (s.map (·.1)).Nodup
theorem domS_nil (V : List Int) : DomS V [] := ⟨fun p h => (by cases h), List.nodup_nil⟩
theorem look_mem {s : List (Int × Ty)} {i : Int} {t : Ty} : look s i = some t → (i, t) ∈ s := by
  induction s with
  | nil => intro h; cases h
  | cons p s ih =>
    intro h
    rw [look_cons] at h
    cases e : p.1 == i with
    | true =>
      rw [e, if_pos rfl] at h
      cases h
      have : p.1 = i := by simpa using e
      rw [← this]
      exact List.mem_cons_self
    | false =>
      rw [e] at h
      exact List.mem_cons_of_mem _ (ih (by simpa using h))
theorem DomS.vids {V : List Int} {s : List (Int × Ty)} (h : DomS V s) : ∀ T : Ty, plainV T = true → (∀ v ∈ vids T, v ∈ V) → ∀ v ∈ vids (repl s T), v ∈ V := Ty.induct fun T ih hp hT v hv => by
  obtain ⟨k, n, i, hh, ts⟩ := T
  by_cases hk : k = 1
  · subst hk
    rw [repl_one] at hv
    cases e : look s i with
    | some t =>
      rw [e] at hv
      exact (h.mem _ (look_mem e)).2 v hv
    | none =>
      rw [e] at hv
      exact hT v hv
  · rw [repl_not _ hk, Go.Proofs.Ytahiefgfhpkoeaa.vids, if_neg (by simpa using hk), vidsL_flat, List.mem_flatMap] at hv
    obtain ⟨W, hW, hv⟩ := hv
    obtain ⟨W, hW', rfl⟩ := List.mem_map.1 hW
    rw [Go.Proofs.Ytahiefgfhpkoeaa.vids, if_neg (by simpa using hk), vidsL_flat] at hT
    exact ih W hW' (plainVL_mem (plain_kids hk hp) hW') (fun u hu => hT u (List.mem_flatMap.2 ⟨W, hW', hu⟩)) v hv
theorem DomS.asg {V : List Int} {s : List (Int × Ty)} (h : DomS V s) (hps : ∀ p ∈ s, plainV p.2 = true) {i : Int} {t : Ty} (hi : i ∈ V) (ht : ∀ v ∈ Go.Proofs.Ytahiefgfhpkoeaa.vids t, v ∈ V) : DomS V (cmpS s [(i, t)]) := by
  refine ⟨fun p hp => ?_, ?_⟩
  · unfold cmpS at hp
    rcases List.mem_append.1 hp with hp | hp
    · obtain ⟨q, hq, rfl⟩ := List.mem_map.1 hp
      obtain ⟨h1, h2⟩ := h.mem q hq
      refine ⟨h1, fun v hv => ?_⟩
      rcases vids_one q.2 (hps q hq) v hv with ⟨h3, -⟩ | h3
      · exact h2 v h3
      · exact ht v h3
    · have := (List.mem_filter.1 hp).1
      simp at this
      subst this
      exact ⟨hi, ht⟩
  · unfold cmpS
    rw [List.map_append, List.map_map]
    have e : ((fun x : Int × Ty => x.1) ∘ fun p : Int × Ty => (p.1, repl [(i, t)] p.2)) = fun x => x.1 := rfl
    rw [e]
    refine List.nodup_append.2 ⟨h.nd, ?_, fun a ha b hb hab => ?_⟩
    · cases c : asgd s i with
      | true => simp [List.filter, c]
      | false => simp [List.filter, c]
    · subst hab
      obtain ⟨q, hq, rfl⟩ := List.mem_map.1 hb
      obtain ⟨h1, h2⟩ := List.mem_filter.1 hq
      simp at h1
      subst h1
      have : asgd s i = true := by
        obtain ⟨p, hp, e⟩ := List.mem_map.1 ha
        unfold asgd
        rw [List.any_eq_true]
        exact ⟨p, hp, by simpa using e⟩
      rw [this] at h2
      cases h2
theorem plainV_cv (i : Int) : plainV (cv i) = true := by
  unfold cv
  rw [plainV, if_pos (by rfl), Lib.toList_data]
  rfl
/-- What has been found so far, with all that is known of it. -/
structure AllS (V : List Int) (s : List (Int × Ty)) : Prop where
  inv : InvS s
  dom : DomS V s
  pls : ∀ p ∈ s, plainV p.2 = true
theorem allS_nil (V : List Int) : AllS V [] := ⟨invS_nil, domS_nil V, fun p h => (by cases h)⟩
/-- How many variables stand for themselves. -/
def unsol (V : List Int) (s : List (Int × Ty)) : Nat := (V.filter fun v => teq (repl s (cv v)) (cv v)).length
theorem AllS.asg {V : List Int} {s : List (Int × Ty)} (h : AllS V s) {i : Int} {t : Ty} (hi : i ∈ V) (hfi : repl s (cv i) = cv i) (hp : plainV t = true) (ht : ∀ v ∈ vids t, v ∈ V) (hf : FixS s t) (ho : occT i t = false) :
    AllS V (cmpS s [(i, t)]) ∧ unsol V (cmpS s [(i, t)]) < unsol V s := by
  have hni : i ∉ vids t := by unfold occT at ho; simpa using ho
  refine ⟨⟨(inv_asg h.inv hp hf ho).1, h.dom.asg h.pls hi ht, fun p hq => ?_⟩, ?_⟩
  · unfold cmpS at hq
    rcases List.mem_append.1 hq with hq | hq
    · obtain ⟨q, hq', rfl⟩ := List.mem_map.1 hq
      exact plainV_repl (plS_one hp) q.2 (h.pls q hq')
    · have := (List.mem_filter.1 hq).1
      simp at this
      subst this
      exact hp
  · -- whoever stands for itself afterwards stood for itself before, and is not i
    have key : ∀ v ∈ V, teq (repl (cmpS s [(i, t)]) (cv v)) (cv v) = true → teq (repl s (cv v)) (cv v) = true ∧ v ≠ i := fun v _ hv => by
      have e := teq_eq _ _ hv
      rw [repl_cmp] at e
      have hvi : v ≠ i := fun c => by
        subst c
        rw [hfi, repl_cv (look_single v t)] at e
        exact hni (by rw [e, vids_cv]; simp)
      refine ⟨?_, hvi⟩
      have hpv := plainV_cv v
      have hmem : v ∈ vids (repl [(i, t)] (repl s (cv v))) := by rw [e, vids_cv]; simp
      rcases vids_one _ (plainV_repl h.inv.pl _ hpv) v hmem with ⟨h1, -⟩ | h1
      · rw [h.inv.fix _ hpv v h1]; exact teq_id _
      · rw [hf v h1]; exact teq_id _
    have hlt : ∀ W : List Int, (∀ v ∈ W, v ∈ V) → (W.filter fun v => teq (repl (cmpS s [(i, t)]) (cv v)) (cv v)).length ≤ (W.filter fun v => teq (repl s (cv v)) (cv v)).length ∧ (i ∈ W → (W.filter fun v => teq (repl (cmpS s [(i, t)]) (cv v)) (cv v)).length < (W.filter fun v => teq (repl s (cv v)) (cv v)).length) := by
      intro W
      induction W with
      | nil => intro _; exact ⟨Nat.le_refl _, fun h => by cases h⟩
      | cons w W ih =>
        intro hW
        obtain ⟨h1, h2⟩ := ih fun v hv => hW v (List.mem_cons_of_mem _ hv)
        rw [List.filter_cons, List.filter_cons]
        cases c : teq (repl (cmpS s [(i, t)]) (cv w)) (cv w) with
        | true =>
          obtain ⟨k1, k2⟩ := key w (hW w List.mem_cons_self) c
          rw [if_pos rfl, if_pos k1]
          refine ⟨by simp only [List.length_cons]; omega, fun hi => ?_⟩
          rcases List.mem_cons.1 hi with e | e
          · exact absurd e.symm k2
          · have := h2 e
            simp only [List.length_cons]
            omega
        | false =>
          rw [if_neg (by simp)]
          constructor
          · split
            · simp only [List.length_cons]; omega
            · exact h1
          · intro hi
            rcases List.mem_cons.1 hi with e | e
            · subst e
              rw [if_pos (by rw [hfi]; exact teq_id _)]
              simp only [List.length_cons]
              omega
            · have := h2 e
              split
              · simp only [List.length_cons]; omega
              · exact this
    exact (hlt V fun v h => h).2 hi
theorem cv_mem {T : Ty} (hp : plainV T = true) (hk : T.k = 1) {V : List Int} (h : ∀ v ∈ vids T, v ∈ V) : T.i ∈ V := by
  have := cv_of hp hk
  exact h T.i (by rw [this]; rw [vids_cv]; simp [cv, Ty.i])
/-- What is found keeps to V; it is what was there, or solves a variable more. -/
def UStp (V : List Int) (r : Option UR) (s : List (Int × Ty)) : Prop := ∀ s1, r = some (.ok s1) → AllS V s1 ∧ (s1 = s ∨ unsol V s1 < unsol V s)
theorem asg_stp {V : List Int} {s : List (Int × Ty)} (h : AllS V s) {i : Int} {t : Ty} (hi : i ∈ V) (hfi : repl s (cv i) = cv i) (hp : plainV t = true) (ht : ∀ v ∈ vids t, v ∈ V) (hf : FixS s t) : UStp V (some (asgU i t s)) s := fun s1 h1 => by
  unfold asgU at h1
  cases ho : occT i t with
  | true => rw [ho] at h1; cases h1
  | false =>
    rw [ho] at h1
    cases h1
    obtain ⟨k1, k2⟩ := h.asg hi hfi hp ht hf ho
    exact ⟨k1, .inr k2⟩
theorem uni_stp (V : List Int) : ∀ f : Nat, (∀ (a b : Ty) (s : List (Int × Ty)), plainV a = true → plainV b = true → (∀ v ∈ vids a, v ∈ V) → (∀ v ∈ vids b, v ∈ V) → AllS V s → UStp V (uni f a b s) s) ∧
    ∀ (xs ys : List Ty) (s : List (Int × Ty)), plainVL xs = true → plainVL ys = true → (∀ v ∈ xs.flatMap vids, v ∈ V) → (∀ v ∈ ys.flatMap vids, v ∈ V) → AllS V s → UStp V (uniL f xs ys s) s := by
  intro f
  induction f with
  | zero => exact ⟨fun _ _ _ _ _ _ _ _ _ h => (by cases h), fun _ _ _ _ _ _ _ _ _ h => (by cases h)⟩
  | succ f ih =>
    constructor
    · intro a b s ha hb va vb hs s1 h1
      have pa := plainV_repl hs.inv.pl a ha
      have pb := plainV_repl hs.inv.pl b hb
      have fa := hs.inv.fix a ha
      have fb := hs.inv.fix b hb
      have wa := hs.dom.vids a ha va
      have wb := hs.dom.vids b hb vb
      rw [uni] at h1
      generalize repl s a = A at *
      generalize repl s b = B at *
      split at h1
      · cases h1; exact ⟨hs, .inl rfl⟩
      · split at h1
        · next k1 =>
          have k1 : A.k = 1 := by simpa using k1
          exact asg_stp hs (cv_mem pa k1 wa) (by rw [← cv_of pa k1]; exact fa.repl pa) pb wb fb s1 h1
        · split at h1
          · next k2 =>
            have k2 : B.k = 1 := by simpa using k2
            exact asg_stp hs (cv_mem pb k2 wb) (by rw [← cv_of pb k2]; exact fb.repl pb) pa wa fa s1 h1
          · next k1 k2 =>
            split at h1
            · obtain ⟨k, n, i, h, xs⟩ := A
              obtain ⟨k', n', i', h', ys⟩ := B
              have k1 : k ≠ 1 := fun e => k1 (show (k == 1) = true by simpa using e)
              have k2 : k' ≠ 1 := fun e => k2 (show (k' == 1) = true by simpa using e)
              rw [vids, if_neg (by simpa using k1), vidsL_flat] at wa
              rw [vids, if_neg (by simpa using k2), vidsL_flat] at wb
              exact ih.2 xs ys s (plain_kids k1 pa) (plain_kids k2 pb) wa wb hs s1 h1
            · cases h1
    · intro xs ys s hx hy vx vy hs s1 h1
      cases xs with
      | nil => rw [uniL] at h1; cases h1; exact ⟨hs, .inl rfl⟩
      | cons a xs =>
        cases ys with
        | nil => rw [uniL] at h1; cases h1; exact ⟨hs, .inl rfl⟩
        | cons b ys =>
          simp only [plainVL, Bool.and_eq_true] at hx hy
          rw [uniL] at h1
          cases e : uni f a b s with
          | none => rw [e] at h1; cases h1
          | some r =>
            rw [e] at h1
            cases r with
            | bad z => cases h1
            | ok s2 =>
              obtain ⟨p1, p2⟩ := ih.1 a b s hx.1 hy.1 (fun v hv => vx v (by simp [hv])) (fun v hv => vy v (by simp [hv])) hs s2 e
              obtain ⟨q1, q2⟩ := ih.2 xs ys s2 hx.2 hy.2 (fun v hv => vx v (by rw [List.flatMap_cons, List.mem_append]; exact .inr hv)) (fun v hv => vy v (by rw [List.flatMap_cons, List.mem_append]; exact .inr hv)) p1 s1 h1
              refine ⟨q1, ?_⟩
              rcases p2 with rfl | p2
              · exact q2
              · rcases q2 with rfl | q2
                · exact .inr p2
                · exact .inr (by omega)
/-- More fuel changes nothing. -/
theorem uni_mono : ∀ f : Nat, (∀ (a b : Ty) (s : List (Int × Ty)) (r : UR), uni f a b s = some r → uni (f + 1) a b s = some r) ∧ ∀ (xs ys : List Ty) (s : List (Int × Ty)) (r : UR), uniL f xs ys s = some r → uniL (f + 1) xs ys s = some r := by
  intro f
  induction f with
  | zero => exact ⟨fun _ _ _ _ h => (by cases h), fun _ _ _ _ h => (by cases h)⟩
  | succ f ih =>
    constructor
    · intro a b s r h
      rw [uni] at h ⊢
      split at h
      · next c => rw [if_pos c]; exact h
      · next c =>
        rw [if_neg c]
        split at h
        · next c1 => rw [if_pos c1]; exact h
        · next c1 =>
          rw [if_neg c1]
          split at h
          · next c2 => rw [if_pos c2]; exact h
          · next c2 =>
            rw [if_neg c2]
            split at h
            · next c3 => rw [if_pos c3]; exact ih.2 _ _ _ _ h
            · next c3 => rw [if_neg c3]; exact h
    · intro xs ys s r h
      cases xs with
      | nil => rw [uniL] at h ⊢; exact h
      | cons a xs =>
        cases ys with
        | nil => rw [uniL] at h ⊢; exact h
        | cons b ys =>
          rw [uniL] at h ⊢
          cases e : uni f a b s with
          | none => rw [e] at h; cases h
          | some q =>
            rw [e] at h
            rw [ih.1 a b s q e]
            cases q with
            | bad z => exact h
            | ok s1 => exact ih.2 _ _ _ _ h
theorem uni_more {a b : Ty} {s : List (Int × Ty)} {r : UR} {f : Nat} (h : uni f a b s = some r) : ∀ d, uni (f + d) a b s = some r
  | 0 => h
  | d + 1 => (uni_mono (f + d)).1 a b s r (uni_more h d)
theorem uniL_more {xs ys : List Ty} {s : List (Int × Ty)} {r : UR} {f : Nat} (h : uniL f xs ys s = some r) : ∀ d, uniL (f + d) xs ys s = some r
  | 0 => h
  | d + 1 => (uni_mono (f + d)).2 xs ys s r (uniL_more h d)
theorem uni_ends (V : List Int) : ∀ (m : Nat) (s : List (Int × Ty)), AllS V s → unsol V s ≤ m → ∀ n : Nat,
    (∀ a b : Ty, plainV a = true → plainV b = true → (∀ v ∈ vids a, v ∈ V) → (∀ v ∈ vids b, v ∈ V) → nodes (repl s a) ≤ n → ∃ f r, uni f a b s = some r) ∧
    ∀ xs ys : List Ty, plainVL xs = true → plainVL ys = true → (∀ v ∈ xs.flatMap vids, v ∈ V) → (∀ v ∈ ys.flatMap vids, v ∈ V) → nodesL (xs.map (repl s)) ≤ n → ∃ f r, uniL f xs ys s = some r := by
  intro m
  induction m using Nat.strongRecOn with
  | _ m ihm =>
  intro s hs hm n
  induction n using Nat.strongRecOn with
  | _ n ihn =>
  have one : ∀ a b : Ty, plainV a = true → plainV b = true → (∀ v ∈ vids a, v ∈ V) → (∀ v ∈ vids b, v ∈ V) → nodes (repl s a) ≤ n → ∃ f r, uni f a b s = some r := fun a b ha hb va vb hn => by
    have pa := plainV_repl hs.inv.pl a ha
    have pb := plainV_repl hs.inv.pl b hb
    have fa := hs.inv.fix a ha
    have wa := hs.dom.vids a ha va
    have wb := hs.dom.vids b hb vb
    by_cases c : teq (repl s a) (repl s b) = true
    · exact ⟨1, _, by rw [uni, if_pos c]⟩
    by_cases c1 : ((repl s a).k == 1) = true
    · exact ⟨1, _, by rw [uni, if_neg c, if_pos c1]⟩
    by_cases c2 : ((repl s b).k == 1) = true
    · exact ⟨1, _, by rw [uni, if_neg c, if_neg c1, if_pos c2]⟩
    by_cases c3 : headsEq (repl s a) (repl s b) = true
    · have hl : ∃ f r, uniL f (repl s a).ts (repl s b).ts s = some r := by
        have e := fa.repl pa
        generalize repl s a = A at *
        generalize repl s b = B at *
        obtain ⟨k, nn, i, h, xs⟩ := A
        obtain ⟨k', n', i', h', ys⟩ := B
        have k1 : k ≠ 1 := fun e => c1 (show (k == 1) = true by simpa using e)
        have k2 : k' ≠ 1 := fun e => c2 (show (k' == 1) = true by simpa using e)
        rw [vids, if_neg (by simpa using k1), vidsL_flat] at wa
        rw [vids, if_neg (by simpa using k2), vidsL_flat] at wb
        rw [repl_not _ k1] at e
        injection e with _ _ _ _ e
        have hp : 0 < n := by
          have : 0 < nodes (Ty.mk k nn i h xs) := nodes_pos _
          omega
        refine (ihn (n - 1) (by omega)).2 xs ys (plain_kids k1 pa) (plain_kids k2 pb) wa wb ?_
        rw [e]
        have : nodes (Ty.mk k nn i h xs) = nodesL xs + 1 := by simp [nodes]
        omega
      obtain ⟨f, r, h⟩ := hl
      exact ⟨f + 1, r, by rw [uni, if_neg c, if_neg c1, if_neg c2, if_pos c3]; exact h⟩
    · exact ⟨1, _, by rw [uni, if_neg c, if_neg c1, if_neg c2, if_neg c3]⟩
  refine ⟨one, ?_⟩
  intro xs
  induction xs with
  | nil => intro ys _ _ _ _ _; exact ⟨1, _, by rw [uniL]⟩
  | cons a xs ihx =>
    intro ys hx hy vx vy hn
    cases ys with
    | nil => exact ⟨1, _, by rw [uniL]⟩
    | cons b ys =>
      simp only [plainVL, Bool.and_eq_true] at hx hy
      rw [List.map_cons, nodesL] at hn
      have va : ∀ v ∈ vids a, v ∈ V := fun v hv => vx v (by simp [hv])
      have vb : ∀ v ∈ vids b, v ∈ V := fun v hv => vy v (by simp [hv])
      have vx' : ∀ v ∈ xs.flatMap vids, v ∈ V := fun v hv => vx v (by rw [List.flatMap_cons, List.mem_append]; exact .inr hv)
      have vy' : ∀ v ∈ ys.flatMap vids, v ∈ V := fun v hv => vy v (by rw [List.flatMap_cons, List.mem_append]; exact .inr hv)
      obtain ⟨f, r, h⟩ := one a b hx.1 hy.1 va vb (by omega)
      cases r with
      | bad z => exact ⟨f + 1, .bad z, by rw [uniL, h]⟩
      | ok s1 =>
        obtain ⟨k1, k2⟩ := (uni_stp V f).1 a b s hx.1 hy.1 va vb hs s1 h
        have hl : ∃ f r, uniL f xs ys s1 = some r := by
          rcases k2 with rfl | k2
          · exact ihx ys hx.2 hy.2 vx' vy' (by omega)
          · exact (ihm (unsol V s1) (by omega) s1 k1 (Nat.le_refl _) (nodesL (xs.map (repl s1)))).2 xs ys hx.2 hy.2 vx' vy' (Nat.le_refl _)
        obtain ⟨g, q, hq⟩ := hl
        refine ⟨f + g + 1, q, ?_⟩
        rw [uniL, uni_more h g]
        show uniL (f + g) xs ys s1 = some q
        rw [Nat.add_comm f g]
        exact uniL_more hq f
/-- Unifying from the empty list on comes to an end. -/
theorem uni_total {a b : Ty} (ha : plainV a = true) (hb : plainV b = true) : ∃ f r, uni f a b [] = some r :=
  (uni_ends (vids a ++ vids b) _ [] (allS_nil _) (Nat.le_refl _) _).1 a b ha hb (fun _ h => List.mem_append_left _ h) (fun _ h => List.mem_append_right _ h) (Nat.le_refl _)
end Go.Proofs.Ytahiefgfhpkoeaa

namespace Go.Proofs.Ytahiefgfhpkoeaa
open Go.RowKit Mth

theorem cv_plain {n : ByteArray} {i h : Int} {ts : List Ty} (hp : plainV (.mk 1 n i h ts) = true) : (.mk 1 n i h ts : Ty) = cv i := cv_of hp rfl
/-- Renaming variables. -/
theorem vids_rename {ρ : List (Int × Ty)} {r : Int → Int} : ∀ T : Ty, plainV T = true → (∀ v ∈ vids T, look ρ v = some (cv (r v))) → vids (repl ρ T) = (vids T).map r := Ty.induct fun T ih hp h => by
  obtain ⟨k, n, i, hh, ts⟩ := T
  by_cases hk : k = 1
  · subst hk
    rw [cv_plain hp] at h ⊢
    rw [vids_cv] at h ⊢
    rw [repl_cv (h i (by simp)), vids_cv]
    rfl
  · have e : vids (.mk k n i hh ts) = ts.flatMap vids := by rw [vids, if_neg (by simpa using hk), vidsL_flat]
    rw [repl_not _ hk, e, vids, if_neg (by simpa using hk), vidsL_flat, List.flatMap_map, List.map_flatMap]
    rw [e] at h
    exact flatMap_congr' fun U hU => ih U hU (plainVL_mem (plain_kids hk hp) hU) fun v hv => h v (List.mem_flatMap.2 ⟨U, hU, hv⟩)
theorem plc_map {r : Int → Int} : ∀ {L : List Int} {i : Int}, (∀ v ∈ L, r v = r i → v = i) → plc (L.map r) (r i) = plc L i := by
  intro L
  induction L with
  | nil => intro i _; rfl
  | cons v L ih =>
    intro i h
    rw [List.map_cons, plc, plc]
    by_cases e : v = i
    · subst e
      simp
    · have e' : r v ≠ r i := fun c => e (h v (by simp) c)
      rw [if_neg (by simpa using e'), if_neg (by simpa using e), ih fun w hw => h w (by simp [hw])]
theorem close_rename {ρ : List (Int × Ty)} {r : Int → Int} {ids moved : List Int} {x : Ty} (hp : plainV x = true) (h1 : ∀ v ∈ vids x, look ρ v = some (cv (r v))) (hinj : ∀ v ∈ vids x, ∀ w ∈ vids x, r v = r w → v = w)
    (hm : ∀ v ∈ vids x, moved.contains (r v) = ids.contains v) (hst : ∀ v ∈ vids x, ids.contains v = false → r v = v) : clV moved (repl ρ x) = (clV ids x).map r ∧ clT moved (repl ρ x) = clT ids x := by
  have hded : ∀ v, v ∈ ded [] (vids x) → v ∈ vids x := fun v hv => by simpa using (ded_mem v (vids x) []).1 hv
  have hL : clV moved (repl ρ x) = (clV ids x).map r := by
    unfold clV
    rw [vids_rename x hp h1]
    have := ded_map (f := r) (vids x) [] fun v w hv hw e => hinj v (by simpa using hv) w (by simpa using hw) e
    rw [List.map_nil] at this
    rw [this, List.filter_map]
    congr 1
    exact List.filter_congr fun v hv => hm v (hded v hv)
  refine ⟨hL, ?_⟩
  unfold clT
  rw [hL]
  have hLm : ∀ v ∈ clV ids x, v ∈ vids x ∧ ids.contains v = true := fun v hv => by
    obtain ⟨h1, h2⟩ := List.mem_filter.1 hv
    exact ⟨hded v h1, h2⟩
  have key : ∀ T : Ty, plainV T = true → (∀ v ∈ vids T, v ∈ vids x) → repl (clF ((clV ids x).map r) 0) (repl ρ T) = repl (clF (clV ids x) 0) T := Ty.induct fun T ih hpT hT => by
    obtain ⟨k, n, i, hh, ts⟩ := T
    by_cases hk : k = 1
    · subst hk
      rw [cv_plain hpT] at hT ⊢
      have hi := hT i (by rw [vids_cv]; simp)
      rw [repl_cv (h1 i hi)]
      unfold cv
      rw [repl_one, repl_one, look_clF, look_clF, plc_map fun v hv e => hinj v (hLm v hv).1 i hi e]
      cases e : plc (clV ids x) i with
      | some p => rfl
      | none =>
        have hni : ids.contains i = false := by
          cases c : ids.contains i with
          | false => rfl
          | true =>
            obtain ⟨p, hp⟩ := plc_some (L := clV ids x) (i := i) (List.mem_filter.2 ⟨by rw [ded_mem]; exact .inr hi, c⟩)
            rw [e] at hp
            cases hp
        rw [hst i hi hni]
    · rw [repl_not _ hk, repl_not _ hk, repl_not _ hk, List.map_map]
      congr 1
      rw [vids, if_neg (by simpa using hk), vidsL_flat] at hT
      exact List.map_congr_left fun U hU => ih U hU (plainVL_mem (plain_kids hk hpT) hU) fun v hv => hT v (List.mem_flatMap.2 ⟨U, hU, hv⟩)
  exact key x hp fun _ h => h
/-- Opening what has been closed is replacing. -/
theorem opn_close {L : List Int} {gs : List Ty} (hl : gs.length = L.length) {θ : List (Int × Ty)} (hθ : ∀ (v : Int) (p : Nat), plc L v = some p → look θ v = gs[p]?) (hn : ∀ v, plc L v = none → look θ v = none) : ∀ T : Ty, openT T = true → plainV T = true → opn gs (repl (clF L 0) T) = repl θ T := Ty.induct fun T ih ho hp => by
  obtain ⟨k, n, i, h, ts⟩ := T
  simp only [openT, Bool.and_eq_true, bne_iff_ne] at ho
  by_cases hk : k = 1
  · subst hk
    rw [repl_one, repl_one, look_clF]
    cases e : plc L i with
    | some p =>
      have hpl := (plc_lt e).1
      rw [hθ i p e]
      simp only [Option.map_some, Option.getD_some, Int.zero_add]
      unfold bd
      rw [opn_bound (by omega) (by omega)]
      simp only [Int.toNat_natCast]
      rw [List.getElem?_eq_getElem (by omega)]
      rfl
    | none =>
      rw [hn i e]
      obtain ⟨-, -, rfl⟩ := plain_leaf hp
      simp only [Option.map_none, Option.getD_none]
      rw [opn_not (by decide)]
      rfl
  · rw [repl_not _ hk, opn_not ho.1.1, repl_not _ hk, List.map_map]
    congr 1
    exact List.map_congr_left fun U hU => ih U hU (openTL_mem ho.2 hU) (plainVL_mem (plain_kids hk hp) hU)
/-- The replacement of L's variables by types. -/
def zipS : List Int → List Ty → List (Int × Ty)
  | v :: L, t :: gs => (v, t) :: zipS L gs
  | _, _ => []
theorem look_zipS : ∀ (L : List Int) (gs : List Ty), gs.length = L.length → ∀ v, look (zipS L gs) v = (plc L v).bind fun p => gs[p]? := by
  intro L
  induction L with
  | nil => intro gs _ v; cases gs <;> rfl
  | cons w L ih =>
    intro gs hl v
    cases gs with
    | nil => cases hl
    | cons t gs =>
      rw [zipS, look_cons, plc]
      by_cases e : w = v
      · subst e
        simp
      · rw [if_neg (by simpa using e), if_neg (by simpa using e), ih gs (by simpa using hl) v]
        cases plc L v <;> rfl
theorem opn_zip {L : List Int} {gs : List Ty} (hl : gs.length = L.length) (T : Ty) (ho : openT T = true) (hp : plainV T = true) : opn gs (repl (clF L 0) T) = repl (zipS L gs) T :=
  opn_close hl (fun v p e => by rw [look_zipS L gs hl, e]; rfl) (fun v e => by rw [look_zipS L gs hl, e]; rfl) T ho hp
/-- A type closed whole is at least as general as what a substitution makes of it, however that is closed. -/
theorem close_gen {nm : Nat → ByteArray} {s : List (Int × Ty)} {x : Ty} {ids idy : List Int} (ox : openT x = true) (px : plainV x = true) (oy : openT (repl s x) = true) (py : plainV (repl s x) = true) (hall : ∀ v ∈ vids x, ids.contains v = true) :
    GenS nm (clV ids x).length (clT ids x) (clV idy (repl s x)).length (clT idy (repl s x)) := by
  have hfl : (frs nm (clV idy (repl s x)).length).length = (clV idy (repl s x)).length := frs_len nm _
  refine ⟨(clV ids x).map fun v => repl (zipS (clV idy (repl s x)) (frs nm (clV idy (repl s x)).length)) (repl s (cv v)), by rw [List.length_map], ?_⟩
  unfold clT
  rw [opn_zip (by rw [List.length_map]) x ox px, opn_zip hfl _ oy py, ← repl_cmp]
  refine repl_ext x px fun v hv => ?_
  have hm : v ∈ clV ids x := List.mem_filter.2 ⟨by rw [ded_mem]; exact .inr hv, hall v hv⟩
  obtain ⟨p, hp⟩ := plc_some hm
  obtain ⟨h1, h2⟩ := plc_lt hp
  have : look (zipS (clV ids x) ((clV ids x).map fun v => repl (zipS (clV idy (repl s x)) (frs nm (clV idy (repl s x)).length)) (repl s (cv v)))) v = some (repl (zipS (clV idy (repl s x)) (frs nm (clV idy (repl s x)).length)) (repl s (cv v))) := by
    rw [look_zipS _ _ (by rw [List.length_map]), hp]
    simp [h2]
  rw [repl_cv this, repl_cmp]
end Go.Proofs.Ytahiefgfhpkoeaa
