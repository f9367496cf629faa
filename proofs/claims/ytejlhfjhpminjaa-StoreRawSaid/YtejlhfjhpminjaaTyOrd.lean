/- The order of types, as plain functions: it is total. -/
import Derived.Test.YtejlhfjhpminjaaTyEq
namespace Go.Proofs.Ytejlhfjhpminjaa
open Go.RowKit Mth

def cI (a b : Int) : Int := if a < b then -1 else if b < a then 1 else 0
def cB (x y : List UInt8) : Int := if Op.bytesLess x y then -1 else if x == y then 0 else 1
def orr (a b : Int) : Int := if a = 0 then b else a
mutual
def cmpT : Ty → Ty → Int
  | .mk k n i h ts, .mk k' n' i' h' ts' => orr (cI k k') (orr (cB n.toList n'.toList) (orr (cI i i') (orr (cI h h') (orr (cI ts.length ts'.length) (cmpL ts ts')))))
def cmpL : List Ty → List Ty → Int
  | [], [] => 0
  | [], _ :: _ => -1
  | _ :: _, [] => 1
  | t :: l, t' :: l' => orr (cmpT t t') (cmpL l l')
end
theorem less_flip : ∀ x y : List UInt8, Op.bytesLess x y = true → Op.bytesLess y x = false ∧ (x == y) = false := by
  intro x
  induction x with
  | nil => intro y h; cases y <;> simp [Op.bytesLess] at h ⊢
  | cons a x ih =>
    intro y h
    cases y with
    | nil => simp [Op.bytesLess] at h
    | cons b y =>
      simp only [Op.bytesLess, Bool.or_eq_true, Bool.and_eq_true, decide_eq_true_eq, beq_iff_eq] at h
      rcases h with h | ⟨rfl, h⟩
      · have h' : a.toNat < b.toNat := UInt8.lt_iff_toNat_lt.1 h
        have hne : a ≠ b := fun e => by subst e; omega
        refine ⟨?_, by simp [hne]⟩
        simp only [Op.bytesLess, Bool.or_eq_false_iff, Bool.and_eq_false_iff, decide_eq_false_iff_not]
        exact ⟨fun e => by have := UInt8.lt_iff_toNat_lt.1 e; omega, .inl (by simpa using fun e => hne e.symm)⟩
      · obtain ⟨h1, h2⟩ := ih y h
        refine ⟨?_, by simpa using h2⟩
        simp only [Op.bytesLess, Bool.or_eq_false_iff, Bool.and_eq_false_iff, decide_eq_false_iff_not]
        exact ⟨fun e => by have := UInt8.lt_iff_toNat_lt.1 e; omega, .inr h1⟩
theorem less_total : ∀ x y : List UInt8, Op.bytesLess x y = false → (x == y) = false → Op.bytesLess y x = true := by
  intro x
  induction x with
  | nil => intro y h he; cases y <;> simp [Op.bytesLess] at h he ⊢
  | cons a x ih =>
    intro y h he
    cases y with
    | nil => simp [Op.bytesLess]
    | cons b y =>
      simp only [Op.bytesLess, Bool.or_eq_false_iff, Bool.and_eq_false_iff, decide_eq_false_iff_not] at h
      simp only [Op.bytesLess, Bool.or_eq_true, Bool.and_eq_true, decide_eq_true_eq, beq_iff_eq]
      by_cases e : b = a
      · subst e
        right
        refine ⟨rfl, ih y ?_ (by simpa using he)⟩
        rcases h.2 with h' | h'
        · simp at h'
        · exact h'
      · left
        have h1 : ¬ a.toNat < b.toNat := fun e' => h.1 (UInt8.lt_iff_toNat_lt.2 e')
        have h2 : a.toNat ≠ b.toNat := fun e' => e (UInt8.toNat_inj.1 e'.symm)
        exact UInt8.lt_iff_toNat_lt.2 (by omega)
theorem less_trans : ∀ x y z : List UInt8, Op.bytesLess x y = true → Op.bytesLess y z = true → Op.bytesLess x z = true := by
  intro x
  induction x with
  | nil =>
    intro y z h h'
    cases z with
    | nil => cases y <;> simp [Op.bytesLess] at h'
    | cons c z => rfl
  | cons a x ih =>
    intro y z h h'
    cases y with
    | nil => simp [Op.bytesLess] at h
    | cons b y =>
      cases z with
      | nil => simp [Op.bytesLess] at h'
      | cons c z =>
        simp only [Op.bytesLess, Bool.or_eq_true, Bool.and_eq_true, decide_eq_true_eq, beq_iff_eq] at h h' ⊢
        rcases h with h | ⟨rfl, h⟩
        · have h1 := UInt8.lt_iff_toNat_lt.1 h
          rcases h' with h' | ⟨rfl, h'⟩
          · have h2 := UInt8.lt_iff_toNat_lt.1 h'
            exact .inl (UInt8.lt_iff_toNat_lt.2 (by omega))
          · exact .inl h
        · rcases h' with h' | ⟨rfl, h'⟩
          · exact .inl h'
          · exact .inr ⟨rfl, ih y z h h'⟩
theorem cB_flip (x y : List UInt8) : cB y x = -cB x y := by
  unfold cB
  cases h : Op.bytesLess x y with
  | true => obtain ⟨h1, h2⟩ := less_flip x y h; rw [h1]; have : (y == x) = false := by simpa using fun e : y = x => by subst e; simp at h2
            simp [this]
  | false =>
    cases he : (x == y) with
    | true => have := beq_iff_eq.1 he; subst this; rw [h]; simp
    | false => rw [less_total x y h he]; simp
theorem cB_zero {x y : List UInt8} (h : cB x y = 0) : x = y := by
  unfold cB at h
  split at h
  · omega
  · split at h
    · rename_i e; exact beq_iff_eq.1 e
    · omega
theorem cB_self (x : List UInt8) : cB x x = 0 := by have := cB_flip x x; omega
theorem cB_trans {x y z : List UInt8} (h : cB x y < 0) (h' : cB y z < 0) : cB x z < 0 := by
  have k : ∀ {a b : List UInt8}, cB a b < 0 → Op.bytesLess a b = true := fun {a b} h => by
    unfold cB at h
    split at h
    · assumption
    · split at h <;> omega
  have := less_trans x y z (k h) (k h')
  unfold cB; rw [this]; simp
theorem cI_flip (a b : Int) : cI b a = -cI a b := by unfold cI; split <;> split <;> omega
theorem cI_zero {a b : Int} (h : cI a b = 0) : a = b := by unfold cI at h; split at h <;> first | omega | (split at h <;> omega)
theorem cI_trans {a b c : Int} (h : cI a b < 0) (h' : cI b c < 0) : cI a c < 0 := by
  have k : ∀ {a b : Int}, cI a b < 0 → a < b := fun {a b} h => by unfold cI at h; split at h <;> first | assumption | (split at h <;> omega)
  have h1 := k h
  have h2 := k h'
  unfold cI; rw [if_pos (by omega)]; omega
theorem orr_flip {a b a' b' : Int} (h : a' = -a) (h' : b' = -b) : orr a' b' = -orr a b := by unfold orr; split <;> split <;> omega
theorem orr_zero {a b : Int} (h : orr a b = 0) : a = 0 ∧ b = 0 := by unfold orr at h; split at h <;> omega
theorem orr_trans {p q r a b c : Int} (h1 : p < 0 → q < 0 → r < 0) (h2 : p = 0 → r = q) (h3 : q = 0 → r = p) (h4 : a < 0 → b < 0 → c < 0) (h : orr p a < 0) (h' : orr q b < 0) : orr r c < 0 := by
  unfold orr at *
  by_cases hp : p = 0
  · have e := h2 hp
    rw [if_pos hp] at h
    by_cases hq : q = 0
    · rw [if_pos hq] at h'; rw [if_pos (by omega)]; exact h4 h h'
    · rw [if_neg hq] at h'; rw [if_neg (by omega)]; omega
  · rw [if_neg hp] at h
    by_cases hq : q = 0
    · have e := h3 hq; rw [if_neg (by omega)]; omega
    · rw [if_neg hq] at h'; have := h1 h h'; rw [if_neg (by omega)]; exact this
theorem nodes_ind {p : Ty → Prop} (h : ∀ k n i hm ts, (∀ U ∈ ts, p U) → p (.mk k n i hm ts)) : ∀ T, p T := by
  have : ∀ (m : Nat) (T : Ty), nodes T ≤ m → p T := by
    intro m
    induction m with
    | zero => intro T h; have := nodes_pos T; omega
    | succ m ih =>
      intro T hm
      cases T with
      | mk k n i hh ts =>
        refine h k n i hh ts fun U hU => ih U ?_
        have := nodesL_mem hU
        simp only [nodes] at hm
        omega
  exact fun T => this _ T (Nat.le_refl _)
theorem cmp_flip : ∀ T U : Ty, cmpT U T = -cmpT T U := by
  refine nodes_ind fun k n i h ts ih U => ?_
  cases U with
  | mk k' n' i' h' ts' =>
    have hl : ∀ l l' : List Ty, (∀ U ∈ l, ∀ V, cmpT V U = -cmpT U V) → cmpL l' l = -cmpL l l' := by
      intro l
      induction l with
      | nil => intro l' _; cases l' <;> simp [cmpL]
      | cons t l ihl =>
        intro l' hh
        cases l' with
        | nil => simp [cmpL]
        | cons t' l' => simp only [cmpL]; exact orr_flip (hh t (by simp) t') (ihl l' fun U hU => hh U (by simp [hU]))
    simp only [cmpT]
    exact orr_flip (cI_flip _ _) (orr_flip (cB_flip _ _) (orr_flip (cI_flip _ _) (orr_flip (cI_flip _ _) (orr_flip (cI_flip _ _) (hl ts ts' ih)))))
theorem bytes_ext {a b : ByteArray} (h : a.toList = b.toList) : a = b := by
  rw [Lib.toList_data, Lib.toList_data] at h
  cases a; cases b
  simp only at h
  rw [Array.toList_inj.1 h]
theorem cmp_zero : ∀ T U : Ty, cmpT T U = 0 → T = U := by
  refine nodes_ind fun k n i h ts ih U hz => ?_
  cases U with
  | mk k' n' i' h' ts' =>
    have hl : ∀ l l' : List Ty, (∀ U ∈ l, ∀ V, cmpT U V = 0 → U = V) → cmpL l l' = 0 → l = l' := by
      intro l
      induction l with
      | nil => intro l' _ hz; cases l' <;> simp [cmpL] at hz ⊢
      | cons t l ihl =>
        intro l' hh hz
        cases l' with
        | nil => simp [cmpL] at hz
        | cons t' l' =>
          simp only [cmpL] at hz
          obtain ⟨h1, h2⟩ := orr_zero hz
          rw [hh t (by simp) t' h1, ihl l' (fun U hU => hh U (by simp [hU])) h2]
    simp only [cmpT] at hz
    obtain ⟨e1, hz⟩ := orr_zero hz
    obtain ⟨e2, hz⟩ := orr_zero hz
    obtain ⟨e3, hz⟩ := orr_zero hz
    obtain ⟨e4, hz⟩ := orr_zero hz
    obtain ⟨e5, hz⟩ := orr_zero hz
    rw [cI_zero e1, bytes_ext (cB_zero e2), cI_zero e3, cI_zero e4, hl ts ts' ih hz]
theorem cmp_self (T : Ty) : cmpT T T = 0 := by have := cmp_flip T T; omega
theorem cmp_trans : ∀ T U V : Ty, cmpT T U < 0 → cmpT U V < 0 → cmpT T V < 0 := by
  refine nodes_ind fun k n i h ts ih U V => ?_
  cases U with
  | mk k' n' i' h' ts' =>
  cases V with
  | mk k'' n'' i'' h'' ts'' =>
    have hl : ∀ l l' l'' : List Ty, (∀ U ∈ l, ∀ V W, cmpT U V < 0 → cmpT V W < 0 → cmpT U W < 0) → cmpL l l' < 0 → cmpL l' l'' < 0 → cmpL l l'' < 0 := by
      intro l
      induction l with
      | nil =>
        intro l' l'' _ h1 h2
        cases l'' with
        | nil => cases l' <;> simp [cmpL] at h1 h2
        | cons t l => simp [cmpL]
      | cons t l ihl =>
        intro l' l'' hh h1 h2
        cases l' with
        | nil => simp [cmpL] at h1
        | cons t' l' =>
          cases l'' with
          | nil => simp [cmpL] at h2
          | cons t'' l'' =>
            simp only [cmpL] at h1 h2 ⊢
            exact orr_trans (hh t (by simp) t' t'') (fun e => by rw [cmp_zero _ _ e]) (fun e => by rw [cmp_zero _ _ e]) (ihl l' l'' fun U hU => hh U (by simp [hU])) h1 h2
    simp only [cmpT]
    exact orr_trans cI_trans (fun e => by rw [cI_zero e]) (fun e => by rw [cI_zero e])
      (orr_trans cB_trans (fun e => by rw [cB_zero e]) (fun e => by rw [cB_zero e])
        (orr_trans cI_trans (fun e => by rw [cI_zero e]) (fun e => by rw [cI_zero e])
          (orr_trans cI_trans (fun e => by rw [cI_zero e]) (fun e => by rw [cI_zero e])
            (orr_trans cI_trans (fun e => by rw [cI_zero e]) (fun e => by rw [cI_zero e]) (hl ts ts' ts'' ih)))))
theorem teq_eq : ∀ T U : Ty, teq T U = true → T = U := by
  refine nodes_ind fun k n i h ts ih U hz => ?_
  cases U with
  | mk k' n' i' h' ts' =>
    have hl : ∀ l l' : List Ty, (∀ U ∈ l, ∀ V, teq U V = true → U = V) → teqL l l' = true → l = l' := by
      intro l
      induction l with
      | nil => intro l' _ hz; cases l' <;> simp [teqL] at hz ⊢
      | cons t l ihl =>
        intro l' hh hz
        cases l' with
        | nil => simp [teqL] at hz
        | cons t' l' =>
          simp only [teqL, Bool.and_eq_true] at hz
          rw [hh t (by simp) t' hz.1, ihl l' (fun U hU => hh U (by simp [hU])) hz.2]
    simp only [teq, Bool.and_eq_true, beq_iff_eq] at hz
    obtain ⟨⟨⟨⟨h1, h2⟩, h3⟩, h4⟩, h5⟩ := hz
    rw [h1, bytes_ext h2, h3, h4, hl ts ts' ih h5]
theorem teq_id (T : Ty) : teq T T = true := by
  refine nodes_ind (p := fun T => teq T T = true) (fun k n i h ts ih => ?_) T
  have : teqL ts ts = true := by
    have key : ∀ l : List Ty, (∀ U ∈ l, teq U U = true) → teqL l l = true := by
      intro l
      induction l with
      | nil => intro _; rfl
      | cons x l ihl => intro hl; simp [teqL, hl x (by simp), ihl fun U hU => hl U (by simp [hU])]
    exact key ts ih
  simp [teq, this]
theorem cmp_teq (T U : Ty) : (cmpT T U == 0) = teq T U := by
  rw [Bool.eq_iff_iff]
  constructor
  · intro h
    rw [cmp_zero T U (by simpa using h)]
    exact teq_id U
  · intro h
    rw [teq_eq T U h]
    simp [cmp_self]
theorem orr_range {a b : Int} (h : -1 ≤ a ∧ a ≤ 1) (h' : -1 ≤ b ∧ b ≤ 1) : -1 ≤ orr a b ∧ orr a b ≤ 1 := by unfold orr; split <;> assumption
theorem cI_range (a b : Int) : -1 ≤ cI a b ∧ cI a b ≤ 1 := by unfold cI; split <;> first | omega | (split <;> omega)
theorem cB_range (a b : List UInt8) : -1 ≤ cB a b ∧ cB a b ≤ 1 := by unfold cB; split <;> first | omega | (split <;> omega)
theorem cmp_range : ∀ T U : Ty, -1 ≤ cmpT T U ∧ cmpT T U ≤ 1 := by
  refine nodes_ind fun k n i h ts ih U => ?_
  cases U with
  | mk k' n' i' h' ts' =>
    have hl : ∀ l l' : List Ty, (∀ U ∈ l, ∀ V, -1 ≤ cmpT U V ∧ cmpT U V ≤ 1) → -1 ≤ cmpL l l' ∧ cmpL l l' ≤ 1 := by
      intro l
      induction l with
      | nil => intro l' _; cases l' <;> simp [cmpL]
      | cons t l ihl =>
        intro l' hh
        cases l' with
        | nil => simp [cmpL]
        | cons t' l' => simp only [cmpL]; exact orr_range (hh t (by simp) t') (ihl l' fun U hU => hh U (by simp [hU]))
    simp only [cmpT]
    exact orr_range (cI_range _ _) (orr_range (cB_range _ _) (orr_range (cI_range _ _) (orr_range (cI_range _ _) (orr_range (cI_range _ _) (hl ts ts' ih)))))
end Go.Proofs.Ytejlhfjhpminjaa
