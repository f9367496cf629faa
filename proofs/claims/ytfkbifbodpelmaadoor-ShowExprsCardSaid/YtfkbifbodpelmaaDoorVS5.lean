import Derived.Test.YtfkbifbodpelmaaDoorVS3
import Derived.Test.YtfkbifbodpelmaaDoorVS4
/- The canonical text of an expression: the reference's Expr at every expression that can be written. -/
namespace Go.Proofs.YtfkbifbodpelmaaDoor
open Go.RowKit Go.Maps Mth

theorem isLo_pos {l : List UInt8} (h : isLo l = true) : 1 ≤ l.length := by
  cases l with
  | nil => revert h; decide
  | cons a l => simp
theorem isUp_pos {l : List UInt8} (h : isUp l = true) : 1 ≤ l.length := by
  cases l with
  | nil => revert h; decide
  | cons a l => simp
theorem brk_le (q : Bool) (l : List UInt8) : l.length ≤ (brk q l).length := by
  cases q <;> simp [brk] <;> omega
theorem shA_nodes : ∀ l : List Ty, (∀ U ∈ l, nodes U ≤ (shT U).length) → nodesL l ≤ (shA l).length
  | [], _ => Nat.le_refl _
  | t :: l, h => by
    have h1 := h t (by simp)
    have h2 := shA_nodes l fun U hU => h U (by simp [hU])
    have h3 := brk_le (conArgs t) (shT t)
    simp only [nodesL, shA, List.length_cons, List.length_append]
    omega
/-- A text has as many letters as its type has parts. -/
theorem nodes_le : ∀ T, src T = true → nodes T ≤ (shT T).length := by
  refine tyInd fun T ih hs => ?_
  cases T with
  | mk k n i h ts =>
    have hm := fun U (hU : U ∈ ts) => ih U hU (srcL_mem (by simp only [src, Bool.and_eq_true] at hs; exact hs.2) hU)
    simp only [src, Bool.and_eq_true] at hs
    obtain ⟨⟨-, hk⟩, -⟩ := hs
    by_cases h5 : (k == 5) = true
    · rw [if_pos h5] at hk
      simp only [Bool.and_eq_true, beq_iff_eq] at hk
      have h1 := isLo_pos hk.1
      obtain rfl := List.eq_nil_of_length_eq_zero hk.2
      simp only [shT, h5, if_true, nodes, nodesL]
      omega
    · rw [if_neg h5] at hk
      simp only [Bool.and_eq_true] at hk
      have h5' : (k == 5) = false := by simpa using h5
      by_cases ha : (n.toList == [45, 62]) = true
      · rw [if_pos ha] at hk
        match ts, hk.2, hm with
        | [a, c], _, hm =>
          have h1 := hm a (by simp)
          have h2 := hm c (by simp)
          have h3 := brk_le (isArr a) (shT a)
          simp only [shT, h5', ha, if_true, Bool.false_eq_true, if_false, shH, shB, nodes, nodesL, List.length_append, List.length_cons, List.length_nil]
          omega
      · rw [if_neg ha] at hk
        have h1 := isUp_pos hk.2
        have h2 := shA_nodes ts hm
        have ha' : (n.toList == [45, 62]) = false := by simpa using ha
        simp only [shT, h5', ha', Bool.false_eq_true, if_false, nodes, List.length_append]
        omega
theorem one_of {l : List Ex} (h : l.length = 1) : ∃ a, l = [a] := by
  match l, h with
  | [a], _ => exact ⟨a, rfl⟩
theorem two_of {l : List Ex} (h : l.length = 2) : ∃ a b, l = [a, b] := by
  match l, h with
  | [a, b], _ => exact ⟨a, b, rfl⟩
/-- An arm's body is no longer than its case. -/
theorem arm_le : ∀ (l : List (AH × Ex)) (A : AH × Ex), A ∈ l → (shE A.2).length ≤ (shA0 l).length ∧ (shE A.2).length ≤ (shAr l).length
  | (h, e) :: l, A, hA => by
    rcases List.mem_cons.1 hA with rfl | hA
    · simp only [shA0, shAr, List.length_append, List.length_cons]; omega
    · have := (arm_le l A hA).2
      simp only [shA0, shAr, List.length_append, List.length_cons]; omega
theorem xs_any : ∀ T, XsAt T := by
  refine Ex.induct fun T ihK ihA hs hl c S w h => ?_
  have HK := fun U (hU : U ∈ T.kids) (hsU : srcE U = true) (hlU : (shE U).length ≤ 100000) => (show XC U from fun c S w h => ihK U hU hsU hlU c S w h)
  have HA := fun A (hA : A ∈ T.arms) (hsA : srcE A.2 = true) (hlA : (shE A.2).length ≤ 100000) => (show XC A.2 from fun c S w h => ihA A hA hsA hlA c S w h)
  clear ihK ihA
  obtain ⟨k, p, n, m, t, kids, arms⟩ := T
  simp only [Ex.kids, Ex.arms] at HK HA
  have hs0 := hs
  simp only [srcE, Bool.and_eq_true] at hs
  obtain ⟨⟨⟨⟨⟨⟨-, htz⟩, hka⟩, hkm⟩, hsK⟩, hsA⟩, hc⟩ := hs
  have hkid : ∀ U ∈ kids, srcE U = true := fun U hU => srcK_mem hsK hU
  by_cases h1 : (k == 1) = true
  · have e := beq_iff_eq.1 h1; subst e
    exact shx_var _ rfl (by simp [shE, Ex.n]) c S w h
  rw [if_neg h1] at hc
  by_cases h2 : (k == 2) = true
  · have e := beq_iff_eq.1 h2; subst e
    exact shx_con _ rfl (by simp [shE, Ex.n]) c S w h
  rw [if_neg h2] at hc
  by_cases h3 : (k == 3) = true
  · have e := beq_iff_eq.1 h3; subst e
    simp only [show ((3 : Int) == 3) = true from rfl, if_true, Bool.and_eq_true, decide_eq_true_eq] at hc
    obtain ⟨u, rfl⟩ : ∃ u : Nat, m = u := ⟨m.toNat, by omega⟩
    exact shx_int _ u rfl rfl (by omega) (by simp [shE]) c S w h
  rw [if_neg h3] at hc
  by_cases h4 : (k == 4) = true
  · have e := beq_iff_eq.1 h4; subst e
    simp only [show ((4 : Int) == 4) = true from rfl, if_true, Bool.and_eq_true, beq_iff_eq] at hc
    obtain ⟨a, rfl⟩ := one_of hc.2
    have hsh : shE (.mk 4 p n m t [a] arms) = 92 :: (bl n ++ 46 :: 32 :: shE a) := by simp [shE, shK]
    have hla : (shE a).length ≤ 100000 := by rw [hsh] at hl; simp only [List.length_cons, List.length_append] at hl; omega
    exact shx_lam _ a rfl rfl (HK a (by simp) (hkid a (by simp)) hla) hl hsh c S w h
  rw [if_neg h4] at hc
  by_cases h5 : (k == 5) = true
  · have e := beq_iff_eq.1 h5; subst e
    simp only [show ((5 : Int) == 5) = true from rfl, if_true, Bool.and_eq_true, beq_iff_eq] at hc
    obtain ⟨a, b, rfl⟩ := two_of hc.2
    have hsh : shE (.mk 5 p n m t [a, b] arms) = brk (!(atomE a || a.k == 5)) (shE a) ++ 32 :: brk (!atomE b) (shE b) := by simp [shE, shF, shG]
    have e1 := brk_le (!(atomE a || a.k == 5)) (shE a)
    have e2 := brk_le (!atomE b) (shE b)
    have hlab : (shE a).length ≤ 100000 ∧ (shE b).length ≤ 100000 := by rw [hsh] at hl; simp only [List.length_cons, List.length_append] at hl; omega
    have Ha := HK a (by simp) (hkid a (by simp)) hlab.1
    have Hb := HK b (by simp) (hkid b (by simp)) hlab.2
    cases hx : atomE a with
    | true => exact shx_app1 _ a b rfl rfl Ha Hb hx (hkid a (by simp)) (hkid b (by simp)) hl hsh c S w h
    | false =>
      cases h55 : (a.k == 5) with
      | true => exact shx_app2 _ a b rfl rfl Ha Hb hx (beq_iff_eq.1 h55) (hkid a (by simp)) (hkid b (by simp)) hl hsh c S w h
      | false => exact shx_app3 _ a b rfl rfl Ha Hb hx h55 (hkid a (by simp)) (hkid b (by simp)) hl hsh c S w h
  rw [if_neg h5] at hc
  by_cases h6 : (k == 6) = true
  · have e := beq_iff_eq.1 h6; subst e
    simp only [show ((6 : Int) == 6 || (6 : Int) == 7) = true from rfl, if_true, Bool.and_eq_true, beq_iff_eq] at hc
    obtain ⟨a, b, rfl⟩ := two_of hc.2
    have hsh : shE (.mk 6 p n m t [a, b] arms) = [108, 101, 116] ++ 32 :: (bl n ++ 32 :: 61 :: 32 :: (shE a ++ 32 :: ([105, 110] ++ 32 :: shE b))) := by simp [shE, shLt, shK]
    have hlab : (shE a).length ≤ 100000 ∧ (shE b).length ≤ 100000 := by rw [hsh] at hl; simp only [List.length_cons, List.length_append] at hl; omega
    exact shx_let _ a b rfl rfl (HK a (by simp) (hkid a (by simp)) hlab.1) (HK b (by simp) (hkid b (by simp)) hlab.2) hl hsh c S w h
  by_cases h7 : (k == 7) = true
  · have e := beq_iff_eq.1 h7; subst e
    simp only [show ((7 : Int) == 6 || (7 : Int) == 7) = true from rfl, if_true, Bool.and_eq_true, beq_iff_eq] at hc
    obtain ⟨a, b, rfl⟩ := two_of hc.2
    have hsh : shE (.mk 7 p n m t [a, b] arms) = [108, 101, 116] ++ 32 :: ([114, 101, 99] ++ 32 :: (bl n ++ 32 :: 61 :: 32 :: (shE a ++ 32 :: ([105, 110] ++ 32 :: shE b)))) := by simp [shE, shLt, shK]
    have hlab : (shE a).length ≤ 100000 ∧ (shE b).length ≤ 100000 := by rw [hsh] at hl; simp only [List.length_cons, List.length_append] at hl; omega
    exact shx_rec _ a b rfl rfl (HK a (by simp) (hkid a (by simp)) hlab.1) (HK b (by simp) (hkid b (by simp)) hlab.2) hl hsh c S w h
  have h67 : (k == 6 || k == 7) = false := by simp [h6, h7]
  rw [h67] at hc
  simp only [Bool.false_eq_true, if_false] at hc
  by_cases h8 : (k == 8) = true
  · have e := beq_iff_eq.1 h8; subst e
    simp only [show ((8 : Int) == 8) = true from rfl, if_true, Bool.and_eq_true, beq_iff_eq] at hc
    obtain ⟨a, rfl⟩ := one_of hc.1.2
    have hsh : shE (.mk 8 p n m t [a] arms) = [99, 97, 115, 101] ++ 32 :: (shE a ++ 32 :: ([111, 102] ++ 32 :: (shA0 arms ++ 32 :: [101, 110, 100]))) := by simp [shE, shK]
    have hla : (shE a).length ≤ 100000 ∧ (shA0 arms).length ≤ 100000 := by rw [hsh] at hl; simp only [List.length_cons, List.length_append] at hl; omega
    exact shx_case (.mk 8 p n m t [a] arms) a rfl rfl (HK a (by simp) (hkid a (by simp)) hla.1) (fun A hA => HA A hA (srcA_mem hsA hA).2.2.2 (Nat.le_trans (arm_le arms A hA).1 hla.2)) hl hsh c S w h
  rw [if_neg h8] at hc
  by_cases h9 : (k == 9) = true
  · have e := beq_iff_eq.1 h9; subst e
    simp only [show ((9 : Int) == 9) = true from rfl, if_true, Bool.and_eq_true, beq_iff_eq] at hc
    obtain ⟨a, rfl⟩ := one_of hc.1.2
    have hsh : shE (.mk 9 p n m t [a] arms) = 40 :: (shE a ++ 32 :: 58 :: 32 :: (shT t ++ [41])) := by simp [shE, shK]
    have hla : (shE a).length ≤ 100000 ∧ (shT t).length ≤ 100000 := by rw [hsh] at hl; simp only [List.length_cons, List.length_append] at hl; omega
    exact shx_ann (.mk 9 p n m t [a] arms) a rfl rfl (HK a (by simp) (hkid a (by simp)) hla.1) hc.2 (Nat.le_trans (nodes_le t hc.2) hla.2) hl hsh c S w h
  rw [if_neg h9] at hc
  by_cases h10 : (k == 10) = true
  · have e := beq_iff_eq.1 h10; subst e
    exact shx_hole _ rfl (by simp [shE]) c S w h
  rw [if_neg h10] at hc
  simp only [Bool.and_eq_true, beq_iff_eq] at hc
  have e := hc.1.1; subst e
  obtain ⟨a, rfl⟩ := one_of hc.2
  have hsh : shE (.mk 11 p n m t [a] arms) = 123 :: (shE a ++ [125]) := by simp [shE, shK]
  have hla : (shE a).length ≤ 100000 := by rw [hsh] at hl; simp only [List.length_cons, List.length_append] at hl; omega
  exact shx_held _ a rfl rfl (HK a (by simp) (hkid a (by simp)) hla) hl hsh c S w h
end Go.Proofs.YtfkbifbodpelmaaDoor
