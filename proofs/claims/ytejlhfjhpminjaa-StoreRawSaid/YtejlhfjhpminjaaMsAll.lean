/- The contracts that the law TypesMeasured calls. -/
import Derived.Test.YtejlhfjhpminjaaTyVars
import Derived.Test.YtejlhfjhpminjaaTyVal3
import Derived.Test.YtejlhfjhpminjaaTyEq2
import Derived.Test.YtejlhfjhpminjaaTyFind
import Derived.Test.YtejlhfjhpminjaaTyEq3
import Derived.Lib.QuietBelow
import Derived.Deep.CutBlock
import Derived.BigQuiet
import Derived.Deep.QuietTactic
import Derived.Deep.AppendLies
import Derived.Test.YtejlhfjhpminjaaTyOpen
import Derived.DeepKeys4
import Derived.MapViews
import Derived.Test.YtejlhfjhpminjaaTyNodes
import Derived.Test.YtejlhfjhpminjaaTySmall
import Derived.Test.YtejlhfjhpminjaaTyMake
namespace Go.Proofs.Ytejlhfjhpminjaa
section
open Go.RowKit Mth
/-- One leaf more, unless it is there. -/
def stq (acc : List Ty) (X : Ty) : List Ty := if acc.any (fun Y => teq Y X) then acc else acc ++ [X]
mutual
def lv (K : Int) (acc : List Ty) : Ty → List Ty
  | .mk k n i h ts => if k = K ∧ ts.length = 0 then stq acc (.mk k n i h ts) else lvL K acc ts
def lvL (K : Int) (acc : List Ty) : List Ty → List Ty
  | [] => acc
  | t :: l => lvL K (lv K acc t) l
end
theorem lvL_append (K : Int) : ∀ (l l' : List Ty) (acc : List Ty), lvL K acc (l ++ l') = lvL K (lvL K acc l) l' := by
  intro l l'
  induction l with
  | nil => intro acc; rfl
  | cons t l ih => intro acc; simp only [List.cons_append, lvL]; exact ih _
theorem stq_len (acc : List Ty) (X : Ty) : acc.length ≤ (stq acc X).length ∧ (stq acc X).length ≤ acc.length + 1 := by unfold stq; split <;> simp
theorem lv_len (K : Int) : ∀ (T : Ty) (acc : List Ty), (lv K acc T).length ≤ acc.length + nodes T := by
  refine Ty.induct fun T ih acc => ?_
  cases T with
  | mk k n i h ts =>
    have key : ∀ (l : List Ty), (∀ U ∈ l, ∀ acc : List Ty, (lv K acc U).length ≤ acc.length + nodes U) → ∀ acc : List Ty, (lvL K acc l).length ≤ acc.length + nodesL l := by
      intro l
      induction l with
      | nil => intro _ acc; simp [lvL, nodesL]
      | cons t l ihl =>
        intro hl acc
        have h1 := hl t (by simp) acc
        have h2 := ihl (fun U hU => hl U (by simp [hU])) (lv K acc t)
        simp only [lvL, nodesL]; omega
    unfold lv
    split
    · have := (stq_len acc (.mk k n i h ts)).2; simp only [nodes]; omega
    · have := key ts ih acc; simp only [nodes]; omega
theorem lvL_len (K : Int) (l : List Ty) : ∀ acc : List Ty, (lvL K acc l).length ≤ acc.length + nodesL l := by
  induction l with
  | nil => intro acc; simp [lvL, nodesL]
  | cons t l ih =>
    intro acc
    have h1 := lv_len K t acc
    have h2 := ih (lv K acc t)
    simp only [lvL, nodesL]; omega
/-- A valid type of a leaf's kind has no arguments. -/
theorem valid_leaf {T : Ty} {K : Int} (hK : K = 1 ∨ K = 3) (h : valid T = true) (hk : T.k = K) : T.ts = [] ∧ T.n.toList = [] ∧ (K = 1 → T.h = 0) := by
  cases T with
  | mk k n i h' ts =>
    simp only [Ty.k] at hk
    simp only [valid] at h
    rcases hK with rfl | rfl
    · rw [hk, if_pos (by decide)] at h
      simp at h
      exact ⟨h.2, h.1.1.2, fun _ => h.1.2⟩
    · rw [hk, if_neg (by decide), if_pos rfl] at h
      simp at h
      exact ⟨h.2, h.1.2, fun e => absurd e (by decide)⟩
theorem valid_ts {T : Ty} (h : valid T = true) : ∀ U ∈ T.ts, valid U = true := by
  cases T with
  | mk k n i h' ts =>
    intro U hU
    simp only [Ty.ts] at hU
    simp only [valid] at h
    split at h
    · simp at h; rw [h.2] at hU; simp at hU
    · split at h
      · simp at h; rw [h.2] at hU; simp at hU
      · split at h
        · simp at h; exact validL_mem h.2 hU
        · split at h
          · simp at h; rw [h.2] at hU; simp at hU
          · simp at h
theorem lv_fold {K : Int} (hK : K = 1 ∨ K = 3) : ∀ (T : Ty), valid T = true → ∀ acc, lv K acc T = (nk K T).foldl stq acc := by
  refine Ty.induct fun T ih hv acc => ?_
  have key : ∀ (l : List Ty), (∀ U ∈ l, ∀ acc, lv K acc U = (nk K U).foldl stq acc) → ∀ acc, lvL K acc l = (nkL K l).foldl stq acc := by
    intro l
    induction l with
    | nil => intro _ acc; rfl
    | cons t l ihl =>
      intro hl acc
      simp only [lvL, nkL, List.foldl_append]
      rw [hl t (by simp) acc, ihl fun U hU => hl U (by simp [hU])]
  have hts := valid_ts hv
  have hlf := fun hk => valid_leaf hK hv hk
  cases T with
  | mk k n i h ts =>
    simp only [Ty.k, Ty.ts] at hlf hts ih
    simp only [lv, nk]
    by_cases hk : k = K
    · obtain ⟨h1, -, -⟩ := hlf hk
      rw [if_pos ⟨hk, by rw [h1]; rfl⟩, if_pos hk, h1]
      rfl
    · rw [if_neg (fun e => hk e.1), if_neg hk]
      simpa using key ts (fun U hU => ih U hU (hts U hU)) acc
theorem lvL_fold {K : Int} (hK : K = 1 ∨ K = 3) (l : List Ty) (hv : ∀ T ∈ l, valid T = true) : ∀ acc, lvL K acc l = (nkL K l).foldl stq acc := by
  induction l with
  | nil => intro acc; rfl
  | cons t l ih =>
    intro acc
    simp only [lvL, nkL, List.foldl_append]
    rw [lv_fold hK t (hv t (by simp)) acc, ih fun U hU => hv U (by simp [hU])]
theorem nk_valid (K : Int) : ∀ (T : Ty), valid T = true → ∀ X ∈ nk K T, valid X = true ∧ X.k = K := by
  refine Ty.induct fun T ih hv X hX => ?_
  have hts := valid_ts hv
  cases T with
  | mk k n i h ts =>
    simp only [Ty.ts] at ih hts
    simp only [nk, List.mem_append] at hX
    rcases hX with hX | hX
    · split at hX
      · rename_i hk; simp at hX; subst hX; exact ⟨hv, hk⟩
      · simp at hX
    · rw [nkL_flat] at hX
      obtain ⟨U, hU, hX⟩ := List.mem_flatMap.1 hX
      exact ih U hU (hts U hU) X hX
theorem nkL_valid (K : Int) (l : List Ty) (hv : ∀ T ∈ l, valid T = true) : ∀ X ∈ nkL K l, valid X = true ∧ X.k = K := by
  intro X hX
  rw [nkL_flat] at hX
  obtain ⟨U, hU, hX⟩ := List.mem_flatMap.1 hX
  exact nk_valid K U (hv U hU) X hX
/-- Two valid leaves of one kind are equal if their numbers are. -/
theorem teq_leaf {K : Int} (hK : K = 1 ∨ K = 3) {X Y : Ty} (hX : valid X = true ∧ X.k = K) (hY : valid Y = true ∧ Y.k = K) : teq Y X = (Y.i == X.i && Y.h == X.h) := by
  obtain ⟨a1, a2, -⟩ := valid_leaf hK hX.1 hX.2
  obtain ⟨b1, b2, -⟩ := valid_leaf hK hY.1 hY.2
  have ek : Y.k = X.k := hY.2.trans hX.2.symm
  cases X with
  | mk k n i h ts =>
    cases Y with
    | mk k' n' i' h' ts' =>
      simp only [Ty.k, Ty.n, Ty.ts, Ty.i, Ty.h] at *
      subst a1 b1 ek
      simp [teq, teqL, a2, b2]
theorem teq_var {X Y : Ty} (hX : valid X = true ∧ X.k = 1) (hY : valid Y = true ∧ Y.k = 1) : teq Y X = (Y.i == X.i) := by
  rw [teq_leaf (.inl rfl) hX hY, (valid_leaf (.inl rfl) hX.1 hX.2).2.2 rfl, (valid_leaf (.inl rfl) hY.1 hY.2).2.2 rfl]
  simp
theorem any_ids {acc : List Ty} (ha : ∀ Y ∈ acc, valid Y = true ∧ Y.k = 1) {X : Ty} (hX : valid X = true ∧ X.k = 1) : acc.any (fun Y => teq Y X) = (acc.map Ty.i).contains X.i := by
  induction acc with
  | nil => rfl
  | cons Y acc ih =>
    rw [List.any_cons, List.map_cons, List.contains_cons, ih (fun Z hZ => ha Z (by simp [hZ])), teq_var hX (ha Y (by simp))]
    congr 1
    rw [Bool.eq_iff_iff]; simp; exact ⟨fun e => e.symm, fun e => e.symm⟩
theorem stq_mem {p : Ty → Prop} {acc : List Ty} (ha : ∀ Y ∈ acc, p Y) {X : Ty} (hX : p X) : ∀ Y ∈ stq acc X, p Y := by
  unfold stq
  split
  · exact ha
  · intro Y hY
    rcases List.mem_append.1 hY with h | h
    · exact ha Y h
    · simp at h; subst h; exact hX
theorem fold_ids : ∀ (N acc : List Ty), (∀ X ∈ N, valid X = true ∧ X.k = 1) → (∀ Y ∈ acc, valid Y = true ∧ Y.k = 1) → (N.foldl stq acc).map Ty.i = ded (acc.map Ty.i) (N.map Ty.i) := by
  intro N
  induction N with
  | nil => intro acc _ _; rfl
  | cons X N ih =>
    intro acc hN ha
    have hX := hN X (by simp)
    rw [List.foldl_cons, ih (stq acc X) (fun Z hZ => hN Z (by simp [hZ])) (stq_mem ha hX)]
    simp only [List.map_cons, ded]
    unfold stq
    rw [any_ids ha hX]
    split <;> simp
theorem contains_iff {l : List Int} {x : Int} : l.contains x = true ↔ x ∈ l := by simp
theorem ded_nodup : ∀ (l acc : List Int), acc.Nodup → (ded acc l).Nodup := by
  intro l
  induction l with
  | nil => intro acc h; exact h
  | cons x l ih =>
    intro acc h
    simp only [ded]
    split
    · exact ih acc h
    · rename_i hc
      refine ih _ ?_
      rw [List.nodup_append]
      refine ⟨h, by simp, fun a ha b hb e => ?_⟩
      simp at hb
      subst hb e
      exact hc (contains_iff.2 ha)
theorem ded_id : ∀ (l acc : List Int), (acc ++ l).Nodup → ded acc l = acc ++ l := by
  intro l
  induction l with
  | nil => intro acc _; simp [ded]
  | cons x l ih =>
    intro acc h
    have hx : ¬ acc.contains x = true := fun e => by
      rw [List.nodup_append] at h
      exact h.2.2 x (contains_iff.1 e) x (by simp) rfl
    simp only [ded]
    rw [if_neg hx, ih (acc ++ [x]) (by simpa using h)]
    simp
/-- The variables of valid types, as the reference lists them. -/
theorem vars_same (l : List Ty) (hv : ∀ T ∈ l, valid T = true) : ded [] ((lvL 1 [] l).map Ty.i) = varsOf l := by
  rw [lvL_fold (.inl rfl) l hv, fold_ids _ [] (nkL_valid 1 l hv) (fun Y h => by cases h)]
  show ded [] (ded [] _) = ded [] _
  rw [ded_id _ [] (by simpa using ded_nodup _ [] (by simp))]
  rfl
theorem ded_mem (x : Int) : ∀ (l acc : List Int), x ∈ ded acc l ↔ x ∈ acc ∨ x ∈ l := by
  intro l
  induction l with
  | nil => intro acc; simp [ded]
  | cons y l ih =>
    intro acc
    simp only [ded]
    split
    · rename_i hc
      rw [ih]
      constructor
      · rintro (h | h)
        · exact .inl h
        · exact .inr (by simp [h])
      · rintro (h | h)
        · exact .inl h
        · simp at h
          rcases h with rfl | h
          · exact .inl (contains_iff.1 hc)
          · exact .inr h
    · rw [ih]
      simp [or_assoc]

mutual
def occ (id : Int) : Ty → Bool
  | .mk k _ i _ ts => (k == 1 && i == id) || occL id ts
def occL (id : Int) : List Ty → Bool
  | [] => false
  | t :: l => occ id t || occL id l
end
theorem occL_any (id : Int) : ∀ l : List Ty, occL id l = l.any (occ id) := by
  intro l
  induction l with
  | nil => rfl
  | cons t l ih => simp [occL, ih]
theorem occ_nk (id : Int) : ∀ T : Ty, occ id T = ((nk 1 T).map Ty.i).contains id := by
  refine Ty.induct fun T ih => ?_
  have key : ∀ (l : List Ty), (∀ U ∈ l, occ id U = ((nk 1 U).map Ty.i).contains id) → occL id l = ((nkL 1 l).map Ty.i).contains id := by
    intro l
    induction l with
    | nil => intro _; rfl
    | cons t l ihl =>
      intro hl
      have h1 := hl t (by simp)
      have h2 := ihl fun U hU => hl U (by simp [hU])
      rw [Bool.eq_iff_iff] at h1 h2 ⊢
      simp only [occL, nkL, List.map_append, Bool.or_eq_true, contains_iff, List.mem_append] at *
      rw [h1, h2]
  cases T with
  | mk k n i h ts =>
    have h2 := key ts ih
    rw [Bool.eq_iff_iff] at h2 ⊢
    simp only [occ, nk, List.map_append, Bool.or_eq_true, contains_iff, List.mem_append, Bool.and_eq_true, beq_iff_eq] at *
    rw [h2]
    by_cases hk : k = 1
    · simp [hk, Ty.i]
      exact ⟨fun h => h.imp (fun e => e.symm) (fun e => e), fun h => h.imp (fun e => e.symm) (fun e => e)⟩
    · simp [hk]
theorem occ_vars (id : Int) (T : Ty) : occ id T = (varsOf [T]).contains id := by
  rw [occ_nk, Bool.eq_iff_iff, contains_iff, contains_iff]
  unfold varsOf
  rw [ded_mem]
  simp [nkL]
/-- The rigid constants, by their keys. -/
def stk (acc : List Ty) (X : Ty) : List Ty := if acc.any (fun Y => Y.h == X.h && Y.i == X.i) then acc else acc ++ [X]
def rigsOf (l : List Ty) : List Ty := (nkL 3 l).foldl stk []
theorem fold_rigs : ∀ (N acc : List Ty), (∀ X ∈ N, valid X = true ∧ X.k = 3) → (∀ Y ∈ acc, valid Y = true ∧ Y.k = 3) → N.foldl stk acc = N.foldl stq acc := by
  intro N
  induction N with
  | nil => intro acc _ _; rfl
  | cons X N ih =>
    intro acc hN ha
    have hX := hN X (by simp)
    have e : stk acc X = stq acc X := by
      unfold stk stq
      have : acc.any (fun Y => Y.h == X.h && Y.i == X.i) = acc.any (fun Y => teq Y X) := by
        clear ih
        induction acc with
        | nil => rfl
        | cons Y acc iha => rw [List.any_cons, List.any_cons, iha fun Z hZ => ha Z (by simp [hZ]), teq_leaf (.inr rfl) hX (ha Y (by simp)), Bool.and_comm]
      rw [this]
    rw [List.foldl_cons, List.foldl_cons, e]
    exact ih _ (fun Z hZ => hN Z (by simp [hZ])) (stq_mem ha hX)
theorem rigs_same (l : List Ty) (hv : ∀ T ∈ l, valid T = true) : lvL 3 [] l = rigsOf l := by
  rw [lvL_fold (.inr rfl) l hv]
  exact (fold_rigs _ [] (nkL_valid 3 l hv) (fun Y h => by cases h)).symm
end

section
open Go.RowKit Go.Sort Go.Shelf Go.Maps Mth
theorem has_any (v : Value) (zs : List Int) (id : Int) (w : World) (h : Ints w v zs) : Calls Try.prog 47 #[v, .int .i64 id] w fun e w' => e = .returned (.bool (zs.contains id)) ∧ w = w' := by
  obtain ⟨a, cap, rfl, hcap, hcap2, hj⟩ := h
  have HJ := Lib.hid hj
  clear hj
  unfold maxLen at hcap2
  obtain ⟨n, hn⟩ : ∃ n, n = zs.length := ⟨_, rfl⟩
  rw [← hn] at hcap ⊢
  have HN := Lib.hid hn
  clear hn
  go_enter Try.func47, Try.ntmps47
  go_wp2
  go_loop [5] (fun i => ∃ j : Nat, j ≤ n ∧ i = .int .i64 j ∧ Hid ((zs.take j).contains id = false)) (fun i => n - (intOf i).toNat)
  case atStart => exact ⟨0, Nat.zero_le _, rfl, by show _ = _; simp⟩
  case round =>
    obtain ⟨j, hj, rfl, HT⟩ := hrel
    by_cases hlt : j < n
    · obtain ⟨z, hz⟩ : ∃ z, zs[j]? = some z := ⟨_, List.getElem?_eq_getElem (by rw [← HN.out]; exact hlt)⟩
      obtain ⟨ad, rfl, hc⟩ := HJ.out j z hz
      have HS : Hid ((zs.take (j + 1)).contains id = ((zs.take j).contains id || z == id)) := by
        show _ = _
        rw [List.take_add_one, hz, Bool.eq_iff_iff]
        simp
        exact ⟨fun h => h.imp (fun e => e) (fun e => e.symm), fun h => h.imp (fun e => e) (fun e => e.symm)⟩
      have HM : Hid (z ∈ zs) := List.mem_of_getElem? hz
      have hji : (j : Int) < (n : Int) := by omega
      clear hz
      cases hq : (z == id) with
      | true =>
        have HE : Hid (zs.contains id = true) := by
          show _ = _
          have : z = id := by simpa using hq
          rw [contains_iff, ← this]; exact HM.out
        go_wp2
        go_ret
        exact ⟨ret_bool (by have := HE.out; simp at this; simp [this]), rfl⟩
      | false =>
        have HT2 : Hid ((zs.take (j + 1)).contains id = false) := by show _ = _; rw [HS.out, HT.out, hq]; rfl
        go_wp2
        go_round
        case rel => exact ⟨j + 1, hlt, by go_num, HT2⟩
        case measure => simp [intOf]; omega
    · have HE : Hid (zs.contains id = false) := by
        have := HT.out
        rwa [List.take_of_length_le (by rw [← HN.out]; omega)] at this
      go_wp2
      go_ret
      exact ⟨ret_bool (by have := HE.out; simp at this; simp [this]), rfl⟩

open Go.RowKit Go.Sort Go.Shelf Go.Maps Mth
theorem any_take {l : List Ty} {j : Nat} {T : Ty} (h : l[j]? = some T) (p : Ty → Bool) : (l.take (j + 1)).any p = ((l.take j).any p || p T) := by
  rw [List.take_add_one, h, Option.toList, List.any_append]; simp
/-- The row of a result is the given one or a new one. -/
def Own (w : World) (f v : Value) : Prop := ∀ b, v.ownBlock = some b → f.ownBlock = some b ∨ w.heap.size ≤ b
theorem Own.refl (w : World) (f : Value) : Own w f f := fun _ h => .inl h
theorem below_gr {w w' : World} (h : Below w.heap.size w w') (row : Option Nat) : w.grownBy w' row := ⟨h.os, h.tape, h.output, h.size, fun k hk _ => h.block k hk⟩
/-- One append of one value that was laid for it; whose row it is. -/
theorem wpList_push1b {W : World} {Z : TypeId} {k : Int} {n : ByteArray} {i h : Int} {sa : Option Addr} {sn sc : Nat} {ops : Array Oper} {rest : List Oper} {o : Oper} {a : Act} {Q : Exit → Act → World → Prop} (hgd : o.guard = none) (s x : Operand)
    (ho : o.op = .call { callee := .builtin .append, args := #[s, x], argTypes := #[29, 29] })
    (base : Nat) (S : Nat → Prop) (v : Value) (ts : List Ty) (hs : a.eval s = v) (hrow : RowT W base S v ts)
    (nn : Nat) (hnn : nn = W.heap.size) (hx : a.eval x = .slice (some ⟨nn, 0, none⟩) 1 1) (T : Ty) (hT : Rep W (fun b => S b ∧ some b ≠ v.ownBlock) T (.agg #[.int .i64 k, .string n, .int .i64 i, .int .i64 h, .slice sa sn sc]))
    (N : Nat) (hN : N = ts.length + 1) (hb : N ≤ 1000000) (hbase : base ≤ W.heap.size)
    (hK : ∀ (a' : Option Addr) (c' : Nat) (w' : World), RowT w' base S (.slice a' N c') (ts ++ [T]) → W.grownBy w' v.ownBlock → Own W v (.slice a' N c') → wpList Try.prog ops Q rest (a.put o.dst (.slice a' N c')) w') :
    wpList Try.prog ops Q (o :: rest) a (W.alloc (.cells #[.int .i64 k, .string n, .int .i64 i, .int .i64 h, .slice sa sn sc] Z)) := by
  have hbl : Below W.heap.size W (W.alloc (.cells #[.int .i64 k, .string n, .int .i64 i, .int .i64 h, .slice sa sn sc] Z)) := (Below.refl _ W).alloc (Nat.le_refl _) _
  refine wpList_pushT hgd s x ho base S v ts hs (hrow.lift hbl) ⟨nn, 0, none⟩ 1 1 hx [T] rfl (fun j U hj => ?_) N hN hb (Nat.le_trans hbase hbl.size) (fun a' c' w' h1 h2 h3 => hK a' c' w' h1 (grown_trans (World.grownBy_alloc W _ _) h2) ?_)
  · cases j with
    | zero =>
      simp at hj; subst hj
      exact ⟨_, one_new Z nn hnn, hT.lift hbl⟩
    | succ j => simp at hj
  · intro b e
    rcases h3 with h3 | h3
    · exact .inl (h3 ▸ e)
    · rw [h3] at e
      cases e
      exact .inr hbl.size
set_option maxRecDepth 100000 in
set_option maxHeartbeats 6400000 in
theorem leaves_any (K : Int) : ∀ (m : Nat) (T : Ty), nodes T ≤ m → ∀ (base : Nat) (S : Nat → Prop) (found u : Value) (ts : List Ty) (w : World), base ≤ w.heap.size → ts.length + nodes T ≤ 1000000 → (∀ b, S b → b < base) → RowT w base S found ts → Rep w S T u →
    Calls Try.prog 46 #[found, u, .int .i64 K] w fun e w' => ∃ v', e = .returned v' ∧ RowT w' base S v' (lv K ts T) ∧ w.grownBy w' found.ownBlock ∧ Own w found v' := by
  intro m
  induction m with
  | zero => intro T hm; have := nodes_pos T; omega
  | succ m ih =>
    intro T hm base S found u ts w hbase hN hS hrow h
    obtain ⟨k, n, i, hh, s, eT, rfl, hn, hs⟩ := h.open
    obtain ⟨fa, fc, rfl, hfc, -⟩ := hrow.slice
    have HX := Lib.hid h
    have HA := Lib.hid hs
    obtain ⟨sa, sc, rfl, ⟨hsc, hsc2⟩, -⟩ := hs
    have hnT : nodes T = nodesL T.ts + 1 := by cases T; rfl
    have hlv : lv K ts T = if k = K ∧ T.ts.length = 0 then stq ts T else lvL K ts T.ts := by
      conv => lhs; rw [eT]
      conv => rhs; rw [eT]
      rfl
    have HLv := Lib.hid hlv
    have hba : ∀ X, Below w.heap.size w (w.alloc (.cells X 31)) := fun X => (Below.refl _ w).alloc (Nat.le_refl _) _
    have HBa := Lib.hid hba
    have HRow0 := Lib.hid hrow
    by_cases hleaf : k = K ∧ T.ts.length = 0
    · have HE : Hid (lv K ts T = stq ts T) := by show _ = _; rw [hlv, if_pos hleaf]
      obtain ⟨rfl, hl0⟩ := hleaf
      have hk : (k == k) = true := by simp
      have hl1 : ((T.ts.length : Int) == 0) = true := by rw [hl0]; rfl
      have hl2 : (T.ts.length == 0) = true := by rw [hl0]; rfl
      have HBox : Hid (Box (w.alloc (.cells #[.int .i64 k, .string n, .int .i64 i, .int .i64 hh, .slice sa T.ts.length sc] 31)) w.heap.size (.int .i64 k) (.string n) (.int .i64 i) (.int .i64 hh) (.slice sa T.ts.length sc)) := Box.made _ _ _ _ _ _
      have HRow1 := Lib.hid (hrow.lift (hba #[.int .i64 k, .string n, .int .i64 i, .int .i64 hh, .slice sa T.ts.length sc]))
      have HX1 := Lib.hid (HX.out.lift (hba #[.int .i64 k, .string n, .int .i64 i, .int .i64 hh, .slice sa T.ts.length sc]))
      have hlen := hN
      have hnp := nodes_pos T
      clear hlv hba hrow h eT hn hsc hsc2 hl0
      generalize T.ts.length = sn at *
      obtain ⟨c, hcc⟩ : ∃ c, c = ts.length := ⟨_, rfl⟩
      rw [← hcc] at hlen hfc HRow1 ⊢
      have HC := Lib.hid hcc
      have HB1 := Lib.hid (HBa.out #[.int .i64 k, .string n, .int .i64 i, .int .i64 hh, .slice sa sn sc])
      clear hcc HBa HLv
      go_enter Try.func46, Try.ntmps46
      go_upto_region 2 with fail
      generalize (w.alloc (.cells #[.int .i64 k, .string n, .int .i64 i, .int .i64 hh, .slice sa sn sc] 31)) = V at *
      have hVb : w.heap.size ≤ V.heap.size := HB1.out.size
      go_wp2
      go_loopw [7] (fun x wr => ∃ j : Nat, j ≤ c ∧ x = .int .i64 j ∧ Hid ((ts.take j).any (fun Y => teq Y T) = false) ∧ Hid (Below V.heap.size V wr)) (fun x _ => c - (intOf x).toNat)
      case atStart => exact ⟨0, Nat.zero_le _, rfl, by show _ = _; simp, Below.refl _ V⟩
      case round =>
        obtain ⟨j, hj, rfl, HT, HBr⟩ := hrel
        have HRowr := Lib.hid (HRow1.out.lift HBr.out)
        have HXr := Lib.hid (HX1.out.lift HBr.out)
        have HBoxr := Lib.hid (Box.lift HBox.out HBr.out)
        by_cases hlt : j < c
        · obtain ⟨Y, hY⟩ : ∃ x, ts[j]? = some x := ⟨_, List.getElem?_eq_getElem (by rw [← HC.out]; exact hlt)⟩
          have HS := Lib.hid (any_take hY (fun Y => teq Y T))
          have HMem : Hid (Y ∈ ts) := List.mem_of_getElem? hY
          obtain ⟨a2, c2, hv2, -, hj2⟩ := HRowr.out.repL (S' := fun _ => True) (fun _ _ => trivial) (fun _ _ => trivial)
          obtain ⟨ad, y, had, -, h5, hy⟩ := hj2 j Y hY
          have hfa : fa = some ad := by simp at hv2; rw [hv2.1, had]
          subst hfa
          obtain ⟨yk, yn, yi, yh, ys, -, rfl, -, hys⟩ := hy.open
          obtain ⟨ya, yc, rfl, -⟩ := hys
          obtain ⟨q0, q1, q2, q3, q4⟩ := five_at h5
          have HY := Lib.hid hy
          obtain ⟨b0, b1, b2, b3, b4⟩ := HBoxr.out.cells
          clear hY h5 hy hj2 hv2 had
          generalize Y.ts.length = yn' at *
          have G0 := cell_regrown q0
          have G1 := cell_regrown q1
          have G2 := cell_regrown q2
          have G3 := cell_regrown q3
          have G4 := cell_regrown q4
          have R0 := cell_regrown b0
          have R1 := cell_regrown b1
          have R2 := cell_regrown b2
          have R3 := cell_regrown b3
          have R4 := cell_regrown b4
          have hji : (j : Int) < (c : Int) := by omega
          go_wp2_with fail
          refine wp_region_quiet_below (by kernel_rfl) (by kernel_rfl) ?_
          repeat (quiet_step ((go_at_call 19; exact Calls.regrown_of (refEqual_any _ Y (Nat.le_refl _) T _ _ _ _ _ (HY.out.lift (below_regrown _ _ _)) (HXr.out.lift (below_regrown _ _ _))))))
          refine wpQuiet_nil ?_
          intro _ hw'
          obtain ⟨⟨dq, osq⟩, hw''⟩ := hw'
          subst hw''
          have HB2 := Lib.hid (HBr.out.trans ((below_regrown wr dq osq).mono HBr.out.size))
          clear q0 q1 q2 q3 q4 b0 b1 b2 b3 b4 G0 G1 G2 G3 G4 R0 R1 R2 R3 R4 HRowr HBoxr HXr HY
          generalize grow (redrawn wr dq) osq = wz at *
          cases hq : teq Y T with
          | true =>
            have HE2 : Hid (stq ts T = ts) := by
              show _ = _
              unfold stq
              rw [if_pos (List.any_eq_true.2 ⟨Y, HMem.out, hq⟩)]
            clear hq
            go_wp2
            go_ret
            exact ⟨_, rfl, by rw [HE.out, HE2.out]; exact HRow1.out.lift HB2.out, grown_trans (below_gr HB1.out _) (below_gr HB2.out _), Own.refl _ _⟩
          | false =>
            have HT2 : Hid ((ts.take (j + 1)).any (fun Y => teq Y T) = false) := by show _ = _; rw [HS.out, HT.out]; simpa using hq
            clear hq
            go_wp2
            go_roundw
            case rel => exact ⟨j + 1, hlt, by go_num, HT2, HB2⟩
            case measure => simp [intOf]; omega
        · have HE2 : Hid (stq ts T = ts ++ [T]) := by
            show _ = _
            have := HT.out
            rw [List.take_of_length_le (by rw [← HC.out]; omega)] at this
            unfold stq
            rw [if_neg (by rw [this]; decide)]
          obtain ⟨b0, b1, b2, b3, b4⟩ := HBoxr.out.cells
          have hbr : base ≤ wr.heap.size := Nat.le_trans hbase (Nat.le_trans hVb HBr.out.size)
          have HQ : Hid (Rep wr (fun b => S b ∧ some b ≠ (Value.slice fa c fc).ownBlock) T (.agg #[.int .i64 k, .string n, .int .i64 i, .int .i64 hh, .slice sa sn sc])) := HXr.out.imp fun b hb => ⟨hb, by intro e; have := (HRowr.out.lt b e.symm).1; have := hS b hb; omega⟩
          have hN1 : c + 1 = ts.length + 1 := by rw [HC.out]
          have hN2 : c + 1 ≤ 1000000 := by omega
          have HNN := Lib.hid hN1
          clear hN1
          go_wp2_with (at_builtin; refine wpList_push1b rfl _ _ rfl base S (.slice fa c fc) ts rfl HRowr.out wr.heap.size rfl rfl T HQ.out (c + 1) HNN.out hN2 hbr ?_; intro a1 c1 w1 hrow1 hg1 how1)
          go_ret
          exact ⟨_, rfl, by rw [HE.out, HE2.out]; exact hrow1, grown_trans (below_gr HB1.out _) (grown_trans (below_gr HBr.out _) hg1), fun b e => (how1 b e).imp id (Nat.le_trans (Nat.le_trans hVb HBr.out.size))⟩
    · have HE : Hid (lv K ts T = lvL K ts T.ts) := by show _ = _; rw [hlv, if_neg hleaf]
      have HB1 : Hid (∀ X, Below w.heap.size w (w.alloc (.cells X 31))) := hba
      have HRow1 := Lib.hid (fun X => hrow.lift (hba X))
      have HO := Lib.hid (fun b (e : (Value.slice fa ts.length fc).ownBlock = some b) => hrow.lt b e)
      have hIH : ∀ (j : Nat) (U : Ty), T.ts[j]? = some U → ∀ (f x : Value) (w' : World), base ≤ w'.heap.size → RowT w' base S f (lvL K ts (T.ts.take j)) → Rep w' S U x →
          Calls Try.prog 46 #[f, x, .int .i64 K] w' fun e w'' => ∃ v', e = .returned v' ∧ RowT w'' base S v' (lvL K ts (T.ts.take (j + 1))) ∧ w'.grownBy w'' f.ownBlock ∧ Own w' f v' := by
        intro j U hU f x w' hb' hr' hx'
        have e : lvL K ts (T.ts.take (j + 1)) = lv K (lvL K ts (T.ts.take j)) U := by rw [List.take_add_one, hU, lvL_append]; rfl
        have h1 := nodesL_take_add hU
        have h2 := lvL_len K (T.ts.take j) ts
        rw [e]
        exact ih U (by omega) base S f x _ w' hb' (by omega) hS hr' hx'
      have HIH := Lib.hid hIH
      have hsnN : T.ts.length ≤ 1000000 := by have := len_nodesL T.ts; omega
      have HG : Hid ((k = K ∧ (T.ts.length = 0)) → False) := hleaf
      have HBox : Hid (∀ (sn : Nat), sn = T.ts.length → Box (w.alloc (.cells #[.int .i64 k, .string n, .int .i64 i, .int .i64 hh, .slice sa sn sc] 31)) w.heap.size (.int .i64 k) (.string n) (.int .i64 i) (.int .i64 hh) (.slice sa sn sc)) := fun _ _ => Box.made _ _ _ _ _ _
      clear hlv hba hrow h eT hn hsc hsc2 HLv HBa hIH ih HRow0
      obtain ⟨c, hcc⟩ : ∃ c, c = ts.length := ⟨_, rfl⟩
      rw [← hcc] at hfc HO HRow1 ⊢
      obtain ⟨sn, hsn⟩ : ∃ c, c = T.ts.length := ⟨_, rfl⟩
      have HSN := Lib.hid hsn
      rw [← hsn] at HA HG hsnN ⊢
      have HBx := Lib.hid (HBox.out sn hsn)
      clear hcc hsn HBox hnT hleaf
      have hge : (k == K) = false ∨ ((k == K) = true ∧ ((sn : Int) == 0) = false) := by
        by_cases e : k = K
        · refine .inr ⟨by simpa using e, ?_⟩
          have : sn ≠ 0 := fun h => HG.out ⟨e, h⟩
          simp; omega
        · exact .inl (by simpa using e)
      rcases hge with hk | ⟨hk, hl1⟩
      all_goals
        go_enter Try.func46, Try.ntmps46
        go_upto_region 8 with fail
        have HB2 := Lib.hid (HB1.out #[.int .i64 k, .string n, .int .i64 i, .int .i64 hh, .slice sa sn sc])
        have HRow2 := Lib.hid (HRow1.out #[.int .i64 k, .string n, .int .i64 i, .int .i64 hh, .slice sa sn sc])
        generalize (w.alloc (.cells #[.int .i64 k, .string n, .int .i64 i, .int .i64 hh, .slice sa sn sc] 31)) = V at *
        have hVb : w.heap.size ≤ V.heap.size := HB2.out.size
        have hlt0 : w.heap.size < V.heap.size := HBx.out.lt
        have H4 := Lib.hid HBx.out.cells.2.2.2.2
        go_wp2
        go_loopw [0, 8] (fun f x wr => ∃ j : Nat, j ≤ sn ∧ x = .int .i64 j ∧ Hid (RowT wr base S f (lvL K ts (T.ts.take j))) ∧ Hid (V.grownBy wr (Value.slice fa c fc).ownBlock) ∧ Hid (Own V (.slice fa c fc) f)) (fun _ x _ => sn - (intOf x).toNat)
        case atStart => exact ⟨0, Nat.zero_le _, rfl, HRow2, World.grownBy.refl _ _, Own.refl _ _⟩
        case round =>
          obtain ⟨j, hj, rfl, HRow, HGr, HOw⟩ := hrel
          have hb4 : wr.cell? ⟨w.heap.size, 4, none⟩ = some (.slice sa sn sc) := (HGr.out.cell_far ⟨w.heap.size, 4, none⟩ hlt0 (fun e => Nat.lt_irrefl _ (HO.out _ e.symm).2)).trans H4.out
          have hbase' := Nat.le_trans hbase (Nat.le_trans hVb HGr.out.size)
          by_cases hlt : j < sn
          · obtain ⟨U, hU⟩ : ∃ x, T.ts[j]? = some x := ⟨_, List.getElem?_eq_getElem (by rw [← HSN.out]; exact hlt)⟩
            have HB : Below base w wr := Below.grown (HB2.out.mono hbase) HGr.out (Nat.le_trans hbase hVb) (fun b e => (HO.out b e).1)
            have HC := Lib.hid (HIH.out j U hU)
            obtain ⟨a2, c2, hv2, -, hj2⟩ := HA.out
            obtain ⟨ad, x, had, hSa, h5, hx⟩ := hj2 j U hU
            have hbS : ∀ b, S b → b < w.heap.size → wr.heap[b]? = w.heap[b]? := fun b hb' _ => HB.block b (hS b hb')
            have HXr := Lib.hid (hx.kept (fun _ h => h) hbS)
            have g5 := h5.kept (hbS _ hSa h5.lt)
            have hsa : sa = some ad := by simp at hv2; rw [hv2.1, had]
            subst hsa
            obtain ⟨yk, yn, yi, yh, ys, -, rfl, -, hys⟩ := hx.open
            obtain ⟨ya, yc, rfl, -⟩ := hys
            obtain ⟨q0, q1, q2, q3, q4⟩ := five_at g5
            clear hU h5 hx hj2 hv2 had hbS HB g5 hSa
            generalize U.ts.length = yn' at *
            have hji : (j : Int) < (sn : Int) := by omega
            go_wp2_with (go_at_call 46; refine (HC.out u0 _ wr hbase' HRow.out HXr.out).mono ?_; rintro e w2 ⟨v', rfl, hrow2, hg2, how2⟩)
            have HRow3 := Lib.hid hrow2
            have HG3 : Hid (V.grownBy w2 (Value.slice fa c fc).ownBlock) := HGr.out.andThen hg2 (fun b e => (HOw.out b e).symm)
            have HO3 : Hid (Own V (.slice fa c fc) v') := fun b e => (how2 b e).elim (HOw.out b) (fun h => .inr (Nat.le_trans HGr.out.size h))
            clear hrow2 hg2 how2
            go_roundw
            case rel => exact ⟨j + 1, hlt, by go_num, HRow3, HG3, HO3⟩
            case measure => simp [intOf]; omega
          · have HRow3 : Hid (RowT wr base S u0 (lvL K ts T.ts)) := by
              show RowT _ _ _ _ _
              have := HRow.out
              rwa [List.take_of_length_le (by rw [← HSN.out]; omega)] at this
            go_wp2
            go_ret
            exact ⟨_, rfl, by rw [HE.out]; exact HRow3.out, grown_trans (below_gr HB2.out _) HGr.out, fun b e => (HOw.out b e).imp id (Nat.le_trans hVb)⟩
end

section
open Go.RowKit Go.Sort Go.Shelf Go.Maps Mth
/-- The step of the loop over a list's leaves. -/
theorem leaves_step (K : Int) {l : List Ty} {j : Nat} {U : Ty} {B : Nat} (hU : l[j]? = some U) (hN : nodesL l ≤ 1000000) (f x : Value) (w : World) (hB : B ≤ w.heap.size) (hr : RowT w B (fun b => b < B) f (lvL K [] (l.take j))) (hx : Rep w (fun b => b < B) U x) :
    Calls Try.prog 46 #[f, x, .int .i64 K] w fun e w'' => ∃ v', e = .returned v' ∧ RowT w'' B (fun b => b < B) v' (lvL K [] (l.take (j + 1))) ∧ Below B w w'' := by
  have e : lvL K [] (l.take (j + 1)) = lv K (lvL K [] (l.take j)) U := by rw [List.take_add_one, hU, lvL_append]; rfl
  have h1 := nodesL_take_add hU
  have h2 := lvL_len K (l.take j) []
  simp only [List.length_nil] at h2
  rw [e]
  refine (leaves_any K _ U (Nat.le_refl _) B _ f x _ w hB (by omega) (fun b h => h) hr hx).mono ?_
  rintro e w'' ⟨v', rfl, h3, h4, -⟩
  exact ⟨v', rfl, h3, Below.grown (Below.refl _ w) h4 hB (fun b e => (hr.lt b e).1)⟩
open Go.RowKit Go.Sort Go.Shelf Go.Maps Mth
set_option maxRecDepth 100000 in
set_option maxHeartbeats 3200000 in
theorem varR_any (l : List Ty) (lv : Value) (S : Nat → Prop) (w : World) (hN : nodesL l ≤ 1000000) (h : RepL w S l lv) :
    Calls Try.prog 32 #[lv] w fun e w' => ∃ v, e = .returned v ∧ Ints w' v (ded [] ((lvL 1 [] l).map Ty.i)) ∧ Below w.heap.size w w' := by
  have HR : Hid (RepL w (fun b => b < w.heap.size) l lv) := h.bound.imp fun b hb => hb.2
  obtain ⟨a, cap, rfl, ⟨hc1, hc2⟩, -⟩ := h
  have hll : l.length ≤ 1000000 := by have := len_nodesL l; omega
  have hlvn : (lvL 1 [] l).length ≤ 1000000 := by have := lvL_len 1 l []; simp at this; omega
  clear hc2
  obtain ⟨c, hcc⟩ : ∃ c, c = l.length := ⟨_, rfl⟩
  have HM := Lib.hid hcc
  rw [← hcc] at hc1 hll HR ⊢
  clear hcc
  go_enter Try.func32, Try.ntmps32
  go_wp2
  go_loopw [3, 4] (fun f x wr => ∃ j : Nat, j ≤ c ∧ x = .int .i64 j ∧ Hid (RowT wr w.heap.size (fun b => b < w.heap.size) f (lvL 1 [] (l.take j))) ∧ Below w.heap.size w wr) (fun _ x _ => c - (intOf x).toNat)
  case atStart => exact ⟨0, Nat.zero_le _, rfl, rowT_nil _ _ _, Below.refl _ _⟩
  case round =>
    obtain ⟨j, hj, rfl, HRow, hb⟩ := hrel
    by_cases hlt : j < c
    · obtain ⟨U, hU⟩ : ∃ x, l[j]? = some x := ⟨_, List.getElem?_eq_getElem (by rw [← HM.out]; exact hlt)⟩
      have HC := Lib.hid (fun f x w' => leaves_step 1 hU hN f x w' (B := w.heap.size))
      obtain ⟨a2, c2, hv2, -, hj2⟩ := HR.out.lift hb
      obtain ⟨ad, x, had, hSa, h5, hx⟩ := hj2 j U hU
      have HXr := Lib.hid hx
      have hsa : a = some ad := by simp at hv2; rw [hv2.1, had]
      subst hsa
      obtain ⟨yk, yn, yi, yh, ys, -, rfl, -, hys⟩ := hx.open
      obtain ⟨ya, yc, rfl, -⟩ := hys
      obtain ⟨q0, q1, q2, q3, q4⟩ := five_at h5
      clear hU h5 hx hj2 hv2 had hSa
      generalize U.ts.length = yn' at *
      have hji : (j : Int) < (c : Int) := by omega
      go_wp2_with (go_at_call 46; refine (HC.out u3 _ wr hb.size HRow.out HXr.out).mono ?_; rintro e w2 ⟨v', rfl, hrow2, hb2⟩)
      have HRow3 := Lib.hid hrow2
      clear hrow2
      go_roundw
      case rel => exact ⟨j + 1, hlt, by go_num, HRow3, hb.trans hb2⟩
      case measure => simp [intOf]; omega
    · obtain ⟨ns, hns⟩ : ∃ ns, ns = lvL 1 [] l := ⟨_, rfl⟩
      have hrow3 : RowT wr w.heap.size (fun b => b < w.heap.size) u3 ns := by
        have := HRow.out
        rw [hns]
        rwa [List.take_of_length_le (by rw [← HM.out]; omega)] at this
      rw [← hns] at hlvn
      have HNS := Lib.hid hns
      clear hns
      have hrep := (hrow3.repL (S' := fun _ => True) (fun _ _ => trivial) (fun _ _ => trivial)).bound.imp fun b hb => hb.2
      have HRN := Lib.hid hrep
      obtain ⟨a3, c3, rfl, ⟨hd1, hd2⟩, -⟩ := hrep
      clear hrow3 HRow
      obtain ⟨m, hmm⟩ : ∃ m, m = ns.length := ⟨_, rfl⟩
      have HM2 := Lib.hid hmm
      rw [← hmm] at hd1 hlvn HRN
      try rw [← hmm]
      clear hmm hd2
      have hsz := hb.size
      obtain ⟨W3, rfl⟩ : ∃ W3, W3 = wr := ⟨_, rfl⟩
      go_wp2
      go_loopw [5, 6] (fun f x wq => ∃ (i : Nat) (ids : List Int), i ≤ m ∧ x = .int .i64 i ∧ Hid (ids = ded [] ((ns.take i).map Ty.i)) ∧ ids.length ≤ i ∧ Hid (RowI wq W3.heap.size f ids) ∧ Below W3.heap.size W3 wq) (fun _ x _ => m - (intOf x).toNat)
      case atStart => exact ⟨0, [], Nat.zero_le _, rfl, rfl, Nat.le_refl _, rowI_nil _ _, Below.refl _ _⟩
      case round =>
        obtain ⟨i, ids, hi, rfl, HD, hil, HRow, hbq⟩ := hrel
        by_cases hlt2 : i < m
        · obtain ⟨T, hT⟩ : ∃ x, ns[i]? = some x := ⟨_, List.getElem?_eq_getElem (by rw [← HM2.out]; exact hlt2)⟩
          have HS := Lib.hid (ids_snoc hT)
          obtain ⟨a2, c2, hv2, -, hj2⟩ := HRN.out.lift hbq
          obtain ⟨ad, x, had, hSa, h5, hx⟩ := hj2 i T hT
          have hsa : a3 = some ad := by simp at hv2; rw [hv2.1, had]
          subst hsa
          obtain ⟨yk, yn, yi, yh, ys, eT, rfl, -, hys⟩ := hx.open
          obtain ⟨ya, yc, rfl, -⟩ := hys
          obtain ⟨q0, q1, q2, q3, q4⟩ := five_at h5
          have hTi : T.i = yi := by rw [eT]; rfl
          rw [hTi] at HS
          clear hT h5 hx hj2 hv2 had hSa eT hTi
          generalize T.ts.length = yn' at *
          have hji : (i : Int) < (m : Int) := by omega
          have HHas : Hid (Calls Try.prog 47 #[u5, .int .i64 yi] wr fun e w' => e = .returned (.bool (ids.contains yi)) ∧ wr = w') := has_any _ _ _ _ HRow.out.ints
          cases hq : ids.contains yi with
          | true =>
            have HD2 : Hid (ids = ded [] ((ns.take (i + 1)).map Ty.i)) := by
              show _ = _
              rw [HS.out, ← HD.out, hq]; rfl
            rw [hq] at HHas
            clear hq
            go_wp2_with (go_at_call 47; refine HHas.out.mono ?_; rintro e w2 ⟨rfl, rfl⟩)
            go_roundw
            case rel => exact ⟨i + 1, ids, hlt2, by go_num, HD2, by omega, HRow, hbq⟩
            case measure => simp [intOf]; omega
          | false =>
            have HD2 : Hid (ids ++ [yi] = ded [] ((ns.take (i + 1)).map Ty.i)) := by
              show _ = _
              rw [HS.out, ← HD.out, hq]; rfl
            rw [hq] at HHas
            clear hq
            have HO := Lib.hid (fun b (e : u5.ownBlock = some b) => World.ownsRow.lt HRow.out b e)
            go_wp2_with (first
              | (go_at_call 47; refine HHas.out.mono ?_; rintro e w2 ⟨rfl, rfl⟩)
              | (at_builtin; refine wpList_pushI rfl _ _ rfl W3.heap.size u5 ids rfl HRow.out wr.heap.size rfl rfl (ids.length + 1) rfl (by omega) hbq.size ?_; intro a4 c4 w4 hrow4 hg4; have HRow4 := Lib.hid hrow4; clear hrow4))
            go_roundw
            case rel => exact ⟨i + 1, ids ++ [yi], hlt2, by go_num, HD2, by simp; omega, by simpa using HRow4, Below.grown hbq hg4 hbq.size (fun b e => (HO.out b e).1)⟩
            case measure => simp [intOf]; omega
        · have HV2 : Hid (ids = ded [] (ns.map Ty.i)) := by
            show _ = _
            rw [HD.out, List.take_of_length_le (by rw [← HM2.out]; omega)]
          go_wp2
          go_ret
          exact ⟨_, rfl, by rw [← HNS.out, ← HV2.out]; exact HRow.out.ints, hb.trans (hbq.mono hsz)⟩

open Go.RowKit Go.Sort Go.Shelf Go.Maps Mth
theorem Try.cellsOf3 : Try.prog.cellsOf 3 = 1 := by kernel_rfl
theorem Try.someKey : 1 ≤ Try.prog.types.size := of_decide_eq_true (by kernel_rfl)

/-- What a home and an id read as. -/
def klit (h i : Int) : Lit := .string (keyBytes [.int .i64 h, .int .i64 i])
/-- The numbers that a key can hold. -/
def Bd (X : Ty) : Prop := (Lit.int .i64 X.h).wf = true ∧ (Lit.int .i64 X.i).wf = true
/-- The map of a list of types. -/
def setK (acc : List Ty) : DataW Unit := acc.foldl (fun m X => m.put (klit X.h X.i) (.lit (.bool true))) (.map [])
theorem setK_snoc (acc : List Ty) (X : Ty) : setK (acc ++ [X]) = (setK acc).put (klit X.h X.i) (.lit (.bool true)) := by simp [setK, List.foldl_append]
theorem bd_of {T : Ty} (hv : valid T = true) (hk : T.k = 3) : Bd T := by
  cases T with
  | mk k n i h ts =>
    have hk' : k = 3 := hk
    subst hk'
    simp [valid, idOk, homeOk] at hv
    exact ⟨WalkArith.wf_i64 (by show _ ∧ _; have := hv; simp only [Ty.h] at *; omega), WalkArith.wf_i64 (by have := hv; simp only [Ty.i] at *; omega)⟩
end

section
open Go.RowKit Go.Sort Go.Shelf Go.Maps Mth
theorem stk_snoc {l : List Ty} {j : Nat} {T : Ty} (h : l[j]? = some T) : (l.take (j + 1)).foldl stk [] = stk ((l.take j).foldl stk []) T := by
  rw [List.take_add_one, h, Option.toList, List.foldl_append]; rfl
open Go.RowKit Go.Sort Go.Shelf Go.Maps Mth
theorem teq_self (T : Ty) : teq T T = true := by
  refine Ty.induct (p := fun T => teq T T = true) (fun T ih => ?_) T
  cases T with
  | mk k n i h ts =>
    have : teqL ts ts = true := by
      have key : ∀ l : List Ty, (∀ U ∈ l, teq U U = true) → teqL l l = true := by
        intro l
        induction l with
        | nil => intro _; rfl
        | cons x l ihl => intro hl; simp [teqL, hl x (by simp), ihl fun U hU => hl U (by simp [hU])]
      exact key ts ih
    simp [teq, this]
theorem teqL_self : ∀ l : List Ty, teqL l l = true := by
  intro l
  induction l with
  | nil => rfl
  | cons x l ih => simp [teqL, teq_self x, ih]
theorem dep_nodes (T : Ty) : dep T ≤ nodes T := by
  refine Nat.le_of_succ_le ?_
  show dep T + 1 ≤ nodes T
  refine Ty.induct (p := fun T => dep T + 1 ≤ nodes T) (fun T ih => ?_) T
  cases T with
  | mk k n i h ts =>
    have key : ∀ l : List Ty, (∀ U ∈ l, dep U + 1 ≤ nodes U) → depL l ≤ nodesL l := by
      intro l
      induction l with
      | nil => intro _; simp [depL, nodesL]
      | cons x l ihl => intro hl; have h1 := hl x (by simp); have h2 := ihl fun U hU => hl U (by simp [hU]); simp only [depL, nodesL]; omega
    have := key ts ih
    simp only [dep, nodes]
    omega
theorem vt_valid (R : Ty) : valid (vt R) = true := by
  unfold vt
  split
  · assumption
  · decide +kernel
theorem vt_nodes {R : Ty} (h : nodes R ≤ 60) : nodes (vt R) ≤ 60 := by
  unfold vt
  split
  · exact h
  · decide +kernel
/-- A type that the law measures. -/
def Md (T : Ty) : Prop := valid T = true ∧ nodes T ≤ 60
section
variable {T : Ty} {l : List Ty} {v : Value} {S : Nat → Prop} {w : World}
theorem m28 (hv : ∀ T ∈ l, valid T = true) (hn : nodesL l ≤ 1000000) (h : RepL w S l v) : Calls Try.prog 32 #[v] w fun e w' => ∃ u, e = .returned u ∧ Ints w' u (varsOf l) ∧ Below w.heap.size w w' := by
  have := varR_any l v S w hn h
  rwa [vars_same l hv] at this
theorem m29 {u : Value} {S' : Nat → Prop} (h : RepL w S l v) (h' : RepL w S' l u) : Calls Try.prog 37 #[v, u] w fun e w' => e = .returned (.bool true) ∧ Below w.heap.size w w' := by
  have := refEqAll_of l l (fun T _ => fun U v u S S' w h1 h2 => refEqual_any _ T (Nat.le_refl _) U v u S S' w h1 h2) v u S S' w h h'
  rwa [teqL_self] at this
end
end
end Go.Proofs.Ytejlhfjhpminjaa
