import Derived.Test.YtgfjcpeeoapjlaaQV02
import Derived.Test.YtgfjcpeeoapjlaaQV01
import Derived.StringKeys
import Derived.Maps.OwnSet
import Derived.Test.YtgfjcpeeoapjlaaQV00
/- Maps by names: how many arguments a known constructor takes; which names were seen. -/
namespace Go.Proofs.Ytgfjcpeeoapjlaa
open Go.RowKit Go.Maps Go.WideMaps Mth

/-- The first entry of a name. -/
def kf : List (List UInt8 × Int) → List UInt8 → Option Int
  | [], _ => none
  | p :: l, s => if p.1 == s then some p.2 else kf l s
theorem kf_snoc (s t : List UInt8) (n : Int) : ∀ ks, kf ks s = none → kf (ks ++ [(s, n)]) t = if s = t then some n else kf ks t := by
  intro ks
  induction ks with
  | nil =>
    intro _
    by_cases h : s = t
    · subst h; simp [kf]
    · simp [kf, h]
  | cons p l ih =>
    intro h
    simp only [kf] at h
    split at h
    · cases h
    · rename_i hp
      simp only [List.cons_append, kf]
      rw [ih h]
      by_cases hst : s = t
      · subst hst; rw [if_pos rfl, if_pos rfl, if_neg hp]
      · rw [if_neg hst]; simp [hst]
structure KD (D : DataW Unit) (ks : List (List UInt8 × Int)) : Prop where
  isMap : IsMap D
  has : ∀ s, Maps.has D (.string s) = (kf ks s).isSome
  look : ∀ s, D.atKey (.string s) (.lit (.int .i64 0)) = .lit (.int .i64 ((kf ks s).getD 0))
theorem KD.nil : KD (.map []) [] := ⟨isMap_empty, fun _ => rfl, fun _ => rfl⟩
theorem strLit_ne {s t : List UInt8} (h : ¬ s = t) : (Lit.string t : Lit) ≠ .string s := fun e => h (by cases e; rfl)
theorem KD.put {D : DataW Unit} {ks : List (List UInt8 × Int)} (h : KD D ks) {s : List UInt8} (hs : kf ks s = none) (n : Int) : KD (D.put (.string s) (.lit (.int .i64 n))) (ks ++ [(s, n)]) := by
  refine ⟨h.isMap.put _ _, fun t => ?_, fun t => ?_⟩
  · rw [kf_snoc s t n ks hs]
    by_cases hst : s = t
    · subst hst; rw [has_put_same h.isMap (by simp [WideAt.IsKeyLit]), if_pos rfl]; rfl
    · rw [has_put_other (strLit_ne hst), if_neg hst, h.has]
  · rw [kf_snoc s t n ks hs]
    by_cases hst : s = t
    · subst hst; rw [atKey_put_same h.isMap (by simp [WideAt.IsKeyLit]), if_pos rfl]; rfl
    · rw [atKey_put_other (strLit_ne hst), if_neg hst, h.look]
/-- The block b holds the known constructors. -/
def KM (w : World) (b n : Nat) (ks : List (List UInt8 × Int)) : Prop := ∃ D : DataW Unit, w.ownsMap Try.prog 9 (plainElem Try.prog 3) b n D ∧ KD D ks
theorem KM.lt {w : World} {b n : Nat} {ks : List (List UInt8 × Int)} (h : KM w b n ks) : b < w.heap.size := by
  obtain ⟨D, h, -⟩ := h
  exact h.lt
theorem KM.kept {w w' : World} {b n : Nat} {ks : List (List UInt8 × Int)} {row : Option Nat} (h : KM w b n ks) (hg : w.grownBy w' row) (hne : some b ≠ row) : KM w' b n ks := by
  obtain ⟨D, h, k⟩ := h
  exact ⟨D, h.kept hg hne, k⟩
theorem KM.lift {w w' : World} {b n : Nat} {ks : List (List UInt8 × Int)} (h : KM w b n ks) (hb : Below w.heap.size w w') : KM w' b n ks := h.kept (grown_of_below hb none) (by simp)
theorem KM.alloc {w : World} {b n : Nat} {ks : List (List UInt8 × Int)} (h : KM w b n ks) (o : Obj) : KM (w.alloc o) b n ks := h.kept (World.grownBy_alloc w o none) (by simp)
theorem KM.mono {w : World} {b n m : Nat} {ks : List (List UInt8 × Int)} (h : KM w b n ks) (hn : n ≤ m) : KM w b m ks := by
  obtain ⟨D, h, k⟩ := h
  exact ⟨D, h.mono hn, k⟩
theorem KM.made (w : World) : KM (w.alloc (.map #[] 0)) w.heap.size 0 [] := ⟨_, World.ownsMap_made w Try.prog 9 _, KD.nil⟩
theorem Try.strKey : Keyed Try.prog 9 := string_keyed Try.underlying9
theorem Try.zeroBool (w : World) : (zeroValue 4).run Try.prog w = .ok (.bool false) w := by kernel_rfl
theorem Try.zeroInt (w : World) : (zeroValue 3).run Try.prog w = .ok (.int .i64 0) w := by kernel_rfl
section
variable (w : World) {ops : Array Oper} {rest : List Oper} {o : Oper} {a : Act} {Q : Exit → Act → World → Prop}
theorem wpList_kLook (hgd : o.guard = none) (m x : Operand) (hop : o.op = Op.lookup 128 m x true) (b n : Nat) (ks : List (List UInt8 × Int)) (hm : a.eval m = .map (some b)) (hK : KM w b n ks) (s : ByteArray) (hx : a.eval x = .string s) (hs : s.size ≤ maxLen)
    (hN : wpList Try.prog ops Q rest (a.put o.dst (.tuple #[.int .i64 ((kf ks (bl s)).getD 0), .bool (kf ks (bl s)).isSome])) w) : wpList Try.prog ops Q (o :: rest) a w := by
  obtain ⟨D, hown, hD⟩ := hK
  refine wpList_lookup_own_ok_int w hgd m x _ hop _ _ .i64 Try.strKey Try.underlying128 Try.underlying3 (Try.zeroInt _) b n D hm hown _ _ hx (keyOf_string_mk Try.underlying9 hs) fun c hc _ => ?_
  have h1 := hD.look (bl s)
  have h2 := hD.has (bl s)
  rw [show Lit.string s.data.toList = .string (bl s) from rfl] at hc ⊢
  rw [hc] at h1
  cases h1
  rw [h2]
  exact hN
theorem wpList_kPut (hgd : o.guard = none) (m x v : Operand) (hop : o.op = Op.mapUpdate 128 m x v) (b n : Nat) (ks : List (List UInt8 × Int)) (hm : a.eval m = .map (some b)) (hK : KM w b n ks) (hn : n < maxLen) (s : ByteArray) (hx : a.eval x = .string s) (hs : s.size ≤ maxLen)
    (hno : kf ks (bl s) = none) (c : Int) (hv : a.eval v = .int .i64 c) (hc : (Lit.int .i64 c).wf = true) (hN : ∀ w', KM w' b (n + 1) (ks ++ [(bl s, c)]) → w.grownBy w' (some b) → wpList Try.prog ops Q rest (a.put o.dst undef) w') : wpList Try.prog ops Q (o :: rest) a w := by
  obtain ⟨D, hown, hD⟩ := hK
  refine wpList_mapUpdate_own (H := Unit) w hgd m x v _ hop _ _ Try.strKey Try.underlying128 (plainElem Try.prog 3) b n D hm hown hn _ _ _ hx hv (keyOf_string_mk Try.underlying9 hs) _ [] (plainElem_int Try.underlying3 hc) fun w' h1 h2 => hN w' ⟨_, h1, ?_⟩ h2
  exact hD.put hno c
theorem wpList_kLay (hgd : o.guard = none) (m x v : Operand) (hop : o.op = Op.insert 128 m x v) (b n : Nat) (ks : List (List UInt8 × Int)) (hm : a.eval m = .map (some b)) (hK : KM w b n ks) (hn : n < maxLen) (s : ByteArray) (hx : a.eval x = .string s) (hs : s.size ≤ maxLen)
    (hno : kf ks (bl s) = none) (c : Int) (hv : a.eval v = .int .i64 c) (hc : (Lit.int .i64 c).wf = true) (hN : ∀ w', KM w' b (n + 1) (ks ++ [(bl s, c)]) → w.grownBy w' (some b) → wpList Try.prog ops Q rest (a.put o.dst undef) w') : wpList Try.prog ops Q (o :: rest) a w := by
  obtain ⟨D, hown, hD⟩ := hK
  refine wpList_plain hgd fun K' hK' => ?_
  obtain ⟨w', hrun, r1, r2⟩ := hown.update Try.strKey Try.underlying128 hn (keyOf_string_mk Try.underlying9 hs) (plainElem_int (H := Unit) Try.underlying3 hc)
  unfold Oper.wp
  simp [execOp, hop, hm, hx, hv, hrun, Result.andThen]
  exact hK' _ _ (hN w' ⟨_, r1, hD.put hno c⟩ r2)
end

/-! Names that were seen. -/
structure SD (D : DataW Unit) (ns : List (List UInt8)) : Prop where
  isMap : IsMap D
  look : ∀ s, D.atKey (.string s) (.lit (.bool false)) = .lit (.bool (ns.contains s))
theorem SD.nil : SD (.map []) [] := ⟨isMap_empty, fun _ => rfl⟩
theorem SD.put {D : DataW Unit} {ns : List (List UInt8)} (h : SD D ns) (s : List UInt8) : SD (D.put (.string s) (.lit (.bool true))) (ns ++ [s]) := by
  refine ⟨h.isMap.put _ _, fun t => ?_⟩
  by_cases hst : s = t
  · subst hst; rw [atKey_put_same h.isMap (by simp [WideAt.IsKeyLit])]; simp
  · rw [atKey_put_other (strLit_ne hst), h.look]
    have : (ns ++ [s]).contains t = ns.contains t := by
      have h1 : ¬ t = s := fun e => hst e.symm
      simp [h1]
    rw [this]
def SM (w : World) (b n : Nat) (ns : List (List UInt8)) : Prop := ∃ D : DataW Unit, w.ownsMap Try.prog 9 (plainElem Try.prog 4) b n D ∧ SD D ns
theorem SM.lt {w : World} {b n : Nat} {ns : List (List UInt8)} (h : SM w b n ns) : b < w.heap.size := by
  obtain ⟨D, h, -⟩ := h
  exact h.lt
theorem SM.kept {w w' : World} {b n : Nat} {ns : List (List UInt8)} {row : Option Nat} (h : SM w b n ns) (hg : w.grownBy w' row) (hne : some b ≠ row) : SM w' b n ns := by
  obtain ⟨D, h, k⟩ := h
  exact ⟨D, h.kept hg hne, k⟩
theorem SM.lift {w w' : World} {b n : Nat} {ns : List (List UInt8)} (h : SM w b n ns) (hb : Below w.heap.size w w') : SM w' b n ns := h.kept (grown_of_below hb none) (by simp)
theorem SM.alloc {w : World} {b n : Nat} {ns : List (List UInt8)} (h : SM w b n ns) (o : Obj) : SM (w.alloc o) b n ns := h.kept (World.grownBy_alloc w o none) (by simp)
theorem SM.mono {w : World} {b n m : Nat} {ns : List (List UInt8)} (h : SM w b n ns) (hn : n ≤ m) : SM w b m ns := by
  obtain ⟨D, h, k⟩ := h
  exact ⟨D, h.mono hn, k⟩
theorem SM.made (w : World) : SM (w.alloc (.map #[] 0)) w.heap.size 0 [] := ⟨_, World.ownsMap_made w Try.prog 9 _, SD.nil⟩
section
variable (w : World) {ops : Array Oper} {rest : List Oper} {o : Oper} {a : Act} {Q : Exit → Act → World → Prop}
theorem wpList_sLook (hgd : o.guard = none) (m x : Operand) (hop : o.op = Op.lookup 91 m x false) (b n : Nat) (ns : List (List UInt8)) (hm : a.eval m = .map (some b)) (hK : SM w b n ns) (s : ByteArray) (hx : a.eval x = .string s) (hs : s.size ≤ maxLen)
    (hN : wpList Try.prog ops Q rest (a.put o.dst (.bool (ns.contains (bl s)))) w) : wpList Try.prog ops Q (o :: rest) a w := by
  obtain ⟨D, hown, hD⟩ := hK
  exact wpList_lookup_bool w hgd m x _ hop _ _ Try.strKey Try.underlying91 Try.underlying4 (Try.zeroBool _) b n D hm hown _ _ hx (keyOf_string_mk Try.underlying9 hs) _ (hD.look (bl s)) hN
theorem wpList_sPut (hgd : o.guard = none) (m x v : Operand) (hop : o.op = Op.mapUpdate 91 m x v) (b n : Nat) (ns : List (List UInt8)) (hm : a.eval m = .map (some b)) (hK : SM w b n ns) (hn : n < maxLen) (s : ByteArray) (hx : a.eval x = .string s) (hs : s.size ≤ maxLen)
    (hv : a.eval v = .bool true) (hN : ∀ w', SM w' b (n + 1) (ns ++ [bl s]) → w.grownBy w' (some b) → wpList Try.prog ops Q rest (a.put o.dst undef) w') : wpList Try.prog ops Q (o :: rest) a w := by
  obtain ⟨D, hown, hD⟩ := hK
  exact wpList_mapUpdate_own (H := Unit) w hgd m x v _ hop _ _ Try.strKey Try.underlying91 (plainElem Try.prog 4) b n D hm hown hn _ _ _ hx hv (keyOf_string_mk Try.underlying9 hs) _ [] (plainElem_bool Try.underlying4 true) fun w' h1 h2 => hN w' ⟨_, h1, hD.put (bl s)⟩ h2
theorem wpList_sLay (hgd : o.guard = none) (m x v : Operand) (hop : o.op = Op.insert 91 m x v) (b n : Nat) (ns : List (List UInt8)) (hm : a.eval m = .map (some b)) (hK : SM w b n ns) (hn : n < maxLen) (s : ByteArray) (hx : a.eval x = .string s) (hs : s.size ≤ maxLen)
    (hv : a.eval v = .bool true) (hN : ∀ w', SM w' b (n + 1) (ns ++ [bl s]) → w.grownBy w' (some b) → wpList Try.prog ops Q rest (a.put o.dst undef) w') : wpList Try.prog ops Q (o :: rest) a w := by
  obtain ⟨D, hown, hD⟩ := hK
  refine wpList_plain hgd fun K' hK' => ?_
  obtain ⟨w', hrun, r1, r2⟩ := hown.update Try.strKey Try.underlying91 hn (keyOf_string_mk Try.underlying9 hs) (plainElem_bool (H := Unit) Try.underlying4 true)
  unfold Oper.wp
  simp [execOp, hop, hm, hx, hv, hrun, Result.andThen]
  exact hK' _ _ (hN w' ⟨_, r1, hD.put (bl s)⟩ r2)
end
/-- A name more that was seen. -/
def addN (ns : List (List UInt8)) (s : List UInt8) : List (List UInt8) := if ns.contains s then ns else ns ++ [s]
end Go.Proofs.Ytgfjcpeeoapjlaa

/- Plain facts: the canonical text of a written type, its tokens, its length. -/
namespace Go.Proofs.Ytgfjcpeeoapjlaa
open Go.RowKit Go.Maps Mth

theorem tyInd {p : Ty → Prop} (h : ∀ T, (∀ U ∈ T.ts, p U) → p T) : ∀ T, p T := by
  have : ∀ (m : Nat) (T : Ty), nodes T ≤ m → p T := by
    intro m
    induction m with
    | zero => intro T h; have := nodes_pos T; omega
    | succ m ih =>
      intro T hm
      refine h T fun U hU => ih U ?_
      have := nodesL_mem hU
      cases T
      simp only [nodes, Ty.ts] at *
      omega
  exact fun T => this _ T (Nat.le_refl _)
def isArr (T : Ty) : Bool := T.k == 4 && T.n.toList == [45, 62]
def conArgs (T : Ty) : Bool := T.k == 4 && T.ts.length != 0
/-! A type that can be written: names and constructors alone. -/
mutual
def src : Ty → Bool
  | .mk k n i h ts => i == 0 && h == 0 && (if k == 5 then isLo (bl n) && ts.length == 0 else k == 4 && (if n.toList == [45, 62] then ts.length == 2 else isUp (bl n))) && srcL ts
def srcL : List Ty → Bool
  | [] => true
  | t :: l => src t && srcL l
end
theorem srcL_mem : ∀ {l : List Ty}, srcL l = true → ∀ {T : Ty}, T ∈ l → src T = true := by
  intro l
  induction l with
  | nil => intro _ T h; simp at h
  | cons t l ih =>
    intro h T hT
    simp only [srcL, Bool.and_eq_true] at h
    rcases List.mem_cons.1 hT with rfl | hT
    · exact h.1
    · exact ih h.2 hT
def brk (q : Bool) (l : List UInt8) : List UInt8 := if q then 40 :: (l ++ [41]) else l
def brkW (q : Bool) (l : List (List UInt8)) : List (List UInt8) := if q then [40] :: (l ++ [[41]]) else l
/-! The canonical text. -/
mutual
def shT : Ty → List UInt8
  | .mk k n _ _ ts => if k == 5 then bl n else if n.toList == [45, 62] then shH ts else bl n ++ shA ts
def shH : List Ty → List UInt8
  | [] => []
  | t :: l => brk (isArr t) (shT t) ++ shB l
def shB : List Ty → List UInt8
  | [] => []
  | t :: l => 32 :: ([45, 62] ++ 32 :: (shT t ++ shB l))
def shA : List Ty → List UInt8
  | [] => []
  | t :: l => 32 :: (brk (conArgs t) (shT t) ++ shA l)
end
/-! Its tokens. -/
mutual
def tkT : Ty → List (List UInt8)
  | .mk k n _ _ ts => if k == 5 then [bl n] else if n.toList == [45, 62] then tkH ts else bl n :: tkA ts
def tkH : List Ty → List (List UInt8)
  | [] => []
  | t :: l => brkW (isArr t) (tkT t) ++ tkB l
def tkB : List Ty → List (List UInt8)
  | [] => []
  | t :: l => [45, 62] :: (tkT t ++ tkB l)
def tkA : List Ty → List (List UInt8)
  | [] => []
  | t :: l => brkW (conArgs t) (tkT t) ++ tkA l
end
theorem rkind_lo {l : List UInt8} (h : isLo l = true) : rkind l = 1 := by
  rw [rkind_eq]
  have hk : kw l = false := by unfold isLo at h; simp only [Bool.and_eq_true, Bool.not_eq_true'] at h; exact h.2
  rw [hk, h]; rfl
theorem kw_low {l : List UInt8} (h : kw l = true) : hd low l = true := by
  unfold kw at h
  have h' := of_decide_eq_true h
  unfold kws at h'
  simp only [List.mem_cons, List.not_mem_nil, or_false] at h'
  rcases h' with e | e | e | e | e | e | e <;> subst e <;> decide
theorem low_upp {l : List UInt8} (h : hd upp l = true) : hd low l = false := by
  cases l with
  | nil => rfl
  | cons c l =>
    simp only [hd, upp, low, Bool.and_eq_true, decide_eq_true_eq] at h ⊢
    have : ¬ (97 ≤ c.toNat) := by omega
    simp [this]
theorem rkind_up {l : List UInt8} (h : isUp l = true) : rkind l = 2 := by
  have hu : hd upp l = true := by unfold isUp at h; simp only [Bool.and_eq_true] at h; exact h.1.2
  have hl := low_upp hu
  have hk : kw l = false := by
    cases hk : kw l with
    | false => rfl
    | true => rw [kw_low hk] at hl; cases hl
  have h1 : isLo l = false := by unfold isLo; rw [hl]; simp
  rw [rkind_eq, hk, h1, h]; rfl
theorem sc_brk {q : Bool} {l : List UInt8} {a : List (List UInt8)} (h : Sc l a) : Sc (brk q l) (brkW q a) := by
  cases q
  · exact h
  · exact h.par.sc
theorem shA_hd : ∀ (l : List Ty) (r : List UInt8), Hd0 r → Hd0 (shA l ++ r) := by
  intro l r h
  cases l with
  | nil => simpa [shA] using h
  | cons t l => simp only [shA]; exact hd0_cons (by decide)
theorem shB_hd : ∀ (l : List Ty) (r : List UInt8), Hd0 r → Hd0 (shB l ++ r) := by
  intro l r h
  cases l with
  | nil => simpa [shB] using h
  | cons t l => simp only [shB]; exact hd0_cons (by decide)
theorem sc_A : ∀ l : List Ty, (∀ U ∈ l, Sc (shT U) (tkT U)) → Sc (shA l) (tkA l) := by
  intro l
  induction l with
  | nil => intro _; simpa [shA, tkA] using scA_nil.sc
  | cons t l ih =>
    intro h
    simp only [shA, tkA]
    have := ScA.then scA_space ((sc_brk (q := conArgs t) (h t (by simp))).app (ih fun U hU => h U (by simp [hU])) (shA_hd l))
    simpa using this
theorem sc_B : ∀ l : List Ty, (∀ U ∈ l, Sc (shT U) (tkT U)) → Sc (shB l) (tkB l) := by
  intro l
  induction l with
  | nil => intro _; simpa [shB, tkB] using scA_nil.sc
  | cons t l ih =>
    intro h
    simp only [shB, tkB]
    have := ScA.then (scA_space.app (scA_arrow.app scA_space)) ((h t (by simp)).app (ih fun U hU => h U (by simp [hU])) (shB_hd l))
    simpa using this
theorem sc_T : ∀ T, src T = true → Sc (shT T) (tkT T) := by
  refine tyInd fun T ih hs => ?_
  cases T with
  | mk k n i h ts =>
    simp only [src, Bool.and_eq_true] at hs
    obtain ⟨⟨-, hk⟩, hl⟩ := hs
    have ih' : ∀ U ∈ ts, Sc (shT U) (tkT U) := fun U hU => ih U hU (srcL_mem hl hU)
    simp only [shT, tkT]
    cases h5 : k == 5 with
    | true =>
      rw [h5] at hk
      simp only [if_true, Bool.and_eq_true] at hk ⊢
      exact sc_word (by rw [rkind_lo hk.1]; decide)
    | false =>
      rw [h5] at hk
      simp only [Bool.false_eq_true, if_false, Bool.and_eq_true] at hk ⊢
      cases ha : n.toList == [45, 62] with
      | true =>
        simp only [if_true]
        cases ts with
        | nil => simpa [shH, tkH] using scA_nil.sc
        | cons t l =>
          simp only [shH, tkH]
          exact (sc_brk (ih' t (by simp))).app (sc_B l fun U hU => ih' U (by simp [hU])) (shB_hd l)
      | false =>
        rw [ha] at hk
        simp only [Bool.false_eq_true, if_false] at hk ⊢
        exact (sc_word (x := bl n) (by rw [rkind_up hk.2]; decide)).app (sc_A ts ih') (shA_hd ts)
theorem isLo_len {l : List UInt8} (h : isLo l = true) : l.length ≤ 12 := by
  unfold isLo at h; simp only [Bool.and_eq_true, decide_eq_true_eq] at h; exact h.1.2
theorem isUp_len {l : List UInt8} (h : isUp l = true) : l.length ≤ 12 := by
  unfold isUp at h; simp only [Bool.and_eq_true, decide_eq_true_eq] at h; exact h.2
theorem brk_len (q : Bool) (l : List UInt8) : (brk q l).length ≤ l.length + 2 := by
  cases q <;> simp [brk]
theorem shT_len2 : ∀ T, src T = true → (shT T).length + 8 ≤ 23 * nodes T := by
  refine tyInd fun T ih hs => ?_
  cases T with
  | mk k n i h ts =>
    simp only [src, Bool.and_eq_true] at hs
    obtain ⟨⟨-, hk⟩, hl⟩ := hs
    have ih' : ∀ U ∈ ts, (shT U).length + 8 ≤ 23 * nodes U := fun U hU => ih U hU (srcL_mem hl hU)
    simp only [shT, nodes]
    cases h5 : k == 5 with
    | true =>
      rw [h5] at hk
      simp only [if_true, Bool.and_eq_true] at hk ⊢
      have := isLo_len hk.1
      omega
    | false =>
      rw [h5] at hk
      simp only [Bool.false_eq_true, if_false, Bool.and_eq_true] at hk ⊢
      cases ha : n.toList == [45, 62] with
      | true =>
        rw [ha] at hk
        simp only [if_true, beq_iff_eq] at hk ⊢
        match ts, hk.2 with
        | [a, c], _ =>
          have h1 := ih' a (by simp)
          have h2 := ih' c (by simp)
          have h3 := brk_len (isArr a) (shT a)
          simp only [shH, shB, nodesL, List.length_append, List.length_cons, List.length_nil]
          omega
      | false =>
        rw [ha] at hk
        simp only [Bool.false_eq_true, if_false] at hk ⊢
        have h1 := isUp_len hk.2
        have hA : ∀ l : List Ty, (∀ U ∈ l, (shT U).length + 8 ≤ 23 * nodes U) → (shA l).length ≤ 23 * nodesL l := by
          intro l
          induction l with
          | nil => intro _; simp [shA]
          | cons t l ihl =>
            intro hh
            have h1 := hh t (by simp)
            have h2 := ihl fun U hU => hh U (by simp [hU])
            have h3 := brk_len (conArgs t) (shT t)
            simp only [shA, nodesL, List.length_cons, List.length_append]
            omega
        have h2 := hA ts ih'
        rw [List.length_append]
        omega
end Go.Proofs.Ytgfjcpeeoapjlaa
