import Derived.Test.YtljgpgmaceackaaQX01
import Derived.Test.YtljgpgmaceackaaQX02
import Derived.Deep.AppendLies
import Derived.Deep.Upon
import Derived.Test.YtljgpgmaceackaaQX03
import Derived.StringKeys
import Derived.Maps.OwnSet
/- Several elements appended at once to a row that the call owns. -/
namespace Go.Proofs.Ytljgpgmaceackaa
open Go.RowKit Mth

theorem flat_len (k : Nat) : ∀ L : List (List Value), (∀ c ∈ L, c.length = k) → L.flatten.length = L.length * k := by
  intro L
  induction L with
  | nil => intro _; simp
  | cons x L ih =>
    intro h
    rw [List.flatten_cons, List.length_append, h x (by simp), ih fun c hc => h c (by simp [hc])]
    rw [List.length_cons, Nat.add_mul]; omega
theorem flat_at (k : Nat) : ∀ (L : List (List Value)), (∀ c ∈ L, c.length = k) → ∀ (i : Nat) (u : Value), L.flatten[i]? = some u → ∃ (j m : Nat) (c : List Value), i = j * k + m ∧ L[j]? = some c ∧ c[m]? = some u := by
  intro L
  induction L with
  | nil => intro _ i u h; simp at h
  | cons x L ih =>
    intro hL i u hu
    have hx : x.length = k := hL x (by simp)
    rw [List.flatten_cons] at hu
    by_cases hi : i < x.length
    · rw [List.getElem?_append_left hi] at hu
      exact ⟨0, i, x, by simp, rfl, hu⟩
    · rw [List.getElem?_append_right (by omega)] at hu
      obtain ⟨j, m, c, h1, h2, h3⟩ := ih (fun c h => hL c (by simp [h])) _ u hu
      exact ⟨j + 1, m, c, by rw [Nat.add_mul]; omega, by simpa using h2, h3⟩
/-- The cells of a list, one behind the other. -/
theorem cells_ofG {α : Type} (E : El α) {w : World} {S : Nat → Prop} {xs : List α} {ad : Addr} (h : ∀ (j : Nat) (x : α), xs[j]? = some x → ∃ c : List Value, (∀ (m : Nat) (u : Value), c[m]? = some u → w.cell? (ad.add (j * E.k + m)) = some u) ∧ E.rep w S x c) :
    ∃ L : List (List Value), L.length = xs.length ∧ (∀ (j : Nat) (x : α), xs[j]? = some x → ∃ c : List Value, L[j]? = some c ∧ E.rep w S x c) ∧ ∀ (i : Nat) (u : Value), L.flatten[i]? = some u → w.cell? (ad.add i) = some u := by
  have hx : ∀ j, ∃ c : List Value, ∀ x, xs[j]? = some x → (∀ (m : Nat) (u : Value), c[m]? = some u → w.cell? (ad.add (j * E.k + m)) = some u) ∧ E.rep w S x c := by
    intro j
    cases hT : xs[j]? with
    | none => exact ⟨[], fun T h => by cases h⟩
    | some T0 =>
      obtain ⟨c, h1, h2⟩ := h j T0 hT
      exact ⟨c, fun T h => by cases h; exact ⟨h1, h2⟩⟩
  let f : Nat → List Value := fun j => Classical.choose (hx j)
  have hf : ∀ j x, xs[j]? = some x → (∀ (m : Nat) (u : Value), (f j)[m]? = some u → w.cell? (ad.add (j * E.k + m)) = some u) ∧ E.rep w S x (f j) := fun j => Classical.choose_spec (hx j)
  have hget : ∀ j x, xs[j]? = some x → ((List.range xs.length).map f)[j]? = some (f j) := fun j x hj => by
    have := (List.getElem?_eq_some_iff.1 hj).1
    rw [List.getElem?_map, List.getElem?_range this]; rfl
  have hk : ∀ c ∈ (List.range xs.length).map f, c.length = E.k := by
    intro c hc
    simp at hc
    obtain ⟨j, hj, rfl⟩ := hc
    exact (E.len (hf j xs[j] (List.getElem?_eq_getElem hj)).2).1
  refine ⟨(List.range xs.length).map f, by simp, fun j x hj => ⟨f j, hget j x hj, (hf j x hj).2⟩, fun i u hu => ?_⟩
  obtain ⟨j, m, c, rfl, h2, h3⟩ := flat_at E.k _ hk i u hu
  have hj : j < xs.length := by have := (List.getElem?_eq_some_iff.1 h2).1; simpa using this
  rw [hget j xs[j] (List.getElem?_eq_getElem hj)] at h2
  cases h2
  exact (hf j xs[j] (List.getElem?_eq_getElem hj)).1 m u h3
theorem push_afterM {α : Type} {E : El α} {w w' : World} {base : Nat} {S : Nat → Prop} {v v' : Value} {xs news : List α} {L M : List (List Value)} (hl : L.length = xs.length) (hml : M.length = news.length)
    (hr : ∀ (j : Nat) (x : α), xs[j]? = some x → ∃ c : List Value, L[j]? = some c ∧ E.rep w (fun b => S b ∧ some b ≠ v.ownBlock) x c) (hm : ∀ (j : Nat) (x : α), news[j]? = some x → ∃ c : List Value, M[j]? = some c ∧ E.rep w (fun b => S b ∧ some b ≠ v.ownBlock) x c)
    (hown : w'.ownsRow base E.e E.k v' (xs.length + news.length) (L.flatten ++ M.flatten)) (hg : w.grownBy w' v.ownBlock) (hloc : v'.ownBlock = v.ownBlock ∨ v'.ownBlock = some w.heap.size) : RowG E w' base S v' (xs ++ news) := by
  have key : ∀ (y : α) (d : List Value), E.rep w (fun b => S b ∧ some b ≠ v.ownBlock) y d → E.rep w' (fun b => S b ∧ some b ≠ v'.ownBlock) y d := fun y d hrep =>
    E.kept (fun b hb => ⟨hb.1.1, by
      rcases hloc with e | e
      · rw [e]; exact hb.1.2
      · rw [e]; intro e'; cases e'; exact absurd hb.2 (Nat.lt_irrefl _)⟩) (fun b hb hlt => hg.block b hlt hb.1.2) (E.bound hrep)
  refine ⟨L ++ M, ?_, by simp [hl, hml], fun j y hj => ?_⟩
  · rw [List.flatten_append, List.length_append]; exact hown
  · by_cases hj' : j < xs.length
    · rw [List.getElem?_append_left hj'] at hj
      obtain ⟨c', hc', hrep⟩ := hr j y hj
      exact ⟨c', by rw [List.getElem?_append_left (by omega)]; exact hc', key _ _ hrep⟩
    · rw [List.getElem?_append_right (by omega)] at hj
      obtain ⟨c', hc', hrep⟩ := hm _ y hj
      exact ⟨c', by rw [List.getElem?_append_right (by omega), hl]; exact hc', key _ _ hrep⟩
/-- An append of several, in a plain region. -/
theorem wpList_pushM {α : Type} {w : World} {ops : Array Oper} {rest : List Oper} {o : Oper} {a : Act} {Q : Exit → Act → World → Prop} (E : El α) (hgd : o.guard = none) (s x : Operand)
    (ho : o.op = .call { callee := .builtin .append, args := #[s, x], argTypes := #[E.t, E.t] })
    (base : Nat) (S : Nat → Prop) (v : Value) (xs : List α) (hs : a.eval s = v) (hrow : RowG E w base S v xs) (ad : Addr) (m c : Nat) (hx : a.eval x = .slice (some ad) m c) (news : List α) (hm : news.length = m)
    (hc : ∀ (j : Nat) (y : α), news[j]? = some y → ∃ c : List Value, (∀ (m : Nat) (u : Value), c[m]? = some u → w.cell? (ad.add (j * E.k + m)) = some u) ∧ E.rep w (fun b => S b ∧ some b ≠ v.ownBlock) y c)
    (N : Nat) (hN : N = xs.length + m) (hb : N ≤ 1000000) (hbase : base ≤ w.heap.size)
    (hK : ∀ (a' : Option Addr) (c' : Nat) (w' : World), RowG E w' base S (.slice a' N c') (xs ++ news) → w.grownBy w' v.ownBlock → wpList Try.prog ops Q rest (a.put o.dst (.slice a' N c')) w') :
    wpList Try.prog ops Q (o :: rest) a w := by
  obtain ⟨i, z, hi, hz, hk, hby, hzs⟩ := E.info
  obtain ⟨L, hown, hl, hr⟩ := hrow
  obtain ⟨M, hml, hmr, hmc⟩ := cells_ofG E hc
  have hMk := rowG_len hml hmr
  have hE := E.hby
  refine wpList_append_own_at w hgd s x E.t ho base E.e i z E.k E.by_ E.und hi hz hk hby hzs E.hk v xs.length L.flatten hs hown ad m c M.flatten hx (by rw [flat_len E.k M fun c h => (hMk c h).1, hml, hm]) hmc ?_ (by unfold maxLen; omega) ?_ hbase ?_
  · intro u hu
    obtain ⟨c', hc', hu'⟩ := List.mem_flatten.1 hu
    exact (hMk c' hc').2 u hu'
  · have := Nat.mul_le_mul (show xs.length + m ≤ 1000000 by omega) hE
    omega
  intro v' w' hown' hg _ hloc
  have hrow' : RowG E w' base S v' (xs ++ news) := push_afterM hl hml hr hmr (by rw [hm]; exact hown') hg hloc
  obtain ⟨a', c', rfl, _⟩ := hrow'.slice
  have e : (xs ++ news).length = N := by rw [List.length_append, hm, hN]
  rw [e] at hrow' ⊢
  exact hK a' c' w' hrow' hg
theorem RowG.imp {α : Type} {E : El α} {w : World} {base : Nat} {S S' : Nat → Prop} {v : Value} {xs : List α} (h : RowG E w base S v xs) (hS : ∀ b, S b → S' b) : RowG E w base S' v xs := by
  obtain ⟨L, h1, h2, h3⟩ := h
  refine ⟨L, h1, h2, fun j x hj => ?_⟩
  obtain ⟨c, hc, hr⟩ := h3 j x hj
  exact ⟨c, hc, E.kept (fun b hb => ⟨hS b hb.1, hb.2⟩) (fun _ _ _ => rfl) hr⟩
end Go.Proofs.Ytljgpgmaceackaa

/- Elements of a list appended to a row that the call owns, whatever the list's address. -/
namespace Go.Proofs.Ytljgpgmaceackaa
open Go.RowKit Mth

theorem wpList_pushS {α : Type} {w : World} {ops : Array Oper} {rest : List Oper} {o : Oper} {a : Act} {Q : Exit → Act → World → Prop} (E : El α) (hgd : o.guard = none) (s x : Operand)
    (ho : o.op = .call { callee := .builtin .append, args := #[s, x], argTypes := #[E.t, E.t] })
    (base : Nat) (S : Nat → Prop) (v : Value) (xs : List α) (hs : a.eval s = v) (hrow : RowG E w base S v xs) (lv : Value) (hx : a.eval x = lv) (news : List α) (hl : SlG E w (fun b => S b ∧ some b ≠ v.ownBlock) news lv)
    (hb : xs.length + news.length ≤ 1000000) (hbase : base ≤ w.heap.size)
    (hK : ∀ (a' : Option Addr) (n' c' : Nat) (w' : World), n' = (xs ++ news).length → RowG E w' base S (.slice a' n' c') (xs ++ news) → w.grownBy w' v.ownBlock → wpList Try.prog ops Q rest (a.put o.dst (.slice a' n' c')) w') :
    wpList Try.prog ops Q (o :: rest) a w := by
  obtain ⟨la, lc, rfl, hc, hj⟩ := hl
  cases la with
  | none =>
    have hn : news = [] := by
      cases news with
      | nil => rfl
      | cons y l => obtain ⟨ad, c, e, -⟩ := hj 0 y rfl; cases e
    subst hn
    obtain ⟨i, z, hi, hz, hk, hby, hzs⟩ := E.info
    obtain ⟨a', c', rfl, hle, -⟩ := hrow.slice
    have hrun := run_append_nothing (P := Try.prog) w E.t E.t o.type E.e i E.und hi a' xs.length c' hle (.slice none 0 lc) (Src.ofNil w E.und lc)
    refine wpList_plain hgd fun K hK' => ?_
    unfold Oper.wp
    simp [execOp, ho, resolve, invoke, builtin, hs, hx, hrun, Result.andThen]
    exact hK' _ _ (hK a' xs.length c' w (by simp) (by simpa using hrow) ⟨rfl, rfl, rfl, Nat.le_refl _, fun _ _ _ => rfl⟩)
  | some ad =>
    refine wpList_pushM E hgd s x ho base S v xs hs hrow ad news.length lc hx news rfl (fun j y hy => ?_) (xs.length + news.length) rfl hb hbase fun a' c' w' h1 h2 => hK a' _ c' w' (by rw [List.length_append]) h1 h2
    obtain ⟨ad', c, e, -, h3, h4⟩ := hj j y hy
    cases e
    exact ⟨c, h3, h4⟩
end Go.Proofs.Ytljgpgmaceackaa

/- An append of one, with the place of the new row. -/
namespace Go.Proofs.Ytljgpgmaceackaa
open Go.RowKit Mth

theorem SlG.lift' {α : Type} {E : El α} {w w' : World} {S : Nat → Prop} {xs : List α} {v : Value} (h : SlG E w S xs v) (hb : Below w.heap.size w w') : SlG E w' S xs v := h.kept (fun _ h => h) (fun g _ hl => hb.block g hl)
end Go.Proofs.Ytljgpgmaceackaa

/- The reference's Last. -/
namespace Go.Proofs.Ytljgpgmaceackaa
open Go.RowKit Go.Maps Mth

/-- The last place of each name. -/
def lastN : List ByteArray → List ByteArray
  | [] => []
  | n :: l => if hasN l n then lastN l else n :: lastN l
theorem lastN_step {l : List ByteArray} {j : Nat} {t : ByteArray} (h : l[j]? = some t) : lastN (l.drop j) = if hasN (l.drop (j + 1)) t then lastN (l.drop (j + 1)) else t :: lastN (l.drop (j + 1)) := by
  obtain ⟨hl, e⟩ := List.getElem?_eq_some_iff.1 h
  rw [List.drop_eq_getElem_cons hl, e]; rfl
end Go.Proofs.Ytljgpgmaceackaa

/- Maps by names: how many arguments a known constructor takes; which names were seen. -/
namespace Go.Proofs.Ytljgpgmaceackaa
open Go.RowKit Go.Maps Go.WideMaps Mth

/-- The first entry of a name. -/
def kf : List (List UInt8 × Int) → List UInt8 → Option Int
  | [], _ => none
  | p :: l, s => if p.1 == s then some p.2 else kf l s
theorem kf_snoc (s t : List UInt8) (n : Int) : ∀ ks, kf ks s = none → kf (ks ++ [(s, n)]) t = if s = t then some n else kf ks t := by
  intro ks
  induction ks with
  | nil =>
    intro _
    by_cases h : s = t
    · subst h; simp [kf]
    · simp [kf, h]
  | cons p l ih =>
    intro h
    simp only [kf] at h
    split at h
    · cases h
    · rename_i hp
      simp only [List.cons_append, kf]
      rw [ih h]
      by_cases hst : s = t
      · subst hst; rw [if_pos rfl, if_pos rfl, if_neg hp]
      · rw [if_neg hst]; simp [hst]
structure KD (D : DataW Unit) (ks : List (List UInt8 × Int)) : Prop where
  isMap : IsMap D
  has : ∀ s, Maps.has D (.string s) = (kf ks s).isSome
  look : ∀ s, D.atKey (.string s) (.lit (.int .i64 0)) = .lit (.int .i64 ((kf ks s).getD 0))
theorem KD.nil : KD (.map []) [] := ⟨isMap_empty, fun _ => rfl, fun _ => rfl⟩
theorem strLit_ne {s t : List UInt8} (h : ¬ s = t) : (Lit.string t : Lit) ≠ .string s := fun e => h (by cases e; rfl)
theorem KD.put {D : DataW Unit} {ks : List (List UInt8 × Int)} (h : KD D ks) {s : List UInt8} (hs : kf ks s = none) (n : Int) : KD (D.put (.string s) (.lit (.int .i64 n))) (ks ++ [(s, n)]) := by
  refine ⟨h.isMap.put _ _, fun t => ?_, fun t => ?_⟩
  · rw [kf_snoc s t n ks hs]
    by_cases hst : s = t
    · subst hst; rw [has_put_same h.isMap (by simp [WideAt.IsKeyLit]), if_pos rfl]; rfl
    · rw [has_put_other (strLit_ne hst), if_neg hst, h.has]
  · rw [kf_snoc s t n ks hs]
    by_cases hst : s = t
    · subst hst; rw [atKey_put_same h.isMap (by simp [WideAt.IsKeyLit]), if_pos rfl]; rfl
    · rw [atKey_put_other (strLit_ne hst), if_neg hst, h.look]
/-- The block b holds the known constructors. -/
def KM (w : World) (b n : Nat) (ks : List (List UInt8 × Int)) : Prop := ∃ D : DataW Unit, w.ownsMap Try.prog 9 (plainElem Try.prog 3) b n D ∧ KD D ks
theorem KM.lt {w : World} {b n : Nat} {ks : List (List UInt8 × Int)} (h : KM w b n ks) : b < w.heap.size := by
  obtain ⟨D, h, -⟩ := h
  exact h.lt
theorem KM.kept {w w' : World} {b n : Nat} {ks : List (List UInt8 × Int)} {row : Option Nat} (h : KM w b n ks) (hg : w.grownBy w' row) (hne : some b ≠ row) : KM w' b n ks := by
  obtain ⟨D, h, k⟩ := h
  exact ⟨D, h.kept hg hne, k⟩
theorem KM.lift {w w' : World} {b n : Nat} {ks : List (List UInt8 × Int)} (h : KM w b n ks) (hb : Below w.heap.size w w') : KM w' b n ks := h.kept (grown_of_below hb none) (by simp)
theorem KM.alloc {w : World} {b n : Nat} {ks : List (List UInt8 × Int)} (h : KM w b n ks) (o : Obj) : KM (w.alloc o) b n ks := h.kept (World.grownBy_alloc w o none) (by simp)
theorem KM.mono {w : World} {b n m : Nat} {ks : List (List UInt8 × Int)} (h : KM w b n ks) (hn : n ≤ m) : KM w b m ks := by
  obtain ⟨D, h, k⟩ := h
  exact ⟨D, h.mono hn, k⟩
theorem KM.made (w : World) : KM (w.alloc (.map #[] 0)) w.heap.size 0 [] := ⟨_, World.ownsMap_made w Try.prog 9 _, KD.nil⟩
theorem Try.strKey : Keyed Try.prog 9 := string_keyed Try.underlying9
theorem Try.zeroBool (w : World) : (zeroValue 4).run Try.prog w = .ok (.bool false) w := by kernel_rfl
theorem Try.zeroInt (w : World) : (zeroValue 3).run Try.prog w = .ok (.int .i64 0) w := by kernel_rfl
section
variable (w : World) {ops : Array Oper} {rest : List Oper} {o : Oper} {a : Act} {Q : Exit → Act → World → Prop}
theorem wpList_kLook (hgd : o.guard = none) (m x : Operand) (hop : o.op = Op.lookup 125 m x true) (b n : Nat) (ks : List (List UInt8 × Int)) (hm : a.eval m = .map (some b)) (hK : KM w b n ks) (s : ByteArray) (hx : a.eval x = .string s) (hs : s.size ≤ maxLen)
    (hN : wpList Try.prog ops Q rest (a.put o.dst (.tuple #[.int .i64 ((kf ks (bl s)).getD 0), .bool (kf ks (bl s)).isSome])) w) : wpList Try.prog ops Q (o :: rest) a w := by
  obtain ⟨D, hown, hD⟩ := hK
  refine wpList_lookup_own_ok_int w hgd m x _ hop _ _ .i64 Try.strKey Try.underlying125 Try.underlying3 (Try.zeroInt _) b n D hm hown _ _ hx (keyOf_string_mk Try.underlying9 hs) fun c hc _ => ?_
  have h1 := hD.look (bl s)
  have h2 := hD.has (bl s)
  rw [show Lit.string s.data.toList = .string (bl s) from rfl] at hc ⊢
  rw [hc] at h1
  cases h1
  rw [h2]
  exact hN
theorem wpList_kPut (hgd : o.guard = none) (m x v : Operand) (hop : o.op = Op.mapUpdate 125 m x v) (b n : Nat) (ks : List (List UInt8 × Int)) (hm : a.eval m = .map (some b)) (hK : KM w b n ks) (hn : n < maxLen) (s : ByteArray) (hx : a.eval x = .string s) (hs : s.size ≤ maxLen)
    (hno : kf ks (bl s) = none) (c : Int) (hv : a.eval v = .int .i64 c) (hc : (Lit.int .i64 c).wf = true) (hN : ∀ w', KM w' b (n + 1) (ks ++ [(bl s, c)]) → w.grownBy w' (some b) → wpList Try.prog ops Q rest (a.put o.dst undef) w') : wpList Try.prog ops Q (o :: rest) a w := by
  obtain ⟨D, hown, hD⟩ := hK
  refine wpList_mapUpdate_own (H := Unit) w hgd m x v _ hop _ _ Try.strKey Try.underlying125 (plainElem Try.prog 3) b n D hm hown hn _ _ _ hx hv (keyOf_string_mk Try.underlying9 hs) _ [] (plainElem_int Try.underlying3 hc) fun w' h1 h2 => hN w' ⟨_, h1, ?_⟩ h2
  exact hD.put hno c
theorem wpList_kLay (hgd : o.guard = none) (m x v : Operand) (hop : o.op = Op.insert 125 m x v) (b n : Nat) (ks : List (List UInt8 × Int)) (hm : a.eval m = .map (some b)) (hK : KM w b n ks) (hn : n < maxLen) (s : ByteArray) (hx : a.eval x = .string s) (hs : s.size ≤ maxLen)
    (hno : kf ks (bl s) = none) (c : Int) (hv : a.eval v = .int .i64 c) (hc : (Lit.int .i64 c).wf = true) (hN : ∀ w', KM w' b (n + 1) (ks ++ [(bl s, c)]) → w.grownBy w' (some b) → wpList Try.prog ops Q rest (a.put o.dst undef) w') : wpList Try.prog ops Q (o :: rest) a w := by
  obtain ⟨D, hown, hD⟩ := hK
  refine wpList_plain hgd fun K' hK' => ?_
  obtain ⟨w', hrun, r1, r2⟩ := hown.update Try.strKey Try.underlying125 hn (keyOf_string_mk Try.underlying9 hs) (plainElem_int (H := Unit) Try.underlying3 hc)
  unfold Oper.wp
  simp [execOp, hop, hm, hx, hv, hrun, Result.andThen]
  exact hK' _ _ (hN w' ⟨_, r1, hD.put hno c⟩ r2)
end

/-! Names that were seen. -/
structure SD (D : DataW Unit) (ns : List (List UInt8)) : Prop where
  isMap : IsMap D
  look : ∀ s, D.atKey (.string s) (.lit (.bool false)) = .lit (.bool (ns.contains s))
theorem SD.nil : SD (.map []) [] := ⟨isMap_empty, fun _ => rfl⟩
theorem SD.put {D : DataW Unit} {ns : List (List UInt8)} (h : SD D ns) (s : List UInt8) : SD (D.put (.string s) (.lit (.bool true))) (ns ++ [s]) := by
  refine ⟨h.isMap.put _ _, fun t => ?_⟩
  by_cases hst : s = t
  · subst hst; rw [atKey_put_same h.isMap (by simp [WideAt.IsKeyLit])]; simp
  · rw [atKey_put_other (strLit_ne hst), h.look]
    have : (ns ++ [s]).contains t = ns.contains t := by
      have h1 : ¬ t = s := fun e => hst e.symm
      simp [h1]
    rw [this]
def SM (w : World) (b n : Nat) (ns : List (List UInt8)) : Prop := ∃ D : DataW Unit, w.ownsMap Try.prog 9 (plainElem Try.prog 4) b n D ∧ SD D ns
theorem SM.lt {w : World} {b n : Nat} {ns : List (List UInt8)} (h : SM w b n ns) : b < w.heap.size := by
  obtain ⟨D, h, -⟩ := h
  exact h.lt
theorem SM.kept {w w' : World} {b n : Nat} {ns : List (List UInt8)} {row : Option Nat} (h : SM w b n ns) (hg : w.grownBy w' row) (hne : some b ≠ row) : SM w' b n ns := by
  obtain ⟨D, h, k⟩ := h
  exact ⟨D, h.kept hg hne, k⟩
theorem SM.lift {w w' : World} {b n : Nat} {ns : List (List UInt8)} (h : SM w b n ns) (hb : Below w.heap.size w w') : SM w' b n ns := h.kept (grown_of_below hb none) (by simp)
theorem SM.alloc {w : World} {b n : Nat} {ns : List (List UInt8)} (h : SM w b n ns) (o : Obj) : SM (w.alloc o) b n ns := h.kept (World.grownBy_alloc w o none) (by simp)
theorem SM.mono {w : World} {b n m : Nat} {ns : List (List UInt8)} (h : SM w b n ns) (hn : n ≤ m) : SM w b m ns := by
  obtain ⟨D, h, k⟩ := h
  exact ⟨D, h.mono hn, k⟩
theorem SM.made (w : World) : SM (w.alloc (.map #[] 0)) w.heap.size 0 [] := ⟨_, World.ownsMap_made w Try.prog 9 _, SD.nil⟩
section
variable (w : World) {ops : Array Oper} {rest : List Oper} {o : Oper} {a : Act} {Q : Exit → Act → World → Prop}
end
end Go.Proofs.Ytljgpgmaceackaa

/- The package's errors of a type: of a node alone, of all nodes. -/
namespace Go.Proofs.Ytljgpgmaceackaa
open Go.RowKit Go.Maps Mth

section
variable (w : World) {ops : Array Oper} {rest : List Oper} {o : Oper} {a : Act} {Q : Exit → Act → World → Prop}
theorem wpList_kLookN (hgd : o.guard = none) (m x : Operand) (hop : o.op = Op.lookup 125 m x true) (b n : Nat) (ks : List (List UInt8 × Int)) (hm : a.eval m = .map (some b)) (hK : KM w b n ks) (s : ByteArray) (hx : a.eval x = .string s) (hs : s.size ≤ maxLen) (hr : kf ks (bl s) = none)
    (hN : wpList Try.prog ops Q rest (a.put o.dst (.tuple #[.int .i64 0, .bool false])) w) : wpList Try.prog ops Q (o :: rest) a w :=
  wpList_kLook w hgd m x hop b n ks hm hK s hx hs (by rw [hr]; exact hN)
theorem wpList_kLookS (hgd : o.guard = none) (m x : Operand) (hop : o.op = Op.lookup 125 m x true) (b n : Nat) (ks : List (List UInt8 × Int)) (hm : a.eval m = .map (some b)) (hK : KM w b n ks) (s : ByteArray) (hx : a.eval x = .string s) (hs : s.size ≤ maxLen) (c : Int) (hr : kf ks (bl s) = some c)
    (hN : wpList Try.prog ops Q rest (a.put o.dst (.tuple #[.int .i64 c, .bool true])) w) : wpList Try.prog ops Q (o :: rest) a w :=
  wpList_kLook w hgd m x hop b n ks hm hK s hx hs (by rw [hr]; exact hN)
end
/-- The error of a node alone. -/
def ndK (ks : List (List UInt8 × Int)) (n : ByteArray) (m : Int) : Int :=
  match kf ks (bl n) with
  | none => 7
  | some c => if c == m then 0 else 8
def ndE (ks : List (List UInt8 × Int)) (ns : List ByteArray) (k : Int) (n : ByteArray) (m : Int) : Int :=
  if k == 5 then (if decide (0 ≤ ix ns n) then 0 else 7) else if k == 4 then ndK ks n m else 0
mutual
/-- The first error among the nodes. -/
def frm (ks : List (List UInt8 × Int)) (ns : List ByteArray) : Ty → Int
  | .mk k n _ _ ts => if ndE ks ns k n ts.length == 0 then frmL ks ns ts else ndE ks ns k n ts.length
def frmL (ks : List (List UInt8 × Int)) (ns : List ByteArray) : List Ty → Int
  | [] => 0
  | t :: l => if frm ks ns t == 0 then frmL ks ns l else frm ks ns t
end
set_option maxHeartbeats 1600000 in
theorem nodeErr_any (T : Ty) (ks : List (List UInt8 × Int)) (ns : List ByteArray) (b m : Nat) (v nv : Value) (S S' : Nat → Prop) (w : World) (hK : KM w b m ks) (hN : SlG StrE w S' ns nv) (h : Rep w S T v) :
    Calls Try.prog 92 #[.map (some b), v, nv] w fun e w' => e = .returned (.int .i64 (ndE ks ns T.k T.n T.ts.length)) ∧ Below w.heap.size w w' := by
  obtain ⟨k, n, i, hm, s, eT, rfl, hn, hs⟩ := h.open
  obtain ⟨sa, sc, rfl, ⟨hl1, hl2⟩, -⟩ := hs
  obtain ⟨na, nc, rfl, hle⟩ := slice_form hN
  have hTk : T.k = k := by rw [eT]; rfl
  have hTn : T.n = n := by rw [eT]; rfl
  rw [hTk, hTn]
  have hba : ∀ o, Below w.heap.size w (w.alloc o) := fun o => (Below.refl _ w).alloc (Nat.le_refl _) o
  have HK := Lib.hid (fun o => hK.alloc o)
  have HC : Hid (∀ o, Calls Try.prog 56 #[.slice na ns.length nc, .string n] (w.alloc o) fun e w' => e = .returned (.bool (decide (0 ≤ ix ns n))) ∧ w.alloc o = w') := fun o => contains_any ns n _ S' (w.alloc o) (hN.kept (fun _ h => h) (fun g _ hl => (hba o).block g hl))
  have hlt : T.ts.length ≤ maxLen := by omega
  clear hK hN h eT hTk hTn hl1 hl2
  generalize T.ts.length = tn at *
  generalize ns.length = nn at *
  unfold maxLen at hlt hle
  have hnm : n.size ≤ maxLen := hn
  have HNm := Lib.hid hnm
  unfold ndE
  cases h5 : (k == 5) with
  | true =>
    cases hq : decide (0 ≤ ix ns n) with
    | true =>
      rw [hq] at HC
      clear hq
      go_enter Try.func92, Try.ntmps92
      go_wp2_with (go_at_call 56; refine (HC.out _).mono ?_; rintro e w1 ⟨rfl, rfl⟩)
      go_ret
      exact ⟨rfl, hba _⟩
    | false =>
      rw [hq] at HC
      clear hq
      go_enter Try.func92, Try.ntmps92
      go_wp2_with (go_at_call 56; refine (HC.out _).mono ?_; rintro e w1 ⟨rfl, rfl⟩)
      go_ret
      exact ⟨rfl, hba _⟩
  | false =>
    clear HC
    cases h4 : (k == 4) with
    | false =>
      go_enter Try.func92, Try.ntmps92
      go_wp2
      go_ret
      exact ⟨rfl, hba _⟩
    | true =>
      simp only [Bool.false_eq_true, if_false, if_true]
      unfold ndK
      cases hf : kf ks (bl n) with
      | none =>
        have HF := Lib.hid hf
        clear hf
        go_enter Try.func92, Try.ntmps92
        go_wp2_with (at_lookup; refine wpList_kLookN _ rfl _ _ rfl b m ks rfl (HK.out _) n rfl HNm.out HF.out ?_)
        go_ret
        exact ⟨rfl, hba _⟩
      | some c =>
        have HF := Lib.hid hf
        clear hf
        cases hc : (c == (tn : Int)) with
        | true =>
          have hc' : (c != (tn : Int)) = false := by rw [bne, hc]; rfl
          go_enter Try.func92, Try.ntmps92
          go_wp2_with (at_lookup; refine wpList_kLookS _ rfl _ _ rfl b m ks rfl (HK.out _) n rfl HNm.out c HF.out ?_)
          go_ret
          exact ⟨rfl, hba _⟩
        | false =>
          have hc' : (c != (tn : Int)) = true := by rw [bne, hc]; rfl
          go_enter Try.func92, Try.ntmps92
          go_wp2_with (at_lookup; refine wpList_kLookS _ rfl _ _ rfl b m ks rfl (HK.out _) n rfl HNm.out c HF.out ?_)
          go_ret
          exact ⟨rfl, hba _⟩
end Go.Proofs.Ytljgpgmaceackaa

/- Names of a list appended to a row that the call owns, whatever the list's address. -/
namespace Go.Proofs.Ytljgpgmaceackaa
open Go.RowKit Mth

theorem wpList_pushStr {w : World} {ops : Array Oper} {rest : List Oper} {o : Oper} {a : Act} {Q : Exit → Act → World → Prop} (hgd : o.guard = none) (s x : Operand)
    (ho : o.op = .call { callee := .builtin .append, args := #[s, x], argTypes := #[25, 25] })
    (base : Nat) (v : Value) (xs : List ByteArray) (hs : a.eval s = v) (hrow : RowG StrE w base (fun _ => False) v xs) (lv : Value) (hx : a.eval x = lv) (news : List ByteArray) (S' : Nat → Prop) (hl : SlG StrE w S' news lv)
    (hb : xs.length + news.length ≤ 1000000) (hbase : base ≤ w.heap.size)
    (hK : ∀ (a' : Option Addr) (n' c' : Nat) (w' : World), n' = (xs ++ news).length → RowG StrE w' base (fun _ => False) (.slice a' n' c') (xs ++ news) → w.grownBy w' v.ownBlock → wpList Try.prog ops Q rest (a.put o.dst (.slice a' n' c')) w') :
    wpList Try.prog ops Q (o :: rest) a w := by
  obtain ⟨la, lc, rfl, hc, hj⟩ := hl
  cases la with
  | none =>
    have hn : news = [] := by
      cases news with
      | nil => rfl
      | cons y l => obtain ⟨ad, c, e, -⟩ := hj 0 y rfl; cases e
    subst hn
    obtain ⟨i, z, hi, hz, hk, hby, hzs⟩ := StrE.info
    obtain ⟨a', c', rfl, hle, -⟩ := hrow.slice
    have hrun := run_append_nothing (P := Try.prog) w 25 25 o.type StrE.e i Try.underlying25 hi a' xs.length c' hle (.slice none 0 lc) (Src.ofNil w Try.underlying25 lc)
    refine wpList_plain hgd fun K hK' => ?_
    unfold Oper.wp
    simp [execOp, ho, resolve, invoke, builtin, hs, hx, hrun, Result.andThen]
    exact hK' _ _ (hK a' xs.length c' w (by simp) (by simpa using hrow) ⟨rfl, rfl, rfl, Nat.le_refl _, fun _ _ _ => rfl⟩)
  | some ad =>
    refine wpList_pushM StrE hgd s x ho base (fun _ => False) v xs hs hrow ad news.length lc hx news rfl (fun j y hy => ?_) (xs.length + news.length) rfl hb hbase fun a' c' w' h1 h2 => hK a' _ c' w' (by rw [List.length_append]) h1 h2
    obtain ⟨ad', c, e, -, h3, h4⟩ := hj j y hy
    cases e
    exact ⟨c, h3, h4⟩
end Go.Proofs.Ytljgpgmaceackaa
