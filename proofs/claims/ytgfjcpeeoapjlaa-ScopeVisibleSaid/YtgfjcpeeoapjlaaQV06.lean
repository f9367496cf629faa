import Derived.Test.YtgfjcpeeoapjlaaQV04
import Derived.LaidEql
import Derived.Stop.Asserts
import Derived.RowKitTokens
import Derived.Test.YtgfjcpeeoapjlaaQV02
import Derived.LoopTactic
import Derived.Deep.QuietTactic
import Derived.BigQuiet
import Derived.Deep.AppendLies
import Derived.Deep.Upon
/- errors.As at a nil error and at the package's own error: what it finds. -/
namespace Go.Proofs.Ytgfjcpeeoapjlaa
open Go.RowKit Go.Extern.Stop Go.Stop Go.Extern

theorem rlm (z : Sem Value) (f : TypeId → Addr → Nat → Nat → Sem Value) (v : Value) :
    ReflectliteValue.method z f #[v] = (do match ← ReflectliteValue.parts v with | none => z | some (t, a, fl) => f t a fl (fl % 32)) := rfl
theorem rls (v x : Value) : ReflectliteValue.set #[v, x] = (do
    let (some (dst, a, fl), some (src, b, _)) := (← ReflectliteValue.parts v, ← ReflectliteValue.parts x)
      | unsupported (.noEntry "extern/(internal/reflectlite.Value).Set.zeroValue")
    if fl / ReflectliteValue.flagAddr % 2 == 0 then unsupported (.noEntry "extern/(internal/reflectlite.Value).Set.unaddressable")
    let val ← loadVar src b
    if ← Rtype.directlyAssignable dst src then storeVar dst a val
    else if ← Rtype.implements dst src then
      if (← Rtype.kind src) == 20 then
        match val with
        | .nilIface => unsupported (.noEntry "extern/reflectlite: a nil value of one interface type handed on as a value of another")
        | _ => storeVar dst a val
      else storeVar dst a (.iface src val)
    else panicString ("reflectlite.Set: value of type " ++ (← Rtype.spelt src) ++ " is not assignable to type " ++ (← Rtype.spelt dst))
    pure (.tuple #[])) := rfl
end Go.Proofs.Ytgfjcpeeoapjlaa

/- errors.As at the package's own error. -/
namespace Go.Proofs.Ytgfjcpeeoapjlaa
open Go.RowKit Go.Extern.Stop Go.Stop Go.Extern

end Go.Proofs.Ytgfjcpeeoapjlaa

/- Valid types: what is of no function. -/
namespace Go.Proofs.Ytgfjcpeeoapjlaa.S3
open Go.RowKit Go.Maps Mth

def conOk (n : ByteArray) (c : Nat) : Bool := if n.toList == [45, 62] then c == 2 else if n.toList == [73, 110, 116] then c == 0 else isUp (bl n) && decide (c ≤ 4)
def idOk (i : Int) : Bool := decide (0 ≤ i) && decide (i ≤ 1000000)
def homeOk (i : Int) : Bool := decide (-1 ≤ i) && decide (i ≤ 1000000)
mutual
def valid : Ty → Bool
  | .mk k n i h ts =>
    if k = 1 ∨ k = 2 then idOk i && n.toList == [] && h == 0 && decide (ts.length = 0)
    else if k = 3 then idOk i && homeOk h && n.toList == [] && decide (ts.length = 0)
    else if k = 4 then i == 0 && h == 0 && conOk n ts.length && validL ts
    else if k = 5 then isLo (bl n) && i == 0 && h == 0 && decide (ts.length = 0)
    else false
def validL : List Ty → Bool
  | [] => true
  | t :: l => valid t && validL l
end
theorem validL_any : ∀ l : List Ty, validL l = !l.any fun T => !valid T := by
  intro l
  induction l with
  | nil => rfl
  | cons t l ih => simp [validL, ih]
theorem validL_mem {l : List Ty} (h : validL l = true) {T : Ty} (hT : T ∈ l) : valid T = true := by
  rw [validL_any] at h
  simp at h
  exact h T hT
theorem Ty.induct {p : Ty → Prop} (h : ∀ T, (∀ U ∈ T.ts, p U) → p T) : ∀ T, p T := by
  have : ∀ (m : Nat) (T : Ty), nodes T ≤ m → p T := by
    intro m
    induction m with
    | zero => intro T h; have := nodes_pos T; omega
    | succ m ih =>
      intro T hm
      refine h T fun U hU => ih U ?_
      have := nodesL_mem hU
      cases T
      simp only [nodes, Ty.ts] at *
      omega
  exact fun T => this _ T (Nat.le_refl _)

theorem validL_step {l : List Ty} {j : Nat} {t : Ty} (h : l[j]? = some t) : validL (l.drop j) = (valid t && validL (l.drop (j + 1))) := by
  obtain ⟨hl, e⟩ := List.getElem?_eq_some_iff.1 h
  rw [List.drop_eq_getElem_cons hl, e]
  rfl
theorem box_cell {w wr : World} {X : Array Value} {Z : TypeId} (hb : Below (w.heap.size + 1) (w.alloc (.cells X Z)) wr) (m : Nat) (v : Value) (h : (w.alloc (.cells X Z)).cell? ⟨w.heap.size, m, none⟩ = some v) : wr.cell? ⟨w.heap.size, m, none⟩ = some v :=
  (hb.cell (p := ⟨w.heap.size, m, none⟩) (Nat.lt_succ_self _)).trans h
theorem box_below {w wr : World} {X : Array Value} {Z : TypeId} (hb : Below (w.heap.size + 1) (w.alloc (.cells X Z)) wr) : Below w.heap.size w wr :=
  ((Below.refl _ w).alloc (Nat.le_refl _) _).trans (hb.mono (Nat.le_succ _))

end Go.Proofs.Ytgfjcpeeoapjlaa.S3

/- Lists of names: whether one is in, whether two are the same, the last places of each. -/
namespace Go.Proofs.Ytgfjcpeeoapjlaa
open Go.RowKit Go.Maps Mth

/-- A name is in a list. -/
def hasN (l : List ByteArray) (s : ByteArray) : Bool := l.any fun t => t.toList == s.toList
theorem hasN_step {l : List ByteArray} {j : Nat} {t : ByteArray} (h : l[j]? = some t) (s : ByteArray) : hasN (l.drop j) s = ((t.toList == s.toList) || hasN (l.drop (j + 1)) s) := by
  obtain ⟨hl, e⟩ := List.getElem?_eq_some_iff.1 h
  rw [List.drop_eq_getElem_cons hl, e]; rfl
set_option maxHeartbeats 1600000 in
theorem has_any (l : List ByteArray) (s : ByteArray) (v : Value) (S : Nat → Prop) (w : World) (h : SlG StrE w S l v) :
    Calls Try.prog 27 #[v, .string s] w fun e w' => e = .returned (.bool (hasN l s)) ∧ w = w' := by
  obtain ⟨a, c, rfl, hle⟩ := slice_form h
  have HJ := Lib.hid (str_at h)
  clear h
  unfold maxLen at hle
  obtain ⟨m, hm⟩ : ∃ m, m = l.length := ⟨_, rfl⟩
  rw [← hm] at hle ⊢
  have HM := Lib.hid hm
  clear hm
  have HE : Hid (hasN l s = hasN (l.drop 0) s) := rfl
  go_enter Try.func27, Try.ntmps27
  go_wp2
  go_loop [5] (fun i => ∃ j : Nat, j ≤ m ∧ i = .int .i64 j ∧ Hid (hasN l s = hasN (l.drop j) s)) (fun i => m - (intOf i).toNat)
  case atStart => exact ⟨0, Nat.zero_le _, rfl, HE⟩
  case round =>
    obtain ⟨j, hj, rfl, HT⟩ := hrel
    by_cases hlt : j < m
    · obtain ⟨t, ht⟩ : ∃ x, l[j]? = some x := ⟨_, List.getElem?_eq_getElem (by rw [← HM.out]; exact hlt)⟩
      obtain ⟨ad, rfl, hc⟩ := HJ.out j t ht
      have HS := Lib.hid (hasN_step ht s)
      have hji : (j : Int) < (m : Int) := by omega
      clear ht
      cases hq : (t.toList == s.toList) with
      | true =>
        have HR : Hid (hasN l s = true) := by show _ = _; rw [HT.out, HS.out, hq]; rfl
        go_wp2
        go_ret
        exact ⟨by rw [HR.out]; rfl, rfl⟩
      | false =>
        have HR : Hid (hasN l s = hasN (l.drop (j + 1)) s) := by show _ = _; rw [HT.out, HS.out, hq]; rfl
        go_wp2
        go_round
        case rel => exact ⟨j + 1, hlt, by go_num, HR⟩
        case measure => simp [intOf]; omega
    · have HR : Hid (hasN l s = false) := by
        show _ = _
        rw [HT.out, List.drop_eq_nil_of_le (by rw [← HM.out]; omega)]; rfl
      go_wp2
      go_ret
      exact ⟨by rw [HR.out]; rfl, rfl⟩
set_option maxHeartbeats 1600000 in
/-- Two lists of the same names are the same. -/
theorem same_any (l : List ByteArray) (v u : Value) (S S' : Nat → Prop) (w : World) (h : SlG StrE w S l v) (h' : SlG StrE w S' l u) :
    Calls Try.prog 15 #[v, u] w fun e w' => e = .returned (.bool true) ∧ Below w.heap.size w w' := by
  obtain ⟨a, c, rfl, hle⟩ := slice_form h
  obtain ⟨b, d, rfl, -⟩ := slice_form h'
  have HJ := Lib.hid (str_at h)
  have HK := Lib.hid (str_at h')
  clear h h'
  unfold maxLen at hle
  obtain ⟨m, hm⟩ : ∃ m, m = l.length := ⟨_, rfl⟩
  rw [← hm] at hle ⊢
  have HM := Lib.hid hm
  clear hm
  have HB0 : Hid (Below w.heap.size w w) := Below.refl _ _
  go_enter Try.func15, Try.ntmps15
  go_wp2
  go_loopw [5] (fun i wr => ∃ j : Nat, j ≤ m ∧ i = .int .i64 j ∧ Hid (Below w.heap.size w wr)) (fun i _ => m - (intOf i).toNat)
  case atStart => exact ⟨0, Nat.zero_le _, rfl, HB0⟩
  case round =>
    clear HB0
    obtain ⟨j, hj, rfl, HB⟩ := hrel
    by_cases hlt : j < m
    · obtain ⟨t, ht⟩ : ∃ x, l[j]? = some x := ⟨_, List.getElem?_eq_getElem (by rw [← HM.out]; exact hlt)⟩
      obtain ⟨ad, rfl, hc⟩ := HJ.out j t ht
      obtain ⟨bd, rfl, hd⟩ := HK.out j t ht
      have hc' := (HB.out.cell (World.block_lt_of_cell? _ _ hc)).trans hc
      have hd' := (HB.out.cell (World.block_lt_of_cell? _ _ hd)).trans hd
      have hji : (j : Int) < (m : Int) := by omega
      have HN : Hid (∀ n, Below w.heap.size w (wr.drewN n)) := fun n => HB.out.trans ((below_drewN (Below.refl _ wr) n).mono HB.out.size)
      clear ht hc hd
      go_wp2
      go_quiet (fail)
      go_wp2
      go_roundw
      case rel => exact ⟨j + 1, hlt, by go_num, HN.out _⟩
      case measure => simp [intOf]; omega
    · go_wp2
      go_ret
      exact ⟨rfl, HB.out⟩
end Go.Proofs.Ytgfjcpeeoapjlaa

/- Several elements appended at once to a row that the call owns. -/
namespace Go.Proofs.Ytgfjcpeeoapjlaa
open Go.RowKit Mth

theorem flat_len (k : Nat) : ∀ L : List (List Value), (∀ c ∈ L, c.length = k) → L.flatten.length = L.length * k := by
  intro L
  induction L with
  | nil => intro _; simp
  | cons x L ih =>
    intro h
    rw [List.flatten_cons, List.length_append, h x (by simp), ih fun c hc => h c (by simp [hc])]
    rw [List.length_cons, Nat.add_mul]; omega
theorem flat_at (k : Nat) : ∀ (L : List (List Value)), (∀ c ∈ L, c.length = k) → ∀ (i : Nat) (u : Value), L.flatten[i]? = some u → ∃ (j m : Nat) (c : List Value), i = j * k + m ∧ L[j]? = some c ∧ c[m]? = some u := by
  intro L
  induction L with
  | nil => intro _ i u h; simp at h
  | cons x L ih =>
    intro hL i u hu
    have hx : x.length = k := hL x (by simp)
    rw [List.flatten_cons] at hu
    by_cases hi : i < x.length
    · rw [List.getElem?_append_left hi] at hu
      exact ⟨0, i, x, by simp, rfl, hu⟩
    · rw [List.getElem?_append_right (by omega)] at hu
      obtain ⟨j, m, c, h1, h2, h3⟩ := ih (fun c h => hL c (by simp [h])) _ u hu
      exact ⟨j + 1, m, c, by rw [Nat.add_mul]; omega, by simpa using h2, h3⟩
/-- The cells of a list, one behind the other. -/
theorem cells_ofG {α : Type} (E : El α) {w : World} {S : Nat → Prop} {xs : List α} {ad : Addr} (h : ∀ (j : Nat) (x : α), xs[j]? = some x → ∃ c : List Value, (∀ (m : Nat) (u : Value), c[m]? = some u → w.cell? (ad.add (j * E.k + m)) = some u) ∧ E.rep w S x c) :
    ∃ L : List (List Value), L.length = xs.length ∧ (∀ (j : Nat) (x : α), xs[j]? = some x → ∃ c : List Value, L[j]? = some c ∧ E.rep w S x c) ∧ ∀ (i : Nat) (u : Value), L.flatten[i]? = some u → w.cell? (ad.add i) = some u := by
  have hx : ∀ j, ∃ c : List Value, ∀ x, xs[j]? = some x → (∀ (m : Nat) (u : Value), c[m]? = some u → w.cell? (ad.add (j * E.k + m)) = some u) ∧ E.rep w S x c := by
    intro j
    cases hT : xs[j]? with
    | none => exact ⟨[], fun T h => by cases h⟩
    | some T0 =>
      obtain ⟨c, h1, h2⟩ := h j T0 hT
      exact ⟨c, fun T h => by cases h; exact ⟨h1, h2⟩⟩
  let f : Nat → List Value := fun j => Classical.choose (hx j)
  have hf : ∀ j x, xs[j]? = some x → (∀ (m : Nat) (u : Value), (f j)[m]? = some u → w.cell? (ad.add (j * E.k + m)) = some u) ∧ E.rep w S x (f j) := fun j => Classical.choose_spec (hx j)
  have hget : ∀ j x, xs[j]? = some x → ((List.range xs.length).map f)[j]? = some (f j) := fun j x hj => by
    have := (List.getElem?_eq_some_iff.1 hj).1
    rw [List.getElem?_map, List.getElem?_range this]; rfl
  have hk : ∀ c ∈ (List.range xs.length).map f, c.length = E.k := by
    intro c hc
    simp at hc
    obtain ⟨j, hj, rfl⟩ := hc
    exact (E.len (hf j xs[j] (List.getElem?_eq_getElem hj)).2).1
  refine ⟨(List.range xs.length).map f, by simp, fun j x hj => ⟨f j, hget j x hj, (hf j x hj).2⟩, fun i u hu => ?_⟩
  obtain ⟨j, m, c, rfl, h2, h3⟩ := flat_at E.k _ hk i u hu
  have hj : j < xs.length := by have := (List.getElem?_eq_some_iff.1 h2).1; simpa using this
  rw [hget j xs[j] (List.getElem?_eq_getElem hj)] at h2
  cases h2
  exact (hf j xs[j] (List.getElem?_eq_getElem hj)).1 m u h3
theorem push_afterM {α : Type} {E : El α} {w w' : World} {base : Nat} {S : Nat → Prop} {v v' : Value} {xs news : List α} {L M : List (List Value)} (hl : L.length = xs.length) (hml : M.length = news.length)
    (hr : ∀ (j : Nat) (x : α), xs[j]? = some x → ∃ c : List Value, L[j]? = some c ∧ E.rep w (fun b => S b ∧ some b ≠ v.ownBlock) x c) (hm : ∀ (j : Nat) (x : α), news[j]? = some x → ∃ c : List Value, M[j]? = some c ∧ E.rep w (fun b => S b ∧ some b ≠ v.ownBlock) x c)
    (hown : w'.ownsRow base E.e E.k v' (xs.length + news.length) (L.flatten ++ M.flatten)) (hg : w.grownBy w' v.ownBlock) (hloc : v'.ownBlock = v.ownBlock ∨ v'.ownBlock = some w.heap.size) : RowG E w' base S v' (xs ++ news) := by
  have key : ∀ (y : α) (d : List Value), E.rep w (fun b => S b ∧ some b ≠ v.ownBlock) y d → E.rep w' (fun b => S b ∧ some b ≠ v'.ownBlock) y d := fun y d hrep =>
    E.kept (fun b hb => ⟨hb.1.1, by
      rcases hloc with e | e
      · rw [e]; exact hb.1.2
      · rw [e]; intro e'; cases e'; exact absurd hb.2 (Nat.lt_irrefl _)⟩) (fun b hb hlt => hg.block b hlt hb.1.2) (E.bound hrep)
  refine ⟨L ++ M, ?_, by simp [hl, hml], fun j y hj => ?_⟩
  · rw [List.flatten_append, List.length_append]; exact hown
  · by_cases hj' : j < xs.length
    · rw [List.getElem?_append_left hj'] at hj
      obtain ⟨c', hc', hrep⟩ := hr j y hj
      exact ⟨c', by rw [List.getElem?_append_left (by omega)]; exact hc', key _ _ hrep⟩
    · rw [List.getElem?_append_right (by omega)] at hj
      obtain ⟨c', hc', hrep⟩ := hm _ y hj
      exact ⟨c', by rw [List.getElem?_append_right (by omega), hl]; exact hc', key _ _ hrep⟩
/-- An append of several, in a plain region. -/
theorem wpList_pushM {α : Type} {w : World} {ops : Array Oper} {rest : List Oper} {o : Oper} {a : Act} {Q : Exit → Act → World → Prop} (E : El α) (hgd : o.guard = none) (s x : Operand)
    (ho : o.op = .call { callee := .builtin .append, args := #[s, x], argTypes := #[E.t, E.t] })
    (base : Nat) (S : Nat → Prop) (v : Value) (xs : List α) (hs : a.eval s = v) (hrow : RowG E w base S v xs) (ad : Addr) (m c : Nat) (hx : a.eval x = .slice (some ad) m c) (news : List α) (hm : news.length = m)
    (hc : ∀ (j : Nat) (y : α), news[j]? = some y → ∃ c : List Value, (∀ (m : Nat) (u : Value), c[m]? = some u → w.cell? (ad.add (j * E.k + m)) = some u) ∧ E.rep w (fun b => S b ∧ some b ≠ v.ownBlock) y c)
    (N : Nat) (hN : N = xs.length + m) (hb : N ≤ 1000000) (hbase : base ≤ w.heap.size)
    (hK : ∀ (a' : Option Addr) (c' : Nat) (w' : World), RowG E w' base S (.slice a' N c') (xs ++ news) → w.grownBy w' v.ownBlock → wpList Try.prog ops Q rest (a.put o.dst (.slice a' N c')) w') :
    wpList Try.prog ops Q (o :: rest) a w := by
  obtain ⟨i, z, hi, hz, hk, hby, hzs⟩ := E.info
  obtain ⟨L, hown, hl, hr⟩ := hrow
  obtain ⟨M, hml, hmr, hmc⟩ := cells_ofG E hc
  have hMk := rowG_len hml hmr
  have hE := E.hby
  refine wpList_append_own_at w hgd s x E.t ho base E.e i z E.k E.by_ E.und hi hz hk hby hzs E.hk v xs.length L.flatten hs hown ad m c M.flatten hx (by rw [flat_len E.k M fun c h => (hMk c h).1, hml, hm]) hmc ?_ (by unfold maxLen; omega) ?_ hbase ?_
  · intro u hu
    obtain ⟨c', hc', hu'⟩ := List.mem_flatten.1 hu
    exact (hMk c' hc').2 u hu'
  · have := Nat.mul_le_mul (show xs.length + m ≤ 1000000 by omega) hE
    omega
  intro v' w' hown' hg _ hloc
  have hrow' : RowG E w' base S v' (xs ++ news) := push_afterM hl hml hr hmr (by rw [hm]; exact hown') hg hloc
  obtain ⟨a', c', rfl, _⟩ := hrow'.slice
  have e : (xs ++ news).length = N := by rw [List.length_append, hm, hN]
  rw [e] at hrow' ⊢
  exact hK a' c' w' hrow' hg
/-- The same as a step of a region that draws its order, where it is wanted. -/
theorem step_pushM {α : Type} {w : World} {ops : Array Oper} {o : Oper} {a : Act} {K : Act → World → Prop} {Q : Exit → Act → World → Prop} {E' : Prop} (E : El α) (hw : Region.wanted o (yielded ops a.tmps) = true) (s x : Operand)
    (ho : o.op = .call { callee := .builtin .append, args := #[s, x], argTypes := #[E.t, E.t] })
    (base : Nat) (S : Nat → Prop) (v : Value) (xs : List α) (hs : a.eval s = v) (hrow : RowG E w base S v xs) (ad : Addr) (m c : Nat) (hx : a.eval x = .slice (some ad) m c) (news : List α) (hm : news.length = m) (hm0 : 0 < m)
    (hc : ∀ (j : Nat) (y : α), news[j]? = some y → ∃ c : List Value, (∀ (m : Nat) (u : Value), c[m]? = some u → w.cell? (ad.add (j * E.k + m)) = some u) ∧ E.rep w (fun b => S b ∧ some b ≠ v.ownBlock) y c)
    (N : Nat) (hN : N = xs.length + m) (hb : N ≤ 1000000) (hbase : base ≤ w.heap.size)
    (hK : ∀ (a' : Option Addr) (c' : Nat) (w' : World), RowG E w' base S (.slice a' N c') (xs ++ news) → w.grownBy w' v.ownBlock → K (a.put o.dst (.slice a' N c')) w') :
    if Region.wanted o (yielded ops a.tmps) = true then Oper.wp Try.prog o a w K Q else E' := by
  obtain ⟨i, z, hi, hz, hk, hby, hzs⟩ := E.info
  obtain ⟨L, hown, hl, hr⟩ := hrow
  obtain ⟨M, hml, hmr, hmc⟩ := cells_ofG E hc
  have hMk := rowG_len hml hmr
  have hE := E.hby
  rw [if_pos hw]
  refine wp_append_lies w s x E.t ho base E.e i z E.k E.by_ E.und hi hz hk hby hzs E.hk v xs.length L.flatten hs hown ad m c M.flatten hx (by rw [flat_len E.k M fun c h => (hMk c h).1, hml, hm]) hmc ?_ hm0 (by unfold maxLen; omega) ?_ hbase w.heap.size rfl ?_
  · intro u hu
    obtain ⟨c', hc', hu'⟩ := List.mem_flatten.1 hu
    exact (hMk c' hc').2 u hu'
  · have := Nat.mul_le_mul (show xs.length + m ≤ 1000000 by omega) hE
    omega
  intro g cap w' hown' hg hloc _
  have hrow' : RowG E w' base S (.slice (some ⟨g, 0, none⟩) (xs.length + m) cap) (xs ++ news) := push_afterM hl hml hr hmr (by rw [hm]; exact hown') hg (by
    rcases hloc with e | e
    · exact .inl (by rw [e]; rfl)
    · subst e; exact .inr rfl)
  subst hN
  exact hK _ _ _ hrow' hg
theorem RowG.imp {α : Type} {E : El α} {w : World} {base : Nat} {S S' : Nat → Prop} {v : Value} {xs : List α} (h : RowG E w base S v xs) (hS : ∀ b, S b → S' b) : RowG E w base S' v xs := by
  obtain ⟨L, h1, h2, h3⟩ := h
  refine ⟨L, h1, h2, fun j x hj => ?_⟩
  obtain ⟨c, hc, hr⟩ := h3 j x hj
  exact ⟨c, hc, E.kept (fun b hb => ⟨hS b hb.1, hb.2⟩) (fun _ _ _ => rfl) hr⟩
/-- Elements that stand in a slice, as an append wants them. -/
theorem slG_news {α : Type} {E : El α} {w : World} {S S' : Nat → Prop} {xs : List α} {ad : Addr} {n c : Nat} (h : SlG E w S xs (.slice (some ad) n c)) (hS : ∀ b, S b → S' b) : ∀ (j : Nat) (y : α), xs[j]? = some y → ∃ c : List Value, (∀ (m : Nat) (u : Value), c[m]? = some u → w.cell? (ad.add (j * E.k + m)) = some u) ∧ E.rep w S' y c := by
  obtain ⟨a, cap, e, -, hj⟩ := h
  cases e
  intro j y hy
  obtain ⟨ad', c', e', -, h1, h2⟩ := hj j y hy
  cases e'
  exact ⟨c', h1, E.kept hS (fun _ _ _ => rfl) h2⟩
end Go.Proofs.Ytgfjcpeeoapjlaa

/- Elements of a list appended to a row that the call owns, whatever the list's address. -/
namespace Go.Proofs.Ytgfjcpeeoapjlaa
open Go.RowKit Mth

theorem wpList_pushS {α : Type} {w : World} {ops : Array Oper} {rest : List Oper} {o : Oper} {a : Act} {Q : Exit → Act → World → Prop} (E : El α) (hgd : o.guard = none) (s x : Operand)
    (ho : o.op = .call { callee := .builtin .append, args := #[s, x], argTypes := #[E.t, E.t] })
    (base : Nat) (S : Nat → Prop) (v : Value) (xs : List α) (hs : a.eval s = v) (hrow : RowG E w base S v xs) (lv : Value) (hx : a.eval x = lv) (news : List α) (hl : SlG E w (fun b => S b ∧ some b ≠ v.ownBlock) news lv)
    (hb : xs.length + news.length ≤ 1000000) (hbase : base ≤ w.heap.size)
    (hK : ∀ (a' : Option Addr) (n' c' : Nat) (w' : World), n' = (xs ++ news).length → RowG E w' base S (.slice a' n' c') (xs ++ news) → w.grownBy w' v.ownBlock → wpList Try.prog ops Q rest (a.put o.dst (.slice a' n' c')) w') :
    wpList Try.prog ops Q (o :: rest) a w := by
  obtain ⟨la, lc, rfl, hc, hj⟩ := hl
  cases la with
  | none =>
    have hn : news = [] := by
      cases news with
      | nil => rfl
      | cons y l => obtain ⟨ad, c, e, -⟩ := hj 0 y rfl; cases e
    subst hn
    obtain ⟨i, z, hi, hz, hk, hby, hzs⟩ := E.info
    obtain ⟨a', c', rfl, hle, -⟩ := hrow.slice
    have hrun := run_append_nothing (P := Try.prog) w E.t E.t o.type E.e i E.und hi a' xs.length c' hle (.slice none 0 lc) (Src.ofNil w E.und lc)
    refine wpList_plain hgd fun K hK' => ?_
    unfold Oper.wp
    simp [execOp, ho, resolve, invoke, builtin, hs, hx, hrun, Result.andThen]
    exact hK' _ _ (hK a' xs.length c' w (by simp) (by simpa using hrow) ⟨rfl, rfl, rfl, Nat.le_refl _, fun _ _ _ => rfl⟩)
  | some ad =>
    refine wpList_pushM E hgd s x ho base S v xs hs hrow ad news.length lc hx news rfl (fun j y hy => ?_) (xs.length + news.length) rfl hb hbase fun a' c' w' h1 h2 => hK a' _ c' w' (by rw [List.length_append]) h1 h2
    obtain ⟨ad', c, e, -, h3, h4⟩ := hj j y hy
    cases e
    exact ⟨c, h3, h4⟩
end Go.Proofs.Ytgfjcpeeoapjlaa

/- An append of one, with the place of the new row. -/
namespace Go.Proofs.Ytgfjcpeeoapjlaa
open Go.RowKit Mth

theorem SlG.lift' {α : Type} {E : El α} {w w' : World} {S : Nat → Prop} {xs : List α} {v : Value} (h : SlG E w S xs v) (hb : Below w.heap.size w w') : SlG E w' S xs v := h.kept (fun _ h => h) (fun g _ hl => hb.block g hl)
/-- An append, with the place of the new row. -/
theorem wpList_pushH {α : Type} {w : World} {ops : Array Oper} {rest : List Oper} {o : Oper} {a : Act} {Q : Exit → Act → World → Prop} (E : El α) (hgd : o.guard = none) (s x : Operand)
    (ho : o.op = .call { callee := .builtin .append, args := #[s, x], argTypes := #[E.t, E.t] })
    (base : Nat) (S : Nat → Prop) (v : Value) (xs : List α) (hs : a.eval s = v) (hrow : RowG E w base S v xs)
    (B : Nat) (Z : TypeId) (c : List Value) (hB : w.heap[B]? = some (.cells c.toArray Z (0, 0))) (hx : a.eval x = .slice (some ⟨B, 0, none⟩) 1 1) (y : α) (hy : E.rep w (fun b => S b ∧ some b ≠ v.ownBlock) y c)
    (N : Nat) (hN : N = xs.length + 1) (hb : N ≤ 1000000) (hbase : base ≤ w.heap.size)
    (hK : ∀ (a' : Option Addr) (c' : Nat) (w' : World), RowG E w' base S (.slice a' N c') (xs ++ [y]) → w.grownBy w' v.ownBlock → ((Value.slice a' N c').ownBlock = v.ownBlock ∨ (Value.slice a' N c').ownBlock = some w.heap.size) → wpList Try.prog ops Q rest (a.put o.dst (.slice a' N c')) w') :
    wpList Try.prog ops Q (o :: rest) a w := by
  obtain ⟨i, z, hi, hz, hk, hby, hzs⟩ := E.info
  obtain ⟨L, hown, hl, hr⟩ := hrow
  have hc := E.len hy
  have hE := E.hby
  refine wpList_append_own_at w hgd s x E.t ho base E.e i z E.k E.by_ E.und hi hz hk hby hzs E.hk v xs.length L.flatten hs hown ⟨B, 0, none⟩ 1 1 c hx (by omega) (World.news_of_block hB) hc.2 (by unfold maxLen; omega) ?_ hbase ?_
  · have := Nat.mul_le_mul (show xs.length + 1 ≤ 1000000 by omega) hE
    omega
  intro v' w' hown' hg _ hloc
  have hrow' : RowG E w' base S v' (xs ++ [y]) := push_after hl hr hy hown' hg hloc
  obtain ⟨a', c', rfl, _⟩ := hrow'.slice
  have e : (xs ++ [y]).length = N := by rw [List.length_append, hN]; rfl
  rw [e] at hrow' hloc ⊢
  exact hK a' c' w' hrow' hg hloc
end Go.Proofs.Ytgfjcpeeoapjlaa

/- The reference's Last. -/
namespace Go.Proofs.Ytgfjcpeeoapjlaa
open Go.RowKit Go.Maps Mth

/-- The last place of each name. -/
def lastN : List ByteArray → List ByteArray
  | [] => []
  | n :: l => if hasN l n then lastN l else n :: lastN l
theorem lastN_step {l : List ByteArray} {j : Nat} {t : ByteArray} (h : l[j]? = some t) : lastN (l.drop j) = if hasN (l.drop (j + 1)) t then lastN (l.drop (j + 1)) else t :: lastN (l.drop (j + 1)) := by
  obtain ⟨hl, e⟩ := List.getElem?_eq_some_iff.1 h
  rw [List.drop_eq_getElem_cons hl, e]; rfl
theorem slG_drop {w : World} {S : Nat → Prop} {ps : List ByteArray} {ad : Addr} {n c : Nat} (h : SlG StrE w S ps (.slice (some ad) n c)) {k : Nat} (hk : k ≤ ps.length) : SlG StrE w S (ps.drop k) (.slice (some (ad.add k)) (n - k) (c - k)) := by
  obtain ⟨a', c', e, ⟨h1, h2⟩, hj⟩ := h
  simp only [Value.slice.injEq] at e
  obtain ⟨rfl, rfl, rfl⟩ := e
  refine ⟨some (ad.add k), c - k, by rw [List.length_drop], ⟨by rw [List.length_drop]; omega, by omega⟩, fun j x hx => ?_⟩
  rw [List.getElem?_drop] at hx
  obtain ⟨ad', cs, e, hS, hc, hr⟩ := hj (k + j) x hx
  cases e
  refine ⟨_, cs, rfl, by rw [add_block]; exact hS, fun m u hu => ?_, hr⟩
  have hr' : cs = [.string x] := hr
  subst hr'
  have := hc m u hu
  rw [Addr.add_add]
  have e2 : k + (j * StrE.k + m) = (k + j) * StrE.k + m := by show k + (j * 1 + m) = (k + j) * 1 + m; omega
  rw [e2]
  exact this
/-- What the machine makes of l[k+1:]. -/
theorem slG_cut {w : World} {S : Nat → Prop} {ps : List ByteArray} {ad : Addr} {n c : Nat} (h : SlG StrE w S ps (.slice (some ad) n c)) {j : Nat} (hj : j < ps.length) : SlG StrE w S (ps.drop (j + 1)) (.slice (if c = j + 1 then some ad else some ⟨ad.block, ad.off + (j + 1), none⟩) (n - (j + 1)) (c - (j + 1))) := by
  by_cases hc : c = j + 1
  · rw [if_pos hc]
    obtain ⟨a', c', e, ⟨h1, h2⟩, -⟩ := h
    simp only [Value.slice.injEq] at e
    obtain ⟨-, rfl, rfl⟩ := e
    have hd : ps.drop (j + 1) = [] := List.drop_eq_nil_of_le (by omega)
    rw [hd]
    exact ⟨some ad, c - (j + 1), by rw [show ps.length - (j + 1) = 0 by omega]; rfl, ⟨by simp, by omega⟩, fun i x hx => by simp at hx⟩
  · rw [if_neg hc]
    have e : (⟨ad.block, ad.off + (j + 1), none⟩ : Addr) = ad.add (j + 1) := by unfold Addr.add; rw [if_neg (Nat.succ_ne_zero j)]
    rw [e]
    exact slG_drop h hj
set_option maxHeartbeats 1600000 in
theorem last_any (l : List ByteArray) (hl : l.length ≤ 200000) (v : Value) (S : Nat → Prop) (w : World) (h : SlG StrE w S l v) :
    Calls Try.prog 37 #[v] w fun e w' => ∃ u, e = .returned u ∧ SlG StrE w' (fun b => w.heap.size ≤ b) (lastN l) u ∧ Below w.heap.size w w' := by
  have HL := Lib.hid h
  obtain ⟨a, c, rfl, hle⟩ := slice_form h
  have HJ := Lib.hid (str_at h)
  clear h
  unfold maxLen at hle
  obtain ⟨m, hm⟩ : ∃ m, m = l.length := ⟨_, rfl⟩
  rw [← hm] at hle hl HL ⊢
  have HM := Lib.hid hm
  clear hm
  have HR0 : Hid (RowG StrE w w.heap.size (fun _ => False) (.slice none 0 0) []) := rowG_nil _ _ _ _
  have HE : Hid (lastN l = [] ++ lastN (l.drop 0)) := rfl
  have HB0 : Hid (Below w.heap.size w w) := Below.refl _ _
  go_enter Try.func37, Try.ntmps37
  go_wp2
  go_loopw [3, 4] (fun y i wr => ∃ (j : Nat) (ya : Option Addr) (yn yc : Nat) (o : List ByteArray), j ≤ m ∧ i = .int .i64 j ∧ y = .slice ya yn yc ∧ yn ≤ j ∧ Hid (o.length = yn) ∧ Hid (lastN l = o ++ lastN (l.drop j)) ∧ Hid (RowG StrE wr w.heap.size (fun _ => False) (.slice ya yn yc) o) ∧ Hid (Below w.heap.size w wr)) (fun _ i _ => m - (intOf i).toNat)
  case atStart => exact ⟨0, none, 0, 0, [], Nat.zero_le _, rfl, rfl, Nat.le_refl _, rfl, HE, HR0, HB0⟩
  case round =>
    clear HE HR0 HB0
    obtain ⟨j, ya, yn, yc, o, hj, rfl, rfl, hyn, HO, HT, HR, HB⟩ := hrel
    by_cases hlt : j < m
    · obtain ⟨t, ht⟩ : ∃ x, l[j]? = some x := ⟨_, List.getElem?_eq_getElem (by rw [← HM.out]; exact hlt)⟩
      obtain ⟨ad, rfl, hc⟩ := HJ.out j t ht
      have hc' := (HB.out.cell (World.block_lt_of_cell? _ _ hc)).trans hc
      have HS := Lib.hid (lastN_step ht)
      have HSd : Hid (∀ V, Below wr.heap.size wr V → SlG StrE V S (l.drop (j + 1)) (.slice (if c = j + 1 then some ad else some ⟨ad.block, ad.off + (j + 1), none⟩) (m - (j + 1)) (c - (j + 1)))) := fun V hV => (slG_cut HL.out (by rw [← HM.out]; exact hlt)).lift' (HB.out.trans (hV.mono HB.out.size))
      have hji : (j : Int) < (m : Int) := by omega
      have HHs : Hid (∀ V, Below wr.heap.size wr V → Calls Try.prog 27 #[.slice (if c = j + 1 then some ad else some ⟨ad.block, ad.off + (j + 1), none⟩) (m - (j + 1)) (c - (j + 1)), .string t] V fun e w' => e = .returned (.bool (hasN (l.drop (j + 1)) t)) ∧ w' = V) := fun V hV => (has_any _ t _ S V (HSd.out V hV)).mono fun _ _ ⟨h1, h2⟩ => ⟨h1, h2.symm⟩
      have hmc : m ≤ c := by
        obtain ⟨a', c', e, ⟨h1, h2⟩, -⟩ := HL.out
        simp only [Value.slice.injEq] at e
        obtain ⟨-, rfl, rfl⟩ := e
        exact h1
      have hjm : (j : Int) + 1 ≤ (m : Int) := by omega
      have hmci : (m : Int) ≤ (c : Int) := by omega
      clear ht hc HSd
      cases hq : hasN (l.drop (j + 1)) t with
      | true =>
        rw [hq] at HHs
        have HT2 : Hid (lastN l = o ++ lastN (l.drop (j + 1))) := by show _ = _; rw [HT.out, HS.out, hq]; rfl
        clear hq
        go_wp2
        go_quiet ((go_at_call 27; exact Calls.quiet_of_same (HHs.out _ (below_drewN (Below.refl _ _) _))))
        have HBq : Hid (Below wr.heap.size wr (wr.drewN nq)) := below_drewN (Below.refl _ _) nq
        have HR3 := Lib.hid (HR.out.lift HBq.out)
        have HB3 := Lib.hid (HB.out.trans (HBq.out.mono HB.out.size))
        go_wp2
        go_roundw
        case rel => exact ⟨j + 1, ya, yn, yc, o, hlt, by go_num, rfl, by omega, HO, HT2, HR3, HB3⟩
        case measure => simp [intOf]; omega
      | false =>
        rw [hq] at HHs
        have HT2 : Hid (lastN l = (o ++ [t]) ++ lastN (l.drop (j + 1))) := by show _ = _; rw [HT.out, HS.out, hq]; simp
        clear hq
        go_wp2
        go_quiet ((go_at_call 27; exact Calls.quiet_of_same (HHs.out _ (below_drewN (Below.refl _ _) _))))
        have HBq : Hid (Below wr.heap.size wr (wr.drewN nq)) := below_drewN (Below.refl _ _) nq
        have HR3 := Lib.hid (HR.out.lift HBq.out)
        have HB3 := Lib.hid (HB.out.trans (HBq.out.mono HB.out.size))
        have hc3 := (HBq.out.cell (World.block_lt_of_cell? _ _ hc')).trans hc'
        clear hc' HHs HBq
        generalize wr.drewN nq = V at *
        have HSt : Hid (∀ V S, StrE.rep V S t [.string t]) := fun _ _ => rfl
        have HN1 : Hid (∀ X Z, (V.alloc (.cells X Z)).heap[V.heap.size]? = some (.cells X Z (0, 0))) := fun X Z => heap_alloc_new V _
        have HA1 : Hid (∀ X, Below V.heap.size V (V.alloc X)) := fun X => (Below.refl _ V).alloc (Nat.le_refl _) X
        have HRA := Lib.hid (fun X => HR3.out.lift (HA1.out X))
        have HZw : Hid (∀ X, w.heap.size ≤ (V.alloc X).heap.size) := fun X => Nat.le_trans HB3.out.size (HA1.out X).size
        have hy1 : yn + 1 ≤ 1000000 := by omega
        go_wp2_with (at_builtin; refine wpList_pushH StrE rfl _ _ rfl w.heap.size (fun _ => False) (.slice ya yn yc) o rfl (HRA.out _) V.heap.size _ [.string t] (HN1.out _ _) rfl t (HSt.out _ _) (yn + 1) (by rw [HO.out]) hy1 (HZw.out _) ?_; intro a4 c4 w4 hrow4 hg4 ho4; have HR4 := Lib.hid hrow4; have HB4 : Hid (Below w.heap.size w w4) := Below.grown (HB3.out.trans ((HA1.out _).mono HB3.out.size)) hg4 (HZw.out _) (fun k e => (RowG.lt HR3.out k e).1); clear hrow4 hg4 ho4)
        have HO4 : Hid ((o ++ [t]).length = yn + 1) := by show _ = _; rw [List.length_append, HO.out]; rfl
        go_roundw
        case rel => exact ⟨j + 1, a4, yn + 1, c4, o ++ [t], hlt, by go_num, rfl, by omega, HO4, HT2, HR4, HB4⟩
        case measure => simp [intOf]; omega
    · have HR2 : Hid (lastN l = o) := by
        show _ = _
        rw [HT.out, List.drop_eq_nil_of_le (by rw [← HM.out]; omega)]; simp [lastN]
      go_wp2
      go_ret
      exact ⟨_, rfl, by rw [HR2.out]; exact HR.out.slG (fun _ h => h.elim) (fun _ h => h), HB.out⟩
end Go.Proofs.Ytgfjcpeeoapjlaa

/- Names of a list appended to a row that the call owns, whatever the list's address. -/
namespace Go.Proofs.Ytgfjcpeeoapjlaa
open Go.RowKit Mth

theorem wpList_pushStr {w : World} {ops : Array Oper} {rest : List Oper} {o : Oper} {a : Act} {Q : Exit → Act → World → Prop} (hgd : o.guard = none) (s x : Operand)
    (ho : o.op = .call { callee := .builtin .append, args := #[s, x], argTypes := #[25, 25] })
    (base : Nat) (v : Value) (xs : List ByteArray) (hs : a.eval s = v) (hrow : RowG StrE w base (fun _ => False) v xs) (lv : Value) (hx : a.eval x = lv) (news : List ByteArray) (S' : Nat → Prop) (hl : SlG StrE w S' news lv)
    (hb : xs.length + news.length ≤ 1000000) (hbase : base ≤ w.heap.size)
    (hK : ∀ (a' : Option Addr) (n' c' : Nat) (w' : World), n' = (xs ++ news).length → RowG StrE w' base (fun _ => False) (.slice a' n' c') (xs ++ news) → w.grownBy w' v.ownBlock → wpList Try.prog ops Q rest (a.put o.dst (.slice a' n' c')) w') :
    wpList Try.prog ops Q (o :: rest) a w := by
  obtain ⟨la, lc, rfl, hc, hj⟩ := hl
  cases la with
  | none =>
    have hn : news = [] := by
      cases news with
      | nil => rfl
      | cons y l => obtain ⟨ad, c, e, -⟩ := hj 0 y rfl; cases e
    subst hn
    obtain ⟨i, z, hi, hz, hk, hby, hzs⟩ := StrE.info
    obtain ⟨a', c', rfl, hle, -⟩ := hrow.slice
    have hrun := run_append_nothing (P := Try.prog) w 25 25 o.type StrE.e i Try.underlying25 hi a' xs.length c' hle (.slice none 0 lc) (Src.ofNil w Try.underlying25 lc)
    refine wpList_plain hgd fun K hK' => ?_
    unfold Oper.wp
    simp [execOp, ho, resolve, invoke, builtin, hs, hx, hrun, Result.andThen]
    exact hK' _ _ (hK a' xs.length c' w (by simp) (by simpa using hrow) ⟨rfl, rfl, rfl, Nat.le_refl _, fun _ _ _ => rfl⟩)
  | some ad =>
    refine wpList_pushM StrE hgd s x ho base (fun _ => False) v xs hs hrow ad news.length lc hx news rfl (fun j y hy => ?_) (xs.length + news.length) rfl hb hbase fun a' c' w' h1 h2 => hK a' _ c' w' (by rw [List.length_append]) h1 h2
    obtain ⟨ad', c, e, -, h3, h4⟩ := hj j y hy
    cases e
    exact ⟨c, h3, h4⟩
end Go.Proofs.Ytgfjcpeeoapjlaa

/- A law on a list of operations as a step of a region that draws its order. -/
namespace Go.Proofs.Ytgfjcpeeoapjlaa
open Go.RowKit Mth

/-- Any law of a list with one operation is a law of a step. -/
theorem step_of_list {P : Program} {ops : Array Oper} {o : Oper} {a : Act} {w : World} {K : Act → World → Prop} {Q : Exit → Act → World → Prop} {E' : Prop} (hgd : o.guard = none)
    (h : ∀ Q' : Exit → Act → World → Prop, (∀ a w, K a w → Q' .normal a w) → wpList P #[] Q' [o] a w) :
    if Region.wanted o (yielded ops a.tmps) = true then Oper.wp P o a w K Q else E' := by
  rw [if_pos (by simp [Region.wanted, hgd])]
  have hh := h (fun e a w => match e with | .normal => K a w | _ => False) (fun _ _ h => h)
  unfold wpList at hh
  rw [if_pos (by simp [Region.wanted, hgd])] at hh
  rcases hh with hh | ⟨_, _, _, hf⟩
  · unfold Oper.wp at *
    generalize (execOp a.eval o).run P w = r at *
    cases r with
    | ok n w' =>
      cases n <;> simp only [Oper.upon] at hh ⊢ <;>
        first
          | exact hh
          | exact Calls.mono hh (fun e w'' he => by
              cases e
              · exact he
              · exact he.elim
              · obtain ⟨_, _, hf⟩ := he; exact hf.elim)
          | exact Rows.mono hh (fun _ _ he => he)
    | halt x w' => cases x <;> simp only [Oper.upon] at hh ⊢ <;> first | exact hh.elim | exact hh
  · exact hf.elim
theorem step_pushStr {w : World} {ops : Array Oper} {o : Oper} {a : Act} {K : Act → World → Prop} {Q : Exit → Act → World → Prop} {E' : Prop} (hgd : o.guard = none) (s x : Operand)
    (ho : o.op = .call { callee := .builtin .append, args := #[s, x], argTypes := #[25, 25] })
    (base : Nat) (v : Value) (xs : List ByteArray) (hs : a.eval s = v) (hrow : RowG StrE w base (fun _ => False) v xs) (lv : Value) (hx : a.eval x = lv) (news : List ByteArray) (S' : Nat → Prop) (hl : SlG StrE w S' news lv)
    (hb : xs.length + news.length ≤ 1000000) (hbase : base ≤ w.heap.size)
    (hK : ∀ (a' : Option Addr) (n' c' : Nat) (w' : World), n' = (xs ++ news).length → RowG StrE w' base (fun _ => False) (.slice a' n' c') (xs ++ news) → w.grownBy w' v.ownBlock → K (a.put o.dst (.slice a' n' c')) w') :
    if Region.wanted o (yielded ops a.tmps) = true then Oper.wp Try.prog o a w K Q else E' :=
  step_of_list hgd fun _ hQ => wpList_pushStr hgd s x ho base v xs hs hrow lv hx news S' hl hb hbase fun a' n' c' w' h1 h2 h3 => hQ _ _ (hK a' n' c' w' h1 h2 h3)
end Go.Proofs.Ytgfjcpeeoapjlaa
