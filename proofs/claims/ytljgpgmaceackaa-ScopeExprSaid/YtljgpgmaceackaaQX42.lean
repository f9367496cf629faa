import Derived.RangeFuncNested
import Derived.RangeFuncBound
import Derived.RangeFuncCalls
import Derived.RangeFuncLeaves
import Derived.Shelf.Abstract
import Derived.Shelf.RegionOpen
import Derived.WalkKit
import Derived.OwnWalkIn
import Derived.TacticsInMore
import Derived.LoopNIn
import Derived.LoopIn
import Derived.Test.YtljgpgmaceackaaQX18
import Derived.Test.YtljgpgmaceackaaQX04
import Derived.Maps.OwnIn
/- The library's Backward over a slice of strings: what it hands a loop. -/
namespace Go.Proofs.Ytljgpgmaceackaa
open Go.RowKit Go.Maps Mth S3
attribute [local go_sem] Oper.semAt_some

/-- What comes: a place and the value there. -/
abbrev Fs (fs : List ByteArray) := { p : Nat × ByteArray // fs[p.1]? = some p.2 }
def Fs.enc {fs : List ByteArray} (x : Fs fs) : Array Value := #[.int .i64 (x.1.1 : Int), .string x.1.2]
theorem rangeS_rev (k : Nat) : (List.range (k + 1)).reverse = k :: (List.range k).reverse := by rw [List.range_succ, List.reverse_append]; rfl
/-- What a round keeps: what lay below, and the slice's box. -/
def KpS (n₀ Bs : Nat) (A B : World) : Prop := Below n₀ A B ∧ B.heap[Bs]? = A.heap[Bs]?
set_option maxRecDepth 100000 in
set_option maxHeartbeats 2000000 in
theorem bs1_in (n l Bs n₀ : Nat) (hn : 1 ≤ n) (w : World) (hn₀ : n₀ = w.heap.size) (S : Nat → Prop) (fs : List ByteArray) (fa : Option Addr) (fl fc : Nat) (hfn : fl = fs.length) (hfl : fl ≤ 200000) (hf : SlG StrE w S fs (.slice fa fl fc)) (J Jx : List (Fs fs) → World → Prop)
    (hY : ∀ pre x W, J pre W → pre.length < fl → YieldAt Fence.wide (n - 1) Try.prog l (Fs.enc x) W fun e W' =>
      (e = .returned (.bool true) ∧ J (pre ++ [x]) W' ∧ KpS n₀ Bs W W') ∨ (e = .returned (.bool false) ∧ Jx (pre ++ [x]) W'))
    (W : World) (hW : Below n₀ w W) (hBs : BoxC 25 W Bs [.slice fa fl fc]) (h0 : J [] W) :
    CallsIn Fence.wide n Try.prog 71 #[.func (.yield l) #[] #[], .pointer (some ⟨Bs, 0, none⟩)] W fun e W' => (∃ v, e = .returned v) ∧
      ((∃ ys : List (Fs fs), ys.map (fun x => x.1.1) = (List.range fl).reverse ∧ J ys W') ∨ (∃ pre, True ∧ Jx pre W')) := by
  subst hn₀
  refine callsIn_of_wp Try.func71 rfl trivial ?_ rfl
  simp only [Try.ntmps71, List.size_toArray, List.length_cons, List.length_nil, Nat.reduceAdd, Nat.reduceSub, Array.replicate_succ, Array.replicate_zero, List.push_toArray, List.append_toArray, List.nil_append, List.cons_append]
  have hc0 := hBs.cell 0 _ rfl
  have HY := Lib.hid hY
  have HF := Lib.hid hf
  have HFn := Lib.hid hfn
  clear hY hf hfn
  gi_wp2
  gi_loopw [3] (fun i wr => ∃ (k : Nat) (pre : List (Fs fs)), k ≤ fl ∧ i = .int .i64 ((k : Int) - 1) ∧ Hid (pre.map (fun x => x.1.1) ++ (List.range k).reverse = (List.range fl).reverse) ∧ J pre wr ∧ Hid (Below w.heap.size w wr) ∧ BoxC 25 wr Bs [.slice fa fl fc])
    (fun i _ => (intOf i + 1).toNat)
  case atStart => exact ⟨fl, [], Nat.le_refl _, by go_num, rfl, h0, hW, hBs⟩
  case round =>
    clear hc0 hBs hW h0
    obtain ⟨k, pre, hk, rfl, HP, hJ, HB, hBx⟩ := hrel
    have hc0 := hBx.cell 0 _ rfl
    cases k with
    | zero =>
      gi_wp2
      go_end0
      exact ⟨⟨_, rfl⟩, .inl ⟨pre, by have := HP.out; simpa using this, hJ⟩⟩
    | succ k =>
      have hx : ((k + 1 : Nat) : Int) - 1 = (k : Int) := by omega
      rw [hx]
      obtain ⟨U, hU⟩ : ∃ x, fs[k]? = some x := ⟨_, List.getElem?_eq_getElem (by rw [← HFn.out]; omega)⟩
      have hse := HF.out
      obtain ⟨ad, rfl, hc1⟩ := str_at hse k U hU
      have q0 := (HB.out.cell (World.block_lt_of_cell? _ _ hc1)).trans hc1
      have hlen : pre.length + (k + 1) = fl := by
        have := congrArg List.length HP.out
        simpa using this
      obtain ⟨f1, tmps, assign, body, hy, hR⟩ := HY.out pre ⟨(k, U), hU⟩ wr hJ (by omega)
      unfold Fs.enc at hy
      dsimp only at hy
      have hki : (k : Int) < (fl : Int) := by omega
      have hk0 : (0 : Int) ≤ (k : Int) := by omega
      clear hc1 hse hx
      gi_wp2
      refine hR.mono ?_
      rintro e W3 (⟨rfl, hJ3, hk3⟩ | ⟨rfl, hJx3⟩)
      · have hB3 : BoxC 25 W3 Bs [.slice (some ad) fl fc] := hBx.kept hk3.2
        have HB3 := Lib.hid (HB.out.trans hk3.1)
        gi_wp2
        go_roundw
        case rel => exact ⟨k, _, by omega, by go_num, by show _ = _; rw [← HP.out, rangeS_rev]; simp, hJ3, HB3, hB3⟩
        case measure => simp [intOf]
      · gi_wp2
        refine bodyPost_ret (results_none rfl _ _ _) rfl ?_
        exact ⟨⟨_, rfl⟩, .inr ⟨_, trivial, hJx3⟩⟩
theorem bs_any (a : Option Addr) (m c : Nat) (w : World) :
    Calls Try.prog 50 #[.slice a m c] w fun e w' => e = .returned (.func (.func 71) #[] #[.pointer (some ⟨w.heap.size, 0, none⟩)]) ∧ w' = w.alloc (.cells #[.slice a m c] 25) := by
  go_enter Try.func50, Try.ntmps50
  go_wp2
  go_ret
  exact ⟨rfl, rfl⟩
theorem bs_stops (n Bs : Nat) (hn : 1 ≤ n) (w W : World) (S : Nat → Prop) (fs : List ByteArray) (fa : Option Addr) (fl fc : Nat) (hfn : fl = fs.length) (hfl : fl ≤ 200000) (hf : SlG StrE w S fs (.slice fa fl fc)) (hW : Below w.heap.size w W) (hBs : BoxC 25 W Bs [.slice fa fl fc]) :
    SeqStopsK Fence.wide n Try.prog 71 #[.pointer (some ⟨Bs, 0, none⟩)] (fun x : Fs fs => Fs.enc x) (KpS w.heap.size Bs) (fun ys => ys.map (fun x => x.1.1) = (List.range fl).reverse) (fun _ => True) fl W := fun l J Jx W' hb _ _ hY h0 =>
  bs1_in n l Bs w.heap.size hn w rfl S fs fa fl fc hfn hfl hf J Jx hY W' (hW.trans (hb.mono hW.size)) (hBs.kept (hb.block _ hBs.lt)) h0
end Go.Proofs.Ytljgpgmaceackaa

/- What the package's innermost keeps from round to round: plain facts. -/
namespace Go.Proofs.Ytljgpgmaceackaa
open Go.RowKit Go.Maps Mth S3

/-- What is kept after the rounds from the end to a place. -/
def keptN (l : List ByteArray) (k : Nat) : List ByteArray := (lastN (l.drop k)).reverse
theorem keptN_start (l : List ByteArray) : keptN l l.length = [] := by unfold keptN; rw [List.drop_length]; rfl
theorem keptN_end (l : List ByteArray) : (keptN l 0).reverse = lastN l := by unfold keptN; rw [List.reverse_reverse]; rfl
theorem lastN_mem : ∀ (l : List ByteArray) (t : ByteArray), hasN (lastN l) t = hasN l t := by
  intro l
  induction l with
  | nil => intro t; rfl
  | cons n l ih =>
    intro t
    simp only [lastN]
    split
    · rename_i h
      rw [ih t]
      simp only [hasN, List.any_cons]
      by_cases hn : n.toList == t.toList
      · have e : n = t := by
          have := eq_of_beq hn
          have h2 : n.data = t.data := by rw [Lib.toList_data, Lib.toList_data] at this; exact Array.toList_inj.1 this
          cases n; cases t; simp_all
        subst e
        rw [show (l.any fun x => x.toList == n.toList) = true from h]; simp
      · simp only [Bool.not_eq_true] at hn
        rw [hn]; rfl
    · simp only [hasN, List.any_cons]
      have := ih t
      simp only [hasN] at this
      rw [this]
theorem keptN_step {l : List ByteArray} {k : Nat} {t : ByteArray} (h : l[k]? = some t) : keptN l k = if hasN (keptN l (k + 1)) t then keptN l (k + 1) else keptN l (k + 1) ++ [t] := by
  have e : hasN (keptN l (k + 1)) t = hasN (l.drop (k + 1)) t := by
    rw [← lastN_mem (l.drop (k + 1)) t]; unfold keptN hasN; rw [List.any_reverse]
  rw [e]
  unfold keptN
  rw [lastN_step h]
  split
  · rfl
  · rw [List.reverse_cons]
end Go.Proofs.Ytljgpgmaceackaa

/- The package's innermost: of equal names the last. -/
namespace Go.Proofs.Ytljgpgmaceackaa
open Go.RowKit Go.Maps Go.WideMaps Mth S3
attribute [local go_sem] Oper.semAt_some

theorem BoxC.own {W W' : World} {row : Option Nat} (hg : W.grownBy W' row) (hr : ∀ r, row = some r → ∃ o : Obj, W.heap[r]? = some o ∧ o.isCells = false) {t : TypeId} {B : Nat} {c : List Value} (h : BoxC t W B c) : BoxC t W' B c :=
  h.grown hg (by
    intro e
    obtain ⟨o, ho, hc⟩ := hr B e.symm
    unfold BoxC at h
    rw [h] at ho
    cases ho
    cases hc)
/-- Between two rounds: the names that are kept, the names that were seen. -/
structure InSt (w : World) (ks : List ByteArray) (W : World) : Prop where
  box : ∃ v, BoxC 25 W w.heap.size [v] ∧ RowG StrE W (w.heap.size + 4) (fun _ => False) v ks
  seen : SM W (w.heap.size + 1) ks.length (ks.map bl)
  map : BoxC 98 W (w.heap.size + 1 + 1) [.map (some (w.heap.size + 1))]
  low : Below w.heap.size w W
theorem wpListIn_lookup_bool {H : Type} {F : Fence} {nF : Nat} {P : Program} (w : World) {ops : Array Oper} {rest : List Oper} {o : Oper} {a : Act} {Q : Exit → Act → World → Prop}
    (hg : o.guard = none) (m x : Operand) (t : TypeId) (hop : o.op = Op.lookup t m x false)
    (k e : TypeId) (K : Keyed P k) (ht : P.underlying t = some (.map k e)) (he : P.underlying e = some .bool) (hz : (zeroValue e).run P w = .ok (.bool false) w) (b n : Nat) (D : DataW H)
    (hm : a.eval m = .map (some b)) (hown : w.ownsMap P k (plainElem P e) b n D) (key : Value) (kl : Lit) (hx : a.eval x = key) (hkey : keyOf P k key = some kl)
    (c : Bool) (hD : D.atKey kl (.lit (.bool false)) = .lit (.bool c)) (hK : wpListIn F nF P ops Q rest (a.put o.dst (.bool c)) w) :
    wpListIn F nF P ops Q (o :: rest) a w := by
  refine wpListIn_plain hg fun K' hK' => ?_
  obtain ⟨v, ps, hrun, hv⟩ := hown.lookup K ht hz (plainElem_bool he false) hkey
  rw [hD] at hv
  have hvc : v = .bool c := by
    unfold plainElem at hv
    rw [he] at hv
    cases v <;> simp at hv
    obtain ⟨rfl, _⟩ := hv
    rfl
  subst hvc
  unfold Oper.wpIn
  refine ⟨by simp [Oper.about, hop], ?_⟩
  rw [Oper.semAt_plain F _ _ (by rw [hop]; intro c hc'; cases hc')]
  simp [execOp, hop, hm, hx, hrun, Result.andThen]
  exact hK' _ _ hK
section
variable {F : Fence} {nF : Nat} (w : World) {ops : Array Oper} {rest : List Oper} {o : Oper} {a : Act} {Q : Exit → Act → World → Prop}
theorem wpListIn_sLook (hgd : o.guard = none) (m x : Operand) (hop : o.op = Op.lookup 98 m x false) (b n : Nat) (ns : List (List UInt8)) (hm : a.eval m = .map (some b)) (hK : SM w b n ns) (s : ByteArray) (hx : a.eval x = .string s) (hs : s.size ≤ maxLen)
    (hN : wpListIn F nF Try.prog ops Q rest (a.put o.dst (.bool (ns.contains (bl s)))) w) : wpListIn F nF Try.prog ops Q (o :: rest) a w := by
  obtain ⟨D, hown, hD⟩ := hK
  exact wpListIn_lookup_bool w hgd m x _ hop _ _ Try.strKey Try.underlying98 Try.underlying4 (Try.zeroBool _) b n D hm hown _ _ hx (keyOf_string_mk Try.underlying9 hs) _ (hD.look (bl s)) hN
theorem wpListIn_sPut (hgd : o.guard = none) (m x v : Operand) (hop : o.op = Op.mapUpdate 98 m x v) (b n : Nat) (ns : List (List UInt8)) (hm : a.eval m = .map (some b)) (hK : SM w b n ns) (hn : n < maxLen) (s : ByteArray) (hx : a.eval x = .string s) (hs : s.size ≤ maxLen)
    (hv : a.eval v = .bool true) (hN : ∀ w', SM w' b (n + 1) (ns ++ [bl s]) → w.grownBy w' (some b) → wpListIn F nF Try.prog ops Q rest (a.put o.dst undef) w') : wpListIn F nF Try.prog ops Q (o :: rest) a w := by
  obtain ⟨D, hown, hD⟩ := hK
  exact wpListIn_mapUpdate_own (H := Unit) w hgd m x v _ hop _ _ Try.strKey Try.underlying98 (plainElem Try.prog 4) b n D hm hown hn _ _ _ hx hv (keyOf_string_mk Try.underlying9 hs) _ [] (plainElem_bool Try.underlying4 true) fun w' h1 h2 => hN w' ⟨_, h1, hD.put (bl s)⟩ h2
end
theorem wpListIn_pushG {α : Type} {F : Fence} {nF : Nat} {w : World} {ops : Array Oper} {rest : List Oper} {o : Oper} {a : Act} {Q : Exit → Act → World → Prop} (E : El α) (hgd : o.guard = none) (s x : Operand)
    (ho : o.op = .call { callee := .builtin .append, args := #[s, x], argTypes := #[E.t, E.t] })
    (base : Nat) (S : Nat → Prop) (v : Value) (xs : List α) (hs : a.eval s = v) (hrow : RowG E w base S v xs)
    (B : Nat) (Z : TypeId) (c : List Value) (hB : w.heap[B]? = some (.cells c.toArray Z (0, 0))) (hx : a.eval x = .slice (some ⟨B, 0, none⟩) 1 1) (y : α) (hy : E.rep w (fun b => S b ∧ some b ≠ v.ownBlock) y c)
    (N : Nat) (hN : N = xs.length + 1) (hb : N ≤ 1000000) (hbase : base ≤ w.heap.size)
    (hK : ∀ (a' : Option Addr) (c' : Nat) (w' : World), RowG E w' base S (.slice a' N c') (xs ++ [y]) → w.grownBy w' v.ownBlock → wpListIn F nF Try.prog ops Q rest (a.put o.dst (.slice a' N c')) w') :
    wpListIn F nF Try.prog ops Q (o :: rest) a w := by
  obtain ⟨i, z, hi, hz, hk, hby, hzs⟩ := E.info
  obtain ⟨L, hown, hl, hr⟩ := hrow
  have hc := E.len hy
  have hE := E.hby
  refine wpListIn_append_own_at w hgd s x E.t ho base E.e i z E.k E.by_ E.und hi hz hk hby hzs E.hk v xs.length L.flatten hs hown ⟨B, 0, none⟩ 1 1 c hx (by omega) (World.news_of_block hB) hc.2 (by unfold maxLen; omega) ?_ hbase ?_
  · have := Nat.mul_le_mul (show xs.length + 1 ≤ 1000000 by omega) hE
    omega
  intro v' w' hown' hg _ hloc
  have hrow' : RowG E w' base S v' (xs ++ [y]) := push_after hl hr hy hown' hg hloc
  obtain ⟨a', c', rfl, _⟩ := hrow'.slice
  have e : (xs ++ [y]).length = N := by rw [List.length_append, hN]; rfl
  rw [e] at hrow' ⊢
  exact hK a' c' w' hrow' hg
/-- One name more, if it is new. -/
def stepN (ks : List ByteArray) (t : ByteArray) : List ByteArray := if hasN ks t then ks else ks ++ [t]
theorem fold_kept (l : List ByteArray) : ∀ j, j ≤ l.length → (l.drop (l.length - j)).reverse.foldl stepN [] = keptN l (l.length - j) := by
  intro j
  induction j with
  | zero => intro _; rw [Nat.sub_zero, keptN_start, List.drop_length]; rfl
  | succ j ih =>
    intro hj
    obtain ⟨t, ht⟩ : ∃ x, l[l.length - (j + 1)]? = some x := ⟨_, List.getElem?_eq_getElem (by omega)⟩
    have e : l.length - (j + 1) + 1 = l.length - j := by omega
    have hd : l.drop (l.length - (j + 1)) = t :: l.drop (l.length - j) := by
      obtain ⟨hl, e'⟩ := List.getElem?_eq_some_iff.1 ht
      rw [List.drop_eq_getElem_cons hl, e', e]
    rw [hd, List.reverse_cons, List.foldl_append, ih (by omega), keptN_step ht, e]
    rfl
/-- The names of what came. -/
def keptP {l : List ByteArray} (pre : List (Fs l)) : List ByteArray := (pre.map (fun x => x.1.2)).foldl stepN []
theorem keptP_snoc {l : List ByteArray} (pre : List (Fs l)) (x : Fs l) : keptP (pre ++ [x]) = stepN (keptP pre) x.1.2 := by
  unfold keptP
  rw [List.map_append, List.foldl_append]; rfl
theorem keptP_all {l : List ByteArray} (ys : List (Fs l)) (h : ys.map (fun x => x.1.1) = (List.range l.length).reverse) : (keptP ys).reverse = lastN l := by
  have hn : ys.map (fun x => x.1.2) = l.reverse := by
    have hlen : ys.length = l.length := by have := congrArg List.length h; simpa using this
    apply List.ext_getElem?
    intro p
    by_cases hp : p < l.length
    · have hi : (ys.map (fun x => x.1.1))[p]? = some (l.length - 1 - p) := by
        rw [h, List.getElem?_reverse (by simpa using hp), List.getElem?_range (by simp; omega)]; simp
      obtain ⟨x, hx⟩ : ∃ x, ys[p]? = some x := ⟨_, List.getElem?_eq_getElem (by omega)⟩
      rw [List.getElem?_map, hx] at hi ⊢
      have e : x.1.1 = l.length - 1 - p := Option.some.inj hi
      rw [List.getElem?_reverse hp, ← e, x.2]; rfl
    · rw [List.getElem?_eq_none (by simp; omega), List.getElem?_eq_none (by simp; omega)]
  unfold keptP
  rw [hn]
  have := fold_kept l l.length (Nat.le_refl _)
  rw [Nat.sub_self] at this
  rw [show l.drop 0 = l from rfl] at this
  rw [this, keptN_end]
theorem keptP_le {l : List ByteArray} (pre : List (Fs l)) : (keptP pre).length ≤ pre.length := by
  unfold keptP
  have : ∀ (xs ks : List ByteArray), (xs.foldl stepN ks).length ≤ ks.length + xs.length := by
    intro xs
    induction xs with
    | nil => intro ks; simp
    | cons x xs ih =>
      intro ks
      rw [List.foldl_cons]
      have h1 := ih (stepN ks x)
      have h2 : (stepN ks x).length ≤ ks.length + 1 := by unfold stepN; split <;> simp
      rw [List.length_cons]; omega
  have := this (pre.map (fun x => x.1.2)) []
  simpa using this
theorem has_bl (ks : List ByteArray) (t : ByteArray) : (ks.map bl).contains (bl t) = hasN ks t := by
  induction ks with
  | nil => rfl
  | cons k ks ih =>
    rw [List.map_cons, List.contains_cons, ih]
    simp only [hasN, List.any_cons]
    congr 1
    unfold bl
    rw [Lib.toList_data, Lib.toList_data, Bool.eq_iff_iff]
    simp only [beq_iff_eq]
    exact ⟨fun h => h.symm, fun h => h.symm⟩
theorem InSt.start (w : World) : InSt w [] (((w.alloc (.cells #[.slice none 0 0] 25)).alloc (.map #[] 0)).alloc (.cells #[.map (some (w.heap.size + 1))] 98)) ∧ (((w.alloc (.cells #[.slice none 0 0] 25)).alloc (.map #[] 0)).alloc (.cells #[.map (some (w.heap.size + 1))] 98)).heap.size = w.heap.size + 3 := by
  have s1 : (w.alloc (.cells #[.slice none 0 0] 25)).heap.size = w.heap.size + 1 := by simp
  have s2 : ((w.alloc (.cells #[.slice none 0 0] 25)).alloc (.map #[] 0)).heap.size = w.heap.size + 1 + 1 := by simp
  have b1 : Below w.heap.size w (w.alloc (.cells #[.slice none 0 0] 25)) := (Below.refl _ w).alloc (Nat.le_refl _) _
  have h1 := BoxC.made 25 w [.slice none 0 0]
  simp only [List.toArray] at h1
  generalize (w.alloc (.cells #[.slice none 0 0] 25)) = V1 at *
  have b2 : Below V1.heap.size V1 (V1.alloc (.map #[] 0)) := (Below.refl _ V1).alloc (Nat.le_refl _) _
  have h2 := SM.made V1
  rw [s1] at h2
  generalize (V1.alloc (.map #[] 0)) = V2 at *
  have b3 : Below V2.heap.size V2 (V2.alloc (.cells #[.map (some (w.heap.size + 1))] 98)) := (Below.refl _ V2).alloc (Nat.le_refl _) _
  have h3 := BoxC.made 98 V2 [.map (some (w.heap.size + 1))]
  rw [s2] at h3
  exact ⟨⟨⟨_, (h1.lift b2).lift b3, rowG_nil _ _ _ _⟩, h2.lift b3, h3, (b1.trans (b2.mono b1.size)).trans (b3.mono (Nat.le_trans b1.size b2.size))⟩, by simp [s2]⟩
theorem InSt.lift {w : World} {ks : List ByteArray} {W W' : World} (H : InSt w ks W) (hb : Below W.heap.size W W') : InSt w ks W' := by
  obtain ⟨⟨v, h1, h2⟩, h3, h4, h5⟩ := H
  exact ⟨⟨v, h1.lift hb, h2.lift hb⟩, h3.lift hb, h4.lift hb, h5.trans (hb.mono h5.size)⟩
theorem InSt.own {w : World} {ks : List ByteArray} {W W' : World} {row : Option Nat} (H : InSt w ks W) (hg : W.grownBy W' row) (hr : ∀ r, row = some r → w.heap.size + 3 ≤ r ∧ ∃ o : Obj, W.heap[r]? = some o ∧ o.isCells = false) : InSt w ks W' := by
  obtain ⟨⟨v, h1, h2⟩, h3, h4, h5⟩ := H
  have hr2 : ∀ r, row = some r → ∃ o : Obj, W.heap[r]? = some o ∧ o.isCells = false := fun r e => (hr r e).2
  refine ⟨⟨v, h1.own hg hr2, h2.kept hg ?_ (fun _ h => h.elim)⟩, h3.kept hg (fun e => by have := (hr _ e.symm).1; omega), h4.own hg hr2, Below.grown h5 hg h5.size (fun k hk => by have := (hr k hk).1; omega)⟩
  rcases (rowS_flat h2).2 with ⟨rfl, -⟩ | ⟨g, cap, cu, rfl, -, hc, -⟩
  · exact .inl rfl
  · refine .inr (fun e => ?_)
    obtain ⟨o, ho, hoc⟩ := hr2 g e.symm
    rw [hc] at ho
    cases ho
    cases hoc
set_option maxRecDepth 100000 in
set_option maxHeartbeats 6400000 in
theorem inner_any : InnerAt := by
  intro l v S w hl hsz h
  have HSz := Lib.hid hsz
  clear hsz
  have HL := Lib.hid h
  obtain ⟨fa, fc, rfl, hle⟩ := slice_form h
  clear h
  unfold maxLen at hle
  obtain ⟨m, hm⟩ : ∃ m, m = l.length := ⟨_, rfl⟩
  have HM := Lib.hid hm
  rw [← hm] at hl hle HL ⊢
  clear hm
  have HBw := Lib.hid (fun a m c W => bs_any a m c W)
  refine (callsIn_wide (n := 9)).1 (callsIn_of_wp_marks Try.func35 rfl trivial (wpIn_wide.2 ?_) rfl)
  simp only [Try.ntmps35, List.size_toArray, List.length_cons, List.length_nil, Nat.reduceAdd, Nat.reduceSub, Array.replicate_succ, Array.replicate_zero, List.push_toArray, List.append_toArray, List.nil_append, List.cons_append]
  have hmm := @run_makeMap Try.prog
  go_upto_region 3 with fail
  go_wp2_with fail
  obtain ⟨h0, hs3⟩ := InSt.start w
  generalize (((w.alloc (.cells #[.slice none 0 0] 25)).alloc (.map #[] 0)).alloc (.cells #[.map (some (w.heap.size + 1))] 98)) = w3 at *
  refine (HBw.out fa m fc w3).mono ?_
  rintro e w4 ⟨rfl, rfl⟩
  have H0 := Lib.hid h0
  clear h0 HBw hmm
  go_upto_region 99 with fail
  refine (?_ : ∀ A : Act, A = _ → Code.wp _ _ _ A _) _ rfl
  intro A hA
  have hn4 : Below w3.heap.size w3 (w3.alloc (.cells #[.slice fa m fc] 25)) := (Below.refl _ w3).alloc (Nat.le_refl _) _
  have HBs : BoxC 25 (w3.alloc (.cells #[.slice fa m fc] 25)) w3.heap.size [.slice fa m fc] := BoxC.made _ w3 _
  have h4s : (w3.alloc (.cells #[.slice fa m fc] 25)).heap.size = w3.heap.size + 1 := by simp
  have hI0 := H0.out.lift hn4
  have h3s : w.heap.size ≤ w3.heap.size := by omega
  refine (wpIn_wide (n := 9)).1 ?_
  refine wpIn_rangeFunc_ownH (F := Fence.wide) (α := Fs l) rfl (by omega) (gf := 71) (lb := #[.pointer (some ⟨w3.heap.size, 0, none⟩)]) (by rw [hA, hs3]; rfl) trivial (enters_of Try.func71 (by kernel_rfl) rfl)
    (bs_stops 8 w3.heap.size (by omega) w _ S l fa m fc HM.out hl HL.out hI0.low HBs) (fun h k => ⟨h.1.trans k.1, k.2.trans h.2⟩) (fun W l o o' hl h h1 h2 => ⟨belowK_b (w := w3) h3s W l o o' (by omega) h h1 h2, World.putObj_heap_other (by omega)⟩) (Below.refl _ _) (fun _ => rfl)
    (fun pre W => InSt w (keptP pre) W ∧ BoxC 25 W w3.heap.size [.slice fa m fc]) (fun _ _ _ => False)
    (fun s W W' row hs hg hr => ⟨hs.1.own hg (fun r e => ⟨by have := (hr r e).1; omega, (hr r e).2⟩), hs.2.own hg (fun r e => (hr r e).2)⟩) (fun _ _ _ _ _ hs _ _ => hs) ⟨hI0, HBs⟩
    (fun x a' W => a' = { tmps := ((A.tmps.setIfInBounds 10 (.int .i64 (x.1.1 : Int))).setIfInBounds 11 (.string x.1.2)).setIfInBounds 6 (.string x.1.2), defers := [] })
    (fun x a' s W W' row hs hg hr => hs) ?assign ?body ?done ?stop
  case stop => rintro Dm c' pre W _ _ h _; exact h.elim
  case assign =>
    rintro l' pre ⟨⟨j, t⟩, ht⟩ W K ⟨hI, hBs⟩ hK
    subst hA
    unfold Fs.enc
    gi_wp2
    exact hK _ _ (KeepsFrom.refl _ _) ⟨Below.refl _ _, rfl⟩ ⟨hI, hBs⟩ rfl
  case body =>
    rintro l' pre ⟨⟨j, t⟩, ht⟩ a' W hl' ⟨rr, hrr⟩ ⟨hI, hBs⟩ rfl hltp
    subst hA
    rw [hs3] at hBs
    have hI1 := hI
    obtain ⟨⟨kv, hkb, hkr⟩, hsn, hmp, hlow⟩ := hI
    obtain ⟨ka, kc, rfl, -⟩ := hkr.slice
    have m0 := hmp.cell 0 _ rfl
    have hts : t.size ≤ maxLen := HSz.out t (List.mem_of_getElem? ht)
    have HKs := Lib.hid (keptP_snoc pre ⟨(j, t), ht⟩)
    have hkl := keptP_le pre
    generalize keptP pre = ks at *
    have HI1 := Lib.hid hI1
    have HSn := Lib.hid hsn
    have HKb := Lib.hid hkb
    have HKr := Lib.hid hkr
    have HMp := Lib.hid hmp
    have HLo := Lib.hid hlow
    have HBx := Lib.hid hBs
    have hlen : ks.length + 1 ≤ 1000000 := by omega
    have hlm : ks.length < maxLen := by unfold maxLen; omega
    have hWs := hBs.lt
    clear hI1 hsn hkb hkr hmp hlow hBs hI0 HBs
    simp only [List.setIfInBounds_toArray, List.set_cons_succ, List.set_cons_zero]
    cases hq : hasN ks t with
    | true =>
      gi_wp2_with (gi_at_lookup; refine wpListIn_sLook W rfl _ _ rfl (w.heap.size + 1) ks.length (ks.map bl) rfl HSn.out t rfl hts ?_; rw [has_bl, hq])
      refine ⟨KeepsFrom.refl _ _, ⟨Below.refl _ _, rfl⟩, ?_, HBx.out⟩
      rw [HKs.out]; unfold stepN; rw [if_pos hq]; exact HI1.out
    | false =>
      have HNw : Hid (∀ V : World, ∀ X Z, (V.alloc (.cells X Z)).heap[V.heap.size]? = some (.cells X Z (0, 0))) := fun V X Z => heap_alloc_new V _
      gi_wp2_with (first
        | (gi_at_lookup; refine wpListIn_sLook W rfl _ _ rfl (w.heap.size + 1) ks.length (ks.map bl) rfl HSn.out t rfl hts ?_; rw [has_bl, hq])
        | (gi_at_mapUpdate; refine wpListIn_sPut W rfl _ _ _ rfl (w.heap.size + 1) ks.length (ks.map bl) rfl HSn.out hlm t rfl hts rfl ?_; intro w5 hsm5 hg5; have HS5 := Lib.hid hsm5; have HG5 := Lib.hid hg5; have HK5 := Lib.hid (HKb.out.grown hg5 (fun e => by have := Option.some.inj e; omega)); have HR5 := Lib.hid (HKr.out.kept hg5 (HKr.out.off (by omega)) (fun _ h => h.elim)); have k0 := HK5.out.cell 0 _ rfl; clear hsm5 hg5 m0)
        | (gi_at_builtin; refine wpListIn_pushG StrE rfl _ _ rfl (w.heap.size + 4) (fun _ => False) (.slice ka ks.length kc) ks rfl (HR5.out.lift ((Below.refl _ _).alloc (Nat.le_refl _) _)) w5.heap.size _ [.string t] (HNw.out w5 _ _) rfl t rfl (ks.length + 1) rfl hlen (Nat.le_trans (show w.heap.size + 4 ≤ w5.heap.size from by have := HG5.out.size; omega) ((Below.refl _ w5).alloc (Nat.le_refl _) _).size) ?_; intro a6 c6 w6 hrow6 hg6; have HR6 := Lib.hid hrow6; have HG6 := Lib.hid hg6; have HK6 := Lib.hid ((HK5.out.lift ((Below.refl _ w5).alloc (Nat.le_refl _) (.cells #[.string t] 9))).grown hg6 (fun e => by have := (HKr.out.lt _ e.symm).1; omega)); have k6 := HK6.out.cell 0 _ rfl; have f6 := HK6.out.free 0; clear hrow6 hg6 k0))
      obtain ⟨hb7, hg7, hs7⟩ := HK6.out.set 0 (.slice a6 (ks.length + 1) c6)
      have hA5 : Below w5.heap.size w5 (w5.alloc (.cells #[.string t] 9)) := (Below.refl _ w5).alloc (Nat.le_refl _) _
      have hown : ∀ k, (Value.slice ka ks.length kc).ownBlock = some k → w.heap.size + 4 ≤ k := fun k e => (HKr.out.lt k e).1
      have hrow0 := (rowS_flat HR5.out).2
      have h5s := HG5.out.size
      have h6s := HG6.out.size
      have hKF : KeepsFrom (w.heap.size + 3 + 1) W (w6.setCell ⟨w.heap.size, 0, none⟩ (.slice a6 (ks.length + 1) c6)) := by
        refine ((KeepsFrom.of_grownBy HG5.out (fun j e => by have := Option.some.inj e; omega)).trans ((KeepsOthers.alloc w5 (.cells #[.string t] 9)).from _)).trans (KeepsFrom.trans ?_ ((KeepsOthers.setCell w6 _ _).from _))
        refine (KeepsOthers.of_grownBy HG6.out (fun q o e ho => ?_)).from _
        rcases hrow0 with ⟨e1, -⟩ | ⟨g, cap, cu, e1, -, hc, -⟩
        · rw [e1] at e; cases e
        · rw [e1] at e
          have : g = q := Option.some.inj e
          subst this
          rw [hA5.block g (Array.getElem?_eq_some_iff.1 hc).1, hc] at ho
          cases ho; rfl
      have hB5 : Below w.heap.size W w5 := Below.grown (Below.refl _ _) HG5.out HLo.out.size (fun k hk => by have := Option.some.inj hk; omega)
      have hB6 : Below w.heap.size W w6 := Below.grown (hB5.trans (hA5.mono (Nat.le_trans HLo.out.size h5s))) HG6.out (Nat.le_trans HLo.out.size (Nat.le_trans h5s hA5.size)) (fun k hk => by have := hown k hk; omega)
      have hB7 : Below w.heap.size W (w6.setCell ⟨w.heap.size, 0, none⟩ (.slice a6 (ks.length + 1) c6)) := Below.grown hB6 hg7 (Nat.le_trans HLo.out.size hB6.size) (fun k hk => by have := Option.some.inj hk; omega)
      have hW3 : w.heap.size + 3 < W.heap.size := by have := HBx.out.lt; omega
      have hx5 := HBx.out.grown HG5.out (fun e => by have := Option.some.inj e; omega)
      have hx7 := ((hx5.lift hA5).grown HG6.out (fun e => by have := hown _ e.symm; omega)).grown hg7 (fun e => by have := Option.some.inj e; omega)
      have hm5 := HMp.out.grown HG5.out (fun e => by have := Option.some.inj e; omega)
      have hm7 := ((hm5.lift hA5).grown HG6.out (fun e => by have := hown _ e.symm; omega)).grown hg7 (fun e => by have := Option.some.inj e; omega)
      have hs7' := ((HS5.out.lift hA5).kept HG6.out (fun e => by have := hown _ e.symm; omega)).kept hg7 (fun e => by have := Option.some.inj e; omega)
      have hr7 := HR6.out.kept hg7 (HR6.out.off (by omega)) (fun _ h => h.elim)
      refine ⟨hKF, ⟨hB7, ?_⟩, ?_, hx7⟩
      · have e1 := hx7; have e2 := HBx.out
        unfold BoxC at e1 e2
        rw [e1, e2]
      · rw [HKs.out]; unfold stepN; rw [if_neg (by rw [hq]; decide)]
        exact ⟨⟨_, hb7, hr7⟩, by rw [List.length_append, List.map_append]; exact hs7', hm7, HLo.out.trans hB7⟩
  case done =>
    rintro Dm xs W hDm hSx ⟨hI, hBs⟩ hK
    subst hA
    have hrev := keptP_all xs (by rw [← HM.out]; exact hSx)
    have hkl := keptP_le xs
    have hxl : xs.length = m := by have := congrArg List.length hSx; simpa using this
    obtain ⟨⟨kv, hkb, hkr⟩, -, -, hlow⟩ := hI
    have hWs := hBs.lt
    have HRv := Lib.hid (revS_any (w.heap.size + 4) (keptP xs) kv W (by omega) (by omega) hkr)
    rw [hrev] at HRv
    generalize keptP xs = ks at *
    have k0 := hkb.cell 0 _ rfl
    have hown : ∀ k, kv.ownBlock = some k → w.heap.size + 4 ≤ k := fun k e => (hkr.lt k e).1
    have hflat := (rowS_flat hkr).2
    have HFl := Lib.hid hflat
    have HKb := Lib.hid hkb
    have HLo := Lib.hid hlow
    have HOwn := Lib.hid hown
    have HK := Lib.hid hK
    clear hflat hkb hlow hown hK hkr hBs hSx hrev hI0 HBs
    go_wp2_with (go_at_call 51; refine HRv.out.mono ?_; rintro e w6 ⟨rfl, hRv⟩; have HR6 := Lib.hid hRv; have HK6 : Hid (BoxC 25 w6 w.heap.size [kv]) := HKb.out.kept (hRv.rest _ HKb.out.lt (fun e => by have := HOwn.out _ e; omega)); have k6 := HK6.out.cell 0 _ rfl; clear hRv)
    have hDl := (Array.getElem?_eq_some_iff.1 HK.out).1
    have hne : kv.ownBlock ≠ some Dm := by
      rcases HFl.out with ⟨e1, -⟩ | ⟨g, cap, cu, e1, -, hc, -⟩
      · rw [e1]; intro e; cases e
      · rw [e1]
        intro e
        have : g = Dm := Option.some.inj e
        subst this
        have h2 := HK.out
        rw [hc] at h2
        cases h2
    have hKD : w6.heap[Dm]? = some (.deferred (some [])) := (HR6.out.rest Dm hDl hne).trans HK.out
    have g7 := grownBy_putObj' w6 Dm (.deferred none)
    have hrow7 := HR6.out.row.kept g7 (.inr hne) (fun _ h => h.elim)
    have hl6 : Below w.heap.size w w6 := HLo.out.trans (HR6.out.low.mono (by omega))
    have hl7 := Below.grown hl6 g7 hl6.size (fun k hk => by have := Option.some.inj hk; have := HLo.out.size; omega)
    refine ⟨by simp, .inl ⟨_, _, rfl, run_takeDeferred hKD, ?_⟩⟩
    refine ⟨kv, by simp [results, Try.results35, go_sem]; try rfl, kv, rfl, hrow7.slG (fun _ _ => trivial) (fun _ _ => trivial), hl7⟩
end Go.Proofs.Ytljgpgmaceackaa
