/- Stores: the library's Backward over a trail, what it hands a loop; Clip; slices of slices. -/
import Derived.RangeFuncNested
import Derived.RangeFuncBound
import Derived.RangeFuncCalls
import Derived.RangeFuncLeaves
import Derived.Shelf.Abstract
import Derived.Shelf.RegionOpen
import Derived.WalkKit
import Derived.OwnWalkIn
import Derived.TacticsInMore
import Derived.LoopNIn
import Derived.LoopIn
import Derived.Test.YtejlhfjhpminjaaStSe
namespace Go.Proofs.Ytejlhfjhpminjaa
open Go.RowKit Go.Sort Go.Shelf Go.Maps Mth
attribute [local go_sem] Oper.semAt_some

theorem BoxC.own {W W' : World} {row : Option Nat} (hg : W.grownBy W' row) (hr : ∀ r, row = some r → ∃ o : Obj, W.heap[r]? = some o ∧ o.isCells = false) {t : TypeId} {B : Nat} {c : List Value} (h : BoxC t W B c) : BoxC t W' B c :=
  h.grown hg (by
    intro e
    obtain ⟨o, ho, hc⟩ := hr B e.symm
    unfold BoxC at h
    rw [h] at ho
    cases ho
    cases hc)
/-- The cells of an entry of a trail. -/
theorem chg_at {w : World} {S : Nat → Prop} {tr : List Chg} {ta : Option Addr} {n tc : Nat} (h : SlG ChgE w S tr (.slice ta n tc)) {j : Nat} {x : Chg} (hj : tr[j]? = some x) :
    ∃ (ad : Addr) (k : Int) (nm : ByteArray) (i hm : Int) (a' : Option Addr) (n' c' : Nat), ta = some ad ∧ S ad.block ∧ Rep w S x.old.ty (.agg #[.int .i64 k, .string nm, .int .i64 i, .int .i64 hm, .slice a' n' c']) ∧
      (w.cell? (ad.add (j * 10)) = some (.int .i64 x.id) ∧ w.cell? ⟨(ad.add (j * 10)).block, (ad.add (j * 10)).off + 1, none⟩ = some (.bool x.old.bound) ∧ w.cell? ⟨(ad.add (j * 10)).block, (ad.add (j * 10)).off + 2, none⟩ = some (.int .i64 k) ∧ w.cell? ⟨(ad.add (j * 10)).block, (ad.add (j * 10)).off + 3, none⟩ = some (.string nm) ∧
       w.cell? ⟨(ad.add (j * 10)).block, (ad.add (j * 10)).off + 4, none⟩ = some (.int .i64 i) ∧ w.cell? ⟨(ad.add (j * 10)).block, (ad.add (j * 10)).off + 5, none⟩ = some (.int .i64 hm) ∧ w.cell? ⟨(ad.add (j * 10)).block, (ad.add (j * 10)).off + 6, none⟩ = some (.slice a' n' c') ∧
       w.cell? ⟨(ad.add (j * 10)).block, (ad.add (j * 10)).off + 7, none⟩ = some (.int .i64 x.old.home) ∧ w.cell? ⟨(ad.add (j * 10)).block, (ad.add (j * 10)).off + 8, none⟩ = some (.bool x.old.base) ∧ w.cell? ⟨(ad.add (j * 10)).block, (ad.add (j * 10)).off + 9, none⟩ = some (.bool x.new)) := by
  obtain ⟨a, cap, e, hcap, hg⟩ := h
  cases e
  obtain ⟨ad, c, h1, h2, h3, d, rfl, k, nm, i, hm, a', n', c', rfl, hr⟩ := hg j x hj
  refine ⟨ad, k, nm, i, hm, a', n', c', h1, h2, hr, h3 0 _ rfl, ?_, ?_, ?_, ?_, ?_, ?_, ?_, ?_, ?_⟩
  · rw [add_add' _ _ _ (by omega)]; exact h3 1 _ rfl
  · rw [add_add' _ _ _ (by omega)]; exact h3 2 _ rfl
  · rw [add_add' _ _ _ (by omega)]; exact h3 3 _ rfl
  · rw [add_add' _ _ _ (by omega)]; exact h3 4 _ rfl
  · rw [add_add' _ _ _ (by omega)]; exact h3 5 _ rfl
  · rw [add_add' _ _ _ (by omega)]; exact h3 6 _ rfl
  · rw [add_add' _ _ _ (by omega)]; exact h3 7 _ rfl
  · rw [add_add' _ _ _ (by omega)]; exact h3 8 _ rfl
  · rw [add_add' _ _ _ (by omega)]; exact h3 9 _ rfl
/-- What comes: a place and the value there. -/
abbrev Fc (w : World) (S : Nat → Prop) (tr : List Chg) := { p : Nat × Value // ∃ (x : Chg) (k : Int) (nm : ByteArray) (i hm : Int) (a' : Option Addr) (n' c' : Nat), tr[p.1]? = some x ∧ p.2 = .agg #[.int .i64 x.id, .bool x.old.bound, .int .i64 k, .string nm, .int .i64 i, .int .i64 hm, .slice a' n' c', .int .i64 x.old.home, .bool x.old.base, .bool x.new] ∧ Rep w S x.old.ty (.agg #[.int .i64 k, .string nm, .int .i64 i, .int .i64 hm, .slice a' n' c']) }
def Fc.enc {w : World} {S : Nat → Prop} {tr : List Chg} (x : Fc w S tr) : Array Value := #[.int .i64 (x.1.1 : Int), x.1.2]
theorem range_rev (k : Nat) : (List.range (k + 1)).reverse = k :: (List.range k).reverse := by rw [List.range_succ, List.reverse_append]; rfl
/-- What a round keeps: what lay below, and the slice's box. -/
def KpB (n₀ Bs : Nat) (A B : World) : Prop := Below n₀ A B ∧ B.heap[Bs]? = A.heap[Bs]?
set_option maxRecDepth 100000 in
set_option maxHeartbeats 4000000 in
theorem bc1_in (n l Bs n₀ : Nat) (hn : 1 ≤ n) (w : World) (hn₀ : n₀ = w.heap.size) (S : Nat → Prop) (fs : List Chg) (fa : Option Addr) (fl fc : Nat) (hfn : fl = fs.length) (hfl : fl ≤ 1000000) (hf : SlG ChgE w S fs (.slice fa fl fc)) (J Jx : List (Fc w S fs) → World → Prop)
    (hY : ∀ pre x W, J pre W → pre.length < fl → YieldAt Fence.wide (n - 1) Try.prog l (Fc.enc x) W fun e W' =>
      (e = .returned (.bool true) ∧ J (pre ++ [x]) W' ∧ KpB n₀ Bs W W') ∨ (e = .returned (.bool false) ∧ Jx (pre ++ [x]) W'))
    (W : World) (hW : Below n₀ w W) (hBs : BoxC 25 W Bs [.slice fa fl fc]) (h0 : J [] W) :
    CallsIn Fence.wide n Try.prog 48 #[.func (.yield l) #[] #[], .pointer (some ⟨Bs, 0, none⟩)] W fun e W' => (∃ v, e = .returned v) ∧
      ((∃ ys : List (Fc w S fs), ys.map (fun x => x.1.1) = (List.range fl).reverse ∧ J ys W') ∨ (∃ pre, True ∧ Jx pre W')) := by
  subst hn₀
  refine callsIn_of_wp Try.func48 rfl trivial ?_ rfl
  simp only [Try.ntmps48, List.size_toArray, List.length_cons, List.length_nil, Nat.reduceAdd, Nat.reduceSub, Array.replicate_succ, Array.replicate_zero, List.push_toArray, List.append_toArray, List.nil_append, List.cons_append]
  have hc0 := hBs.cell 0 _ rfl
  have HY := Lib.hid hY
  have HF := Lib.hid hf
  have HFn := Lib.hid hfn
  clear hY hf hfn
  gi_wp2
  gi_loopw [3] (fun i wr => ∃ (k : Nat) (pre : List (Fc w S fs)), k ≤ fl ∧ i = .int .i64 ((k : Int) - 1) ∧ Hid (pre.map (fun x => x.1.1) ++ (List.range k).reverse = (List.range fl).reverse) ∧ J pre wr ∧ Hid (Below w.heap.size w wr) ∧ BoxC 25 wr Bs [.slice fa fl fc])
    (fun i _ => (intOf i + 1).toNat)
  case atStart => exact ⟨fl, [], Nat.le_refl _, by go_num, rfl, h0, hW, hBs⟩
  case round =>
    clear hc0 hBs hW h0
    obtain ⟨k, pre, hk, rfl, HP, hJ, HB, hBx⟩ := hrel
    have hc0 := hBx.cell 0 _ rfl
    cases k with
    | zero =>
      gi_wp2
      go_end0
      exact ⟨⟨_, rfl⟩, .inl ⟨pre, by have := HP.out; simpa using this, hJ⟩⟩
    | succ k =>
      have hx : ((k + 1 : Nat) : Int) - 1 = (k : Int) := by omega
      rw [hx]
      obtain ⟨U, hU⟩ : ∃ x, fs[k]? = some x := ⟨_, List.getElem?_eq_getElem (by rw [← HFn.out]; omega)⟩
      obtain ⟨ad, k', n', i', h', ua, um, uc, rfl, hS, hr, q0, q1, q2, q3, q4, q5, q6, q7, q8, q9⟩ := chg_at HF.out hU
      have kk : ∀ {p : Addr} {v : Value}, w.cell? p = some v → wr.cell? p = some v := fun {p v} h => (HB.out.cell (World.block_lt_of_cell? _ _ h)).trans h
      have q0 := kk q0; have q1 := kk q1; have q2 := kk q2; have q3 := kk q3; have q4 := kk q4; have q5 := kk q5; have q6 := kk q6; have q7 := kk q7; have q8 := kk q8; have q9 := kk q9
      clear kk
      have hlen : pre.length + (k + 1) = fl := by
        have := congrArg List.length HP.out
        simpa using this
      obtain ⟨f1, tmps, assign, body, hy, hR⟩ := HY.out pre ⟨(k, _), U, k', n', i', h', ua, um, uc, hU, rfl, hr⟩ wr hJ (by omega)
      unfold Fc.enc at hy
      dsimp only at hy
      have hki : (k : Int) < (fl : Int) := by omega
      have hk0 : (0 : Int) ≤ (k : Int) := by omega
      clear hS hx
      gi_wp2
      refine hR.mono ?_
      rintro e W3 (⟨rfl, hJ3, hk3⟩ | ⟨rfl, hJx3⟩)
      · have hB3 : BoxC 25 W3 Bs [.slice (some ad) fl fc] := hBx.kept hk3.2
        have HB3 := Lib.hid (HB.out.trans hk3.1)
        gi_wp2
        go_roundw
        case rel => exact ⟨k, _, by omega, by go_num, by show _ = _; rw [← HP.out, range_rev]; simp, hJ3, HB3, hB3⟩
        case measure => simp [intOf]
      · gi_wp2
        refine bodyPost_ret (results_none rfl _ _ _) rfl ?_
        exact ⟨⟨_, rfl⟩, .inr ⟨_, trivial, hJx3⟩⟩
theorem bc_any (a : Option Addr) (m c : Nat) (w : World) :
    Calls Try.prog 35 #[.slice a m c] w fun e w' => e = .returned (.func (.func 48) #[] #[.pointer (some ⟨w.heap.size, 0, none⟩)]) ∧ w' = w.alloc (.cells #[.slice a m c] 25) := by
  go_enter Try.func35, Try.ntmps35
  go_wp2
  go_ret
  exact ⟨rfl, rfl⟩
theorem bc_stops (n Bs : Nat) (hn : 1 ≤ n) (w W : World) (S : Nat → Prop) (fs : List Chg) (fa : Option Addr) (fl fc : Nat) (hfn : fl = fs.length) (hfl : fl ≤ 1000000) (hf : SlG ChgE w S fs (.slice fa fl fc)) (hW : Below w.heap.size w W) (hBs : BoxC 25 W Bs [.slice fa fl fc]) :
    SeqStopsK Fence.wide n Try.prog 48 #[.pointer (some ⟨Bs, 0, none⟩)] (fun x : Fc w S fs => Fc.enc x) (KpB w.heap.size Bs) (fun ys => ys.map (fun x => x.1.1) = (List.range fl).reverse) (fun _ => True) fl W := fun l J Jx W' hb _ _ hY h0 =>
  bc1_in n l Bs w.heap.size hn w rfl S fs fa fl fc hfn hfl hf J Jx hY W' (hW.trans (hb.mono hW.size)) (hBs.kept (hb.block _ hBs.lt)) h0
theorem clip_any (a : Option Addr) (m c : Nat) (w : World) (hm : m ≤ c) (_hc : c ≤ 9223372036854775807) :
    Calls Try.prog 34 #[.slice a m c] w fun e w' => e = .returned (.slice a m m) ∧ w' = w := by
  go_enter Try.func34, Try.ntmps34
  go_wp2
  go_ret
  exact ⟨rfl, rfl⟩
/-- The head of a list. -/
theorem SlG.head {α : Type} {E : El α} {w : World} {S : Nat → Prop} {xs : List α} {a : Option Addr} {n c : Nat} (h : SlG E w S xs (.slice a n c)) {m : Nat} (hm : m ≤ n) {c' : Nat} (h1 : m ≤ c') (h2 : c' ≤ c) : SlG E w S (xs.take m) (.slice a m c') := by
  obtain ⟨a', c'', e, ⟨hc1, hc2⟩, hj⟩ := h
  simp only [Value.slice.injEq] at e
  obtain ⟨rfl, rfl, rfl⟩ := e
  refine ⟨a, c', by rw [List.length_take, Nat.min_eq_left hm], ⟨by rw [List.length_take]; omega, by omega⟩, fun j x hx => ?_⟩
  rw [List.getElem?_take] at hx
  split at hx
  · exact hj j x hx
  · cases hx
theorem SlG.dropk {α : Type} {E : El α} {w : World} {S : Nat → Prop} {xs : List α} {ad : Addr} {n c : Nat} (h : SlG E w S xs (.slice (some ad) n c)) {k : Nat} (hk : k ≤ n) : SlG E w S (xs.drop k) (.slice (some (ad.add (k * E.k))) (n - k) (c - k)) := by
  obtain ⟨a', c', e, ⟨h1, h2⟩, hj⟩ := h
  simp only [Value.slice.injEq] at e
  obtain ⟨rfl, rfl, rfl⟩ := e
  refine ⟨some (ad.add (k * E.k)), c - k, by rw [List.length_drop], ⟨by rw [List.length_drop]; omega, by omega⟩, fun j x hx => ?_⟩
  rw [List.getElem?_drop] at hx
  obtain ⟨ad', cs, e, hS, hc, hr⟩ := hj (k + j) x hx
  cases e
  refine ⟨_, cs, rfl, by rw [add_block]; exact hS, fun m u hu => ?_, hr⟩
  have := hc m u hu
  rw [Addr.add_add]
  have e2 : k * E.k + (j * E.k + m) = (k + j) * E.k + m := by rw [Nat.add_mul]; omega
  rw [e2]
  exact this
theorem RowG.takek {α : Type} {E : El α} {w : World} {base : Nat} {S : Nat → Prop} {xs : List α} {g n c : Nat} (h : RowG E w base S (.slice (some ⟨g, 0, none⟩) n c) xs) {k : Nat} (hk : k ≤ n) : RowG E w base S (.slice (some ⟨g, 0, none⟩) k c) (xs.take k) := by
  obtain ⟨a', c', e', -⟩ := h.slice
  cases e'
  obtain ⟨L, hown, hl, hr⟩ := h
  have h5 := rowG_len hl hr
  have hlt : (L.take k).length = k := by rw [List.length_take, hl]; omega
  refine ⟨L.take k, ?_, by rw [List.length_take, List.length_take, hl], fun j x hx => ?_⟩
  · rw [List.length_take, Nat.min_eq_left hk]
    obtain ⟨h0, ⟨e, -⟩ | ⟨g', cap, cur, e, hg, hcur, hn, hm, hs, ht⟩⟩ := hown
    · cases e
    · cases e
      have hfl : (L.take k).flatten.length = k * E.k := by rw [flat_len E.k _ (fun c hc => (h5 c (List.mem_of_mem_take hc)).1), hlt]
      refine ⟨hfl, .inr ⟨g, c, cur, rfl, hg, hcur, by omega, hm, hs, ?_⟩⟩
      have e1 : L.flatten = (L.take k).flatten ++ (L.drop k).flatten := by rw [← List.flatten_append, List.take_append_drop]
      rw [← hfl]
      have e2 : cur.toList.take (L.take k).flatten.length = (cur.toList.take (xs.length * E.k)).take (L.take k).flatten.length := by
        rw [List.take_take, Nat.min_eq_left]
        rw [hfl]; exact Nat.mul_le_mul_right _ hk
      rw [e2, ht, e1, List.take_left']
      rfl
  · rw [List.getElem?_take] at hx
    split at hx
    · next hj =>
      obtain ⟨c', h1, h2⟩ := hr j x hx
      exact ⟨c', by rw [List.getElem?_take, if_pos hj]; exact h1, h2⟩
    · cases hx
end Go.Proofs.Ytejlhfjhpminjaa
