/- Stores: the package's Rollback. -/
import Derived.Test.YtejlhfjhpminjaaStBk
import Derived.Deep.DeepCutAuto
namespace Go.Proofs.Ytejlhfjhpminjaa
open Go.RowKit Go.Sort Go.Shelf Go.Maps Mth
attribute [local go_sem] Oper.semAt_some

/-- One change is undone. -/
def undo (sl : List Slt) (c : Chg) : List Slt := if 0 ≤ c.id ∧ c.id < (sl.length : Int) then (if c.new then sl.take c.id.toNat else sl.set c.id.toNat c.old) else sl
def bkS (tr : List Chg) (js : List Nat) (sl : List Slt) : List Slt := js.foldl (fun sl j => undo sl ((tr[j]?).getD chZ)) sl
def stBack (s : Sto) (m : Nat) : Sto := ⟨bkS (s.trail.drop m) (List.range (s.trail.length - m)).reverse s.slots, s.trail.take m⟩
theorem undo_len (sl : List Slt) (c : Chg) : (undo sl c).length ≤ sl.length := by
  unfold undo
  split
  · split
    · rw [List.length_take]; omega
    · simp
  · exact Nat.le_refl _
theorem bkS_snoc (tr : List Chg) (js : List Nat) (j : Nat) (sl : List Slt) {c : Chg} (h : tr[j]? = some c) : bkS tr (js ++ [j]) sl = undo (bkS tr js sl) c := by
  unfold bkS
  rw [List.foldl_append]
  simp [h]
/-- What the loop holds. -/
structure RbSt (w : World) (S : Nat → Prop) (B g n mk : Nat) (ta : Option Addr) (sl : List Slt) (W : World) : Prop where
  back : BoxC 27 W B [.slice (some ⟨g, 0, none⟩) sl.length n, .slice ta mk mk]
  res : BoxC 27 W (w.heap.size + 1) [.slice none 0 0, .slice none 0 0]
  row : RowG SltE W (w.heap.size + 2) (fun b => S b ∧ b < w.heap.size) (.slice (some ⟨g, 0, none⟩) sl.length n) sl
  low : Below w.heap.size w W
  ne : B ≠ g
  hB : w.heap.size + 2 ≤ B
  le : sl.length ≤ n
theorem RbSt.hg {w : World} {S : Nat → Prop} {B g n mk : Nat} {ta : Option Addr} {sl : List Slt} {W : World} (H : RbSt w S B g n mk ta sl W) : w.heap.size + 2 ≤ g ∧ g < W.heap.size := H.row.lt g rfl
theorem RbSt.lift {w : World} {S : Nat → Prop} {B g n mk : Nat} {ta : Option Addr} {sl : List Slt} {W W' : World} (H : RbSt w S B g n mk ta sl W) (hb : Below W.heap.size W W') : RbSt w S B g n mk ta sl W' :=
  ⟨H.back.lift hb, H.res.lift hb, H.row.lift hb, H.low.trans (hb.mono H.low.size), H.ne, H.hB, H.le⟩
theorem RbSt.grow {w : World} {S : Nat → Prop} {B g n mk : Nat} {ta : Option Addr} {sl : List Slt} {W W' : World} {row : Option Nat} (H : RbSt w S B g n mk ta sl W) (hg : W.grownBy W' row) (hr : ∀ r, row = some r → w.heap.size + 2 ≤ r ∧ r ≠ B ∧ r ≠ g) : RbSt w S B g n mk ta sl W' := by
  refine ⟨H.back.grown hg (fun e => (hr B e.symm).2.1 rfl), H.res.grown hg (fun e => by have := (hr _ e.symm).1; omega), H.row.kept hg (.inr (fun e => (hr g e.symm).2.2 rfl)) (fun b hb e => by have := (hr b e.symm).1; omega), Below.grown H.low hg H.low.size (fun r e => by have := (hr r e).1; omega), H.ne, H.hB, H.le⟩
theorem Five.own {W W' : World} {row : Option Nat} (hg : W.grownBy W' row) (hr : ∀ r, row = some r → ∃ o : Obj, W.heap[r]? = some o ∧ o.isCells = false) {a : Addr} {j : Nat} {v : Value} (h : Five W a j v) : Five W' a j v := by
  obtain ⟨c0, c1, c2, c3, c4, hv, h0, h1, h2, h3, h4⟩ := h
  exact ⟨c0, c1, c2, c3, c4, hv, cell_kept h0 hg hr, cell_kept h1 hg hr, cell_kept h2 hg hr, cell_kept h3 hg hr, cell_kept h4 hg hr⟩
theorem Rep.own {W W' : World} {row : Option Nat} (hg : W.grownBy W' row) (hr : ∀ r, row = some r → ∃ o : Obj, W.heap[r]? = some o ∧ o.isCells = false) {S : Nat → Prop} {T : Ty} {v : Value} (h : Rep W S T v) : Rep W' S T v := by
  induction h with
  | mk k n i h ts a cap f hn hcap hc _ ih =>
    refine .mk k n i h ts a cap f hn hcap (fun j T hj => ?_) ih
    obtain ⟨ad, ha, hs, h5⟩ := hc j T hj
    exact ⟨ad, ha, hs, h5.own hg hr⟩
theorem SlG.own {α : Type} {E : El α} {W W' : World} {row : Option Nat} (hg : W.grownBy W' row) (hr : ∀ r, row = some r → ∃ o : Obj, W.heap[r]? = some o ∧ o.isCells = false) {S : Nat → Prop} {xs : List α} {v : Value} (hE : ∀ x c, E.rep W S x c → E.rep W' S x c) (h : SlG E W S xs v) : SlG E W' S xs v := by
  obtain ⟨a, cap, e, hc, hj⟩ := h
  refine ⟨a, cap, e, hc, fun j x hx => ?_⟩
  obtain ⟨ad, c, h1, h2, h3, h4⟩ := hj j x hx
  exact ⟨ad, c, h1, h2, fun m u hu => cell_kept (h3 m u hu) hg hr, hE x c h4⟩
theorem SltV.own {W W' : World} {row : Option Nat} (hg : W.grownBy W' row) (hr : ∀ r, row = some r → ∃ o : Obj, W.heap[r]? = some o ∧ o.isCells = false) {S : Nat → Prop} {x : Slt} {c : List Value} (h : SltV W S x c) : SltV W' S x c := by
  obtain ⟨k, n, i, hm, sa, sn, sc, e, hx⟩ := h
  exact ⟨k, n, i, hm, sa, sn, sc, e, hx.own hg hr⟩
theorem SlG.dropo {α : Type} {E : El α} {w : World} {S : Nat → Prop} {xs : List α} {ta : Option Addr} {n c : Nat} (h : SlG E w S xs (.slice ta n c)) {k : Nat} (hk : k ≤ n) : SlG E w S (xs.drop k) (.slice (ta.map (fun x => x.add (k * E.k))) (n - k) (c - k)) := by
  cases ta with
  | some ad => exact h.dropk hk
  | none =>
    obtain ⟨a', c', e, ⟨h1, h2⟩, hj⟩ := h
    simp only [Value.slice.injEq] at e
    obtain ⟨rfl, rfl, rfl⟩ := e
    have h0 : xs = [] := by
      cases xs with
      | nil => rfl
      | cons x xs => obtain ⟨ad, c, e, -⟩ := hj 0 x rfl; cases e
    subst h0
    exact ⟨none, c - k, by simp, ⟨by simp, by omega⟩, fun j x hx => by simp at hx⟩
theorem SlG.dropz {α : Type} {E : El α} {w : World} {S : Nat → Prop} {xs : List α} {ta : Option Addr} {n k : Nat} (h : SlG E w S xs (.slice ta n k)) (hk : k ≤ n) : SlG E w S (xs.drop k) (.slice ta (n - k) 0) := by
  obtain ⟨a', c', e, ⟨h1, h2⟩, hj⟩ := h
  simp only [Value.slice.injEq] at e
  obtain ⟨rfl, rfl, rfl⟩ := e
  have h0 : xs.drop k = [] := List.drop_eq_nil_of_le (by omega)
  rw [h0]
  exact ⟨ta, 0, by rw [show xs.length - k = 0 from by omega]; rfl, ⟨by simp, by simp⟩, fun j x hx => by simp at hx⟩
/-- The loop's start: the struct just made. -/
theorem RbSt.start {w : World} {S : Nat → Prop} {g n mk : Nat} {ta : Option Addr} {sl : List Slt} {x : World} (hrow : RowG SltE x (w.heap.size + 2) (fun b => S b ∧ b < w.heap.size) (.slice (some ⟨g, 0, none⟩) sl.length n) sl) (hres : BoxC 27 x (w.heap.size + 1) [.slice none 0 0, .slice none 0 0]) (hl : Below w.heap.size w x) (hle : sl.length ≤ n) (hx : w.heap.size + 2 ≤ x.heap.size) :
    RbSt w S x.heap.size g n mk ta sl (x.alloc (.cells #[.slice (some ⟨g, 0, none⟩) sl.length n, .slice ta mk mk] 27)) := by
  have hal := (Below.refl _ x).alloc (Nat.le_refl _) (.cells #[.slice (some ⟨g, 0, none⟩) sl.length n, .slice ta mk mk] 27)
  have := (hrow.lt g rfl).2
  exact ⟨BoxC.made _ x _, hres.lift hal, hrow.lift hal, hl.trans (hal.mono hl.size), by omega, hx, hle⟩
theorem RbSt.start' {w : World} {S : Nat → Prop} {B g n mk : Nat} {ta : Option Addr} {sl : List Slt} {x : World} (hrow : RowG SltE x (w.heap.size + 2) (fun b => S b ∧ b < w.heap.size) (.slice (some ⟨g, 0, none⟩) sl.length n) sl) (hres : BoxC 27 x (w.heap.size + 1) [.slice none 0 0, .slice none 0 0]) (hl : Below w.heap.size w x) (hle : sl.length ≤ n) (hB : w.heap.size + 2 ≤ B) (hne : B ≠ g) (hz : BoxC 27 x B [.slice none 0 0, .slice none 0 0]) :
    RbSt w S B g n mk ta sl ((x.setCell ⟨B, 0, none⟩ (.slice (some ⟨g, 0, none⟩) sl.length n)).setCell ⟨B, 1, none⟩ (.slice ta mk mk)) := by
  obtain ⟨q1, q2⟩ := set2 hz (.slice (some ⟨g, 0, none⟩) sl.length n) (.slice ta mk mk)
  exact ⟨q1, hres.grown q2 (fun e => by have := Option.some.inj e; omega), hrow.kept q2 (.inr (fun e => hne (Option.some.inj e).symm)) (fun b hb e => by have := Option.some.inj e; omega), Below.grown hl q2 hl.size (fun r e => by cases e; omega), hne, hB, hle⟩
/-- The slots are cut. -/
theorem RbSt.cut {w : World} {S : Nat → Prop} {B g n mk : Nat} {ta : Option Addr} {sl : List Slt} {W : World} (H : RbSt w S B g n mk ta sl W) {j : Nat} (hj : j < sl.length) :
    RbSt w S B g n mk ta (sl.take j) (W.setCell ⟨B, 0, none⟩ (.slice (some ⟨g, 0, none⟩) j n)) ∧ W.grownBy (W.setCell ⟨B, 0, none⟩ (.slice (some ⟨g, 0, none⟩) j n)) (some B) := by
  obtain ⟨h1, h2, h3⟩ := H.back.set 0 (.slice (some ⟨g, 0, none⟩) j n)
  have e : (sl.take j).length = j := by rw [List.length_take]; omega
  have hgl := H.hg
  have hBl := H.hB
  refine ⟨⟨by rw [e]; exact h1, H.res.grown h2 (fun e => by have := Option.some.inj e; omega), ?_, Below.grown H.low h2 H.low.size (fun r e => by cases e; omega), H.ne, H.hB, by have := H.le; omega⟩, h2⟩
  rw [e]
  exact (H.row.takek (Nat.le_of_lt hj)).kept h2 (.inr (fun e => H.ne (Option.some.inj e).symm)) (fun b hb e => by have := Option.some.inj e; omega)
/-- A slot is put back. -/
theorem RbSt.put {w : World} {S : Nat → Prop} {B g n mk : Nat} {ta : Option Addr} {sl sl' : List Slt} {W W' : World} (H : RbSt w S B g n mk ta sl W) (hl : sl'.length = sl.length) (hrow : RowG SltE W' (w.heap.size + 2) (fun b => S b ∧ b < w.heap.size) (.slice (some ⟨g, 0, none⟩) sl.length n) sl') (hg : W.grownBy W' (some g)) : RbSt w S B g n mk ta sl' W' := by
  have hgl := H.hg
  have hBl := H.hB
  exact ⟨by rw [hl]; exact H.back.grown hg (fun e => H.ne (Option.some.inj e)), H.res.grown hg (fun e => by have := Option.some.inj e; omega), by rw [hl]; exact hrow, Below.grown H.low hg H.low.size (fun r e => by cases e; omega), H.ne, H.hB, by rw [hl]; exact H.le⟩
theorem keepsOthers_below {W W' : World} (hb : Below W.heap.size W W') : KeepsOthers W W' := ⟨hb.size, fun k _ hk _ => (hb.block k (Array.getElem?_eq_some_iff.1 hk).1).trans hk⟩
theorem copiedS_any' (xs : List Slt) (a : Option Addr) (n c : Nat) (S : Nat → Prop) (w : World) (hl : n = xs.length) (hn : n ≤ 1000000) (hs : SlG SltE w S xs (.slice a n c)) :
    Calls Try.prog 25 #[.slice a n c] w fun e w' => ∃ g, e = .returned (.slice (some ⟨g, 0, none⟩) n n) ∧ g = w.heap.size ∧ RowG SltE w' w.heap.size (fun b => S b ∧ b < w.heap.size) (.slice (some ⟨g, 0, none⟩) n n) xs ∧ Below w.heap.size w w' :=
  (copiedS_any xs a n c S w hl hn hs).mono fun _ _ ⟨h1, h2, h3⟩ => ⟨_, h1, rfl, h2, h3⟩
set_option maxRecDepth 100000 in
set_option maxHeartbeats 12000000 in
theorem rollback_any (s : Sto) (mark : Int) (v : Value) (S : Nat → Prop) (w : World) (h1 : s.slots.length ≤ 1000000) (h2 : s.trail.length ≤ 1000000) (hs : StoR w S s v) :
    Calls Try.prog 16 #[v, .int .i64 mark] w fun e w' => ∃ u, e = .returned (.tuple #[u, .bool (decide (0 ≤ mark) && decide (mark ≤ (s.trail.length : Int)))]) ∧ StoR w' (fun b => S b ∧ b < w.heap.size ∨ w.heap.size ≤ b) (if 0 ≤ mark ∧ mark ≤ (s.trail.length : Int) then stBack s mark.toNat else s) u ∧ Below w.heap.size w w' := by
  have HSto := Lib.hid hs
  obtain ⟨sa, sc, ta, tc, rfl, hsl, htr⟩ := hs
  obtain ⟨n, hn⟩ : ∃ n, n = s.slots.length := ⟨_, rfl⟩
  obtain ⟨m, hm⟩ : ∃ n, n = s.trail.length := ⟨_, rfl⟩
  rw [← hn] at h1 hsl HSto ⊢
  rw [← hm] at h2 htr HSto ⊢
  obtain ⟨R, hR⟩ : ∃ R, R = if 0 ≤ mark ∧ mark ≤ (m : Int) then stBack s mark.toNat else s := ⟨_, rfl⟩
  rw [← hR]
  obtain ⟨V, hV⟩ : ∃ V, V = (w.alloc (.cells #[.slice sa n sc, .slice ta m tc] 27)).alloc (.cells #[.slice none 0 0, .slice none 0 0] 27) := ⟨_, rfl⟩
  have hVb : Below w.heap.size w V := by rw [hV]; exact ((Below.refl _ w).alloc (Nat.le_refl _) _).alloc (by simp) _
  have hB1 : BoxC 27 V w.heap.size [.slice sa n sc, .slice ta m tc] := by unfold BoxC; rw [hV, heap_at, if_neg (by simp), heap_at, if_pos rfl]
  have hB2 : BoxC 27 V (w.heap.size + 1) [.slice none 0 0, .slice none 0 0] := by unfold BoxC; rw [hV, heap_at, if_pos (by simp)]
  have HB1 := Lib.hid hB1
  have HB2 := Lib.hid hB2
  have HVb := Lib.hid hVb
  have HVl : Hid (w.heap.size + 2 ≤ V.heap.size) := hB2.lt
  have HVe : Hid (V.heap.size = w.heap.size + 2) := by show _ = _; rw [hV]; simp
  have HS : Hid (SlG SltE V (fun b => S b ∧ b < w.heap.size) s.slots (.slice sa n sc)) := hsl.bound.up hVb
  have HT : Hid (SlG ChgE V (fun b => S b ∧ b < w.heap.size) s.trail (.slice ta m tc)) := htr.bound.up hVb
  have HN := Lib.hid hn
  have HM := Lib.hid hm
  have htc : m ≤ tc ∧ tc ≤ 9223372036854775807 := by
    obtain ⟨a, c, e, ⟨k1, k2⟩, -⟩ := htr
    simp only [Value.slice.injEq] at e
    obtain ⟨-, e1, rfl⟩ := e
    unfold maxLen at k2
    omega
  have c0 := hB1.cell 0 _ rfl
  have c1 := hB1.cell 1 _ rfl
  clear hB1 hB2 hsl htr hn hm
  by_cases hin : 0 ≤ mark ∧ mark ≤ (m : Int)
  · rw [if_pos hin] at hR
    have hbt : (decide (0 ≤ mark) && decide (mark ≤ (m : Int))) = true := by simp; omega
    rw [hbt]
    clear hbt
    obtain ⟨k, hk⟩ : ∃ k : Nat, mark = (k : Int) := ⟨mark.toNat, by omega⟩
    subst hk
    rw [Int.toNat_natCast] at hR
    have HR := Lib.hid hR
    clear hR
    have hkm : k ≤ m := by omega
    have hkmi : (k : Int) ≤ (m : Int) := by omega
    have hkt : (k : Int) ≤ (tc : Int) := by omega
    clear hin
    have HCp : Hid (∀ W, Below V.heap.size V W → Calls Try.prog 25 #[.slice sa n sc] W _) := fun W hb => copiedS_any' s.slots sa n sc _ W HN.out h1 (HS.out.up hb)
    have HCl : Hid (∀ W, Calls Try.prog 34 #[.slice ta k tc] W fun e w' => e = .returned (.slice ta k k) ∧ W = w') := fun W => (clip_any ta k tc W (by omega) (by omega)).mono fun _ _ ⟨h1, h2⟩ => ⟨h1, h2.symm⟩
    have hk1 := HB1.out.cell 0 _ rfl
    have hk2 := HB1.out.cell 1 _ rfl
    have HK : Hid (∀ W, Below V.heap.size V W → W.cell? ⟨w.heap.size, 0, none⟩ = some (.slice sa n sc) ∧ W.cell? ⟨w.heap.size, 1, none⟩ = some (.slice ta m tc)) := fun W hb => ⟨(hb.cell (World.block_lt_of_cell? _ _ hk1)).trans hk1, (hb.cell (World.block_lt_of_cell? _ _ hk2)).trans hk2⟩
    have HAl : Hid (∀ (w : World) (o : Obj), Below w.heap.size w (w.alloc o)) := fun w o => (Below.refl _ w).alloc (Nat.le_refl _) o
    have HBM : Hid (∀ w : World, BoxC 27 (w.alloc (.cells #[.slice none 0 0, .slice none 0 0] 27)) w.heap.size [.slice none 0 0, .slice none 0 0]) := fun w => BoxC.made _ w _
    have HD0 : Hid (Below V.heap.size V V.drew) := (Below.refl _ V).drew
    have HDZ : Hid (Below V.heap.size V (V.alloc (.cells #[.slice none 0 0, .slice none 0 0] 27)).drew) := ((Below.refl _ V).alloc (Nat.le_refl _) _).drew
    have HZD : Hid (BoxC 27 (V.alloc (.cells #[.slice none 0 0, .slice none 0 0] 27)).drew V.heap.size [.slice none 0 0, .slice none 0 0]) := (HBM.out V).lift (Below.refl _ _).drew
    have h1V : ¬ (w.heap.size = V.heap.size) := by have := HVl.out; omega
    clear hk1 hk2
    refine (callsIn_wide (n := 9)).1 (callsIn_of_wp_marks Try.func16 rfl trivial (wpIn_wide.2 ?_) rfl)
    simp only [Try.ntmps16, List.size_toArray, List.length_cons, List.length_nil, Nat.reduceAdd, Nat.reduceSub, Array.replicate_succ, Array.replicate_zero, List.push_toArray, List.append_toArray, List.nil_append, List.cons_append]
    go_upto_region 1 with fail
    rw [← hV]
    clear hV
    go_upto_region 3 with fail
    clear c0 c1
    try go_frame
    go_cut [6] from 9 to 28 (fun s6 wx => ∃ B g : Nat, s6 = .pointer (some ⟨B, 0, none⟩) ∧ Hid (RbSt w S B g n k ta s.slots wx ∧ Below V.heap.size V wx))
    case first =>
      go_region_held3 (fun W' => W'.cell? ⟨w.heap.size, 0, none⟩ = some (.slice sa n sc) ∧ W'.cell? ⟨w.heap.size, 1, none⟩ = some (.slice ta m tc))
        (first
          | with_reducible exact keepA (HK.out x1 HD1.out) h1V _ _
          | with_reducible exact HK.out x1 HD1.out
          | with_reducible exact HK.out V.drew HD0.out
          | with_reducible exact HK.out _ HDZ.out
          | with_reducible exact HK.out (x1.alloc _) (HD1.out.alloc HD1.out.size _))
        (first
          | (go_at_call 25; (with_reducible refine (HCp.out _ HD0.out).mono ?_); rintro e x1 ⟨g, rfl, hg1, hr1, hb⟩; have HD1 := Lib.hid (RowKit.Below.trans HD0.out (RowKit.Below.mono hb (RowKit.Below.size HD0.out))); have HR1 := Lib.hid hr1; have HG1 := Lib.hid hg1; clear hr1 hb hg1)
          | (go_at_call 25; (with_reducible refine (HCp.out _ HDZ.out).mono ?_); rintro e x1 ⟨g, rfl, hg1, hr1, hb⟩; have HD1 := Lib.hid (RowKit.Below.trans HDZ.out (RowKit.Below.mono hb (RowKit.Below.size HDZ.out))); have HR1 := Lib.hid hr1; have HG1 := Lib.hid hg1; have HZ1 := Lib.hid (BoxC.lift HZD.out hb); have y0 := BoxC.cell HZ1.out 0 _ rfl; have y1 := BoxC.cell HZ1.out 1 _ rfl; have z0 := BoxC.free HZ1.out 0; have z1 := BoxC.free HZ1.out 1; clear hr1 hb hg1)
          | (go_at_call 34; (with_reducible refine (HCl.out _).mono ?_); rintro e x2 ⟨rfl, rfl⟩))
      all_goals
        have hgl := (HR1.out.lt g rfl).2
        have hgV : V.heap.size ≤ g := by first | exact Nat.le_trans HD0.out.size (HR1.out.lt g rfl).1 | exact Nat.le_trans HDZ.out.size (HR1.out.lt g rfl).1
        have hrw : RowG SltE x1 (w.heap.size + 2) (fun b => S b ∧ b < w.heap.size) (.slice (some ⟨g, 0, none⟩) s.slots.length n) s.slots := by
          rw [← HN.out]
          first
            | exact (HR1.out.weaken (fun b hb _ _ => hb.1)).base (Nat.le_trans HVl.out HD0.out.size)
            | exact (HR1.out.weaken (fun b hb _ _ => hb.1)).base (Nat.le_trans HVl.out HDZ.out.size)
        have hw1 : Below w.heap.size w x1 := HVb.out.trans (HD1.out.mono HVb.out.size)
        have hr1 := HB2.out.lift HD1.out
        have hVs := HVl.out
        have hD1s := HD1.out.size
        go_wp2_with fail
        go_meet
        first
          | exact ⟨x1.heap.size, g, rfl, by
              show _ ∧ _
              have h := RbSt.start (mk := k) (ta := ta) hrw hr1 hw1 (by rw [← HN.out]; exact Nat.le_refl _) (by omega)
              rw [← HN.out] at h
              exact ⟨h, HD1.out.trans (((Below.refl _ x1).alloc (Nat.le_refl _) _).mono hD1s)⟩⟩
          | exact ⟨V.heap.size, g, rfl, by
              show _ ∧ _
              have hne : V.heap.size ≠ g := by have := (HR1.out.lt g rfl).1; simp at this; omega
              have h := RbSt.start' (mk := k) (ta := ta) hrw hr1 hw1 (by rw [← HN.out]; exact Nat.le_refl _) hVs hne HZ1.out
              rw [← HN.out] at h
              obtain ⟨q1, q2⟩ := set2 HZ1.out (.slice (some ⟨g, 0, none⟩) n n) (.slice ta k k)
              exact ⟨h, Below.grown HD1.out q2 hD1s (fun r e => by cases e; exact Nat.le_refl _)⟩⟩
    case rest =>
      obtain ⟨B, g, rfl, hI⟩ := hcut
      have HI := Lib.hid hI
      clear hI
      have HBw := Lib.hid (fun a m c W => bc_any a m c W)
      have e0 := (HB1.out.lift HI.out.2).cell 0 _ rfl
      have e1 := (HB1.out.lift HI.out.2).cell 1 _ rfl
      have hmk : (m : Int) - (k : Int) = ((m - k : Nat) : Int) := by omega
      have htcD : ∀ e : tc = k, Hid (SlG ChgE V (fun b => S b ∧ b < w.heap.size) (s.trail.drop k) (.slice ta (m - k) 0)) := fun e => SlG.dropz (e ▸ HT.out) hkm
      have HTo : Hid (SlG ChgE V (fun b => S b ∧ b < w.heap.size) (s.trail.drop k) (.slice (ta.map (fun x => x.add (k * 10))) (m - k) (tc - k))) := HT.out.dropo hkm
      have HTz := Lib.hid htcD
      clear htcD
      go_upto_region 4 with fail
      go_cut [32] from 28 to 33 (fun s32 wx => ∃ (fa : Option Addr) (fc : Nat), s32 = .func (.func 48) #[] #[.pointer (some ⟨wc.heap.size, 0, none⟩)] ∧ Hid (SlG ChgE V (fun b => S b ∧ b < w.heap.size) (s.trail.drop k) (.slice fa (m - k) fc)) ∧ wx = wc.alloc (.cells #[.slice fa (m - k) fc] 25))
      case first =>
        by_cases hck : tc = k
        · subst hck
          go_wp2_with fail
          go_at_call 35
          refine (HBw.out _ _ _ wc).mono ?_
          rintro e w4 ⟨rfl, rfl⟩
          go_wp2_with fail
          go_meet
          exact ⟨_, _, rfl, HTz.out (by trivial), by first | rfl | rw [show m - tc = 0 from by omega]⟩
        · go_wp2_with fail
          go_at_call 35
          refine (HBw.out _ _ _ wc).mono ?_
          rintro e w4 ⟨rfl, rfl⟩
          go_wp2_with fail
          go_meet
          exact ⟨_, _, rfl, HTo, rfl⟩
      case rest =>
        obtain ⟨fa, fc, rfl, HF, rfl⟩ := hcut
        have HI2 := HI.out.2
        have hw3s := HI2.size
        have hVs := HVl.out
        have HTk : Hid (SlG ChgE V (fun b => S b ∧ b < w.heap.size) (s.trail.take k) (.slice ta k k)) := HT.out.head hkm (Nat.le_refl _) (by omega)
        clear e0 e1 HBw HT HTo HTz HCp HCl HK HBM HD0 HDZ HZD
        go_upto_region 99 with fail
        refine (?_ : ∀ A : Act, A = _ → Code.wp _ _ _ A _) _ rfl
        intro A hA
        have hn4 : Below wc.heap.size wc (wc.alloc (.cells #[.slice fa (m - k) fc] 25)) := (Below.refl _ wc).alloc (Nat.le_refl _) _
        have HBs : BoxC 25 (wc.alloc (.cells #[.slice fa (m - k) fc] 25)) wc.heap.size [.slice fa (m - k) fc] := BoxC.made _ wc _
        have h4s : (wc.alloc (.cells #[.slice fa (m - k) fc] 25)).heap.size = wc.heap.size + 1 := by simp
        have hI0 : RbSt w S B g n k ta s.slots (wc.alloc (.cells #[.slice fa (m - k) fc] 25)) := HI.out.1.lift hn4
        have hV4 : Below V.heap.size V (wc.alloc (.cells #[.slice fa (m - k) fc] 25)) := HI2.trans (hn4.mono hw3s)
        have hfl : m - k = (s.trail.drop k).length := by rw [List.length_drop, ← HM.out]
        have hBl := HI.out.1.back.lt
        have hgl := HI.out.1.hg
        refine (wpIn_wide (n := 9)).1 ?_
        refine wpIn_rangeFunc_ownH (F := Fence.wide) (α := Fc V (fun b => S b ∧ b < w.heap.size) (s.trail.drop k)) rfl (by omega) (gf := 48) (lb := #[.pointer (some ⟨wc.heap.size, 0, none⟩)]) (by rw [hA]; rfl) trivial (enters_of Try.func48 (by kernel_rfl) rfl)
          (bc_stops 8 wc.heap.size (by omega) V _ _ (s.trail.drop k) fa (m - k) fc hfl (by omega) HF.out hV4 HBs) (fun h k => ⟨h.1.trans k.1, k.2.trans h.2⟩) (fun W l o o' hl h h1 h2 => ⟨belowK_b (w := wc) (Nat.le_trans (Nat.le_refl _) hw3s) W l o o' (by omega) h h1 h2, World.putObj_heap_other (by omega)⟩) (Below.refl _ _) (fun _ => rfl)
          (fun pre W => RbSt w S B g n k ta (bkS (s.trail.drop k) (pre.map fun x => x.1.1) s.slots) W ∧ Below V.heap.size V W ∧ BoxC 25 W wc.heap.size [.slice fa (m - k) fc]) (fun _ _ _ => False)
          (fun s W W' row hs hg hr => ⟨hs.1.grow hg (fun r e => by have := (hr r e).1; omega), Below.grown hs.2.1 hg hs.2.1.size (fun r e => by have := (hr r e).1; omega), hs.2.2.own hg (fun r e => (hr r e).2)⟩) (fun _ _ _ _ _ hs _ _ => hs) ⟨hI0, hV4, HBs⟩
          (fun x a' W => ∃ (Bx : Nat) (y : Chg) (xk : Int) (xn : ByteArray) (xi xh : Int) (xa : Option Addr) (xm xc : Nat), wc.heap.size < Bx ∧ (s.trail.drop k)[x.1.1]? = some y ∧ Rep V (fun b => S b ∧ b < w.heap.size) y.old.ty (.agg #[.int .i64 xk, .string xn, .int .i64 xi, .int .i64 xh, .slice xa xm xc]) ∧ BoxC 55 W Bx [.int .i64 y.id, .bool y.old.bound, .int .i64 xk, .string xn, .int .i64 xi, .int .i64 xh, .slice xa xm xc, .int .i64 y.old.home, .bool y.old.base, .bool y.new] ∧ a' = { tmps := ((A.tmps.setIfInBounds 33 (.int .i64 (x.1.1 : Int))).setIfInBounds 34 x.1.2).setIfInBounds 8 (.pointer (some ⟨Bx, 0, none⟩)), defers := [] })
          (fun x a' s W W' row hs hg hr => by obtain ⟨Bx, y, xk, xn, xi, xh, xa, xm, xc, h1, h2, h3, h4, h5⟩ := hs; exact ⟨Bx, y, xk, xn, xi, xh, xa, xm, xc, h1, h2, h3, h4.own hg (fun r e => (hr r e).2), h5⟩) ?assign ?body ?done ?stop
        case stop => rintro Dm c' pre W _ _ h _; exact h.elim
        case assign =>
          rintro l pre ⟨⟨j, v⟩, y, xk, xn, xi, xh, xa, xm, xc, hy, hv, hrv⟩ W K ⟨hI, hVW, hBs⟩ hK
          dsimp only at hv
          subst hv
          subst hA
          unfold Fc.enc
          gi_wp2
          have hal : ∀ o, Below W.heap.size W (W.alloc o) := fun o => (Below.refl _ W).alloc (Nat.le_refl _) o
          have hls := hVW.size
          exact hK _ _ ((KeepsOthers.alloc _ _).from _) ⟨(hal _).mono hls, (hal _).block _ hBs.lt⟩ ⟨hI.lift (hal _), hVW.trans ((hal _).mono hls), hBs.lift (hal _)⟩ ⟨W.heap.size, y, xk, xn, xi, xh, xa, xm, xc, hBs.lt, hy, hrv, BoxC.made _ _ _, rfl⟩
        case body =>
          rintro l pre ⟨⟨j, v⟩, hex⟩ a' W hl ⟨rr, hrr⟩ ⟨hI, hVW, hBs⟩ ⟨Bx, y, xk, xn, xi, xh, xa, xm, xc, hBx, hy, hrv, hbx, rfl⟩ hltp
          subst hA
          dsimp only at hy
          have HEq : Hid (bkS (s.trail.drop k) ((pre ++ [(⟨(j, v), hex⟩ : Fc V (fun b => S b ∧ b < w.heap.size) (s.trail.drop k))]).map fun x => x.1.1) s.slots = undo (bkS (s.trail.drop k) (pre.map fun x => x.1.1) s.slots) y) := by
            show _ = _
            rw [List.map_append]
            exact bkS_snoc _ _ _ _ hy
          obtain ⟨sl, hsl⟩ : ∃ sl, sl = bkS (s.trail.drop k) (pre.map fun x => x.1.1) s.slots := ⟨_, rfl⟩
          rw [← hsl] at hI HEq
          clear hsl hy hltp
          obtain ⟨ln, hln⟩ : ∃ n, n = sl.length := ⟨_, rfl⟩
          have HHs := Lib.hid (hasSlot_any (some ⟨g, 0, none⟩) sl.length n ta k k y.id W)
          have hle := hI.le
          have hgl2 := hI.hg
          have HI3 := Lib.hid hI
          have HVW := Lib.hid hVW
          have HBs := Lib.hid hBs
          have HBx := Lib.hid hbx
          have hVWs := hVW.size
          have b0 := hI.back.cell 0 _ rfl
          have b1 := hI.back.cell 1 _ rfl
          have x0 := hbx.cell 0 _ rfl
          have HEnd : Hid (∀ w1 w2 : World, RowKit.Below W.heap.size W w1 → ∀ q : Nat, V.heap.size ≤ q → q < wc.heap.size → (∃ c t, w1.heap[q]? = some (.cells c t (0, 0))) → w1.grownBy w2 (some q) → KeepsOthers W w2 ∧ KpB V.heap.size wc.heap.size W w2) := by
            intro w1 w2 hb q hq1 hq2 hqc hg
            obtain ⟨c, t, hqc⟩ := hqc
            have hbs := hb.size
            refine ⟨(keepsOthers_below hb).trans (KeepsOthers.of_grownBy hg (fun r o e ho => by
              have e' := Option.some.inj e
              subst e'
              rw [hqc] at ho
              cases ho
              rfl)), Below.grown (hb.mono hVWs) hg (Nat.le_trans hVWs hbs) (fun r e => by have := Option.some.inj e; omega), (hg.block _ (Nat.lt_of_lt_of_le hBs.lt hbs) (by intro e; have := Option.some.inj e; omega)).trans (hb.block _ hBs.lt)⟩
          clear hI hVW hBs hbx
          rw [← hln] at HHs hle b0
          have HLn := Lib.hid hln
          clear hln
          simp only [List.setIfInBounds_toArray, List.set_cons_succ, List.set_cons_zero]
          by_cases hin : 0 ≤ y.id ∧ y.id < (ln : Int)
          · have hbt : (decide (0 ≤ y.id) && decide (y.id < (ln : Int))) = true := by simp; omega
            rw [hbt] at HHs
            clear hbt
            obtain ⟨q, hq⟩ : ∃ q : Nat, y.id = (q : Int) := ⟨y.id.toNat, by omega⟩
            have hqt : y.id.toNat = q := by omega
            have hqn : q < ln := by omega
            have hqni : (q : Int) < (ln : Int) := by omega
            have hqnn : (q : Int) ≤ (n : Int) := by omega
            have hqni2 : (q : Int) < (n : Int) := by omega
            have HU : Hid (undo sl y = if y.new then sl.take q else sl.set q y.old) := by show _ = _; unfold undo; rw [if_pos (by rw [← HLn.out]; exact hin), hqt]
            have hql : q < sl.length := by rw [← HLn.out]; exact hqn
            rw [hq] at x0 HHs HBx
            clear hin hqt hq
            cases hnw : y.new with
            | true =>
              rw [hnw] at HU HBx
              clear hnw
              gi_wp2_with ((try refine ⟨trivial, ?_⟩); gi_at_call 24; refine (CallsIn.inRound l (callsIn_wide.2 HHs.out)).mono ?_; rintro e w1 ⟨rfl, hb1⟩; have x9 := (HBx.out.lift hb1).cell 9 _ rfl; have x0 := (HBx.out.lift hb1).cell 0 _ rfl; have b0 := (HI3.out.lift hb1).back.cell 0 _ rfl; rw [← HLn.out] at b0; have f0 := (HI3.out.lift hb1).back.free 0)
              obtain ⟨r1, r2⟩ := (HI3.out.lift hb1).cut hql
              have hve := HVe.out
              have hBl2 := hBl
              obtain ⟨k1, k2⟩ := HEnd.out w1 _ hb1 B (by rw [hve]; exact HI3.out.hB) hBl2 ⟨_, _, (HI3.out.lift hb1).back⟩ r2
              refine ⟨k1.from _, k2, ?_, HVW.out.trans k2.1, HBs.out.kept k2.2⟩
              show RbSt w S B g n k ta (bkS _ _ _) _
              rw [HEq.out, HU.out, if_pos trivial]
              exact r1
            | false =>
              rw [hnw] at HU HBx
              clear hnw
              gi_wp2_with ((try refine ⟨trivial, ?_⟩); gi_at_call 24; refine (CallsIn.inRound l (callsIn_wide.2 HHs.out)).mono ?_; rintro e w1 ⟨rfl, hb1⟩; have x9 := (HBx.out.lift hb1).cell 9 _ rfl; have x0 := (HBx.out.lift hb1).cell 0 _ rfl; have x1 := (HBx.out.lift hb1).cell 1 _ rfl; have x2 := (HBx.out.lift hb1).cell 2 _ rfl; have x3 := (HBx.out.lift hb1).cell 3 _ rfl; have x4 := (HBx.out.lift hb1).cell 4 _ rfl; have x5 := (HBx.out.lift hb1).cell 5 _ rfl; have x6 := (HBx.out.lift hb1).cell 6 _ rfl; have x7 := (HBx.out.lift hb1).cell 7 _ rfl; have x8 := (HBx.out.lift hb1).cell 8 _ rfl; have b0 := (HI3.out.lift hb1).back.cell 0 _ rfl; rw [← HLn.out] at b0; obtain ⟨v0, v1, v2, v3, v4, v5, v6, v7, ⟨p0, p1, p2, p3, p4, p5, p6, p7⟩, hf⟩ := (HI3.out.lift hb1).row.atsS hql; have f0 := hf (q * 8); have f1 := hf (q * 8 + 1); have f2 := hf (q * 8 + 2); have f3 := hf (q * 8 + 3); have f4 := hf (q * 8 + 4); have f5 := hf (q * 8 + 5); have f6 := hf (q * 8 + 6); have f7 := hf (q * 8 + 7); clear hf)
              have hrx : SltE.rep w1 (fun b => (S b ∧ b < w.heap.size) ∧ b ≠ g) y.old [.bool y.old.bound, .int .i64 xk, .string xn, .int .i64 xi, .int .i64 xh, .slice xa xm xc, .int .i64 y.old.home, .bool y.old.base] := ⟨xk, xn, xi, xh, xa, xm, xc, rfl, (hrv.lift (HVW.out.trans (hb1.mono hVWs))).imp fun b hb => ⟨hb, by omega⟩⟩
              obtain ⟨r3, r2⟩ := (HI3.out.lift hb1).row.putS hql hrx
              clear p0 p1 p2 p3 p4 p5 p6 p7 f0 f1 f2 f3 f4 f5 f6 f7
              have r1 := (HI3.out.lift hb1).put (by rw [List.length_set]) r3 r2
              have hve := HVe.out
              obtain ⟨cg, tg, hcg⟩ : ∃ c t, w1.heap[g]? = some (.cells c t (0, 0)) := by
                obtain ⟨L, ⟨_, ⟨e, -⟩ | ⟨g', cap, cur, e, -, hcur, -⟩⟩, -⟩ := (HI3.out.lift hb1).row
                · cases e
                · cases e; exact ⟨_, _, hcur⟩
              obtain ⟨k1, k2⟩ := HEnd.out w1 _ hb1 g (by rw [hve]; exact hgl.1) hgl.2 ⟨cg, tg, hcg⟩ r2
              refine ⟨k1.from _, k2, ?_, HVW.out.trans k2.1, HBs.out.kept k2.2⟩
              show RbSt w S B g n k ta (bkS _ _ _) _
              rw [HEq.out, HU.out, if_neg (by simp)]
              exact r1
          · have hbt : (decide (0 ≤ y.id) && decide (y.id < (ln : Int))) = false := by
              by_cases h0 : 0 ≤ y.id <;> simp [h0]
              omega
            have HU : Hid (undo sl y = sl) := by show _ = _; unfold undo; rw [if_neg (by rw [← HLn.out]; exact hin)]
            rw [hbt] at HHs
            clear hbt hin
            gi_wp2_with ((try refine ⟨trivial, ?_⟩); gi_at_call 24; refine (CallsIn.inRound l (callsIn_wide.2 HHs.out)).mono ?_; rintro e w1 ⟨rfl, hb1⟩)
            refine ⟨(keepsOthers_below hb1).from _, ⟨hb1.mono hVWs, hb1.block _ HBs.out.lt⟩, ?_, HVW.out.trans (hb1.mono hVWs), HBs.out.lift hb1⟩
            show RbSt w S B g n k ta (bkS _ _ _) _
            rw [HEq.out, HU.out]
            exact HI3.out.lift hb1
        case done =>
          rintro Dm xs W hDm hSx ⟨hI, hVW, hBs⟩ hK
          subst hA
          have hT : bkS (s.trail.drop k) (xs.map fun x => x.1.1) s.slots = (stBack s k).slots := by
            rw [hSx]
            unfold stBack
            rw [← HM.out]
          rw [hT] at hI
          have b0 := hI.back.cell 0 _ rfl
          have b1 := hI.back.cell 1 _ rfl
          have y0 := hI.res.cell 0 _ rfl
          have y1 := hI.res.cell 1 _ rfl
          have z0 := hI.res.free 0
          have z1 := hI.res.free 1
          have HI3 := Lib.hid hI
          have HTr : Hid (SlG ChgE W (fun b => S b ∧ b < w.heap.size) (s.trail.take k) (.slice ta k k)) := HTk.out.up hVW
          obtain ⟨L, hL⟩ : ∃ L, L = (stBack s k).slots := ⟨_, rfl⟩
          rw [← hL] at hI b0 HI3
          have HLL := Lib.hid hL
          clear hI hL hT
          generalize hln : L.length = ln at *
          go_wp2
          obtain ⟨q1, q2⟩ := set2 HI3.out.res (.slice (some ⟨g, 0, none⟩) ln n) (.slice ta k k)
          generalize ((W.setCell ⟨w.heap.size + 1, 0, none⟩ (.slice (some ⟨g, 0, none⟩) ln n)).setCell ⟨w.heap.size + 1, 1, none⟩ (.slice ta k k)) = x6 at *
          have hDl := (Array.getElem?_eq_some_iff.1 hK).1
          have hve := HVe.out
          have hK6 : x6.heap[Dm]? = some (.deferred (some [])) := (q2.block Dm hDl (by intro e; have := Option.some.inj e; omega)).trans hK
          have g7 := grownBy_putObj' x6 Dm (.deferred none)
          have hr7 : ∀ r, some Dm = some r → ∃ o : Obj, x6.heap[r]? = some o ∧ o.isCells = false := fun r e => by cases e; exact ⟨_, hK6, rfl⟩
          have hB7 := q1.own g7 hr7
          have c0 := hB7.cell 0 _ rfl
          have c1 := hB7.cell 1 _ rfl
          have hl6 : Below w.heap.size w x6 := Below.grown HI3.out.low q2 HI3.out.low.size (fun r e => by cases e; omega)
          refine ⟨by simp, .inl ⟨_, _, rfl, run_takeDeferred hK6, ?_⟩⟩
          refine ⟨.tuple #[.agg #[.slice (some ⟨g, 0, none⟩) ln n, .slice ta k k], .bool true], by simp [results, Try.results16, go_sem, c0, c1]; try rfl, ?_⟩
          have hl7 := Below.grown hl6 g7 hl6.size (fun r e => by cases e; omega)
          refine ⟨_, rfl, ?_, hl7⟩
          have hgb := HI3.out.hg
          have hBb := HI3.out.hB
          have es : R.slots = L := by rw [HR.out, HLL.out]
          have et : R.trail = s.trail.take k := by rw [HR.out]; rfl
          have hkl : (s.trail.take k).length = k := by rw [List.length_take, ← HM.out]; omega
          refine ⟨some ⟨g, 0, none⟩, n, ta, k, ?_, ?_, ?_⟩
          · rw [es, et, hln, hkl]
          · rw [es, hln]
            have h0 := HI3.out.row.slG (S' := fun b => (S b ∧ b < w.heap.size ∨ w.heap.size ≤ b) ∧ b ≠ w.heap.size + 1) (fun b hb => ⟨.inl hb, by have := hb.2; omega⟩) (fun b hb => ⟨.inr (by omega), by omega⟩)
            have h1 := h0.kept (S' := fun b => (S b ∧ b < w.heap.size ∨ w.heap.size ≤ b) ∧ b ≠ w.heap.size + 1) (fun _ h => h) (fun b hb hl => q2.block b hl (fun e => hb.2 (Option.some.inj e)))
            rw [hln] at h1
            exact SlG.kept (S' := fun b => S b ∧ b < w.heap.size ∨ w.heap.size ≤ b) (fun _ h => h.1) (fun _ _ _ => rfl) (SlG.own g7 hr7 (fun x c hx => SltV.own g7 hr7 hx) h1)
          · rw [et, hkl]
            have h1 : SlG ChgE x6 (fun b => S b ∧ b < w.heap.size) (s.trail.take k) (.slice ta k k) := HTr.out.kept (fun _ h => h) (fun b hb hl => q2.block b hl (by intro e; have := Option.some.inj e; omega))
            exact SlG.kept (S' := fun b => S b ∧ b < w.heap.size ∨ w.heap.size ≤ b) (fun _ h => .inl h) (fun _ _ _ => rfl) (SlG.own g7 hr7 (fun x c hx => by obtain ⟨d, e, hd⟩ := hx; exact ⟨d, e, SltV.own g7 hr7 hd⟩) h1)
  · rw [if_neg hin] at hR
    have HR := Lib.hid hR
    clear hR
    have hbt : (decide (0 ≤ mark) && decide (mark ≤ (m : Int))) = false := by
      by_cases h0 : 0 ≤ mark <;> simp [h0]
      omega
    rw [hbt]
    clear hbt
    have hz0 := HB2.out.cell 0 _ rfl
    have hz1 := HB2.out.cell 1 _ rfl
    have hz2 := HB2.out.free 0
    have hz3 := HB2.out.free 1
    have hor : mark < 0 ∨ (0 ≤ mark ∧ (m : Int) < mark) := by omega
    clear hin
    rcases hor with hl | ⟨hl1, hl2⟩
    all_goals
      go_enter Try.func16, Try.ntmps16
      go_upto_region 1 with fail
      rw [← hV]
      clear hV
      go_wp2
      obtain ⟨q1, q2⟩ := set2 HB2.out (.slice sa n sc) (.slice ta m tc)
      generalize ((V.setCell ⟨w.heap.size + 1, 0, none⟩ (.slice sa n sc)).setCell ⟨w.heap.size + 1, 1, none⟩ (.slice ta m tc)) = x4 at *
      have d0 := q1.cell 0 _ rfl
      have d1 := q1.cell 1 _ rfl
      refine bodyPost_ret (v := .tuple #[.agg #[.slice sa n sc, .slice ta m tc], .bool false]) (by simp [results, Try.results16, go_sem, d0, d1]; try rfl) rfl ?_
      have hb4 := Below.grown hVb q2 hVb.size (fun k hk => by cases hk; omega)
      refine ⟨_, rfl, ?_, hb4⟩
      rw [HR.out]
      exact StoR.kept (fun b hb => .inl hb) (fun b hb hl => hb4.block b hl) HSto.out.bound
end Go.Proofs.Ytejlhfjhpminjaa
