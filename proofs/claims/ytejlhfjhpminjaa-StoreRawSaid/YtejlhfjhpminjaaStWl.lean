/- Stores: the package's Walk. -/
import Derived.Test.YtejlhfjhpminjaaStWk
namespace Go.Proofs.Ytejlhfjhpminjaa
open Go.RowKit Go.Sort Go.Shelf Go.Maps Mth

/-- What a round of Walk holds. -/
structure WkSt (w : World) (sl : List Slt) (N : Nat) (S : Nat → Prop) (sv tv : Value) (R : Ty) (j : Nat) (T : Ty) (k : Int) (nm : ByteArray) (i h : Int) (a : Option Addr) (m c : Nat) (wr : World) : Prop where
  store : BoxC 27 wr w.heap.size [sv, tv]
  box : Box wr (w.heap.size + 1) (.int .i64 k) (.string nm) (.int .i64 i) (.int .i64 h) (.slice a m c)
  zero : Zero wr (w.heap.size + 2)
  rep : Rep wr (fun b => S b ∧ b < w.heap.size) T (.agg #[.int .i64 k, .string nm, .int .i64 i, .int .i64 h, .slice a m c])
  slots : SlG SltE wr (fun b => S b ∧ b < w.heap.size) sl sv
  low : Below w.heap.size w wr
  eq : walkF sl (N - j) T = R
theorem WkSt.lift {w : World} {sl : List Slt} {N : Nat} {S : Nat → Prop} {sv tv : Value} {R : Ty} {j : Nat} {T : Ty} {k : Int} {nm : ByteArray} {i h : Int} {a : Option Addr} {m c : Nat} {wr wr' : World} (H : WkSt w sl N S sv tv R j T k nm i h a m c wr) (hb : Below wr.heap.size wr wr') : WkSt w sl N S sv tv R j T k nm i h a m c wr' :=
  ⟨H.store.lift hb, Box.lift H.box hb, Box.lift H.zero hb, H.rep.lift hb, H.slots.up hb, H.low.trans (hb.mono H.low.size), H.eq⟩
theorem WkSt.grow {w : World} {sl : List Slt} {N : Nat} {S : Nat → Prop} {sv tv : Value} {R : Ty} {j : Nat} {T : Ty} {k : Int} {nm : ByteArray} {i h : Int} {a : Option Addr} {m c : Nat} {wr w' : World} {B : Nat} (H : WkSt w sl N S sv tv R j T k nm i h a m c wr) (hg : wr.grownBy w' (some B)) (hB : w.heap.size + 2 < B) : WkSt w sl N S sv tv R j T k nm i h a m c w' := by
  have hk : ∀ b, b < w.heap.size → b < wr.heap.size → w'.heap[b]? = wr.heap[b]? := fun b hb hl => hg.block b hl (by intro e; have := Option.some.inj e; omega)
  exact ⟨H.store.grown hg (by intro e; have := Option.some.inj e; omega), H.box.kept (hg.block _ H.box.lt (by intro e; have := Option.some.inj e; omega)), H.zero.kept (hg.block _ H.zero.lt (by intro e; have := Option.some.inj e; omega)), H.rep.kept (fun _ h => h) (fun b hb hl => hk b hb.2 hl), H.slots.kept (fun _ h => h) (fun b hb hl => hk b hb.2 hl), Below.grown H.low hg H.low.size (fun q hq => by cases hq; omega), H.eq⟩
/-- What is stored at the end. -/
theorem WkSt.done {w : World} {sl : List Slt} {N : Nat} {S : Nat → Prop} {sv tv : Value} {R : Ty} {j : Nat} {T : Ty} {k : Int} {nm : ByteArray} {i h : Int} {a : Option Addr} {m c : Nat} {wr w' : World} (H : WkSt w sl N S sv tv R j T k nm i h a m c wr) (hg : wr.grownBy w' (some (w.heap.size + 2))) (hR : R = T) : Rep w' (fun b => S b ∧ b < w.heap.size) R (.agg #[.int .i64 k, .string nm, .int .i64 i, .int .i64 h, .slice a m c]) ∧ Below w.heap.size w w' := by
  rw [hR]
  exact ⟨H.rep.kept (fun _ h => h) (fun b hb hl => hg.block b hl (by intro e; have := Option.some.inj e; have := hb.2; omega)), Below.grown H.low hg H.low.size (fun q hq => by cases hq; omega)⟩
/-- A new type is stored into the box. -/
theorem WkSt.next {w : World} {sl : List Slt} {N : Nat} {S : Nat → Prop} {sv tv : Value} {R : Ty} {j : Nat} {T T' : Ty} {k : Int} {nm : ByteArray} {i h : Int} {a : Option Addr} {m c : Nat} {wr w' : World} {k' : Int} {nm' : ByteArray} {i' h' : Int} {a' : Option Addr} {m' c' : Nat} (H : WkSt w sl N S sv tv R j T k nm i h a m c wr) (hj : j < N) (hst : stand sl T = some T')
    (hr : Rep wr (fun b => S b ∧ b < w.heap.size) T' (.agg #[.int .i64 k', .string nm', .int .i64 i', .int .i64 h', .slice a' m' c'])) (hB : Box w' (w.heap.size + 1) (.int .i64 k') (.string nm') (.int .i64 i') (.int .i64 h') (.slice a' m' c')) (hg : wr.grownBy w' (some (w.heap.size + 1))) : WkSt w sl N S sv tv R (j + 1) T' k' nm' i' h' a' m' c' w' := by
  have hk : ∀ b, b < w.heap.size → b < wr.heap.size → w'.heap[b]? = wr.heap[b]? := fun b hb hl => hg.block b hl (by intro e; have := Option.some.inj e; omega)
  refine ⟨H.store.grown hg (by intro e; have := Option.some.inj e; omega), hB, H.zero.kept (hg.block _ H.zero.lt (by intro e; have := Option.some.inj e; omega)), hr.kept (fun _ h => h) (fun b hb hl => hk b hb.2 hl), H.slots.kept (fun _ h => h) (fun b hb hl => hk b hb.2 hl), Below.grown H.low hg H.low.size (fun q hq => by cases hq; omega), ?_⟩
  have := H.eq
  rw [show N - j = (N - (j + 1)) + 1 from by omega, walkF_some hst] at this
  exact this
set_option maxRecDepth 100000 in
set_option maxHeartbeats 6400000 in
theorem walk_any (sl : List Slt) (T : Ty) (sa : Option Addr) (n sc : Nat) (ta : Option Addr) (tn tc : Nat) (v : Value) (S : Nat → Prop) (w : World) (hn : n = sl.length) (hm : n ≤ 1000000) (hs : SlG SltE w S sl (.slice sa n sc)) (hv : Rep w S T v) :
    Calls Try.prog 38 #[.agg #[.slice sa n sc, .slice ta tn tc], v] w fun e w' => (∃ u, e = .returned u ∧ Rep w' (fun b => S b ∧ b < w.heap.size) (walkF sl n T) u) ∧ Below w.heap.size w w' := by
  obtain ⟨nm, xa, xn, xc, rfl, -, -⟩ := hv.frm
  generalize T.k = k at *
  generalize T.i = i at *
  generalize T.h = hh at *
  obtain ⟨V, hV⟩ : ∃ V, V = ((w.alloc (.cells #[.slice sa n sc, .slice ta tn tc] 27)).alloc (.cells #[.int .i64 k, .string nm, .int .i64 i, .int .i64 hh, .slice xa xn xc] 31)).alloc (.cells #[.int .i64 0, .string ⟨#[]⟩, .int .i64 0, .int .i64 0, .slice none 0 0] 31) := ⟨_, rfl⟩
  have hVb : Below w.heap.size w V := by rw [hV]; exact (((Below.refl _ w).alloc (Nat.le_refl _) _).alloc (by simp) _).alloc (by simp; omega) _
  have hB1 : BoxC 27 V w.heap.size [.slice sa n sc, .slice ta tn tc] := by unfold BoxC; rw [hV, heap_at, if_neg (by simp; omega), heap_at, if_neg (by simp), heap_at, if_pos rfl]
  have hB2 : Box V (w.heap.size + 1) (.int .i64 k) (.string nm) (.int .i64 i) (.int .i64 hh) (.slice xa xn xc) := by unfold Box; rw [hV, heap_at, if_neg (by simp), heap_at, if_pos (by simp)]
  have hB3 : Zero V (w.heap.size + 2) := by unfold Zero Box; rw [hV, heap_at, if_pos (by simp)]
  have H0 : Hid (WkSt w sl n S (.slice sa n sc) (.slice ta tn tc) (walkF sl n T) 0 T k nm i hh xa xn xc V) := ⟨hB1, hB2, hB3, hv.bound.lift hVb, hs.bound.up hVb, hVb, rfl⟩
  have HN := Lib.hid hn
  have HBM : Hid (∀ w : World, Zero (w.alloc (.cells #[.int .i64 0, .string ⟨#[]⟩, .int .i64 0, .int .i64 0, .slice none 0 0] 31)) w.heap.size) := fun w => Box.made _ _ _ _ _ _
  have c0 := hB1.cell 0 _ rfl
  clear hB1 hB2 hB3 hv hs hVb hn
  generalize walkF sl n T = R at *
  go_enter Try.func38, Try.ntmps38
  go_upto_region 1 with fail
  rw [← hV]
  clear hV
  go_wp2
  clear c0
  go_loopw [10] (fun x wr => ∃ (j : Nat) (T' : Ty) (k' : Int) (nm' : ByteArray) (i' h' : Int) (a' : Option Addr) (m' c' : Nat), j ≤ n ∧ x = .int .i64 j ∧ Hid (WkSt w sl n S (.slice sa n sc) (.slice ta tn tc) R j T' k' nm' i' h' a' m' c' wr)) (fun x _ => n - (intOf x).toNat)
  case atStart => exact ⟨0, T, k, nm, i, hh, xa, xn, xc, Nat.zero_le _, rfl, H0⟩
  case round =>
    clear H0
    obtain ⟨j, T', k', nm', i', h', a', m', c', hj, rfl, HW⟩ := hrel
    obtain ⟨d0, d1, d2, d3, d4⟩ := HW.out.box.cells
    have e0 := HW.out.store.cell 0 _ rfl
    have e1 := HW.out.store.cell 1 _ rfl
    have hws := HW.out.low.size
    by_cases hlt : j < n
    · have hji : (j : Int) < (n : Int) := by omega
      have HC := Lib.hid (standsFor_any sl T' sa n sc ta tn tc _ _ wr HN.out HW.out.slots HW.out.rep)
      cases hst : stand sl T' with
      | none =>
        rw [hst] at HC
        have HE : Hid (R = T') := by
          show _ = _
          rw [← HW.out.eq, walkF_none hst]
        clear hst
        go_wp2_with fail
        go_at_call 39
        refine HC.out.mono ?_
        rintro e w1 ⟨⟨u, rfl, hr⟩, hb1⟩
        obtain ⟨un, ua, um, uc, rfl, -, -⟩ := hr.frm
        have HW1 := Lib.hid (HW.out.lift hb1)
        have HZ1 := Lib.hid (HBM.out w1)
        clear hr d0 d1 d2 d3 d4 e0 e1 HC
        simp only [Option.isSome_none, Option.getD_none]
        go_upto_region 5 with (refine wpList_store5 rfl _ _ rfl _ _ _ _ _ _ HZ1.out rfl _ _ _ _ _ _ _ rfl ?_; intro w2 hB2 hg2 hs2)
        have HW2 := Lib.hid ((HW1.out.lift ((Below.refl _ w1).alloc (Nat.le_refl _) (.cells #[.int .i64 0, .string ⟨#[]⟩, .int .i64 0, .int .i64 0, .slice none 0 0] 31))).grow hg2 (by have := HW1.out.zero.lt; omega))
        clear hB2 hg2 hs2 HW1 HZ1
        obtain ⟨d0, d1, d2, d3, d4⟩ := HW2.out.box.cells
        go_wp2_with (refine wpList_store5 rfl _ _ rfl _ _ _ _ _ _ HW2.out.zero rfl _ _ _ _ _ _ _ rfl ?_; intro w3 hB3 hg3 hs3)
        obtain ⟨c0, c1, c2, c3, c4⟩ := hB3.cells
        refine bodyPost_ret (by simp [results, Try.results38, go_sem, c0, c1, c2, c3, c4]; try rfl) rfl ?_
        obtain ⟨r1, r2⟩ := HW2.out.done hg3 HE.out
        exact ⟨⟨_, rfl, r1⟩, r2⟩
      | some U =>
        rw [hst] at HC
        have HSt := Lib.hid hst
        clear hst
        go_wp2_with fail
        go_at_call 39
        refine HC.out.mono ?_
        rintro e w1 ⟨⟨u, rfl, hr⟩, hb1⟩
        simp only [Option.isSome_some, Option.getD_some] at hr ⊢
        obtain ⟨un, ua, um, uc, rfl, -, -⟩ := hr.frm
        generalize U.k = uk at *
        generalize U.i = ui at *
        generalize U.h = uh at *
        have HW1 := Lib.hid (HW.out.lift hb1)
        have HZ1 := Lib.hid (HBM.out w1)
        have HRu : Hid (Rep w1 (fun b => S b ∧ b < w.heap.size) U (.agg #[.int .i64 uk, .string un, .int .i64 ui, .int .i64 uh, .slice ua um uc])) := hr.imp fun b hb => hb.1
        clear hr d0 d1 d2 d3 d4 e0 e1 HC
        go_upto_region 6 with (refine wpList_store5 rfl _ _ rfl _ _ _ _ _ _ HZ1.out rfl _ _ _ _ _ _ _ rfl ?_; intro w2 hB2 hg2 hs2)
        have hal := (Below.refl _ w1).alloc (Nat.le_refl _) (.cells #[.int .i64 0, .string ⟨#[]⟩, .int .i64 0, .int .i64 0, .slice none 0 0] 31)
        have h3l : w.heap.size + 2 < w1.heap.size := HW1.out.zero.lt
        have HW2 := Lib.hid ((HW1.out.lift hal).grow hg2 h3l)
        have HRu2 : Hid (Rep w2 (fun b => S b ∧ b < w.heap.size) U (.agg #[.int .i64 uk, .string un, .int .i64 ui, .int .i64 uh, .slice ua um uc])) := (HRu.out.lift hal).kept (fun _ h => h) (fun b hb hl => hg2.block b hl (by intro e; have := Option.some.inj e; have := hb.2; omega))
        obtain ⟨f0, f1, f2, f3, f4⟩ := hB2.cells
        clear hB2 hg2 hs2 HW1 HZ1 hal HRu
        go_wp2_with (refine wpList_store5 rfl _ _ rfl _ _ _ _ _ _ HW2.out.box rfl _ _ _ _ _ _ _ rfl ?_; intro w3 hB3 hg3 hs3)
        have HW3 := Lib.hid (HW2.out.next hlt HSt.out HRu2.out hB3 hg3)
        clear hB3 hg3 hs3 HW2 HRu2 f0 f1 f2 f3 f4 h3l
        go_wp2
        go_roundw
        case rel => exact ⟨j + 1, U, uk, un, ui, uh, ua, um, uc, hlt, by go_num, HW3⟩
        case measure => simp [intOf]; omega
    · have HE : Hid (R = T') := by
        show _ = _
        rw [← HW.out.eq, show n - j = 0 from by omega]; rfl
      go_wp2_with (refine wpList_store5 rfl _ _ rfl _ _ _ _ _ _ HW.out.zero rfl _ _ _ _ _ _ _ rfl ?_; intro w3 hB3 hg3 hs3)
      obtain ⟨c0, c1, c2, c3, c4⟩ := hB3.cells
      refine bodyPost_ret (by simp [results, Try.results38, go_sem, c0, c1, c2, c3, c4]; try rfl) rfl ?_
      obtain ⟨r1, r2⟩ := HW.out.done hg3 HE.out
      exact ⟨⟨_, rfl, r1⟩, r2⟩
end Go.Proofs.Ytejlhfjhpminjaa
