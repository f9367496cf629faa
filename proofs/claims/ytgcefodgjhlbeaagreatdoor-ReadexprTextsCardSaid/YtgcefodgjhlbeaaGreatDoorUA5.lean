import Derived.Test.YtgcefodgjhlbeaaGreatDoorUA4
import Derived.Shelf.Abstract
import Derived.Test.YtgcefodgjhlbeaaGreatDoorUA1
import Derived.Lib.QuietBelow
import Derived.LoopTactic
import Derived.Handy
import Derived.Test.YtgcefodgjhlbeaaGreatDoorUA2
namespace Go.Proofs.YtgcefodgjhlbeaaGreatDoor
open Go.RowKit Go.Maps Go.Shelf Mth

def resQ (ts : List Tok) : PR → Res
 | .ok T j => ⟨T, j, 0, 0⟩
 | .bad p => ⟨zeroT, 0, 3, posAt ts p⟩
theorem as_err (p : Int) (n : Nat) (V : World) (hg : Gl V) (hn : V.heap[n]? = some (.cells #[.int .i64 0] 169 (0, 0))) :
  Calls Tryz.prog 119 #[.iface 200 (.agg #[.int .i64 p]), .iface 171 (.pointer (some ⟨n, 0, none⟩))] V fun e V' => e = .returned (.bool true) ∧ V'.cell? ⟨n, 0, none⟩ = some (.int .i64 p) ∧ V.grownBy V' (some n) := by
 have hlt : n < V.heap.size := (Array.getElem?_eq_some_iff.1 hn).1
 refine (as_hit p ⟨n, 0, none⟩ (.int .i64 0) V hg (by simp [World.cell?, hn]) (by simp [World.frozen?, hn])).mono ?_
 rintro e V' ⟨rfl, rfl⟩
 have hb : Below V.heap.size V (((((V.alloc (.cells #[.pointer (some ⟨n, 0, none⟩)] 171)).alloc (.cells #[.pointer (some ⟨7, 171, none⟩), .pointer (some ⟨V.heap.size, 0, none⟩), .int .u64 150] 180)).alloc (.cells #[.pointer (some ⟨7, 171, none⟩), .pointer (some ⟨V.heap.size, 0, none⟩), .int .u64 150] 180)).alloc (.cells #[.int .i64 p] 200)).alloc (.cells #[.int .i64 p] 169)) :=
  (((((Below.refl _ V).alloc (Nat.le_refl _) _).alloc (by simp) _).alloc (by simp; omega) _).alloc (by simp; omega) _).alloc (by simp; omega) _
 generalize (((((V.alloc (.cells #[.pointer (some ⟨n, 0, none⟩)] 171)).alloc (.cells #[.pointer (some ⟨7, 171, none⟩), .pointer (some ⟨V.heap.size, 0, none⟩), .int .u64 150] 180)).alloc (.cells #[.pointer (some ⟨7, 171, none⟩), .pointer (some ⟨V.heap.size, 0, none⟩), .int .u64 150] 180)).alloc (.cells #[.int .i64 p] 200)).alloc (.cells #[.int .i64 p] 169)) = W at *
 have hn' : W.heap[n]? = some (.cells #[.int .i64 0] 169 (0, 0)) := by rw [hb.block n hlt]; exact hn
 have hs := set1 hn' 0 (.int .i64 p)
 refine ⟨rfl, ?_, grown_trans (below_grown_some hb n) hs.2.1⟩
 simp [World.cell?, hs.1]
structure RSt (w : World) (b : Nat) (ts : List Tok) (j : Nat) (V : World) : Prop where
 o : Outs w V
 rd : PkX V b ts j
 gl : Gl V
 le : w.heap.size + 2 ≤ b
 glt : 3 < b
theorem RSt.lift {w V V' : World} {b : Nat} {ts : List Tok} {j : Nat} (h : RSt w b ts j V) (hb : Below V.heap.size V V') : RSt w b ts j V' := ⟨h.o.lift hb, h.rd.lift hb, h.gl.lift hb, h.le, h.glt⟩
theorem RSt.go {w V V' : World} {b : Nat} {ts : List Tok} {j j' : Nat} (h : RSt w b ts j V) (hr : PkX V' b ts j') (hg : V.grownBy V' (some b)) : RSt w b ts j' V' := ⟨h.o.grown h.le hg, hr, h.gl.grown h.glt hg, h.le, h.glt⟩
set_option maxHeartbeats 6400000 in
theorem typeRead (ts : List Tok) (hok : TkOk ts) (S : Nat → Prop) (lv : Value) (k : Int) (f : Nat) (hf : f ≤ 900000) (R : PR) (hx : qType f ts (startAt ts k) = some R) (w : World) (h : TokAt w S lv ts) (hgl : Gl w) :
  Calls Tryz.prog 113 #[lv, .int .i64 k, .func (.func 114) #[] #[]] w fun e w' => ∃ v, e = .returned v ∧ ResAt w' (fun c => w.heap.size ≤ c) (resQ ts R) v ∧ Below w.heap.size w w' := by
 have eg : ∀ args w, (callFunc 114 args).run Tryz.prog w = .ok (.enter 114 args) w := enters_of Tryz.func114 (by kernel_rfl) rfl
 have HO : Hid (Outs w _) := outs_new w
 have HQ := Lib.hid (ptype_any ts f hf (startAt ts k) R hx)
 have hi := startAt_le ts k
 obtain ⟨a, cap, rfl, hcap, hc⟩ := h
 have HT : Hid (TokAt w (fun g => g < w.heap.size) (.slice a ts.length cap) ts) := TokAt.below (S := S) ⟨a, cap, rfl, hcap, hc⟩ (Nat.le_refl _) (Below.refl _ w)
 have HG := Lib.hid hgl
 have hl := hok.1
 clear hc hgl hx
 have hcase : (k < 0 ∧ startAt ts k = ts.length) ∨ (decide (k < 0) = false ∧ (ts.length : Int) < k ∧ startAt ts k = ts.length) ∨ (∃ n : Nat, k = n ∧ n ≤ ts.length ∧ startAt ts k = n) := by
  by_cases h1 : k < 0
  ·exact .inl ⟨h1, by unfold startAt; rw [if_pos (.inl h1)]⟩
  ·by_cases h2 : (ts.length : Int) < k
   ·exact .inr (.inl ⟨by simpa using h1, h2, by unfold startAt; rw [if_pos (.inr h2)]⟩)
   ·exact .inr (.inr ⟨k.toNat, by omega, by omega, by unfold startAt; rw [if_neg (by omega)]⟩)
 have HF : Hid (∀ i V, Outs w V → Gl V → i ≤ ts.length → RSt w V.heap.size ts i (V.alloc (.cells #[.slice a ts.length cap, .int .i64 i] 167))) := fun i V ho hg hi => by
  have hb : Below V.heap.size V (V.alloc (.cells #[.slice a ts.length cap, .int .i64 i] 167)) := (Below.refl _ V).alloc (Nat.le_refl _) _
  exact ⟨ho.lift hb, ⟨_, heap_alloc_new V _, HT.out.kept (fun g hg => Nat.lt_of_lt_of_le hg (Nat.le_trans (Nat.le_add_right _ 2) ho.size)) (fun g hg hl => (ho.low.trans (hb.mono ho.low.size)).block g hg), hi, hok⟩, hg.lift hb, ho.size, hg.lt⟩
 have HG2 : Hid (Gl ((w.alloc (.cells #[.int .i64 0, .string ⟨#[]⟩, .int .i64 0, .int .i64 0, .slice none 0 0] 32)).alloc (.cells #[.int .i64 0, .int .i64 0] 43))) := HG.out.lift HO.out.low
 obtain ⟨i0, hi0⟩ : ∃ i0, startAt ts k = i0 := ⟨_, rfl⟩
 rw [hi0] at hcase HQ hi
 clear hi0
 have hdone : ∀ (K : Int), (K < 0 ∧ i0 = ts.length) ∨ (decide (K < 0) = false ∧ (ts.length : Int) < K ∧ i0 = ts.length) ∨ (∃ n : Nat, K = n ∧ n ≤ ts.length ∧ i0 = n) → Calls Tryz.prog 113 #[.slice a ts.length cap, .int .i64 K, .func (.func 114) #[] #[]] w fun e w' => ∃ v, e = .returned v ∧ ResAt w' (fun c => w.heap.size ≤ c) (resQ ts R) v ∧ Below w.heap.size w w' := by
  intro K hK
  rcases hK with ⟨h1, rfl⟩ | ⟨h1, h2, rfl⟩ | ⟨n, rfl, h2, rfl⟩
  rotate_left 2
  have h3 : decide ((i0 : Int) < 0) = false := by simp
  have h4 : decide (ts.length < i0) = false := by simp; omega
  all_goals
   go_enter Tryz.func113, Tryz.ntmps113
   go_upto_region 3 with fail
   generalize ((w.alloc (.cells #[.int .i64 0, .string ⟨#[]⟩, .int .i64 0, .int .i64 0, .slice none 0 0] 32)).alloc (.cells #[.int .i64 0, .int .i64 0] 43)) = V at *
   have HR0 := Lib.hid (HF.out _ V HO.out HG2.out hi)
   clear HF HG2 HO
   go_upto_region 4 with fail
   generalize (V.alloc _) = V1 at *
   generalize V.heap.size = b at *
   have hb1 := HR0.out.rd.lt
   go_wp2_with fail
   go_at_call 114
   refine (HQ.out b (b + 1) V1 (Nat.lt_succ_self b) hb1 HR0.out.rd).mono ?_
   intro e w1 he
   cases R with
   | ok T j =>
    obtain ⟨u, rfl, hrep, hrd, hg⟩ := he.ok
    have HR1 := Lib.hid (HR0.out.go hrd hg)
    obtain ⟨uk, un, ui, uh, ua, um, uc, rfl⟩ := hrep.form
    have hba : Below w1.heap.size w1 ((w1.alloc (.cells #[.int .i64 uk, .string un, .int .i64 ui, .int .i64 uh, .slice ua um uc] 32)).alloc (.cells #[.int .i64 0] 169)) := ((Below.refl _ w1).alloc (Nat.le_refl _) _).alloc (by simp) _
    have HR2 := Lib.hid (HR1.out.lift hba)
    have HP2 := Lib.hid (hrep.lift hba)
    have HB2 : Hid (Box ((w1.alloc (.cells #[.int .i64 uk, .string un, .int .i64 ui, .int .i64 uh, .slice ua um uc] 32)).alloc (.cells #[.int .i64 0] 169)) w1.heap.size (.int .i64 uk) (.string un) (.int .i64 ui) (.int .i64 uh) (.slice ua um uc)) := by
     show Box _ _ _ _ _ _ _
     unfold Box; rw [heap_at, if_neg (by simp), heap_at, if_pos rfl]
    have hs1 := HR1.out.rd.lt
    clear hrep hrd hg he HR0 HQ hba HR1
    go_wp2_with fail
    go_at_call 119
    generalize ((w1.alloc (.cells #[.int .i64 uk, .string un, .int .i64 ui, .int .i64 uh, .slice ua um uc] 32)).alloc (.cells #[.int .i64 0] 169)) = V2 at *
    refine (as_nil _ V2).mono ?_
    rintro e w3 ⟨rfl, rfl⟩
    generalize w1.heap.size = n4 at *
    obtain ⟨a', cap', c0, c1, f1, -, -⟩ := HR2.out.rd.cells
    obtain ⟨d0, d1, d2, d3, d4⟩ := HB2.out.cells
    obtain ⟨z0, z1, k0, k1⟩ := HR2.out.o.fcells
    obtain ⟨t0, t1, t2, t3, t4⟩ := HR2.out.o.typ.cells
    obtain ⟨g0, g1, g2, g3, g4⟩ := HR2.out.o.typ.frozen
    have HE := Lib.hid (HR2.out.o.fin (.int .i64 uk) (.string un) (.int .i64 ui) (.int .i64 uh) (.slice ua um uc) (.int .i64 0) (.int .i64 0))
    have hle := HR2.out.le
    have hne1 : b ≠ w.heap.size := by omega
    have hne2 : b ≠ w.heap.size + 1 := by omega
    have hne3 : n4 ≠ w.heap.size := by omega
    have hne4 : n4 ≠ w.heap.size + 1 := by omega
    go_wp2
    go_region
    all_goals
     obtain ⟨hB, y0, y1, hL, hK⟩ := HE.out
     clear HE c0 c1 f1 d0 d1 d2 d3 d4 z0 z1 k0 k1 t0 t1 t2 t3 t4 g0 g1 g2 g3 g4
     generalize (((((((V2.setCell ⟨w.heap.size, 0, none⟩ (.int .i64 uk)).setCell ⟨w.heap.size, 1, none⟩ (.string un)).setCell ⟨w.heap.size, 2, none⟩ (.int .i64 ui)).setCell ⟨w.heap.size, 3, none⟩ (.int .i64 uh)).setCell ⟨w.heap.size, 4, none⟩ (.slice ua um uc)).setCell ⟨w.heap.size + 1, 0, none⟩ (.int .i64 0)).setCell ⟨w.heap.size + 1, 1, none⟩ (.int .i64 0)) = X at *
     have hB' : Box X.drew w.heap.size (.int .i64 uk) (.string un) (.int .i64 ui) (.int .i64 uh) (.slice ua um uc) := hB
     have y0' : X.drew.cell? ⟨w.heap.size + 1, 0, none⟩ = some (.int .i64 0) := y0
     have y1' : X.drew.cell? ⟨w.heap.size + 1, 1, none⟩ = some (.int .i64 0) := y1
     obtain ⟨c0, c1, c2, c3, c4⟩ := hB'.cells
     go_wp2
     refine bodyPost_ret (by simp [results, Tryz.results113, go_sem, c0, c1, c2, c3, c4, y0', y1']; try rfl) rfl ?_
     exact ⟨_, rfl, ⟨_, rfl, (HP2.out.kept (S' := fun c => w.heap.size ≤ c) (fun c hc => by omega) (fun c hc hlt => hK c (by omega) hlt)).lift (Below.refl _ X).drew⟩, hL.drew⟩
   | bad p =>
    obtain ⟨u, T, j, rfl, hrep, hrd, hg⟩ := he.bad
    have HR1 := Lib.hid (HR0.out.go hrd hg)
    obtain ⟨uk, un, ui, uh, ua, um, uc, rfl⟩ := hrep.form
    have hba : Below w1.heap.size w1 ((w1.alloc (.cells #[.int .i64 uk, .string un, .int .i64 ui, .int .i64 uh, .slice ua um uc] 32)).alloc (.cells #[.int .i64 0] 169)) := ((Below.refl _ w1).alloc (Nat.le_refl _) _).alloc (by simp) _
    have HR2 := Lib.hid (HR1.out.lift hba)
    have HN2 : Hid (((w1.alloc (.cells #[.int .i64 uk, .string un, .int .i64 ui, .int .i64 uh, .slice ua um uc] 32)).alloc (.cells #[.int .i64 0] 169)).heap[w1.heap.size + 1]? = some (.cells #[.int .i64 0] 169 (0, 0))) := by
     show _ = _
     rw [heap_at, if_pos (by simp)]
    have hs1 := HR1.out.rd.lt
    clear hrep hrd hg he HR0 HQ hba HR1
    go_wp2_with fail
    go_at_call 119
    generalize ((w1.alloc (.cells #[.int .i64 uk, .string un, .int .i64 ui, .int .i64 uh, .slice ua um uc] 32)).alloc (.cells #[.int .i64 0] 169)) = V2 at *
    have HAs := Lib.hid (as_err (posAt ts p) (w1.heap.size + 1) V2 HR2.out.gl HN2.out)
    generalize w1.heap.size = n4 at *
    refine HAs.out.mono ?_
    rintro e w3 ⟨rfl, hat, hg3⟩
    have hle := HR2.out.le
    have HO3 := Lib.hid (HR2.out.o.grown (by omega) hg3)
    clear HR2 HN2 HAs hg3
    obtain ⟨z0, z1, k0, k1⟩ := HO3.out.fcells
    obtain ⟨t0, t1, t2, t3, t4⟩ := HO3.out.typ.cells
    obtain ⟨g0, g1, g2, g3, g4⟩ := HO3.out.typ.frozen
    have HE := Lib.hid (HO3.out.fin (.int .i64 0) (.string ⟨#[]⟩) (.int .i64 0) (.int .i64 0) (.slice none 0 0) (.int .i64 3) (.int .i64 (posAt ts p)))
    have hne1 : n4 + 1 ≠ w.heap.size := by omega
    have hne2 : n4 + 1 ≠ w.heap.size + 1 := by omega
    go_wp2
    go_region
    all_goals
     obtain ⟨hB, y0, y1, hL, hK⟩ := HE.out
     clear HE hat z0 z1 k0 k1 t0 t1 t2 t3 t4 g0 g1 g2 g3 g4
     generalize (((((((w3.setCell ⟨w.heap.size, 0, none⟩ (.int .i64 0)).setCell ⟨w.heap.size, 1, none⟩ (.string ⟨#[]⟩)).setCell ⟨w.heap.size, 2, none⟩ (.int .i64 0)).setCell ⟨w.heap.size, 3, none⟩ (.int .i64 0)).setCell ⟨w.heap.size, 4, none⟩ (.slice none 0 0)).setCell ⟨w.heap.size + 1, 0, none⟩ (.int .i64 3)).setCell ⟨w.heap.size + 1, 1, none⟩ (.int .i64 (posAt ts p))) = X at *
     have hB' : Box X.drew w.heap.size (.int .i64 0) (.string ⟨#[]⟩) (.int .i64 0) (.int .i64 0) (.slice none 0 0) := hB
     have y0' : X.drew.cell? ⟨w.heap.size + 1, 0, none⟩ = some (.int .i64 3) := y0
     have y1' : X.drew.cell? ⟨w.heap.size + 1, 1, none⟩ = some (.int .i64 (posAt ts p)) := y1
     obtain ⟨c0, c1, c2, c3, c4⟩ := hB'.cells
     go_wp2
     refine bodyPost_ret (by simp [results, Tryz.results113, go_sem, c0, c1, c2, c3, c4, y0', y1']; try rfl) rfl ?_
     exact ⟨_, rfl, ⟨_, rfl, rep_leaf _ _ 0 ⟨#[]⟩ 0 0 zero_ok⟩, hL.drew⟩
 exact hdone k hcase
end Go.Proofs.YtgcefodgjhlbeaaGreatDoor

namespace Go.Proofs.YtgcefodgjhlbeaaGreatDoor
open Go.RowKit Go.Sort Mth

mutual
def teq : Ty → Ty → Bool
 | .mk k n i h ts, .mk k' n' i' h' ts' => k == k' && n.toList == n'.toList && i == i' && h == h' && teqL ts ts'
def teqL : List Ty → List Ty → Bool
 | [], [] => true
 | t :: l, t' :: l' => teq t t' && teqL l l'
 | _, _ => false
end
theorem teqL_len : ∀ {l l' : List Ty}, teqL l l' = true → l.length = l'.length := by
 intro l
 induction l with
 | nil => intro l' h; cases l' <;> simp [teqL] at h ⊢
 | cons t l ih => intro l' h; cases l' <;> simp [teqL] at h ⊢; exact ih h.2
theorem teqL_step {l l' : List Ty} {j : Nat} {t t' : Ty} (h : l[j]? = some t) (h' : l'[j]? = some t') : teqL (l.drop j) (l'.drop j) = (teq t t' && teqL (l.drop (j + 1)) (l'.drop (j + 1))) := by
 obtain ⟨hl, e⟩ := List.getElem?_eq_some_iff.1 h
 obtain ⟨hl', e'⟩ := List.getElem?_eq_some_iff.1 h'
 rw [List.drop_eq_getElem_cons hl, List.drop_eq_getElem_cons hl', e, e']
 simp [teqL]
def EqAt (P : Program) (f : Nat) (T : Ty) : Prop := ∀ (U : Ty) (v u : Value) (S S' : Nat → Prop) (w : World), Rep w S T v → Rep w S' U u →
 Calls P f #[v, u] w fun e w' => e = .returned (.bool (teq T U)) ∧ Below w.heap.size w w'
set_option maxHeartbeats 1600000 in
theorem refEqAll_of (l l' : List Ty) (H : ∀ T ∈ l, EqAt Tryz.prog 33 T) (v u : Value) (S S' : Nat → Prop) (w : World) (h : RepL w S l v) (h' : RepL w S' l' u) :
  Calls Tryz.prog 62 #[v, u] w fun e w' => e = .returned (.bool (teqL l l')) ∧ Below w.heap.size w w' := by
 obtain ⟨a, cap, rfl, ⟨hc1, hc2⟩, hj⟩ := h
 obtain ⟨a', cap', rfl, ⟨hc1', hc2'⟩, hj'⟩ := h'
 have HJ := Lib.hid hj
 have HJ' := Lib.hid hj'
 have HH := Lib.hid H
 clear hj hj' H
 unfold maxLen at hc2 hc2'
 cases hlen : ((l.length : Int) != (l'.length : Int)) with
 | true =>
  have HE : Hid (teqL l l' = false) := by
   show _ = _
   cases ht : teqL l l' with
   | false => rfl
   | true => have := teqL_len ht; simp [this] at hlen
  go_enter Tryz.func62, Tryz.ntmps62
  go_wp2
  go_ret
  exact ⟨ret_bool HE.out.symm, Below.refl _ _⟩
 | false =>
  have hl : l'.length = l.length := by simp at hlen; omega
  rw [hl] at hc1' hlen ⊢
  have HE : Hid (teqL l l' = teqL (l.drop 0) (l'.drop 0)) := by show _ = _; simp
  have HN : Hid (l'.length = l.length) := hl
  clear hl
  obtain ⟨m, hm⟩ : ∃ m, m = l.length := ⟨_, rfl⟩
  rw [← hm] at hc1 hc1' hlen ⊢
  have HM := Lib.hid hm
  clear hm
  go_enter Tryz.func62, Tryz.ntmps62
  go_wp2
  go_loopw [5] (fun i wr => ∃ j : Nat, j ≤ m ∧ i = .int .i64 j ∧ Hid (teqL l l' = teqL (l.drop j) (l'.drop j)) ∧ Below w.heap.size w wr) (fun i _ => m - (intOf i).toNat)
  case atStart => exact ⟨0, Nat.zero_le _, rfl, HE, Below.refl _ _⟩
  case round =>
   obtain ⟨j, hj, rfl, HT, hb⟩ := hrel
   by_cases hlt : j < m
   ·obtain ⟨T, hT⟩ : ∃ x, l[j]? = some x := ⟨_, List.getElem?_eq_getElem (by rw [← HM.out]; exact hlt)⟩
    obtain ⟨U, hU⟩ : ∃ x, l'[j]? = some x := ⟨_, List.getElem?_eq_getElem (by rw [HN.out, ← HM.out]; exact hlt)⟩
    have HTm : Hid (T ∈ l) := List.mem_of_getElem? hT
    obtain ⟨ad, x, rfl, hS, h5, hx⟩ := HJ.out j T hT
    obtain ⟨ad', y, rfl, hS', h5', hy⟩ := HJ'.out j U hU
    have HS := Lib.hid (teqL_step hT hU)
    clear hT hU
    have hx' := hx.lift (hb.mono (Nat.le_refl _))
    have hy' := hy.lift (hb.mono (Nat.le_refl _))
    have g5 := h5.kept (hb.block _ h5.lt)
    have g5' := h5'.kept (hb.block _ h5'.lt)
    obtain ⟨k, n, i, h, s, eT, rfl, hn, hs⟩ := hx'.open
    obtain ⟨k', n', i', h', s', eU, rfl, hn', hs'⟩ := hy'.open
    obtain ⟨q0, q1, q2, q3, q4⟩ := five_at g5
    obtain ⟨r0, r1, r2, r3, r4⟩ := five_at g5'
    clear h5 h5' hx hy g5 g5' eT eU hn hn' hs hs' hS hS'
    have HX := Lib.hid hx'
    have HY := Lib.hid hy'
    clear hx' hy'
    have G0 := cell_regrown q0
    have G1 := cell_regrown q1
    have G2 := cell_regrown q2
    have G3 := cell_regrown q3
    have G4 := cell_regrown q4
    have R0 := cell_regrown r0
    have R1 := cell_regrown r1
    have R2 := cell_regrown r2
    have R3 := cell_regrown r3
    have R4 := cell_regrown r4
    have hji : (j : Int) < (m : Int) := by omega
    go_wp2
    refine wp_region_quiet_below (by kernel_rfl) (by kernel_rfl) ?_
    repeat (quiet_step ((go_at_call 33; exact Calls.regrown_of ((HH.out T HTm.out) U _ _ S S' _ (HX.out.lift (below_regrown _ _ _)) (HY.out.lift (below_regrown _ _ _))))))
    refine wpQuiet_nil ?_
    intro _ hw'
    obtain ⟨⟨dq, osq⟩, hw''⟩ := hw'
    subst hw''
    have hb2 := hb.trans ((below_regrown wr dq osq).mono hb.size)
    clear q0 q1 q2 q3 q4 r0 r1 r2 r3 r4 G0 G1 G2 G3 G4 R0 R1 R2 R3 R4
    cases hq : teq T U with
    | true =>
     have HS2 : Hid (teqL l l' = teqL (l.drop (j + 1)) (l'.drop (j + 1))) := by
      show _ = _
      rw [HT.out, HS.out, hq]; rfl
     go_wp2
     go_roundw
     case rel => exact ⟨j + 1, hlt, by go_num, HS2, hb2⟩
     case measure => simp [intOf]; omega
    | false =>
     have HS2 : Hid (teqL l l' = false) := by
      show _ = _
      rw [HT.out, HS.out, hq]; rfl
     go_wp2
     go_ret
     exact ⟨ret_bool HS2.out.symm, hb2⟩
   ·have HS2 : Hid (teqL l l' = true) := by
     show _ = _
     rw [HT.out, List.drop_eq_nil_of_le (by rw [← HM.out]; omega), List.drop_eq_nil_of_le (by rw [HN.out, ← HM.out]; omega)]; rfl
    go_wp2
    go_ret
    exact ⟨ret_bool HS2.out.symm, hb⟩
end Go.Proofs.YtgcefodgjhlbeaaGreatDoor

namespace Go.Proofs.YtgcefodgjhlbeaaGreatDoor
open Go.RowKit Go.Sort Mth

set_option maxHeartbeats 1600000 in
theorem refEqual_of (T : Ty) (H : ∀ U ∈ T.ts, EqAt Tryz.prog 33 U) : EqAt Tryz.prog 33 T := by
 intro U v u S S' w h h'
 obtain ⟨k, n, i, hm, s, eT, rfl, hn, hs⟩ := h.open
 obtain ⟨k', n', i', hm', s', eU, rfl, hn', hs'⟩ := h'.open
 clear h h'
 have HS := Lib.hid hs
 have HS' := Lib.hid hs'
 have HH : Hid (∀ (w w' : World), Below w.heap.size w w' → RepL w S T.ts s → RepL w S' U.ts s' → Calls Tryz.prog 62 #[s, s'] w' fun e w'' => e = .returned (.bool (teqL T.ts U.ts)) ∧ Below w'.heap.size w' w'') :=
  fun w w' hb h1 h2 => refEqAll_of T.ts U.ts H s s' S S' w' (h1.lift hb) (h2.lift hb)
 have HE : Hid (teq T U = (k == k' && n.toList == n'.toList && i == i' && hm == hm' && teqL T.ts U.ts)) := by
  show _ = _
  conv => lhs; rw [eT, eU]
  rfl
 clear eT eU hs hs' H hn hn'
 generalize teqL T.ts U.ts = q at *
 have hb0 : ∀ X Y Z Z', Below w.heap.size w ((w.alloc (.cells X Z)).alloc (.cells Y Z')) := fun X Y Z Z' => ((Below.refl _ w).alloc (Nat.le_refl _) _).alloc (by simp) _
 go_enter Tryz.func33, Tryz.ntmps33
 go_wp2_with (go_at_call 62; refine (HH.out w _ (hb0 _ _ _ _) HS.out HS'.out).mono ?_; rintro e w1 ⟨rfl, hb1⟩)
 all_goals
  go_ret
  refine ⟨ret_bool (by rw [HE.out]; simp_all), ?_⟩
  first
   | exact hb0 _ _ _ _
   | exact (hb0 _ _ _ _).trans (hb1.mono (by simp; omega))
theorem refEqual_any : ∀ (m : Nat) (T : Ty), nodes T ≤ m → EqAt Tryz.prog 33 T := by
 intro m
 induction m with
 | zero => intro T h; have := nodes_pos T; omega
 | succ m ih =>
  intro T h
  refine refEqual_of T fun U hU => ih U ?_
  have := nodesL_mem hU
  cases T
  simp only [nodes, Ty.ts] at *
  omega
end Go.Proofs.YtgcefodgjhlbeaaGreatDoor

namespace Go.Proofs.YtgcefodgjhlbeaaGreatDoor
open Go.RowKit Go.Maps Mth

def TkVal (ts : List Tok) : Prop := ∀ t ∈ ts, rkind t.text = t.kind
theorem rIs_mark {ts : List Tok} (hv : TkVal ts) (i : Nat) {s : ByteArray} (hs : rkind (bl s) = 5) : rIs ts i s = rMark ts i s := by
 unfold rIs rMark tkK txt
 cases ht : ts[i]? with
 | none => rfl
 | some t =>
  simp only
  have hk := hv t (List.mem_of_getElem? ht)
  cases hq : ((⟨t.text.toArray⟩ : ByteArray).toList == s.toList) with
  | false => simp
  | true =>
   have e : bl (⟨t.text.toArray⟩ : ByteArray) = bl s := by
    have := eq_of_beq hq
    rw [Lib.toList_data, Lib.toList_data] at this
    exact this
   rw [bl_mk] at e
   rw [e, hs] at hk
   rw [← hk]
   rfl
theorem rKind_K {ts : List Tok} (i : Nat) {k : Int} (hk : k ≠ 0) : rKind ts i k = (tkK ts i == k) := by
 unfold rKind tkK
 cases ts[i]? with
 | none => simp [Ne.symm hk]
 | some t => rfl
theorem m40 : rkind (bl ⟨#[40]⟩) = 5 := by decide +kernel
theorem m41 : rkind (bl ⟨#[41]⟩) = 5 := by decide +kernel
theorem mAr : rkind (bl ⟨#[45, 62]⟩) = 5 := by decide +kernel
def RX (ts : List Tok) : PR → Ty × St → Prop
 | .ok T j, x => x = (T, ⟨j, false, 0⟩)
 | .bad p, x => x.2.bad = true ∧ x.2.p = posAt ts p
def RXL (ts : List Tok) : PL → List Ty × St → Prop
 | .ok l j, x => x = (l, ⟨j, false, 0⟩)
 | .bad p, x => x.2.bad = true ∧ x.2.p = posAt ts p
theorem xarrow_bad (f : Nat) (ts : List Tok) (s : St) (a : Ty) (h : s.bad = true) : xArrow (f + 1) ts s a = some (a, s) := by
 unfold xArrow xI; simp [h]
theorem xargs_bad (f : Nat) (ts : List Tok) (s : St) (acc : List Ty) (h : s.bad = true) : xArgs (f + 1) ts s acc = some (acc, s) := by
 unfold xArgs xI xK; simp [h]
theorem xneed_bad (ts : List Tok) (s : St) (t : ByteArray) (h : s.bad = true) : xNeed ts s t = s := by
 unfold xNeed xI xFail; simp [h]
theorem same_all (ts : List Tok) (hv : TkVal ts) : ∀ f,
  (∀ i R, qAtom f ts i = some R → ∃ x, xAtom f ts ⟨i, false, 0⟩ = some x ∧ RX ts R x) ∧
  (∀ i R, qType f ts i = some R → ∃ x, xType f ts ⟨i, false, 0⟩ = some x ∧ RX ts R x) ∧
  (∀ i a R, qArrow f ts i a = some R → ∃ x, xArrow f ts ⟨i, false, 0⟩ a = some x ∧ RX ts R x) ∧
  (∀ i acc L, qArgs f ts i acc = some L → ∃ x, xArgs f ts ⟨i, false, 0⟩ acc = some x ∧ RXL ts L x) := by
 intro f
 induction f with
 | zero => exact ⟨fun i R h => by simp [qAtom] at h, fun i R h => by simp [qType] at h, fun i a R h => by simp [qArrow] at h, fun i acc L h => by simp [qArgs] at h⟩
 | succ f ih =>
  obtain ⟨hA, hT, hW, hG⟩ := ih
  have k1 : ∀ i, xK ts ⟨i, false, 0⟩ 1 = (tkK ts i == 1) := fun i => by unfold xK; simp [rKind_K i (k := 1) (by decide)]
  have k2 : ∀ i, xK ts ⟨i, false, 0⟩ 2 = (tkK ts i == 2) := fun i => by unfold xK; simp [rKind_K i (k := 2) (by decide)]
  have i40 : ∀ i, xI ts ⟨i, false, 0⟩ ⟨#[40]⟩ = rMark ts i ⟨#[40]⟩ := fun i => by unfold xI; simp [rIs_mark hv i m40]
  have i41 : ∀ i, xI ts ⟨i, false, 0⟩ ⟨#[41]⟩ = rMark ts i ⟨#[41]⟩ := fun i => by unfold xI; simp [rIs_mark hv i m41]
  have iAr : ∀ i, xI ts ⟨i, false, 0⟩ ⟨#[45, 62]⟩ = rMark ts i ⟨#[45, 62]⟩ := fun i => by unfold xI; simp [rIs_mark hv i mAr]
  have hpos : ∀ g, qAtom g ts = qAtom g ts := fun _ => rfl
  refine ⟨fun i R h => ?_, fun i R h => ?_, fun i a R h => ?_, fun i acc L h => ?_⟩
  ·unfold qAtom at h
   unfold xAtom
   rw [k1, k2]
   cases h1 : (tkK ts i == 1) with
   | true =>
    rw [h1] at h
    simp only [if_true, Option.some.injEq] at h
    subst h
    exact ⟨_, rfl, rfl⟩
   | false =>
    rw [h1] at h
    simp only [Bool.false_eq_true, if_false] at h ⊢
    cases h2 : (tkK ts i == 2) with
    | true =>
     rw [h2] at h
     simp only [if_true, Option.some.injEq] at h
     subst h
     exact ⟨_, rfl, rfl⟩
    | false =>
     rw [h2] at h
     simp only [Bool.false_eq_true, if_false] at h ⊢
     cases h3 : rMark ts i ⟨#[40]⟩ with
     | false =>
      rw [h3] at h
      simp only [Bool.false_eq_true, if_false, Option.some.injEq] at h
      subst h
      have e : xNeed ts ⟨i, false, 0⟩ ⟨#[40]⟩ = ⟨i, true, posAt ts i⟩ := by unfold xNeed xFail; rw [i40, h3]; rfl
      rw [e]
      exact ⟨_, rfl, rfl, rfl⟩
     | true =>
      rw [h3] at h
      simp only [if_true] at h
      have e : xNeed ts ⟨i, false, 0⟩ ⟨#[40]⟩ = ⟨i + 1, false, 0⟩ := by unfold xNeed xStep; rw [i40, h3]; rfl
      rw [e]
      cases h4 : qType f ts (i + 1) with
      | none => rw [h4] at h; simp [qEncl] at h
      | some r =>
       rw [h4] at h
       obtain ⟨x, hx, hr⟩ := hT (i + 1) r h4
       obtain ⟨xt, xs⟩ := x
       rw [hx]
       cases r with
       | bad p =>
        simp only [qEncl, Option.some.injEq] at h
        subst h
        obtain ⟨hb, hp⟩ := hr
        refine ⟨_, rfl, ?_⟩
        dsimp only at hb hp
        rw [xneed_bad _ _ _ hb]
        exact ⟨hb, hp⟩
       | ok T j =>
        obtain ⟨rfl, rfl⟩ : xt = T ∧ xs = ⟨j, false, 0⟩ := by have : (xt, xs) = (T, (⟨j, false, 0⟩ : St)) := hr; simpa using this
        simp only [qEncl] at h
        cases h5 : rMark ts j ⟨#[41]⟩ with
        | true =>
         rw [h5] at h
         simp only [if_true, Option.some.injEq] at h
         subst h
         refine ⟨_, rfl, ?_⟩
         show (_, xNeed ts ⟨j, false, 0⟩ ⟨#[41]⟩) = _
         unfold xNeed xStep; rw [i41, h5]; rfl
        | false =>
         rw [h5] at h
         simp only [Bool.false_eq_true, if_false, Option.some.injEq] at h
         subst h
         refine ⟨_, rfl, ?_⟩
         have e : xNeed ts ⟨j, false, 0⟩ ⟨#[41]⟩ = ⟨j, true, posAt ts j⟩ := by unfold xNeed xFail; rw [i41, h5]; rfl
         show (xNeed ts ⟨j, false, 0⟩ ⟨#[41]⟩).bad = true ∧ (xNeed ts ⟨j, false, 0⟩ ⟨#[41]⟩).p = posAt ts j
         rw [e]
         exact ⟨rfl, rfl⟩
  ·unfold qType at h
   unfold xType
   rw [k2]
   cases h2 : (tkK ts i == 2) with
   | true =>
    rw [h2] at h
    simp only [if_true] at h ⊢
    cases h3 : qArgs f ts (i + 1) [] with
    | none => rw [h3] at h; simp at h
    | some L =>
     rw [h3] at h
     obtain ⟨x, hx, hr⟩ := hG (i + 1) [] L h3
     obtain ⟨xl, xs⟩ := x
     have e : xStep ⟨i, false, 0⟩ = ⟨i + 1, false, 0⟩ := rfl
     rw [e, hx]
     cases L with
     | bad p =>
      simp only [Option.some.injEq] at h
      subst h
      obtain ⟨hb, hp⟩ := hr
      dsimp only at hb hp ⊢
      cases f with
      | zero => simp [qArgs] at h3
      | succ f => rw [xarrow_bad _ _ _ _ hb]; exact ⟨_, rfl, hb, hp⟩
     | ok l j =>
      obtain ⟨rfl, rfl⟩ : xl = l ∧ xs = ⟨j, false, 0⟩ := by have : (xl, xs) = (l, (⟨j, false, 0⟩ : St)) := hr; simpa using this
      exact hW j _ R h
   | false =>
    rw [h2] at h
    simp only [Bool.false_eq_true, if_false] at h ⊢
    cases h3 : qAtom f ts i with
    | none => rw [h3] at h; simp at h
    | some r =>
     rw [h3] at h
     obtain ⟨x, hx, hr⟩ := hA i r h3
     obtain ⟨xt, xs⟩ := x
     rw [hx]
     cases r with
     | bad p =>
      simp only [Option.some.injEq] at h
      subst h
      obtain ⟨hb, hp⟩ := hr
      dsimp only at hb hp ⊢
      cases f with
      | zero => simp [qAtom] at h3
      | succ f => rw [xarrow_bad _ _ _ _ hb]; exact ⟨_, rfl, hb, hp⟩
     | ok T j =>
      obtain ⟨rfl, rfl⟩ : xt = T ∧ xs = ⟨j, false, 0⟩ := by have : (xt, xs) = (T, (⟨j, false, 0⟩ : St)) := hr; simpa using this
      exact hW j _ R h
  ·unfold qArrow at h
   unfold xArrow
   rw [iAr]
   cases h1 : rMark ts i ⟨#[45, 62]⟩ with
   | false =>
    rw [h1] at h
    simp only [Bool.false_eq_true, if_false, Option.some.injEq] at h ⊢
    subst h
    exact ⟨_, rfl, rfl⟩
   | true =>
    rw [h1] at h
    simp only [if_true] at h ⊢
    have e : xSkip ts ⟨i, false, 0⟩ ⟨#[45, 62]⟩ = ⟨i + 1, false, 0⟩ := by unfold xSkip xStep; rw [iAr, h1]; rfl
    rw [e]
    cases h3 : qType f ts (i + 1) with
    | none => rw [h3] at h; simp at h
    | some r =>
     rw [h3] at h
     obtain ⟨x, hx, hr⟩ := hT (i + 1) r h3
     obtain ⟨xt, xs⟩ := x
     rw [hx]
     cases r with
     | bad p =>
      simp only [Option.some.injEq] at h
      subst h
      obtain ⟨hb, hp⟩ := hr
      exact ⟨_, rfl, hb, hp⟩
     | ok T j =>
      obtain ⟨rfl, rfl⟩ : xt = T ∧ xs = ⟨j, false, 0⟩ := by have : (xt, xs) = (T, (⟨j, false, 0⟩ : St)) := hr; simpa using this
      simp only [Option.some.injEq] at h
      subst h
      exact ⟨_, rfl, rfl⟩
  ·unfold qArgs at h
   unfold xArgs
   have e : (xK ts ⟨i, false, 0⟩ 1 || xK ts ⟨i, false, 0⟩ 2 || xI ts ⟨i, false, 0⟩ ⟨#[40]⟩) = rStart ts i := by rw [k1, k2, i40]; rfl
   rw [e]
   cases h1 : rStart ts i with
   | false =>
    rw [h1] at h
    simp only [Bool.false_eq_true, if_false, Option.some.injEq] at h ⊢
    subst h
    exact ⟨_, rfl, rfl⟩
   | true =>
    rw [h1] at h
    simp only [if_true] at h ⊢
    cases h3 : qAtom f ts i with
    | none => rw [h3] at h; simp at h
    | some r =>
     rw [h3] at h
     obtain ⟨x, hx, hr⟩ := hA i r h3
     obtain ⟨xt, xs⟩ := x
     rw [hx]
     cases r with
     | bad p =>
      simp only [Option.some.injEq] at h
      subst h
      obtain ⟨hb, hp⟩ := hr
      dsimp only at hb hp ⊢
      cases f with
      | zero => simp [qAtom] at h3
      | succ f => rw [xargs_bad _ _ _ _ hb]; exact ⟨_, rfl, hb, hp⟩
     | ok T j =>
      obtain ⟨rfl, rfl⟩ : xt = T ∧ xs = ⟨j, false, 0⟩ := by have : (xt, xs) = (T, (⟨j, false, 0⟩ : St)) := hr; simpa using this
      exact hG j _ L h
theorem goes_all (ts : List Tok) : ∀ f,
  (∀ i T j, qAtom f ts i = some (.ok T j) → i < j ∧ j ≤ ts.length) ∧
  (∀ i T j, qType f ts i = some (.ok T j) → i < j ∧ j ≤ ts.length) ∧
  (∀ i a T j, i ≤ ts.length → qArrow f ts i a = some (.ok T j) → i ≤ j ∧ j ≤ ts.length) ∧
  (∀ i acc l j, i ≤ ts.length → qArgs f ts i acc = some (.ok l j) → i ≤ j ∧ j ≤ ts.length) := by
 intro f
 induction f with
 | zero => exact ⟨fun i T j h => by simp [qAtom] at h, fun i T j h => by simp [qType] at h, fun i a T j _ h => by simp [qArrow] at h, fun i acc l j _ h => by simp [qArgs] at h⟩
 | succ f ih =>
  obtain ⟨hA, hT, hW, hG⟩ := ih
  refine ⟨fun i T j h => ?_, fun i T j h => ?_, fun i a T j hi h => ?_, fun i acc l j hi h => ?_⟩
  ·unfold qAtom at h
   by_cases h1 : (tkK ts i == 1) = true
   ·rw [if_pos h1] at h
    have := tkK_lt (ts := ts) (i := i) (by simp at h1; omega)
    simp at h; omega
   ·rw [if_neg h1] at h
    by_cases h2 : (tkK ts i == 2) = true
    ·rw [if_pos h2] at h
     have := tkK_lt (ts := ts) (i := i) (by simp at h2; omega)
     simp at h; omega
    ·rw [if_neg h2] at h
     by_cases h3 : rMark ts i ⟨#[40]⟩ = true
     ·rw [if_pos h3] at h
      cases h4 : qType f ts (i + 1) with
      | none => rw [h4] at h; simp [qEncl] at h
      | some r =>
       rw [h4] at h
       cases r with
       | bad p => simp [qEncl] at h
       | ok U k =>
        obtain ⟨g1, g2⟩ := hT (i + 1) U k h4
        simp only [qEncl] at h
        by_cases h5 : rMark ts k ⟨#[41]⟩ = true
        ·rw [if_pos h5] at h
         have := rMark_lt h5
         simp at h; omega
        ·rw [if_neg h5] at h; simp at h
     ·rw [if_neg h3] at h; simp at h
  ·rw [qtype_app] at h
   cases ha : qApp f ts i with
   | none => rw [ha] at h; simp at h
   | some r =>
    rw [ha] at h
    cases r with
    | bad p => simp at h
    | ok U k =>
     have hk : i < k ∧ k ≤ ts.length := by
      rcases qapp_cases ha with ⟨h2, L, hL, hR⟩ | ⟨h2, hq⟩
      ·have := tkK_lt (ts := ts) (i := i) (by simp at h2; omega)
       cases L with
       | bad p => cases hR
       | ok l m => cases hR; have := hG (i + 1) [] l k (by omega) hL; omega
      ·exact hA i U k hq
     have := hW k U T j hk.2 h
     omega
  ·rcases qarrow_cases h with ⟨_, hR⟩ | ⟨hm, g', hg, hc⟩
   ·cases hR; omega
   ·rcases hc with ⟨p, _, hR⟩ | ⟨U, k, hU, hR⟩
    ·cases hR
    ·cases hR
     obtain rfl : f = g' := by omega
     have := hT (i + 1) U j hU
     omega
  ·rcases qargs_cases h with ⟨_, hR⟩ | ⟨hm, g', hg, hc⟩
   ·cases hR; omega
   ·rcases hc with ⟨p, _, hR⟩ | ⟨V, q, hV, hrest⟩
    ·cases hR
    ·obtain rfl : f = g' := by omega
     have h1 := hA i V q hV
     have h2 := hG q _ l j h1.2 hrest
     omega
theorem ends_all (ts : List Tok) : ∀ f,
  (∀ i, i ≤ ts.length → 3 * (ts.length - i) + 1 ≤ f → ∃ R, qAtom f ts i = some R) ∧
  (∀ i, i ≤ ts.length → 3 * (ts.length - i) + 3 ≤ f → ∃ R, qType f ts i = some R) ∧
  (∀ i a, i ≤ ts.length → 3 * (ts.length - i) + 1 ≤ f → ∃ R, qArrow f ts i a = some R) ∧
  (∀ i acc, i ≤ ts.length → 3 * (ts.length - i) + 2 ≤ f → ∃ L, qArgs f ts i acc = some L) := by
 intro f
 induction f with
 | zero => exact ⟨fun i _ h => by omega, fun i _ h => by omega, fun i a _ h => by omega, fun i acc _ h => by omega⟩
 | succ f ih =>
  obtain ⟨hA, hT, hW, hG⟩ := ih
  obtain ⟨gA, gT, gW, gG⟩ := goes_all ts f
  refine ⟨fun i hi h => ?_, fun i hi h => ?_, fun i a hi h => ?_, fun i acc hi h => ?_⟩
  ·unfold qAtom
   by_cases h1 : (tkK ts i == 1) = true
   ·rw [if_pos h1]; exact ⟨_, rfl⟩
   ·rw [if_neg h1]
    by_cases h2 : (tkK ts i == 2) = true
    ·rw [if_pos h2]; exact ⟨_, rfl⟩
    ·rw [if_neg h2]
     by_cases h3 : rMark ts i ⟨#[40]⟩ = true
     ·rw [if_pos h3]
      have hlt := rMark_lt h3
      obtain ⟨R, hR⟩ := hT (i + 1) (by omega) (by omega)
      rw [hR]
      cases R with
      | bad p => exact ⟨_, rfl⟩
      | ok T j =>
       simp only [qEncl]
       by_cases h5 : rMark ts j ⟨#[41]⟩ = true
       ·rw [if_pos h5]; exact ⟨_, rfl⟩
       ·rw [if_neg h5]; exact ⟨_, rfl⟩
     ·rw [if_neg h3]; exact ⟨_, rfl⟩
  ·unfold qType
   by_cases h2 : (tkK ts i == 2) = true
   ·rw [if_pos h2]
    have hlt := tkK_lt (ts := ts) (i := i) (by simp at h2; omega)
    obtain ⟨L, hL⟩ := hG (i + 1) [] (by omega) (by omega)
    rw [hL]
    cases L with
    | bad p => exact ⟨_, rfl⟩
    | ok l j =>
     have := gG (i + 1) [] l j (by omega) hL
     exact hW j _ this.2 (by omega)
   ·rw [if_neg h2]
    obtain ⟨R, hR⟩ := hA i hi (by omega)
    rw [hR]
    cases R with
    | bad p => exact ⟨_, rfl⟩
    | ok T j =>
     have := gA i T j hR
     exact hW j _ this.2 (by omega)
  ·unfold qArrow
   by_cases h2 : rMark ts i ⟨#[45, 62]⟩ = true
   ·rw [if_pos h2]
    have hlt := rMark_lt h2
    obtain ⟨R, hR⟩ := hT (i + 1) (by omega) (by omega)
    rw [hR]
    cases R with
    | bad p => exact ⟨_, rfl⟩
    | ok T j => exact ⟨_, rfl⟩
   ·rw [if_neg h2]; exact ⟨_, rfl⟩
  ·unfold qArgs
   by_cases h2 : rStart ts i = true
   ·rw [if_pos h2]
    obtain ⟨R, hR⟩ := hA i hi (by omega)
    rw [hR]
    cases R with
    | bad p => exact ⟨_, rfl⟩
    | ok T j =>
     have := gA i T j hR
     exact hG j _ this.2 (by omega)
   ·rw [if_neg h2]; exact ⟨_, rfl⟩
theorem stp_kind (l : List UInt8) (h0 : (stp l).1 ≠ 0) (h1 : (stp l).1 ≠ -1) : rkind (l.take (stp l).2) = (stp l).1 := by
 cases l with
 | nil => exact absurd rfl h0
 | cons c r =>
  by_cases hc : c = 35
  ·exfalso; apply h1; simp [stp, hc]
  ·by_cases hw : wht c = true
   ·exfalso; apply h1; simp [stp, hc, hw]
   ·obtain ⟨e1, e2⟩ := stp_ref (r := r) hc (by simpa using hw)
    rw [e1] at h0
    rw [e2 h0]; exact e1.symm
theorem sc_val : ∀ (n : Nat) (l : List UInt8) (p : Nat), l.length ≤ n → ∀ t ∈ (sc l p).1, rkind t.text = t.kind ∧ t.text.length ≤ l.length ∧ t.pos ≤ p + l.length := by
 intro n
 induction n with
 | zero =>
  intro l p hl t ht
  have : l = [] := List.eq_nil_of_length_eq_zero (by omega)
  subst this
  simp [sc_nil] at ht
 | succ n ih =>
  intro l p hl t ht
  by_cases hn : l = []
  ·subst hn; simp [sc_nil] at ht
  ·by_cases h0 : (stp l).1 = 0
   ·rw [sc_err p hn h0] at ht; simp at ht
   ·obtain ⟨s1, s2⟩ := stp_le l h0
    have hd : (l.drop (stp l).2).length ≤ n := by rw [List.length_drop]; omega
    by_cases h1 : (stp l).1 = -1
    ·rw [sc_blank p h1] at ht
     obtain ⟨a, b, c⟩ := ih _ _ hd t ht
     rw [List.length_drop] at b c
     exact ⟨a, by omega, by omega⟩
    ·rw [sc_tok p h0 h1] at ht
     simp only [List.mem_cons] at ht
     rcases ht with rfl | ht
     ·refine ⟨stp_kind l h0 h1, ?_, ?_⟩
      ·simp; omega
      ·dsimp only; omega
     ·obtain ⟨a, b, c⟩ := ih _ _ hd t ht
      rw [List.length_drop] at b c
      exact ⟨a, by omega, by omega⟩
theorem sc_len : ∀ (n : Nat) (l : List UInt8) (p : Nat), l.length ≤ n → (sc l p).1.length ≤ l.length := by
 intro n
 induction n with
 | zero =>
  intro l p hl
  have : l = [] := List.eq_nil_of_length_eq_zero (by omega)
  subst this
  simp [sc_nil]
 | succ n ih =>
  intro l p hl
  by_cases hn : l = []
  ·subst hn; simp [sc_nil]
  ·by_cases h0 : (stp l).1 = 0
   ·rw [sc_err p hn h0]; simp
   ·obtain ⟨s1, s2⟩ := stp_le l h0
    have hd : (l.drop (stp l).2).length ≤ n := by rw [List.length_drop]; omega
    by_cases h1 : (stp l).1 = -1
    ·rw [sc_blank p h1]
     have := ih _ (p + (stp l).2) hd
     rw [List.length_drop] at this
     omega
    ·rw [sc_tok p h0 h1]
     have := ih _ (p + (stp l).2) hd
     rw [List.length_drop] at this
     simp; omega
theorem ftoks_ok (l : List UInt8) : TkOk (ftoks l) ∧ TkVal (ftoks l) := by
 unfold ftoks
 split
 ·exact ⟨⟨by simp, fun t h => by simp at h⟩, fun t h => by simp at h⟩
 ·rename_i hl
  split
  ·refine ⟨⟨?_, fun t h => ?_⟩, fun t h => ?_⟩
   ·have := sc_len _ l 0 (Nat.le_refl _); omega
   ·have := sc_val _ l 0 (Nat.le_refl _) t h; omega
   ·exact (sc_val _ l 0 (Nat.le_refl _) t h).1
  ·exact ⟨⟨by simp, fun t h => by simp at h⟩, fun t h => by simp at h⟩
end Go.Proofs.YtgcefodgjhlbeaaGreatDoor

namespace Go.Proofs.YtgcefodgjhlbeaaGreatDoor
open Go.RowKit Go.Maps Mth

def rdOf (ts : List Tok) : Option PR → Res
 | some R => resQ ts R
 | none => ⟨zeroT, 0, 0, 0⟩
def rdT (ts : List Tok) (k : Int) : Res := rdOf ts (qType (3 * ts.length + 3) ts (startAt ts k))
set_option maxHeartbeats 3200000 in
theorem pkType_any (ts : List Tok) (hok : TkOk ts) (S : Nat → Prop) (lv : Value) (k : Int) (w : World) (h : TokAt w S lv ts) (hgl : Gl w) :
  Calls Tryz.prog 104 #[lv, .int .i64 k] w fun e w' => ∃ v, e = .returned v ∧ ResAt w' (fun c => w.heap.size ≤ c) (rdT ts k) v ∧ Below w.heap.size w w' := by
 have HO : Hid (Outs w _) := outs_new w
 have hl := hok.1
 obtain ⟨R, hR⟩ := (ends_all ts (3 * ts.length + 3)).2.1 (startAt ts k) (startAt_le ts k) (by omega)
 have hrd : rdT ts k = resQ ts R := by unfold rdT; rw [hR]; rfl
 rw [hrd]
 have HC : Hid (∀ V, Below w.heap.size w V → Calls Tryz.prog 113 #[lv, .int .i64 k, .func (.func 114) #[] #[]] V fun e w' => ∃ v, e = .returned v ∧ ResAt w' (fun c => V.heap.size ≤ c) (resQ ts R) v ∧ Below V.heap.size V w') := fun V hb => typeRead ts hok S lv k (3 * ts.length + 3) (by omega) R hR V (h.lift hb) (hgl.lift hb)
 generalize resQ ts R = Q at *
 obtain ⟨QT, qn, qe, qp⟩ := Q
 obtain ⟨a, cap, rfl, -, -⟩ := h
 clear hR hrd hgl
 go_enter Tryz.func104, Tryz.ntmps104
 go_upto_region 1 with fail
 generalize ((w.alloc (.cells #[.int .i64 0, .string ⟨#[]⟩, .int .i64 0, .int .i64 0, .slice none 0 0] 32)).alloc (.cells #[.int .i64 0, .int .i64 0] 43)) = V at *
 have hs0 := HO.out.size
 go_wp2_with fail
 go_at_call 113
 refine (HC.out V HO.out.low).mono ?_
 rintro e w3 ⟨v, rfl, ⟨u3, rfl, hrep3⟩, hb3⟩
 have HO3 := Lib.hid (HO.out.lift hb3)
 have HP3 := Lib.hid hrep3
 obtain ⟨uk, un, ui, uh, ua, um, uc, rfl⟩ := hrep3.form
 clear hrep3 hb3 HO HC
 have HF := Lib.hid (HO3.out.fin (.int .i64 uk) (.string un) (.int .i64 ui) (.int .i64 uh) (.slice ua um uc) (.int .i64 qe) (.int .i64 qp))
 obtain ⟨f0, f1, k0, k1⟩ := HO3.out.fcells
 obtain ⟨t0, t1, t2, t3, t4⟩ := HO3.out.typ.cells
 obtain ⟨g0, g1, g2, g3, g4⟩ := HO3.out.typ.frozen
 go_wp2
 obtain ⟨hB, z0, z1, hL, hK⟩ := HF.out
 clear HF t0 t1 t2 t3 t4 g0 g1 g2 g3 g4 f0 f1 k0 k1
 generalize (((((((w3.setCell ⟨w.heap.size, 0, none⟩ (.int .i64 uk)).setCell ⟨w.heap.size, 1, none⟩ (.string un)).setCell ⟨w.heap.size, 2, none⟩ (.int .i64 ui)).setCell ⟨w.heap.size, 3, none⟩ (.int .i64 uh)).setCell ⟨w.heap.size, 4, none⟩ (.slice ua um uc)).setCell ⟨w.heap.size + 1, 0, none⟩ (.int .i64 qe)).setCell ⟨w.heap.size + 1, 1, none⟩ (.int .i64 qp)) = X at *
 obtain ⟨c0, c1, c2, c3, c4⟩ := hB.cells
 refine bodyPost_ret (by simp [results, Tryz.results104, go_sem, c0, c1, c2, c3, c4, z0, z1]; try rfl) rfl ?_
 exact ⟨_, rfl, ⟨_, rfl, HP3.out.kept (fun c hc => by omega) (fun c hc hlt => hK c (by omega) hlt)⟩, hL⟩
end Go.Proofs.YtgcefodgjhlbeaaGreatDoor
