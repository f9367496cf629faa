/- The package's Type and Atom: what they return. -/
import Derived.Test.YthphnacfidofbaaGreatDoorTyPkMb
import Derived.Shelf.Abstract
namespace Go.Proofs.YthphnacfidofbaaGreatDoor
open Go.RowKit Go.Maps Go.Shelf Mth

def resQ (ts : List Tok) : PR → Res
  | .ok T j => ⟨T, j, 0, 0⟩
  | .bad p => ⟨zeroT, 0, 3, posAt ts p⟩
/-- errors.As at the package's error, the target in a block of its own. -/
theorem as_err (p : Int) (n : Nat) (V : World) (hg : Gl V) (hn : V.heap[n]? = some (.cells #[.int .i64 0] 115 (0, 0))) :
    Calls Tryz.prog 65 #[.iface 150 (.agg #[.int .i64 p]), .iface 117 (.pointer (some ⟨n, 0, none⟩))] V fun e V' => e = .returned (.bool true) ∧ V'.cell? ⟨n, 0, none⟩ = some (.int .i64 p) ∧ V.grownBy V' (some n) := by
  have hlt : n < V.heap.size := (Array.getElem?_eq_some_iff.1 hn).1
  refine (as_hit p ⟨n, 0, none⟩ (.int .i64 0) V hg (by simp [World.cell?, hn]) (by simp [World.frozen?, hn])).mono ?_
  rintro e V' ⟨rfl, rfl⟩
  have hb : Below V.heap.size V (((((V.alloc (.cells #[.pointer (some ⟨n, 0, none⟩)] 117)).alloc (.cells #[.pointer (some ⟨7, 117, none⟩), .pointer (some ⟨V.heap.size, 0, none⟩), .int .u64 150] 140)).alloc (.cells #[.pointer (some ⟨7, 117, none⟩), .pointer (some ⟨V.heap.size, 0, none⟩), .int .u64 150] 140)).alloc (.cells #[.int .i64 p] 150)).alloc (.cells #[.int .i64 p] 115)) :=
    (((((Below.refl _ V).alloc (Nat.le_refl _) _).alloc (by simp) _).alloc (by simp; omega) _).alloc (by simp; omega) _).alloc (by simp; omega) _
  generalize (((((V.alloc (.cells #[.pointer (some ⟨n, 0, none⟩)] 117)).alloc (.cells #[.pointer (some ⟨7, 117, none⟩), .pointer (some ⟨V.heap.size, 0, none⟩), .int .u64 150] 140)).alloc (.cells #[.pointer (some ⟨7, 117, none⟩), .pointer (some ⟨V.heap.size, 0, none⟩), .int .u64 150] 140)).alloc (.cells #[.int .i64 p] 150)).alloc (.cells #[.int .i64 p] 115)) = W at *
  have hn' : W.heap[n]? = some (.cells #[.int .i64 0] 115 (0, 0)) := by rw [hb.block n hlt]; exact hn
  have hs := set1 hn' 0 (.int .i64 p)
  refine ⟨rfl, ?_, grown_trans (below_grown_some hb n) hs.2.1⟩
  simp [World.cell?, hs.1]
/-- What holds while a list is read. -/
structure RSt (w : World) (b : Nat) (ts : List Tok) (j : Nat) (V : World) : Prop where
  o : Outs w V
  rd : PkX V b ts j
  gl : Gl V
  le : w.heap.size + 2 ≤ b
theorem RSt.lift {w V V' : World} {b : Nat} {ts : List Tok} {j : Nat} (h : RSt w b ts j V) (hb : Below V.heap.size V V') : RSt w b ts j V' := ⟨h.o.lift hb, h.rd.lift hb, h.gl.lift hb, h.le⟩
theorem RSt.go {w V V' : World} {b : Nat} {ts : List Tok} {j j' : Nat} (h : RSt w b ts j V) (hr : PkX V' b ts j') (hg : V.grownBy V' (some b)) : RSt w b ts j' V' := ⟨h.o.grown h.le hg, hr, h.gl.grown (by have := h.le; omega) hg, h.le⟩
set_option maxHeartbeats 6400000 in
theorem typeRead (ts : List Tok) (hok : TkOk ts) (S : Nat → Prop) (lv : Value) (k : Int) (f : Nat) (hf : f ≤ 900000) (R : PR) (hx : qType f ts (startAt ts k) = some R) (w : World) (h : TokAt w S lv ts) (hgl : Gl w) :
    Calls Tryz.prog 43 #[lv, .int .i64 k, .func (.func 44) #[] #[]] w fun e w' => ∃ v, e = .returned v ∧ ResAt w' (fun c => w.heap.size ≤ c) (resQ ts R) v ∧ Below w.heap.size w w' := by
  have eg : ∀ args w, (callFunc 44 args).run Tryz.prog w = .ok (.enter 44 args) w := enters_of Tryz.func44 (by kernel_rfl) rfl
  have HO : Hid (Outs w _) := outs_new w
  have HQ := Lib.hid (ptype_any ts f hf (startAt ts k) R hx)
  have hi := startAt_le ts k
  obtain ⟨a, cap, rfl, hcap, hc⟩ := h
  have HT : Hid (TokAt w (fun g => g < w.heap.size) (.slice a ts.length cap) ts) := TokAt.below (S := S) ⟨a, cap, rfl, hcap, hc⟩ (Nat.le_refl _) (Below.refl _ w)
  have HG := Lib.hid hgl
  have hl := hok.1
  clear hc hgl hx
  have hcase : (k < 0 ∧ startAt ts k = ts.length) ∨ (decide (k < 0) = false ∧ (ts.length : Int) < k ∧ startAt ts k = ts.length) ∨ (∃ n : Nat, k = n ∧ n ≤ ts.length ∧ startAt ts k = n) := by
    by_cases h1 : k < 0
    · exact .inl ⟨h1, by unfold startAt; rw [if_pos (.inl h1)]⟩
    · by_cases h2 : (ts.length : Int) < k
      · exact .inr (.inl ⟨by simpa using h1, h2, by unfold startAt; rw [if_pos (.inr h2)]⟩)
      · exact .inr (.inr ⟨k.toNat, by omega, by omega, by unfold startAt; rw [if_neg (by omega)]⟩)
  have HF : Hid (∀ i V, Outs w V → Gl V → i ≤ ts.length → RSt w V.heap.size ts i (V.alloc (.cells #[.slice a ts.length cap, .int .i64 i] 111))) := fun i V ho hg hi => by
    have hb : Below V.heap.size V (V.alloc (.cells #[.slice a ts.length cap, .int .i64 i] 111)) := (Below.refl _ V).alloc (Nat.le_refl _) _
    exact ⟨ho.lift hb, ⟨_, heap_alloc_new V _, HT.out.kept (fun g hg => Nat.lt_of_lt_of_le hg (Nat.le_trans (Nat.le_add_right _ 2) ho.size)) (fun g hg hl => (ho.low.trans (hb.mono ho.low.size)).block g hg), hi, hok⟩, hg.lift hb, ho.size⟩
  have HG2 : Hid (Gl ((w.alloc (.cells #[.int .i64 0, .string ⟨#[]⟩, .int .i64 0, .int .i64 0, .slice none 0 0] 30)).alloc (.cells #[.int .i64 0, .int .i64 0] 40))) := HG.out.lift HO.out.low
  obtain ⟨i0, hi0⟩ : ∃ i0, startAt ts k = i0 := ⟨_, rfl⟩
  rw [hi0] at hcase HQ hi
  clear hi0
  have hdone : ∀ (K : Int), (K < 0 ∧ i0 = ts.length) ∨ (decide (K < 0) = false ∧ (ts.length : Int) < K ∧ i0 = ts.length) ∨ (∃ n : Nat, K = n ∧ n ≤ ts.length ∧ i0 = n) → Calls Tryz.prog 43 #[.slice a ts.length cap, .int .i64 K, .func (.func 44) #[] #[]] w fun e w' => ∃ v, e = .returned v ∧ ResAt w' (fun c => w.heap.size ≤ c) (resQ ts R) v ∧ Below w.heap.size w w' := by
    intro K hK
    rcases hK with ⟨h1, rfl⟩ | ⟨h1, h2, rfl⟩ | ⟨n, rfl, h2, rfl⟩
    rotate_left 2
    have h3 : decide ((i0 : Int) < 0) = false := by simp
    have h4 : decide (ts.length < i0) = false := by simp; omega
    all_goals
      go_enter Tryz.func43, Tryz.ntmps43
      go_upto_region 3 with fail
      generalize ((w.alloc (.cells #[.int .i64 0, .string ⟨#[]⟩, .int .i64 0, .int .i64 0, .slice none 0 0] 30)).alloc (.cells #[.int .i64 0, .int .i64 0] 40)) = V at *
      have HR0 := Lib.hid (HF.out _ V HO.out HG2.out hi)
      clear HF HG2 HO
      go_upto_region 4 with fail
      generalize (V.alloc _) = V1 at *
      generalize V.heap.size = b at *
      have hb1 := HR0.out.rd.lt
      go_wp2_with fail
      go_at_call 44
      refine (HQ.out b (b + 1) V1 (Nat.lt_succ_self b) hb1 HR0.out.rd).mono ?_
      intro e w1 he
      cases R with
      | ok T j =>
        obtain ⟨u, rfl, hrep, hrd, hg⟩ := he.ok
        have HR1 := Lib.hid (HR0.out.go hrd hg)
        obtain ⟨uk, un, ui, uh, ua, um, uc, rfl⟩ := hrep.form
        have hba : Below w1.heap.size w1 ((w1.alloc (.cells #[.int .i64 uk, .string un, .int .i64 ui, .int .i64 uh, .slice ua um uc] 30)).alloc (.cells #[.int .i64 0] 115)) := ((Below.refl _ w1).alloc (Nat.le_refl _) _).alloc (by simp) _
        have HR2 := Lib.hid (HR1.out.lift hba)
        have HP2 := Lib.hid (hrep.lift hba)
        have HB2 : Hid (Box ((w1.alloc (.cells #[.int .i64 uk, .string un, .int .i64 ui, .int .i64 uh, .slice ua um uc] 30)).alloc (.cells #[.int .i64 0] 115)) w1.heap.size (.int .i64 uk) (.string un) (.int .i64 ui) (.int .i64 uh) (.slice ua um uc)) := by
          show Box _ _ _ _ _ _ _
          unfold Box; rw [heap_at, if_neg (by simp), heap_at, if_pos rfl]
        have hs1 := HR1.out.rd.lt
        clear hrep hrd hg he HR0 HQ hba HR1
        go_wp2_with fail
        go_at_call 65
        generalize ((w1.alloc (.cells #[.int .i64 uk, .string un, .int .i64 ui, .int .i64 uh, .slice ua um uc] 30)).alloc (.cells #[.int .i64 0] 115)) = V2 at *
        refine (as_nil _ V2).mono ?_
        rintro e w3 ⟨rfl, rfl⟩
        generalize w1.heap.size = n4 at *
        obtain ⟨a', cap', c0, c1, f1, -, -⟩ := HR2.out.rd.cells
        obtain ⟨d0, d1, d2, d3, d4⟩ := HB2.out.cells
        obtain ⟨z0, z1, k0, k1⟩ := HR2.out.o.fcells
        obtain ⟨t0, t1, t2, t3, t4⟩ := HR2.out.o.typ.cells
        obtain ⟨g0, g1, g2, g3, g4⟩ := HR2.out.o.typ.frozen
        have HE := Lib.hid (HR2.out.o.fin (.int .i64 uk) (.string un) (.int .i64 ui) (.int .i64 uh) (.slice ua um uc) (.int .i64 0) (.int .i64 0))
        have hle := HR2.out.le
        have hne1 : b ≠ w.heap.size := by omega
        have hne2 : b ≠ w.heap.size + 1 := by omega
        have hne3 : n4 ≠ w.heap.size := by omega
        have hne4 : n4 ≠ w.heap.size + 1 := by omega
        go_wp2
        go_region
        all_goals
          obtain ⟨hB, y0, y1, hL, hK⟩ := HE.out
          clear HE c0 c1 f1 d0 d1 d2 d3 d4 z0 z1 k0 k1 t0 t1 t2 t3 t4 g0 g1 g2 g3 g4
          generalize (((((((V2.setCell ⟨w.heap.size, 0, none⟩ (.int .i64 uk)).setCell ⟨w.heap.size, 1, none⟩ (.string un)).setCell ⟨w.heap.size, 2, none⟩ (.int .i64 ui)).setCell ⟨w.heap.size, 3, none⟩ (.int .i64 uh)).setCell ⟨w.heap.size, 4, none⟩ (.slice ua um uc)).setCell ⟨w.heap.size + 1, 0, none⟩ (.int .i64 0)).setCell ⟨w.heap.size + 1, 1, none⟩ (.int .i64 0)) = X at *
          have hB' : Box X.drew w.heap.size (.int .i64 uk) (.string un) (.int .i64 ui) (.int .i64 uh) (.slice ua um uc) := hB
          have y0' : X.drew.cell? ⟨w.heap.size + 1, 0, none⟩ = some (.int .i64 0) := y0
          have y1' : X.drew.cell? ⟨w.heap.size + 1, 1, none⟩ = some (.int .i64 0) := y1
          obtain ⟨c0, c1, c2, c3, c4⟩ := hB'.cells
          go_wp2
          refine bodyPost_ret (by simp [results, Tryz.results43, go_sem, c0, c1, c2, c3, c4, y0', y1']; try rfl) rfl ?_
          exact ⟨_, rfl, ⟨_, rfl, (HP2.out.kept (S' := fun c => w.heap.size ≤ c) (fun c hc => by omega) (fun c hc hlt => hK c (by omega) hlt)).lift (Below.refl _ X).drew⟩, hL.drew⟩
      | bad p =>
        obtain ⟨u, T, j, rfl, hrep, hrd, hg⟩ := he.bad
        have HR1 := Lib.hid (HR0.out.go hrd hg)
        obtain ⟨uk, un, ui, uh, ua, um, uc, rfl⟩ := hrep.form
        have hba : Below w1.heap.size w1 ((w1.alloc (.cells #[.int .i64 uk, .string un, .int .i64 ui, .int .i64 uh, .slice ua um uc] 30)).alloc (.cells #[.int .i64 0] 115)) := ((Below.refl _ w1).alloc (Nat.le_refl _) _).alloc (by simp) _
        have HR2 := Lib.hid (HR1.out.lift hba)
        have HN2 : Hid (((w1.alloc (.cells #[.int .i64 uk, .string un, .int .i64 ui, .int .i64 uh, .slice ua um uc] 30)).alloc (.cells #[.int .i64 0] 115)).heap[w1.heap.size + 1]? = some (.cells #[.int .i64 0] 115 (0, 0))) := by
          show _ = _
          rw [heap_at, if_pos (by simp)]
        have hs1 := HR1.out.rd.lt
        clear hrep hrd hg he HR0 HQ hba HR1
        go_wp2_with fail
        go_at_call 65
        generalize ((w1.alloc (.cells #[.int .i64 uk, .string un, .int .i64 ui, .int .i64 uh, .slice ua um uc] 30)).alloc (.cells #[.int .i64 0] 115)) = V2 at *
        have HAs := Lib.hid (as_err (posAt ts p) (w1.heap.size + 1) V2 HR2.out.gl HN2.out)
        generalize w1.heap.size = n4 at *
        refine HAs.out.mono ?_
        rintro e w3 ⟨rfl, hat, hg3⟩
        have hle := HR2.out.le
        have HO3 := Lib.hid (HR2.out.o.grown (by omega) hg3)
        clear HR2 HN2 HAs hg3
        obtain ⟨z0, z1, k0, k1⟩ := HO3.out.fcells
        obtain ⟨t0, t1, t2, t3, t4⟩ := HO3.out.typ.cells
        obtain ⟨g0, g1, g2, g3, g4⟩ := HO3.out.typ.frozen
        have HE := Lib.hid (HO3.out.fin (.int .i64 0) (.string ⟨#[]⟩) (.int .i64 0) (.int .i64 0) (.slice none 0 0) (.int .i64 3) (.int .i64 (posAt ts p)))
        have hne1 : n4 + 1 ≠ w.heap.size := by omega
        have hne2 : n4 + 1 ≠ w.heap.size + 1 := by omega
        go_wp2
        go_region
        all_goals
          obtain ⟨hB, y0, y1, hL, hK⟩ := HE.out
          clear HE hat z0 z1 k0 k1 t0 t1 t2 t3 t4 g0 g1 g2 g3 g4
          generalize (((((((w3.setCell ⟨w.heap.size, 0, none⟩ (.int .i64 0)).setCell ⟨w.heap.size, 1, none⟩ (.string ⟨#[]⟩)).setCell ⟨w.heap.size, 2, none⟩ (.int .i64 0)).setCell ⟨w.heap.size, 3, none⟩ (.int .i64 0)).setCell ⟨w.heap.size, 4, none⟩ (.slice none 0 0)).setCell ⟨w.heap.size + 1, 0, none⟩ (.int .i64 3)).setCell ⟨w.heap.size + 1, 1, none⟩ (.int .i64 (posAt ts p))) = X at *
          have hB' : Box X.drew w.heap.size (.int .i64 0) (.string ⟨#[]⟩) (.int .i64 0) (.int .i64 0) (.slice none 0 0) := hB
          have y0' : X.drew.cell? ⟨w.heap.size + 1, 0, none⟩ = some (.int .i64 3) := y0
          have y1' : X.drew.cell? ⟨w.heap.size + 1, 1, none⟩ = some (.int .i64 (posAt ts p)) := y1
          obtain ⟨c0, c1, c2, c3, c4⟩ := hB'.cells
          go_wp2
          refine bodyPost_ret (by simp [results, Tryz.results43, go_sem, c0, c1, c2, c3, c4, y0', y1']; try rfl) rfl ?_
          exact ⟨_, rfl, ⟨_, rfl, rep_leaf _ _ 0 ⟨#[]⟩ 0 0 zero_ok⟩, hL.drew⟩
  exact hdone k hcase
set_option maxHeartbeats 6400000 in
theorem atomRead (ts : List Tok) (hok : TkOk ts) (S : Nat → Prop) (lv : Value) (k : Int) (f : Nat) (hf : f ≤ 900000) (R : PR) (hx : qAtom f ts (startAt ts k) = some R) (w : World) (h : TokAt w S lv ts) (hgl : Gl w) :
    Calls Tryz.prog 43 #[lv, .int .i64 k, .func (.func 46) #[] #[]] w fun e w' => ∃ v, e = .returned v ∧ ResAt w' (fun c => w.heap.size ≤ c) (resQ ts R) v ∧ Below w.heap.size w w' := by
  have eg : ∀ args w, (callFunc 46 args).run Tryz.prog w = .ok (.enter 46 args) w := enters_of Tryz.func46 (by kernel_rfl) rfl
  have HO : Hid (Outs w _) := outs_new w
  have HQ := Lib.hid (patom_any ts f hf (startAt ts k) R hx)
  have hi := startAt_le ts k
  obtain ⟨a, cap, rfl, hcap, hc⟩ := h
  have HT : Hid (TokAt w (fun g => g < w.heap.size) (.slice a ts.length cap) ts) := TokAt.below (S := S) ⟨a, cap, rfl, hcap, hc⟩ (Nat.le_refl _) (Below.refl _ w)
  have HG := Lib.hid hgl
  have hl := hok.1
  clear hc hgl hx
  have hcase : (k < 0 ∧ startAt ts k = ts.length) ∨ (decide (k < 0) = false ∧ (ts.length : Int) < k ∧ startAt ts k = ts.length) ∨ (∃ n : Nat, k = n ∧ n ≤ ts.length ∧ startAt ts k = n) := by
    by_cases h1 : k < 0
    · exact .inl ⟨h1, by unfold startAt; rw [if_pos (.inl h1)]⟩
    · by_cases h2 : (ts.length : Int) < k
      · exact .inr (.inl ⟨by simpa using h1, h2, by unfold startAt; rw [if_pos (.inr h2)]⟩)
      · exact .inr (.inr ⟨k.toNat, by omega, by omega, by unfold startAt; rw [if_neg (by omega)]⟩)
  have HF : Hid (∀ i V, Outs w V → Gl V → i ≤ ts.length → RSt w V.heap.size ts i (V.alloc (.cells #[.slice a ts.length cap, .int .i64 i] 111))) := fun i V ho hg hi => by
    have hb : Below V.heap.size V (V.alloc (.cells #[.slice a ts.length cap, .int .i64 i] 111)) := (Below.refl _ V).alloc (Nat.le_refl _) _
    exact ⟨ho.lift hb, ⟨_, heap_alloc_new V _, HT.out.kept (fun g hg => Nat.lt_of_lt_of_le hg (Nat.le_trans (Nat.le_add_right _ 2) ho.size)) (fun g hg hl => (ho.low.trans (hb.mono ho.low.size)).block g hg), hi, hok⟩, hg.lift hb, ho.size⟩
  have HG2 : Hid (Gl ((w.alloc (.cells #[.int .i64 0, .string ⟨#[]⟩, .int .i64 0, .int .i64 0, .slice none 0 0] 30)).alloc (.cells #[.int .i64 0, .int .i64 0] 40))) := HG.out.lift HO.out.low
  obtain ⟨i0, hi0⟩ : ∃ i0, startAt ts k = i0 := ⟨_, rfl⟩
  rw [hi0] at hcase HQ hi
  clear hi0
  have hdone : ∀ (K : Int), (K < 0 ∧ i0 = ts.length) ∨ (decide (K < 0) = false ∧ (ts.length : Int) < K ∧ i0 = ts.length) ∨ (∃ n : Nat, K = n ∧ n ≤ ts.length ∧ i0 = n) → Calls Tryz.prog 43 #[.slice a ts.length cap, .int .i64 K, .func (.func 46) #[] #[]] w fun e w' => ∃ v, e = .returned v ∧ ResAt w' (fun c => w.heap.size ≤ c) (resQ ts R) v ∧ Below w.heap.size w w' := by
    intro K hK
    rcases hK with ⟨h1, rfl⟩ | ⟨h1, h2, rfl⟩ | ⟨n, rfl, h2, rfl⟩
    rotate_left 2
    have h3 : decide ((i0 : Int) < 0) = false := by simp
    have h4 : decide (ts.length < i0) = false := by simp; omega
    all_goals
      go_enter Tryz.func43, Tryz.ntmps43
      go_upto_region 3 with fail
      generalize ((w.alloc (.cells #[.int .i64 0, .string ⟨#[]⟩, .int .i64 0, .int .i64 0, .slice none 0 0] 30)).alloc (.cells #[.int .i64 0, .int .i64 0] 40)) = V at *
      have HR0 := Lib.hid (HF.out _ V HO.out HG2.out hi)
      clear HF HG2 HO
      go_upto_region 4 with fail
      generalize (V.alloc _) = V1 at *
      generalize V.heap.size = b at *
      have hb1 := HR0.out.rd.lt
      go_wp2_with fail
      go_at_call 46
      refine (HQ.out b (b + 1) V1 (Nat.lt_succ_self b) hb1 HR0.out.rd).mono ?_
      intro e w1 he
      cases R with
      | ok T j =>
        obtain ⟨u, rfl, hrep, hrd, hg⟩ := he.ok
        have HR1 := Lib.hid (HR0.out.go hrd hg)
        obtain ⟨uk, un, ui, uh, ua, um, uc, rfl⟩ := hrep.form
        have hba : Below w1.heap.size w1 ((w1.alloc (.cells #[.int .i64 uk, .string un, .int .i64 ui, .int .i64 uh, .slice ua um uc] 30)).alloc (.cells #[.int .i64 0] 115)) := ((Below.refl _ w1).alloc (Nat.le_refl _) _).alloc (by simp) _
        have HR2 := Lib.hid (HR1.out.lift hba)
        have HP2 := Lib.hid (hrep.lift hba)
        have HB2 : Hid (Box ((w1.alloc (.cells #[.int .i64 uk, .string un, .int .i64 ui, .int .i64 uh, .slice ua um uc] 30)).alloc (.cells #[.int .i64 0] 115)) w1.heap.size (.int .i64 uk) (.string un) (.int .i64 ui) (.int .i64 uh) (.slice ua um uc)) := by
          show Box _ _ _ _ _ _ _
          unfold Box; rw [heap_at, if_neg (by simp), heap_at, if_pos rfl]
        have hs1 := HR1.out.rd.lt
        clear hrep hrd hg he HR0 HQ hba HR1
        go_wp2_with fail
        go_at_call 65
        generalize ((w1.alloc (.cells #[.int .i64 uk, .string un, .int .i64 ui, .int .i64 uh, .slice ua um uc] 30)).alloc (.cells #[.int .i64 0] 115)) = V2 at *
        refine (as_nil _ V2).mono ?_
        rintro e w3 ⟨rfl, rfl⟩
        generalize w1.heap.size = n4 at *
        obtain ⟨a', cap', c0, c1, f1, -, -⟩ := HR2.out.rd.cells
        obtain ⟨d0, d1, d2, d3, d4⟩ := HB2.out.cells
        obtain ⟨z0, z1, k0, k1⟩ := HR2.out.o.fcells
        obtain ⟨t0, t1, t2, t3, t4⟩ := HR2.out.o.typ.cells
        obtain ⟨g0, g1, g2, g3, g4⟩ := HR2.out.o.typ.frozen
        have HE := Lib.hid (HR2.out.o.fin (.int .i64 uk) (.string un) (.int .i64 ui) (.int .i64 uh) (.slice ua um uc) (.int .i64 0) (.int .i64 0))
        have hle := HR2.out.le
        have hne1 : b ≠ w.heap.size := by omega
        have hne2 : b ≠ w.heap.size + 1 := by omega
        have hne3 : n4 ≠ w.heap.size := by omega
        have hne4 : n4 ≠ w.heap.size + 1 := by omega
        go_wp2
        go_region
        all_goals
          obtain ⟨hB, y0, y1, hL, hK⟩ := HE.out
          clear HE c0 c1 f1 d0 d1 d2 d3 d4 z0 z1 k0 k1 t0 t1 t2 t3 t4 g0 g1 g2 g3 g4
          generalize (((((((V2.setCell ⟨w.heap.size, 0, none⟩ (.int .i64 uk)).setCell ⟨w.heap.size, 1, none⟩ (.string un)).setCell ⟨w.heap.size, 2, none⟩ (.int .i64 ui)).setCell ⟨w.heap.size, 3, none⟩ (.int .i64 uh)).setCell ⟨w.heap.size, 4, none⟩ (.slice ua um uc)).setCell ⟨w.heap.size + 1, 0, none⟩ (.int .i64 0)).setCell ⟨w.heap.size + 1, 1, none⟩ (.int .i64 0)) = X at *
          have hB' : Box X.drew w.heap.size (.int .i64 uk) (.string un) (.int .i64 ui) (.int .i64 uh) (.slice ua um uc) := hB
          have y0' : X.drew.cell? ⟨w.heap.size + 1, 0, none⟩ = some (.int .i64 0) := y0
          have y1' : X.drew.cell? ⟨w.heap.size + 1, 1, none⟩ = some (.int .i64 0) := y1
          obtain ⟨c0, c1, c2, c3, c4⟩ := hB'.cells
          go_wp2
          refine bodyPost_ret (by simp [results, Tryz.results43, go_sem, c0, c1, c2, c3, c4, y0', y1']; try rfl) rfl ?_
          exact ⟨_, rfl, ⟨_, rfl, (HP2.out.kept (S' := fun c => w.heap.size ≤ c) (fun c hc => by omega) (fun c hc hlt => hK c (by omega) hlt)).lift (Below.refl _ X).drew⟩, hL.drew⟩
      | bad p =>
        obtain ⟨u, T, j, rfl, hrep, hrd, hg⟩ := he.bad
        have HR1 := Lib.hid (HR0.out.go hrd hg)
        obtain ⟨uk, un, ui, uh, ua, um, uc, rfl⟩ := hrep.form
        have hba : Below w1.heap.size w1 ((w1.alloc (.cells #[.int .i64 uk, .string un, .int .i64 ui, .int .i64 uh, .slice ua um uc] 30)).alloc (.cells #[.int .i64 0] 115)) := ((Below.refl _ w1).alloc (Nat.le_refl _) _).alloc (by simp) _
        have HR2 := Lib.hid (HR1.out.lift hba)
        have HN2 : Hid (((w1.alloc (.cells #[.int .i64 uk, .string un, .int .i64 ui, .int .i64 uh, .slice ua um uc] 30)).alloc (.cells #[.int .i64 0] 115)).heap[w1.heap.size + 1]? = some (.cells #[.int .i64 0] 115 (0, 0))) := by
          show _ = _
          rw [heap_at, if_pos (by simp)]
        have hs1 := HR1.out.rd.lt
        clear hrep hrd hg he HR0 HQ hba HR1
        go_wp2_with fail
        go_at_call 65
        generalize ((w1.alloc (.cells #[.int .i64 uk, .string un, .int .i64 ui, .int .i64 uh, .slice ua um uc] 30)).alloc (.cells #[.int .i64 0] 115)) = V2 at *
        have HAs := Lib.hid (as_err (posAt ts p) (w1.heap.size + 1) V2 HR2.out.gl HN2.out)
        generalize w1.heap.size = n4 at *
        refine HAs.out.mono ?_
        rintro e w3 ⟨rfl, hat, hg3⟩
        have hle := HR2.out.le
        have HO3 := Lib.hid (HR2.out.o.grown (by omega) hg3)
        clear HR2 HN2 HAs hg3
        obtain ⟨z0, z1, k0, k1⟩ := HO3.out.fcells
        obtain ⟨t0, t1, t2, t3, t4⟩ := HO3.out.typ.cells
        obtain ⟨g0, g1, g2, g3, g4⟩ := HO3.out.typ.frozen
        have HE := Lib.hid (HO3.out.fin (.int .i64 0) (.string ⟨#[]⟩) (.int .i64 0) (.int .i64 0) (.slice none 0 0) (.int .i64 3) (.int .i64 (posAt ts p)))
        have hne1 : n4 + 1 ≠ w.heap.size := by omega
        have hne2 : n4 + 1 ≠ w.heap.size + 1 := by omega
        go_wp2
        go_region
        all_goals
          obtain ⟨hB, y0, y1, hL, hK⟩ := HE.out
          clear HE hat z0 z1 k0 k1 t0 t1 t2 t3 t4 g0 g1 g2 g3 g4
          generalize (((((((w3.setCell ⟨w.heap.size, 0, none⟩ (.int .i64 0)).setCell ⟨w.heap.size, 1, none⟩ (.string ⟨#[]⟩)).setCell ⟨w.heap.size, 2, none⟩ (.int .i64 0)).setCell ⟨w.heap.size, 3, none⟩ (.int .i64 0)).setCell ⟨w.heap.size, 4, none⟩ (.slice none 0 0)).setCell ⟨w.heap.size + 1, 0, none⟩ (.int .i64 3)).setCell ⟨w.heap.size + 1, 1, none⟩ (.int .i64 (posAt ts p))) = X at *
          have hB' : Box X.drew w.heap.size (.int .i64 0) (.string ⟨#[]⟩) (.int .i64 0) (.int .i64 0) (.slice none 0 0) := hB
          have y0' : X.drew.cell? ⟨w.heap.size + 1, 0, none⟩ = some (.int .i64 3) := y0
          have y1' : X.drew.cell? ⟨w.heap.size + 1, 1, none⟩ = some (.int .i64 (posAt ts p)) := y1
          obtain ⟨c0, c1, c2, c3, c4⟩ := hB'.cells
          go_wp2
          refine bodyPost_ret (by simp [results, Tryz.results43, go_sem, c0, c1, c2, c3, c4, y0', y1']; try rfl) rfl ?_
          exact ⟨_, rfl, ⟨_, rfl, rep_leaf _ _ 0 ⟨#[]⟩ 0 0 zero_ok⟩, hL.drew⟩
  exact hdone k hcase
end Go.Proofs.YthphnacfidofbaaGreatDoor
