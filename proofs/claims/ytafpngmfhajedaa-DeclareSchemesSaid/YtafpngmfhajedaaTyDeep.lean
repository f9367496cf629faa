/- The contract of the reference's Deep, for programs without bindings that keep the limits. -/
import Derived.Test.YtafpngmfhajedaaTyLoop
import Derived.Test.YtafpngmfhajedaaTyDepth
namespace Go.Proofs.Ytafpngmfhajedaa
open Go.RowKit Go.Sort Go.Shelf Go.Maps Mth

/-- Within the limits. -/
def OkC (c : Ctor) : Prop := c.fields.length ≤ 4 ∧ ∀ T ∈ c.fields, dep T ≤ 40
def OkD (d : Dat) : Prop := d.params.length ≤ 4 ∧ d.ctors.length ≤ 6 ∧ ∀ c ∈ d.ctors, OkC c
/-- One element's cells, at its place. -/
theorem slG_at {α : Type} {E : El α} {w : World} {S : Nat → Prop} {xs : List α} {v : Value} (h : SlG E w S xs v) : ∃ a cap, v = .slice a xs.length cap ∧ cap ≤ maxLen ∧ xs.length ≤ cap ∧ ∀ (j : Nat) (x : α), xs[j]? = some x → ∃ ad c, a = some ad ∧ S ad.block ∧ E.rep w S x c ∧ (∀ u, c[0]? = some u → w.cell? (ad.add (j * E.k)) = some u) ∧ ∀ (m : Nat) (u : Value), m ≠ 0 → c[m]? = some u → w.cell? ⟨(ad.add (j * E.k)).block, (ad.add (j * E.k)).off + m, none⟩ = some u := by
  obtain ⟨a, cap, rfl, ⟨hc, hc2⟩, hj⟩ := h
  refine ⟨a, cap, rfl, hc2, hc, fun j x hx => ?_⟩
  obtain ⟨ad, c, rfl, hS, hcell, hrep⟩ := hj j x hx
  refine ⟨ad, c, rfl, hS, hrep, fun u hu => hcell 0 u hu, fun m u hm hu => ?_⟩
  rw [add_add' _ _ _ hm]
  exact hcell m u hu
theorem slG_get {α : Type} {E : El α} {w : World} {S : Nat → Prop} {xs : List α} {a : Option Addr} {n cap : Nat} (h : SlG E w S xs (.slice a n cap)) {j : Nat} {x : α} (hx : xs[j]? = some x) : ∃ ad c, a = some ad ∧ S ad.block ∧ E.rep w S x c ∧ (∀ u, c[0]? = some u → w.cell? (ad.add (j * E.k)) = some u) ∧ ∀ (m : Nat) (u : Value), m ≠ 0 → c[m]? = some u → w.cell? ⟨(ad.add (j * E.k)).block, (ad.add (j * E.k)).off + m, none⟩ = some u := by
  obtain ⟨a', cap', e, -, -, hj⟩ := slG_at h
  cases e
  exact hj j x hx
theorem slG_form {α : Type} {E : El α} {w : World} {S : Nat → Prop} {xs : List α} {v : Value} (h : SlG E w S xs v) : ∃ a cap, v = .slice a xs.length cap := by
  obtain ⟨a', cap', e, -, -, hj⟩ := slG_at h
  exact ⟨a', cap', e⟩
theorem SlG.lift {α : Type} {E : El α} {w w' : World} {S : Nat → Prop} {xs : List α} {v : Value} (h : SlG E w S xs v) (hb : Below w.heap.size w w') : SlG E w' S xs v := h.kept (fun _ h => h) (fun b _ hlt => hb.block b hlt)

set_option maxRecDepth 100000 in
set_option maxHeartbeats 6400000 in
theorem deep_any (ds : List Dat) (dv : Value) (S : Nat → Prop) (w : World) (hn : ds.length ≤ 8) (hok : ∀ d ∈ ds, OkD d) (h : SlG DatE w S ds dv) :
    Calls Try.prog 92 #[.agg #[dv, .slice none 0 0]] w fun e w' => e = .returned (.agg #[.int .i64 0, .int .i64 0]) ∧ Below w.heap.size w w' := by
  have HD := Lib.hid h
  have HOk := Lib.hid hok
  obtain ⟨a, cap, rfl⟩ := slG_form h
  clear h hok
  obtain ⟨n, hnn⟩ : ∃ n, n = ds.length := ⟨_, rfl⟩
  rw [← hnn] at HD hn ⊢
  have HM := Lib.hid hnn
  clear hnn
  have hb0 : Below w.heap.size w ((w.alloc (.cells #[.slice a n cap, .slice none 0 0] 102)).alloc (.cells #[.int .i64 0, .int .i64 0] 29)) := ((Below.refl _ w).alloc (Nat.le_refl _) _).alloc (by simp) _
  have hX := heap_at (w.alloc (.cells #[.slice a n cap, .slice none 0 0] 102)) (.cells #[.int .i64 0, .int .i64 0] 29)
  have HP : Hid (((w.alloc (.cells #[.slice a n cap, .slice none 0 0] 102)).alloc (.cells #[.int .i64 0, .int .i64 0] 29)).heap[w.heap.size]? = some (.cells #[.slice a n cap, .slice none 0 0] 102 (0, 0))) := by
    show _ = _
    rw [hX, if_neg (by simp), heap_at, if_pos rfl]
  have HF : Hid (((w.alloc (.cells #[.slice a n cap, .slice none 0 0] 102)).alloc (.cells #[.int .i64 0, .int .i64 0] 29)).heap[w.heap.size + 1]? = some (.cells #[.int .i64 0, .int .i64 0] 29 (0, 0))) := by
    show _ = _
    rw [hX, if_pos (by simp)]
  have hsz : ((w.alloc (.cells #[.slice a n cap, .slice none 0 0] 102)).alloc (.cells #[.int .i64 0, .int .i64 0] 29)).heap.size = w.heap.size + 2 := by simp
  clear hX
  go_enter Try.func92, Try.ntmps92
  go_wp2
  generalize ((w.alloc (.cells #[.slice a n cap, .slice none 0 0] 102)).alloc (.cells #[.int .i64 0, .int .i64 0] 29)) = W at *
  go_loopw [3] (fun x wr => ∃ j : Nat, j ≤ n ∧ x = .int .i64 j ∧ Below W.heap.size W wr) (fun x _ => n - (intOf x).toNat)
  case atStart => exact ⟨0, Nat.zero_le _, rfl, Below.refl _ _⟩
  case round =>
    obtain ⟨j, hj, rfl, hb⟩ := hrel
    have p0 : wr.cell? ⟨w.heap.size, 0, none⟩ = some (.slice a n cap) := (cell_of_block ((hb.block _ (by omega)).trans HP.out) (m := 0) rfl).1
    by_cases hlt : j < n
    · have hbw := hb0.trans (hb.mono hb0.size)
      obtain ⟨d, hd⟩ : ∃ x, ds[j]? = some x := ⟨_, List.getElem?_eq_getElem (by rw [← HM.out]; exact hlt)⟩
      obtain ⟨ok1, ok2, ok3⟩ := HOk.out d (List.mem_of_getElem? hd)
      obtain ⟨ad, c, rfl, hS, ⟨pv, cv, rfl, hp, hc⟩, hc0, hcm⟩ := slG_get (HD.out.lift hbw) hd
      have q0 := hc0 _ rfl
      have q1 := hcm 1 _ (by decide) rfl
      have q2 := hcm 2 _ (by decide) rfl
      have q3 := hcm 3 _ (by decide) rfl
      simp only [show DatE.k = 4 from rfl] at q0 q1 q2 q3
      obtain ⟨pa, pc, rfl⟩ := slG_form hp
      obtain ⟨ca, cc, rfl⟩ := slG_form hc
      have HC := Lib.hid hc
      have HO := Lib.hid ok3
      obtain ⟨np, hnp⟩ : ∃ x, x = d.params.length := ⟨_, rfl⟩
      obtain ⟨nc, hnc⟩ : ∃ x, x = d.ctors.length := ⟨_, rfl⟩
      rw [← hnp] at ok1 q2
      rw [← hnc] at ok2 q3 HC
      have HMc := Lib.hid hnc
      clear hc0 hcm hp hc ok3 hnp hnc hd hS
      have hji : (j : Int) < (n : Int) := by omega
      have h8 : (j : Int) < 8 := by omega
      have hp4 : (np : Int) ≤ 4 := by omega
      have hc6 : (nc : Int) ≤ 6 := by omega
      have hbA : ∀ o, Below W.heap.size W (wr.alloc o) := fun o => hb.alloc hb.size o
      have HN : Hid (∀ X, ((wr.alloc (.cells X 36)).heap[wr.heap.size]? = some (.cells X 36 (0, 0)))) := fun X => heap_alloc_new wr _
      go_wp2
      have hW2 := hbA (.cells #[.int .i64 d.pos, .string d.name, .slice pa np pc, .slice ca nc cc] 36)
      have HD2 := Lib.hid (HN.out #[.int .i64 d.pos, .string d.name, .slice pa np pc, .slice ca nc cc])
      have HC2 := Lib.hid (HC.out.lift ((Below.refl _ wr).alloc (Nat.le_refl _) (.cells #[.int .i64 d.pos, .string d.name, .slice pa np pc, .slice ca nc cc] 36)))
      generalize (wr.alloc (.cells #[.int .i64 d.pos, .string d.name, .slice pa np pc, .slice ca nc cc] 36)) = W2 at *
      have r3 : W2.cell? ⟨wr.heap.size, 3, none⟩ = some (.slice ca nc cc) := (cell_of_block HD2.out (m := 3) rfl).1
      clear HC HN hbA q0 q1 q2 q3 p0
      go_loopw [5] (fun x w2 => ∃ k : Nat, k ≤ nc ∧ x = .int .i64 k ∧ w2 = W2) (fun x _ => nc - (intOf x).toNat)
      case atStart => exact ⟨0, Nat.zero_le _, rfl, rfl⟩
      case round =>
        obtain ⟨k, hk, rfl, rfl⟩ := hrel
        by_cases hkl : k < nc
        · obtain ⟨c2, hc2⟩ : ∃ x, d.ctors[k]? = some x := ⟨_, List.getElem?_eq_getElem (by rw [← HMc.out]; exact hkl)⟩
          obtain ⟨ok5, -⟩ := HO.out c2 (List.mem_of_getElem? hc2)
          obtain ⟨ad2, cl, rfl, -, ⟨fv, rfl, hf⟩, -, hcm⟩ := slG_get HC2.out hc2
          have s2 := hcm 2 _ (by decide) rfl
          simp only [show CtorE.k = 3 from rfl] at s2
          obtain ⟨fa, fc, rfl⟩ := slG_form hf
          generalize c2.fields.length = nf at *
          clear hcm hf hc2
          have hkc : (k : Int) < (nc : Int) := by omega
          have hf4 : (nf : Int) ≤ 4 := by omega
          go_wp2
          go_roundw
          case rel => exact ⟨k + 1, hkl, by go_num, trivial⟩
          case measure => simp [intOf]; omega
        · obtain rfl : nc = k := by omega
          go_wp2
          go_roundw
          case rel => exact ⟨j + 1, hlt, by go_num, hW2⟩
          case measure => simp [intOf]; omega
    · obtain rfl : n = j := by omega
      have p1 : wr.cell? ⟨w.heap.size, 1, none⟩ = some (.slice none 0 0) := (cell_of_block ((hb.block _ (by omega)).trans HP.out) (m := 1) rfl).1
      have hbq := hb
      clear hb
      go_wp2
      go_loopw [6] (fun x wr => ∃ j : Nat, j ≤ n ∧ x = .int .i64 j ∧ Below W.heap.size W wr) (fun x _ => n - (intOf x).toNat)
      case atStart => exact ⟨0, Nat.zero_le _, rfl, hbq⟩
      case round =>
        clear p0 p1 hbq
        obtain ⟨j, hj, rfl, hb⟩ := hrel
        have p0 : wr.cell? ⟨w.heap.size, 0, none⟩ = some (.slice a n cap) := (cell_of_block ((hb.block _ (by omega)).trans HP.out) (m := 0) rfl).1
        by_cases hlt : j < n
        · have hbw := hb0.trans (hb.mono hb0.size)
          obtain ⟨d, hd⟩ : ∃ x, ds[j]? = some x := ⟨_, List.getElem?_eq_getElem (by rw [← HM.out]; exact hlt)⟩
          obtain ⟨ok1, ok2, ok3⟩ := HOk.out d (List.mem_of_getElem? hd)
          obtain ⟨ad, c, rfl, hS, ⟨pv, cv, rfl, hp, hc⟩, hc0, hcm⟩ := slG_get (HD.out.lift hbw) hd
          have q0 := hc0 _ rfl
          have q1 := hcm 1 _ (by decide) rfl
          have q2 := hcm 2 _ (by decide) rfl
          have q3 := hcm 3 _ (by decide) rfl
          simp only [show DatE.k = 4 from rfl] at q0 q1 q2 q3
          obtain ⟨pa, pc, rfl⟩ := slG_form hp
          obtain ⟨ca, cc, rfl⟩ := slG_form hc
          have HC := Lib.hid hc
          have HO := Lib.hid ok3
          obtain ⟨np, hnp⟩ : ∃ x, x = d.params.length := ⟨_, rfl⟩
          obtain ⟨nc, hnc⟩ : ∃ x, x = d.ctors.length := ⟨_, rfl⟩
          rw [← hnp] at ok1 q2
          rw [← hnc] at ok2 q3 HC
          have HMc := Lib.hid hnc
          clear hc0 hcm hp hc ok3 hnp hnc hd hS
          have hji : (j : Int) < (n : Int) := by omega
          have h8 : (j : Int) < 8 := by omega
          have hp4 : (np : Int) ≤ 4 := by omega
          have hc6 : (nc : Int) ≤ 6 := by omega
          have hbA : ∀ o, Below W.heap.size W (wr.alloc o) := fun o => hb.alloc hb.size o
          have HN : Hid (∀ X, ((wr.alloc (.cells X 36)).heap[wr.heap.size]? = some (.cells X 36 (0, 0)))) := fun X => heap_alloc_new wr _
          go_wp2
          have hW2 := hbA (.cells #[.int .i64 d.pos, .string d.name, .slice pa np pc, .slice ca nc cc] 36)
          have HD2 := Lib.hid (HN.out #[.int .i64 d.pos, .string d.name, .slice pa np pc, .slice ca nc cc])
          have HC2 := Lib.hid (HC.out.lift ((Below.refl _ wr).alloc (Nat.le_refl _) (.cells #[.int .i64 d.pos, .string d.name, .slice pa np pc, .slice ca nc cc] 36)))
          have hlt2 : wr.heap.size < (wr.alloc (.cells #[.int .i64 d.pos, .string d.name, .slice pa np pc, .slice ca nc cc] 36)).heap.size := by simp
          generalize (wr.alloc (.cells #[.int .i64 d.pos, .string d.name, .slice pa np pc, .slice ca nc cc] 36)) = W2 at *
          clear HC HN hbA q0 q1 q2 q3 p0
          generalize wr.heap.size = DD at *
          go_loopw [8] (fun x w4 => ∃ k : Nat, k ≤ nc ∧ x = .int .i64 k ∧ Below W2.heap.size W2 w4) (fun x _ => nc - (intOf x).toNat)
          case atStart => exact ⟨0, Nat.zero_le _, rfl, Below.refl _ _⟩
          case round =>
            obtain ⟨k, hk, rfl, hb4⟩ := hrel
            have r3 : wr.cell? ⟨DD, 3, none⟩ = some (.slice ca nc cc) := (cell_of_block ((hb4.block _ hlt2).trans HD2.out) (m := 3) rfl).1
            by_cases hkl : k < nc
            · obtain ⟨c2, hc2⟩ : ∃ x, d.ctors[k]? = some x := ⟨_, List.getElem?_eq_getElem (by rw [← HMc.out]; exact hkl)⟩
              obtain ⟨ok5, ok6⟩ := HO.out c2 (List.mem_of_getElem? hc2)
              have HO6 := Lib.hid ok6
              obtain ⟨ad2, cl, rfl, -, ⟨fv, rfl, hf⟩, -, hcm⟩ := slG_get (HC2.out.lift hb4) hc2
              have s2 := hcm 2 _ (by decide) rfl
              simp only [show CtorE.k = 3 from rfl] at s2
              obtain ⟨fa, fc, rfl⟩ := slG_form hf
              have HFs := Lib.hid hf
              obtain ⟨nf, hnf⟩ : ∃ x, x = c2.fields.length := ⟨_, rfl⟩
              rw [← hnf] at s2 HFs ok5
              have HMf := Lib.hid hnf
              clear hcm hf hc2 ok6 hnf
              have hkc : (k : Int) < (nc : Int) := by omega
              have HR3 := Lib.hid r3
              have HS2 := Lib.hid s2
              go_wp2
              clear r3 s2
              have hbW4 := hW2.trans (hb4.mono hW2.size)
              generalize hW4 : wr = W4 at *
              clear hW4
              go_loopw [9] (fun x w5 => ∃ m : Nat, m ≤ nf ∧ x = .int .i64 m ∧ Below W4.heap.size W4 w5) (fun x _ => nf - (intOf x).toNat)
              case atStart => exact ⟨0, Nat.zero_le _, rfl, Below.refl _ _⟩
              case round =>
                obtain ⟨m, hm, rfl, hb5⟩ := hrel
                have kc : ∀ p v, W4.cell? p = some v → wr.cell? p = some v := fun p v h => (hb5.cell (World.block_lt_of_cell? _ _ h)).trans h
                have r3 := kc _ _ HR3.out
                have s2 := kc _ _ HS2.out
                clear kc
                by_cases hml : m < nf
                · obtain ⟨T, hT⟩ : ∃ x, c2.fields[m]? = some x := ⟨_, List.getElem?_eq_getElem (by rw [← HMf.out]; exact hml)⟩
                  have hd40 := HO6.out T (List.mem_of_getElem? hT)
                  obtain ⟨fa', fc', e, -, hj5⟩ := slG_repL (HFs.out.lift hb5)
                  obtain ⟨ad3, x, hfa, -, h5, hx⟩ := hj5 m T hT
                  simp only [Value.slice.injEq] at e
                  have hfa := e.1.trans hfa
                  clear e
                  subst hfa
                  obtain ⟨k', n', i', h', s', eU, rfl, hn2, hs5⟩ := hx.open
                  obtain ⟨t0, t1, t2, t3, t4⟩ := five_at h5
                  obtain ⟨sa', sc', rfl, -⟩ := hs5
                  have HDp := Lib.hid (depth_any T (by omega) _ _ _ hx)
                  clear h5 hx eU hn2 hj5 hT
                  have hmf : (m : Int) < (nf : Int) := by omega
                  have hd4 : (dep T : Int) ≤ 40 := by omega
                  generalize T.ts.length = sn' at *
                  generalize dep T = dT at *
                  go_wp2_with (go_at_call 115; refine HDp.out.mono ?_; rintro e w6 ⟨rfl, hb6⟩)
                  go_roundw
                  case rel => exact ⟨m + 1, hml, by go_num, hb5.trans (hb6.mono hb5.size)⟩
                  case measure => simp [intOf]; omega
                · obtain rfl : nf = m := by omega
                  go_wp2
                  go_roundw
                  case rel => exact ⟨k + 1, hkl, by go_num, hb4.trans (hb5.mono hb4.size)⟩
                  case measure => simp [intOf]; omega
            · obtain rfl : nc = k := by omega
              go_wp2
              go_roundw
              case rel => exact ⟨j + 1, hlt, by go_num, hW2.trans (hb4.mono hW2.size)⟩
              case measure => simp [intOf]; omega
        · obtain rfl : n = j := by omega
          have p1 : wr.cell? ⟨w.heap.size, 1, none⟩ = some (.slice none 0 0) := (cell_of_block ((hb.block _ (by omega)).trans HP.out) (m := 1) rfl).1
          have hbq := hb
          clear hb
          go_wp2
          go_loopw [10] (fun x wr => x = .int .i64 0 ∧ Below W.heap.size W wr) (fun _ _ => 0)
          case atStart => exact ⟨rfl, hbq⟩
          case round =>
            clear p1 p0 hbq
            obtain ⟨rfl, hb⟩ := hrel
            have p1 : wr.cell? ⟨w.heap.size, 1, none⟩ = some (.slice none 0 0) := (cell_of_block ((hb.block _ (by omega)).trans HP.out) (m := 1) rfl).1
            have hf := (hb.block _ (by omega)).trans HF.out
            obtain ⟨f0, g0⟩ := cell_of_block hf (m := 0) rfl
            obtain ⟨f1, g1⟩ := cell_of_block hf (m := 1) rfl
            have HBL : Hid (Below w.heap.size w wr) := hb0.trans (hb.mono hb0.size)
            clear hb0
            go_wp2
            obtain ⟨a0, h0, s0⟩ := set1 hf 0 (.int .i64 0)
            obtain ⟨a1, h1, s1⟩ := set1 a0 1 (.int .i64 0)
            have hg := grown_trans h0 h1
            clear hf f0 f1 g0 g1 p1 h0 h1 s0 s1 a0
            generalize ((wr.setCell ⟨w.heap.size + 1, 0, none⟩ (.int .i64 0)).setCell ⟨w.heap.size + 1, 1, none⟩ (.int .i64 0)) = w9 at *
            have c0 : w9.cell? ⟨w.heap.size + 1, 0, none⟩ = some (.int .i64 0) := (cell_of_block a1 (m := 0) rfl).1
            have c1 : w9.cell? ⟨w.heap.size + 1, 1, none⟩ = some (.int .i64 0) := (cell_of_block a1 (m := 1) rfl).1
            refine bodyPost_ret (by simp [results, Try.results92, go_sem, c0, c1]; try rfl) rfl ?_
            exact ⟨rfl, Below.grown HBL.out hg HBL.out.size (fun k hk => by cases hk; exact Nat.le_succ _)⟩
end Go.Proofs.Ytafpngmfhajedaa
