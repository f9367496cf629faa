import Derived.Test.YtgfjcpeeoapjlaaQV21
import Derived.Test.YtgfjcpeeoapjlaaQV18
import Derived.Test.YtgfjcpeeoapjlaaQV02
import Derived.Test.YtgfjcpeeoapjlaaQV06
import Derived.Deep.Cut
import Derived.Laws.CopyOwn
import Derived.Laws.MakeOwn
/- The contract of the reference's Deep, for programs without bindings that keep the limits. -/
namespace Go.Proofs.Ytgfjcpeeoapjlaa.S3
open Go.RowKit Go.Maps Mth

/-- Within the limits. -/
def OkC (c : Ctor) : Prop := c.fields.length ≤ 4 ∧ ∀ T ∈ c.fields, dep T ≤ 40
def OkD (d : Dat) : Prop := d.params.length ≤ 4 ∧ d.ctors.length ≤ 6 ∧ ∀ c ∈ d.ctors, OkC c
/-- One element's cells, at its place. -/
theorem slG_at {α : Type} {E : El α} {w : World} {S : Nat → Prop} {xs : List α} {v : Value} (h : SlG E w S xs v) : ∃ a cap, v = .slice a xs.length cap ∧ cap ≤ maxLen ∧ xs.length ≤ cap ∧ ∀ (j : Nat) (x : α), xs[j]? = some x → ∃ ad c, a = some ad ∧ S ad.block ∧ E.rep w S x c ∧ (∀ u, c[0]? = some u → w.cell? (ad.add (j * E.k)) = some u) ∧ ∀ (m : Nat) (u : Value), m ≠ 0 → c[m]? = some u → w.cell? ⟨(ad.add (j * E.k)).block, (ad.add (j * E.k)).off + m, none⟩ = some u := by
  obtain ⟨a, cap, rfl, ⟨hc, hc2⟩, hj⟩ := h
  refine ⟨a, cap, rfl, hc2, hc, fun j x hx => ?_⟩
  obtain ⟨ad, c, rfl, hS, hcell, hrep⟩ := hj j x hx
  refine ⟨ad, c, rfl, hS, hrep, fun u hu => hcell 0 u hu, fun m u hm hu => ?_⟩
  rw [add_add' _ _ _ hm]
  exact hcell m u hu
theorem slG_get {α : Type} {E : El α} {w : World} {S : Nat → Prop} {xs : List α} {a : Option Addr} {n cap : Nat} (h : SlG E w S xs (.slice a n cap)) {j : Nat} {x : α} (hx : xs[j]? = some x) : ∃ ad c, a = some ad ∧ S ad.block ∧ E.rep w S x c ∧ (∀ u, c[0]? = some u → w.cell? (ad.add (j * E.k)) = some u) ∧ ∀ (m : Nat) (u : Value), m ≠ 0 → c[m]? = some u → w.cell? ⟨(ad.add (j * E.k)).block, (ad.add (j * E.k)).off + m, none⟩ = some u := by
  obtain ⟨a', cap', e, -, -, hj⟩ := slG_at h
  cases e
  exact hj j x hx
theorem slG_form {α : Type} {E : El α} {w : World} {S : Nat → Prop} {xs : List α} {v : Value} (h : SlG E w S xs v) : ∃ a cap, v = .slice a xs.length cap := by
  obtain ⟨a', cap', e, -, -, hj⟩ := slG_at h
  exact ⟨a', cap', e⟩
theorem _root_.Go.Proofs.Ytgfjcpeeoapjlaa.SlG.lift {α : Type} {E : El α} {w w' : World} {S : Nat → Prop} {xs : List α} {v : Value} (h : SlG E w S xs v) (hb : Below w.heap.size w w') : SlG E w' S xs v := h.kept (fun _ h => h) (fun b _ hlt => hb.block b hlt)

set_option maxRecDepth 100000 in
set_option maxHeartbeats 6400000 in
theorem deep_any (ds : List Dat) (dv : Value) (S : Nat → Prop) (w : World) (hn : ds.length ≤ 8) (hok : ∀ d ∈ ds, OkD d) (h : SlG DatE w S ds dv) :
    Calls Try.prog 59 #[.agg #[dv, .slice none 0 0]] w fun e w' => e = .returned (.agg #[.int .i64 0, .int .i64 0]) ∧ Below w.heap.size w w' := by
  have HD := Lib.hid h
  have HOk := Lib.hid hok
  obtain ⟨a, cap, rfl⟩ := slG_form h
  clear h hok
  obtain ⟨n, hnn⟩ : ∃ n, n = ds.length := ⟨_, rfl⟩
  rw [← hnn] at HD hn ⊢
  have HM := Lib.hid hnn
  clear hnn
  have hb0 : Below w.heap.size w ((w.alloc (.cells #[.slice a n cap, .slice none 0 0] 86)).alloc (.cells #[.int .i64 0, .int .i64 0] 45)) := ((Below.refl _ w).alloc (Nat.le_refl _) _).alloc (by simp) _
  have hX := heap_at (w.alloc (.cells #[.slice a n cap, .slice none 0 0] 86)) (.cells #[.int .i64 0, .int .i64 0] 45)
  have HP : Hid (((w.alloc (.cells #[.slice a n cap, .slice none 0 0] 86)).alloc (.cells #[.int .i64 0, .int .i64 0] 45)).heap[w.heap.size]? = some (.cells #[.slice a n cap, .slice none 0 0] 86 (0, 0))) := by
    show _ = _
    rw [hX, if_neg (by simp), heap_at, if_pos rfl]
  have HF : Hid (((w.alloc (.cells #[.slice a n cap, .slice none 0 0] 86)).alloc (.cells #[.int .i64 0, .int .i64 0] 45)).heap[w.heap.size + 1]? = some (.cells #[.int .i64 0, .int .i64 0] 45 (0, 0))) := by
    show _ = _
    rw [hX, if_pos (by simp)]
  have hsz : ((w.alloc (.cells #[.slice a n cap, .slice none 0 0] 86)).alloc (.cells #[.int .i64 0, .int .i64 0] 45)).heap.size = w.heap.size + 2 := by simp
  clear hX
  go_enter Try.func59, Try.ntmps59
  go_wp2
  generalize ((w.alloc (.cells #[.slice a n cap, .slice none 0 0] 86)).alloc (.cells #[.int .i64 0, .int .i64 0] 45)) = W at *
  go_loopw [3] (fun x wr => ∃ j : Nat, j ≤ n ∧ x = .int .i64 j ∧ Below W.heap.size W wr) (fun x _ => n - (intOf x).toNat)
  case atStart => exact ⟨0, Nat.zero_le _, rfl, Below.refl _ _⟩
  case round =>
    obtain ⟨j, hj, rfl, hb⟩ := hrel
    have p0 : wr.cell? ⟨w.heap.size, 0, none⟩ = some (.slice a n cap) := (cell_of_block ((hb.block _ (by omega)).trans HP.out) (m := 0) rfl).1
    by_cases hlt : j < n
    · have hbw := hb0.trans (hb.mono hb0.size)
      obtain ⟨d, hd⟩ : ∃ x, ds[j]? = some x := ⟨_, List.getElem?_eq_getElem (by rw [← HM.out]; exact hlt)⟩
      obtain ⟨ok1, ok2, ok3⟩ := HOk.out d (List.mem_of_getElem? hd)
      obtain ⟨ad, c, rfl, hS, ⟨pv, cv, rfl, hp, hc⟩, hc0, hcm⟩ := slG_get (HD.out.lift hbw) hd
      have q0 := hc0 _ rfl
      have q1 := hcm 1 _ (by decide) rfl
      have q2 := hcm 2 _ (by decide) rfl
      have q3 := hcm 3 _ (by decide) rfl
      simp only [show DatE.k = 4 from rfl] at q0 q1 q2 q3
      obtain ⟨pa, pc, rfl⟩ := slG_form hp
      obtain ⟨ca, cc, rfl⟩ := slG_form hc
      have HC := Lib.hid hc
      have HO := Lib.hid ok3
      obtain ⟨np, hnp⟩ : ∃ x, x = d.params.length := ⟨_, rfl⟩
      obtain ⟨nc, hnc⟩ : ∃ x, x = d.ctors.length := ⟨_, rfl⟩
      rw [← hnp] at ok1 q2
      rw [← hnc] at ok2 q3 HC
      have HMc := Lib.hid hnc
      clear hc0 hcm hp hc ok3 hnp hnc hd hS
      have hji : (j : Int) < (n : Int) := by omega
      have h8 : (j : Int) < 8 := by omega
      have hp4 : (np : Int) ≤ 4 := by omega
      have hc6 : (nc : Int) ≤ 6 := by omega
      have hbA : ∀ o, Below W.heap.size W (wr.alloc o) := fun o => hb.alloc hb.size o
      have HN : Hid (∀ X, ((wr.alloc (.cells X 62)).heap[wr.heap.size]? = some (.cells X 62 (0, 0)))) := fun X => heap_alloc_new wr _
      go_wp2
      have hW2 := hbA (.cells #[.int .i64 d.pos, .string d.name, .slice pa np pc, .slice ca nc cc] 62)
      have HD2 := Lib.hid (HN.out #[.int .i64 d.pos, .string d.name, .slice pa np pc, .slice ca nc cc])
      have HC2 := Lib.hid (HC.out.lift ((Below.refl _ wr).alloc (Nat.le_refl _) (.cells #[.int .i64 d.pos, .string d.name, .slice pa np pc, .slice ca nc cc] 62)))
      generalize (wr.alloc (.cells #[.int .i64 d.pos, .string d.name, .slice pa np pc, .slice ca nc cc] 62)) = W2 at *
      have r3 : W2.cell? ⟨wr.heap.size, 3, none⟩ = some (.slice ca nc cc) := (cell_of_block HD2.out (m := 3) rfl).1
      clear HC HN hbA q0 q1 q2 q3 p0
      go_loopw [5] (fun x w2 => ∃ k : Nat, k ≤ nc ∧ x = .int .i64 k ∧ w2 = W2) (fun x _ => nc - (intOf x).toNat)
      case atStart => exact ⟨0, Nat.zero_le _, rfl, rfl⟩
      case round =>
        obtain ⟨k, hk, rfl, rfl⟩ := hrel
        by_cases hkl : k < nc
        · obtain ⟨c2, hc2⟩ : ∃ x, d.ctors[k]? = some x := ⟨_, List.getElem?_eq_getElem (by rw [← HMc.out]; exact hkl)⟩
          obtain ⟨ok5, -⟩ := HO.out c2 (List.mem_of_getElem? hc2)
          obtain ⟨ad2, cl, rfl, -, ⟨fv, rfl, hf⟩, -, hcm⟩ := slG_get HC2.out hc2
          have s2 := hcm 2 _ (by decide) rfl
          simp only [show CtorE.k = 3 from rfl] at s2
          obtain ⟨fa, fc, rfl⟩ := slG_form hf
          generalize c2.fields.length = nf at *
          clear hcm hf hc2
          have hkc : (k : Int) < (nc : Int) := by omega
          have hf4 : (nf : Int) ≤ 4 := by omega
          go_wp2
          go_roundw
          case rel => exact ⟨k + 1, hkl, by go_num, trivial⟩
          case measure => simp [intOf]; omega
        · obtain rfl : nc = k := by omega
          go_wp2
          go_roundw
          case rel => exact ⟨j + 1, hlt, by go_num, hW2⟩
          case measure => simp [intOf]; omega
    · obtain rfl : n = j := by omega
      have p1 : wr.cell? ⟨w.heap.size, 1, none⟩ = some (.slice none 0 0) := (cell_of_block ((hb.block _ (by omega)).trans HP.out) (m := 1) rfl).1
      have hbq := hb
      clear hb
      go_wp2
      go_loopw [6] (fun x wr => ∃ j : Nat, j ≤ n ∧ x = .int .i64 j ∧ Below W.heap.size W wr) (fun x _ => n - (intOf x).toNat)
      case atStart => exact ⟨0, Nat.zero_le _, rfl, hbq⟩
      case round =>
        clear p0 p1 hbq
        obtain ⟨j, hj, rfl, hb⟩ := hrel
        have p0 : wr.cell? ⟨w.heap.size, 0, none⟩ = some (.slice a n cap) := (cell_of_block ((hb.block _ (by omega)).trans HP.out) (m := 0) rfl).1
        by_cases hlt : j < n
        · have hbw := hb0.trans (hb.mono hb0.size)
          obtain ⟨d, hd⟩ : ∃ x, ds[j]? = some x := ⟨_, List.getElem?_eq_getElem (by rw [← HM.out]; exact hlt)⟩
          obtain ⟨ok1, ok2, ok3⟩ := HOk.out d (List.mem_of_getElem? hd)
          obtain ⟨ad, c, rfl, hS, ⟨pv, cv, rfl, hp, hc⟩, hc0, hcm⟩ := slG_get (HD.out.lift hbw) hd
          have q0 := hc0 _ rfl
          have q1 := hcm 1 _ (by decide) rfl
          have q2 := hcm 2 _ (by decide) rfl
          have q3 := hcm 3 _ (by decide) rfl
          simp only [show DatE.k = 4 from rfl] at q0 q1 q2 q3
          obtain ⟨pa, pc, rfl⟩ := slG_form hp
          obtain ⟨ca, cc, rfl⟩ := slG_form hc
          have HC := Lib.hid hc
          have HO := Lib.hid ok3
          obtain ⟨np, hnp⟩ : ∃ x, x = d.params.length := ⟨_, rfl⟩
          obtain ⟨nc, hnc⟩ : ∃ x, x = d.ctors.length := ⟨_, rfl⟩
          rw [← hnp] at ok1 q2
          rw [← hnc] at ok2 q3 HC
          have HMc := Lib.hid hnc
          clear hc0 hcm hp hc ok3 hnp hnc hd hS
          have hji : (j : Int) < (n : Int) := by omega
          have h8 : (j : Int) < 8 := by omega
          have hp4 : (np : Int) ≤ 4 := by omega
          have hc6 : (nc : Int) ≤ 6 := by omega
          have hbA : ∀ o, Below W.heap.size W (wr.alloc o) := fun o => hb.alloc hb.size o
          have HN : Hid (∀ X, ((wr.alloc (.cells X 62)).heap[wr.heap.size]? = some (.cells X 62 (0, 0)))) := fun X => heap_alloc_new wr _
          go_wp2
          have hW2 := hbA (.cells #[.int .i64 d.pos, .string d.name, .slice pa np pc, .slice ca nc cc] 62)
          have HD2 := Lib.hid (HN.out #[.int .i64 d.pos, .string d.name, .slice pa np pc, .slice ca nc cc])
          have HC2 := Lib.hid (HC.out.lift ((Below.refl _ wr).alloc (Nat.le_refl _) (.cells #[.int .i64 d.pos, .string d.name, .slice pa np pc, .slice ca nc cc] 62)))
          have hlt2 : wr.heap.size < (wr.alloc (.cells #[.int .i64 d.pos, .string d.name, .slice pa np pc, .slice ca nc cc] 62)).heap.size := by simp
          generalize (wr.alloc (.cells #[.int .i64 d.pos, .string d.name, .slice pa np pc, .slice ca nc cc] 62)) = W2 at *
          clear HC HN hbA q0 q1 q2 q3 p0
          generalize wr.heap.size = DD at *
          go_loopw [8] (fun x w4 => ∃ k : Nat, k ≤ nc ∧ x = .int .i64 k ∧ Below W2.heap.size W2 w4) (fun x _ => nc - (intOf x).toNat)
          case atStart => exact ⟨0, Nat.zero_le _, rfl, Below.refl _ _⟩
          case round =>
            obtain ⟨k, hk, rfl, hb4⟩ := hrel
            have r3 : wr.cell? ⟨DD, 3, none⟩ = some (.slice ca nc cc) := (cell_of_block ((hb4.block _ hlt2).trans HD2.out) (m := 3) rfl).1
            by_cases hkl : k < nc
            · obtain ⟨c2, hc2⟩ : ∃ x, d.ctors[k]? = some x := ⟨_, List.getElem?_eq_getElem (by rw [← HMc.out]; exact hkl)⟩
              obtain ⟨ok5, ok6⟩ := HO.out c2 (List.mem_of_getElem? hc2)
              have HO6 := Lib.hid ok6
              obtain ⟨ad2, cl, rfl, -, ⟨fv, rfl, hf⟩, -, hcm⟩ := slG_get (HC2.out.lift hb4) hc2
              have s2 := hcm 2 _ (by decide) rfl
              simp only [show CtorE.k = 3 from rfl] at s2
              obtain ⟨fa, fc, rfl⟩ := slG_form hf
              have HFs := Lib.hid hf
              obtain ⟨nf, hnf⟩ : ∃ x, x = c2.fields.length := ⟨_, rfl⟩
              rw [← hnf] at s2 HFs ok5
              have HMf := Lib.hid hnf
              clear hcm hf hc2 ok6 hnf
              have hkc : (k : Int) < (nc : Int) := by omega
              have HR3 := Lib.hid r3
              have HS2 := Lib.hid s2
              go_wp2
              clear r3 s2
              have hbW4 := hW2.trans (hb4.mono hW2.size)
              generalize hW4 : wr = W4 at *
              clear hW4
              go_loopw [9] (fun x w5 => ∃ m : Nat, m ≤ nf ∧ x = .int .i64 m ∧ Below W4.heap.size W4 w5) (fun x _ => nf - (intOf x).toNat)
              case atStart => exact ⟨0, Nat.zero_le _, rfl, Below.refl _ _⟩
              case round =>
                obtain ⟨m, hm, rfl, hb5⟩ := hrel
                have kc : ∀ p v, W4.cell? p = some v → wr.cell? p = some v := fun p v h => (hb5.cell (World.block_lt_of_cell? _ _ h)).trans h
                have r3 := kc _ _ HR3.out
                have s2 := kc _ _ HS2.out
                clear kc
                by_cases hml : m < nf
                · obtain ⟨T, hT⟩ : ∃ x, c2.fields[m]? = some x := ⟨_, List.getElem?_eq_getElem (by rw [← HMf.out]; exact hml)⟩
                  have hd40 := HO6.out T (List.mem_of_getElem? hT)
                  obtain ⟨fa', fc', e, -, hj5⟩ := slG_repL (HFs.out.lift hb5)
                  obtain ⟨ad3, x, hfa, -, h5, hx⟩ := hj5 m T hT
                  simp only [Value.slice.injEq] at e
                  have hfa := e.1.trans hfa
                  clear e
                  subst hfa
                  obtain ⟨k', n', i', h', s', eU, rfl, hn2, hs5⟩ := hx.open
                  obtain ⟨t0, t1, t2, t3, t4⟩ := five_at h5
                  obtain ⟨sa', sc', rfl, -⟩ := hs5
                  have HDp := Lib.hid (depth_any T (by omega) _ _ _ hx)
                  clear h5 hx eU hn2 hj5 hT
                  have hmf : (m : Int) < (nf : Int) := by omega
                  have hd4 : (dep T : Int) ≤ 40 := by omega
                  generalize T.ts.length = sn' at *
                  generalize dep T = dT at *
                  go_wp2_with (go_at_call 80; refine HDp.out.mono ?_; rintro e w6 ⟨rfl, hb6⟩)
                  go_roundw
                  case rel => exact ⟨m + 1, hml, by go_num, hb5.trans (hb6.mono hb5.size)⟩
                  case measure => simp [intOf]; omega
                · obtain rfl : nf = m := by omega
                  go_wp2
                  go_roundw
                  case rel => exact ⟨k + 1, hkl, by go_num, hb4.trans (hb5.mono hb4.size)⟩
                  case measure => simp [intOf]; omega
            · obtain rfl : nc = k := by omega
              go_wp2
              go_roundw
              case rel => exact ⟨j + 1, hlt, by go_num, hW2.trans (hb4.mono hW2.size)⟩
              case measure => simp [intOf]; omega
        · obtain rfl : n = j := by omega
          have p1 : wr.cell? ⟨w.heap.size, 1, none⟩ = some (.slice none 0 0) := (cell_of_block ((hb.block _ (by omega)).trans HP.out) (m := 1) rfl).1
          have hbq := hb
          clear hb
          go_wp2
          go_loopw [10] (fun x wr => x = .int .i64 0 ∧ Below W.heap.size W wr) (fun _ _ => 0)
          case atStart => exact ⟨rfl, hbq⟩
          case round =>
            clear p1 p0 hbq
            obtain ⟨rfl, hb⟩ := hrel
            have p1 : wr.cell? ⟨w.heap.size, 1, none⟩ = some (.slice none 0 0) := (cell_of_block ((hb.block _ (by omega)).trans HP.out) (m := 1) rfl).1
            have hf := (hb.block _ (by omega)).trans HF.out
            obtain ⟨f0, g0⟩ := cell_of_block hf (m := 0) rfl
            obtain ⟨f1, g1⟩ := cell_of_block hf (m := 1) rfl
            have HBL : Hid (Below w.heap.size w wr) := hb0.trans (hb.mono hb0.size)
            clear hb0
            go_wp2
            obtain ⟨a0, h0, s0⟩ := set1 hf 0 (.int .i64 0)
            obtain ⟨a1, h1, s1⟩ := set1 a0 1 (.int .i64 0)
            have hg := grown_trans h0 h1
            clear hf f0 f1 g0 g1 p1 h0 h1 s0 s1 a0
            generalize ((wr.setCell ⟨w.heap.size + 1, 0, none⟩ (.int .i64 0)).setCell ⟨w.heap.size + 1, 1, none⟩ (.int .i64 0)) = w9 at *
            have c0 : w9.cell? ⟨w.heap.size + 1, 0, none⟩ = some (.int .i64 0) := (cell_of_block a1 (m := 0) rfl).1
            have c1 : w9.cell? ⟨w.heap.size + 1, 1, none⟩ = some (.int .i64 0) := (cell_of_block a1 (m := 1) rfl).1
            refine bodyPost_ret (by simp [results, Try.results59, go_sem, c0, c1]; try rfl) rfl ?_
            exact ⟨rfl, Below.grown HBL.out hg HBL.out.size (fun k hk => by cases hk; exact Nat.le_succ _)⟩
end Go.Proofs.Ytgfjcpeeoapjlaa.S3

/- The names that an expression binds in a child: the reference's Bound, the package's boundIn. -/
namespace Go.Proofs.Ytgfjcpeeoapjlaa
open Go.RowKit Go.Maps Mth S3

/-- The names that an expression binds in a child. -/
def bnN (T : Ex) (i : Nat) : List ByteArray :=
  if T.k == 4 || T.k == 7 || (T.k == 6 && i == 1) then [T.n]
  else if T.k == 8 && i != 0 then match T.arms[i - 1]? with | some A => A.1.vars | none => []
  else []
/-- What Bound asks of an expression and a child. -/
def BnOk (T : Ex) (i : Nat) : Prop := T.k = 8 → T.kids.length = 1 ∧ i ≤ T.arms.length
theorem bx11 {t : TypeId} {w : World} {B : Nat} {c0 c1 c2 c3 c4 c5 c6 c7 c8 c9 c10 : Value} (h : BoxC t w B [c0, c1, c2, c3, c4, c5, c6, c7, c8, c9, c10]) :
    w.cell? ⟨B, 0, none⟩ = some c0 ∧ w.cell? ⟨B, 1, none⟩ = some c1 ∧ w.cell? ⟨B, 2, none⟩ = some c2 ∧ w.cell? ⟨B, 3, none⟩ = some c3 ∧ w.cell? ⟨B, 4, none⟩ = some c4 ∧ w.cell? ⟨B, 5, none⟩ = some c5 ∧ w.cell? ⟨B, 6, none⟩ = some c6 ∧ w.cell? ⟨B, 7, none⟩ = some c7 ∧ w.cell? ⟨B, 8, none⟩ = some c8 ∧ w.cell? ⟨B, 9, none⟩ = some c9 ∧ w.cell? ⟨B, 10, none⟩ = some c10 :=
  ⟨h.cell 0 _ rfl, h.cell 1 _ rfl, h.cell 2 _ rfl, h.cell 3 _ rfl, h.cell 4 _ rfl, h.cell 5 _ rfl, h.cell 6 _ rfl, h.cell 7 _ rfl, h.cell 8 _ rfl, h.cell 9 _ rfl, h.cell 10 _ rfl⟩
theorem one_str (W : World) (s : ByteArray) : SlG StrE (W.alloc (.cells #[.string s] 9)) (fun _ => True) [s] (.slice (some ⟨W.heap.size, 0, none⟩) 1 1) := by
  refine ⟨_, 1, rfl, ⟨Nat.le_refl _, by unfold maxLen; decide⟩, fun j x hx => ?_⟩
  match j, hx with
  | 0, hx =>
    simp at hx; subst hx
    refine ⟨_, [.string s], rfl, trivial, fun m u hu => ?_, rfl⟩
    match m, hu with
    | 0, hu => simp at hu; subst hu; simp [Addr.add]
set_option maxRecDepth 100000 in
set_option maxHeartbeats 3200000 in
theorem bound10_any (T : Ex) (i : Nat) (hb : BnOk T i) (c : List Value) (S : Nat → Prop) (w : World) (him : i ≤ 1000000) (h : RepE w S T c) :
    Calls Try.prog 32 #[.agg c.toArray, .int .i64 i] w fun e w' => ∃ u, e = .returned u ∧ SlG StrE w' (fun _ => True) (bnN T i) u ∧ Below w.heap.size w w' := by
  obtain ⟨kv, av, tc0, hc0, hnm, -, ha, -⟩ := h.open
  obtain ⟨ka, kc, aa, ac, tk, tn, ti, th, ta, tl, tc, rfl⟩ := h.form
  simp only [List.cons.injEq] at hc0
  obtain ⟨-, -, -, -, rfl, rfl, -⟩ := hc0
  have hba : Below w.heap.size w (w.alloc (.cells #[.int .i64 T.k, .int .i64 T.p, .string T.n, .int .i64 T.m, .slice ka T.kids.length kc, .slice aa T.arms.length ac, .int .i64 tk, .string tn, .int .i64 ti, .int .i64 th, .slice ta tl tc] 36)) := (Below.refl _ w).alloc (Nat.le_refl _) _
  have HB0 := Lib.hid (BoxC.made 36 w [.int .i64 T.k, .int .i64 T.p, .string T.n, .int .i64 T.m, .slice ka T.kids.length kc, .slice aa T.arms.length ac, .int .i64 tk, .string tn, .int .i64 ti, .int .i64 th, .slice ta tl tc])
  have HA := Lib.hid (ha.kept (fun _ h => h) (fun b _ hl => hba.block b hl))
  have HBa := Lib.hid hba
  have HE : Hid (bnN T i = if T.k == 4 || T.k == 7 || (T.k == 6 && i == 1) then [T.n] else if T.k == 8 && i != 0 then match T.arms[i - 1]? with | some A => A.1.vars | none => [] else []) := rfl
  have HOk := Lib.hid hb
  clear h ha hba hb hnm
  generalize T.kids.length = kn at *
  obtain ⟨an, han⟩ : ∃ n, n = T.arms.length := ⟨_, rfl⟩
  have HAn := Lib.hid han
  simp only [List.toArray] at HB0 ⊢
  rw [← han] at HA HBa HB0 ⊢
  clear han
  cases h4 : (T.k == 4) with
  | true =>
    have HR : Hid (bnN T i = [T.n]) := by show _ = _; rw [HE.out, h4]; rfl
    clear HE HOk HAn
    go_enter Try.func32, Try.ntmps32
    go_upto_region 1 with fail
    generalize (w.alloc (.cells #[.int .i64 T.k, .int .i64 T.p, .string T.n, .int .i64 T.m, .slice ka kn kc, .slice aa an ac, .int .i64 tk, .string tn, .int .i64 ti, .int .i64 th, .slice ta tl tc] 36)) = V at *
    obtain ⟨b0, b1, b2, b3, b4, b5, b6, b7, b8, b9, b10⟩ := bx11 HB0.out
    have HO := Lib.hid (one_str V T.n)
    go_wp2
    go_ret
    exact ⟨_, rfl, by rw [HR.out]; exact HO.out, HBa.out.trans (((Below.refl _ V).alloc (Nat.le_refl _) _).mono HBa.out.size)⟩
  | false =>
    cases h7 : (T.k == 7) with
    | true =>
      have HR : Hid (bnN T i = [T.n]) := by show _ = _; rw [HE.out, h4, h7]; rfl
      clear HE HOk HAn
      go_enter Try.func32, Try.ntmps32
      go_upto_region 1 with fail
      generalize (w.alloc (.cells #[.int .i64 T.k, .int .i64 T.p, .string T.n, .int .i64 T.m, .slice ka kn kc, .slice aa an ac, .int .i64 tk, .string tn, .int .i64 ti, .int .i64 th, .slice ta tl tc] 36)) = V at *
      obtain ⟨b0, b1, b2, b3, b4, b5, b6, b7, b8, b9, b10⟩ := bx11 HB0.out
      have HO := Lib.hid (one_str V T.n)
      go_wp2
      go_ret
      exact ⟨_, rfl, by rw [HR.out]; exact HO.out, HBa.out.trans (((Below.refl _ V).alloc (Nat.le_refl _) _).mono HBa.out.size)⟩
    | false =>
      cases h6 : (T.k == 6) with
      | true =>
        have h8 : (T.k == 8) = false := by have := beq_iff_eq.1 h6; rw [this]; rfl
        cases h1 : ((i : Int) == 1) with
        | true =>
          have h1' : (i == 1) = true := by simp at h1 ⊢; omega
          have HR : Hid (bnN T i = [T.n]) := by show _ = _; rw [HE.out, h4, h7, h6, h1']; rfl
          clear HE HOk HAn
          go_enter Try.func32, Try.ntmps32
          go_upto_region 1 with fail
          generalize (w.alloc (.cells #[.int .i64 T.k, .int .i64 T.p, .string T.n, .int .i64 T.m, .slice ka kn kc, .slice aa an ac, .int .i64 tk, .string tn, .int .i64 ti, .int .i64 th, .slice ta tl tc] 36)) = V at *
          obtain ⟨b0, b1, b2, b3, b4, b5, b6, b7, b8, b9, b10⟩ := bx11 HB0.out
          have HO := Lib.hid (one_str V T.n)
          go_wp2
          go_ret
          exact ⟨_, rfl, by rw [HR.out]; exact HO.out, HBa.out.trans (((Below.refl _ V).alloc (Nat.le_refl _) _).mono HBa.out.size)⟩
        | false =>
          have h1' : (i == 1) = false := by simp at h1 ⊢; omega
          have HR : Hid (bnN T i = []) := by show _ = _; rw [HE.out, h4, h7, h6, h1', h8]; rfl
          clear HE HOk HAn
          go_enter Try.func32, Try.ntmps32
          go_upto_region 1 with fail
          generalize (w.alloc (.cells #[.int .i64 T.k, .int .i64 T.p, .string T.n, .int .i64 T.m, .slice ka kn kc, .slice aa an ac, .int .i64 tk, .string tn, .int .i64 ti, .int .i64 th, .slice ta tl tc] 36)) = V at *
          obtain ⟨b0, b1, b2, b3, b4, b5, b6, b7, b8, b9, b10⟩ := bx11 HB0.out
          go_wp2
          go_ret
          exact ⟨_, rfl, by rw [HR.out]; exact slG_nil _ _ _, HBa.out⟩
      | false =>
        cases h8 : (T.k == 8) with
        | false =>
          have HR : Hid (bnN T i = []) := by show _ = _; rw [HE.out, h4, h7, h6, h8]; rfl
          clear HE HOk HAn
          go_enter Try.func32, Try.ntmps32
          go_upto_region 1 with fail
          generalize (w.alloc (.cells #[.int .i64 T.k, .int .i64 T.p, .string T.n, .int .i64 T.m, .slice ka kn kc, .slice aa an ac, .int .i64 tk, .string tn, .int .i64 ti, .int .i64 th, .slice ta tl tc] 36)) = V at *
          obtain ⟨b0, b1, b2, b3, b4, b5, b6, b7, b8, b9, b10⟩ := bx11 HB0.out
          go_wp2
          go_ret
          exact ⟨_, rfl, by rw [HR.out]; exact slG_nil _ _ _, HBa.out⟩
        | true =>
          have hok := HOk.out (by simpa using h8)
          obtain ⟨hk1, hil⟩ := hok
          cases i with
          | zero =>
            have HR : Hid (bnN T 0 = []) := by show _ = _; rw [HE.out, h4, h7, h6, h8]; rfl
            clear HE HOk HAn
            go_enter Try.func32, Try.ntmps32
            go_upto_region 1 with fail
            generalize (w.alloc (.cells #[.int .i64 T.k, .int .i64 T.p, .string T.n, .int .i64 T.m, .slice ka kn kc, .slice aa an ac, .int .i64 tk, .string tn, .int .i64 ti, .int .i64 th, .slice ta tl tc] 36)) = V at *
            obtain ⟨b0, b1, b2, b3, b4, b5, b6, b7, b8, b9, b10⟩ := bx11 HB0.out
            go_wp2
            go_ret
            exact ⟨_, rfl, by rw [HR.out]; exact slG_nil _ _ _, HBa.out⟩
          | succ i =>
            obtain ⟨A, hA⟩ : ∃ x, T.arms[i]? = some x := ⟨_, List.getElem?_eq_getElem (by omega)⟩
            have HR : Hid (bnN T (i + 1) = A.1.vars) := by show _ = _; rw [HE.out, h4, h7, h6, h8]; simp [hA]
            obtain ⟨ad, cs, had, -, ⟨vv, cb, rfl, hvv, -⟩, hc0, hcm⟩ := slG_get HA.out hA
            have q2 : _ = some vv := hcm 2 _ (by decide) rfl
            rw [show AmE.k = 14 from rfl] at q2
            obtain ⟨xa, xc, exa, -, -⟩ := HA.out
            simp only [Value.slice.injEq] at exa
            obtain ⟨rfl, -, rfl⟩ := exa
            subst had
            obtain ⟨va, vc, rfl, -⟩ := slice_form hvv
            have HV := Lib.hid hvv
            have hil' : (i : Int) < (an : Int) := by rw [HAn.out]; omega
            have hi0 : (0 : Int) ≤ (i : Int) := by omega
            have him2 : i ≤ 999999 := by omega
            have hgt : (0 : Int) < (i : Int) + 1 := by omega
            clear HE HOk HAn hA hc0 hcm hvv hil
            go_enter Try.func32, Try.ntmps32
            go_upto_region 1 with fail
            generalize (w.alloc (.cells #[.int .i64 T.k, .int .i64 T.p, .string T.n, .int .i64 T.m, .slice ka kn kc, .slice (some ad) an ac, .int .i64 tk, .string tn, .int .i64 ti, .int .i64 th, .slice ta tl tc] 36)) = V at *
            obtain ⟨b0, b1, b2, b3, b4, b5, b6, b7, b8, b9, b10⟩ := bx11 HB0.out
            go_wp2
            go_ret
            exact ⟨_, rfl, by rw [HR.out]; exact HV.out.kept (fun _ _ => trivial) (fun _ _ _ => rfl), HBa.out⟩
set_option maxRecDepth 100000 in
set_option maxHeartbeats 3200000 in
theorem boundIn_any (T : Ex) (i : Nat) (hb : BnOk T i) (c : List Value) (S : Nat → Prop) (w : World) (hkl : T.kids.length ≤ 100000) (him : i ≤ 1000000) (h : RepE w S T c) :
    Calls Try.prog 34 #[.agg c.toArray, .int .i64 i] w fun e w' => ∃ u, e = .returned u ∧ SlG StrE w' (fun _ => True) (bnN T i) u ∧ Below w.heap.size w w' := by
  obtain ⟨kv, av, tc0, hc0, hnm, -, ha, -⟩ := h.open
  obtain ⟨ka, kc, aa, ac, tk, tn, ti, th, ta, tl, tc, rfl⟩ := h.form
  simp only [List.cons.injEq] at hc0
  obtain ⟨-, -, -, -, rfl, rfl, -⟩ := hc0
  have hba : Below w.heap.size w (w.alloc (.cells #[.int .i64 T.k, .int .i64 T.p, .string T.n, .int .i64 T.m, .slice ka T.kids.length kc, .slice aa T.arms.length ac, .int .i64 tk, .string tn, .int .i64 ti, .int .i64 th, .slice ta tl tc] 36)) := (Below.refl _ w).alloc (Nat.le_refl _) _
  have HB0 := Lib.hid (BoxC.made 36 w [.int .i64 T.k, .int .i64 T.p, .string T.n, .int .i64 T.m, .slice ka T.kids.length kc, .slice aa T.arms.length ac, .int .i64 tk, .string tn, .int .i64 ti, .int .i64 th, .slice ta tl tc])
  have HA := Lib.hid (ha.kept (fun _ h => h) (fun b _ hl => hba.block b hl))
  have HBa := Lib.hid hba
  have HE : Hid (bnN T i = if T.k == 4 || T.k == 7 || (T.k == 6 && i == 1) then [T.n] else if T.k == 8 && i != 0 then match T.arms[i - 1]? with | some A => A.1.vars | none => [] else []) := rfl
  have HOk := Lib.hid hb
  clear h ha hba hb hnm
  obtain ⟨kn, hkn⟩ : ∃ n, n = T.kids.length := ⟨_, rfl⟩
  have HKn := Lib.hid hkn
  obtain ⟨an, han⟩ : ∃ n, n = T.arms.length := ⟨_, rfl⟩
  have HAn := Lib.hid han
  simp only [List.toArray] at HB0 ⊢
  rw [← han] at HA HBa HB0 ⊢
  rw [← hkn] at HBa HB0 HA hkl ⊢
  clear han hkn
  cases h4 : (T.k == 4) with
  | true =>
    have HR : Hid (bnN T i = [T.n]) := by show _ = _; rw [HE.out, h4]; rfl
    clear HE HOk HAn
    go_enter Try.func34, Try.ntmps34
    go_upto_region 1 with fail
    generalize (w.alloc (.cells #[.int .i64 T.k, .int .i64 T.p, .string T.n, .int .i64 T.m, .slice ka kn kc, .slice aa an ac, .int .i64 tk, .string tn, .int .i64 ti, .int .i64 th, .slice ta tl tc] 36)) = V at *
    obtain ⟨b0, b1, b2, b3, b4, b5, b6, b7, b8, b9, b10⟩ := bx11 HB0.out
    have HO := Lib.hid (one_str V T.n)
    go_wp2
    go_ret
    exact ⟨_, rfl, by rw [HR.out]; exact HO.out, HBa.out.trans (((Below.refl _ V).alloc (Nat.le_refl _) _).mono HBa.out.size)⟩
  | false =>
    cases h7 : (T.k == 7) with
    | true =>
      have HR : Hid (bnN T i = [T.n]) := by show _ = _; rw [HE.out, h4, h7]; rfl
      clear HE HOk HAn
      go_enter Try.func34, Try.ntmps34
      go_upto_region 1 with fail
      generalize (w.alloc (.cells #[.int .i64 T.k, .int .i64 T.p, .string T.n, .int .i64 T.m, .slice ka kn kc, .slice aa an ac, .int .i64 tk, .string tn, .int .i64 ti, .int .i64 th, .slice ta tl tc] 36)) = V at *
      obtain ⟨b0, b1, b2, b3, b4, b5, b6, b7, b8, b9, b10⟩ := bx11 HB0.out
      have HO := Lib.hid (one_str V T.n)
      go_wp2
      go_ret
      exact ⟨_, rfl, by rw [HR.out]; exact HO.out, HBa.out.trans (((Below.refl _ V).alloc (Nat.le_refl _) _).mono HBa.out.size)⟩
    | false =>
      cases h6 : (T.k == 6) with
      | true =>
        have h8 : (T.k == 8) = false := by have := beq_iff_eq.1 h6; rw [this]; rfl
        cases h1 : ((i : Int) == 1) with
        | true =>
          have h1' : (i == 1) = true := by simp at h1 ⊢; omega
          have HR : Hid (bnN T i = [T.n]) := by show _ = _; rw [HE.out, h4, h7, h6, h1']; rfl
          clear HE HOk HAn
          go_enter Try.func34, Try.ntmps34
          go_upto_region 1 with fail
          generalize (w.alloc (.cells #[.int .i64 T.k, .int .i64 T.p, .string T.n, .int .i64 T.m, .slice ka kn kc, .slice aa an ac, .int .i64 tk, .string tn, .int .i64 ti, .int .i64 th, .slice ta tl tc] 36)) = V at *
          obtain ⟨b0, b1, b2, b3, b4, b5, b6, b7, b8, b9, b10⟩ := bx11 HB0.out
          have HO := Lib.hid (one_str V T.n)
          go_wp2
          go_ret
          exact ⟨_, rfl, by rw [HR.out]; exact HO.out, HBa.out.trans (((Below.refl _ V).alloc (Nat.le_refl _) _).mono HBa.out.size)⟩
        | false =>
          have h1' : (i == 1) = false := by simp at h1 ⊢; omega
          have HR : Hid (bnN T i = []) := by show _ = _; rw [HE.out, h4, h7, h6, h1', h8]; rfl
          clear HE HOk HAn
          go_enter Try.func34, Try.ntmps34
          go_upto_region 1 with fail
          generalize (w.alloc (.cells #[.int .i64 T.k, .int .i64 T.p, .string T.n, .int .i64 T.m, .slice ka kn kc, .slice aa an ac, .int .i64 tk, .string tn, .int .i64 ti, .int .i64 th, .slice ta tl tc] 36)) = V at *
          obtain ⟨b0, b1, b2, b3, b4, b5, b6, b7, b8, b9, b10⟩ := bx11 HB0.out
          go_wp2
          go_ret
          exact ⟨_, rfl, by rw [HR.out]; exact slG_nil _ _ _, HBa.out⟩
      | false =>
        cases h8 : (T.k == 8) with
        | false =>
          have HR : Hid (bnN T i = []) := by show _ = _; rw [HE.out, h4, h7, h6, h8]; rfl
          clear HE HOk HAn
          go_enter Try.func34, Try.ntmps34
          go_upto_region 1 with fail
          generalize (w.alloc (.cells #[.int .i64 T.k, .int .i64 T.p, .string T.n, .int .i64 T.m, .slice ka kn kc, .slice aa an ac, .int .i64 tk, .string tn, .int .i64 ti, .int .i64 th, .slice ta tl tc] 36)) = V at *
          obtain ⟨b0, b1, b2, b3, b4, b5, b6, b7, b8, b9, b10⟩ := bx11 HB0.out
          go_wp2
          go_ret
          exact ⟨_, rfl, by rw [HR.out]; exact slG_nil _ _ _, HBa.out⟩
        | true =>
          have hok := HOk.out (by simpa using h8)
          obtain ⟨hk1, hil2⟩ := hok
          cases i with
          | zero =>
            obtain rfl : kn = 1 := by rw [HKn.out]; exact hk1
            have HR : Hid (bnN T 0 = []) := by show _ = _; rw [HE.out, h4, h7, h6, h8]; rfl
            clear HE HOk HAn
            go_enter Try.func34, Try.ntmps34
            go_upto_region 1 with fail
            generalize (w.alloc (.cells #[.int .i64 T.k, .int .i64 T.p, .string T.n, .int .i64 T.m, .slice ka 1 kc, .slice aa an ac, .int .i64 tk, .string tn, .int .i64 ti, .int .i64 th, .slice ta tl tc] 36)) = V at *
            obtain ⟨b0, b1, b2, b3, b4, b5, b6, b7, b8, b9, b10⟩ := bx11 HB0.out
            go_wp2
            go_ret
            exact ⟨_, rfl, by rw [HR.out]; exact slG_nil _ _ _, HBa.out⟩
          | succ i =>
            obtain ⟨A, hA⟩ : ∃ x, T.arms[i]? = some x := ⟨_, List.getElem?_eq_getElem (by omega)⟩
            have HR : Hid (bnN T (i + 1) = A.1.vars) := by show _ = _; rw [HE.out, h4, h7, h6, h8]; simp [hA]
            obtain ⟨ad, cs, had, -, ⟨vv, cb, rfl, hvv, -⟩, hc0, hcm⟩ := slG_get HA.out hA
            have q2 : _ = some vv := hcm 2 _ (by decide) rfl
            rw [show AmE.k = 14 from rfl] at q2
            obtain ⟨xa, xc, exa, -, -⟩ := HA.out
            simp only [Value.slice.injEq] at exa
            obtain ⟨rfl, -, rfl⟩ := exa
            subst had
            obtain ⟨va, vc, rfl, -⟩ := slice_form hvv
            have HV := Lib.hid hvv
            have hil' : (i : Int) < (an : Int) := by rw [HAn.out]; omega
            have hi0 : (0 : Int) ≤ (i : Int) := by omega
            have him2 : i ≤ 999999 := by omega
            obtain rfl : kn = 1 := by rw [HKn.out]; exact hk1
            clear HE HOk HAn hA hc0 hcm hvv hil2
            go_enter Try.func34, Try.ntmps34
            go_upto_region 1 with fail
            generalize (w.alloc (.cells #[.int .i64 T.k, .int .i64 T.p, .string T.n, .int .i64 T.m, .slice ka 1 kc, .slice (some ad) an ac, .int .i64 tk, .string tn, .int .i64 ti, .int .i64 th, .slice ta tl tc] 36)) = V at *
            obtain ⟨b0, b1, b2, b3, b4, b5, b6, b7, b8, b9, b10⟩ := bx11 HB0.out
            go_wp2
            go_ret
            exact ⟨_, rfl, by rw [HR.out]; exact HV.out.kept (fun _ _ => trivial) (fun _ _ _ => rfl), HBa.out⟩
end Go.Proofs.Ytgfjcpeeoapjlaa

/- A slice made with room for more, the first elements copied in; the package's Children. -/
namespace Go.Proofs.Ytgfjcpeeoapjlaa
open Go.RowKit Go.Maps Mth S3

theorem wpList_makeC {w : World} {ops : Array Oper} {rest : List Oper} {o : Oper} {a : Act} {Q : Exit → Act → World → Prop} {α : Type} (E : El α) (hgd : o.guard = none) (l c : Operand) (ho : o.op = Op.makeSlice E.t l c) (n m : Nat) (hl : a.eval l = .int .i64 n) (C : Int) (hc : a.eval c = .int .i64 C) (hC : C = (m : Int)) (hnm : n ≤ m) (hm : m ≤ 1000000)
    (hK : ∀ cur : Array Value, cur.size = m * E.k → wpList Try.prog ops Q rest (a.put o.dst (.slice (some ⟨w.heap.size, 0, none⟩) n m)) (w.alloc (.cells cur E.e))) : wpList Try.prog ops Q (o :: rest) a w := by
  subst hC
  obtain ⟨i, z, hi, hz, hk, hby, hzs⟩ := E.info
  have hE := E.hby
  have hbb : i.bytes * m ≤ 1000 * 1000000 := Nat.mul_le_mul (by rw [hby]; exact hE) hm
  have hbi : (i.bytes : Int) * (m : Int) ≤ 281474976710656 := by rw [← Int.natCast_mul]; omega
  have hrun := run_make (P := Try.prog) w E.t E.e i z E.und hi hz .i64 .i64 (n : Int) (m : Int) (by omega) (by omega) hbi (by omega)
  simp only [Int.toNat_natCast] at hrun
  refine wpList_plain hgd fun K hK' => ?_
  unfold Oper.wp
  simp [execOp, ho, hl, hc, hrun, Result.andThen]
  exact hK' _ _ (hK _ (by rw [size_madeCells, hk]))
theorem run_copyG (w : World) (dT sT ty elem : TypeId) (k n g dLen dCap : Nat) (a : Addr) (sLen sCap : Nat) (cur : Array Value) (t : TypeId) (cs : List Value)
    (hu : Try.prog.underlying dT = some (.slice elem)) (hs : (Try.prog.info? elem).map (·.size) = some k)
    (hg : w.heap[g]? = some (.cells cur t (0, 0))) (hn : n = Nat.min sLen dLen) (hcl : cs.length = n * k)
    (hsrc : ∀ j v, cs[j]? = some v → w.cell? (a.add j) = some v) (hfit : cs.length ≤ cur.size) (h1 : ∀ v ∈ cs, v.oneCell' = true) :
    (Builtin.copy_ #[dT, sT] ty #[.slice (some ⟨g, 0, none⟩) dLen dCap, .slice (some a) sLen sCap]).run Try.prog w =
      .ok (goInt n) (w.setRow g (cs ++ cur.toList.drop cs.length).toArray) := by
  have hl := run_loadCells_list (P := Try.prog) w a cs hsrc
  have hst := run_storeCells_at Try.prog g 0 t cs 0 cur w hg (by simpa using hfit) h1
  simp only [Nat.zero_add, List.take_zero, List.nil_append] at hst
  cases hq : Try.prog.info? elem with
  | none => simp [hq] at hs
  | some i =>
    have hi : i.size = k := by simpa [hq] using hs
    rw [hcl] at hl
    simp [Builtin.copy_, run_underlying hu, Builtin.lenOf, Builtin.firstCells, sizeOf, typeInfo, hq, hi, ← hn, hl, hst]
theorem run_copyN (w : World) (dT sT ty elem : TypeId) (d : Option Addr) (dLen dCap c : Nat) (hu : Try.prog.underlying dT = some (.slice elem)) (hs : ((Try.prog.info? elem).map (·.size)).isSome = true) :
    (Builtin.copy_ #[dT, sT] ty #[.slice d dLen dCap, .slice none 0 c]).run Try.prog w = .ok (goInt 0) w := by
  cases hq : Try.prog.info? elem with
  | none => simp [hq] at hs
  | some i => cases d <;> simp [Builtin.copy_, run_underlying hu, Builtin.lenOf, Builtin.firstCells, sizeOf, typeInfo, hq, storeCells]
/-- The elements of a list copied to the head of a new row that has room for them. -/
theorem wpList_copyG {w : World} {ops : Array Oper} {rest : List Oper} {o : Oper} {a : Act} {Q : Exit → Act → World → Prop} {α : Type} (E : El α) (hgd : o.guard = none) (d s : Operand)
    (ho : o.op = .call { callee := .builtin .copy, args := #[d, s], argTypes := #[E.t, E.t] }) (xs : List α) (m g : Nat) (hd : a.eval d = .slice (some ⟨g, 0, none⟩) xs.length m) (cur : Array Value) (hg : w.heap[g]? = some (.cells cur E.e (0, 0))) (hcs : cur.size = m * E.k) (hm : m ≤ 1000000) (hnm : xs.length ≤ m)
    (lv : Value) (hs : a.eval s = lv) (S : Nat → Prop) (hsl : SlG E w S xs lv) (hS : ∀ b, S b → b ≠ g) (base : Nat) (hbg : base ≤ g)
    (hK : ∀ (u : Value) (w' : World), RowG E w' base S (.slice (some ⟨g, 0, none⟩) xs.length m) xs → w.grownBy w' (some g) → wpList Try.prog ops Q rest (a.put o.dst u) w') :
    wpList Try.prog ops Q (o :: rest) a w := by
  obtain ⟨i, z, hi, hz, hk, hby, hzs⟩ := E.info
  obtain ⟨la, lc, rfl, hc, hj⟩ := hsl
  have hmx : m ≤ maxLen := by unfold maxLen; omega
  cases la with
  | none =>
    have hn : xs = [] := by
      cases xs with
      | nil => rfl
      | cons y l => obtain ⟨ad, c, e, -⟩ := hj 0 y rfl; cases e
    subst hn
    have hrun := run_copyN w E.t E.t o.type E.e (some ⟨g, 0, none⟩) 0 m lc E.und (by rw [hi]; rfl)
    refine wpList_plain hgd fun K hK' => ?_
    unfold Oper.wp
    simp only [List.length_nil] at hd hs
    simp [execOp, ho, resolve, invoke, builtin, hd, hs, hrun, Result.andThen]
    refine hK' _ _ (hK _ w ⟨[], ⟨by simp, .inr ⟨g, m, cur, rfl, hbg, hg, Nat.zero_le _, hmx, hcs, by simp⟩⟩, rfl, fun j x hx => by simp at hx⟩ ⟨rfl, rfl, rfl, Nat.le_refl _, fun _ _ _ => rfl⟩)
  | some ad =>
    obtain ⟨L, hL1, hL2, hL3⟩ := cells_ofG E (S := S) (xs := xs) (ad := ad) (w := w) fun j x hx => by
      obtain ⟨ad', c, e, -, h3, h4⟩ := hj j x hx
      cases e
      exact ⟨c, h3, h4⟩
    have hLk := rowG_len hL1 hL2
    have hfl : L.flatten.length = xs.length * E.k := by rw [flat_len E.k L fun c h => (hLk c h).1, hL1]
    have hfit : L.flatten.length ≤ cur.size := by rw [hfl, hcs]; exact Nat.mul_le_mul_right _ hnm
    have h1 : ∀ u ∈ L.flatten, u.oneCell' = true := fun u hu => by
      obtain ⟨c', hc', hu'⟩ := List.mem_flatten.1 hu
      exact (hLk c' hc').2 u hu'
    obtain ⟨F, hF⟩ : ∃ F, F = L.flatten := ⟨_, rfl⟩
    rw [← hF] at hfl hfit h1 hL3
    have hrun := run_copyG w E.t E.t o.type E.e E.k xs.length g xs.length m ad xs.length lc cur E.e F E.und (by rw [hi]; simpa using hk) hg (Nat.min_self _).symm hfl (fun j u hu => hL3 j u hu) hfit h1
    have hrow := setRow_heap w g cur (F ++ cur.toList.drop F.length).toArray E.e (0, 0) hg
    have hgr : w.grownBy (w.setRow g (F ++ cur.toList.drop F.length).toArray) (some g) := ⟨rfl, rfl, rfl, by simp [World.setRow], fun k _ hk => setRow_other w g k _ (fun e => hk (by rw [e]))⟩
    refine wpList_plain hgd fun K hK' => ?_
    unfold Oper.wp
    simp [execOp, ho, resolve, invoke, builtin, hd, hs, hrun, Result.andThen]
    refine hK' _ _ (hK _ _ ⟨L, ⟨by rw [← hF]; exact hfl, .inr ⟨g, m, _, rfl, hbg, hrow, hnm, hmx, ?_, ?_⟩⟩, hL1, fun j x hx => ?_⟩ hgr)
    · simp only [List.size_toArray, List.length_append, List.length_drop, Array.length_toList]
      omega
    · rw [← hfl, ← hF]; simp
    · obtain ⟨c, hc', hr⟩ := hL2 j x hx
      exact ⟨c, hc', E.kept (fun b hb => ⟨hb, fun e => hS b hb (Option.some.inj e)⟩) (fun b hb hl => hgr.block b hl (fun e => hS b hb (Option.some.inj e))) hr⟩
end Go.Proofs.Ytgfjcpeeoapjlaa

/- The package's Children. -/
namespace Go.Proofs.Ytgfjcpeeoapjlaa
open Go.RowKit Go.Maps Mth S3

/-- The parts of an expression. -/
def chN (T : Ex) : List Ex := T.kids ++ T.arms.map (·.2)
theorem body_repC {w V : World} {S : Nat → Prop} {v : Value} {T : Ex} {c : List Value} (h : RepE V S T c) (hb : Below V.heap.size V w) (hv : ∀ k, v.ownBlock = some k → V.heap.size ≤ k) (o : Obj) : RepE (w.alloc o) (fun b => (S b ∧ b < V.heap.size) ∧ some b ≠ v.ownBlock) T c := by
  have h1 := h.bound.kept (S' := fun b => (S b ∧ b < V.heap.size) ∧ some b ≠ v.ownBlock) (fun g hg => ⟨hg, fun e => by have := hv g e.symm; have := hg.2; omega⟩) (fun g hg _ => hb.block g hg.2)
  exact h1.lift ((Below.refl _ w).alloc (Nat.le_refl _) o)
set_option maxRecDepth 100000 in
set_option maxHeartbeats 6400000 in
theorem pkChildren_any (T : Ex) (hkl : T.kids.length ≤ 100000) (hal : T.arms.length ≤ 100000) (S : Nat → Prop) (c : List Value) (w : World) (h : RepE w S T c) :
    Calls Try.prog 33 #[.agg c.toArray] w fun e w' => ∃ a cp, e = .returned (.slice a (chN T).length cp) ∧ RowG ExE w' (w.heap.size + 1) (fun b => S b ∧ b < w.heap.size) (.slice a (chN T).length cp) (chN T) ∧ Below w.heap.size w w' := by
  obtain ⟨kv, av, tc0, hc0, -, hk, ha, -⟩ := h.open
  obtain ⟨ka, kc, aa, ac, tk, tn, ti, th, ta, tl, tc, rfl⟩ := h.form
  simp only [List.cons.injEq] at hc0
  obtain ⟨-, -, -, -, rfl, rfl, -⟩ := hc0
  have hba : Below w.heap.size w (w.alloc (.cells #[.int .i64 T.k, .int .i64 T.p, .string T.n, .int .i64 T.m, .slice ka T.kids.length kc, .slice aa T.arms.length ac, .int .i64 tk, .string tn, .int .i64 ti, .int .i64 th, .slice ta tl tc] 36)) := (Below.refl _ w).alloc (Nat.le_refl _) _
  have HB0 := Lib.hid (BoxC.made 36 w [.int .i64 T.k, .int .i64 T.p, .string T.n, .int .i64 T.m, .slice ka T.kids.length kc, .slice aa T.arms.length ac, .int .i64 tk, .string tn, .int .i64 ti, .int .i64 th, .slice ta tl tc])
  have HK := Lib.hid (hk.bound.kept (fun _ h => h) (fun b _ hl => hba.block b hl))
  have HA := Lib.hid (ha.bound.kept (fun _ h => h) (fun b _ hl => hba.block b hl))
  have HBa := Lib.hid hba
  have hsz : (w.alloc (.cells #[.int .i64 T.k, .int .i64 T.p, .string T.n, .int .i64 T.m, .slice ka T.kids.length kc, .slice aa T.arms.length ac, .int .i64 tk, .string tn, .int .i64 ti, .int .i64 th, .slice ta tl tc] 36)).heap.size = w.heap.size + 1 := by simp
  have HSz := Lib.hid hsz
  obtain ⟨n, hn⟩ : ∃ n, n = T.arms.length := ⟨_, rfl⟩
  have HN := Lib.hid hn
  rw [← hn] at hal HB0 HK HA HBa HSz ⊢
  clear h hk ha hba hn hsz
  simp only [List.toArray] at HB0 ⊢
  go_enter Try.func33, Try.ntmps33
  go_upto_region 1 with fail
  generalize (w.alloc (.cells #[.int .i64 T.k, .int .i64 T.p, .string T.n, .int .i64 T.m, .slice ka T.kids.length kc, .slice aa n ac, .int .i64 tk, .string tn, .int .i64 ti, .int .i64 th, .slice ta tl tc] 36)) = V at *
  obtain ⟨b0, b1, b2, b3, b4, b5, b6, b7, b8, b9, b10⟩ := bx11 HB0.out
  have hVw : V.heap.size = w.heap.size + 1 := HSz.out
  go_upto_region 2 with (at_make; refine wpList_makeC ExE rfl _ _ rfl T.kids.length (T.kids.length + n) rfl _ rfl (by omega) (by omega) (by omega) ?_; intro cur hcur; have HCur := Lib.hid hcur; clear hcur)
  have hal1 : Below V.heap.size V (V.alloc (.cells cur ExE.e)) := (Below.refl _ V).alloc (Nat.le_refl _) _
  have HK1 := Lib.hid (HK.out.kept (S' := fun b => S b ∧ b < w.heap.size) (fun _ h => h) (fun b _ hl => hal1.block b hl))
  have HG1 : Hid ((V.alloc (.cells cur ExE.e)).heap[w.heap.size + 1]? = some (.cells cur ExE.e (0, 0))) := by show _ = _; rw [← hVw]; exact heap_alloc_new V _
  have HB1 := Lib.hid (HB0.out.lift hal1)
  have hbv : Below w.heap.size w (V.alloc (.cells cur ExE.e)) := HBa.out.trans (hal1.mono HBa.out.size)
  have HV1 := Lib.hid hbv
  have hb4 := HB1.out.cell 4 _ rfl
  have hb5 := HB1.out.cell 5 _ rfl
  clear b0 b1 b2 b3 b4 b5 b6 b7 b8 b9 b10 HK hal1 hbv
  generalize (V.alloc (.cells cur ExE.e)) = V1 at *
  go_upto_region 3 with (refine wpList_copyG ExE rfl _ _ rfl T.kids (T.kids.length + n) (w.heap.size + 1) rfl cur HG1.out HCur.out (by omega) (by omega) (.slice ka T.kids.length kc) rfl (fun b => S b ∧ b < w.heap.size) HK1.out (fun b hb => by have := hb.2; omega) (w.heap.size + 1) (Nat.le_refl _) ?_; intro u20 V2 hrow hg; have HRow0 := Lib.hid hrow; have HG2 := Lib.hid hg; clear hrow hg)
  have HB2 := Lib.hid (HB1.out.grown HG2.out (by intro e; have := Option.some.inj e; omega))
  have HV2 : Hid (Below w.heap.size w V2) := Below.grown HV1.out HG2.out HV1.out.size (fun k hk => by have := Option.some.inj hk; omega)
  have HA2 := Lib.hid ((HA.out.kept (S' := fun b => S b ∧ b < w.heap.size) (fun _ h => h) (fun b hb hl => (HV2.out.block b hb.2).trans (HBa.out.block b hb.2).symm)))
  have HZ2 : Hid (w.heap.size + 1 ≤ V2.heap.size) := by have h1 := HG2.out.size; have h2 := (Array.getElem?_eq_some_iff.1 HG1.out).1; show _ ≤ _; omega
  clear hb4 hb5 HG1 HB1 HV1 HK1 HG2 HCur HA HB0 HBa HSz hVw
  have b5 := HB2.out.cell 5 _ rfl
  have HRf : Hid (Below V2.heap.size V2 V2) := Below.refl _ _
  go_wp2
  go_loopw [3, 24] (fun y i wr => ∃ (j : Nat) (l : List Ex) (sa : Option Addr) (sc : Nat), j ≤ n ∧ i = .int .i64 j ∧ y = .slice sa l.length sc ∧ l.length ≤ 100000 + j ∧ Hid (l = T.kids ++ (T.arms.take j).map (·.2)) ∧ Hid (RowG ExE wr (w.heap.size + 1) (fun b => S b ∧ b < w.heap.size) (.slice sa l.length sc) l) ∧ Hid (Below w.heap.size w wr) ∧ Hid (w.heap.size + 1 ≤ wr.heap.size)) (fun _ i _ => n - (intOf i).toNat)
  case atStart => exact ⟨0, T.kids, _, _, Nat.zero_le _, rfl, rfl, by omega, by show _ = _; simp, HRow0, HV2, HZ2⟩
  case round =>
    clear HRow0 HZ2 HRf
    obtain ⟨j, l, sa, sc, hj, rfl, rfl, hll, HL, HRow, HBr, HZ⟩ := hrel
    by_cases hlt : j < n
    · obtain ⟨A, hA⟩ : ∃ x, T.arms[j]? = some x := ⟨_, List.getElem?_eq_getElem (by rw [← HN.out]; exact hlt)⟩
      obtain ⟨ad, cc, had, hSa, ⟨vv, cb, rfl, hvv, hrepb⟩, hc0, hcm⟩ := slG_get HA2.out hA
      subst had
      obtain ⟨va, vc, rfl, -⟩ := slice_form hvv
      have HLt : Hid ((T.arms.take (j + 1)).map (·.2) = (T.arms.take j).map (·.2) ++ [A.2]) := by show _ = _; rw [List.take_add_one, hA]; simp
      have hrepw : RepE w (fun b => S b ∧ b < w.heap.size) A.2 cb := hrepb.kept (fun _ h => h) (fun b hb _ => (HV2.out.block b hb.2).symm)
      have HRepB := Lib.hid hrepw
      obtain ⟨kb, kd, ab, ae, uk, un, ui, uh, ua, ul, uc, rfl⟩ := hrepb.form
      generalize A.1.vars.length = vn at *
      rw [show AmE.k = 14 from rfl] at hc0 hcm
      have hkp : ∀ p u, V2.cell? p = some u → p.block < w.heap.size → wr.cell? p = some u := fun p u h hl => by
        rw [HBr.out.cell hl, ← HV2.out.cell hl]; exact h
      have hadb : (ad.add (j * 14)).block < w.heap.size := by rw [add_block]; exact hSa.2
      have q0 := hkp _ _ (hc0 _ rfl) hadb
      have q1 := hkp _ _ (hcm 1 _ (by decide) rfl) hadb
      have q2 := hkp _ _ (hcm 2 _ (by decide) rfl) hadb
      have q3 := hkp _ _ (hcm 3 _ (by decide) rfl) hadb
      have q4 := hkp _ _ (hcm 4 _ (by decide) rfl) hadb
      have q5 := hkp _ _ (hcm 5 _ (by decide) rfl) hadb
      have q6 := hkp _ _ (hcm 6 _ (by decide) rfl) hadb
      have q7 := hkp _ _ (hcm 7 _ (by decide) rfl) hadb
      have q8 := hkp _ _ (hcm 8 _ (by decide) rfl) hadb
      have q9 := hkp _ _ (hcm 9 _ (by decide) rfl) hadb
      have q10 := hkp _ _ (hcm 10 _ (by decide) rfl) hadb
      have q11 := hkp _ _ (hcm 11 _ (by decide) rfl) hadb
      have q12 := hkp _ _ (hcm 12 _ (by decide) rfl) hadb
      have q13 := hkp _ _ (hcm 13 _ (by decide) rfl) hadb
      have hji : (j : Int) < (n : Int) := by omega
      have HBm := Lib.hid (BoxC.made 56 wr [.int .i64 A.1.pos, .string A.1.con, .slice va vn vc, .int .i64 A.2.k, .int .i64 A.2.p, .string A.2.n, .int .i64 A.2.m, .slice kb A.2.kids.length kd, .slice ab A.2.arms.length ae, .int .i64 uk, .string un, .int .i64 ui, .int .i64 uh, .slice ua ul uc])
      have HBy : Hid (Below wr.heap.size wr (wr.alloc (.cells #[.int .i64 A.1.pos, .string A.1.con, .slice va vn vc, .int .i64 A.2.k, .int .i64 A.2.p, .string A.2.n, .int .i64 A.2.m, .slice kb A.2.kids.length kd, .slice ab A.2.arms.length ae, .int .i64 uk, .string un, .int .i64 ui, .int .i64 uh, .slice ua ul uc] 56))) := (Below.refl _ wr).alloc (Nat.le_refl _) _
      have HRow1 := Lib.hid (HRow.out.lift HBy.out)
      have HBr1 := Lib.hid (HBr.out.trans (HBy.out.mono HBr.out.size))
      have HZ1 := Lib.hid (Nat.le_trans HZ.out HBy.out.size)
      have HOwn := Lib.hid (fun k e => Nat.le_trans (Nat.le_succ _) (RowG.lt HRow.out k e).1)
      clear hA hc0 hcm hvv hrepb hrepw hkp hSa hadb HRow HBr HZ
      go_upto_region 6 with fail
      clear q0 q1 q2 q3 q4 q5 q6 q7 q8 q9 q10 q11 q12 q13
      generalize (wr.alloc (.cells #[.int .i64 A.1.pos, .string A.1.con, .slice va vn vc, .int .i64 A.2.k, .int .i64 A.2.p, .string A.2.n, .int .i64 A.2.m, .slice kb A.2.kids.length kd, .slice ab A.2.arms.length ae, .int .i64 uk, .string un, .int .i64 ui, .int .i64 uh, .slice ua ul uc] 56)) = W1 at *
      generalize wr.heap.size = B at *
      have r3 := HBm.out.cell 3 _ rfl; have r4 := HBm.out.cell 4 _ rfl; have r5 := HBm.out.cell 5 _ rfl; have r6 := HBm.out.cell 6 _ rfl; have r7 := HBm.out.cell 7 _ rfl; have r8 := HBm.out.cell 8 _ rfl; have r9 := HBm.out.cell 9 _ rfl; have r10 := HBm.out.cell 10 _ rfl; have r11 := HBm.out.cell 11 _ rfl; have r12 := HBm.out.cell 12 _ rfl; have r13 := HBm.out.cell 13 _ rfl
      have HA1 : Hid (∀ X, Below W1.heap.size W1 (W1.alloc X)) := fun X => (Below.refl _ W1).alloc (Nat.le_refl _) X
      have HRA := Lib.hid (fun X => HRow1.out.lift (HA1.out X))
      have HZA : Hid (∀ X, w.heap.size + 1 ≤ (W1.alloc X).heap.size) := fun X => Nat.le_trans HZ1.out (HA1.out X).size
      have hl1 : l.length + 1 ≤ 1000000 := by omega
      go_wp2_with (at_builtin; refine wpList_pushG ExE rfl _ _ rfl (w.heap.size + 1) (fun b => S b ∧ b < w.heap.size) _ l rfl (HRA.out _) W1.heap.size 36 [.int .i64 A.2.k, .int .i64 A.2.p, .string A.2.n, .int .i64 A.2.m, .slice kb A.2.kids.length kd, .slice ab A.2.arms.length ae, .int .i64 uk, .string un, .int .i64 ui, .int .i64 uh, .slice ua ul uc] (heap_alloc_new W1 _) rfl A.2 ((body_repC HRepB.out HBr1.out HOwn.out _).imp (fun b hb => ⟨⟨hb.1.1.1, hb.1.2⟩, hb.2⟩)) (l.length + 1) rfl hl1 (HZA.out _) ?_; intro sa' sc' w' hrow' hg'; have HRow' := Lib.hid hrow'; have HG' := Lib.hid hg'; clear hrow' hg')
      have HBw : Hid (Below w.heap.size w w') := Below.grown (HBr1.out.trans ((HA1.out _).mono HBr1.out.size)) HG'.out (Nat.le_trans HBr1.out.size (HA1.out _).size) HOwn.out
      have HZ' : Hid (w.heap.size + 1 ≤ w'.heap.size) := Nat.le_trans (HZA.out _) HG'.out.size
      have HRow2 : Hid (RowG ExE w' (w.heap.size + 1) (fun b => S b ∧ b < w.heap.size) (.slice sa' (l ++ [A.2]).length sc') (l ++ [A.2])) := by
        show RowG _ _ _ _ _ _
        rw [List.length_append]
        exact HRow'.out
      have HL2 : Hid (l ++ [A.2] = T.kids ++ (T.arms.take (j + 1)).map (·.2)) := by show _ = _; rw [HLt.out, HL.out, List.append_assoc]
      go_roundw
      case rel => exact ⟨j + 1, l ++ [A.2], sa', sc', hlt, by go_num, by rw [List.length_append]; rfl, by rw [List.length_append]; simp; omega, HL2, HRow2, HBw, HZ'⟩
      case measure => simp [intOf]; omega
    · have HR : Hid (l = chN T) := by
        show _ = _
        rw [HL.out, List.take_of_length_le (by rw [← HN.out]; omega)]; rfl
      go_wp2
      go_ret
      have e : l = chN T := HR.out
      subst e
      exact ⟨_, _, rfl, HRow.out, HBr.out⟩
end Go.Proofs.Ytgfjcpeeoapjlaa
