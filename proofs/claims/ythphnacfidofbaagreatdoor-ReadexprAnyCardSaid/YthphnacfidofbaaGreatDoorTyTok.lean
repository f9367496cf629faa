/- The maker's Tokens: the valid ones of some tokens. -/
import Derived.Test.YthphnacfidofbaaGreatDoorTyRaw
import Derived.Test.YthphnacfidofbaaGreatDoorTyFst
import Derived.Deep.LoopGhost
import Derived.Deep.Slices
import Derived.Deep.Fields
import Derived.ChangeSame
import Derived.ProofKit
import Derived.OpenShut
namespace Go.Proofs.YthphnacfidofbaaGreatDoor
open Go.RowKit Go.Maps Mth

theorem rkind_len {l : List UInt8} (h : rkind l ≠ 0) : l.length ≤ 12 := by
  unfold rkind at h
  by_cases h1 : kw l = true
  · unfold kw kws at h1
    simp at h1
    rcases h1 with rfl | rfl | rfl | rfl | rfl | rfl | rfl <;> decide
  · rw [if_neg h1] at h
    by_cases h2 : (wrd l && hd low l && decide (l.length ≤ 12)) = true
    · simp at h2; exact h2.2
    · rw [if_neg h2] at h
      by_cases h3 : (wrd l && hd upp l && decide (l.length ≤ 12)) = true
      · simp at h3; exact h3.2
      · rw [if_neg h3] at h
        by_cases h4 : (!l.isEmpty && isInt l) = true
        · unfold isInt at h4; simp at h4; omega
        · rw [if_neg h4] at h
          by_cases h5 : mk l = true
          · unfold mk at h5
            simp at h5
            rcases h5 with rfl | ⟨c, _, rfl⟩ <;> simp
          · rw [if_neg h5] at h; exact absurd rfl h
/-- The token that a valid one of any make is. -/
def rawTok (k : Int) (x : ByteArray) (p : Nat) : Tok := ⟨k, x.data.toList, p⟩
theorem rawTok_text (k : Int) (x : ByteArray) (p : Nat) : (⟨(rawTok k x p).text.toArray⟩ : ByteArray) = x := by cases x; simp [rawTok]
theorem valB_tok {k : Int} {x : ByteArray} {p : Nat} (h : valB k x p = true) : rkind (rawTok k x p).text = (rawTok k x p).kind ∧ (rawTok k x p).text.length ≤ 4000 ∧ (rawTok k x p).pos ≤ 1000000000 := by
  unfold valB at h
  simp at h
  obtain ⟨⟨⟨h1, h2⟩, h3⟩, h4⟩ := h
  have e : rkind (rawTok k x p).text = k := h3
  refine ⟨e, ?_, by show p ≤ _; omega⟩
  have := rkind_len (l := (rawTok k x p).text) (by rw [e]; omega)
  omega
/-- All tokens of the row are valid. -/
def TkAll (acc : List Tok) : Prop := ∀ t ∈ acc, rkind t.text = t.kind ∧ t.text.length ≤ 4000 ∧ t.pos ≤ 1000000000
theorem three_raw {w : World} {Z : TypeId} {n : Nat} (hn : n = w.heap.size) (k : Int) (x : ByteArray) (p : Nat) : ∀ (j : Nat) (u : Value), (cells3 (rawTok k x p))[j]? = some u → (w.alloc (.cells #[.int .i64 k, .string x, .int .i64 p] Z)).cell? ((⟨n, 0, none⟩ : Addr).add j) = some u := by
  subst hn
  have e : cells3 (rawTok k x p) = [.int .i64 k, .string x, .int .i64 p] := by unfold cells3; rw [rawTok_text]; rfl
  rw [e]
  exact three_new
theorem three_cells (k : Int) (x : ByteArray) (p : Nat) : ∀ u ∈ cells3 (rawTok k x p), u.oneCell' = true := by
  intro u hu
  simp [cells3] at hu
  rcases hu with h | h | h <;> subst h <;> rfl
set_option maxRecDepth 100000 in
set_option maxHeartbeats 8000000 in
theorem tokens_any (v : Value) (rs : List Raw) (w : World) (h : RawAt w v rs) (hl : rs.length ≤ 20) (hx : ∀ r ∈ rs, r.x.size ≤ maxLen) :
    Calls Tryz.prog 21 #[v] w fun e w' => ∃ ts, ScanEnd w ts e w' ∧ TkOk ts ∧ TkVal ts := by
  obtain ⟨a, cap, rfl, ⟨hcap, hcap2⟩, hj⟩ := h
  have HJ := Lib.hid hj
  have HX := Lib.hid hx
  clear hj hx
  obtain ⟨n, hn⟩ : ∃ n, n = rs.length := ⟨_, rfl⟩
  rw [← hn] at hl hcap ⊢
  have HNl := Lib.hid hn
  clear hn
  obtain ⟨inf, hi, hz0, hz1, hz2⟩ := info_parts Tryz.info44
  have HIn := Lib.hid (And.intro hi (And.intro hz0 (And.intro hz1 hz2)))
  clear hi hz0 hz1 hz2
  go_enter Tryz.func21, Tryz.ntmps21
  go_wp2
  go_loopg [3, 4] n (fun g x i wr => ∃ (j : Nat) (acc : List Tok), j + g = n ∧ i = .int .i64 j ∧ acc.length ≤ j ∧ Hid (wr.ownsRow w.heap.size 44 3 x acc.length (row3 acc)) ∧ Hid (Below w.heap.size w wr) ∧ Hid (TkAll acc))
  case atStart => exact ⟨0, [], by omega, rfl, Nat.le_refl _, World.ownsRow_nil _ _ _ _, Below.refl _ w, fun t h => by cases h⟩
  case round =>
    obtain ⟨j, acc, hj, rfl, hal, HRow, HBr, HAll⟩ := hrel
    by_cases hlt : j < n
    · obtain ⟨g, rfl⟩ : ∃ g, gk = g + 1 := ⟨gk - 1, by omega⟩
      obtain ⟨r, hr⟩ : ∃ r, rs[j]? = some r := ⟨_, List.getElem?_eq_getElem (by rw [← HNl.out]; exact hlt)⟩
      obtain ⟨ad, rfl, q0, q1, q2⟩ := HJ.out j r hr
      have hrx := HX.out r (List.mem_of_getElem? hr)
      have HRx : Hid (r.x.size ≤ 9223372036854775807) := by unfold maxLen at hrx; exact hrx
      obtain ⟨rk, rx, rp⟩ := r
      dsimp only at q0 q1 q2 HRx
      have e0 : wr.cell? (ad.add (j * 3)) = some (.int .i64 rk) := by rw [HBr.out.cell (World.block_lt_of_cell? _ _ q0)]; exact q0
      have e1 : wr.cell? ⟨(ad.add (j * 3)).block, (ad.add (j * 3)).off + 1, none⟩ = some (.string rx) := by rw [HBr.out.cell (World.block_lt_of_cell? _ _ q1)]; exact q1
      have e2 : wr.cell? ⟨(ad.add (j * 3)).block, (ad.add (j * 3)).off + 2, none⟩ = some (.int .i64 rp) := by rw [HBr.out.cell (World.block_lt_of_cell? _ _ q2)]; exact q2
      have hji : (j : Int) < (n : Int) := by omega
      have hj0 : (0 : Int) ≤ (j : Int) := by omega
      have em1 := Int.emod_nonneg rp (b := 4000) (by omega)
      have em2 := Int.emod_lt_of_pos rp (b := 4000) (by omega)
      obtain ⟨m, hm⟩ : ∃ m : Nat, rp % 4000 = m := ⟨(rp % 4000).toNat, by omega⟩
      have HMd : Hid (∀ w, Calls Tryz.prog 18 #[.int .i64 rp, .int .i64 4000] w fun e w' => e = .returned (.int .i64 m) ∧ w = w') := fun w => by have := mod_any rp 4000 w (by omega) (by omega); rwa [hm] at this
      have hal1 : Below wr.heap.size wr (wr.alloc (.cells #[.int .i64 rk, .string rx, .int .i64 m] 44)) := (Below.refl _ wr).alloc (Nat.le_refl _) _
      have HT : Hid ((wr.alloc (.cells #[.int .i64 rk, .string rx, .int .i64 m] 44)).heap[wr.heap.size]? = some (.cells #[.int .i64 rk, .string rx, .int .i64 m] 44 (0, 0))) := heap_alloc_new wr _
      have HB2 := Lib.hid (keepCall HBr.out hal1)
      have HR2 := Lib.hid (ownsRow_below HRow.out hal1)
      obtain ⟨sa, sc, rfl, -, -⟩ := tokAt_of_row HRow.out
      have HVa := Lib.hid (fun w => valid_any rk rx m w HRx.out)
      have HVt : Hid (valB rk rx m = true → TkAll (acc ++ [rawTok rk rx m])) := fun h t ht => by
        rcases List.mem_append.1 ht with ht | ht
        · exact HAll.out t ht
        · simp at ht; subst ht; exact valB_tok h
      clear em1 em2 hm hal1 q0 q1 q2 hr hrx HRow HBr
      cases hvb : valB rk rx m with
      | true =>
        rw [hvb] at HVa
        have HVn := Lib.hid (HVt.out hvb)
        clear hvb HVt
        go_wp2_with (go_at_call 18; refine (HMd.out _).mono ?_; rintro e w' ⟨rfl, rfl⟩)
        go_at_call 47
        generalize (wr.alloc (.cells #[.int .i64 rk, .string rx, .int .i64 m] 44)) = W at *
        generalize wr.heap.size = nt at *
        refine (HVa.out W).mono ?_
        rintro e W2 ⟨rfl, hb2⟩
        have hx3 : Below W2.heap.size W2 (W2.alloc (.cells #[.int .i64 rk, .string rx, .int .i64 m] 44)) := (Below.refl _ W2).alloc (Nat.le_refl _) _
        have hT2 : W2.heap[nt]? = some (.cells #[.int .i64 rk, .string rx, .int .i64 m] 44 (0, 0)) := by rw [hb2.block _ (Array.getElem?_eq_some_iff.1 HT.out).1]; exact HT.out
        obtain ⟨⟨c0, c1, c2⟩, -⟩ := tok_cells hT2
        have HB3 := Lib.hid (keepCall (keepCall HB2.out hb2) hx3)
        have HR3 := Lib.hid (ownsRow_below (ownsRow_below HR2.out hb2) hx3)
        have hbs := HB3.out.size
        have hN1 : acc.length + 1 ≤ maxLen := by unfold maxLen; omega
        have hN2 : (acc.length + 1) * 32 ≤ 140737488355328 := by omega
        have HNN := Lib.hid (And.intro hN1 hN2)
        clear hb2 hx3 hT2 hN1 hN2 HB2 HR2 HT HVa HMd e0 e1 e2
        go_wp2_with (at_builtin; refine wpList_append_own_at _ rfl _ _ 35 rfl w.heap.size 44 inf _ 3 32 Tryz.underlying35 HIn.out.1 HIn.out.2.1 HIn.out.2.2.1 HIn.out.2.2.2 rfl (by decide) (.slice sa acc.length sc) acc.length (row3 acc) rfl HR3.out _ 1 1 (cells3 (rawTok rk rx m)) rfl rfl (three_raw rfl rk rx m) (three_cells rk rx m) HNN.out.1 HNN.out.2 hbs ?_; intro v' V hown' hg' _ _)
        have HOw : Hid (V.ownsRow w.heap.size 44 3 v' (acc ++ [rawTok rk rx m]).length (row3 (acc ++ [rawTok rk rx m]))) := by show World.ownsRow _ _ _ _ _ _ _; rw [row3_snoc, List.length_append]; exact hown'
        have HBV := Lib.hid (Below.grown HB3.out hg' HB3.out.size (fun k hk => (HR3.out.lt k hk).1))
        clear hown' hg' HB3 HR3 HNN c0 c1 c2
        go_wp2
        go_roundg g
        case measure => omega
        case rel => exact ⟨j + 1, acc ++ [rawTok rk rx m], by omega, by go_num, by simp; omega, HOw, HBV, HVn⟩
      | false =>
        rw [hvb] at HVa
        clear hvb HVt
        go_wp2_with (go_at_call 18; refine (HMd.out _).mono ?_; rintro e w' ⟨rfl, rfl⟩)
        go_at_call 47
        generalize (wr.alloc (.cells #[.int .i64 rk, .string rx, .int .i64 m] 44)) = W at *
        refine (HVa.out W).mono ?_
        rintro e W2 ⟨rfl, hb2⟩
        have HB3 := Lib.hid (keepCall HB2.out hb2)
        have HR3 := Lib.hid (ownsRow_below HR2.out hb2)
        clear hb2 HB2 HR2 HT HVa HMd e0 e1 e2
        go_wp2
        go_roundg g
        case measure => omega
        case rel => exact ⟨j + 1, acc, by omega, by go_num, by omega, HR3, HB3, HAll⟩
    · obtain rfl : j = n := by omega
      go_wp2
      go_ret
      exact ⟨acc, ⟨_, rfl, HRow.out, HBr.out⟩, ⟨by omega, fun t ht => (HAll.out t ht).2⟩, fun t ht => (HAll.out t ht).1⟩
end Go.Proofs.YthphnacfidofbaaGreatDoor
