import Derived.Test.YtfkbifbodpelmaaDoorVM1
import Derived.Deep.CutBlock
/- The maker of expressions: choices, names, the leaves. -/
namespace Go.Proofs.YtfkbifbodpelmaaDoor.MR
open Go.RowKit Go.Maps Mth

set_option maxHeartbeats 1600000 in
theorem next_r (n : Int) (h1 : 1 ≤ n) (h2 : n ≤ 1000) (b : Nat) (w : World) (h : S3.Tq w b) :
    ∃ r : Int, 0 ≤ r ∧ r < n ∧ Calls Tryd.prog 28 #[.pointer (some ⟨b, 0, none⟩), .int .i64 n] w fun e w' => e = .returned (.int .i64 r) ∧ S3.Tq w' b ∧ w.grownBy w' (some b) := by
  obtain ⟨zs, a, cap, i, ht, hi, hl, hc⟩ := h
  obtain ⟨c0, c1, f1⟩ := ht.cells
  have HC := Lib.hid hc
  clear hc
  by_cases hlt : i < zs.length
  · have hge : decide ((zs.length : Int) ≤ (i : Int)) = false := by simpa using hlt
    obtain ⟨x, hx⟩ : ∃ x, zs[i]? = some x := ⟨_, List.getElem?_eq_getElem hlt⟩
    obtain ⟨ad, rfl, hne, hcx⟩ := HC.out i x hx
    clear hx
    have HT := Lib.hid ht
    have HM : Hid (∀ w, Calls Tryd.prog 9 #[.int .i64 x, .int .i64 n] w fun e w' => e = .returned (.int .i64 (x % n)) ∧ w' = w) := fun w => (S3.mod_any x n w h1 (by omega)).mono fun _ _ ⟨a, b⟩ => ⟨a, b.symm⟩
    have e1 := Int.emod_nonneg x (b := n) (by omega)
    have e2 := Int.emod_lt_of_pos x (b := n) (by omega)
    generalize x % n = r at *
    clear ht
    refine ⟨r, e1, e2, ?_⟩
    obtain ⟨ln, hln⟩ : ∃ ln, ln = zs.length := ⟨_, rfl⟩
    rw [← hln] at hi hl hlt hge c0 HT
    have HL := Lib.hid hln
    clear hln
    go_enter Tryd.func28, Tryd.ntmps28
    go_wp2
    go_quiet (fail)
    go_wp2
    have hbd : Below w.heap.size w (w.drewN nq) := below_drewN (Below.refl _ w) nq
    have HT2 := Lib.hid (HT.out.lift hbd)
    have hset := set1 HT2.out 1 (.int .i64 ((i : Int) + 1))
    have HT3 : Hid (S3.TapeAt ((w.drewN nq).setCell ⟨b, 1, none⟩ (.int .i64 ((i : Int) + 1))) b (.slice (some ad) ln cap) (i + 1)) := by
      show S3.TapeAt _ _ _ _
      unfold S3.TapeAt
      rw [hset.1]
      simp
    have HG : Hid (w.grownBy ((w.drewN nq).setCell ⟨b, 1, none⟩ (.int .i64 ((i : Int) + 1))) (some b)) := grown_trans (below_grown_some hbd b) hset.2.1
    have hcx3 : ((w.drewN nq).setCell ⟨b, 1, none⟩ (.int .i64 ((i : Int) + 1))).cell? (ad.add i) = some (.int .i64 x) := HG.out.cell hcx (by rw [add_block]; intro e; have := Option.some.inj e; omega)
    clear hset c0 c1 f1 hcx
    generalize ((w.drewN nq).setCell ⟨b, 1, none⟩ (.int .i64 ((i : Int) + 1))) = W at *
    obtain ⟨c0, c1, f1⟩ := HT3.out.cells
    have hwr : IntKind.i64.wrap (i : Int) = i := by rw [IntKind.wrap_i64]; omega
    go_quiet ((go_at_call 9; exact Calls.quiet_of_same (HM.out _)))
    go_wp2
    go_ret
    have hb2 : Below W.heap.size W (W.drewN nq) := below_drewN (Below.refl _ W) nq
    refine ⟨rfl, ?_, grown_trans HG.out (below_grown_some hb2 b)⟩
    refine S3.Tq.lift ⟨zs, some ad, cap, i + 1, by rw [← HL.out]; exact HT3.out, by rw [← HL.out]; omega, by rw [← HL.out]; omega, fun j y hy => ?_⟩ hb2
    obtain ⟨ad', e, h3, h4⟩ := HC.out j y hy
    exact ⟨ad', e, h3, HG.out.cell h4 (by rw [add_block]; intro e; have := Option.some.inj e; omega)⟩
  · have hge : decide ((zs.length : Int) ≤ (i : Int)) = true := by simpa using hlt
    refine ⟨0, by omega, by omega, ?_⟩
    go_enter Tryd.func28, Tryd.ntmps28
    go_wp2
    go_quiet (fail)
    go_wp2
    go_ret
    have hb : Below w.heap.size w (w.drewN nq) := below_drewN (Below.refl _ w) nq
    exact ⟨rfl, S3.Tq.lift ⟨zs, a, cap, i, ht, hi, hl, HC.out⟩ hb, below_grown_some hb b⟩

theorem vars_at {V : World} {B : Nat} {Z : TypeId} (h : V.heap[B]? = some (.cells #[.string ⟨#[120]⟩, .string ⟨#[121]⟩, .string ⟨#[122]⟩, .string ⟨#[102]⟩, .string ⟨#[103]⟩, .string ⟨#[118, 49]⟩, .string ⟨#[118, 50]⟩, .string ⟨#[105, 100]⟩] Z (0, 0))) (m : Nat) (hm : m < 8) :
    ∃ x : ByteArray, nmOk x = true ∧ V.cell? ⟨B, m, none⟩ = some (.string x) := by
  have hc : m = 0 ∨ m = 1 ∨ m = 2 ∨ m = 3 ∨ m = 4 ∨ m = 5 ∨ m = 6 ∨ m = 7 := by omega
  rcases hc with rfl | rfl | rfl | rfl | rfl | rfl | rfl | rfl
  all_goals
    refine ⟨_, ?_, (by simp only [World.cell?, h]; rfl)⟩
    decide +kernel
set_option maxRecDepth 100000 in
set_option maxHeartbeats 6400000 in
theorem variable_q (b : Nat) (w : World) (h : S3.Tq w b) :
    Calls Tryd.prog 29 #[.pointer (some ⟨b, 0, none⟩)] w fun e w' => ∃ n : ByteArray, e = .returned (.string n) ∧ nmOk n = true ∧ S3.Tq w' b ∧ w.grownBy w' (some b) := by
  have hb0 : Below w.heap.size w (w.alloc (.cells #[.string ⟨#[120]⟩, .string ⟨#[121]⟩, .string ⟨#[122]⟩, .string ⟨#[102]⟩, .string ⟨#[103]⟩, .string ⟨#[118, 49]⟩, .string ⟨#[118, 50]⟩, .string ⟨#[105, 100]⟩] 9)) := (Below.refl _ w).alloc (Nat.le_refl _) _
  have HB0 := Lib.hid hb0
  have hbl := heap_alloc_new w (.cells #[.string ⟨#[120]⟩, .string ⟨#[121]⟩, .string ⟨#[122]⟩, .string ⟨#[102]⟩, .string ⟨#[103]⟩, .string ⟨#[118, 49]⟩, .string ⟨#[118, 50]⟩, .string ⟨#[105, 100]⟩] 9)
  have HBl := Lib.hid hbl
  have hlt := h.lt
  have HT := Lib.hid (h.lift hb0)
  clear hb0 hbl h
  obtain ⟨r, hr0, hr8, hn⟩ := next_r 8 (by omega) (by omega) b _ HT.out
  have HN := Lib.hid hn
  clear hn
  go_enter Tryd.func29, Tryd.ntmps29
  go_wp2_with fail
  go_at_call 28
  generalize (w.alloc (.cells #[.string ⟨#[120]⟩, .string ⟨#[121]⟩, .string ⟨#[122]⟩, .string ⟨#[102]⟩, .string ⟨#[103]⟩, .string ⟨#[118, 49]⟩, .string ⟨#[118, 50]⟩, .string ⟨#[105, 100]⟩] 9)) = V at *
  refine HN.out.mono ?_
  rintro e w1 ⟨rfl, ht1, hg1⟩
  obtain ⟨k, rfl⟩ : ∃ k : Nat, r = k := ⟨r.toNat, by omega⟩
  have hk8 : k < 8 := by omega
  obtain ⟨x, hx, hc⟩ := vars_at ((hg1.block w.heap.size (Array.getElem?_eq_some_iff.1 HBl.out).1 (by intro e; have := Option.some.inj e; omega)).trans HBl.out) k hk8
  have HE := Lib.hid (And.intro hx (And.intro ht1 (grown_trans (below_grown_some HB0.out b) hg1)))
  clear hx ht1 hg1 HB0 HBl HT HN
  generalize w.heap.size = B at *
  go_wp2
  go_ret
  exact ⟨_, rfl, HE.out⟩
/-- The first choice of an expression. -/
def NX (w : World) (b : Nat) (r : Int) : Prop := Calls Tryd.prog 28 #[.pointer (some ⟨b, 0, none⟩), .int .i64 14] (w.alloc (.cells #[.int .i64 0, .int .i64 0, .string ⟨#[]⟩, .int .i64 0, .slice none 0 0, .slice none 0 0, .int .i64 0, .string ⟨#[]⟩, .int .i64 0, .int .i64 0, .slice none 0 0] 37)) fun e w' => e = .returned (.int .i64 r) ∧ S3.Tq w' b ∧ (w.alloc (.cells #[.int .i64 0, .int .i64 0, .string ⟨#[]⟩, .int .i64 0, .slice none 0 0, .slice none 0 0, .int .i64 0, .string ⟨#[]⟩, .int .i64 0, .int .i64 0, .slice none 0 0] 37)).grownBy w' (some b)
theorem nx_made {w : World} {b : Nat} (h : S3.Tq w b) : ∃ r : Int, 0 ≤ r ∧ r < 14 ∧ NX w b r := by
  obtain ⟨r, h0, h1, hn⟩ := next_r 14 (by omega) (by omega) b (w.alloc (.cells #[.int .i64 0, .int .i64 0, .string ⟨#[]⟩, .int .i64 0, .slice none 0 0, .slice none 0 0, .int .i64 0, .string ⟨#[]⟩, .int .i64 0, .int .i64 0, .slice none 0 0] 37)) (h.lift ((Below.refl _ w).alloc (Nat.le_refl _) _))
  exact ⟨r, h0, h1, hn⟩
theorem nm_size {n : ByteArray} (h : nmOk n = true) : n.size ≤ maxLen := by
  have := (nmOk_iff h).2
  rw [bl_len] at this
  unfold maxLen; omega
theorem cn_size {n : ByteArray} (h : cnOk n = true) : n.size ≤ maxLen := by
  have := (cnOk_iff h).2
  rw [bl_len] at this
  unfold maxLen; omega
set_option maxRecDepth 100000 in
set_option maxHeartbeats 6400000 in
theorem raw_var (d b base : Nat) (z r : Int) (w : World) (dv : Value) (hk : (z < 1 ∧ (r = 0 ∨ r = 1 ∨ r = 5 ∨ r = 6 ∨ r = 10 ∨ r = 11)) ∨ (1 ≤ z ∧ (r = 0 ∨ r = 1))) (ht : S3.Tq w b) (hbase : base ≤ w.heap.size) (HN : NX w b r) :
    Calls Tryd.prog 11 #[.pointer (some ⟨b, 0, none⟩), dv, .int .i64 z] w (RawEnd d base b w) := by
  have HV := Lib.hid (variable_q b)
  have HP0 := Lib.hid (PX.start ht)
  have hlt := ht.lt
  unfold NX at HN
  have HNx := Lib.hid HN
  clear HN ht
  rcases hk with ⟨hz, rfl | rfl | rfl | rfl | rfl | rfl⟩ | ⟨hz, rfl | rfl⟩
  all_goals
    go_enter Tryd.func11, Tryd.ntmps11
    go_wp2_with fail
    go_at_call 28
    generalize (w.alloc (.cells #[.int .i64 0, .int .i64 0, .string ⟨#[]⟩, .int .i64 0, .slice none 0 0, .slice none 0 0, .int .i64 0, .string ⟨#[]⟩, .int .i64 0, .int .i64 0, .slice none 0 0] 37)) = w0 at *
    refine HNx.out.mono ?_
    rintro e w1 ⟨rfl, ht1, hg1⟩
    have HP1 := Lib.hid (HP0.out.call ht1 hg1)
    clear ht1 hg1 HNx HP0
    go_wp2_with fail
    go_at_call 29
    refine (HV.out _ HP1.out.rd).mono ?_
    rintro e w2 ⟨n, rfl, hn, ht2, hg2⟩
    have HP2 := Lib.hid (HP1.out.call ht2 hg2)
    have HOk := Lib.hid (okE_var d hn)
    have HRes := Lib.hid (repE_leaf w2 (fun g => w.heap.size < g) 1 0 n 0 (nm_size hn))
    clear hn ht2 hg2 HP1 HV
    go_wp2_with (refine wpList_storeC rfl _ _ rfl _ _ _ HP2.out.res rfl rfl HRes.out.size HRes.out.len0 HRes.out.len.2 ?_; intro v8 hB8 hg8 hs8)
    obtain ⟨e0, e1, e2, e3, e4, e5, e6, e7, e8, e9, e10⟩ := hB8.all11
    refine bodyPost_ret (by simp [results, Tryd.results11, go_sem, e0, e1, e2, e3, e4, e5, e6, e7, e8, e9, e10]; try rfl) rfl ?_
    exact raw_fin (HP2.out.ret HRes.out hbase hg8) HOk.out
set_option maxRecDepth 100000 in
set_option maxHeartbeats 6400000 in
theorem raw_int (d b base : Nat) (z r : Int) (w : World) (dv : Value) (hk : (z < 1 ∧ (r = 2 ∨ r = 7 ∨ r = 12)) ∨ (1 ≤ z ∧ (r = 2))) (ht : S3.Tq w b) (hbase : base ≤ w.heap.size) (HN : NX w b r) :
    Calls Tryd.prog 11 #[.pointer (some ⟨b, 0, none⟩), dv, .int .i64 z] w (RawEnd d base b w) := by
  have HP0 := Lib.hid (PX.start ht)
  have hlt := ht.lt
  unfold NX at HN
  have HNx := Lib.hid HN
  clear HN ht
  rcases hk with ⟨hz, rfl | rfl | rfl⟩ | ⟨hz, rfl⟩
  all_goals
    go_enter Tryd.func11, Tryd.ntmps11
    go_wp2_with fail
    go_at_call 28
    generalize (w.alloc (.cells #[.int .i64 0, .int .i64 0, .string ⟨#[]⟩, .int .i64 0, .slice none 0 0, .slice none 0 0, .int .i64 0, .string ⟨#[]⟩, .int .i64 0, .int .i64 0, .slice none 0 0] 37)) = w0 at *
    refine HNx.out.mono ?_
    rintro e w1 ⟨rfl, ht1, hg1⟩
    have HP1 := Lib.hid (HP0.out.call ht1 hg1)
    clear ht1 hg1 HNx HP0
    obtain ⟨m, hm0, hm4, hn2⟩ := next_r 4 (by omega) (by omega) b w1 HP1.out.rd
    have HN2 := Lib.hid hn2
    clear hn2
    go_wp2_with fail
    go_at_call 28
    refine HN2.out.mono ?_
    rintro e w2 ⟨rfl, ht2, hg2⟩
    have HP2 := Lib.hid (HP1.out.call ht2 hg2)
    have HOk := Lib.hid (okE_int d hm0 (by omega))
    have HRes := Lib.hid (repE_leaf w2 (fun g => w.heap.size < g) 3 0 ⟨#[]⟩ m (Nat.zero_le _))
    clear ht2 hg2 HP1 HN2
    go_wp2_with (refine wpList_storeC rfl _ _ rfl _ _ _ HP2.out.res rfl rfl HRes.out.size HRes.out.len0 HRes.out.len.2 ?_; intro v8 hB8 hg8 hs8)
    obtain ⟨e0, e1, e2, e3, e4, e5, e6, e7, e8, e9, e10⟩ := hB8.all11
    refine bodyPost_ret (by simp [results, Tryd.results11, go_sem, e0, e1, e2, e3, e4, e5, e6, e7, e8, e9, e10]; try rfl) rfl ?_
    exact raw_fin (HP2.out.ret HRes.out hbase hg8) HOk.out
set_option maxRecDepth 100000 in
set_option maxHeartbeats 6400000 in
theorem raw_hole (d b base : Nat) (z r : Int) (w : World) (dv : Value) (hk : (z < 1 ∧ (r = 4 ∨ r = 9)) ∨ (1 ≤ z ∧ (r = 4))) (ht : S3.Tq w b) (hbase : base ≤ w.heap.size) (HN : NX w b r) :
    Calls Tryd.prog 11 #[.pointer (some ⟨b, 0, none⟩), dv, .int .i64 z] w (RawEnd d base b w) := by
  have HP0 := Lib.hid (PX.start ht)
  have hlt := ht.lt
  unfold NX at HN
  have HNx := Lib.hid HN
  clear HN ht
  rcases hk with ⟨hz, rfl | rfl⟩ | ⟨hz, rfl⟩
  all_goals
    go_enter Tryd.func11, Tryd.ntmps11
    go_wp2_with fail
    go_at_call 28
    generalize (w.alloc (.cells #[.int .i64 0, .int .i64 0, .string ⟨#[]⟩, .int .i64 0, .slice none 0 0, .slice none 0 0, .int .i64 0, .string ⟨#[]⟩, .int .i64 0, .int .i64 0, .slice none 0 0] 37)) = w0 at *
    refine HNx.out.mono ?_
    rintro e w1 ⟨rfl, ht1, hg1⟩
    have HP1 := Lib.hid (HP0.out.call ht1 hg1)
    clear ht1 hg1 HNx HP0
    have HRes := Lib.hid (repE_leaf w1 (fun g => w.heap.size < g) 10 0 ⟨#[]⟩ 0 (Nat.zero_le _))
    go_wp2_with (refine wpList_storeC rfl _ _ rfl _ _ _ HP1.out.res rfl rfl HRes.out.size HRes.out.len0 HRes.out.len.2 ?_; intro v8 hB8 hg8 hs8)
    obtain ⟨e0, e1, e2, e3, e4, e5, e6, e7, e8, e9, e10⟩ := hB8.all11
    refine bodyPost_ret (by simp [results, Tryd.results11, go_sem, e0, e1, e2, e3, e4, e5, e6, e7, e8, e9, e10]; try rfl) rfl ?_
    exact raw_fin (HP1.out.ret HRes.out hbase hg8) (okE_hole d)
set_option maxRecDepth 100000 in
set_option maxHeartbeats 6400000 in
theorem raw_gone (d b base : Nat) (z r : Int) (w : World) (sa : Option Addr) (sc : Nat) (hk : (z < 1 ∧ (r = 3 ∨ r = 8 ∨ r = 13)) ∨ (1 ≤ z ∧ (r = 3))) (ht : S3.Tq w b) (hbase : base ≤ w.heap.size) (HN : NX w b r) :
    Calls Tryd.prog 11 #[.pointer (some ⟨b, 0, none⟩), .slice sa 0 sc, .int .i64 z] w (RawEnd d base b w) := by
  have HP0 := Lib.hid (PX.start ht)
  have hlt := ht.lt
  unfold NX at HN
  have HNx := Lib.hid HN
  clear HN ht
  rcases hk with ⟨hz, rfl | rfl | rfl⟩ | ⟨hz, rfl⟩
  all_goals
    go_enter Tryd.func11, Tryd.ntmps11
    go_wp2_with fail
    go_at_call 28
    generalize (w.alloc (.cells #[.int .i64 0, .int .i64 0, .string ⟨#[]⟩, .int .i64 0, .slice none 0 0, .slice none 0 0, .int .i64 0, .string ⟨#[]⟩, .int .i64 0, .int .i64 0, .slice none 0 0] 37)) = w0 at *
    refine HNx.out.mono ?_
    rintro e w1 ⟨rfl, ht1, hg1⟩
    have HP1 := Lib.hid (HP0.out.call ht1 hg1)
    clear ht1 hg1 HNx HP0
    have HRes := Lib.hid (repE_leaf w1 (fun g => w.heap.size < g) 2 0 ⟨#[71, 111, 110, 101]⟩ 0 (by unfold maxLen; decide))
    go_wp2_with (refine wpList_storeC rfl _ _ rfl _ _ _ HP1.out.res rfl rfl HRes.out.size HRes.out.len0 HRes.out.len.2 ?_; intro v8 hB8 hg8 hs8)
    obtain ⟨e0, e1, e2, e3, e4, e5, e6, e7, e8, e9, e10⟩ := hB8.all11
    refine bodyPost_ret (by simp [results, Tryd.results11, go_sem, e0, e1, e2, e3, e4, e5, e6, e7, e8, e9, e10]; try rfl) rfl ?_
    exact raw_fin (HP1.out.ret HRes.out hbase hg8) (okE_con d (by decide +kernel))
end Go.Proofs.YtfkbifbodpelmaaDoor.MR
