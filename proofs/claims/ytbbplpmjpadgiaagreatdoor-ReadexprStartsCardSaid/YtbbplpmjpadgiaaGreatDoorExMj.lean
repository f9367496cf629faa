import Derived.Test.YtbbplpmjpadgiaaGreatDoorExMi
import Derived.Test.YtbbplpmjpadgiaaGreatDoorTyFst
import Derived.Test.YtbbplpmjpadgiaaGreatDoorTyRaw
import Derived.Deep.LoopGhost
/- The package's Expr and Atom. -/
namespace Go.Proofs.YtbbplpmjpadgiaaGreatDoor
open Go.RowKit Go.Maps Mth

set_option maxRecDepth 100000 in
set_option maxHeartbeats 6400000 in
theorem yExprCall (ts : List Tok) (hok : TkOk ts) (ea : Addr) (S : Nat → Prop) (lv : Value) (k : Int) (T : Ex) (s' : St) (r : Option (Ex × St)) (hr : r = some (T, s')) (HM : YAt 52 #[] ts ⟨startAt ts k, false, 0⟩ r) (w : World) (h : TokAt w S lv ts) (hg2 : G2 ea w) :
    Calls Tryz.prog 24 #[lv, .int .i64 k] w fun e w' => ∃ v, e = .returned v ∧ ResEAt w' (fun c => w.heap.size ≤ c) (resY T s') v ∧ Below w.heap.size w w' := by
  have HO : Hid (OutE w _) := outE_new w
  have HC : Hid (∀ V, Below w.heap.size w V → Calls Tryz.prog 51 #[lv, .int .i64 k, .func (.func 52) #[] #[]] V fun e w' => ∃ v, e = .returned v ∧ ResEAt w' (fun c => V.heap.size ≤ c) (resY T s') v ∧ Below V.heap.size V w') := fun V hb => yRead52 ts hok ea S lv k T s' r hr HM V (h.lift hb) (hg2.lift hb)
  generalize resY T s' = R at *
  obtain ⟨q, qn, qe, qp⟩ := R
  obtain ⟨a, cap, rfl, -, -⟩ := h
  clear hr HM hg2
  go_enter Tryz.func24, Tryz.ntmps24
  go_upto_region 1 with fail
  generalize ((w.alloc (.cells #[.int .i64 0, .int .i64 0, .string ⟨#[]⟩, .int .i64 0, .slice none 0 0, .slice none 0 0, .int .i64 0, .string ⟨#[]⟩, .int .i64 0, .int .i64 0, .slice none 0 0] 54)).alloc (.cells #[.int .i64 0, .int .i64 0] 40)) = V at *
  have hs0 := HO.out.size
  go_wp2_with fail
  go_at_call 51
  refine (HC.out V HO.out.low).mono ?_
  rintro e w3 ⟨v, rfl, ⟨c, rfl, hrep3⟩, hb3⟩
  have HO3 := Lib.hid (HO.out.lift hb3)
  have HP3 := Lib.hid (hrep3.imp (S' := fun g => w.heap.size + 2 ≤ g) (fun _ hg => Nat.le_trans hs0 hg))
  dsimp only at hrep3 HP3
  obtain ⟨ka, kc, aa, ac, tk, tn, ti, th, ta, tl, tc, rfl⟩ := hrep3.form
  clear hrep3 hb3 HO HC
  have HF := Lib.hid (HO3.out.fin (.int .i64 q.k) (.int .i64 q.p) (.string q.n) (.int .i64 q.m) (.slice ka q.kids.length kc) (.slice aa q.arms.length ac) (.int .i64 tk) (.string tn) (.int .i64 ti) (.int .i64 th) (.slice ta tl tc) (.int .i64 qe) (.int .i64 qp))
  obtain ⟨t0, t1, t2, t3, t4, t5, t6, t7, t8, t9, t10⟩ := HO3.out.typ.all11
  obtain ⟨y0, y1, y2, y3, y4, y5, y6, y7, y8, y9, y10⟩ := HO3.out.typ.free11
  obtain ⟨⟨z0, z1⟩, k0, k1⟩ := HO3.out.flt.all2
  go_wp2
  obtain ⟨hB, hF, hL, hK⟩ := HF.out
  clear HF t0 t1 t2 t3 t4 t5 t6 t7 t8 t9 t10 y0 y1 y2 y3 y4 y5 y6 y7 y8 y9 y10 z0 z1 k0 k1
  generalize (((((((((((((w3.setCell ⟨w.heap.size, 0, none⟩ (.int .i64 q.k)).setCell ⟨w.heap.size, 1, none⟩ (.int .i64 q.p)).setCell ⟨w.heap.size, 2, none⟩ (.string q.n)).setCell ⟨w.heap.size, 3, none⟩ (.int .i64 q.m)).setCell ⟨w.heap.size, 4, none⟩ (.slice ka q.kids.length kc)).setCell ⟨w.heap.size, 5, none⟩ (.slice aa q.arms.length ac)).setCell ⟨w.heap.size, 6, none⟩ (.int .i64 tk)).setCell ⟨w.heap.size, 7, none⟩ (.string tn)).setCell ⟨w.heap.size, 8, none⟩ (.int .i64 ti)).setCell ⟨w.heap.size, 9, none⟩ (.int .i64 th)).setCell ⟨w.heap.size, 10, none⟩ (.slice ta tl tc)).setCell ⟨w.heap.size + 1, 0, none⟩ (.int .i64 qe)).setCell ⟨w.heap.size + 1, 1, none⟩ (.int .i64 qp)) = X at *
  obtain ⟨c0, c1, c2, c3, c4, c5, c6, c7, c8, c9, c10⟩ := hB.all11
  obtain ⟨⟨u0, u1⟩, -⟩ := hF.all2
  refine bodyPost_ret (by simp [results, Tryz.results24, go_sem, c0, c1, c2, c3, c4, c5, c6, c7, c8, c9, c10, u0, u1]; try rfl) rfl ?_
  exact ⟨_, rfl, ⟨_, rfl, HP3.out.kept (fun c hc => by have : w.heap.size + 2 ≤ c := hc; omega) (fun c hc hlt => hK c hc hlt)⟩, hL⟩
set_option maxRecDepth 100000 in
set_option maxHeartbeats 6400000 in
theorem yAtomCall (ts : List Tok) (hok : TkOk ts) (ea : Addr) (S : Nat → Prop) (lv : Value) (k : Int) (T : Ex) (s' : St) (r : Option (Ex × St)) (hr : r = some (T, s')) (HM : YAt 56 #[] ts ⟨startAt ts k, false, 0⟩ r) (w : World) (h : TokAt w S lv ts) (hg2 : G2 ea w) :
    Calls Tryz.prog 26 #[lv, .int .i64 k] w fun e w' => ∃ v, e = .returned v ∧ ResEAt w' (fun c => w.heap.size ≤ c) (resY T s') v ∧ Below w.heap.size w w' := by
  have HO : Hid (OutE w _) := outE_new w
  have HC : Hid (∀ V, Below w.heap.size w V → Calls Tryz.prog 51 #[lv, .int .i64 k, .func (.func 56) #[] #[]] V fun e w' => ∃ v, e = .returned v ∧ ResEAt w' (fun c => V.heap.size ≤ c) (resY T s') v ∧ Below V.heap.size V w') := fun V hb => yRead56 ts hok ea S lv k T s' r hr HM V (h.lift hb) (hg2.lift hb)
  generalize resY T s' = R at *
  obtain ⟨q, qn, qe, qp⟩ := R
  obtain ⟨a, cap, rfl, -, -⟩ := h
  clear hr HM hg2
  go_enter Tryz.func26, Tryz.ntmps26
  go_upto_region 1 with fail
  generalize ((w.alloc (.cells #[.int .i64 0, .int .i64 0, .string ⟨#[]⟩, .int .i64 0, .slice none 0 0, .slice none 0 0, .int .i64 0, .string ⟨#[]⟩, .int .i64 0, .int .i64 0, .slice none 0 0] 54)).alloc (.cells #[.int .i64 0, .int .i64 0] 40)) = V at *
  have hs0 := HO.out.size
  go_wp2_with fail
  go_at_call 51
  refine (HC.out V HO.out.low).mono ?_
  rintro e w3 ⟨v, rfl, ⟨c, rfl, hrep3⟩, hb3⟩
  have HO3 := Lib.hid (HO.out.lift hb3)
  have HP3 := Lib.hid (hrep3.imp (S' := fun g => w.heap.size + 2 ≤ g) (fun _ hg => Nat.le_trans hs0 hg))
  dsimp only at hrep3 HP3
  obtain ⟨ka, kc, aa, ac, tk, tn, ti, th, ta, tl, tc, rfl⟩ := hrep3.form
  clear hrep3 hb3 HO HC
  have HF := Lib.hid (HO3.out.fin (.int .i64 q.k) (.int .i64 q.p) (.string q.n) (.int .i64 q.m) (.slice ka q.kids.length kc) (.slice aa q.arms.length ac) (.int .i64 tk) (.string tn) (.int .i64 ti) (.int .i64 th) (.slice ta tl tc) (.int .i64 qe) (.int .i64 qp))
  obtain ⟨t0, t1, t2, t3, t4, t5, t6, t7, t8, t9, t10⟩ := HO3.out.typ.all11
  obtain ⟨y0, y1, y2, y3, y4, y5, y6, y7, y8, y9, y10⟩ := HO3.out.typ.free11
  obtain ⟨⟨z0, z1⟩, k0, k1⟩ := HO3.out.flt.all2
  go_wp2
  obtain ⟨hB, hF, hL, hK⟩ := HF.out
  clear HF t0 t1 t2 t3 t4 t5 t6 t7 t8 t9 t10 y0 y1 y2 y3 y4 y5 y6 y7 y8 y9 y10 z0 z1 k0 k1
  generalize (((((((((((((w3.setCell ⟨w.heap.size, 0, none⟩ (.int .i64 q.k)).setCell ⟨w.heap.size, 1, none⟩ (.int .i64 q.p)).setCell ⟨w.heap.size, 2, none⟩ (.string q.n)).setCell ⟨w.heap.size, 3, none⟩ (.int .i64 q.m)).setCell ⟨w.heap.size, 4, none⟩ (.slice ka q.kids.length kc)).setCell ⟨w.heap.size, 5, none⟩ (.slice aa q.arms.length ac)).setCell ⟨w.heap.size, 6, none⟩ (.int .i64 tk)).setCell ⟨w.heap.size, 7, none⟩ (.string tn)).setCell ⟨w.heap.size, 8, none⟩ (.int .i64 ti)).setCell ⟨w.heap.size, 9, none⟩ (.int .i64 th)).setCell ⟨w.heap.size, 10, none⟩ (.slice ta tl tc)).setCell ⟨w.heap.size + 1, 0, none⟩ (.int .i64 qe)).setCell ⟨w.heap.size + 1, 1, none⟩ (.int .i64 qp)) = X at *
  obtain ⟨c0, c1, c2, c3, c4, c5, c6, c7, c8, c9, c10⟩ := hB.all11
  obtain ⟨⟨u0, u1⟩, -⟩ := hF.all2
  refine bodyPost_ret (by simp [results, Tryz.results26, go_sem, c0, c1, c2, c3, c4, c5, c6, c7, c8, c9, c10, u0, u1]; try rfl) rfl ?_
  exact ⟨_, rfl, ⟨_, rfl, HP3.out.kept (fun c hc => by have : w.heap.size + 2 ≤ c := hc; omega) (fun c hc hlt => hK c hc hlt)⟩, hL⟩
end Go.Proofs.YtbbplpmjpadgiaaGreatDoor

/- The law's scan and words; the reference's Starts. -/
namespace Go.Proofs.YtbbplpmjpadgiaaGreatDoor
open Go.RowKit Go.Maps Mth

set_option maxHeartbeats 1600000 in
theorem scan6_any (s : ByteArray) (w : World) (hs : s.size ≤ 140737488355328) : Calls Tryz.prog 31 #[.string s] w (ScanEnd w (ftoks (bl s))) := by
  have HS := Lib.hid (refScan_any s w hs)
  go_enter Tryz.func31, Tryz.ntmps31
  go_wp2_with fail
  go_at_call 43
  refine HS.out.mono ?_
  rintro e w1 ⟨v, rfl, hrow, hb⟩
  have HR := Lib.hid (ownsRow_below (ownsRow_base hrow (Nat.le_succ _)) ((Below.refl _ w1).alloc (Nat.le_refl _) (.cells #[.int .i64 (ferr (bl s)), .int .i64 (fpos (bl s))] 40)))
  have HB := Lib.hid (hb.trans (((Below.refl _ w1).alloc (Nat.le_refl _) (.cells #[.int .i64 (ferr (bl s)), .int .i64 (fpos (bl s))] 40)).mono hb.size))
  clear hrow hb HS
  go_wp2
  go_ret
  exact ⟨v, rfl, HR.out, HB.out⟩
def wordL6 : List ByteArray := [⟨#[120]⟩, ⟨#[102]⟩, ⟨#[67, 111, 110, 115]⟩, ⟨#[78, 105, 108]⟩, ⟨#[51]⟩, ⟨#[92]⟩, ⟨#[46]⟩, ⟨#[108, 101, 116]⟩, ⟨#[114, 101, 99]⟩, ⟨#[61]⟩, ⟨#[105, 110]⟩, ⟨#[99, 97, 115, 101]⟩, ⟨#[111, 102]⟩, ⟨#[124]⟩, ⟨#[101, 110, 100]⟩, ⟨#[40]⟩, ⟨#[41]⟩, ⟨#[123]⟩, ⟨#[125]⟩, ⟨#[63]⟩, ⟨#[58]⟩, ⟨#[73, 110, 116]⟩, ⟨#[45, 62]⟩, ⟨#[59]⟩, ⟨#[92, 32, 120, 32, 46]⟩, ⟨#[108, 101, 116, 32, 120, 32, 61]⟩, ⟨#[99, 97, 115, 101, 32, 120, 32, 111, 102]⟩, ⟨#[78, 105, 108, 32, 46]⟩]
theorem wordL6_at {V : World} {B : Nat} {Z : TypeId} (h : V.heap[B]? = some (.cells #[.string ⟨#[120]⟩, .string ⟨#[102]⟩, .string ⟨#[67, 111, 110, 115]⟩, .string ⟨#[78, 105, 108]⟩, .string ⟨#[51]⟩, .string ⟨#[92]⟩, .string ⟨#[46]⟩, .string ⟨#[108, 101, 116]⟩, .string ⟨#[114, 101, 99]⟩, .string ⟨#[61]⟩, .string ⟨#[105, 110]⟩, .string ⟨#[99, 97, 115, 101]⟩, .string ⟨#[111, 102]⟩, .string ⟨#[124]⟩, .string ⟨#[101, 110, 100]⟩, .string ⟨#[40]⟩, .string ⟨#[41]⟩, .string ⟨#[123]⟩, .string ⟨#[125]⟩, .string ⟨#[63]⟩, .string ⟨#[58]⟩, .string ⟨#[73, 110, 116]⟩, .string ⟨#[45, 62]⟩, .string ⟨#[59]⟩, .string ⟨#[92, 32, 120, 32, 46]⟩, .string ⟨#[108, 101, 116, 32, 120, 32, 61]⟩, .string ⟨#[99, 97, 115, 101, 32, 120, 32, 111, 102]⟩, .string ⟨#[78, 105, 108, 32, 46]⟩] Z (0, 0))) (m : Nat) (hm : m < 28) :
    ∃ x : ByteArray, x.size ≤ 9 ∧ V.cell? ⟨B, m, none⟩ = some (.string x) := by
  have hc : m = 0 ∨ m = 1 ∨ m = 2 ∨ m = 3 ∨ m = 4 ∨ m = 5 ∨ m = 6 ∨ m = 7 ∨ m = 8 ∨ m = 9 ∨ m = 10 ∨ m = 11 ∨ m = 12 ∨ m = 13 ∨ m = 14 ∨ m = 15 ∨ m = 16 ∨ m = 17 ∨ m = 18 ∨ m = 19 ∨ m = 20 ∨ m = 21 ∨ m = 22 ∨ m = 23 ∨ m = 24 ∨ m = 25 ∨ m = 26 ∨ m = 27 := by omega
  rcases hc with rfl | rfl | rfl | rfl | rfl | rfl | rfl | rfl | rfl | rfl | rfl | rfl | rfl | rfl | rfl | rfl | rfl | rfl | rfl | rfl | rfl | rfl | rfl | rfl | rfl | rfl | rfl | rfl
  all_goals
    refine ⟨_, ?_, (by simp only [World.cell?, h]; rfl)⟩
    decide
set_option maxRecDepth 100000 in
set_option maxHeartbeats 3200000 in
theorem words6_any (v : Value) (zs : List Int) (w : World) (h : Ints w v zs) (hz : zs.length ≤ 50) :
    Calls Tryz.prog 23 #[v] w fun e w' => ∃ ts, ScanEnd w ts e w' ∧ TkOk ts ∧ TkVal ts := by
  obtain ⟨a, cap, rfl, hcap, hcap2, hj⟩ := h
  have HJ := Lib.hid hj
  clear hj
  obtain ⟨n, hn⟩ : ∃ n, n = zs.length := ⟨_, rfl⟩
  rw [← hn] at hz hcap ⊢
  have HNl := Lib.hid hn
  clear hn
  have hb0 : Below w.heap.size w (w.alloc (.cells #[.string ⟨#[120]⟩, .string ⟨#[102]⟩, .string ⟨#[67, 111, 110, 115]⟩, .string ⟨#[78, 105, 108]⟩, .string ⟨#[51]⟩, .string ⟨#[92]⟩, .string ⟨#[46]⟩, .string ⟨#[108, 101, 116]⟩, .string ⟨#[114, 101, 99]⟩, .string ⟨#[61]⟩, .string ⟨#[105, 110]⟩, .string ⟨#[99, 97, 115, 101]⟩, .string ⟨#[111, 102]⟩, .string ⟨#[124]⟩, .string ⟨#[101, 110, 100]⟩, .string ⟨#[40]⟩, .string ⟨#[41]⟩, .string ⟨#[123]⟩, .string ⟨#[125]⟩, .string ⟨#[63]⟩, .string ⟨#[58]⟩, .string ⟨#[73, 110, 116]⟩, .string ⟨#[45, 62]⟩, .string ⟨#[59]⟩, .string ⟨#[92, 32, 120, 32, 46]⟩, .string ⟨#[108, 101, 116, 32, 120, 32, 61]⟩, .string ⟨#[99, 97, 115, 101, 32, 120, 32, 111, 102]⟩, .string ⟨#[78, 105, 108, 32, 46]⟩] 9)) := (Below.refl _ w).alloc (Nat.le_refl _) _
  have HB0 := Lib.hid hb0
  have HW : Hid (∀ m, m < 28 → ∃ x : ByteArray, x.size ≤ 9 ∧ (w.alloc (.cells #[.string ⟨#[120]⟩, .string ⟨#[102]⟩, .string ⟨#[67, 111, 110, 115]⟩, .string ⟨#[78, 105, 108]⟩, .string ⟨#[51]⟩, .string ⟨#[92]⟩, .string ⟨#[46]⟩, .string ⟨#[108, 101, 116]⟩, .string ⟨#[114, 101, 99]⟩, .string ⟨#[61]⟩, .string ⟨#[105, 110]⟩, .string ⟨#[99, 97, 115, 101]⟩, .string ⟨#[111, 102]⟩, .string ⟨#[124]⟩, .string ⟨#[101, 110, 100]⟩, .string ⟨#[40]⟩, .string ⟨#[41]⟩, .string ⟨#[123]⟩, .string ⟨#[125]⟩, .string ⟨#[63]⟩, .string ⟨#[58]⟩, .string ⟨#[73, 110, 116]⟩, .string ⟨#[45, 62]⟩, .string ⟨#[59]⟩, .string ⟨#[92, 32, 120, 32, 46]⟩, .string ⟨#[108, 101, 116, 32, 120, 32, 61]⟩, .string ⟨#[99, 97, 115, 101, 32, 120, 32, 111, 102]⟩, .string ⟨#[78, 105, 108, 32, 46]⟩] 9)).cell? ⟨w.heap.size, m, none⟩ = some (.string x)) := fun m hm => wordL6_at (heap_alloc_new w _) m hm
  clear hb0
  go_enter Tryz.func23, Tryz.ntmps23
  go_upto_region 2 with fail
  generalize (w.alloc (.cells #[.string ⟨#[120]⟩, .string ⟨#[102]⟩, .string ⟨#[67, 111, 110, 115]⟩, .string ⟨#[78, 105, 108]⟩, .string ⟨#[51]⟩, .string ⟨#[92]⟩, .string ⟨#[46]⟩, .string ⟨#[108, 101, 116]⟩, .string ⟨#[114, 101, 99]⟩, .string ⟨#[61]⟩, .string ⟨#[105, 110]⟩, .string ⟨#[99, 97, 115, 101]⟩, .string ⟨#[111, 102]⟩, .string ⟨#[124]⟩, .string ⟨#[101, 110, 100]⟩, .string ⟨#[40]⟩, .string ⟨#[41]⟩, .string ⟨#[123]⟩, .string ⟨#[125]⟩, .string ⟨#[63]⟩, .string ⟨#[58]⟩, .string ⟨#[73, 110, 116]⟩, .string ⟨#[45, 62]⟩, .string ⟨#[59]⟩, .string ⟨#[92, 32, 120, 32, 46]⟩, .string ⟨#[108, 101, 116, 32, 120, 32, 61]⟩, .string ⟨#[99, 97, 115, 101, 32, 120, 32, 111, 102]⟩, .string ⟨#[78, 105, 108, 32, 46]⟩] 9)) = V at *
  have HJV : Hid (∀ (i : Nat) (x : Int), zs[i]? = some x → ∃ ad, a = some ad ∧ V.cell? (ad.add i) = some (.int .i64 x)) := fun i x hx => by
    obtain ⟨ad, h1, h2⟩ := HJ.out i x hx
    refine ⟨ad, h1, ?_⟩
    rw [HB0.out.cell (World.block_lt_of_cell? _ _ h2)]; exact h2
  clear HJ
  go_wp2
  go_loop [4, 5] (fun s i => ∃ (k : Nat) (x : ByteArray), k ≤ n ∧ i = .int .i64 k ∧ s = .string x ∧ x.size ≤ 10 * k) (fun _ i => n - (intOf i).toNat)
  case atStart => exact ⟨0, ⟨#[]⟩, Nat.zero_le _, rfl, rfl, Nat.zero_le _⟩
  case round =>
    obtain ⟨k, x, hk, rfl, rfl, hx⟩ := hrel
    by_cases hlt : k < n
    · obtain ⟨z, hz'⟩ : ∃ z, zs[k]? = some z := ⟨_, List.getElem?_eq_getElem (by rw [← HNl.out]; exact hlt)⟩
      obtain ⟨ad, rfl, hc⟩ := HJV.out k z hz'
      have e1 := Int.emod_nonneg z (b := 28) (by omega)
      have e2 := Int.emod_lt_of_pos z (b := 28) (by omega)
      obtain ⟨m, hm⟩ : ∃ m : Nat, z % 28 = m := ⟨(z % 28).toNat, by omega⟩
      have HMd : Hid (∀ w, Calls Tryz.prog 19 #[.int .i64 z, .int .i64 28] w fun e w' => e = .returned (.int .i64 m) ∧ w = w') := fun w => by have := mod_any z 28 w (by omega) (by omega); rwa [hm] at this
      have hm1 : m < 28 := by omega
      have hm2 : (m : Int) < 28 := by omega
      have hm0 : (0 : Int) ≤ (m : Int) := by omega
      obtain ⟨y, hy, hcy⟩ := HW.out m hm1
      have hki : (k : Int) < (n : Int) := by omega
      clear e1 e2 hm hz'
      go_wp2_with (go_at_call 19; refine (HMd.out _).mono ?_; rintro e w' ⟨rfl, rfl⟩)
      go_round
      case rel => exact ⟨k + 1, _, hlt, by go_num, rfl, by rw [ByteArray.size_append, ByteArray.size_append]; have h32 : (⟨#[32]⟩ : ByteArray).size = 1 := rfl; omega⟩
      case measure => simp [intOf]; omega
    · obtain rfl : k = n := by omega
      clear HJV HW
      go_wp2_with fail
      go_at_call 31
      refine (scan6_any x V (by omega)).mono ?_
      rintro e w1 ⟨v, rfl, hrow, hb⟩
      have HR := Lib.hid (ownsRow_base hrow HB0.out.size)
      have HB := Lib.hid (HB0.out.trans (hb.mono HB0.out.size))
      clear hrow hb
      go_wp2
      go_ret
      exact ⟨_, ⟨v, rfl, HR.out, HB.out⟩, ftoks_ok _⟩
theorem rstarts6_any (k : Int) (x : ByteArray) (p : Int) (w : World) :
    Calls Tryz.prog 36 #[.agg #[.int .i64 k, .string x, .int .i64 p]] w fun e w' => e = .returned (.bool (stB k x)) ∧ Below w.heap.size w w' := by
  have hb : Below w.heap.size w (w.alloc (.cells #[.int .i64 k, .string x, .int .i64 p] 44)) := (Below.refl _ w).alloc (Nat.le_refl _) _
  have HB := Lib.hid hb
  clear hb
  unfold stB
  cases h1 : (k == 1)
  rotate_left
  ·
    go_enter Tryz.func36, Tryz.ntmps36
    go_wp2
    go_ret
    exact ⟨rfl, HB.out⟩
  cases h2 : (k == 2)
  rotate_left
  ·
    go_enter Tryz.func36, Tryz.ntmps36
    go_wp2
    go_ret
    exact ⟨rfl, HB.out⟩
  cases h3 : (k == 3)
  rotate_left
  ·
    go_enter Tryz.func36, Tryz.ntmps36
    go_wp2
    go_ret
    exact ⟨rfl, HB.out⟩
  cases h5 : (k == 5)
  ·
    go_enter Tryz.func36, Tryz.ntmps36
    go_wp2
    go_ret
    exact ⟨rfl, HB.out⟩
  rw [show (⟨#[63]⟩ : ByteArray).toList = [63] from by decide +kernel, show (⟨#[40]⟩ : ByteArray).toList = [40] from by decide +kernel, show (⟨#[123]⟩ : ByteArray).toList = [123] from by decide +kernel]
  cases h6 : (x.toList == [63]) <;> cases h7 : (x.toList == [40]) <;> cases h8 : (x.toList == [123])
  all_goals
    go_enter Tryz.func36, Tryz.ntmps36
    go_wp2
    go_ret
    exact ⟨rfl, HB.out⟩
end Go.Proofs.YtbbplpmjpadgiaaGreatDoor

/- The law's own sanity check is true. -/
namespace Go.Proofs.YtbbplpmjpadgiaaGreatDoor
open Go.RowKit Go.Maps Mth

def e6src1 : ByteArray := ⟨#[102, 32, 120, 32, 40, 32, 92, 32, 121, 32, 46, 32, 121, 32, 41]⟩
def e6src2 : ByteArray := ⟨#[92, 32, 120, 32, 120]⟩
theorem noColon {ts : List Tok} (h : (ts.all fun t => !(t.kind == 5 && t.text == [58])) = true) (s : St) : yM ts s ⟨#[58]⟩ = false := by
  obtain ⟨i, q, p⟩ := s
  unfold yM yK yT
  cases q
  · simp only [Bool.false_eq_true, if_false]
    unfold tkK txt
    cases ht : ts[i]? with
    | none => rfl
    | some t =>
      have := List.all_eq_true.1 h t (List.mem_of_getElem? ht)
      have e : (⟨t.text.toArray⟩ : ByteArray).toList = t.text := by rw [Lib.toList_data]
      rw [e, show (⟨#[58]⟩ : ByteArray).toList = [58] from by decide +kernel]
      cases hq : (t.kind == 5 && t.text == [58]) with
      | false => rfl
      | true => rw [hq] at this; cases this
  · rfl
def e6ok1 : Bool := match yExpr 60 (ftoks (bl e6src1)) ⟨0, false, 0⟩ with
  | some (T, s) => !s.bad && s.i == 8 && T.k == 5 && (match T.kids with | [A, B] => A.k == 5 && B.k == 4 | _ => false)
  | none => false
def e6ok2 : Bool := match yExpr 60 (ftoks (bl e6src2)) ⟨0, false, 0⟩ with
  | some (_, s) => s.bad && s.p == 4
  | none => false
theorem e6one : e6ok1 = true := by decide +kernel
theorem e6two : e6ok2 = true := by decide +kernel
theorem e6col1 : ((ftoks (bl e6src1)).all fun t => !(t.kind == 5 && t.text == [58])) = true := by decide +kernel
theorem e6col2 : ((ftoks (bl e6src2)).all fun t => !(t.kind == 5 && t.text == [58])) = true := by decide +kernel
theorem startAt_zero (ts : List Tok) : startAt ts 0 = 0 := by unfold startAt; rw [if_neg (by omega)]; rfl
/-- The first example: its two kids, as the law looks at them. -/
theorem e6call1 (ea : Addr) (b : Nat) (v : Value) (V : World) (h : V.ownsRow b 44 3 v (ftoks (bl e6src1)).length (row3 (ftoks (bl e6src1)))) (hg : G2 ea V) :
    Calls Tryz.prog 24 #[v, .int .i64 0] V fun e w' => ∃ c ad cp, e = .returned (.tuple #[.agg (List.toArray c), .int .i64 8, .agg #[.int .i64 0, .int .i64 0]]) ∧ Below V.heap.size V w' ∧ (∃ (p : Int) (n : ByteArray) (m : Int) (aa : Option Addr) (al ac : Nat) (t0 : Int) (t1 : ByteArray) (t2 t3 : Int) (ta : Option Addr) (tl tc : Nat), c = [.int .i64 5, .int .i64 p, .string n, .int .i64 m, .slice (some ad) 2 cp, .slice aa al ac, .int .i64 t0, .string t1, .int .i64 t2, .int .i64 t3, .slice ta tl tc]) ∧
      w'.cell? (ad.add 0) = some (.int .i64 5) ∧ w'.cell? (ad.add 11) = some (.int .i64 4) := by
  have hok := e6one
  unfold e6ok1 at hok
  cases hE : yExpr 60 (ftoks (bl e6src1)) ⟨0, false, 0⟩ with
  | none => rw [hE] at hok; cases hok
  | some q =>
    obtain ⟨T, s⟩ := q
    rw [hE] at hok
    simp only [Bool.and_eq_true] at hok
    obtain ⟨⟨⟨h1, h2⟩, h3⟩, h4⟩ := hok
    obtain ⟨i, q, p⟩ := s
    simp at h1 h2
    subst h1 h2
    have hk : T.k = 5 := by simpa using h3
    obtain ⟨htk, htv⟩ := ftoks_ok (bl e6src1)
    have HY := yAll_any _ htv (fun s hs => by rw [noColon e6col1 s] at hs; cases hs) 60 (by omega)
    refine (yExprCall _ htk ea _ v 0 T ⟨8, false, p⟩ _ hE (by rw [startAt_zero]; exact HY.expr _) V (tokAt_of_row h) hg).mono ?_
    rintro e w' ⟨u, rfl, ⟨c, rfl, hrep⟩, hb⟩
    obtain ⟨kv, av, tc, rfl, -, hkids, harms, htc⟩ := hrep.open
    obtain ⟨aa, ac, rfl, -⟩ := harms.slice
    change SlG ExE _ _ T.kids kv at hkids
    obtain ⟨k0, n0, i0, h0, a0, m0, p0, rfl⟩ := rep_form htc
    cases hl : T.kids with
    | nil => rw [hl] at h4; cases h4
    | cons A l =>
      cases l with
      | nil => rw [hl] at h4; cases h4
      | cons B l =>
        cases l with
        | cons C l => rw [hl] at h4; cases h4
        | nil =>
          rw [hl] at h4 hkids
          simp only [Bool.and_eq_true, beq_iff_eq] at h4
          obtain ⟨a, cap, rfl, hc, hj⟩ := hkids
          obtain ⟨ad, cA, rfl, -, hcA, hrA⟩ := hj 0 A rfl
          obtain ⟨ad', cB, e', -, hcB, hrB⟩ := hj 1 B rfl
          obtain rfl : ad' = ad := by simpa using e'.symm
          obtain ⟨kvA, avA, tcA, rfl, -⟩ := RepE.open hrA
          obtain ⟨kvB, avB, tcB, rfl, -⟩ := RepE.open hrB
          refine ⟨_, ad', cap, rfl, hb, ⟨_, _, _, _, _, _, _, _, _, _, _, _, _, by show _ :: _ = _; rw [show (resY T ⟨8, false, p⟩).T.k = 5 from hk]; rfl⟩, ?_, ?_⟩
          · have := hcA 0 _ rfl
            rw [h4.1] at this
            exact this
          · have := hcB 0 _ rfl
            rw [h4.2] at this
            exact this
theorem e6call2 (ea : Addr) (b : Nat) (v : Value) (V : World) (h : V.ownsRow b 44 3 v (ftoks (bl e6src2)).length (row3 (ftoks (bl e6src2)))) (hg : G2 ea V) :
    Calls Tryz.prog 24 #[v, .int .i64 0] V fun e w' => ∃ c, e = .returned (.tuple #[.agg (List.toArray c), .int .i64 0, .agg #[.int .i64 3, .int .i64 4]]) ∧ Below V.heap.size V w' ∧ ∃ (a0 a1 : Int) (a2 : ByteArray) (a3 : Int) (k1 : Option Addr) (k2 k3 : Nat) (k4 : Option Addr) (k5 k6 : Nat) (a6 : Int) (a7 : ByteArray) (a8 a9 : Int) (k7 : Option Addr) (k8 k9 : Nat), c = [.int .i64 a0, .int .i64 a1, .string a2, .int .i64 a3, .slice k1 k2 k3, .slice k4 k5 k6, .int .i64 a6, .string a7, .int .i64 a8, .int .i64 a9, .slice k7 k8 k9] := by
  have hok := e6two
  unfold e6ok2 at hok
  cases hE : yExpr 60 (ftoks (bl e6src2)) ⟨0, false, 0⟩ with
  | none => rw [hE] at hok; cases hok
  | some q =>
    obtain ⟨T, s⟩ := q
    rw [hE] at hok
    simp only [Bool.and_eq_true] at hok
    obtain ⟨i, q, p⟩ := s
    simp at hok
    obtain ⟨rfl, rfl⟩ := hok
    obtain ⟨htk, htv⟩ := ftoks_ok (bl e6src2)
    have HY := yAll_any _ htv (fun s hs => by rw [noColon e6col2 s] at hs; cases hs) 60 (by omega)
    refine (yExprCall _ htk ea _ v 0 T ⟨i, true, 4⟩ _ hE (by rw [startAt_zero]; exact HY.expr _) V (tokAt_of_row h) hg).mono ?_
    rintro e w' ⟨u, rfl, ⟨c, rfl, hrep⟩, hb⟩
    obtain ⟨ka, kc, aa, ac, tk, tn, ti, th, ta, tl, tcap, rfl⟩ := hrep.form
    exact ⟨_, rfl, hb, _, _, _, _, _, _, _, _, _, _, _, _, _, _, _, _, _, rfl⟩
set_option maxRecDepth 100000 in
set_option maxHeartbeats 8000000 in
theorem first6_any (ea : Addr) (w : World) (hg : G2 ea w) : Calls Tryz.prog 21 #[] w fun e w' => e = .returned (.bool true) ∧ Below w.heap.size w w' := by
  have HG := Lib.hid hg
  have hsz1 : e6src1.size ≤ 140737488355328 := by decide +kernel
  have hsz2 : e6src2.size ≤ 140737488355328 := by decide +kernel
  have HSz1 := Lib.hid hsz1
  have HSz2 := Lib.hid hsz2
  clear hsz1 hsz2 hg
  have HS1 : Hid (Calls Tryz.prog 31 #[.string ⟨#[102, 32, 120, 32, 40, 32, 92, 32, 121, 32, 46, 32, 121, 32, 41]⟩] w (ScanEnd w (ftoks (bl e6src1)))) := scan6_any e6src1 w HSz1.out
  have HS2 : Hid (∀ V, Calls Tryz.prog 31 #[.string ⟨#[92, 32, 120, 32, 120]⟩] V (ScanEnd V (ftoks (bl e6src2)))) := fun V => scan6_any e6src2 V HSz2.out
  have HT1 := Lib.hid (fun (b : Nat) (v : Value) (V : World) (h : V.ownsRow b 44 3 v (ftoks (bl e6src1)).length (row3 (ftoks (bl e6src1)))) (hg : G2 ea V) => e6call1 ea b v V h hg)
  have HT2 := Lib.hid (fun (b : Nat) (v : Value) (V : World) (h : V.ownsRow b 44 3 v (ftoks (bl e6src2)).length (row3 (ftoks (bl e6src2)))) (hg : G2 ea V) => e6call2 ea b v V h hg)
  generalize ftoks (bl e6src1) = ts1 at *
  generalize ftoks (bl e6src2) = ts2 at *
  go_enter Tryz.func21, Tryz.ntmps21
  go_wp2_with fail
  go_at_call 31
  refine HS1.out.mono ?_
  rintro e w1 ⟨v1, rfl, hrow, hb1⟩
  have HR1 := Lib.hid hrow
  have HB1 := Lib.hid hb1
  clear hrow hb1 HS1
  go_wp2_with fail
  go_at_call 24
  refine (HT1.out _ v1 w1 HR1.out (HG.out.lift HB1.out)).mono ?_
  rintro e w2 ⟨c, ad, cp, rfl, hb2, ⟨p, n, m, aa, al, ac, t0, t1, t2, t3, ta, tl, tc, rfl⟩, hA, hB⟩
  have HB2 := Lib.hid (keepCall HB1.out hb2)
  have hba : Below w2.heap.size w2 ((w2.alloc (.cells #[.int .i64 5, .int .i64 p, .string n, .int .i64 m, .slice (some ad) 2 cp, .slice aa al ac, .int .i64 t0, .string t1, .int .i64 t2, .int .i64 t3, .slice ta tl tc] 54)).alloc (.cells #[.int .i64 0, .int .i64 0] 40)) := ((Below.refl _ w2).alloc (Nat.le_refl _) _).alloc (by simp) _
  have HX : Hid (∀ v, Below ((w2.alloc (.cells #[.int .i64 5, .int .i64 p, .string n, .int .i64 m, .slice (some ad) 2 cp, .slice aa al ac, .int .i64 t0, .string t1, .int .i64 t2, .int .i64 t3, .slice ta tl tc] 54)).alloc (.cells #[.int .i64 0, .int .i64 0] 40)).heap.size ((w2.alloc (.cells #[.int .i64 5, .int .i64 p, .string n, .int .i64 m, .slice (some ad) 2 cp, .slice aa al ac, .int .i64 t0, .string t1, .int .i64 t2, .int .i64 t3, .slice ta tl tc] 54)).alloc (.cells #[.int .i64 0, .int .i64 0] 40)) v → v.cell? ⟨w2.heap.size, 0, none⟩ = some (.int .i64 5) ∧ v.cell? ⟨w2.heap.size, 4, none⟩ = some (.slice (some ad) 2 cp) ∧ v.cell? ⟨w2.heap.size + 1, 0, none⟩ = some (.int .i64 0) ∧ v.cell? ad = some (.int .i64 5) ∧ v.cell? ⟨ad.block, ad.off + 11, none⟩ = some (.int .i64 4)) := fun v hv => by
    have hall := hba.trans (hv.mono hba.size)
    have hbx : BoxC 54 ((w2.alloc (.cells #[.int .i64 5, .int .i64 p, .string n, .int .i64 m, .slice (some ad) 2 cp, .slice aa al ac, .int .i64 t0, .string t1, .int .i64 t2, .int .i64 t3, .slice ta tl tc] 54)).alloc (.cells #[.int .i64 0, .int .i64 0] 40)) w2.heap.size (Array.toList #[.int .i64 5, .int .i64 p, .string n, .int .i64 m, .slice (some ad) 2 cp, .slice aa al ac, .int .i64 t0, .string t1, .int .i64 t2, .int .i64 t3, .slice ta tl tc]) := by
      show (_ : Array _)[_]? = _
      rw [heap_at, if_neg (by simp), heap_at, if_pos rfl]
    have hfx : BoxC 40 ((w2.alloc (.cells #[.int .i64 5, .int .i64 p, .string n, .int .i64 m, .slice (some ad) 2 cp, .slice aa al ac, .int .i64 t0, .string t1, .int .i64 t2, .int .i64 t3, .slice ta tl tc] 54)).alloc (.cells #[.int .i64 0, .int .i64 0] 40)) (w2.heap.size + 1) [.int .i64 0, .int .i64 0] := by
      show (_ : Array _)[_]? = _
      rw [heap_at, if_pos (by simp)]
    have hb' := hbx.lift hv
    have hf' := hfx.lift hv
    have hA' := (hall.cell (World.block_lt_of_cell? _ _ hA)).trans hA
    have hB' := (hall.cell (World.block_lt_of_cell? _ _ hB)).trans hB
    refine ⟨hb'.cell 0 _ rfl, hb'.cell 4 _ rfl, hf'.cell 0 _ rfl, ?_, ?_⟩
    · have e : ad.add 0 = ad := by simp [Addr.add]
      rw [e] at hA'; exact hA'
    · have e : ad.add 11 = ⟨ad.block, ad.off + 11, none⟩ := by simp [Addr.add]
      rw [e] at hB'; exact hB'
  have HBa := Lib.hid (keepCall HB2.out hba)
  clear hb2 hba hA hB HT1 HR1 HB1 HB2
  go_upto_region 2 with fail
  generalize ((w2.alloc (.cells #[.int .i64 5, .int .i64 p, .string n, .int .i64 m, .slice (some ad) 2 cp, .slice aa al ac, .int .i64 t0, .string t1, .int .i64 t2, .int .i64 t3, .slice ta tl tc] 54)).alloc (.cells #[.int .i64 0, .int .i64 0] 40)) = V at *
  generalize w2.heap.size = n1 at *
  go_wp2_with fail
  go_at_call 31
  refine (HS2.out V).mono ?_
  rintro e w3 ⟨v3, rfl, hrow, hb3⟩
  have HR3 := Lib.hid hrow
  have HB3 := Lib.hid hb3
  clear hrow hb3 HS2
  go_wp2_with fail
  go_at_call 24
  refine (HT2.out _ v3 w3 HR3.out (HG.out.lift (keepCall HBa.out HB3.out))).mono ?_
  rintro e w4 ⟨c, rfl, hb4, a0, a1, a2, a3, k1, k2, k3, k4, k5, k6, a6, a7, a8, a9, k7, k8, k9, rfl⟩
  have HB4 := Lib.hid (keepCall HB3.out hb4)
  have hba : Below w4.heap.size w4 ((w4.alloc (.cells #[.int .i64 a0, .int .i64 a1, .string a2, .int .i64 a3, .slice k1 k2 k3, .slice k4 k5 k6, .int .i64 a6, .string a7, .int .i64 a8, .int .i64 a9, .slice k7 k8 k9] 54)).alloc (.cells #[.int .i64 3, .int .i64 4] 40)) := ((Below.refl _ w4).alloc (Nat.le_refl _) _).alloc (by simp) _
  have hbV := keepCall HB4.out hba
  obtain ⟨q0, q1, q2, q3, q4⟩ := HX.out _ hbV
  have hfx : BoxC 40 ((w4.alloc (.cells #[.int .i64 a0, .int .i64 a1, .string a2, .int .i64 a3, .slice k1 k2 k3, .slice k4 k5 k6, .int .i64 a6, .string a7, .int .i64 a8, .int .i64 a9, .slice k7 k8 k9] 54)).alloc (.cells #[.int .i64 3, .int .i64 4] 40)) (w4.heap.size + 1) [.int .i64 3, .int .i64 4] := by
    show (_ : Array _)[_]? = _
    rw [heap_at, if_pos (by simp)]
  have q5 := hfx.cell 0 _ rfl
  have q6 := hfx.cell 1 _ rfl
  have HEnd := Lib.hid (keepCall HBa.out hbV)
  clear hb4 hba hbV hfx HX HR3 HB3 HB4 HT2 HBa HG
  go_upto_region 3 with fail
  generalize ((w4.alloc (.cells #[.int .i64 a0, .int .i64 a1, .string a2, .int .i64 a3, .slice k1 k2 k3, .slice k4 k5 k6, .int .i64 a6, .string a7, .int .i64 a8, .int .i64 a9, .slice k7 k8 k9] 54)).alloc (.cells #[.int .i64 3, .int .i64 4] 40)) = V5 at *
  generalize w4.heap.size = n5 at *
  go_wp2
  go_ret
  exact ⟨rfl, HEnd.out⟩
end Go.Proofs.YtbbplpmjpadgiaaGreatDoor

/- The law ReadexprStarts returns true at every input. -/
namespace Go.Proofs.YtbbplpmjpadgiaaGreatDoor
open Go.RowKit Go.Maps Go.Sort Mth

theorem nine_new {w : World} {Z : TypeId} {n : Nat} (hn : n = w.heap.size) (r s t : Raw) : ∀ (j : Nat) (u : Value), (rawRow [r, s, t])[j]? = some u → (w.alloc (.cells #[.int .i64 r.k, .string r.x, .int .i64 r.p, .int .i64 s.k, .string s.x, .int .i64 s.p, .int .i64 t.k, .string t.x, .int .i64 t.p] Z)).cell? ((⟨n, 0, none⟩ : Addr).add j) = some u := by
  subst hn
  intro j u hj
  have hl := (List.getElem?_eq_some_iff.1 hj).1
  rw [rawRow_len] at hl
  have hc : j = 0 ∨ j = 1 ∨ j = 2 ∨ j = 3 ∨ j = 4 ∨ j = 5 ∨ j = 6 ∨ j = 7 ∨ j = 8 := by simp at hl; omega
  rcases hc with rfl | rfl | rfl | rfl | rfl | rfl | rfl | rfl | rfl
  all_goals
    simp [rawRow, rawC] at hj
    subst hj
    simp [Addr.add]
theorem nine_one (r s t : Raw) : ∀ u ∈ rawRow [r, s, t], u.oneCell' = true := by
  intro u hu
  simp [rawRow, rawC] at hu
  rcases hu with h | h | h | h | h | h | h | h | h <;> subst h <;> rfl
theorem row_raw3 {w : World} {base : Nat} {v : Value} {ts : List Tok} (r s t : Raw) (h : w.ownsRow base 44 3 v (ts.length + 3) (row3 ts ++ rawRow [r, s, t])) (hok : TkOk ts) (hr : r.x.size ≤ maxLen) (hs : s.x.size ≤ maxLen) (ht : t.x.size ≤ maxLen) : ∃ (R : List Raw) (a : Option Addr) (cap : Nat), v = .slice a R.length cap ∧ RawAt w (.slice a R.length cap) R ∧ RawOk R := by
  have e : (ts.map tokRaw ++ [r, s, t]).length = ts.length + 3 := by simp
  rw [row3_raw, ← rawRow_append, ← e] at h
  have h' := rawAt_of_row h
  obtain ⟨a, cap, hv, rest⟩ := h'
  refine ⟨_, a, cap, hv, ⟨a, cap, rfl, rest⟩, by rw [e]; have := hok.1; omega, fun q hq => ?_⟩
  rcases List.mem_append.1 hq with hq | hq
  · obtain ⟨t, ht, rfl⟩ := List.mem_map.1 hq
    have := (hok.2 t ht).1
    show (⟨t.text.toArray⟩ : ByteArray).size ≤ maxLen
    have e2 : (⟨t.text.toArray⟩ : ByteArray).size = t.text.length := by rw [← bl_len, bl_mk]
    rw [e2]; unfold maxLen; omega
  · simp at hq
    rcases hq with rfl | rfl | rfl
    · exact hr
    · exact hs
    · exact ht

set_option maxRecDepth 100000 in
set_option maxHeartbeats 8000000 in
theorem readexprStarts_any (ea : Addr) (kind piece : Int) (s : ByteArray) (w : World) (hs : s.size ≤ maxLen) (hg : G2 ea w) :
    Calls Tryz.prog 8 #[.int .i64 kind, .int .i64 piece, .string s] w fun e w' => e = .returned (.bool true) ∧ Below w.heap.size w w' := by
  have HFi := Lib.hid (first6_any ea w hg)
  clear hg
  unfold maxLen at hs
  cases h20 : decide (20 < (s.size : Int)) with
  | true =>
    go_enter Tryz.func8, Tryz.ntmps8
    go_wp2_with (go_at_call 21; refine HFi.out.mono ?_; rintro e w1 ⟨rfl, hb1⟩)
    go_ret
    exact ⟨rfl, hb1⟩
  | false =>
    obtain ⟨m, hm⟩ : ∃ m : Int, kind % 6 = m := ⟨_, rfl⟩
    have HMd : Hid (∀ w, Calls Tryz.prog 19 #[.int .i64 kind, .int .i64 6] w fun e w' => e = .returned (.int .i64 m) ∧ w = w') := fun w => by have := mod_any kind 6 w (by omega) (by omega); rwa [hm] at this
    clear hm
    go_enter Tryz.func8, Tryz.ntmps8
    go_wp2_with fail
    go_at_call 21
    refine HFi.out.mono ?_
    rintro e w1 ⟨rfl, hb1⟩
    have HB1 := Lib.hid hb1
    have HBa := Lib.hid (keepAlloc (.cells #[.int .i64 piece] 3) hb1)
    have HWd := Lib.hid (words6_any _ [piece] (w1.alloc (.cells #[.int .i64 piece] 3)) (ints_one rfl piece) (by simp))
    clear hb1 HFi
    go_wp2_with fail
    go_at_call 23
    refine HWd.out.mono ?_
    rintro e w2 ⟨ts, ⟨v, rfl, hrow, hb2⟩, hok, -⟩
    have HB2 := Lib.hid (keepCall HBa.out hb2)
    have HOk := Lib.hid hok
    have hl := hok.1
    have hal : Below w2.heap.size w2 (w2.alloc (.cells #[.int .i64 kind, .string s, .int .i64 0, .int .i64 m, .string ⟨#[63]⟩, .int .i64 0, .int .i64 m, .string ⟨#[123]⟩, .int .i64 0] 44)) := (Below.refl _ w2).alloc (Nat.le_refl _) _
    have HOwn := Lib.hid (ownsRow_below (ownsRow_base hrow (Nat.le_trans HB1.out.size (by simp : w1.heap.size ≤ (w1.alloc (.cells #[.int .i64 piece] 3)).heap.size))) hal)
    have HBl := Lib.hid (keepCall HB2.out hal)
    have hbs := HBl.out.size
    obtain ⟨inf, hi, hz0, hz1, hz2⟩ := info_parts Tryz.info44
    have HIn := Lib.hid (And.intro hi (And.intro hz0 (And.intro hz1 hz2)))
    have hN1 : ts.length + 3 ≤ maxLen := by unfold maxLen; omega
    have hN2 : (ts.length + 3) * 32 ≤ 140737488355328 := by omega
    have HNN := Lib.hid (And.intro hN1 hN2)
    have HS0 := Lib.hid hs
    have hc40 : (⟨#[63]⟩ : ByteArray).size ≤ maxLen ∧ (⟨#[123]⟩ : ByteArray).size ≤ maxLen := by unfold maxLen; decide +kernel
    have HC40 := Lib.hid hc40
    clear hc40
    clear hrow hb2 hok hal hi hz0 hz1 hz2 hN1 hN2 HB1 HBa HWd
    go_wp2_with (first
      | (go_at_call 19; refine (HMd.out _).mono ?_; rintro e w' ⟨rfl, rfl⟩)
      | (at_builtin; refine wpList_append_own_at _ rfl _ _ 35 rfl w.heap.size 44 inf _ 3 32 Tryz.underlying35 HIn.out.1 HIn.out.2.1 HIn.out.2.2.1 HIn.out.2.2.2 rfl (by decide) v ts.length (row3 ts) rfl HOwn.out _ 3 3 (rawRow [⟨kind, s, 0⟩, ⟨m, ⟨#[63]⟩, 0⟩, ⟨m, ⟨#[123]⟩, 0⟩]) rfl (by rw [rawRow_len]; rfl) (nine_new rfl ⟨kind, s, 0⟩ ⟨m, ⟨#[63]⟩, 0⟩ ⟨m, ⟨#[123]⟩, 0⟩) (nine_one _ _ _) HNN.out.1 HNN.out.2 hbs ?_; intro v' V hown' hg' _ _; obtain ⟨R, a', c', rfl, hraw, hrok⟩ := row_raw3 _ _ _ hown' HOk.out (by unfold maxLen; exact HS0.out) HC40.out.1 HC40.out.2))
    have HBV := Lib.hid (Below.grown HBl.out hg' HBl.out.size (fun k hk => (HOwn.out.lt k hk).1))
    clear hown' hg' HOwn HBl hbs HNN HIn HB2 HMd HOk HC40 HS0
    obtain ⟨a2, c2, hv2, hcap2, hj2⟩ := hraw
    have HJ := Lib.hid hj2
    have HRk := Lib.hid hrok
    have hRl := hrok.1
    obtain ⟨rfl, rfl⟩ : a2 = a' ∧ c2 = c' := by simp at hv2; exact ⟨hv2.1.symm, hv2.2.symm⟩
    clear hj2 hrok hv2
    obtain ⟨N, hN⟩ : ∃ N, N = R.length := ⟨_, rfl⟩
    rw [← hN] at hRl hcap2 ⊢
    have HNl := Lib.hid hN
    clear hN
    go_loopg [29] N (fun g i wr => ∃ j : Nat, j + g = N ∧ i = .int .i64 j ∧ Hid (Below V.heap.size V wr))
    case atStart => exact ⟨0, by omega, rfl, Below.refl _ V⟩
    case round =>
      obtain ⟨j, hj, rfl, HBr⟩ := hrel
      by_cases hlt : j < N
      · obtain ⟨g, rfl⟩ : ∃ g, gk = g + 1 := ⟨gk - 1, by omega⟩
        obtain ⟨r, hr⟩ : ∃ r, R[j]? = some r := ⟨_, List.getElem?_eq_getElem (by rw [← HNl.out]; exact hlt)⟩
        obtain ⟨ad, rfl, q0, q1, q2⟩ := HJ.out j r hr
        have hrx := HRk.out.2 r (List.mem_of_getElem? hr)
        have HRx : Hid (r.x.size ≤ 9223372036854775807) := by unfold maxLen at hrx; exact hrx
        obtain ⟨rk, rx, rp⟩ := r
        dsimp only at q0 q1 q2 HRx
        have HBx : Hid (∀ X, Below V.heap.size V (wr.alloc X)) := fun X => keepAlloc X HBr.out
        have e0 : wr.cell? (ad.add (j * 3)) = some (.int .i64 rk) := by rw [HBr.out.cell (World.block_lt_of_cell? _ _ q0)]; exact q0
        have e1 : wr.cell? ⟨(ad.add (j * 3)).block, (ad.add (j * 3)).off + 1, none⟩ = some (.string rx) := by rw [HBr.out.cell (World.block_lt_of_cell? _ _ q1)]; exact q1
        have e2 : wr.cell? ⟨(ad.add (j * 3)).block, (ad.add (j * 3)).off + 2, none⟩ = some (.int .i64 rp) := by rw [HBr.out.cell (World.block_lt_of_cell? _ _ q2)]; exact q2
        have hji : (j : Int) < (N : Int) := by omega
        have hj0 : (0 : Int) ≤ (j : Int) := by omega
        have hn := tok_cells (heap_alloc_new wr (.cells #[.int .i64 rk, .string rx, .int .i64 rp] 44))
        have HN := Lib.hid hn
        have HVa := Lib.hid (fun w => valid_any rk rx rp w HRx.out)
        have HSa := Lib.hid (fun w => xStarts_any rk rx rp w)
        have HSb := Lib.hid (fun w => rstarts6_any rk rx rp w)
        clear hn q0 q1 q2 hr hrx
        generalize valB rk rx rp = vb at *
        generalize stB rk rx = sb at *
        cases vb <;> cases sb
        all_goals
          go_upto_region 8 with fail
          have HW := Lib.hid (HBx.out (.cells #[.int .i64 rk, .string rx, .int .i64 rp] 44))
          clear e0 e1 e2
          generalize (wr.alloc (.cells #[.int .i64 rk, .string rx, .int .i64 rp] 44)) = W at *
          obtain ⟨⟨c0, c1, c2⟩, -⟩ := HN.out
          have G0 := cell_regrown c0
          have G1 := cell_regrown c1
          have G2 := cell_regrown c2
          refine wp_region_quiet_below (by kernel_rfl) (by kernel_rfl) ?_
          repeat (quiet_step ((first | (go_at_call 34; exact Calls.regrown_of (HVa.out _)) | (go_at_call 35; exact Calls.regrown_of (HSa.out _)) | (go_at_call 36; exact Calls.regrown_of (HSb.out _)))))
          refine wpQuiet_nil ?_
          intro _ hw'
          obtain ⟨⟨dq, osq⟩, hw''⟩ := hw'
          subst hw''
          have HZ := Lib.hid (HW.out.trans ((below_regrown W dq osq).mono HW.out.size))
          clear c0 c1 c2 G0 G1 G2 HN HW HBx HBr
          generalize grow (redrawn W dq) osq = Z at *
          go_wp2
          go_roundg g
          case measure => omega
          case rel => exact ⟨j + 1, by omega, by go_num, HZ⟩
      · obtain rfl : j = N := by omega
        have HE := Lib.hid (HBV.out.trans (HBr.out.mono HBV.out.size))
        go_wp2
        go_ret
        exact ⟨rfl, HE.out⟩
end Go.Proofs.YtbbplpmjpadgiaaGreatDoor
