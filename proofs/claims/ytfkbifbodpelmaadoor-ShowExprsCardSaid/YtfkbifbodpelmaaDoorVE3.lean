import Derived.Test.YtfkbifbodpelmaaDoorVE1
import Derived.Test.YtfkbifbodpelmaaDoorVS4
import Derived.Deep.CutBlock
import Derived.Deep.LoopGhost
/- The writers of expressions: lets, arms, cases. -/
namespace Go.Proofs.YtfkbifbodpelmaaDoor
open Go.RowKit Go.Maps Mth

theorem SlG.fr {α : Type} {E : El α} {B : Nat} {w w' : World} {xs : List α} {v : Value} (h : SlG E w (fun g => g < B) xs v) (hf : Below B w w') : SlG E w' (fun g => g < B) xs v := SlG.kept (fun _ h => h) (fun g hg _ => hf.block g hg) h
theorem str_at {w : World} {S : Nat → Prop} {ns : List ByteArray} {a : Option Addr} {n c : Nat} (h : SlG StrE w S ns (.slice a n c)) : ∀ (j : Nat) (x : ByteArray), ns[j]? = some x → ∃ ad, a = some ad ∧ w.cell? (ad.add j) = some (.string x) := by
  obtain ⟨a', c', e, -, hj⟩ := h
  cases e
  intro j x hx
  obtain ⟨ad, cs, h1, -, h3, h4⟩ := hj j x hx
  have h4' : cs = [.string x] := h4
  subst h4'
  exact ⟨ad, h1, by have := h3 0 (.string x) rfl; simpa [StrE] using this⟩
set_option maxRecDepth 100000 in
set_option maxHeartbeats 3200000 in
theorem writeLocal_any (T a b2 : Ex) (hts : T.kids = [a, b2]) (Ha : WrE a) (Hb : WrE b2) (words : ByteArray) (b : Nat) (l : List UInt8) (w : World) (c : List Value) (hg : Gs w) (hb2 : 2 ≤ b) (hw : Wr b b l w) (hr : RepE w (fun g => g < b) T c)
    (hl : l.length + (bl words ++ (bl T.n ++ ([32, 61, 32] ++ (shE a ++ ([32, 105, 110, 32] ++ shE b2))))).length ≤ 500000000) : Calls Tryd.prog 57 #[.pointer (some ⟨b, 0, none⟩), .string words, .agg c.toArray] w (WrEnd b l (bl words ++ (bl T.n ++ ([32, 61, 32] ++ (shE a ++ ([32, 105, 110, 32] ++ shE b2))))) w) := by
  obtain ⟨ka, kc, aa, ac, tk, tn, ti, th, ta, tl, tc, rfl⟩ := hr.form
  have hal : Below w.heap.size w (w.alloc (.cells #[.int .i64 T.k, .int .i64 T.p, .string T.n, .int .i64 T.m, .slice ka T.kids.length kc, .slice aa T.arms.length ac, .int .i64 tk, .string tn, .int .i64 ti, .int .i64 th, .slice ta tl tc] 37)) := (Below.refl _ w).alloc (Nat.le_refl _) _
  have hlt := hw.lt
  have HX0 : Hid (BoxC 37 (w.alloc (.cells #[.int .i64 T.k, .int .i64 T.p, .string T.n, .int .i64 T.m, .slice ka T.kids.length kc, .slice aa T.arms.length ac, .int .i64 tk, .string tn, .int .i64 ti, .int .i64 th, .slice ta tl tc] 37)) w.heap.size [.int .i64 T.k, .int .i64 T.p, .string T.n, .int .i64 T.m, .slice ka T.kids.length kc, .slice aa T.arms.length ac, .int .i64 tk, .string tn, .int .i64 ti, .int .i64 th, .slice ta tl tc]) := BoxC.made _ w _
  have HG0 := Lib.hid (hg.lift hal)
  have HW0 := Lib.hid (hw.lift hal)
  have HF0 : Hid (Fr b b w (w.alloc (.cells #[.int .i64 T.k, .int .i64 T.p, .string T.n, .int .i64 T.m, .slice ka T.kids.length kc, .slice aa T.arms.length ac, .int .i64 tk, .string tn, .int .i64 ti, .int .i64 th, .slice ta tl tc] 37))) := (Fr.refl b b w).alloc (by omega) _
  have HR0 := Lib.hid (hr.lift hal)
  have HHa := Lib.hid Ha
  have HHb := Lib.hid Hb
  have HK0 : Hid (∀ V, RepE V (fun g => g < b) T [.int .i64 T.k, .int .i64 T.p, .string T.n, .int .i64 T.m, .slice ka T.kids.length kc, .slice aa T.arms.length ac, .int .i64 tk, .string tn, .int .i64 ti, .int .i64 th, .slice ta tl tc] → Calls Tryd.prog 55 #[.agg #[.int .i64 T.k, .int .i64 T.p, .string T.n, .int .i64 T.m, .slice ka T.kids.length kc, .slice aa T.arms.length ac, .int .i64 tk, .string tn, .int .i64 ti, .int .i64 th, .slice ta tl tc], .int .i64 0] V fun e w' => ∃ cu : List Value, e = .returned (.agg cu.toArray) ∧ RepE w' (fun g => g < b) a cu ∧ Below V.heap.size V w') := fun V h => kid0of2_any T a b2 hts _ _ V h
  have HK1 : Hid (∀ V, RepE V (fun g => g < b) T [.int .i64 T.k, .int .i64 T.p, .string T.n, .int .i64 T.m, .slice ka T.kids.length kc, .slice aa T.arms.length ac, .int .i64 tk, .string tn, .int .i64 ti, .int .i64 th, .slice ta tl tc] → Calls Tryd.prog 55 #[.agg #[.int .i64 T.k, .int .i64 T.p, .string T.n, .int .i64 T.m, .slice ka T.kids.length kc, .slice aa T.arms.length ac, .int .i64 tk, .string tn, .int .i64 ti, .int .i64 th, .slice ta tl tc], .int .i64 1] V fun e w' => ∃ cu : List Value, e = .returned (.agg cu.toArray) ∧ RepE w' (fun g => g < b) b2 cu ∧ Below V.heap.size V w') := fun V h => kid1_any T a b2 hts _ _ V h
  have HLn : Hid (l.length + (words.size + (T.n.size + (3 + ((shE a).length + (4 + (shE b2).length))))) ≤ 500000000) := by
    show _ ≤ _
    simp only [List.length_append, bl_len, List.length_cons, List.length_nil] at hl
    omega
  clear hal hg hw hr Ha Hb hts hl
  go_enter Tryd.func57, Tryd.ntmps57
  go_upto_region 1 with fail
  generalize (w.alloc (.cells #[.int .i64 T.k, .int .i64 T.p, .string T.n, .int .i64 T.m, .slice ka T.kids.length kc, .slice aa T.arms.length ac, .int .i64 tk, .string tn, .int .i64 ti, .int .i64 th, .slice ta tl tc] 37)) = w0 at *
  have hbV := HF0.out.size
  obtain ⟨c0, c1, c2, c3, c4, c5, c6, c7, c8, c9, c10⟩ := HX0.out.all11
  have z1 : words.size + T.n.size ≤ 1000000000 := by have := HLn.out; omega
  have HWs := Lib.hid (write_s b _ (words ++ T.n ++ ⟨#[32, 61, 32]⟩) w0 HW0.out (by have h1 := HLn.out; simp only [ByteArray.size_append]; show _ + (_ + 3) ≤ _; omega))
  go_wp2_with fail
  go_at_call 54
  refine HWs.out.mono ?_
  rintro e w1 ⟨rfl, hwn, hfn⟩
  have HF1 := Lib.hid (HF0.out.trans hfn)
  have HG1 := Lib.hid (HG0.out.frr hb2 hfn)
  have HW1 := Lib.hid hwn
  have HX1 := Lib.hid (HX0.out.fr hfn (by omega) (by decide))
  have HR1 := Lib.hid (HR0.out.fr hfn.1)
  clear c0 c1 c2 c3 c4 c5 c6 c7 c8 c9 c10 z1 hwn hfn HWs HG0 HW0 HF0 HR0 HX0
  obtain ⟨c0, c1, c2, c3, c4, c5, c6, c7, c8, c9, c10⟩ := HX1.out.all11
  go_wp2_with fail
  go_at_call 55
  refine (HK0.out w1 HR1.out).mono ?_
  rintro e w1k ⟨cu, rfl, hrk, hbk⟩
  have HG1k := Lib.hid (HG1.out.lift hbk)
  have HW1k := Lib.hid (HW1.out.lift hbk)
  have HF1k := Lib.hid (HF1.out.below (by have := HF1.out.size; omega) hbk)
  have HR1k := Lib.hid (HR1.out.lift hbk)
  have HX1k := Lib.hid (HX1.out.lift hbk)
  have HC1k := Lib.hid (HHa.out b _ w1k _ HG1k.out hb2 HW1k.out hrk (by have h1 := HLn.out; simp only [List.length_append, bl_len, ByteArray.size_append]; show _ + (_ + 3) + _ ≤ _; omega))
  obtain ⟨kak2, kck2, aak2, ack2, tkk2, tnk2, tik2, thk2, tak2, tlk2, tck2, rfl⟩ := hrk.form
  clear hbk hrk c0 c1 c2 c3 c4 c5 c6 c7 c8 c9 c10 HG1 HW1 HF1 HR1 HX1
  go_wp2_with fail
  go_at_call 31
  refine HC1k.out.mono ?_
  rintro e w2 ⟨rfl, hwn, hfn⟩
  have HF2 := Lib.hid (HF1k.out.trans hfn)
  have HG2 := Lib.hid (HG1k.out.frr hb2 hfn)
  have HW2 := Lib.hid hwn
  have HX2 := Lib.hid (HX1k.out.fr hfn (by omega) (by decide))
  have HR2 := Lib.hid (HR1k.out.fr hfn.1)
  clear hwn hfn HG1k HW1k HF1k HR1k HX1k HC1k
  have HWs := Lib.hid (write_s b _ ⟨#[32, 105, 110, 32]⟩ w2 HW2.out (by have h1 := HLn.out; simp only [List.length_append, bl_len, ByteArray.size_append]; show _ + (_ + 3) + _ + 4 ≤ _; omega))
  go_wp2_with fail
  go_at_call 54
  refine HWs.out.mono ?_
  rintro e w3 ⟨rfl, hwn, hfn⟩
  have HF3 := Lib.hid (HF2.out.trans hfn)
  have HG3 := Lib.hid (HG2.out.frr hb2 hfn)
  have HW3 := Lib.hid hwn
  have HX3 := Lib.hid (HX2.out.fr hfn (by omega) (by decide))
  have HR3 := Lib.hid (HR2.out.fr hfn.1)
  clear hwn hfn HWs HG2 HW2 HF2 HR2 HX2
  obtain ⟨c0, c1, c2, c3, c4, c5, c6, c7, c8, c9, c10⟩ := HX3.out.all11
  go_wp2_with fail
  go_at_call 55
  refine (HK1.out w3 HR3.out).mono ?_
  rintro e w3k ⟨cu, rfl, hrk, hbk⟩
  have HG3k := Lib.hid (HG3.out.lift hbk)
  have HW3k := Lib.hid (HW3.out.lift hbk)
  have HF3k := Lib.hid (HF3.out.below (by have := HF3.out.size; omega) hbk)
  have HR3k := Lib.hid (HR3.out.lift hbk)
  have HX3k := Lib.hid (HX3.out.lift hbk)
  have HC3k := Lib.hid (HHb.out b _ w3k _ HG3k.out hb2 HW3k.out hrk (by have h1 := HLn.out; simp only [List.length_append, bl_len, ByteArray.size_append]; show _ + (_ + 3) + _ + 4 + _ ≤ _; omega))
  obtain ⟨kak4, kck4, aak4, ack4, tkk4, tnk4, tik4, thk4, tak4, tlk4, tck4, rfl⟩ := hrk.form
  clear hbk hrk c0 c1 c2 c3 c4 c5 c6 c7 c8 c9 c10 HG3 HW3 HF3 HR3 HX3
  go_wp2_with fail
  go_at_call 31
  refine HC3k.out.mono ?_
  rintro e w4 ⟨rfl, hwn, hfn⟩
  have HF4 := Lib.hid (HF3k.out.trans hfn)
  have HG4 := Lib.hid (HG3k.out.frr hb2 hfn)
  have HW4 := Lib.hid hwn
  have HX4 := Lib.hid (HX3k.out.fr hfn (by omega) (by decide))
  have HR4 := Lib.hid (HR3k.out.fr hfn.1)
  clear hwn hfn HG3k HW3k HF3k HR3k HX3k HC3k
  go_wp2
  go_end0
  exact ⟨rfl, by have h := HW4.out; simpa [bl_app, bl] using h, HF4.out⟩
theorem vsT_eq (h : AH) : armText h = bl h.con ++ (vsT h.vars ++ [46, 32]) := by unfold armText vsT; simp
set_option maxRecDepth 100000 in
set_option maxHeartbeats 3200000 in
theorem writeArm_any (ah : AH) (e : Ex) (He : WrE e) (b : Nat) (l : List UInt8) (w : World) (c : List Value) (hg : Gs w) (hb2 : 2 ≤ b) (hw : Wr b b l w) (hr : AmE.rep w (fun g => g < b) (ah, e) c) (hl : l.length + (armText ah ++ shE e).length ≤ 500000000) :
    Calls Tryd.prog 84 #[.pointer (some ⟨b, 0, none⟩), .agg c.toArray] w (WrEnd b l (armText ah ++ shE e) w) := by
  obtain ⟨vv, cb, rfl, hvv, hbody⟩ := hr
  dsimp only at hvv hbody ⊢
  obtain ⟨va, vc, rfl, hvl⟩ := hvv.slice
  obtain ⟨kau, kcu, aau, acu, tku, tnu, tiu, thu, tau, tlu, tcu, rfl⟩ := hbody.form
  have hal : Below w.heap.size w (w.alloc (.cells #[.int .i64 ah.pos, .string ah.con, .slice va ah.vars.length vc, .int .i64 e.k, .int .i64 e.p, .string e.n, .int .i64 e.m, .slice kau e.kids.length kcu, .slice aau e.arms.length acu, .int .i64 tku, .string tnu, .int .i64 tiu, .int .i64 thu, .slice tau tlu tcu] 68)) := (Below.refl _ w).alloc (Nat.le_refl _) _
  have hlt := hw.lt
  have HX0 : Hid (BoxC 68 (w.alloc (.cells #[.int .i64 ah.pos, .string ah.con, .slice va ah.vars.length vc, .int .i64 e.k, .int .i64 e.p, .string e.n, .int .i64 e.m, .slice kau e.kids.length kcu, .slice aau e.arms.length acu, .int .i64 tku, .string tnu, .int .i64 tiu, .int .i64 thu, .slice tau tlu tcu] 68)) w.heap.size [.int .i64 ah.pos, .string ah.con, .slice va ah.vars.length vc, .int .i64 e.k, .int .i64 e.p, .string e.n, .int .i64 e.m, .slice kau e.kids.length kcu, .slice aau e.arms.length acu, .int .i64 tku, .string tnu, .int .i64 tiu, .int .i64 thu, .slice tau tlu tcu]) := BoxC.made _ w _
  have HG0 := Lib.hid (hg.lift hal)
  have HW0 := Lib.hid (hw.lift hal)
  have HF0 : Hid (Fr b b w (w.alloc (.cells #[.int .i64 ah.pos, .string ah.con, .slice va ah.vars.length vc, .int .i64 e.k, .int .i64 e.p, .string e.n, .int .i64 e.m, .slice kau e.kids.length kcu, .slice aau e.arms.length acu, .int .i64 tku, .string tnu, .int .i64 tiu, .int .i64 thu, .slice tau tlu tcu] 68))) := (Fr.refl b b w).alloc (by omega) _
  have HR0 := Lib.hid (hbody.lift hal)
  have HV0 := Lib.hid (slG_lift hvv hal)
  have HHe := Lib.hid He
  have hcl : ah.vars.length ≤ maxLen := by obtain ⟨_, _, e1, ⟨h1, h2⟩, -⟩ := hvv; omega
  unfold maxLen at hcl
  rw [vsT_eq] at hl ⊢
  have HLn : Hid (l.length + (ah.con.size + ((vsT ah.vars).length + (2 + (shE e).length))) ≤ 500000000) := by
    show _ ≤ _
    simp only [List.length_append, bl_len, List.length_cons, List.length_nil] at hl
    omega
  have HVl := Lib.hid (vsT_le ah.vars)
  have HVt := Lib.hid (vsT_take ah.vars)
  clear hal hg hw hvv hbody He hl
  obtain ⟨vn, hvn⟩ : ∃ n, n = ah.vars.length := ⟨_, rfl⟩
  rw [← hvn] at HX0 HG0 HW0 HF0 HR0 HV0 hcl ⊢
  have HVn := Lib.hid hvn
  clear hvn
  go_enter Tryd.func84, Tryd.ntmps84
  go_upto_region 1 with fail
  generalize (w.alloc (.cells #[.int .i64 ah.pos, .string ah.con, .slice va vn vc, .int .i64 e.k, .int .i64 e.p, .string e.n, .int .i64 e.m, .slice kau e.kids.length kcu, .slice aau e.arms.length acu, .int .i64 tku, .string tnu, .int .i64 tiu, .int .i64 thu, .slice tau tlu tcu] 68)) = w0 at *
  have hbV := HF0.out.size
  have c0 := HX0.out.cell 0 _ rfl
  have c1 := HX0.out.cell 1 _ rfl
  have c2 := HX0.out.cell 2 _ rfl
  have HWs := Lib.hid (write_s b _ ah.con w0 HW0.out (by have h1 := HLn.out; omega))
  go_upto_region 2 with (go_at_call 54; refine HWs.out.mono ?_; rintro e1 w1 ⟨rfl, hw1, hf1⟩)
  have HX1 := Lib.hid (HX0.out.fr hf1 (by omega) (by decide))
  have HFv : Hid (Fr b b w0 w1) := hf1
  have HW1 : Hid (Wr b b (l ++ (bl ah.con ++ vsT (ah.vars.take 0))) w1) := by show Wr b b _ _; simpa [vsT] using hw1
  clear hw1 hf1 HWs c0 c1 c2 HW0
  have c2 := HX1.out.cell 2 _ rfl
  go_wp2
  clear c2
  go_loopw [13] (fun x wr => ∃ j : Nat, j ≤ vn ∧ x = .int .i64 j ∧ Hid (Wr b b (l ++ (bl ah.con ++ vsT (ah.vars.take j))) wr) ∧ Hid (Fr b b w0 wr)) (fun x _ => vn - (intOf x).toNat)
  case atStart => exact ⟨0, Nat.zero_le _, rfl, HW1, HFv⟩
  case round =>
    clear HW1 HFv HX1
    obtain ⟨j, hj, rfl, HWj, HFj⟩ := hrel
    by_cases hjm : j < vn
    · obtain ⟨nm, hnm⟩ : ∃ x, ah.vars[j]? = some x := ⟨_, List.getElem?_eq_getElem (by rw [← HVn.out]; exact hjm)⟩
      obtain ⟨ad, had, q0⟩ := str_at (HV0.out.fr HFj.out.1) j nm hnm
      cases had
      have hst := HVt.out j nm hnm
      have hle := HVl.out (j + 1)
      rw [hst, List.length_append, List.length_cons, bl_len] at hle
      have HSt := Lib.hid hst
      have HLe := Lib.hid hle
      have hz : nm.size ≤ 1000000000 := by have h1 := HLn.out; omega
      have hji : (j : Int) < (vn : Int) := by omega
      have hbs : (⟨#[32]⟩ ++ nm : ByteArray).size = 1 + nm.size := by rw [ByteArray.size_append]; rfl
      have HWs := Lib.hid (write_s b _ (⟨#[32]⟩ ++ nm) wr HWj.out (by have h1 := HLn.out; have h2 := HLe.out; rw [hbs]; simp only [List.length_append, bl_len]; omega))
      clear hnm hst hle hbs
      go_wp2_with (go_at_call 54; refine HWs.out.mono ?_; rintro e1 w2 ⟨rfl, hw2, hf2⟩)
      have HW2 : Hid (Wr b b (l ++ (bl ah.con ++ vsT (ah.vars.take (j + 1)))) w2) := by
        show Wr b b _ _
        rw [HSt.out]
        have e1 : l ++ (bl ah.con ++ (vsT (ah.vars.take j) ++ 32 :: bl nm)) = l ++ (bl ah.con ++ vsT (ah.vars.take j)) ++ bl (⟨#[32]⟩ ++ nm) := by rw [bl_app, List.append_assoc, List.append_assoc]; rfl
        rw [e1]
        exact hw2
      have HF2 := Lib.hid (HFj.out.trans hf2)
      clear hw2 hf2
      go_roundw
      case rel => exact ⟨j + 1, hjm, by go_num, HW2, HF2⟩
      case measure => simp [intOf]; omega
    · have HWf : Hid (Wr b b (l ++ (bl ah.con ++ vsT ah.vars)) wr) := by
        have h := HWj.out
        rwa [List.take_of_length_le (by rw [← HVn.out]; omega)] at h
      have HFw := Lib.hid (HF0.out.trans HFj.out)
      have HXr := Lib.hid (HX0.out.fr HFj.out (by omega) (by decide))
      have HGr := Lib.hid (HG0.out.frr hb2 HFj.out)
      have HRr := Lib.hid (HR0.out.fr HFj.out.1)
      have HWs := Lib.hid (write_s b _ ⟨#[46, 32]⟩ wr HWf.out (by have h1 := HLn.out; simp only [List.length_append, bl_len]; show _ + 2 ≤ _; omega))
      clear HWj HFj HX0 HG0 HR0 HF0
      go_wp2_with fail
      go_at_call 54
      refine HWs.out.mono ?_
      rintro e1 w3 ⟨rfl, hw3, hf3⟩
      have HF3 := Lib.hid (HFw.out.trans hf3)
      have HX3 := Lib.hid (HXr.out.fr hf3 (by have := HFw.out.size; omega) (by decide))
      have HG3 := Lib.hid (HGr.out.frr hb2 hf3)
      have HR3 := Lib.hid (HRr.out.fr hf3.1)
      have HCe := Lib.hid (HHe.out b _ w3 _ HG3.out hb2 hw3 HR3.out (by have h1 := HLn.out; simp only [List.length_append, bl_len]; show _ + 2 + _ ≤ _; omega))
      clear hw3 hf3 HWs
      have d0 := HX3.out.cell 3 _ rfl
      have d1 := HX3.out.cell 4 _ rfl
      have d2 := HX3.out.cell 5 _ rfl
      have d3 := HX3.out.cell 6 _ rfl
      have d4 := HX3.out.cell 7 _ rfl
      have d5 := HX3.out.cell 8 _ rfl
      have d6 := HX3.out.cell 9 _ rfl
      have d7 := HX3.out.cell 10 _ rfl
      have d8 := HX3.out.cell 11 _ rfl
      have d9 := HX3.out.cell 12 _ rfl
      have d10 := HX3.out.cell 13 _ rfl
      go_wp2_with fail
      go_at_call 31
      refine HCe.out.mono ?_
      rintro e1 w4 ⟨rfl, hw4, hf4⟩
      go_wp2
      go_end0
      refine ⟨rfl, ?_, HF3.out.trans hf4⟩
      have e1 : l ++ (bl ah.con ++ (vsT ah.vars ++ [46, 32]) ++ shE e) = l ++ (bl ah.con ++ vsT ah.vars) ++ bl ⟨#[46, 32]⟩ ++ shE e := by simp [bl]
      rw [e1]
      exact hw4
theorem all14 {t : TypeId} {w : World} {B : Nat} {c0 c1 c2 c3 c4 c5 c6 c7 c8 c9 c10 c11 c12 c13 : Value} (h : BoxC t w B [c0, c1, c2, c3, c4, c5, c6, c7, c8, c9, c10, c11, c12, c13]) :
    w.cell? ⟨B, 0, none⟩ = some c0 ∧ w.cell? ⟨B, 1, none⟩ = some c1 ∧ w.cell? ⟨B, 2, none⟩ = some c2 ∧ w.cell? ⟨B, 3, none⟩ = some c3 ∧ w.cell? ⟨B, 4, none⟩ = some c4 ∧ w.cell? ⟨B, 5, none⟩ = some c5 ∧ w.cell? ⟨B, 6, none⟩ = some c6 ∧ w.cell? ⟨B, 7, none⟩ = some c7 ∧ w.cell? ⟨B, 8, none⟩ = some c8 ∧ w.cell? ⟨B, 9, none⟩ = some c9 ∧ w.cell? ⟨B, 10, none⟩ = some c10 ∧ w.cell? ⟨B, 11, none⟩ = some c11 ∧ w.cell? ⟨B, 12, none⟩ = some c12 ∧ w.cell? ⟨B, 13, none⟩ = some c13 :=
  ⟨h.cell 0 _ rfl, h.cell 1 _ rfl, h.cell 2 _ rfl, h.cell 3 _ rfl, h.cell 4 _ rfl, h.cell 5 _ rfl, h.cell 6 _ rfl, h.cell 7 _ rfl, h.cell 8 _ rfl, h.cell 9 _ rfl, h.cell 10 _ rfl, h.cell 11 _ rfl, h.cell 12 _ rfl, h.cell 13 _ rfl⟩
theorem all14r {w : World} {ad : Addr} {j : Nat} {c0 c1 c2 c3 c4 c5 c6 c7 c8 c9 c10 c11 c12 c13 : Value} (h : ∀ (m : Nat) (u : Value), [c0, c1, c2, c3, c4, c5, c6, c7, c8, c9, c10, c11, c12, c13][m]? = some u → w.cell? (ad.add (j * 14 + m)) = some u) :
    w.cell? (ad.add (j * 14)) = some c0 ∧ w.cell? ⟨(ad.add (j * 14)).block, (ad.add (j * 14)).off + 1, none⟩ = some c1 ∧ w.cell? ⟨(ad.add (j * 14)).block, (ad.add (j * 14)).off + 2, none⟩ = some c2 ∧ w.cell? ⟨(ad.add (j * 14)).block, (ad.add (j * 14)).off + 3, none⟩ = some c3 ∧ w.cell? ⟨(ad.add (j * 14)).block, (ad.add (j * 14)).off + 4, none⟩ = some c4 ∧ w.cell? ⟨(ad.add (j * 14)).block, (ad.add (j * 14)).off + 5, none⟩ = some c5 ∧ w.cell? ⟨(ad.add (j * 14)).block, (ad.add (j * 14)).off + 6, none⟩ = some c6 ∧ w.cell? ⟨(ad.add (j * 14)).block, (ad.add (j * 14)).off + 7, none⟩ = some c7 ∧ w.cell? ⟨(ad.add (j * 14)).block, (ad.add (j * 14)).off + 8, none⟩ = some c8 ∧ w.cell? ⟨(ad.add (j * 14)).block, (ad.add (j * 14)).off + 9, none⟩ = some c9 ∧ w.cell? ⟨(ad.add (j * 14)).block, (ad.add (j * 14)).off + 10, none⟩ = some c10 ∧ w.cell? ⟨(ad.add (j * 14)).block, (ad.add (j * 14)).off + 11, none⟩ = some c11 ∧ w.cell? ⟨(ad.add (j * 14)).block, (ad.add (j * 14)).off + 12, none⟩ = some c12 ∧ w.cell? ⟨(ad.add (j * 14)).block, (ad.add (j * 14)).off + 13, none⟩ = some c13 := by
  refine ⟨h 0 _ rfl, ?_, ?_, ?_, ?_, ?_, ?_, ?_, ?_, ?_, ?_, ?_, ?_, ?_⟩
  all_goals rw [add_add' _ _ _ (by omega)]
  all_goals first | exact h 1 _ rfl | exact h 2 _ rfl | exact h 3 _ rfl | exact h 4 _ rfl | exact h 5 _ rfl | exact h 6 _ rfl | exact h 7 _ rfl | exact h 8 _ rfl | exact h 9 _ rfl | exact h 10 _ rfl | exact h 11 _ rfl | exact h 12 _ rfl | exact h 13 _ rfl
set_option maxRecDepth 100000 in
set_option maxHeartbeats 6400000 in
theorem writeCase_any (T a : Ex) (hts : T.kids = [a]) (Ha : WrE a) (HA : ∀ A ∈ T.arms, WrE A.2) (b : Nat) (l : List UInt8) (w : World) (c : List Value) (hg : Gs w) (hb2 : 2 ≤ b) (hw : Wr b b l w) (hr : RepE w (fun g => g < b) T c)
    (hl : l.length + ([99, 97, 115, 101, 32] ++ (shE a ++ ([32, 111, 102, 32] ++ (shA0 T.arms ++ [32, 101, 110, 100])))).length ≤ 500000000) : Calls Tryd.prog 58 #[.pointer (some ⟨b, 0, none⟩), .agg c.toArray] w (WrEnd b l ([99, 97, 115, 101, 32] ++ (shE a ++ ([32, 111, 102, 32] ++ (shA0 T.arms ++ [32, 101, 110, 100])))) w) := by
  obtain ⟨kv, av, tcx, hcx, -, -, harms, -⟩ := hr.open
  obtain ⟨ka, kc, aa, ac, tk, tn, ti, th, ta, tl, tc, rfl⟩ := hr.form
  have hal : Below w.heap.size w (w.alloc (.cells #[.int .i64 T.k, .int .i64 T.p, .string T.n, .int .i64 T.m, .slice ka T.kids.length kc, .slice aa T.arms.length ac, .int .i64 tk, .string tn, .int .i64 ti, .int .i64 th, .slice ta tl tc] 37)) := (Below.refl _ w).alloc (Nat.le_refl _) _
  have hlt := hw.lt
  have HX0 : Hid (BoxC 37 (w.alloc (.cells #[.int .i64 T.k, .int .i64 T.p, .string T.n, .int .i64 T.m, .slice ka T.kids.length kc, .slice aa T.arms.length ac, .int .i64 tk, .string tn, .int .i64 ti, .int .i64 th, .slice ta tl tc] 37)) w.heap.size [.int .i64 T.k, .int .i64 T.p, .string T.n, .int .i64 T.m, .slice ka T.kids.length kc, .slice aa T.arms.length ac, .int .i64 tk, .string tn, .int .i64 ti, .int .i64 th, .slice ta tl tc]) := BoxC.made _ w _
  have HG0 := Lib.hid (hg.lift hal)
  have HW0 := Lib.hid (hw.lift hal)
  have HF0 : Hid (Fr b b w (w.alloc (.cells #[.int .i64 T.k, .int .i64 T.p, .string T.n, .int .i64 T.m, .slice ka T.kids.length kc, .slice aa T.arms.length ac, .int .i64 tk, .string tn, .int .i64 ti, .int .i64 th, .slice ta tl tc] 37))) := (Fr.refl b b w).alloc (by omega) _
  have HR0 := Lib.hid (hr.lift hal)
  simp only [List.cons.injEq] at hcx
  obtain ⟨-, -, -, -, -, rfl, -⟩ := hcx
  have HAr := Lib.hid (slG_lift harms hal)
  have hacl : T.arms.length ≤ maxLen := by obtain ⟨_, _, e1, ⟨h1, h2⟩, -⟩ := harms; omega
  unfold maxLen at hacl
  have HHa := Lib.hid Ha
  have HHA := Lib.hid HA
  have HK0 : Hid (∀ V, RepE V (fun g => g < b) T [.int .i64 T.k, .int .i64 T.p, .string T.n, .int .i64 T.m, .slice ka T.kids.length kc, .slice aa T.arms.length ac, .int .i64 tk, .string tn, .int .i64 ti, .int .i64 th, .slice ta tl tc] → Calls Tryd.prog 55 #[.agg #[.int .i64 T.k, .int .i64 T.p, .string T.n, .int .i64 T.m, .slice ka T.kids.length kc, .slice aa T.arms.length ac, .int .i64 tk, .string tn, .int .i64 ti, .int .i64 th, .slice ta tl tc], .int .i64 0] V fun e w' => ∃ cu : List Value, e = .returned (.agg cu.toArray) ∧ RepE w' (fun g => g < b) a cu ∧ Below V.heap.size V w') := fun V h => kid0_any T a hts _ _ V h
  have HLn : Hid (l.length + (5 + ((shE a).length + (4 + ((shA0 T.arms).length + 4)))) ≤ 500000000) := by
    show _ ≤ _
    simp only [List.length_append, List.length_cons, List.length_nil] at hl
    omega
  have HLA := Lib.hid (shA0_le T.arms)
  have HTk := Lib.hid (shA0_take T.arms)
  obtain ⟨arms, harm⟩ : ∃ x, x = T.arms := ⟨_, rfl⟩
  rw [← harm] at HX0 HG0 HW0 HF0 HR0 HK0 HAr HHA HLn HLA HTk hacl ⊢
  obtain ⟨an, han⟩ : ∃ x, x = arms.length := ⟨_, rfl⟩
  rw [← han] at HX0 HG0 HW0 HF0 HR0 HAr HK0 hacl ⊢
  have hcl : an ≤ 9223372036854775807 := hacl
  have HAn := Lib.hid han
  clear hal hg hw hr Ha HA hts hl harms hacl han harm
  go_enter Tryd.func58, Tryd.ntmps58
  go_upto_region 1 with fail
  generalize (w.alloc (.cells #[.int .i64 T.k, .int .i64 T.p, .string T.n, .int .i64 T.m, .slice ka T.kids.length kc, .slice aa an ac, .int .i64 tk, .string tn, .int .i64 ti, .int .i64 th, .slice ta tl tc] 37)) = w0 at *
  have hbV := HF0.out.size
  have HWs := Lib.hid (write_s b _ ⟨#[99, 97, 115, 101, 32]⟩ w0 HW0.out (by have h1 := HLn.out; show _ + 5 ≤ _; omega))
  go_wp2_with fail
  go_at_call 54
  refine HWs.out.mono ?_
  rintro e w1 ⟨rfl, hwn, hfn⟩
  have HF1 := Lib.hid (HF0.out.trans hfn)
  have HG1 := Lib.hid (HG0.out.frr hb2 hfn)
  have HW1 := Lib.hid hwn
  have HX1 := Lib.hid (HX0.out.fr hfn (by omega) (by decide))
  have HR1 := Lib.hid (HR0.out.fr hfn.1)
  have HAr1 := Lib.hid (HAr.out.fr hfn.1)
  clear HAr hwn hfn HWs HG0 HW0 HF0 HX0
  obtain ⟨c0, c1, c2, c3, c4, c5, c6, c7, c8, c9, c10⟩ := HX1.out.all11
  go_wp2_with fail
  go_at_call 55
  refine (HK0.out w1 HR1.out).mono ?_
  rintro e w1k ⟨cu, rfl, hrk, hbk⟩
  have HG1k := Lib.hid (HG1.out.lift hbk)
  have HW1k := Lib.hid (HW1.out.lift hbk)
  have HF1k := Lib.hid (HF1.out.below (by have := HF1.out.size; omega) hbk)
  have HR1k := Lib.hid (HR1.out.lift hbk)
  have HX1k := Lib.hid (HX1.out.lift hbk)
  have HC1k := Lib.hid (HHa.out b _ w1k _ HG1k.out hb2 HW1k.out hrk (by have h1 := HLn.out; simp only [List.length_append, bl_len]; show _ + 5 + _ ≤ _; omega))
  obtain ⟨kak2, kck2, aak2, ack2, tkk2, tnk2, tik2, thk2, tak2, tlk2, tck2, rfl⟩ := hrk.form
  have HArk := Lib.hid (slG_lift HAr1.out hbk)
  clear HAr1 hbk hrk c0 c1 c2 c3 c4 c5 c6 c7 c8 c9 c10 HG1 HW1 HF1 HR1 HX1
  go_wp2_with fail
  go_at_call 31
  refine HC1k.out.mono ?_
  rintro e w2 ⟨rfl, hwn, hfn⟩
  have HF2 := Lib.hid (HF1k.out.trans hfn)
  have HG2 := Lib.hid (HG1k.out.frr hb2 hfn)
  have HW2 := Lib.hid hwn
  have HX2 := Lib.hid (HX1k.out.fr hfn (by omega) (by decide))
  have HR2 := Lib.hid (HR1k.out.fr hfn.1)
  have HAr2 := Lib.hid (HArk.out.fr hfn.1)
  clear HArk hwn hfn HG1k HW1k HF1k HR1k HX1k HC1k
  have HWs := Lib.hid (write_s b _ ⟨#[32, 111, 102, 32]⟩ w2 HW2.out (by have h1 := HLn.out; simp only [List.length_append, bl_len]; show _ + 5 + _ + 4 ≤ _; omega))
  go_wp2_with fail
  go_at_call 54
  refine HWs.out.mono ?_
  rintro e w3 ⟨rfl, hwn, hfn⟩
  have HF3 := Lib.hid (HF2.out.trans hfn)
  have HG3 := Lib.hid (HG2.out.frr hb2 hfn)
  have HW3 := Lib.hid hwn
  have HX3 := Lib.hid (HX2.out.fr hfn (by omega) (by decide))
  have HR3 := Lib.hid (HR2.out.fr hfn.1)
  have HAr3 := Lib.hid (HAr2.out.fr hfn.1)
  clear HAr2 hwn hfn HWs HG2 HW2 HF2 HR2 HX2
  obtain ⟨P0, hP0⟩ : ∃ x, x = l ++ ([99, 97, 115, 101, 32] ++ (shE a ++ [32, 111, 102, 32])) := ⟨_, rfl⟩
  have HP0 : Hid (P0.length = l.length + (5 + ((shE a).length + 4))) := by show _ = _; rw [hP0]; simp; omega
  have HPe : Hid (l ++ ([99, 97, 115, 101, 32] ++ (shE a ++ ([32, 111, 102, 32] ++ (shA0 arms ++ [32, 101, 110, 100])))) = P0 ++ shA0 arms ++ [32, 101, 110, 100]) := by show _ = _; rw [hP0]; simp
  have HWp : Hid (Wr b b (P0 ++ shA0 (arms.take 0)) w3) := by
    show Wr b b _ _
    have h := HW3.out
    rw [hP0]
    simpa [bl, shA0] using h
  clear hP0 HW3
  obtain ⟨c0, c1, c2, c3, c4, c5, c6, c7, c8, c9, c10⟩ := HX3.out.all11
  go_wp2
  clear c0 c1 c2 c3 c4 c5 c6 c7 c8 c9 c10 HX3 HR3
  go_loopw [17] (fun x wr => ∃ j : Nat, j ≤ an ∧ x = .int .i64 j ∧ Hid (Wr b b (P0 ++ shA0 (arms.take j)) wr) ∧ Hid (Fr b b w3 wr)) (fun x _ => an - (intOf x).toNat)
  case atStart => exact ⟨0, Nat.zero_le _, rfl, HWp, Fr.refl _ _ _⟩
  case round =>
    clear HWp
    obtain ⟨j, hj, rfl, HWj, HFj⟩ := hrel
    by_cases hjm : j < an
    · obtain ⟨⟨ah, body⟩, hA⟩ : ∃ x, arms[j]? = some x := ⟨_, List.getElem?_eq_getElem (by rw [← HAn.out]; exact hjm)⟩
      obtain ⟨xa, xc, exa, -, hja⟩ := HAr3.out.fr HFj.out.1
      simp only [Value.slice.injEq] at exa
      obtain ⟨rfl, -, rfl⟩ := exa
      obtain ⟨ad, cc, rfl, -, hcells, hrep⟩ := hja j _ hA
      obtain ⟨vv, cb, rfl, hvv, hbody⟩ := hrep
      dsimp only at hcells hvv hbody
      obtain ⟨va, vc, rfl, -⟩ := hvv.slice
      obtain ⟨kau, kcu, aau, acu, tku, tnu, tiu, thu, tau, tlu, tcu, rfl⟩ := hbody.form
      have hrep : AmE.rep wr (fun g => g < b) (ah, body) [.int .i64 ah.pos, .string ah.con, .slice va ah.vars.length vc, .int .i64 body.k, .int .i64 body.p, .string body.n, .int .i64 body.m, .slice kau body.kids.length kcu, .slice aau body.arms.length acu, .int .i64 tku, .string tnu, .int .i64 tiu, .int .i64 thu, .slice tau tlu tcu] := ⟨_, _, rfl, hvv, hbody⟩
      obtain ⟨q0, q1, q2, q3, q4, q5, q6, q7, q8, q9, q10, q11, q12, q13⟩ := all14r (w := wr) (ad := ad) (j := j) (c0 := .int .i64 ah.pos) (c1 := .string ah.con) (c2 := .slice va ah.vars.length vc) hcells
      have hst := HTk.out j _ hA
      have hle := HLA.out (j + 1)
      rw [hst] at hle
      simp only [List.length_append] at hle
      have HSt := Lib.hid hst
      have HLe := Lib.hid hle
      have hwr : w.heap.size ≤ wr.heap.size := Nat.le_trans HF3.out.size HFj.out.size
      have HWB := Lib.hid hwr
      have hal : Below wr.heap.size wr (wr.alloc (.cells #[.int .i64 ah.pos, .string ah.con, .slice va ah.vars.length vc, .int .i64 body.k, .int .i64 body.p, .string body.n, .int .i64 body.m, .slice kau body.kids.length kcu, .slice aau body.arms.length acu, .int .i64 tku, .string tnu, .int .i64 tiu, .int .i64 thu, .slice tau tlu tcu] 68)) := (Below.refl _ wr).alloc (Nat.le_refl _) _
      have HXa : Hid (BoxC 68 (wr.alloc (.cells #[.int .i64 ah.pos, .string ah.con, .slice va ah.vars.length vc, .int .i64 body.k, .int .i64 body.p, .string body.n, .int .i64 body.m, .slice kau body.kids.length kcu, .slice aau body.arms.length acu, .int .i64 tku, .string tnu, .int .i64 tiu, .int .i64 thu, .slice tau tlu tcu] 68)) wr.heap.size [.int .i64 ah.pos, .string ah.con, .slice va ah.vars.length vc, .int .i64 body.k, .int .i64 body.p, .string body.n, .int .i64 body.m, .slice kau body.kids.length kcu, .slice aau body.arms.length acu, .int .i64 tku, .string tnu, .int .i64 tiu, .int .i64 thu, .slice tau tlu tcu]) := BoxC.made _ wr _
      have HRa := Lib.hid (AmE.kept (fun _ h => h) (fun g _ hl => hal.block g hl) hrep)
      have HWa := Lib.hid (HWj.out.lift hal)
      have HFa := Lib.hid (HFj.out.below (by omega) hal)
      have HGa := Lib.hid (HG3.out.frr hb2 HFa.out)
      have HBd := Lib.hid (HHA.out _ (List.mem_of_getElem? hA))
      have hji : (j : Int) < (an : Int) := by omega
      have hbR : b < wr.heap.size := by omega
      clear hA hcells hrep hvv hbody hst hle hal hja hwr
      go_upto_region 7 with fail
      generalize (wr.alloc (.cells #[.int .i64 ah.pos, .string ah.con, .slice va ah.vars.length vc, .int .i64 body.k, .int .i64 body.p, .string body.n, .int .i64 body.m, .slice kau body.kids.length kcu, .slice aau body.arms.length acu, .int .i64 tku, .string tnu, .int .i64 tiu, .int .i64 thu, .slice tau tlu tcu] 68)) = V at *
      generalize wr.heap.size = R at *
      clear q0 q1 q2 q3 q4 q5 q6 q7 q8 q9 q10 q11 q12 q13
      by_cases hj0 : 0 < j
      · have hji0 : (0 : Int) < (j : Int) := by omega
        have hsp : sepA j = [32, 124, 32] := by unfold sepA; rw [if_neg (by omega)]
        rw [hsp] at HSt HLe
        have HWs := Lib.hid (write_s b _ ⟨#[32, 124, 32]⟩ V HWa.out (by have h1 := HLn.out; have h2 := HLe.out; have h3 := HP0.out; simp only [List.length_append, List.length_cons, List.length_nil] at h2 ⊢; show _ + 3 ≤ _; omega))
        go_wp2_with fail
        go_at_call 54
        refine HWs.out.mono ?_
        rintro e1 V2 ⟨rfl, hw2, hf2⟩
        have HX2 := Lib.hid (HXa.out.fr hf2 (by omega) (by decide))
        have HR2 : Hid (AmE.rep V2 (fun g => g < b) (ah, body) [.int .i64 ah.pos, .string ah.con, .slice va ah.vars.length vc, .int .i64 body.k, .int .i64 body.p, .string body.n, .int .i64 body.m, .slice kau body.kids.length kcu, .slice aau body.arms.length acu, .int .i64 tku, .string tnu, .int .i64 tiu, .int .i64 thu, .slice tau tlu tcu]) := AmE.kept (fun _ h => h) (fun g hg _ => hf2.1.block g hg) HRa.out
        have HF2 := Lib.hid (HFa.out.trans hf2)
        have HG2 := Lib.hid (HGa.out.frr hb2 hf2)
        have HCa := Lib.hid (writeArm_any ah body HBd.out b _ V2 _ HG2.out hb2 hw2 HR2.out (by have h1 := HLn.out; have h2 := HLe.out; have h3 := HP0.out; simp only [List.length_append, List.length_cons, List.length_nil] at h2 ⊢; show _ + 3 + _ ≤ _; omega))
        clear hw2 hf2 HWs
        obtain ⟨d0, d1, d2, d3, d4, d5, d6, d7, d8, d9, d10, d11, d12, d13⟩ := all14 HX2.out
        go_wp2_with fail
        go_at_call 84
        refine HCa.out.mono ?_
        rintro e1 V3 ⟨rfl, hw3, hf3⟩
        have HW3 : Hid (Wr b b (P0 ++ shA0 (arms.take (j + 1))) V3) := by
          show Wr b b _ _
          rw [HSt.out]
          have e1 : P0 ++ (shA0 (arms.take j) ++ ([32, 124, 32] ++ (armText ah ++ shE body))) = P0 ++ shA0 (arms.take j) ++ bl ⟨#[32, 124, 32]⟩ ++ (armText ah ++ shE body) := by simp [bl]
          rw [e1]
          exact hw3
        have HF4 := Lib.hid (HF2.out.trans hf3)
        clear d0 d1 d2 d3 d4 d5 d6 d7 d8 d9 d10 d11 d12 d13 hw3 hf3
        go_wp2
        go_roundw
        case rel => exact ⟨j + 1, hjm, by go_num, HW3, HF4⟩
        case measure => simp [intOf]; omega
      · obtain rfl : j = 0 := by omega
        have hsp : sepA 0 = [] := rfl
        rw [hsp] at HSt HLe
        have HCa := Lib.hid (writeArm_any ah body HBd.out b _ V _ HGa.out hb2 HWa.out HRa.out (by have h1 := HLn.out; have h2 := HLe.out; have h3 := HP0.out; simp only [List.length_append, List.length_nil] at h2 ⊢; omega))
        obtain ⟨d0, d1, d2, d3, d4, d5, d6, d7, d8, d9, d10, d11, d12, d13⟩ := all14 HXa.out
        go_wp2_with fail
        go_at_call 84
        refine HCa.out.mono ?_
        rintro e1 V3 ⟨rfl, hw3, hf3⟩
        have HW3 : Hid (Wr b b (P0 ++ shA0 (arms.take (0 + 1))) V3) := by
          show Wr b b _ _
          rw [HSt.out]
          have e1 : P0 ++ (shA0 (arms.take 0) ++ ([] ++ (armText ah ++ shE body))) = P0 ++ shA0 (arms.take 0) ++ (armText ah ++ shE body) := by simp
          rw [e1]
          exact hw3
        have HF4 := Lib.hid (HFa.out.trans hf3)
        clear d0 d1 d2 d3 d4 d5 d6 d7 d8 d9 d10 d11 d12 d13 hw3 hf3
        go_wp2
        go_roundw
        case rel => exact ⟨0 + 1, hjm, by go_num, HW3, HF4⟩
        case measure => simp [intOf]; omega
    · have HWf : Hid (Wr b b (P0 ++ shA0 arms) wr) := by
        have h := HWj.out
        rwa [List.take_of_length_le (by rw [← HAn.out]; omega)] at h
      have HFw := Lib.hid (HF3.out.trans HFj.out)
      have HWs := Lib.hid (write_s b _ ⟨#[32, 101, 110, 100]⟩ wr HWf.out (by have h1 := HLn.out; have h3 := HP0.out; simp only [List.length_append]; show _ + 4 ≤ _; omega))
      go_wp2_with fail
      go_at_call 54
      refine HWs.out.mono ?_
      rintro e1 w5 ⟨rfl, hw5, hf5⟩
      go_wp2
      go_end0
      refine ⟨rfl, ?_, HFw.out.trans hf5⟩
      show Wr b b (l ++ ([99, 97, 115, 101, 32] ++ (shE a ++ ([32, 111, 102, 32] ++ (shA0 arms ++ [32, 101, 110, 100]))))) w5
      rw [HPe.out]
      exact hw5
end Go.Proofs.YtfkbifbodpelmaaDoor
