import Derived.Test.YtafpngmfhajedaaQE
import Derived.Test.YtafpngmfhajedaaQC
import Derived.Test.YtafpngmfhajedaaQD
import Derived.Deep.RegionHeld3
import Derived.Deep.DeepCutAuto
import Derived.Test.YtafpngmfhajedaaQM
/- The law's first. -/
namespace Go.Proofs.Ytafpngmfhajedaa
open Go.RowKit Go.Sort Go.Shelf Go.Maps Mth

def consN : ByteArray := ⟨#[67, 111, 110, 115]⟩
def listN : ByteArray := ⟨#[76, 105, 115, 116]⟩
def lstT : Ty := con listN [bndTy 0]
def consT : Ty := con arrN [bndTy 0, con arrN [lstT, lstT]]
theorem sch_list : sch listDats consN = some (1, consT) := by kernel_rfl
theorem chk_list : chk listDats = (0, 0) := by decide +kernel
theorem chk_list2 : (chk (listDats ++ listDats)).1 = 6 := by decide +kernel
theorem goodD_list : GoodD listDats := by
  rw [list_eq]
  refine ⟨by decide, fun d hd => ?_⟩
  simp at hd
  subst hd
  refine ⟨by decide, size_lit _ (by decide), by decide, fun c hc => ?_⟩
  simp at hc
  rcases hc with rfl | rfl
  · exact ⟨by decide, fun f hf => by simp at hf⟩
  · refine ⟨by decide, fun f hf => ?_⟩
    simp at hf
    rcases hf with rfl | rfl
    · exact ⟨by decide +kernel, by decide +kernel⟩
    · exact ⟨by decide +kernel, by decide +kernel⟩
theorem goodN_list : GoodN listDats := by
  rw [list_eq]
  intro d hd
  simp at hd
  subst hd
  refine ⟨fun p hp => ?_, fun c hc => ?_⟩
  · simp at hp; subst hp; exact size_lit _ (by decide)
  · simp at hc
    rcases hc with rfl | rfl
    · exact size_lit _ (by decide)
    · exact size_lit _ (by decide)
theorem GoodD.append {a b : List Dat} (h : GoodD a) (k : GoodD b) (hl : (a ++ b).length ≤ 1000) : GoodD (a ++ b) := ⟨hl, fun d hd => (List.mem_append.1 hd).elim (h.2 d) (k.2 d)⟩
theorem GoodN.append {a b : List Dat} (h : GoodN a) (k : GoodN b) : GoodN (a ++ b) := fun d hd => (List.mem_append.1 hd).elim (h d) (k d)
theorem teq_cons : teq consT consT = true := by decide +kernel
theorem SchV.form {w : World} {S : Nat → Prop} {n : Nat} {T : Ty} {v : Value} (h : SchV w S n T v) : ∃ (k : Int) (nm : ByteArray) (i hh : Int) (a : Option Addr) (m c : Nat), v = .agg #[.int .i64 n, .int .i64 k, .string nm, .int .i64 i, .int .i64 hh, .slice a m c] ∧ Rep w S T (.agg #[.int .i64 k, .string nm, .int .i64 i, .int .i64 hh, .slice a m c]) := by
  obtain ⟨c0, c1, c2, c3, c4, rfl, hr⟩ := h
  obtain ⟨k, nm, i, hh, a, m, c, e⟩ := hr.form
  simp at e
  obtain ⟨rfl, rfl, rfl, rfl, rfl⟩ := e
  exact ⟨k, nm, i, hh, a, m, c, rfl, hr⟩
theorem OwnD.addr {w0 w : World} {d : Dat} {ds : List Dat} {dv : Value} (h : OwnD w0 w (d :: ds) dv) : ∃ ad c, dv = .slice (some ad) (ds.length + 1) c := by
  obtain ⟨a, cap, rfl, -, hj⟩ := h.slG
  obtain ⟨ad, _, rfl, _⟩ := hj 0 d rfl
  exact ⟨ad, cap, rfl⟩
/-- Two lists, the second one laid behind the first: the second one may be appended to the first. -/
theorem push_two {V1 V2 V3 : World} {ds es : List Dat} {v : Value} {ad : Addr} {n c : Nat} (h2 : OwnD V1 V2 ds v) (h3 : OwnD V2 V3 es (.slice (some ad) n c)) (hb : Below V2.heap.size V2 V3) (h12 : V1.heap.size ≤ V2.heap.size) :
    ∃ base, V1.heap.size ≤ base ∧ base ≤ V3.heap.size ∧ RowG DatE V3 base (fun c => V1.heap.size ≤ c) v ds ∧ ∀ (j : Nat) (y : Dat), es[j]? = some y → ∃ c : List Value, (∀ (m : Nat) (u : Value), c[m]? = some u → V3.cell? (ad.add (j * DatE.k + m)) = some u) ∧ DatE.rep V3 (fun b => V1.heap.size ≤ b ∧ some b ≠ v.ownBlock) y c := by
  obtain ⟨base, k1, k2, hr⟩ := h2
  refine ⟨base, k1, Nat.le_trans k2 hb.size, hr.lift hb, slG_news h3.slG fun b hb' => ⟨Nat.le_trans h12 hb', fun e => ?_⟩⟩
  have := (hr.lt b e.symm).2
  omega
/-- .. or the first one to the second. -/
theorem push_two' {V1 V2 V3 : World} {ds es : List Dat} {v : Value} {ad : Addr} {n c : Nat} (h2 : OwnD V1 V2 es (.slice (some ad) n c)) (h3 : OwnD V2 V3 ds v) (hb : Below V2.heap.size V2 V3) (h12 : V1.heap.size ≤ V2.heap.size) :
    ∃ base, V1.heap.size ≤ base ∧ base ≤ V3.heap.size ∧ RowG DatE V3 base (fun c => V1.heap.size ≤ c) v ds ∧ ∀ (j : Nat) (y : Dat), es[j]? = some y → ∃ c : List Value, (∀ (m : Nat) (u : Value), c[m]? = some u → V3.cell? (ad.add (j * DatE.k + m)) = some u) ∧ DatE.rep V3 (fun b => V1.heap.size ≤ b ∧ some b ≠ v.ownBlock) y c := by
  obtain ⟨base, k1, k2, hr⟩ := h3
  refine ⟨base, Nat.le_trans h12 k1, k2, hr.imp fun b hb' => Nat.le_trans h12 hb', slG_news (h2.slG.bound.lift' hb) fun b hb' => ⟨hb'.1, fun e => ?_⟩⟩
  have h1 := (hr.lt b e.symm).1
  have h2' := hb'.2
  omega
theorem Try.fltErr (a b : Int) (w : World) : (Instr.field 29 (.agg #[.int .i64 a, .int .i64 b]) 0).run Try.prog w = .ok (.int .i64 a) w := by kernel_rfl
set_option maxRecDepth 100000 in
set_option maxHeartbeats 16000000 in
theorem first9_any (w : World) : Calls Try.prog 7 #[] w fun e w' => e = .returned (.bool true) ∧ Below w.heap.size w w' ∧ w.heap.size < w'.heap.size := by
  have HLs : Hid (∀ V, Calls Try.prog 27 #[] V fun e w' => ∃ ad c, e = .returned (.slice (some ad) 1 c) ∧ OwnD V w' listDats (.slice (some ad) 1 c) ∧ Below V.heap.size V w') := fun V => (listG_any V).mono fun _ _ ⟨dv, h1, h2, h3⟩ => by
    rw [list_eq] at h2
    obtain ⟨ad, c, e⟩ := h2.addr
    rw [e] at h1 h2
    exact ⟨ad, c, h1, by rw [list_eq]; exact h2, h3⟩
  have HCn : Hid (∀ V dv S, SlG DatE V S listDats dv → Calls Try.prog 13 #[dv, .string ⟨#[67, 111, 110, 115]⟩] V fun e w' => SchE w' (fun _ => True) (some (1, consT)) e ∧ Below V.heap.size V w') := fun V dv S h => by
    have := constructor_any listDats goodD_list consN dv S V h
    rwa [sch_list] at this
  have HBd : Hid (∀ V, Calls Try.prog 29 #[.int .i64 0] V fun e w' => e = .returned (.agg #[.int .i64 2, .string ⟨#[]⟩, .int .i64 0, .int .i64 0, .slice none 0 0]) ∧ Below V.heap.size V w') := fun V => refBound_any 0 V
  have HCo : Hid (∀ V : World, Calls Try.prog 28 #[.string ⟨#[76, 105, 115, 116]⟩, .slice (some ⟨V.heap.size, 0, none⟩) 1 1] (V.alloc (.cells #[.int .i64 2, .string ⟨#[]⟩, .int .i64 0, .int .i64 0, .slice none 0 0] 39)) fun e w' => ∃ a c, e = .returned (.agg #[.int .i64 4, .string ⟨#[76, 105, 115, 116]⟩, .int .i64 0, .int .i64 0, .slice a 1 c]) ∧ Rep w' (fun _ => True) lstT (.agg #[.int .i64 4, .string ⟨#[76, 105, 115, 116]⟩, .int .i64 0, .int .i64 0, .slice a 1 c]) ∧ Below V.heap.size V w') := fun V => by
    refine (refCon_any ⟨#[76, 105, 115, 116]⟩ [bndTy 0] (by simp) ⟨V.heap.size, 0, none⟩ 1 (fun _ => True) _ (fun _ _ => trivial) ⟨_, 1, rfl, ⟨Nat.le_refl _, by unfold maxLen; decide⟩, fun j T hj => ?_⟩).mono ?_
    · cases j with
      | zero => simp at hj; subst hj; exact ⟨_, _, rfl, trivial, one_new _ _ rfl, rep_leaf _ _ _ _ _ _ (Nat.zero_le _)⟩
      | succ j => simp at hj
    · rintro e w' ⟨a, c, rfl, hr, hb⟩
      exact ⟨a, c, rfl, Rep.close (size_lit _ (by decide)) hr, ((Below.refl _ V).alloc (Nat.le_refl _) _).trans (hb.mono (by simp))⟩
  go_enter Try.func7, Try.ntmps7
  go_wp2_with fail
  go_at_call 27
  refine (HLs.out w).mono ?_
  rintro e w1 ⟨da, dc, rfl, ho, hb1⟩
  have HS1 := Lib.hid ho.slG
  clear ho
  go_wp2_with fail
  go_at_call 13
  refine (HCn.out _ _ _ HS1.out).mono ?_
  rintro e w2 ⟨⟨v, rfl, hv⟩, hb2⟩
  obtain ⟨ck, cn, ci, ch, ca, cm, cc, rfl, hr⟩ := hv.form
  have HRc := Lib.hid hr
  have HB2 := Lib.hid (hb1.trans (hb2.mono hb1.size))
  clear hv hr hb1 hb2 HS1 HCn
  go_wp2_with fail
  go_at_call 29
  have hsB := HB2.out.size
  have HSx : Hid (Below w2.heap.size w2 (w2.alloc (.cells #[.int .i64 1, .int .i64 ck, .string cn, .int .i64 ci, .int .i64 ch, .slice ca cm cc] 41))) := (Below.refl _ w2).alloc (Nat.le_refl _) _
  have HBx : Hid (BoxC 41 (w2.alloc (.cells #[.int .i64 1, .int .i64 ck, .string cn, .int .i64 ci, .int .i64 ch, .slice ca cm cc] 41)) w2.heap.size [.int .i64 1, .int .i64 ck, .string cn, .int .i64 ci, .int .i64 ch, .slice ca cm cc]) := BoxC.made _ w2 _
  have HRc2 := Lib.hid (HRc.out.lift HSx.out)
  have HB3 := Lib.hid (HB2.out.trans (HSx.out.mono hsB))
  clear HRc HB2 HSx
  generalize (w2.alloc (.cells #[.int .i64 1, .int .i64 ck, .string cn, .int .i64 ci, .int .i64 ch, .slice ca cm cc] 41)) = W1 at *
  refine (HBd.out W1).mono ?_
  rintro e w3 ⟨rfl, hb3⟩
  have HBx3 := Lib.hid (HBx.out.lift hb3)
  have HRc3 := Lib.hid (HRc2.out.lift hb3)
  have HB4 := Lib.hid (HB3.out.trans (hb3.mono HB3.out.size))
  clear hb3 HBx HRc2 HB3
  go_wp2_with fail
  go_at_call 28
  refine (HCo.out w3).mono ?_
  rintro e w4 ⟨la, lc, rfl, hl, hb4⟩
  have HBx4 := Lib.hid (HBx3.out.lift hb4)
  have HRc4 := Lib.hid (HRc3.out.lift hb4)
  have HB5 := Lib.hid (HB4.out.trans (hb4.mono HB4.out.size))
  have HL := Lib.hid hl
  clear hb4 HBx3 HRc3 HB4 hl HCo
  have hal : Below w4.heap.size w4 (w4.alloc (.cells #[.int .i64 4, .string ⟨#[76, 105, 115, 116]⟩, .int .i64 0, .int .i64 0, .slice la 1 lc] 39)) := (Below.refl _ w4).alloc (Nat.le_refl _) _
  have HBl : Hid (Box (w4.alloc (.cells #[.int .i64 4, .string ⟨#[76, 105, 115, 116]⟩, .int .i64 0, .int .i64 0, .slice la 1 lc] 39)) w4.heap.size (.int .i64 4) (.string ⟨#[76, 105, 115, 116]⟩) (.int .i64 0) (.int .i64 0) (.slice la 1 lc)) := Box.made _ _ _ _ _ _
  have HBx5 := Lib.hid (HBx4.out.lift hal)
  have HRc5 := Lib.hid (HRc4.out.lift hal)
  have HL5 := Lib.hid (HL.out.lift hal)
  have HB6 := Lib.hid (HB5.out.trans (hal.mono HB5.out.size))
  have HSz : Hid (w.heap.size < (w4.alloc (.cells #[.int .i64 4, .string ⟨#[76, 105, 115, 116]⟩, .int .i64 0, .int .i64 0, .slice la 1 lc] 39)).heap.size) := by
    show _ < _
    have := HB5.out.size
    simp
    omega
  clear HBx4 HRc4 HL HB5 hal
  go_upto_region 3 with fail
  generalize (w4.alloc (.cells #[.int .i64 4, .string ⟨#[76, 105, 115, 116]⟩, .int .i64 0, .int .i64 0, .slice la 1 lc] 39)) = W at *
  generalize w2.heap.size = A at *
  generalize w4.heap.size = B at *

  have HA1 : Hid (∀ V, Below W.heap.size W V → Calls Try.prog 31 #[.agg #[.int .i64 4, .string ⟨#[76, 105, 115, 116]⟩, .int .i64 0, .int .i64 0, .slice la 1 lc], .agg #[.int .i64 4, .string ⟨#[76, 105, 115, 116]⟩, .int .i64 0, .int .i64 0, .slice la 1 lc]] V fun e w' => ∃ a c, e = .returned (.agg #[.int .i64 4, .string arrN, .int .i64 0, .int .i64 0, .slice a 2 c]) ∧ RepL w' (fun _ => True) [lstT, lstT] (.slice a 2 c) ∧ Below V.heap.size V w') :=
    fun V hV => refArrow_any lstT lstT _ _ (fun _ => True) V (fun _ _ => trivial) (HL5.out.lift hV) (HL5.out.lift hV)
  have HA2 : Hid (∀ V1 V a c, RepL V1 (fun _ => True) [lstT, lstT] (.slice a 2 c) → Below V1.heap.size V1 V → Calls Try.prog 31 #[.agg #[.int .i64 2, .string ⟨#[]⟩, .int .i64 0, .int .i64 0, .slice none 0 0], .agg #[.int .i64 4, .string arrN, .int .i64 0, .int .i64 0, .slice a 2 c]] V fun e w' => ∃ a c, e = .returned (.agg #[.int .i64 4, .string arrN, .int .i64 0, .int .i64 0, .slice a 2 c]) ∧ RepL w' (fun _ => True) [bndTy 0, con arrN [lstT, lstT]] (.slice a 2 c) ∧ Below V.heap.size V w') :=
    fun V1 V a c h hV => refArrow_any (bndTy 0) (con arrN [lstT, lstT]) _ _ (fun _ => True) V (fun _ _ => trivial) (rep_leaf _ _ _ _ _ _ (Nat.zero_le _)) (Rep.close arrN_fits (h.lift hV))
  have HEq : Hid (∀ V a c, Below W.heap.size W V → RepL V (fun _ => True) [bndTy 0, con arrN [lstT, lstT]] (.slice a 2 c) → Calls Try.prog 30 #[.agg #[.int .i64 ck, .string cn, .int .i64 ci, .int .i64 ch, .slice ca cm cc], .agg #[.int .i64 4, .string arrN, .int .i64 0, .int .i64 0, .slice a 2 c]] V fun e w' => e = .returned (.bool true) ∧ Below V.heap.size V w') :=
    fun V a c hV h => by
      have := refEqual_any _ consT (Nat.le_refl _) consT _ _ _ _ V (HRc5.out.lift hV) (Rep.close arrN_fits h)
      rwa [teq_cons] at this
  have HC1 : Hid (∀ V dv S, SlG DatE V S listDats dv → Calls Try.prog 10 #[dv] V fun e w' => e = .returned (.agg #[.int .i64 0, .int .i64 0]) ∧ Below V.heap.size V w') := fun V dv S h => by
    have := check_any listDats goodD_list goodN_list dv S V h
    rwa [chk_list] at this
  have HC2 : Hid (∀ V dv S, SlG DatE V S (listDats ++ listDats) dv → Calls Try.prog 10 #[dv] V fun e w' => e = .returned (.agg #[.int .i64 6, .int .i64 (chk (listDats ++ listDats)).2]) ∧ Below V.heap.size V w') := fun V dv S h => by
    have := check_any (listDats ++ listDats) (goodD_list.append goodD_list (by rw [List.length_append, list_num]; decide)) (goodN_list.append goodN_list) dv S V h
    unfold fltV at this
    rwa [chk_list2] at this
  generalize (chk (listDats ++ listDats)).2 = ep at *
  have HK : Hid (∀ V, Below W.heap.size W V → V.cell? ⟨A, 0, none⟩ = some (.int .i64 1) ∧ V.cell? ⟨A, 1, none⟩ = some (.int .i64 ck) ∧ V.cell? ⟨A, 2, none⟩ = some (.string cn) ∧ V.cell? ⟨A, 3, none⟩ = some (.int .i64 ci) ∧ V.cell? ⟨A, 4, none⟩ = some (.int .i64 ch) ∧ V.cell? ⟨A, 5, none⟩ = some (.slice ca cm cc) ∧
      V.cell? ⟨B, 0, none⟩ = some (.int .i64 4) ∧ V.cell? ⟨B, 1, none⟩ = some (.string ⟨#[76, 105, 115, 116]⟩) ∧ V.cell? ⟨B, 2, none⟩ = some (.int .i64 0) ∧ V.cell? ⟨B, 3, none⟩ = some (.int .i64 0) ∧ V.cell? ⟨B, 4, none⟩ = some (.slice la 1 lc) ∧ Below W.heap.size W V) := fun V hV => by
    have h := HBx5.out.lift hV
    obtain ⟨l0, l1, l2, l3, l4⟩ := (HBl.out.lift hV).cells
    exact ⟨h.cell 0 _ rfl, h.cell 1 _ rfl, h.cell 2 _ rfl, h.cell 3 _ rfl, h.cell 4 _ rfl, h.cell 5 _ rfl, l0, l1, l2, l3, l4, hV⟩
  have hdr : Below W.heap.size W W.drew := (Below.refl _ W).drew
  have hf1 : ∀ w, (Instr.field 29 (.agg #[.int .i64 0, .int .i64 0]) 0).run Try.prog w = .ok (.int .i64 0) w := Try.fltErr 0 0
  have hf2 : ∀ w, (Instr.field 29 (.agg #[.int .i64 6, .int .i64 ep]) 0).run Try.prog w = .ok (.int .i64 6) w := Try.fltErr 6 ep
  have tok1 : True := trivial
  have tok2 : True := trivial
  have tok3 : True := trivial
  clear HBx5 HBl HRc5 HL5
  go_region_held3 (fun V => V.cell? ⟨A, 0, none⟩ = some (.int .i64 1) ∧ V.cell? ⟨A, 1, none⟩ = some (.int .i64 ck) ∧ V.cell? ⟨A, 2, none⟩ = some (.string cn) ∧ V.cell? ⟨A, 3, none⟩ = some (.int .i64 ci) ∧ V.cell? ⟨A, 4, none⟩ = some (.int .i64 ch) ∧ V.cell? ⟨A, 5, none⟩ = some (.slice ca cm cc) ∧
      V.cell? ⟨B, 0, none⟩ = some (.int .i64 4) ∧ V.cell? ⟨B, 1, none⟩ = some (.string ⟨#[76, 105, 115, 116]⟩) ∧ V.cell? ⟨B, 2, none⟩ = some (.int .i64 0) ∧ V.cell? ⟨B, 3, none⟩ = some (.int .i64 0) ∧ V.cell? ⟨B, 4, none⟩ = some (.slice la 1 lc) ∧ Below W.heap.size W V)
    (with_reducible exact HK.out _ (by assumption))
    (first
      | (go_at_call 29; (with_reducible refine (HBd.out _).mono ?_); rintro e w' ⟨rfl, hbB⟩; have hk := keepCall' (W := W) (by assumption) hbB)
      | (go_at_call 31; (with_reducible refine (HA1.out _ (by assumption)).mono ?_); rintro e w' ⟨a1, c1, rfl, hr1, hb⟩; have HR1 := Lib.hid hr1; have hk := keepCall' (W := W) (by assumption) hb; clear hr1)
      | (go_at_call 31; (with_reducible refine (HA2.out _ _ _ _ HR1.out (by first | exact Below.refl _ _ | assumption)).mono ?_); rintro e w' ⟨a2, c2, rfl, hr2, hb⟩; have HR2 := Lib.hid hr2; have hk := keepCall' (W := W) (by assumption) hb; clear hr2)
      | (go_at_call 30; (with_reducible refine (HEq.out _ _ _ (by assumption) HR2.out).mono ?_); rintro e w' ⟨rfl, hb⟩; have hk := keepCall' (W := W) (by assumption) hb)
      | (go_at_call 27; have _t := tok1; (with_reducible refine (HLs.out _).mono ?_); rintro e w' ⟨da1, dc1, rfl, ho, hb⟩; have HO1 := Lib.hid ho; have hk := keepCall' (W := W) (by assumption) hb; clear ho tok1)
      | (go_at_call 10; (with_reducible refine (HC1.out _ _ _ HO1.out.slG).mono ?_); rintro e w' ⟨rfl, hb⟩; have hk := keepCall' (W := W) (by assumption) hb; have HW1 := Lib.hid hk.size)
      | (go_at_call 27; have _t := tok2; (with_reducible refine (HLs.out _).mono ?_); rintro e w' ⟨da2, dc2, rfl, ho, hb⟩; have HO2 := Lib.hid ho; have hk := keepCall' (W := W) (by assumption) hb; have H12 := Lib.hid hb.size; clear ho tok2)
      | (go_at_call 27; have _t := tok3; (with_reducible refine (HLs.out _).mono ?_); rintro e w' ⟨da3, dc3, rfl, ho, hb⟩; have HP1 := Lib.hid (push_two HO2.out ho hb H12.out); have HP2 := Lib.hid (push_two' HO2.out ho hb H12.out); have hk := keepCall' (W := W) (by assumption) hb; have hkL := Lib.hid hk; clear ho tok3)
      | ((obtain ⟨base, k1, k2, hrow, hnews⟩ := HP1.out); (refine step_pushM DatE (by rfl) _ _ rfl base _ (.slice (some da2) 1 dc2) listDats rfl hrow da3 1 dc3 rfl listDats list_num (by decide) hnews 2 (by rw [list_num]) (by decide) k2 ?_); (intro a' c' w' hrw hg); (have HRw := Lib.hid hrw); (have hk := Below.grown hkL.out hg hkL.out.size (fun k e => by have h1 := (hrow.lt k e).1; have h2 := HW1.out; omega)); clear hrow hnews hrw)
      | ((obtain ⟨base, k1, k2, hrow, hnews⟩ := HP2.out); (refine step_pushM DatE (by rfl) _ _ rfl base _ (.slice (some da3) 1 dc3) listDats rfl hrow da2 1 dc2 rfl listDats list_num (by decide) hnews 2 (by rw [list_num]) (by decide) k2 ?_); (intro a' c' w' hrw hg); (have HRw := Lib.hid hrw); (have hk := Below.grown hkL.out hg hkL.out.size (fun k e => by have h1 := (hrow.lt k e).1; have h2 := HW1.out; omega)); clear hrow hnews hrw)
      | (go_at_call 10; (with_reducible refine (HC2.out _ _ _ (HRw.out.slG (S' := fun _ => True) (fun _ _ => trivial) (fun _ _ => trivial))).mono ?_); rintro e w' ⟨rfl, hb⟩; have hk := keepCall' (W := W) (by assumption) hb))
  all_goals
    have hfin : Below W.heap.size W w' := by assumption
    go_wp2
    go_ret
    exact ⟨rfl, HB6.out.trans (hfin.mono HB6.out.size), Nat.lt_of_lt_of_le HSz.out hfin.size⟩
end Go.Proofs.Ytafpngmfhajedaa

/- What the laws of declarations share. -/
namespace Go.Proofs.Ytafpngmfhajedaa
open Go.RowKit Go.Sort Go.Shelf Go.Maps Mth

theorem valid_flat (T : Ty) : valid T = true → flatT T = true ∧ nm0 T = true := by
  refine Ty.induct (p := fun T => valid T = true → flatT T = true ∧ nm0 T = true) (fun T ih h => ?_) T
  cases T with
  | mk k n i hm ts =>
    have key : ∀ l : List Ty, (∀ U ∈ l, flatT U = true ∧ nm0 U = true) → flatT.flatL l = true ∧ nm0.nm0L l = true := by
      intro l
      induction l with
      | nil => intro _; exact ⟨rfl, rfl⟩
      | cons t l ihl =>
        intro h
        have h1 := h t (by simp)
        have h2 := ihl fun U hU => h U (by simp [hU])
        exact ⟨by simp [flatT.flatL, h1.1, h2.1], by simp [nm0.nm0L, h1.2, h2.2]⟩
    have hvl : ∀ l : List Ty, validL l = true → ∀ U ∈ l, valid U = true := by
      intro l h
      rw [validL_any] at h
      simpa using h
    simp only [valid] at h
    have nil_of : ts.length = 0 → flatT (.mk k n i hm ts) = true ∧ nm0 (.mk k n i hm ts) = true := fun h0 => by
      have := List.eq_nil_of_length_eq_zero h0
      subst this
      exact ⟨by simp [flatT, flatT.flatL], by simp [nm0, nm0.nm0L]⟩
    split at h
    · simp only [Bool.and_eq_true, decide_eq_true_eq] at h
      exact nil_of h.2
    · split at h
      · simp only [Bool.and_eq_true, decide_eq_true_eq] at h
        exact nil_of h.2
      · split at h
        · rename_i h4
          subst h4
          simp only [Bool.and_eq_true] at h
          have := key ts fun U hU => ih U hU (hvl ts h.2 U hU)
          exact ⟨by simp [flatT, this.1], by simp [nm0, this.2]⟩
        · split at h
          · simp only [Bool.and_eq_true, decide_eq_true_eq] at h
            exact nil_of h.2
          · cases h
theorem tape_new {w w1 : World} {zs : List Int} {a : Option Addr} {cap n : Nat} (hn : n = zs.length) (hz : zs.length ≤ 1000) (h : Ints w (.slice a n cap) zs) (hb : Below w.heap.size w w1) (hw : w.heap.size < w1.heap.size) :
    Tq (w1.alloc (.cells #[.slice a n cap, .int .i64 0] 52)) w1.heap.size := by
  subst hn
  obtain ⟨a', cap', e, -, -, hj⟩ := h
  cases e
  refine ⟨zs, a, cap, 0, ?_, Nat.zero_le _, hz, fun j x hx => ?_⟩
  · unfold TapeAt; rw [heap_at, if_pos rfl]; rfl
  · obtain ⟨ad, rfl, hc⟩ := hj j x hx
    have hl := World.block_lt_of_cell? _ _ hc
    have hl1 := Nat.lt_of_lt_of_le hl hb.size
    refine ⟨ad, rfl, by rw [add_block] at hl; omega, ?_⟩
    rw [((Below.refl _ w1).alloc (Nat.le_refl _) _).cell hl1, hb.cell hl]
    exact hc
theorem namedL_ok : LeafL namedL := leaf_all _ (by decide) (by decide +kernel)
def goneD : Dat := ⟨0, ⟨#[71, 111, 110, 101]⟩, [], []⟩
def barD : Dat := ⟨0, ⟨#[76, 105, 115, 116]⟩, [], []⟩
theorem someG_two (bits : Int) : SomeG (dsOf bits ++ [goneD, barD]) := by
  refine ⟨by have := (dsOf_some bits).1; rw [List.length_append]; simp; omega, fun d hd => ?_⟩
  rcases List.mem_append.1 hd with h | h
  · exact (dsOf_some bits).g.2 d h
  · simp at h
    rcases h with rfl | rfl
    · decide +kernel
    · decide +kernel
theorem all_good : ∀ d ∈ allDats, d.params.length ≤ 4 ∧ d.name.size ≤ 4000 := fun d hd => ⟨(all_name d hd).2, (all_name d hd).1⟩
/-- The maker's declarations are of bounded sizes. -/
def goodB (d : Dat) : Bool := decide (d.params.length ≤ 1000) && decide (d.name.size ≤ 4000) && decide (d.ctors.length ≤ 1000) && d.params.all (fun p => decide (p.size ≤ 4000)) && d.ctors.all (fun c => decide (c.name.size ≤ 4000) && decide (c.fields.length ≤ 1000) && c.fields.all (fun f => decide (nodes f ≤ 1000000) && nm0 f))
theorem all_goodB : allDats.all goodB = true := by decide +kernel
theorem goodB_of {d : Dat} (h : goodB d = true) : (d.params.length ≤ 1000 ∧ d.name.size ≤ maxLen ∧ d.ctors.length ≤ 1000 ∧ ∀ c ∈ d.ctors, GoodC c) ∧ ((∀ p ∈ d.params, p.size ≤ maxLen) ∧ ∀ c ∈ d.ctors, c.name.size ≤ maxLen) := by
  unfold goodB at h
  simp only [Bool.and_eq_true, decide_eq_true_eq, List.all_eq_true] at h
  obtain ⟨⟨⟨⟨h1, h2⟩, h3⟩, h4⟩, h5⟩ := h
  have hm : ∀ n : Nat, n ≤ 4000 → n ≤ maxLen := fun n hn => by unfold maxLen; omega
  exact ⟨⟨h1, hm _ h2, h3, fun c hc => ⟨(h5 c hc).1.2, fun f hf => (h5 c hc).2 f hf⟩⟩, fun p hp => hm _ (h4 p hp), fun c hc => hm _ (h5 c hc).1.1⟩
theorem dsOf_good (bits : Int) : GoodD (dsOf bits) := ⟨by have := (dsOf_some bits).1; omega, fun d hd => (goodB_of (List.all_eq_true.1 all_goodB d ((dsOf_some bits).2 d hd))).1⟩
theorem dsOf_goodN (bits : Int) : GoodN (dsOf bits) := fun d hd => (goodB_of (List.all_eq_true.1 all_goodB d ((dsOf_some bits).2 d hd))).2
/-- One of four names. -/
def nm4 : List ByteArray := [⟨#[97]⟩, ⟨#[98]⟩, ⟨#[99]⟩, ⟨#[120]⟩]
theorem nm4_at {i : Int} (h1 : 0 ≤ i) (h2 : i < 4) : ∃ (k : Nat) (s : ByteArray), i = k ∧ nm4[k]? = some s ∧ s.size ≤ 1 := by
  obtain ⟨k, rfl⟩ : ∃ k : Nat, i = k := ⟨i.toNat, by omega⟩
  have hk : k = 0 ∨ k = 1 ∨ k = 2 ∨ k = 3 := by omega
  rcases hk with rfl | rfl | rfl | rfl
  · exact ⟨0, _, rfl, rfl, Nat.le_refl _⟩
  · exact ⟨1, _, rfl, rfl, Nat.le_refl _⟩
  · exact ⟨2, _, rfl, rfl, Nat.le_refl _⟩
  · exact ⟨3, _, rfl, rfl, Nat.le_refl _⟩
theorem nm4_cell (w : World) (Z : TypeId) {k : Nat} {s : ByteArray} (h : nm4[k]? = some s) : (w.alloc (.cells #[.string ⟨#[97]⟩, .string ⟨#[98]⟩, .string ⟨#[99]⟩, .string ⟨#[120]⟩] Z)).cell? ⟨w.heap.size, k, none⟩ = some (.string s) := by
  have hk : k < 4 := by have := (List.getElem?_eq_some_iff.1 h).1; simpa [nm4] using this
  have hk' : k = 0 ∨ k = 1 ∨ k = 2 ∨ k = 3 := by omega
  unfold nm4 at h
  rcases hk' with rfl | rfl | rfl | rfl
  all_goals
    simp at h
    subst h
    simp
/-- A made type in its variable. -/
structure Md (w : World) (B d : Nat) (T : Ty) (k : Int) (n : ByteArray) (i h : Int) (a : Option Addr) (m c : Nat) (V : World) : Prop where
  box : Box V B (.int .i64 k) (.string n) (.int .i64 i) (.int .i64 h) (.slice a m c)
  rep : Rep V (fun _ => True) T (.agg #[.int .i64 k, .string n, .int .i64 i, .int .i64 h, .slice a m c])
  ok : Ok d T
  low : Below w.heap.size w V
theorem md_new {w w4 w5 : World} {base b d : Nat} {T : Ty} {k : Int} {n : ByteArray} {i h : Int} {a : Option Addr} {m c : Nat} (hl : Below w.heap.size w w4) (hb : w.heap.size ≤ b) (hr : Rep w5 (fun c => base ≤ c) T (.agg #[.int .i64 k, .string n, .int .i64 i, .int .i64 h, .slice a m c])) (ho : Ok d T) (hg : w4.grownBy w5 (some b)) :
    Md w w5.heap.size d T k n i h a m c (w5.alloc (.cells #[.int .i64 k, .string n, .int .i64 i, .int .i64 h, .slice a m c] 39)) := by
  have h1 : Below w.heap.size w w5 := Below.grown hl hg hl.size (fun k hk => by have := Option.some.inj hk; omega)
  have h2 : Below w5.heap.size w5 (w5.alloc (.cells #[.int .i64 k, .string n, .int .i64 i, .int .i64 h, .slice a m c] 39)) := (Below.refl _ w5).alloc (Nat.le_refl _) _
  exact ⟨Box.made _ _ _ _ _ _, (hr.imp fun _ _ => trivial).lift h2, ho, h1.trans (h2.mono h1.size)⟩
theorem cap4 : capN 4 ≤ 1000000 := by decide
end Go.Proofs.Ytafpngmfhajedaa
