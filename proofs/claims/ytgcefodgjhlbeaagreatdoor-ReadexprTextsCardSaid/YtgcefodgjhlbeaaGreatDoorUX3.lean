import Derived.Test.YtgcefodgjhlbeaaGreatDoorUX1
import Derived.Test.YtgcefodgjhlbeaaGreatDoorUA3
namespace Go.Proofs.YtgcefodgjhlbeaaGreatDoor
open Go.RowKit Go.Maps Mth

theorem rdSkip_f {t : ByteArray} {b : Nat} {ts : List Tok} {s : St} (hs : xI ts s t = false) (w : World) (h : RdX w b ts s) : Calls Tryz.prog 56 #[.pointer (some ⟨b, 0, none⟩), .string t] w (XEnd w b ts s (.bool false)) := by
 have := rdSkip_any t b ts s w h
 unfold xSkip at this
 rw [hs] at this
 exact this
theorem rdSkip_t {t : ByteArray} {b : Nat} {ts : List Tok} {s : St} (hs : xI ts s t = true) (w : World) (h : RdX w b ts s) : Calls Tryz.prog 56 #[.pointer (some ⟨b, 0, none⟩), .string t] w (XEnd w b ts (xStep s) (.bool true)) := by
 have := rdSkip_any t b ts s w h
 unfold xSkip at this
 rw [hs] at this
 exact this
theorem rdKind_b {k : Int} {b : Nat} {ts : List Tok} {s : St} {q : Bool} (hs : xK ts s k = q) (w : World) (h : RdX w b ts s) : Calls Tryz.prog 87 #[.pointer (some ⟨b, 0, none⟩), .int .i64 k] w fun e w' => e = .returned (.bool q) ∧ Below w.heap.size w w' := by
 rw [← hs]; exact rdKind_any k b ts s w h
set_option maxHeartbeats 1600000 in
theorem rdWord_any (k : Int) (b : Nat) (ts : List Tok) (st : St) (w : World) (h : RdX w b ts st) : Calls Tryz.prog 57 #[.pointer (some ⟨b, 0, none⟩), .int .i64 k] w (XEnd w b ts (zWs ts st k) (.string (zW ts st k))) := by
 cases hk : xK ts st k with
 | true =>
  have := rdWord_yes k b ts st w h hk
  unfold zWs zW
  rw [hk]
  exact this
 | false =>
  have HE : Hid (zWs ts st k = xFail ts st) := by show _ = _; unfold zWs; rw [hk]; rfl
  have HE2 : Hid (zW ts st k = ⟨#[]⟩) := by show _ = _; unfold zW; rw [hk]; rfl
  have HK := Lib.hid (rdKind_b (b := b) hk)
  have HF := Lib.hid (fun V h => rdFail_any b ts st V h)
  have HR := Lib.hid h
  clear h hk
  go_enter Tryz.func57, Tryz.ntmps57
  go_wp2_with fail
  go_at_call 87
  refine (HK.out _ HR.out).mono ?_
  rintro e w1 ⟨rfl, hb1⟩
  have HR1 := Lib.hid (HR.out.lift hb1)
  go_wp2_with fail
  go_at_call 88
  refine (HF.out _ HR1.out).mono ?_
  rintro e w2 ⟨rfl, hr2, hg2⟩
  go_wp2
  go_ret
  exact ⟨by rw [HE2.out]; rfl, by rw [HE.out]; exact hr2, grown_trans (below_grown_some hb1 b) hg2⟩
theorem zW_size {ts : List Tok} (hok : TkOk ts) (s : St) (k : Int) : (zW ts s k).size ≤ maxLen := by
 unfold zW
 split
 ·exact txt_size hok _
 ·exact Nat.zero_le _
def ZAt (fid : FuncId) (more : Array Value) (ts : List Tok) (s : St) (r : Option (Ex × St)) : Prop :=
 ∀ (T : Ex) (s' : St), r = some (T, s') → ∀ (b base : Nat) (w : World), b < base → base ≤ w.heap.size → RdX w b ts s →
  Calls Tryz.prog fid (#[.pointer (some ⟨b, 0, none⟩)] ++ more) w fun e w' => ∃ c, e = .returned (.agg (List.toArray c)) ∧ RepE w' (fun g => base ≤ g) T c ∧ RdX w' b ts s' ∧ w.grownBy w' (some b)
theorem xK_txt {ts : List Tok} (hv : TkVal ts) {s : St} {k : Int} (h : xK ts s k = true) : rkind (bl (txt ts s.i)) = k := by
 obtain ⟨h1, h2, h3⟩ := xK_good h
 obtain ⟨t, ht⟩ : ∃ x, ts[s.i]? = some x := ⟨_, List.getElem?_eq_getElem h2⟩
 unfold rKind at h3
 rw [ht] at h3
 rw [txt_some ht, bl_mk, hv t (List.mem_of_getElem? ht)]
 simpa using h3
def annC (p : Int) (n : Nat) (t0 t1 t2 t3 t4 : Value) : List Value := [.int .i64 9, .int .i64 p, .string ⟨#[]⟩, .int .i64 0, .slice (some ⟨n, 0, none⟩) 1 1, .slice none 0 0, t0, t1, t2, t3, t4]
theorem AX.annS {w v v' : World} {b R0 R1 : Nat} {ts : List Tok} {s : St} {c : List Value} {a : Ex} (h : AX w v b R0 R1 ts s c a) {T : Ty} {t0 t1 t2 t3 t4 : Value} (ht : Rep v (fun g => R1 < g) T (.agg #[t0, t1, t2, t3, t4])) (p : Int)
  (hB : BoxC 34 v' R1 (annC p v.heap.size t0 t1 t2 t3 t4)) (hg : (v.alloc (.cells c.toArray 34)).grownBy v' (some R1)) : AX w v' b R0 R1 ts s (annC p v.heap.size t0 t1 t2 t3 t4) (.mk 9 p ⟨#[]⟩ 0 T [a] []) := by
 have hb : Below v.heap.size v (v.alloc (.cells c.toArray 34)) := (Below.refl _ v).alloc (Nat.le_refl _) _
 have h01 := h.eb.h1
 have hlt := h.eb.lt
 have hk := one_newE h.rep 34 v.heap.size rfl (S' := fun g => R0 < g ∧ g ≠ R1) (fun _ h => h) ⟨by omega, by omega⟩
 have ht2 := (ht.lift hb).imp (S' := fun g => R0 < g ∧ g ≠ R1) (fun g hg => ⟨by omega, by omega⟩)
 exact ⟨(h.eb.lift hb).row hB hg, repE_ann (tc := [t0, t1, t2, t3, t4]) p (hk.kept (fun _ h => h) (fun g h1 hl => hg.block g hl (by intro e; exact h1.2 (Option.some.inj e)))) (ht2.kept (fun _ h => h) (fun g h1 hl => hg.block g hl (by intro e; exact h1.2 (Option.some.inj e))))⟩
set_option maxRecDepth 100000 in
set_option maxHeartbeats 6400000 in
theorem zAtom_of (ts : List Tok) (hok : TkOk ts) (hv : TkVal ts) (s : St) (f : Nat) (hf : f ≤ 900000) (hl : ts.length ≤ 200000) (H : ∀ g, g ≤ f → ∀ s, ZAt 32 #[] ts s (zRead g ts s)) : ZAt 60 #[] ts s (zAtom (f + 1) ts s) := by
 intro T j hr b base w hbb hbase h
 unfold zAtom at hr
 have HR := Lib.hid h
 have HP0 := Lib.hid (PX.start HR.out)
 have hsz0 : w.heap.size < (w.alloc (.cells #[.int .i64 0, .int .i64 0, .string ⟨#[]⟩, .int .i64 0, .slice none 0 0, .slice none 0 0, .int .i64 0, .string ⟨#[]⟩, .int .i64 0, .int .i64 0, .slice none 0 0] 34)).heap.size := by simp
 have HPos := Lib.hid (fun (V : World) (h : RdX V b ts s) => rdPos_any b ts s V h)
 generalize tkP ts s.i = p at *
 clear h
 cases h1 : xK ts s 1 with
 | true =>
  rw [h1] at hr
  simp only [if_true, Option.some.injEq, Prod.mk.injEq] at hr
  obtain ⟨rfl, rfl⟩ := hr
  have HK1 := Lib.hid (rdKind_b (b := b) h1)
  have HW := Lib.hid (fun (V : World) (h : RdX V b ts s) => rdWord_yes 1 b ts s V h h1)
  have HS := Lib.hid (txt_size hok s.i)
  clear h1 H
  generalize txt ts s.i = tx at *
  go_enter Tryz.func60, Tryz.ntmps60
  go_wp2_with fail
  go_at_call 55
  generalize (w.alloc (.cells #[.int .i64 0, .int .i64 0, .string ⟨#[]⟩, .int .i64 0, .slice none 0 0, .slice none 0 0, .int .i64 0, .string ⟨#[]⟩, .int .i64 0, .int .i64 0, .slice none 0 0] 34)) = w0 at *
  refine (HPos.out _ HP0.out.rd).mono ?_
  rintro e w1 ⟨rfl, hb1⟩
  have HP1 := Lib.hid (HP0.out.lift hb1)
  have hz1 := Nat.lt_of_lt_of_le hsz0 hb1.size
  clear hb1 hsz0
  go_wp2_with fail
  go_at_call 87
  refine (HK1.out _ HP1.out.rd).mono ?_
  rintro e w2 ⟨rfl, hb2⟩
  have HP2 := Lib.hid (HP1.out.lift hb2)
  clear hb2
  go_wp2_with fail
  go_at_call 57
  refine (HW.out _ HP2.out.rd).mono ?_
  rintro e w3 ⟨rfl, hr3, hg3⟩
  have HP3 := Lib.hid (HP2.out.call hr3 hg3)
  clear hr3 hg3
  have HRes := Lib.hid (repE_leaf w3 (fun g => w.heap.size < g) 1 p tx 0 HS.out)
  go_wp2_with (refine wpList_storeC rfl _ _ rfl _ _ _ HP3.out.res rfl rfl HRes.out.size HRes.out.len0 HRes.out.len.2 ?_; intro v8 hB8 hg8 hs8)
  obtain ⟨e0, e1, e2, e3, e4, e5, e6, e7, e8, e9, e10⟩ := hB8.all11
  refine bodyPost_ret (by simp [results, Tryz.results60, go_sem, e0, e1, e2, e3, e4, e5, e6, e7, e8, e9, e10]; try rfl) rfl ?_
  exact ⟨_, rfl, HP3.out.ret HRes.out hbase hg8⟩
 | false =>
  rw [h1] at hr
  simp only [Bool.false_eq_true, if_false] at hr
  cases h2 : xK ts s 2 with
  | true =>
   rw [h2] at hr
   simp only [if_true, Option.some.injEq, Prod.mk.injEq] at hr
   obtain ⟨rfl, rfl⟩ := hr
   have HK1 := Lib.hid (rdKind_b (b := b) h1)
   have HK2 := Lib.hid (rdKind_b (b := b) h2)
   have HW := Lib.hid (fun (V : World) (h : RdX V b ts s) => rdWord_yes 2 b ts s V h h2)
   have HS := Lib.hid (txt_size hok s.i)
   clear h1 h2 H
   generalize txt ts s.i = tx at *
   go_enter Tryz.func60, Tryz.ntmps60
   go_wp2_with fail
   go_at_call 55
   generalize (w.alloc (.cells #[.int .i64 0, .int .i64 0, .string ⟨#[]⟩, .int .i64 0, .slice none 0 0, .slice none 0 0, .int .i64 0, .string ⟨#[]⟩, .int .i64 0, .int .i64 0, .slice none 0 0] 34)) = w0 at *
   refine (HPos.out _ HP0.out.rd).mono ?_
   rintro e w1 ⟨rfl, hb1⟩
   have HP1 := Lib.hid (HP0.out.lift hb1)
   have hz1 := Nat.lt_of_lt_of_le hsz0 hb1.size
   clear hb1 hsz0
   go_wp2_with fail
   go_at_call 87
   refine (HK1.out _ HP1.out.rd).mono ?_
   rintro e w2 ⟨rfl, hb2⟩
   have HP2 := Lib.hid (HP1.out.lift hb2)
   clear hb2
   go_wp2_with fail
   go_at_call 87
   refine (HK2.out _ HP2.out.rd).mono ?_
   rintro e w3 ⟨rfl, hb3⟩
   have HP3 := Lib.hid (HP2.out.lift hb3)
   clear hb3
   go_wp2_with fail
   go_at_call 57
   refine (HW.out _ HP3.out.rd).mono ?_
   rintro e w4 ⟨rfl, hr4, hg4⟩
   have HP4 := Lib.hid (HP3.out.call hr4 hg4)
   clear hr4 hg4
   have HRes := Lib.hid (repE_leaf w4 (fun g => w.heap.size < g) 2 p tx 0 HS.out)
   go_wp2_with (refine wpList_storeC rfl _ _ rfl _ _ _ HP4.out.res rfl rfl HRes.out.size HRes.out.len0 HRes.out.len.2 ?_; intro v8 hB8 hg8 hs8)
   obtain ⟨e0, e1, e2, e3, e4, e5, e6, e7, e8, e9, e10⟩ := hB8.all11
   refine bodyPost_ret (by simp [results, Tryz.results60, go_sem, e0, e1, e2, e3, e4, e5, e6, e7, e8, e9, e10]; try rfl) rfl ?_
   exact ⟨_, rfl, HP4.out.ret HRes.out hbase hg8⟩
  | false =>
   rw [h2] at hr
   simp only [Bool.false_eq_true, if_false] at hr
   cases h3 : xK ts s 3 with
   | true =>
    rw [h3] at hr
    simp only [if_true, Option.some.injEq, Prod.mk.injEq] at hr
    obtain ⟨rfl, rfl⟩ := hr
    have HK1 := Lib.hid (rdKind_b (b := b) h1)
    have HK2 := Lib.hid (rdKind_b (b := b) h2)
    have HK3 := Lib.hid (rdKind_b (b := b) h3)
    have HW := Lib.hid (fun (V : World) (h : RdX V b ts s) => rdWord_yes 3 b ts s V h h3)
    have HS := Lib.hid (txt_size hok s.i)
    have HN := Lib.hid (fun (V : World) => rNum_any (txt ts s.i) V (xK_txt hv h3))
    clear h1 h2 h3 H
    generalize numB (txt ts s.i) = nb at *
    generalize txt ts s.i = tx at *
    go_enter Tryz.func60, Tryz.ntmps60
    go_wp2_with fail
    go_at_call 55
    generalize (w.alloc (.cells #[.int .i64 0, .int .i64 0, .string ⟨#[]⟩, .int .i64 0, .slice none 0 0, .slice none 0 0, .int .i64 0, .string ⟨#[]⟩, .int .i64 0, .int .i64 0, .slice none 0 0] 34)) = w0 at *
    refine (HPos.out _ HP0.out.rd).mono ?_
    rintro e w1 ⟨rfl, hb1⟩
    have HP1 := Lib.hid (HP0.out.lift hb1)
    have hz1 := Nat.lt_of_lt_of_le hsz0 hb1.size
    clear hb1 hsz0
    go_wp2_with fail
    go_at_call 87
    refine (HK1.out _ HP1.out.rd).mono ?_
    rintro e w2 ⟨rfl, hb2⟩
    have HP2 := Lib.hid (HP1.out.lift hb2)
    clear hb2
    go_wp2_with fail
    go_at_call 87
    refine (HK2.out _ HP2.out.rd).mono ?_
    rintro e w3 ⟨rfl, hb3⟩
    have HP3 := Lib.hid (HP2.out.lift hb3)
    clear hb3
    go_wp2_with fail
    go_at_call 87
    refine (HK3.out _ HP3.out.rd).mono ?_
    rintro e w4 ⟨rfl, hb4⟩
    have HP4 := Lib.hid (HP3.out.lift hb4)
    clear hb4
    go_wp2_with fail
    go_at_call 57
    refine (HW.out _ HP4.out.rd).mono ?_
    rintro e w5 ⟨rfl, hr5, hg5⟩
    have HP5 := Lib.hid (HP4.out.call hr5 hg5)
    clear hr5 hg5
    go_wp2_with fail
    go_at_call 89
    refine (HN.out _).mono ?_
    rintro e w' ⟨rfl, rfl⟩
    have HRes := Lib.hid (repE_leaf w5 (fun g => w.heap.size < g) 3 p ⟨#[]⟩ nb (Nat.zero_le _))
    go_wp2_with (refine wpList_storeC rfl _ _ rfl _ _ _ HP5.out.res rfl rfl HRes.out.size HRes.out.len0 HRes.out.len.2 ?_; intro v8 hB8 hg8 hs8)
    obtain ⟨e0, e1, e2, e3, e4, e5, e6, e7, e8, e9, e10⟩ := hB8.all11
    refine bodyPost_ret (by simp [results, Tryz.results60, go_sem, e0, e1, e2, e3, e4, e5, e6, e7, e8, e9, e10]; try rfl) rfl ?_
    exact ⟨_, rfl, HP5.out.ret HRes.out hbase hg8⟩
   | false =>
    rw [h3] at hr
    simp only [Bool.false_eq_true, if_false] at hr
    have HK1 := Lib.hid (rdKind_b (b := b) h1)
    have HK2 := Lib.hid (rdKind_b (b := b) h2)
    have HK3 := Lib.hid (rdKind_b (b := b) h3)
    cases h4 : xI ts s ⟨#[63]⟩ with
    | true =>
     rw [h4] at hr
     simp only [if_true, Option.some.injEq, Prod.mk.injEq] at hr
     obtain ⟨rfl, rfl⟩ := hr
     have HS1 := Lib.hid (rdSkip_t (b := b) h4)
     clear h1 h2 h3 h4 H
     go_enter Tryz.func60, Tryz.ntmps60
     go_wp2_with fail
     go_at_call 55
     generalize (w.alloc (.cells #[.int .i64 0, .int .i64 0, .string ⟨#[]⟩, .int .i64 0, .slice none 0 0, .slice none 0 0, .int .i64 0, .string ⟨#[]⟩, .int .i64 0, .int .i64 0, .slice none 0 0] 34)) = w0 at *
     refine (HPos.out _ HP0.out.rd).mono ?_
     rintro e w1 ⟨rfl, hb1⟩
     have HP1 := Lib.hid (HP0.out.lift hb1)
     have hz1 := Nat.lt_of_lt_of_le hsz0 hb1.size
     clear hb1 hsz0
     go_wp2_with fail
     go_at_call 87
     refine (HK1.out _ HP1.out.rd).mono ?_
     rintro e w2 ⟨rfl, hb2⟩
     have HP2 := Lib.hid (HP1.out.lift hb2)
     clear hb2
     go_wp2_with fail
     go_at_call 87
     refine (HK2.out _ HP2.out.rd).mono ?_
     rintro e w3 ⟨rfl, hb3⟩
     have HP3 := Lib.hid (HP2.out.lift hb3)
     clear hb3
     go_wp2_with fail
     go_at_call 87
     refine (HK3.out _ HP3.out.rd).mono ?_
     rintro e w4 ⟨rfl, hb4⟩
     have HP4 := Lib.hid (HP3.out.lift hb4)
     clear hb4
     go_wp2_with fail
     go_at_call 56
     refine (HS1.out _ HP4.out.rd).mono ?_
     rintro e w5 ⟨rfl, hr5, hg5⟩
     have HP5 := Lib.hid (HP4.out.call hr5 hg5)
     clear hr5 hg5
     have HRes := Lib.hid (repE_leaf w5 (fun g => w.heap.size < g) 10 p ⟨#[]⟩ 0 (Nat.zero_le _))
     go_wp2_with (refine wpList_storeC rfl _ _ rfl _ _ _ HP5.out.res rfl rfl HRes.out.size HRes.out.len0 HRes.out.len.2 ?_; intro v8 hB8 hg8 hs8)
     obtain ⟨e0, e1, e2, e3, e4, e5, e6, e7, e8, e9, e10⟩ := hB8.all11
     refine bodyPost_ret (by simp [results, Tryz.results60, go_sem, e0, e1, e2, e3, e4, e5, e6, e7, e8, e9, e10]; try rfl) rfl ?_
     exact ⟨_, rfl, HP5.out.ret HRes.out hbase hg8⟩
    | false =>
     rw [h4] at hr
     simp only [Bool.false_eq_true, if_false] at hr
     have HS1 := Lib.hid (rdSkip_f (b := b) h4)
     clear h4
     cases h5 : xI ts s ⟨#[123]⟩ with
     | true =>
      rw [h5] at hr
      simp only [if_true] at hr
      have HS2 := Lib.hid (rdSkip_t (b := b) h5)
      clear h1 h2 h3 h5
      obtain ⟨f, rfl⟩ : ∃ g, f = g + 1 := by
       cases f with
       | zero => simp [zHeld] at hr
       | succ f => exact ⟨f, rfl⟩
      unfold zHeld at hr
      generalize xStep s = s1 at *
      cases hE : zRead f ts s1 with
      | none => rw [hE] at hr; simp at hr
      | some q =>
       obtain ⟨a, s2⟩ := q
       rw [hE] at hr
       simp only [Option.some.injEq, Prod.mk.injEq] at hr
       obtain ⟨rfl, rfl⟩ := hr
       have HE := Lib.hid (fun (V : World) (h : RdX V b ts s1) => H f (by omega) s1 a s2 hE b V.heap.size V h.lt (Nat.le_refl _) h)
       have HN := Lib.hid (fun (V : World) (h : RdX V b ts s2) => rdNeed_any ⟨#[125]⟩ b ts s2 V h)
       clear hE H
       generalize xNeed ts s2 ⟨#[125]⟩ = s3 at *
       go_enter Tryz.func60, Tryz.ntmps60
       go_wp2_with fail
       go_at_call 55
       generalize (w.alloc (.cells #[.int .i64 0, .int .i64 0, .string ⟨#[]⟩, .int .i64 0, .slice none 0 0, .slice none 0 0, .int .i64 0, .string ⟨#[]⟩, .int .i64 0, .int .i64 0, .slice none 0 0] 34)) = w0 at *
       refine (HPos.out _ HP0.out.rd).mono ?_
       rintro e w1 ⟨rfl, hb1⟩
       have HP1 := Lib.hid (HP0.out.lift hb1)
       have hz1 := Nat.lt_of_lt_of_le hsz0 hb1.size
       clear hb1 hsz0
       go_wp2_with fail
       go_at_call 87
       refine (HK1.out _ HP1.out.rd).mono ?_
       rintro e w2 ⟨rfl, hb2⟩
       have HP2 := Lib.hid (HP1.out.lift hb2)
       clear hb2
       go_wp2_with fail
       go_at_call 87
       refine (HK2.out _ HP2.out.rd).mono ?_
       rintro e w3 ⟨rfl, hb3⟩
       have HP3 := Lib.hid (HP2.out.lift hb3)
       clear hb3
       go_wp2_with fail
       go_at_call 87
       refine (HK3.out _ HP3.out.rd).mono ?_
       rintro e w4 ⟨rfl, hb4⟩
       have HP4 := Lib.hid (HP3.out.lift hb4)
       clear hb4
       go_wp2_with fail
       go_at_call 56
       refine (HS1.out _ HP4.out.rd).mono ?_
       rintro e w5 ⟨rfl, hr5, hg5⟩
       have HP5 := Lib.hid (HP4.out.call hr5 hg5)
       clear hr5 hg5
       go_wp2_with fail
       go_at_call 56
       refine (HS2.out _ HP5.out.rd).mono ?_
       rintro e w6 ⟨rfl, hr6, hg6⟩
       have HP6 := Lib.hid (HP5.out.call hr6 hg6)
       clear hr6 hg6
       go_wp2_with fail
       go_at_call 32
       refine (HE.out _ HP6.out.rd).mono ?_
       rintro e w7 ⟨c, rfl, hrep, hr7, hg7⟩
       obtain ⟨ka, kc, aa, ac, tk, tn, ti, th, ta, tl, tc, rfl⟩ := hrep.form
       have HPc := Lib.hid (HP6.out.call hr7 hg7)
       have HB0 := Lib.hid (HPc.out.mk' [.int .i64 a.k, .int .i64 a.p, .string a.n, .int .i64 a.m, .slice ka a.kids.length kc, .slice aa a.arms.length ac, .int .i64 tk, .string tn, .int .i64 ti, .int .i64 th, .slice ta tl tc])
       have HRp0 := Lib.hid ((hrep.imp_lt HP6.out.res.lt).lift ((Below.refl _ w7).alloc (Nat.le_refl _) (.cells #[.int .i64 a.k, .int .i64 a.p, .string a.n, .int .i64 a.m, .slice ka a.kids.length kc, .slice aa a.arms.length ac, .int .i64 tk, .string tn, .int .i64 ti, .int .i64 th, .slice ta tl tc] 34)))
       clear hrep hr7 hg7
       go_wp2_with fail
       go_at_call 58
       generalize (w7.alloc (.cells #[.int .i64 a.k, .int .i64 a.p, .string a.n, .int .i64 a.m, .slice ka a.kids.length kc, .slice aa a.arms.length ac, .int .i64 tk, .string tn, .int .i64 ti, .int .i64 th, .slice ta tl tc] 34)) = v7 at *
       generalize w7.heap.size = R1 at *
       refine (HN.out _ HB0.out.rd).mono ?_
       rintro e w8 ⟨rfl, hr8, hg8'⟩
       have HB8 := Lib.hid (HB0.out.call hr8 hg8')
       have HRp8 := Lib.hid (HB0.out.pb.far HRp0.out hg8')
       have HP8 := Lib.hid HB8.out.pb
       clear hr8 hg8' HRp0 HB0
       obtain ⟨d0, d1, d2, d3, d4, d5, d6, d7, d8, d9, d10⟩ := HB8.out.box.all11
       have HK := Lib.hid (one_newE (S' := fun g => w.heap.size < g) HRp8.out 34 w8.heap.size rfl (fun _ hg => hg) HP8.out.res.lt)
       have HB4 := Lib.hid (HP8.out.lift ((Below.refl _ w8).alloc (Nat.le_refl _) (.cells #[.int .i64 a.k, .int .i64 a.p, .string a.n, .int .i64 a.m, .slice ka a.kids.length kc, .slice aa a.arms.length ac, .int .i64 tk, .string tn, .int .i64 ti, .int .i64 th, .slice ta tl tc] 34)))
       have HRes := Lib.hid (repE_kids (S := fun g => w.heap.size < g) 11 p ⟨#[]⟩ 0 (Nat.zero_le _) HK.out)
       go_wp2_with (refine wpList_storeC rfl _ _ rfl _ _ _ HB4.out.res rfl rfl HRes.out.size HRes.out.len0 HRes.out.len.2 ?_; intro v8 hB8 hg8 hs8)
       obtain ⟨e0, e1, e2, e3, e4, e5, e6, e7, e8, e9, e10⟩ := hB8.all11
       refine bodyPost_ret (by simp [results, Tryz.results60, go_sem, e0, e1, e2, e3, e4, e5, e6, e7, e8, e9, e10]; try rfl) rfl ?_
       exact ⟨_, rfl, HB4.out.ret HRes.out hbase hg8⟩
     | false =>
      rw [h5] at hr
      simp only [Bool.false_eq_true, if_false] at hr
      have HS2 := Lib.hid (rdSkip_f (b := b) h5)
      clear h1 h2 h3 h5
      have HN1 := Lib.hid (fun (V : World) (h : RdX V b ts s) => rdNeed_any ⟨#[40]⟩ b ts s V h)
      generalize xNeed ts s ⟨#[40]⟩ = s1 at *
      obtain ⟨i1, q1, p1⟩ := s1
      dsimp only at hr
      cases q1 with
      | true =>
       simp only [if_true, Option.some.injEq, Prod.mk.injEq] at hr
       obtain ⟨rfl, rfl⟩ := hr
       clear H
       go_enter Tryz.func60, Tryz.ntmps60
       go_wp2_with fail
       go_at_call 55
       generalize (w.alloc (.cells #[.int .i64 0, .int .i64 0, .string ⟨#[]⟩, .int .i64 0, .slice none 0 0, .slice none 0 0, .int .i64 0, .string ⟨#[]⟩, .int .i64 0, .int .i64 0, .slice none 0 0] 34)) = w0 at *
       refine (HPos.out _ HP0.out.rd).mono ?_
       rintro e w1 ⟨rfl, hb1⟩
       have HP1 := Lib.hid (HP0.out.lift hb1)
       have hz1 := Nat.lt_of_lt_of_le hsz0 hb1.size
       clear hb1 hsz0
       go_wp2_with fail
       go_at_call 87
       refine (HK1.out _ HP1.out.rd).mono ?_
       rintro e w2 ⟨rfl, hb2⟩
       have HP2 := Lib.hid (HP1.out.lift hb2)
       clear hb2
       go_wp2_with fail
       go_at_call 87
       refine (HK2.out _ HP2.out.rd).mono ?_
       rintro e w3 ⟨rfl, hb3⟩
       have HP3 := Lib.hid (HP2.out.lift hb3)
       clear hb3
       go_wp2_with fail
       go_at_call 87
       refine (HK3.out _ HP3.out.rd).mono ?_
       rintro e w4 ⟨rfl, hb4⟩
       have HP4 := Lib.hid (HP3.out.lift hb4)
       clear hb4
       go_wp2_with fail
       go_at_call 56
       refine (HS1.out _ HP4.out.rd).mono ?_
       rintro e w5 ⟨rfl, hr5, hg5⟩
       have HP5 := Lib.hid (HP4.out.call hr5 hg5)
       clear hr5 hg5
       go_wp2_with fail
       go_at_call 56
       refine (HS2.out _ HP5.out.rd).mono ?_
       rintro e w6 ⟨rfl, hr6, hg6⟩
       have HP6 := Lib.hid (HP5.out.call hr6 hg6)
       clear hr6 hg6
       go_wp2_with fail
       go_at_call 58
       refine (HN1.out _ HP6.out.rd).mono ?_
       rintro e w7 ⟨rfl, hr7, hg7⟩
       have HP7 := Lib.hid (HP6.out.call hr7 hg7)
       clear hr7 hg7
       obtain ⟨lv, hrd, -⟩ := HP7.out.rd
       obtain ⟨r0, r1, r2, -⟩ := hrd.cells
       clear hrd
       have HRes := Lib.hid (repE_zero w7 (fun g => w.heap.size < g))
       go_wp2_with (refine wpList_storeC rfl _ _ rfl _ _ _ HP7.out.res rfl rfl HRes.out.size HRes.out.len0 HRes.out.len.2 ?_; intro v8 hB8 hg8 hs8)
       obtain ⟨e0, e1, e2, e3, e4, e5, e6, e7, e8, e9, e10⟩ := hB8.all11
       refine bodyPost_ret (by simp [results, Tryz.results60, go_sem, e0, e1, e2, e3, e4, e5, e6, e7, e8, e9, e10]; try rfl) rfl ?_
       exact ⟨_, rfl, HP7.out.ret HRes.out hbase hg8⟩
      | false =>
       simp only [Bool.false_eq_true, if_false] at hr
       obtain ⟨f, rfl⟩ : ∃ g, f = g + 1 := by
        cases f with
        | zero => simp [zEnc] at hr
        | succ f => exact ⟨f, rfl⟩
       unfold zEnc at hr
       cases hE : zRead f ts ⟨i1, false, p1⟩ with
       | none => rw [hE] at hr; simp at hr
       | some q =>
        obtain ⟨a, s2⟩ := q
        rw [hE] at hr
        dsimp only at hr
        have HE := Lib.hid (fun (V : World) (h : RdX V b ts ⟨i1, false, p1⟩) => H f (by omega) _ a s2 hE b V.heap.size V h.lt (Nat.le_refl _) h)
        clear hE H
        cases hq : xI ts s2 ⟨#[58]⟩ with
        | false =>
         rw [hq] at hr
         simp only [Bool.false_eq_true, if_false, Option.some.injEq, Prod.mk.injEq] at hr
         obtain ⟨rfl, rfl⟩ := hr
         have HS3 := Lib.hid (rdSkip_f (b := b) hq)
         have HN2 := Lib.hid (fun (V : World) (h : RdX V b ts s2) => rdNeed_any ⟨#[41]⟩ b ts s2 V h)
         clear hq
         generalize xNeed ts s2 ⟨#[41]⟩ = s3 at *
         go_enter Tryz.func60, Tryz.ntmps60
         go_wp2_with fail
         go_at_call 55
         generalize (w.alloc (.cells #[.int .i64 0, .int .i64 0, .string ⟨#[]⟩, .int .i64 0, .slice none 0 0, .slice none 0 0, .int .i64 0, .string ⟨#[]⟩, .int .i64 0, .int .i64 0, .slice none 0 0] 34)) = w0 at *
         refine (HPos.out _ HP0.out.rd).mono ?_
         rintro e w1 ⟨rfl, hb1⟩
         have HP1 := Lib.hid (HP0.out.lift hb1)
         have hz1 := Nat.lt_of_lt_of_le hsz0 hb1.size
         clear hb1 hsz0
         go_wp2_with fail
         go_at_call 87
         refine (HK1.out _ HP1.out.rd).mono ?_
         rintro e w2 ⟨rfl, hb2⟩
         have HP2 := Lib.hid (HP1.out.lift hb2)
         clear hb2
         go_wp2_with fail
         go_at_call 87
         refine (HK2.out _ HP2.out.rd).mono ?_
         rintro e w3 ⟨rfl, hb3⟩
         have HP3 := Lib.hid (HP2.out.lift hb3)
         clear hb3
         go_wp2_with fail
         go_at_call 87
         refine (HK3.out _ HP3.out.rd).mono ?_
         rintro e w4 ⟨rfl, hb4⟩
         have HP4 := Lib.hid (HP3.out.lift hb4)
         clear hb4
         go_wp2_with fail
         go_at_call 56
         refine (HS1.out _ HP4.out.rd).mono ?_
         rintro e w5 ⟨rfl, hr5, hg5⟩
         have HP5 := Lib.hid (HP4.out.call hr5 hg5)
         clear hr5 hg5
         go_wp2_with fail
         go_at_call 56
         refine (HS2.out _ HP5.out.rd).mono ?_
         rintro e w6 ⟨rfl, hr6, hg6⟩
         have HP6 := Lib.hid (HP5.out.call hr6 hg6)
         clear hr6 hg6
         go_wp2_with fail
         go_at_call 58
         refine (HN1.out _ HP6.out.rd).mono ?_
         rintro e w7 ⟨rfl, hr7, hg7⟩
         have HP7 := Lib.hid (HP6.out.call hr7 hg7)
         clear hr7 hg7
         obtain ⟨lv, hrd, -⟩ := HP7.out.rd
         obtain ⟨r0, r1, r2, -⟩ := hrd.cells
         clear hrd
         go_wp2_with fail
         go_at_call 32
         refine (HE.out _ HP7.out.rd).mono ?_
         rintro e w8 ⟨c, rfl, hrep, hr8, hg8⟩
         obtain ⟨ka, kc, aa, ac, tk, tn, ti, th, ta, tl, tc, rfl⟩ := hrep.form
         clear r0 r1 r2
         have HA0 := Lib.hid (AX.mk' (HP7.out.call hr8 hg8) (hrep.imp_lt HP7.out.res.lt))
         clear hrep hr8 hg8
         go_wp2_with fail
         go_at_call 56
         generalize (w8.alloc (.cells #[.int .i64 a.k, .int .i64 a.p, .string a.n, .int .i64 a.m, .slice ka a.kids.length kc, .slice aa a.arms.length ac, .int .i64 tk, .string tn, .int .i64 ti, .int .i64 th, .slice ta tl tc] 34)) = v8 at *
         generalize w8.heap.size = R1 at *
         refine (HS3.out _ HA0.out.eb.rd).mono ?_
         rintro e w9 ⟨rfl, hr9, hg9⟩
         have HA9 := Lib.hid (HA0.out.call hr9 hg9)
         clear hr9 hg9 HA0
         go_wp2_with fail
         go_at_call 58
         refine (HN2.out _ HA9.out.eb.rd).mono ?_
         rintro e w10 ⟨rfl, hr10, hg10⟩
         have HA10 := Lib.hid (HA9.out.call hr10 hg10)
         clear hr10 hg10 HA9
         obtain ⟨d0, d1, d2, d3, d4, d5, d6, d7, d8, d9, d10⟩ := HA10.out.eb.box.all11
         go_wp2_with (refine wpList_storeC rfl _ _ rfl _ _ _ HA10.out.eb.res rfl rfl HA10.out.rep.size HA10.out.rep.len0 HA10.out.rep.len.2 ?_; intro v8 hB8 hg8 hs8)
         obtain ⟨e0, e1, e2, e3, e4, e5, e6, e7, e8, e9, e10⟩ := hB8.all11
         refine bodyPost_ret (by simp [results, Tryz.results60, go_sem, e0, e1, e2, e3, e4, e5, e6, e7, e8, e9, e10]; try rfl) rfl ?_
         exact ⟨_, rfl, HA10.out.ret hbase hg8⟩
        | true =>
         rw [hq] at hr
         simp only [if_true] at hr
         have HS3 := Lib.hid (rdSkip_t (b := b) hq)
         clear hq
         generalize xStep s2 = s3 at *
         cases hT : xType (3 * ts.length + 3) ts s3 with
         | none => rw [hT] at hr; simp at hr
         | some q =>
          obtain ⟨ty, s4⟩ := q
          rw [hT] at hr
          simp only [Option.some.injEq, Prod.mk.injEq] at hr
          obtain ⟨rfl, rfl⟩ := hr
          have HTy := Lib.hid (fun (V : World) (h : RdX V b ts s3) => xtype_any ts hok (3 * ts.length + 3) (by omega) s3 ty s4 hT b V.heap.size V h.lt (Nat.le_refl _) h)
          have HN2 := Lib.hid (fun (V : World) (h : RdX V b ts s4) => rdNeed_any ⟨#[41]⟩ b ts s4 V h)
          clear hT
          generalize xNeed ts s4 ⟨#[41]⟩ = s5 at *
          go_enter Tryz.func60, Tryz.ntmps60
          go_wp2_with fail
          go_at_call 55
          generalize (w.alloc (.cells #[.int .i64 0, .int .i64 0, .string ⟨#[]⟩, .int .i64 0, .slice none 0 0, .slice none 0 0, .int .i64 0, .string ⟨#[]⟩, .int .i64 0, .int .i64 0, .slice none 0 0] 34)) = w0 at *
          refine (HPos.out _ HP0.out.rd).mono ?_
          rintro e w1 ⟨rfl, hb1⟩
          have HP1 := Lib.hid (HP0.out.lift hb1)
          have hz1 := Nat.lt_of_lt_of_le hsz0 hb1.size
          clear hb1 hsz0
          go_wp2_with fail
          go_at_call 87
          refine (HK1.out _ HP1.out.rd).mono ?_
          rintro e w2 ⟨rfl, hb2⟩
          have HP2 := Lib.hid (HP1.out.lift hb2)
          clear hb2
          go_wp2_with fail
          go_at_call 87
          refine (HK2.out _ HP2.out.rd).mono ?_
          rintro e w3 ⟨rfl, hb3⟩
          have HP3 := Lib.hid (HP2.out.lift hb3)
          clear hb3
          go_wp2_with fail
          go_at_call 87
          refine (HK3.out _ HP3.out.rd).mono ?_
          rintro e w4 ⟨rfl, hb4⟩
          have HP4 := Lib.hid (HP3.out.lift hb4)
          clear hb4
          go_wp2_with fail
          go_at_call 56
          refine (HS1.out _ HP4.out.rd).mono ?_
          rintro e w5 ⟨rfl, hr5, hg5⟩
          have HP5 := Lib.hid (HP4.out.call hr5 hg5)
          clear hr5 hg5
          go_wp2_with fail
          go_at_call 56
          refine (HS2.out _ HP5.out.rd).mono ?_
          rintro e w6 ⟨rfl, hr6, hg6⟩
          have HP6 := Lib.hid (HP5.out.call hr6 hg6)
          clear hr6 hg6
          go_wp2_with fail
          go_at_call 58
          refine (HN1.out _ HP6.out.rd).mono ?_
          rintro e w7 ⟨rfl, hr7, hg7⟩
          have HP7 := Lib.hid (HP6.out.call hr7 hg7)
          clear hr7 hg7
          obtain ⟨lv, hrd, -⟩ := HP7.out.rd
          obtain ⟨r0, r1, r2, -⟩ := hrd.cells
          clear hrd
          go_wp2_with fail
          go_at_call 32
          refine (HE.out _ HP7.out.rd).mono ?_
          rintro e w8 ⟨c, rfl, hrep, hr8, hg8⟩
          obtain ⟨ka, kc, aa, ac, tk, tn, ti, th, ta, tl, tc, rfl⟩ := hrep.form
          clear r0 r1 r2
          have HA0 := Lib.hid (AX.mk' (HP7.out.call hr8 hg8) (hrep.imp_lt HP7.out.res.lt))
          clear hrep hr8 hg8
          go_wp2_with fail
          go_at_call 56
          generalize (w8.alloc (.cells #[.int .i64 a.k, .int .i64 a.p, .string a.n, .int .i64 a.m, .slice ka a.kids.length kc, .slice aa a.arms.length ac, .int .i64 tk, .string tn, .int .i64 ti, .int .i64 th, .slice ta tl tc] 34)) = v8 at *
          generalize w8.heap.size = R1 at *
          refine (HS3.out _ HA0.out.eb.rd).mono ?_
          rintro e w9 ⟨rfl, hr9, hg9⟩
          have HA9 := Lib.hid (HA0.out.call hr9 hg9)
          clear hr9 hg9 HA0
          go_wp2_with fail
          go_at_call 90
          refine (HTy.out _ HA9.out.eb.rd).mono ?_
          rintro e w10 ⟨u, rfl, hrept, hr10, hg10⟩
          obtain ⟨uk, un, ui, uh, ua, um, uc, rfl⟩ := hrept.form
          have HA10 := Lib.hid (HA9.out.call hr10 hg10)
          have HRt := Lib.hid (hrept.imp (S' := fun g => R1 < g) (fun _ hg => Nat.lt_of_lt_of_le HA9.out.eb.lt hg))
          clear hr10 hg10 hrept HA9
          go_upto_region 20 with fail
          have hb11 : Below w10.heap.size w10 (w10.alloc (.cells #[.int .i64 uk, .string un, .int .i64 ui, .int .i64 uh, .slice ua um uc] 32)) := (Below.refl _ w10).alloc (Nat.le_refl _) _
          have HA11 := Lib.hid (HA10.out.lift hb11)
          have HRt11 := Lib.hid (HRt.out.lift hb11)
          have HTB := Lib.hid (Box.made w10 (.int .i64 uk) (.string un) (.int .i64 ui) (.int .i64 uh) (.slice ua um uc))
          clear hb11 HA10 HRt
          generalize (w10.alloc (.cells #[.int .i64 uk, .string un, .int .i64 ui, .int .i64 uh, .slice ua um uc] 32)) = v11 at *
          generalize w10.heap.size = B6 at *
          have hb12 : Below v11.heap.size v11 (v11.alloc (.cells #[.int .i64 a.k, .int .i64 a.p, .string a.n, .int .i64 a.m, .slice ka a.kids.length kc, .slice aa a.arms.length ac, .int .i64 tk, .string tn, .int .i64 ti, .int .i64 th, .slice ta tl tc] 34)) := (Below.refl _ v11).alloc (Nat.le_refl _) _
          obtain ⟨t0, t1, t2, t3, t4⟩ := (Box.lift HTB.out hb12).cells
          have HB12 := Lib.hid (HA11.out.eb.lift hb12).box
          have HX : Hid (∀ v', BoxC 34 v' R1 (annC p v11.heap.size (.int .i64 uk) (.string un) (.int .i64 ui) (.int .i64 uh) (.slice ua um uc)) → (v11.alloc (.cells #[.int .i64 a.k, .int .i64 a.p, .string a.n, .int .i64 a.m, .slice ka a.kids.length kc, .slice aa a.arms.length ac, .int .i64 tk, .string tn, .int .i64 ti, .int .i64 th, .slice ta tl tc] 34)).grownBy v' (some R1) → AX w v' b w.heap.size R1 ts s4 (annC p v11.heap.size (.int .i64 uk) (.string un) (.int .i64 ui) (.int .i64 uh) (.slice ua um uc)) (.mk 9 p ⟨#[]⟩ 0 ty [a] [])) := fun v' h1 h2 => HA11.out.annS HRt11.out p h1 h2
          obtain ⟨d0, d1, d2, d3, d4, d5, d6, d7, d8, d9, d10⟩ := HA11.out.eb.box.all11
          clear hb12
          generalize a.k = ak at *
          generalize a.p = ap at *
          generalize a.n = an at *
          generalize a.m = am at *
          generalize a.kids.length = al at *
          generalize a.arms.length = ar at *
          go_wp2_with (refine wpList_storeC rfl _ _ rfl R1 _ (annC p v11.heap.size (.int .i64 uk) (.string un) (.int .i64 ui) (.int .i64 uh) (.slice ua um uc)) HB12.out rfl rfl sizeEx rfl (by intro u hu; simp [annC] at hu; rcases hu with h | h | h | h | h | h | h | h | h | h | h <;> subst h <;> rfl) ?_; intro v13 hB13 hg13 hs13)
          have HA13 := Lib.hid (HX.out v13 hB13 hg13)
          clear hB13 hg13 hs13 HX HB12 HA11 HRt11 HTB t0 t1 t2 t3 t4 d0 d1 d2 d3 d4 d5 d6 d7 d8 d9 d10
          refine (HN2.out _ HA13.out.eb.rd).mono ?_
          rintro e w14 ⟨rfl, hr14, hg14⟩
          have HA14 := Lib.hid (HA13.out.call hr14 hg14)
          clear hr14 hg14 HA13
          obtain ⟨d0, d1, d2, d3, d4, d5, d6, d7, d8, d9, d10⟩ := HA14.out.eb.box.all11
          go_wp2_with (refine wpList_storeC rfl _ _ rfl _ _ _ HA14.out.eb.res rfl rfl HA14.out.rep.size HA14.out.rep.len0 HA14.out.rep.len.2 ?_; intro v8 hB8 hg8 hs8)
          obtain ⟨e0, e1, e2, e3, e4, e5, e6, e7, e8, e9, e10⟩ := hB8.all11
          refine bodyPost_ret (by simp [results, Tryz.results60, go_sem, e0, e1, e2, e3, e4, e5, e6, e7, e8, e9, e10]; try rfl) rfl ?_
          exact ⟨_, rfl, HA14.out.ret hbase hg8⟩
end Go.Proofs.YtgcefodgjhlbeaaGreatDoor
