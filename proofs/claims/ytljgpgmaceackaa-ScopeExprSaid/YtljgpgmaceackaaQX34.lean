import Derived.Test.YtljgpgmaceackaaQX33
import Derived.Test.YtljgpgmaceackaaQX07
import Derived.Test.YtljgpgmaceackaaQX29
import Derived.Deep.LoopGhost
/- The reference's reader of expressions: words; an atom. -/
namespace Go.Proofs.Ytljgpgmaceackaa
open Go.RowKit Go.Maps Mth

theorem rdSkip_f {t : ByteArray} {b : Nat} {ts : List Tok} {s : St} (hs : xI ts s t = false) (w : World) (h : RdX w b ts s) : Calls Try.prog 63 #[.pointer (some ⟨b, 0, none⟩), .string t] w (XEnd w b ts s (.bool false)) := by
  have := rdSkip_any t b ts s w h
  unfold xSkip at this
  rw [hs] at this
  exact this
theorem rdSkip_t {t : ByteArray} {b : Nat} {ts : List Tok} {s : St} (hs : xI ts s t = true) (w : World) (h : RdX w b ts s) : Calls Try.prog 63 #[.pointer (some ⟨b, 0, none⟩), .string t] w (XEnd w b ts (xStep s) (.bool true)) := by
  have := rdSkip_any t b ts s w h
  unfold xSkip at this
  rw [hs] at this
  exact this
theorem rdKind_b {k : Int} {b : Nat} {ts : List Tok} {s : St} {q : Bool} (hs : xK ts s k = q) (w : World) (h : RdX w b ts s) : Calls Try.prog 72 #[.pointer (some ⟨b, 0, none⟩), .int .i64 k] w fun e w' => e = .returned (.bool q) ∧ Below w.heap.size w w' := by
  rw [← hs]; exact rdKind_any k b ts s w h
set_option maxHeartbeats 1600000 in
theorem rdWord_any (k : Int) (b : Nat) (ts : List Tok) (st : St) (w : World) (h : RdX w b ts st) : Calls Try.prog 64 #[.pointer (some ⟨b, 0, none⟩), .int .i64 k] w (XEnd w b ts (zWs ts st k) (.string (zW ts st k))) := by
  cases hk : xK ts st k with
  | true =>
    have := rdWord_yes k b ts st w h hk
    unfold zWs zW
    rw [hk]
    exact this
  | false =>
    have HE : Hid (zWs ts st k = xFail ts st) := by show _ = _; unfold zWs; rw [hk]; rfl
    have HE2 : Hid (zW ts st k = ⟨#[]⟩) := by show _ = _; unfold zW; rw [hk]; rfl
    have HK := Lib.hid (rdKind_b (b := b) hk)
    have HF := Lib.hid (fun V h => rdFail_any b ts st V h)
    have HR := Lib.hid h
    clear h hk
    go_enter Try.func64, Try.ntmps64
    go_wp2_with fail
    go_at_call 72
    refine (HK.out _ HR.out).mono ?_
    rintro e w1 ⟨rfl, hb1⟩
    have HR1 := Lib.hid (HR.out.lift hb1)
    go_wp2_with fail
    go_at_call 47
    refine (HF.out _ HR1.out).mono ?_
    rintro e w2 ⟨rfl, hr2, hg2⟩
    go_wp2
    go_ret
    exact ⟨by rw [HE2.out]; rfl, by rw [HE.out]; exact hr2, grown_trans (below_grown_some hb1 b) hg2⟩
theorem zW_size {ts : List Tok} (hok : TkOk ts) (s : St) (k : Int) : (zW ts s k).size ≤ maxLen := by
  unfold zW
  split
  · exact txt_size hok _
  · exact Nat.zero_le _
/-- What the contract of a reading of an expression says. -/
def ZAt (fid : FuncId) (more : Array Value) (ts : List Tok) (s : St) (r : Option (Ex × St)) : Prop :=
  ∀ (T : Ex) (s' : St), r = some (T, s') → ∀ (b base : Nat) (w : World), b < base → base ≤ w.heap.size → RdX w b ts s →
    Calls Try.prog fid (#[.pointer (some ⟨b, 0, none⟩)] ++ more) w fun e w' => ∃ c, e = .returned (.agg (List.toArray c)) ∧ RepE w' (fun g => base ≤ g) T c ∧ RdX w' b ts s' ∧ w.grownBy w' (some b)
theorem xK_txt {ts : List Tok} (hv : TkVal ts) {s : St} {k : Int} (h : xK ts s k = true) : rkind (bl (txt ts s.i)) = k := by
  obtain ⟨h1, h2, h3⟩ := xK_good h
  obtain ⟨t, ht⟩ : ∃ x, ts[s.i]? = some x := ⟨_, List.getElem?_eq_getElem h2⟩
  unfold rKind at h3
  rw [ht] at h3
  rw [txt_some ht, bl_mk, hv t (List.mem_of_getElem? ht)]
  simpa using h3
/-- The cells of an annotation. -/
def annC (p : Int) (n : Nat) (t0 t1 t2 t3 t4 : Value) : List Value := [.int .i64 9, .int .i64 p, .string ⟨#[]⟩, .int .i64 0, .slice (some ⟨n, 0, none⟩) 1 1, .slice none 0 0, t0, t1, t2, t3, t4]
theorem AX.annS {w v v' : World} {b R0 R1 : Nat} {ts : List Tok} {s : St} {c : List Value} {a : Ex} (h : AX w v b R0 R1 ts s c a) {T : Ty} {t0 t1 t2 t3 t4 : Value} (ht : Rep v (fun g => R1 < g) T (.agg #[t0, t1, t2, t3, t4])) (p : Int)
    (hB : BoxC 36 v' R1 (annC p v.heap.size t0 t1 t2 t3 t4)) (hg : (v.alloc (.cells c.toArray 36)).grownBy v' (some R1)) : AX w v' b R0 R1 ts s (annC p v.heap.size t0 t1 t2 t3 t4) (.mk 9 p ⟨#[]⟩ 0 T [a] []) := by
  have hb : Below v.heap.size v (v.alloc (.cells c.toArray 36)) := (Below.refl _ v).alloc (Nat.le_refl _) _
  have h01 := h.eb.h1
  have hlt := h.eb.lt
  have hk := one_newE h.rep 36 v.heap.size rfl (S' := fun g => R0 < g ∧ g ≠ R1) (fun _ h => h) ⟨by omega, by omega⟩
  have ht2 := (ht.lift hb).imp (S' := fun g => R0 < g ∧ g ≠ R1) (fun g hg => ⟨by omega, by omega⟩)
  exact ⟨(h.eb.lift hb).row hB hg, repE_ann (tc := [t0, t1, t2, t3, t4]) p (hk.kept (fun _ h => h) (fun g h1 hl => hg.block g hl (by intro e; exact h1.2 (Option.some.inj e)))) (ht2.kept (fun _ h => h) (fun g h1 hl => hg.block g hl (by intro e; exact h1.2 (Option.some.inj e))))⟩
set_option maxRecDepth 100000 in
set_option maxHeartbeats 6400000 in
theorem zAtom_of (ts : List Tok) (hok : TkOk ts) (hv : TkVal ts) (s : St) (f : Nat) (hf : f ≤ 900000) (hl : ts.length ≤ 200000) (H : ∀ g, g ≤ f → ∀ s, ZAt 46 #[] ts s (zRead g ts s)) : ZAt 67 #[] ts s (zAtom (f + 1) ts s) := by
  intro T j hr b base w hbb hbase h
  unfold zAtom at hr
  have HR := Lib.hid h
  have HP0 := Lib.hid (PX.start HR.out)
  have hsz0 : w.heap.size < (w.alloc (.cells #[.int .i64 0, .int .i64 0, .string ⟨#[]⟩, .int .i64 0, .slice none 0 0, .slice none 0 0, .int .i64 0, .string ⟨#[]⟩, .int .i64 0, .int .i64 0, .slice none 0 0] 36)).heap.size := by simp
  have HPos := Lib.hid (fun (V : World) (h : RdX V b ts s) => rdPos_any b ts s V h)
  generalize tkP ts s.i = p at *
  clear h
  cases h1 : xK ts s 1 with
  | true =>
    rw [h1] at hr
    simp only [if_true, Option.some.injEq, Prod.mk.injEq] at hr
    obtain ⟨rfl, rfl⟩ := hr
    have HK1 := Lib.hid (rdKind_b (b := b) h1)
    have HW := Lib.hid (fun (V : World) (h : RdX V b ts s) => rdWord_yes 1 b ts s V h h1)
    have HS := Lib.hid (txt_size hok s.i)
    clear h1 H
    generalize txt ts s.i = tx at *
    go_enter Try.func67, Try.ntmps67
    go_wp2_with fail
    go_at_call 62
    generalize (w.alloc (.cells #[.int .i64 0, .int .i64 0, .string ⟨#[]⟩, .int .i64 0, .slice none 0 0, .slice none 0 0, .int .i64 0, .string ⟨#[]⟩, .int .i64 0, .int .i64 0, .slice none 0 0] 36)) = w0 at *
    refine (HPos.out _ HP0.out.rd).mono ?_
    rintro e w1 ⟨rfl, hb1⟩
    have HP1 := Lib.hid (HP0.out.lift hb1)
    have hz1 := Nat.lt_of_lt_of_le hsz0 hb1.size
    clear hb1 hsz0
    go_wp2_with fail
    go_at_call 72
    refine (HK1.out _ HP1.out.rd).mono ?_
    rintro e w2 ⟨rfl, hb2⟩
    have HP2 := Lib.hid (HP1.out.lift hb2)
    clear hb2
    go_wp2_with fail
    go_at_call 64
    refine (HW.out _ HP2.out.rd).mono ?_
    rintro e w3 ⟨rfl, hr3, hg3⟩
    have HP3 := Lib.hid (HP2.out.call hr3 hg3)
    clear hr3 hg3
    have HRes := Lib.hid (repE_leaf w3 (fun g => w.heap.size < g) 1 p tx 0 HS.out)
    go_wp2_with (refine wpList_storeC rfl _ _ rfl _ _ _ HP3.out.res rfl rfl HRes.out.size HRes.out.len0 HRes.out.len.2 ?_; intro v8 hB8 hg8 hs8)
    obtain ⟨e0, e1, e2, e3, e4, e5, e6, e7, e8, e9, e10⟩ := hB8.all11
    refine bodyPost_ret (by simp [results, Try.results67, go_sem, e0, e1, e2, e3, e4, e5, e6, e7, e8, e9, e10]; try rfl) rfl ?_
    exact ⟨_, rfl, HP3.out.ret HRes.out hbase hg8⟩
  | false =>
    rw [h1] at hr
    simp only [Bool.false_eq_true, if_false] at hr
    cases h2 : xK ts s 2 with
    | true =>
      rw [h2] at hr
      simp only [if_true, Option.some.injEq, Prod.mk.injEq] at hr
      obtain ⟨rfl, rfl⟩ := hr
      have HK1 := Lib.hid (rdKind_b (b := b) h1)
      have HK2 := Lib.hid (rdKind_b (b := b) h2)
      have HW := Lib.hid (fun (V : World) (h : RdX V b ts s) => rdWord_yes 2 b ts s V h h2)
      have HS := Lib.hid (txt_size hok s.i)
      clear h1 h2 H
      generalize txt ts s.i = tx at *
      go_enter Try.func67, Try.ntmps67
      go_wp2_with fail
      go_at_call 62
      generalize (w.alloc (.cells #[.int .i64 0, .int .i64 0, .string ⟨#[]⟩, .int .i64 0, .slice none 0 0, .slice none 0 0, .int .i64 0, .string ⟨#[]⟩, .int .i64 0, .int .i64 0, .slice none 0 0] 36)) = w0 at *
      refine (HPos.out _ HP0.out.rd).mono ?_
      rintro e w1 ⟨rfl, hb1⟩
      have HP1 := Lib.hid (HP0.out.lift hb1)
      have hz1 := Nat.lt_of_lt_of_le hsz0 hb1.size
      clear hb1 hsz0
      go_wp2_with fail
      go_at_call 72
      refine (HK1.out _ HP1.out.rd).mono ?_
      rintro e w2 ⟨rfl, hb2⟩
      have HP2 := Lib.hid (HP1.out.lift hb2)
      clear hb2
      go_wp2_with fail
      go_at_call 72
      refine (HK2.out _ HP2.out.rd).mono ?_
      rintro e w3 ⟨rfl, hb3⟩
      have HP3 := Lib.hid (HP2.out.lift hb3)
      clear hb3
      go_wp2_with fail
      go_at_call 64
      refine (HW.out _ HP3.out.rd).mono ?_
      rintro e w4 ⟨rfl, hr4, hg4⟩
      have HP4 := Lib.hid (HP3.out.call hr4 hg4)
      clear hr4 hg4
      have HRes := Lib.hid (repE_leaf w4 (fun g => w.heap.size < g) 2 p tx 0 HS.out)
      go_wp2_with (refine wpList_storeC rfl _ _ rfl _ _ _ HP4.out.res rfl rfl HRes.out.size HRes.out.len0 HRes.out.len.2 ?_; intro v8 hB8 hg8 hs8)
      obtain ⟨e0, e1, e2, e3, e4, e5, e6, e7, e8, e9, e10⟩ := hB8.all11
      refine bodyPost_ret (by simp [results, Try.results67, go_sem, e0, e1, e2, e3, e4, e5, e6, e7, e8, e9, e10]; try rfl) rfl ?_
      exact ⟨_, rfl, HP4.out.ret HRes.out hbase hg8⟩
    | false =>
      rw [h2] at hr
      simp only [Bool.false_eq_true, if_false] at hr
      cases h3 : xK ts s 3 with
      | true =>
        rw [h3] at hr
        simp only [if_true, Option.some.injEq, Prod.mk.injEq] at hr
        obtain ⟨rfl, rfl⟩ := hr
        have HK1 := Lib.hid (rdKind_b (b := b) h1)
        have HK2 := Lib.hid (rdKind_b (b := b) h2)
        have HK3 := Lib.hid (rdKind_b (b := b) h3)
        have HW := Lib.hid (fun (V : World) (h : RdX V b ts s) => rdWord_yes 3 b ts s V h h3)
        have HS := Lib.hid (txt_size hok s.i)
        have HN := Lib.hid (fun (V : World) => rNum_any (txt ts s.i) V (xK_txt hv h3))
        clear h1 h2 h3 H
        generalize numB (txt ts s.i) = nb at *
        generalize txt ts s.i = tx at *
        go_enter Try.func67, Try.ntmps67
        go_wp2_with fail
        go_at_call 62
        generalize (w.alloc (.cells #[.int .i64 0, .int .i64 0, .string ⟨#[]⟩, .int .i64 0, .slice none 0 0, .slice none 0 0, .int .i64 0, .string ⟨#[]⟩, .int .i64 0, .int .i64 0, .slice none 0 0] 36)) = w0 at *
        refine (HPos.out _ HP0.out.rd).mono ?_
        rintro e w1 ⟨rfl, hb1⟩
        have HP1 := Lib.hid (HP0.out.lift hb1)
        have hz1 := Nat.lt_of_lt_of_le hsz0 hb1.size
        clear hb1 hsz0
        go_wp2_with fail
        go_at_call 72
        refine (HK1.out _ HP1.out.rd).mono ?_
        rintro e w2 ⟨rfl, hb2⟩
        have HP2 := Lib.hid (HP1.out.lift hb2)
        clear hb2
        go_wp2_with fail
        go_at_call 72
        refine (HK2.out _ HP2.out.rd).mono ?_
        rintro e w3 ⟨rfl, hb3⟩
        have HP3 := Lib.hid (HP2.out.lift hb3)
        clear hb3
        go_wp2_with fail
        go_at_call 72
        refine (HK3.out _ HP3.out.rd).mono ?_
        rintro e w4 ⟨rfl, hb4⟩
        have HP4 := Lib.hid (HP3.out.lift hb4)
        clear hb4
        go_wp2_with fail
        go_at_call 64
        refine (HW.out _ HP4.out.rd).mono ?_
        rintro e w5 ⟨rfl, hr5, hg5⟩
        have HP5 := Lib.hid (HP4.out.call hr5 hg5)
        clear hr5 hg5
        go_wp2_with fail
        go_at_call 90
        refine (HN.out _).mono ?_
        rintro e w' ⟨rfl, rfl⟩
        have HRes := Lib.hid (repE_leaf w5 (fun g => w.heap.size < g) 3 p ⟨#[]⟩ nb (Nat.zero_le _))
        go_wp2_with (refine wpList_storeC rfl _ _ rfl _ _ _ HP5.out.res rfl rfl HRes.out.size HRes.out.len0 HRes.out.len.2 ?_; intro v8 hB8 hg8 hs8)
        obtain ⟨e0, e1, e2, e3, e4, e5, e6, e7, e8, e9, e10⟩ := hB8.all11
        refine bodyPost_ret (by simp [results, Try.results67, go_sem, e0, e1, e2, e3, e4, e5, e6, e7, e8, e9, e10]; try rfl) rfl ?_
        exact ⟨_, rfl, HP5.out.ret HRes.out hbase hg8⟩
      | false =>
        rw [h3] at hr
        simp only [Bool.false_eq_true, if_false] at hr
        have HK1 := Lib.hid (rdKind_b (b := b) h1)
        have HK2 := Lib.hid (rdKind_b (b := b) h2)
        have HK3 := Lib.hid (rdKind_b (b := b) h3)
        cases h4 : xI ts s ⟨#[63]⟩ with
        | true =>
          rw [h4] at hr
          simp only [if_true, Option.some.injEq, Prod.mk.injEq] at hr
          obtain ⟨rfl, rfl⟩ := hr
          have HS1 := Lib.hid (rdSkip_t (b := b) h4)
          clear h1 h2 h3 h4 H
          go_enter Try.func67, Try.ntmps67
          go_wp2_with fail
          go_at_call 62
          generalize (w.alloc (.cells #[.int .i64 0, .int .i64 0, .string ⟨#[]⟩, .int .i64 0, .slice none 0 0, .slice none 0 0, .int .i64 0, .string ⟨#[]⟩, .int .i64 0, .int .i64 0, .slice none 0 0] 36)) = w0 at *
          refine (HPos.out _ HP0.out.rd).mono ?_
          rintro e w1 ⟨rfl, hb1⟩
          have HP1 := Lib.hid (HP0.out.lift hb1)
          have hz1 := Nat.lt_of_lt_of_le hsz0 hb1.size
          clear hb1 hsz0
          go_wp2_with fail
          go_at_call 72
          refine (HK1.out _ HP1.out.rd).mono ?_
          rintro e w2 ⟨rfl, hb2⟩
          have HP2 := Lib.hid (HP1.out.lift hb2)
          clear hb2
          go_wp2_with fail
          go_at_call 72
          refine (HK2.out _ HP2.out.rd).mono ?_
          rintro e w3 ⟨rfl, hb3⟩
          have HP3 := Lib.hid (HP2.out.lift hb3)
          clear hb3
          go_wp2_with fail
          go_at_call 72
          refine (HK3.out _ HP3.out.rd).mono ?_
          rintro e w4 ⟨rfl, hb4⟩
          have HP4 := Lib.hid (HP3.out.lift hb4)
          clear hb4
          go_wp2_with fail
          go_at_call 63
          refine (HS1.out _ HP4.out.rd).mono ?_
          rintro e w5 ⟨rfl, hr5, hg5⟩
          have HP5 := Lib.hid (HP4.out.call hr5 hg5)
          clear hr5 hg5
          have HRes := Lib.hid (repE_leaf w5 (fun g => w.heap.size < g) 10 p ⟨#[]⟩ 0 (Nat.zero_le _))
          go_wp2_with (refine wpList_storeC rfl _ _ rfl _ _ _ HP5.out.res rfl rfl HRes.out.size HRes.out.len0 HRes.out.len.2 ?_; intro v8 hB8 hg8 hs8)
          obtain ⟨e0, e1, e2, e3, e4, e5, e6, e7, e8, e9, e10⟩ := hB8.all11
          refine bodyPost_ret (by simp [results, Try.results67, go_sem, e0, e1, e2, e3, e4, e5, e6, e7, e8, e9, e10]; try rfl) rfl ?_
          exact ⟨_, rfl, HP5.out.ret HRes.out hbase hg8⟩
        | false =>
          rw [h4] at hr
          simp only [Bool.false_eq_true, if_false] at hr
          have HS1 := Lib.hid (rdSkip_f (b := b) h4)
          clear h4
          cases h5 : xI ts s ⟨#[123]⟩ with
          | true =>
            rw [h5] at hr
            simp only [if_true] at hr
            have HS2 := Lib.hid (rdSkip_t (b := b) h5)
            clear h1 h2 h3 h5
            obtain ⟨f, rfl⟩ : ∃ g, f = g + 1 := by
              cases f with
              | zero => simp [zHeld] at hr
              | succ f => exact ⟨f, rfl⟩
            unfold zHeld at hr
            generalize xStep s = s1 at *
            cases hE : zRead f ts s1 with
            | none => rw [hE] at hr; simp at hr
            | some q =>
              obtain ⟨a, s2⟩ := q
              rw [hE] at hr
              simp only [Option.some.injEq, Prod.mk.injEq] at hr
              obtain ⟨rfl, rfl⟩ := hr
              have HE := Lib.hid (fun (V : World) (h : RdX V b ts s1) => H f (by omega) s1 a s2 hE b V.heap.size V h.lt (Nat.le_refl _) h)
              have HN := Lib.hid (fun (V : World) (h : RdX V b ts s2) => rdNeed_any ⟨#[125]⟩ b ts s2 V h)
              clear hE H
              generalize xNeed ts s2 ⟨#[125]⟩ = s3 at *
              go_enter Try.func67, Try.ntmps67
              go_wp2_with fail
              go_at_call 62
              generalize (w.alloc (.cells #[.int .i64 0, .int .i64 0, .string ⟨#[]⟩, .int .i64 0, .slice none 0 0, .slice none 0 0, .int .i64 0, .string ⟨#[]⟩, .int .i64 0, .int .i64 0, .slice none 0 0] 36)) = w0 at *
              refine (HPos.out _ HP0.out.rd).mono ?_
              rintro e w1 ⟨rfl, hb1⟩
              have HP1 := Lib.hid (HP0.out.lift hb1)
              have hz1 := Nat.lt_of_lt_of_le hsz0 hb1.size
              clear hb1 hsz0
              go_wp2_with fail
              go_at_call 72
              refine (HK1.out _ HP1.out.rd).mono ?_
              rintro e w2 ⟨rfl, hb2⟩
              have HP2 := Lib.hid (HP1.out.lift hb2)
              clear hb2
              go_wp2_with fail
              go_at_call 72
              refine (HK2.out _ HP2.out.rd).mono ?_
              rintro e w3 ⟨rfl, hb3⟩
              have HP3 := Lib.hid (HP2.out.lift hb3)
              clear hb3
              go_wp2_with fail
              go_at_call 72
              refine (HK3.out _ HP3.out.rd).mono ?_
              rintro e w4 ⟨rfl, hb4⟩
              have HP4 := Lib.hid (HP3.out.lift hb4)
              clear hb4
              go_wp2_with fail
              go_at_call 63
              refine (HS1.out _ HP4.out.rd).mono ?_
              rintro e w5 ⟨rfl, hr5, hg5⟩
              have HP5 := Lib.hid (HP4.out.call hr5 hg5)
              clear hr5 hg5
              go_wp2_with fail
              go_at_call 63
              refine (HS2.out _ HP5.out.rd).mono ?_
              rintro e w6 ⟨rfl, hr6, hg6⟩
              have HP6 := Lib.hid (HP5.out.call hr6 hg6)
              clear hr6 hg6
              go_wp2_with fail
              go_at_call 46
              refine (HE.out _ HP6.out.rd).mono ?_
              rintro e w7 ⟨c, rfl, hrep, hr7, hg7⟩
              obtain ⟨ka, kc, aa, ac, tk, tn, ti, th, ta, tl, tc, rfl⟩ := hrep.form
              have HPc := Lib.hid (HP6.out.call hr7 hg7)
              have HB0 := Lib.hid (HPc.out.mk' [.int .i64 a.k, .int .i64 a.p, .string a.n, .int .i64 a.m, .slice ka a.kids.length kc, .slice aa a.arms.length ac, .int .i64 tk, .string tn, .int .i64 ti, .int .i64 th, .slice ta tl tc])
              have HRp0 := Lib.hid ((hrep.imp_lt HP6.out.res.lt).lift ((Below.refl _ w7).alloc (Nat.le_refl _) (.cells #[.int .i64 a.k, .int .i64 a.p, .string a.n, .int .i64 a.m, .slice ka a.kids.length kc, .slice aa a.arms.length ac, .int .i64 tk, .string tn, .int .i64 ti, .int .i64 th, .slice ta tl tc] 36)))
              clear hrep hr7 hg7
              go_wp2_with fail
              go_at_call 65
              generalize (w7.alloc (.cells #[.int .i64 a.k, .int .i64 a.p, .string a.n, .int .i64 a.m, .slice ka a.kids.length kc, .slice aa a.arms.length ac, .int .i64 tk, .string tn, .int .i64 ti, .int .i64 th, .slice ta tl tc] 36)) = v7 at *
              generalize w7.heap.size = R1 at *
              refine (HN.out _ HB0.out.rd).mono ?_
              rintro e w8 ⟨rfl, hr8, hg8'⟩
              have HB8 := Lib.hid (HB0.out.call hr8 hg8')
              have HRp8 := Lib.hid (HB0.out.pb.far HRp0.out hg8')
              have HP8 := Lib.hid HB8.out.pb
              clear hr8 hg8' HRp0 HB0
              obtain ⟨d0, d1, d2, d3, d4, d5, d6, d7, d8, d9, d10⟩ := HB8.out.box.all11
              have HK := Lib.hid (one_newE (S' := fun g => w.heap.size < g) HRp8.out 36 w8.heap.size rfl (fun _ hg => hg) HP8.out.res.lt)
              have HB4 := Lib.hid (HP8.out.lift ((Below.refl _ w8).alloc (Nat.le_refl _) (.cells #[.int .i64 a.k, .int .i64 a.p, .string a.n, .int .i64 a.m, .slice ka a.kids.length kc, .slice aa a.arms.length ac, .int .i64 tk, .string tn, .int .i64 ti, .int .i64 th, .slice ta tl tc] 36)))
              have HRes := Lib.hid (repE_kids (S := fun g => w.heap.size < g) 11 p ⟨#[]⟩ 0 (Nat.zero_le _) HK.out)
              go_wp2_with (refine wpList_storeC rfl _ _ rfl _ _ _ HB4.out.res rfl rfl HRes.out.size HRes.out.len0 HRes.out.len.2 ?_; intro v8 hB8 hg8 hs8)
              obtain ⟨e0, e1, e2, e3, e4, e5, e6, e7, e8, e9, e10⟩ := hB8.all11
              refine bodyPost_ret (by simp [results, Try.results67, go_sem, e0, e1, e2, e3, e4, e5, e6, e7, e8, e9, e10]; try rfl) rfl ?_
              exact ⟨_, rfl, HB4.out.ret HRes.out hbase hg8⟩
          | false =>
            rw [h5] at hr
            simp only [Bool.false_eq_true, if_false] at hr
            have HS2 := Lib.hid (rdSkip_f (b := b) h5)
            clear h1 h2 h3 h5
            have HN1 := Lib.hid (fun (V : World) (h : RdX V b ts s) => rdNeed_any ⟨#[40]⟩ b ts s V h)
            generalize xNeed ts s ⟨#[40]⟩ = s1 at *
            obtain ⟨i1, q1, p1⟩ := s1
            dsimp only at hr
            cases q1 with
            | true =>
              simp only [if_true, Option.some.injEq, Prod.mk.injEq] at hr
              obtain ⟨rfl, rfl⟩ := hr
              clear H
              go_enter Try.func67, Try.ntmps67
              go_wp2_with fail
              go_at_call 62
              generalize (w.alloc (.cells #[.int .i64 0, .int .i64 0, .string ⟨#[]⟩, .int .i64 0, .slice none 0 0, .slice none 0 0, .int .i64 0, .string ⟨#[]⟩, .int .i64 0, .int .i64 0, .slice none 0 0] 36)) = w0 at *
              refine (HPos.out _ HP0.out.rd).mono ?_
              rintro e w1 ⟨rfl, hb1⟩
              have HP1 := Lib.hid (HP0.out.lift hb1)
              have hz1 := Nat.lt_of_lt_of_le hsz0 hb1.size
              clear hb1 hsz0
              go_wp2_with fail
              go_at_call 72
              refine (HK1.out _ HP1.out.rd).mono ?_
              rintro e w2 ⟨rfl, hb2⟩
              have HP2 := Lib.hid (HP1.out.lift hb2)
              clear hb2
              go_wp2_with fail
              go_at_call 72
              refine (HK2.out _ HP2.out.rd).mono ?_
              rintro e w3 ⟨rfl, hb3⟩
              have HP3 := Lib.hid (HP2.out.lift hb3)
              clear hb3
              go_wp2_with fail
              go_at_call 72
              refine (HK3.out _ HP3.out.rd).mono ?_
              rintro e w4 ⟨rfl, hb4⟩
              have HP4 := Lib.hid (HP3.out.lift hb4)
              clear hb4
              go_wp2_with fail
              go_at_call 63
              refine (HS1.out _ HP4.out.rd).mono ?_
              rintro e w5 ⟨rfl, hr5, hg5⟩
              have HP5 := Lib.hid (HP4.out.call hr5 hg5)
              clear hr5 hg5
              go_wp2_with fail
              go_at_call 63
              refine (HS2.out _ HP5.out.rd).mono ?_
              rintro e w6 ⟨rfl, hr6, hg6⟩
              have HP6 := Lib.hid (HP5.out.call hr6 hg6)
              clear hr6 hg6
              go_wp2_with fail
              go_at_call 65
              refine (HN1.out _ HP6.out.rd).mono ?_
              rintro e w7 ⟨rfl, hr7, hg7⟩
              have HP7 := Lib.hid (HP6.out.call hr7 hg7)
              clear hr7 hg7
              obtain ⟨lv, hrd, -⟩ := HP7.out.rd
              obtain ⟨r0, r1, r2, -⟩ := hrd.cells
              clear hrd
              have HRes := Lib.hid (repE_zero w7 (fun g => w.heap.size < g))
              go_wp2_with (refine wpList_storeC rfl _ _ rfl _ _ _ HP7.out.res rfl rfl HRes.out.size HRes.out.len0 HRes.out.len.2 ?_; intro v8 hB8 hg8 hs8)
              obtain ⟨e0, e1, e2, e3, e4, e5, e6, e7, e8, e9, e10⟩ := hB8.all11
              refine bodyPost_ret (by simp [results, Try.results67, go_sem, e0, e1, e2, e3, e4, e5, e6, e7, e8, e9, e10]; try rfl) rfl ?_
              exact ⟨_, rfl, HP7.out.ret HRes.out hbase hg8⟩
            | false =>
              simp only [Bool.false_eq_true, if_false] at hr
              obtain ⟨f, rfl⟩ : ∃ g, f = g + 1 := by
                cases f with
                | zero => simp [zEnc] at hr
                | succ f => exact ⟨f, rfl⟩
              unfold zEnc at hr
              cases hE : zRead f ts ⟨i1, false, p1⟩ with
              | none => rw [hE] at hr; simp at hr
              | some q =>
                obtain ⟨a, s2⟩ := q
                rw [hE] at hr
                dsimp only at hr
                have HE := Lib.hid (fun (V : World) (h : RdX V b ts ⟨i1, false, p1⟩) => H f (by omega) _ a s2 hE b V.heap.size V h.lt (Nat.le_refl _) h)
                clear hE H
                cases hq : xI ts s2 ⟨#[58]⟩ with
                | false =>
                  rw [hq] at hr
                  simp only [Bool.false_eq_true, if_false, Option.some.injEq, Prod.mk.injEq] at hr
                  obtain ⟨rfl, rfl⟩ := hr
                  have HS3 := Lib.hid (rdSkip_f (b := b) hq)
                  have HN2 := Lib.hid (fun (V : World) (h : RdX V b ts s2) => rdNeed_any ⟨#[41]⟩ b ts s2 V h)
                  clear hq
                  generalize xNeed ts s2 ⟨#[41]⟩ = s3 at *
                  go_enter Try.func67, Try.ntmps67
                  go_wp2_with fail
                  go_at_call 62
                  generalize (w.alloc (.cells #[.int .i64 0, .int .i64 0, .string ⟨#[]⟩, .int .i64 0, .slice none 0 0, .slice none 0 0, .int .i64 0, .string ⟨#[]⟩, .int .i64 0, .int .i64 0, .slice none 0 0] 36)) = w0 at *
                  refine (HPos.out _ HP0.out.rd).mono ?_
                  rintro e w1 ⟨rfl, hb1⟩
                  have HP1 := Lib.hid (HP0.out.lift hb1)
                  have hz1 := Nat.lt_of_lt_of_le hsz0 hb1.size
                  clear hb1 hsz0
                  go_wp2_with fail
                  go_at_call 72
                  refine (HK1.out _ HP1.out.rd).mono ?_
                  rintro e w2 ⟨rfl, hb2⟩
                  have HP2 := Lib.hid (HP1.out.lift hb2)
                  clear hb2
                  go_wp2_with fail
                  go_at_call 72
                  refine (HK2.out _ HP2.out.rd).mono ?_
                  rintro e w3 ⟨rfl, hb3⟩
                  have HP3 := Lib.hid (HP2.out.lift hb3)
                  clear hb3
                  go_wp2_with fail
                  go_at_call 72
                  refine (HK3.out _ HP3.out.rd).mono ?_
                  rintro e w4 ⟨rfl, hb4⟩
                  have HP4 := Lib.hid (HP3.out.lift hb4)
                  clear hb4
                  go_wp2_with fail
                  go_at_call 63
                  refine (HS1.out _ HP4.out.rd).mono ?_
                  rintro e w5 ⟨rfl, hr5, hg5⟩
                  have HP5 := Lib.hid (HP4.out.call hr5 hg5)
                  clear hr5 hg5
                  go_wp2_with fail
                  go_at_call 63
                  refine (HS2.out _ HP5.out.rd).mono ?_
                  rintro e w6 ⟨rfl, hr6, hg6⟩
                  have HP6 := Lib.hid (HP5.out.call hr6 hg6)
                  clear hr6 hg6
                  go_wp2_with fail
                  go_at_call 65
                  refine (HN1.out _ HP6.out.rd).mono ?_
                  rintro e w7 ⟨rfl, hr7, hg7⟩
                  have HP7 := Lib.hid (HP6.out.call hr7 hg7)
                  clear hr7 hg7
                  obtain ⟨lv, hrd, -⟩ := HP7.out.rd
                  obtain ⟨r0, r1, r2, -⟩ := hrd.cells
                  clear hrd
                  go_wp2_with fail
                  go_at_call 46
                  refine (HE.out _ HP7.out.rd).mono ?_
                  rintro e w8 ⟨c, rfl, hrep, hr8, hg8⟩
                  obtain ⟨ka, kc, aa, ac, tk, tn, ti, th, ta, tl, tc, rfl⟩ := hrep.form
                  clear r0 r1 r2
                  have HA0 := Lib.hid (AX.mk' (HP7.out.call hr8 hg8) (hrep.imp_lt HP7.out.res.lt))
                  clear hrep hr8 hg8
                  go_wp2_with fail
                  go_at_call 63
                  generalize (w8.alloc (.cells #[.int .i64 a.k, .int .i64 a.p, .string a.n, .int .i64 a.m, .slice ka a.kids.length kc, .slice aa a.arms.length ac, .int .i64 tk, .string tn, .int .i64 ti, .int .i64 th, .slice ta tl tc] 36)) = v8 at *
                  generalize w8.heap.size = R1 at *
                  refine (HS3.out _ HA0.out.eb.rd).mono ?_
                  rintro e w9 ⟨rfl, hr9, hg9⟩
                  have HA9 := Lib.hid (HA0.out.call hr9 hg9)
                  clear hr9 hg9 HA0
                  go_wp2_with fail
                  go_at_call 65
                  refine (HN2.out _ HA9.out.eb.rd).mono ?_
                  rintro e w10 ⟨rfl, hr10, hg10⟩
                  have HA10 := Lib.hid (HA9.out.call hr10 hg10)
                  clear hr10 hg10 HA9
                  obtain ⟨d0, d1, d2, d3, d4, d5, d6, d7, d8, d9, d10⟩ := HA10.out.eb.box.all11
                  go_wp2_with (refine wpList_storeC rfl _ _ rfl _ _ _ HA10.out.eb.res rfl rfl HA10.out.rep.size HA10.out.rep.len0 HA10.out.rep.len.2 ?_; intro v8 hB8 hg8 hs8)
                  obtain ⟨e0, e1, e2, e3, e4, e5, e6, e7, e8, e9, e10⟩ := hB8.all11
                  refine bodyPost_ret (by simp [results, Try.results67, go_sem, e0, e1, e2, e3, e4, e5, e6, e7, e8, e9, e10]; try rfl) rfl ?_
                  exact ⟨_, rfl, HA10.out.ret hbase hg8⟩
                | true =>
                  rw [hq] at hr
                  simp only [if_true] at hr
                  have HS3 := Lib.hid (rdSkip_t (b := b) hq)
                  clear hq
                  generalize xStep s2 = s3 at *
                  cases hT : xType (3 * ts.length + 3) ts s3 with
                  | none => rw [hT] at hr; simp at hr
                  | some q =>
                    obtain ⟨ty, s4⟩ := q
                    rw [hT] at hr
                    simp only [Option.some.injEq, Prod.mk.injEq] at hr
                    obtain ⟨rfl, rfl⟩ := hr
                    have HTy := Lib.hid (fun (V : World) (h : RdX V b ts s3) => xtype_any ts hok (3 * ts.length + 3) (by omega) s3 ty s4 hT b V.heap.size V h.lt (Nat.le_refl _) h)
                    have HN2 := Lib.hid (fun (V : World) (h : RdX V b ts s4) => rdNeed_any ⟨#[41]⟩ b ts s4 V h)
                    clear hT
                    generalize xNeed ts s4 ⟨#[41]⟩ = s5 at *
                    go_enter Try.func67, Try.ntmps67
                    go_wp2_with fail
                    go_at_call 62
                    generalize (w.alloc (.cells #[.int .i64 0, .int .i64 0, .string ⟨#[]⟩, .int .i64 0, .slice none 0 0, .slice none 0 0, .int .i64 0, .string ⟨#[]⟩, .int .i64 0, .int .i64 0, .slice none 0 0] 36)) = w0 at *
                    refine (HPos.out _ HP0.out.rd).mono ?_
                    rintro e w1 ⟨rfl, hb1⟩
                    have HP1 := Lib.hid (HP0.out.lift hb1)
                    have hz1 := Nat.lt_of_lt_of_le hsz0 hb1.size
                    clear hb1 hsz0
                    go_wp2_with fail
                    go_at_call 72
                    refine (HK1.out _ HP1.out.rd).mono ?_
                    rintro e w2 ⟨rfl, hb2⟩
                    have HP2 := Lib.hid (HP1.out.lift hb2)
                    clear hb2
                    go_wp2_with fail
                    go_at_call 72
                    refine (HK2.out _ HP2.out.rd).mono ?_
                    rintro e w3 ⟨rfl, hb3⟩
                    have HP3 := Lib.hid (HP2.out.lift hb3)
                    clear hb3
                    go_wp2_with fail
                    go_at_call 72
                    refine (HK3.out _ HP3.out.rd).mono ?_
                    rintro e w4 ⟨rfl, hb4⟩
                    have HP4 := Lib.hid (HP3.out.lift hb4)
                    clear hb4
                    go_wp2_with fail
                    go_at_call 63
                    refine (HS1.out _ HP4.out.rd).mono ?_
                    rintro e w5 ⟨rfl, hr5, hg5⟩
                    have HP5 := Lib.hid (HP4.out.call hr5 hg5)
                    clear hr5 hg5
                    go_wp2_with fail
                    go_at_call 63
                    refine (HS2.out _ HP5.out.rd).mono ?_
                    rintro e w6 ⟨rfl, hr6, hg6⟩
                    have HP6 := Lib.hid (HP5.out.call hr6 hg6)
                    clear hr6 hg6
                    go_wp2_with fail
                    go_at_call 65
                    refine (HN1.out _ HP6.out.rd).mono ?_
                    rintro e w7 ⟨rfl, hr7, hg7⟩
                    have HP7 := Lib.hid (HP6.out.call hr7 hg7)
                    clear hr7 hg7
                    obtain ⟨lv, hrd, -⟩ := HP7.out.rd
                    obtain ⟨r0, r1, r2, -⟩ := hrd.cells
                    clear hrd
                    go_wp2_with fail
                    go_at_call 46
                    refine (HE.out _ HP7.out.rd).mono ?_
                    rintro e w8 ⟨c, rfl, hrep, hr8, hg8⟩
                    obtain ⟨ka, kc, aa, ac, tk, tn, ti, th, ta, tl, tc, rfl⟩ := hrep.form
                    clear r0 r1 r2
                    have HA0 := Lib.hid (AX.mk' (HP7.out.call hr8 hg8) (hrep.imp_lt HP7.out.res.lt))
                    clear hrep hr8 hg8
                    go_wp2_with fail
                    go_at_call 63
                    generalize (w8.alloc (.cells #[.int .i64 a.k, .int .i64 a.p, .string a.n, .int .i64 a.m, .slice ka a.kids.length kc, .slice aa a.arms.length ac, .int .i64 tk, .string tn, .int .i64 ti, .int .i64 th, .slice ta tl tc] 36)) = v8 at *
                    generalize w8.heap.size = R1 at *
                    refine (HS3.out _ HA0.out.eb.rd).mono ?_
                    rintro e w9 ⟨rfl, hr9, hg9⟩
                    have HA9 := Lib.hid (HA0.out.call hr9 hg9)
                    clear hr9 hg9 HA0
                    go_wp2_with fail
                    go_at_call 75
                    refine (HTy.out _ HA9.out.eb.rd).mono ?_
                    rintro e w10 ⟨u, rfl, hrept, hr10, hg10⟩
                    obtain ⟨uk, un, ui, uh, ua, um, uc, rfl⟩ := hrept.form
                    have HA10 := Lib.hid (HA9.out.call hr10 hg10)
                    have HRt := Lib.hid (hrept.imp (S' := fun g => R1 < g) (fun _ hg => Nat.lt_of_lt_of_le HA9.out.eb.lt hg))
                    clear hr10 hg10 hrept HA9
                    go_upto_region 20 with fail
                    have hb11 : Below w10.heap.size w10 (w10.alloc (.cells #[.int .i64 uk, .string un, .int .i64 ui, .int .i64 uh, .slice ua um uc] 34)) := (Below.refl _ w10).alloc (Nat.le_refl _) _
                    have HA11 := Lib.hid (HA10.out.lift hb11)
                    have HRt11 := Lib.hid (HRt.out.lift hb11)
                    have HTB := Lib.hid (Box.made w10 (.int .i64 uk) (.string un) (.int .i64 ui) (.int .i64 uh) (.slice ua um uc))
                    clear hb11 HA10 HRt
                    generalize (w10.alloc (.cells #[.int .i64 uk, .string un, .int .i64 ui, .int .i64 uh, .slice ua um uc] 34)) = v11 at *
                    generalize w10.heap.size = B6 at *
                    have hb12 : Below v11.heap.size v11 (v11.alloc (.cells #[.int .i64 a.k, .int .i64 a.p, .string a.n, .int .i64 a.m, .slice ka a.kids.length kc, .slice aa a.arms.length ac, .int .i64 tk, .string tn, .int .i64 ti, .int .i64 th, .slice ta tl tc] 36)) := (Below.refl _ v11).alloc (Nat.le_refl _) _
                    obtain ⟨t0, t1, t2, t3, t4⟩ := (Box.lift HTB.out hb12).cells
                    have HB12 := Lib.hid (HA11.out.eb.lift hb12).box
                    have HX : Hid (∀ v', BoxC 36 v' R1 (annC p v11.heap.size (.int .i64 uk) (.string un) (.int .i64 ui) (.int .i64 uh) (.slice ua um uc)) → (v11.alloc (.cells #[.int .i64 a.k, .int .i64 a.p, .string a.n, .int .i64 a.m, .slice ka a.kids.length kc, .slice aa a.arms.length ac, .int .i64 tk, .string tn, .int .i64 ti, .int .i64 th, .slice ta tl tc] 36)).grownBy v' (some R1) → AX w v' b w.heap.size R1 ts s4 (annC p v11.heap.size (.int .i64 uk) (.string un) (.int .i64 ui) (.int .i64 uh) (.slice ua um uc)) (.mk 9 p ⟨#[]⟩ 0 ty [a] [])) := fun v' h1 h2 => HA11.out.annS HRt11.out p h1 h2
                    obtain ⟨d0, d1, d2, d3, d4, d5, d6, d7, d8, d9, d10⟩ := HA11.out.eb.box.all11
                    clear hb12
                    generalize a.k = ak at *
                    generalize a.p = ap at *
                    generalize a.n = an at *
                    generalize a.m = am at *
                    generalize a.kids.length = al at *
                    generalize a.arms.length = ar at *
                    go_wp2_with (refine wpList_storeC rfl _ _ rfl R1 _ (annC p v11.heap.size (.int .i64 uk) (.string un) (.int .i64 ui) (.int .i64 uh) (.slice ua um uc)) HB12.out rfl rfl sizeEx rfl (by intro u hu; simp [annC] at hu; rcases hu with h | h | h | h | h | h | h | h | h | h | h <;> subst h <;> rfl) ?_; intro v13 hB13 hg13 hs13)
                    have HA13 := Lib.hid (HX.out v13 hB13 hg13)
                    clear hB13 hg13 hs13 HX HB12 HA11 HRt11 HTB t0 t1 t2 t3 t4 d0 d1 d2 d3 d4 d5 d6 d7 d8 d9 d10
                    refine (HN2.out _ HA13.out.eb.rd).mono ?_
                    rintro e w14 ⟨rfl, hr14, hg14⟩
                    have HA14 := Lib.hid (HA13.out.call hr14 hg14)
                    clear hr14 hg14 HA13
                    obtain ⟨d0, d1, d2, d3, d4, d5, d6, d7, d8, d9, d10⟩ := HA14.out.eb.box.all11
                    go_wp2_with (refine wpList_storeC rfl _ _ rfl _ _ _ HA14.out.eb.res rfl rfl HA14.out.rep.size HA14.out.rep.len0 HA14.out.rep.len.2 ?_; intro v8 hB8 hg8 hs8)
                    obtain ⟨e0, e1, e2, e3, e4, e5, e6, e7, e8, e9, e10⟩ := hB8.all11
                    refine bodyPost_ret (by simp [results, Try.results67, go_sem, e0, e1, e2, e3, e4, e5, e6, e7, e8, e9, e10]; try rfl) rfl ?_
                    exact ⟨_, rfl, HA14.out.ret hbase hg8⟩
end Go.Proofs.Ytljgpgmaceackaa

/- The reference's reader of expressions: what holds while a case is read. -/
namespace Go.Proofs.Ytljgpgmaceackaa
open Go.RowKit Go.Maps Mth

def zLoop (k : Nat) (ts : List Tok) (s : St) (p : Int) (a : Ex) (acc : List (AH × Ex)) : Option (Ex × St) :=
  match zArm k ts s with
  | some (some A, s2) => zArms k ts s2 p a (acc ++ [A])
  | some (none, s2) => some (zEx, s2)
  | none => none
/-- What holds between two arms, but for the arms. -/
structure CK (w v : World) (b R0 R1 B2 : Nat) (ts : List Tok) (s : St) (c : List Value) (a : Ex) (kv : Value) : Prop where
  eb : EX w v b R0 R1 ts s c
  kid : SlG ExE v (fun g => R0 < g ∧ g ≠ R1 ∧ g < B2) [a] kv
  h2 : R1 < B2
  h3 : B2 ≤ v.heap.size
theorem CK.call {w v v' : World} {b R0 R1 B2 : Nat} {ts : List Tok} {s s' : St} {c : List Value} {a : Ex} {kv : Value} (h : CK w v b R0 R1 B2 ts s c a kv) (hr : RdX v' b ts s') (hg : v.grownBy v' (some b)) : CK w v' b R0 R1 B2 ts s' c a kv := by
  have h0 := h.eb.h0; have hb := h.eb.hb; have h1 := h.eb.h1; have h2 := h.h2
  exact ⟨h.eb.call hr hg, h.kid.kept (fun _ h => h) (fun g h3 h4 => hg.block g h4 (by intro e; have := Option.some.inj e; have := h3.1; omega)), h2, Nat.le_trans h.h3 hg.size⟩
theorem CK.lift {w v v' : World} {b R0 R1 B2 : Nat} {ts : List Tok} {s : St} {c : List Value} {a : Ex} {kv : Value} (h : CK w v b R0 R1 B2 ts s c a kv) (hb : Below v.heap.size v v') : CK w v' b R0 R1 B2 ts s c a kv := h.call (h.eb.rd.lift hb) (below_grown_some hb b)
/-- A later block changes. -/
theorem CK.other {w v v' : World} {b R0 R1 B2 : Nat} {ts : List Tok} {s : St} {c : List Value} {a : Ex} {kv : Value} {R : Nat} (h : CK w v b R0 R1 B2 ts s c a kv) (hR : B2 ≤ R) (hg : v.grownBy v' (some R)) : CK w v' b R0 R1 B2 ts s c a kv := by
  have h0 := h.eb.h0; have hb := h.eb.hb; have h1 := h.eb.h1; have h2 := h.h2
  exact ⟨⟨h.eb.rd.other (by omega) hg, h.eb.res.grown hg (by intro e; have := Option.some.inj e; omega), h.eb.box.grown hg (by intro e; have := Option.some.inj e; omega), grown_fresh h.eb.grown hg (fun i e => by have := Option.some.inj e; omega), h0, h1, hb⟩,
    h.kid.kept (fun _ h => h) (fun g h3 h4 => hg.block g h4 (by intro e; have := Option.some.inj e; have := h3.2.2; omega)), h2, Nat.le_trans h.h3 hg.size⟩
theorem CK.row {w v v' : World} {b R0 R1 B2 : Nat} {ts : List Tok} {s : St} {c : List Value} {a : Ex} {kv : Value} {row : Option Nat} (h : CK w v b R0 R1 B2 ts s c a kv) (hR : ∀ R, row = some R → B2 ≤ R) (hg : v.grownBy v' row) : CK w v' b R0 R1 B2 ts s c a kv := by
  cases row with
  | none => exact h.lift ⟨hg.os, hg.tape, hg.output, hg.size, fun i hi => hg.block i hi (by simp)⟩
  | some R => exact h.other (hR R rfl) hg
theorem CK.set {w v : World} {b R0 R1 B2 : Nat} {ts : List Tok} {s : St} {c : List Value} {a : Ex} {kv : Value} (h : CK w v b R0 R1 B2 ts s c a kv) (m : Nat) (u : Value) : CK w (v.setCell ⟨R1, m, none⟩ u) b R0 R1 B2 ts s (c.set m u) a kv := by
  obtain ⟨-, h2, h3⟩ := h.eb.box.set m u
  have h1 := h.eb.h1; have h12 := h.h2
  exact ⟨h.eb.set m u, h.kid.kept (fun _ h => h) (fun g h3 h4 => h2.block g h4 (by intro e; exact h3.2.1 (Option.some.inj e))), h12, by rw [h3]; exact h.h3⟩
/-- What holds between two arms. -/
structure CZ (w v : World) (b R0 R1 B2 : Nat) (ts : List Tok) (s : St) (c : List Value) (a : Ex) (kv sv : Value) (l : List (AH × Ex)) : Prop where
  ck : CK w v b R0 R1 B2 ts s c a kv
  row : RowG AmE v B2 (fun g => B2 ≤ g) sv l
theorem rowA_bound {v : World} {B2 : Nat} {sv : Value} {l : List (AH × Ex)} (h : RowG AmE v B2 (fun g => B2 ≤ g) sv l) : RowG AmE v B2 (fun g => B2 ≤ g ∧ g < v.heap.size) sv l := by
  obtain ⟨L, hown, hl, hr⟩ := h
  refine ⟨L, hown, hl, fun j x hx => ?_⟩
  obtain ⟨c, h1, h2⟩ := hr j x hx
  exact ⟨c, h1, AmE.kept (fun g hg => ⟨⟨hg.1.1, hg.2⟩, hg.1.2⟩) (fun _ _ _ => rfl) (AmE.bound h2)⟩
theorem rowA_imp {v : World} {B2 R2 : Nat} {sv : Value} {l : List (AH × Ex)} (h : RowG AmE v B2 (fun g => B2 ≤ g ∧ g < R2) sv l) : RowG AmE v B2 (fun g => B2 ≤ g) sv l := by
  obtain ⟨L, hown, hl, hr⟩ := h
  refine ⟨L, hown, hl, fun j x hx => ?_⟩
  obtain ⟨c, h1, h2⟩ := hr j x hx
  exact ⟨c, h1, AmE.kept (fun g hg => ⟨hg.1.1, hg.2⟩) (fun _ _ _ => rfl) h2⟩
/-- The same with the arm's variable and its row of names. -/
structure RZ (w v : World) (b R0 R1 B2 R2 : Nat) (ts : List Tok) (s : St) (c : List Value) (a : Ex) (kv sv : Value) (l : List (AH × Ex)) (d : List Value) (nv : Value) (acc : List ByteArray) : Prop where
  ck : CK w v b R0 R1 B2 ts s c a kv
  row : RowG AmE v B2 (fun g => B2 ≤ g ∧ g < R2) sv l
  box : BoxC 55 v R2 d
  nrow : RowG StrE v (R2 + 1) (fun _ => False) nv acc
  h4 : B2 ≤ R2
  h5 : ∀ k, sv.ownBlock = some k → k < R2
theorem RZ.mk' {w v : World} {b R0 R1 B2 : Nat} {ts : List Tok} {s : St} {c : List Value} {a : Ex} {kv sv : Value} {l : List (AH × Ex)} (h : CZ w v b R0 R1 B2 ts s c a kv sv l) (d : List Value) : RZ w (v.alloc (.cells d.toArray 55)) b R0 R1 B2 v.heap.size ts s c a kv sv l d (.slice none 0 0) [] :=
  ⟨h.ck.lift ((Below.refl _ v).alloc (Nat.le_refl _) _), (rowA_bound h.row).lift ((Below.refl _ v).alloc (Nat.le_refl _) _), BoxC.made _ v d, rowG_nil _ _ _ _, h.ck.h3, fun k e => (h.row.lt k e).2⟩
theorem CZ.call {w v v' : World} {b R0 R1 B2 : Nat} {ts : List Tok} {s s' : St} {c : List Value} {a : Ex} {kv sv : Value} {l : List (AH × Ex)} (h : CZ w v b R0 R1 B2 ts s c a kv sv l) (hr : RdX v' b ts s') (hg : v.grownBy v' (some b)) : CZ w v' b R0 R1 B2 ts s' c a kv sv l := by
  have h0 := h.ck.eb.h0; have hb := h.ck.eb.hb; have h1 := h.ck.eb.h1; have h2 := h.ck.h2
  exact ⟨h.ck.call hr hg, h.row.kept hg (h.row.off (by omega)) (fun g h3 e => by have := Option.some.inj e; omega)⟩
theorem CZ.lift {w v v' : World} {b R0 R1 B2 : Nat} {ts : List Tok} {s : St} {c : List Value} {a : Ex} {kv sv : Value} {l : List (AH × Ex)} (h : CZ w v b R0 R1 B2 ts s c a kv sv l) (hb : Below v.heap.size v v') : CZ w v' b R0 R1 B2 ts s c a kv sv l := h.call (h.ck.eb.rd.lift hb) (below_grown_some hb b)
theorem CZ.set {w v : World} {b R0 R1 B2 : Nat} {ts : List Tok} {s : St} {c : List Value} {a : Ex} {kv sv : Value} {l : List (AH × Ex)} (h : CZ w v b R0 R1 B2 ts s c a kv sv l) (m : Nat) (u : Value) : CZ w (v.setCell ⟨R1, m, none⟩ u) b R0 R1 B2 ts s (c.set m u) a kv sv l := by
  obtain ⟨-, h2, h3⟩ := h.ck.eb.box.set m u
  have h12 := h.ck.h2
  exact ⟨h.ck.set m u, h.row.kept h2 (h.row.off (by omega)) (fun g h3 e => by have := Option.some.inj e; omega)⟩
theorem RZ.call {w v v' : World} {b R0 R1 B2 R2 : Nat} {ts : List Tok} {s s' : St} {c : List Value} {a : Ex} {kv sv : Value} {l : List (AH × Ex)} {d : List Value} {nv : Value} {acc : List ByteArray} (h : RZ w v b R0 R1 B2 R2 ts s c a kv sv l d nv acc) (hr : RdX v' b ts s') (hg : v.grownBy v' (some b)) : RZ w v' b R0 R1 B2 R2 ts s' c a kv sv l d nv acc := by
  have h0 := h.ck.eb.h0; have hb := h.ck.eb.hb; have h1 := h.ck.eb.h1; have h2 := h.ck.h2; have h4 := h.h4
  exact ⟨h.ck.call hr hg, h.row.kept hg (h.row.off (by omega)) (fun g h3 e => by have := Option.some.inj e; have := h3.1; omega), h.box.grown hg (by intro e; have := Option.some.inj e; omega), row_str h.nrow hg (h.nrow.off (by omega)), h4, h.h5⟩
theorem RZ.lift {w v v' : World} {b R0 R1 B2 R2 : Nat} {ts : List Tok} {s : St} {c : List Value} {a : Ex} {kv sv : Value} {l : List (AH × Ex)} {d : List Value} {nv : Value} {acc : List ByteArray} (h : RZ w v b R0 R1 B2 R2 ts s c a kv sv l d nv acc) (hb : Below v.heap.size v v') : RZ w v' b R0 R1 B2 R2 ts s c a kv sv l d nv acc := h.call (h.ck.eb.rd.lift hb) (below_grown_some hb b)
/-- A name more. -/
theorem RZ.push {w v v' : World} {b R0 R1 B2 R2 : Nat} {ts : List Tok} {s : St} {c : List Value} {a : Ex} {kv sv : Value} {l : List (AH × Ex)} {d : List Value} {nv nv' : Value} {acc acc' : List ByteArray} (h : RZ w v b R0 R1 B2 R2 ts s c a kv sv l d nv acc) (hrow : RowG StrE v' (R2 + 1) (fun _ => False) nv' acc') (hg : v.grownBy v' nv.ownBlock) : RZ w v' b R0 R1 B2 R2 ts s c a kv sv l d nv' acc' := by
  have h4 := h.h4; have h5 := h.h5
  have hlt := h.nrow.lt
  refine ⟨h.ck.row (fun R e => by have := hlt R e; omega) hg, h.row.kept hg ?_ (fun g h3 e => by have := hlt g e.symm; have := h3.2; omega), h.box.grown hg (fun e => by have := hlt R2 e.symm; omega), hrow, h4, h5⟩
  cases hv : sv.ownBlock with
  | none => exact .inl rfl
  | some k => exact .inr (by intro e; have := hlt k e.symm; have := h5 k hv; omega)
/-- A field of the arm. -/
theorem RZ.set {w v : World} {b R0 R1 B2 R2 : Nat} {ts : List Tok} {s : St} {c : List Value} {a : Ex} {kv sv : Value} {l : List (AH × Ex)} {d : List Value} {nv : Value} {acc : List ByteArray} (h : RZ w v b R0 R1 B2 R2 ts s c a kv sv l d nv acc) (m : Nat) (u : Value) : RZ w (v.setCell ⟨R2, m, none⟩ u) b R0 R1 B2 R2 ts s c a kv sv l (d.set m u) nv acc := by
  obtain ⟨h1, h2, -⟩ := h.box.set m u
  have h4 := h.h4; have h5 := h.h5
  refine ⟨h.ck.other h4 h2, h.row.kept h2 ?_ (fun g h3 e => by have := Option.some.inj e; have := h3.2; omega), h1, row_str h.nrow h2 (h.nrow.off (by omega)), h4, h5⟩
  cases hv : sv.ownBlock with
  | none => exact .inl rfl
  | some k => exact .inr (by intro e; have := Option.some.inj e; have := h5 k hv; omega)
/-- The arm is whole: its row of arms, what it says. -/
theorem RZ.full {w v v' : World} {b R0 R1 B2 R2 : Nat} {ts : List Tok} {s : St} {c : List Value} {a : Ex} {kv sv : Value} {l : List (AH × Ex)} {nv : Value} {acc : List ByteArray} {p : Int} {n : ByteArray} {d e : List Value} {U : Ex} (h : RZ w v b R0 R1 B2 R2 ts s c a kv sv l d nv acc) (hg : v.grownBy v' (some R2)) (hU : RepE v (fun g => R2 < g) U e) :
    CZ w v' b R0 R1 B2 ts s c a kv sv l ∧ AmE.rep v' (fun g => B2 ≤ g ∧ some g ≠ sv.ownBlock) (⟨p, n, acc⟩, U) (.int .i64 p :: .string n :: nv :: e) := by
  have h4 := h.h4; have h5 := h.h5
  have hoff : sv.ownBlock = none ∨ sv.ownBlock ≠ some R2 := by
    cases hv : sv.ownBlock with
    | none => exact .inl rfl
    | some k => exact .inr (by intro e; have := Option.some.inj e; have := h5 k hv; omega)
  refine ⟨⟨h.ck.other h4 hg, rowA_imp (h.row.kept hg hoff (fun g h3 e => by have := Option.some.inj e; have := h3.2; omega))⟩, nv, e, rfl, ?_, ?_⟩
  · have hn := row_str h.nrow hg (h.nrow.off (by omega))
    have hs := (hn.slG (S' := fun g => R2 + 1 ≤ g) (fun _ h => h.elim) (fun _ h => h))
    exact hs.kept (fun g hg' => ⟨by omega, fun e => by have := h5 g e.symm; omega⟩) (fun _ _ _ => rfl)
  · exact hU.kept (fun g hg' => ⟨by omega, fun e => by have := h5 g e.symm; omega⟩) (fun g h2 h3 => hg.block g h3 (by intro e; have := Option.some.inj e; omega))
theorem CZ.push {w v v' : World} {b R0 R1 B2 : Nat} {ts : List Tok} {s : St} {c : List Value} {a : Ex} {kv sv sv' : Value} {l l' : List (AH × Ex)} (h : CZ w v b R0 R1 B2 ts s c a kv sv l) (hrow : RowG AmE v' B2 (fun g => B2 ≤ g) sv' l') (hg : v.grownBy v' sv.ownBlock) : CZ w v' b R0 R1 B2 ts s c a kv sv' l' :=
  ⟨h.ck.row (fun R e => (h.row.lt R e).1) hg, hrow⟩
end Go.Proofs.Ytljgpgmaceackaa
