import Derived.Test.YtljgpgmaceackaaQX34
import Derived.Deep.CutBlock
/- The reference's reader of expressions: a case. -/
namespace Go.Proofs.Ytljgpgmaceackaa
open Go.RowKit Go.Maps Mth

/-- The case's variable is made. -/
theorem cz_new {w v : World} {b R0 : Nat} {ts : List Tok} {s : St} {a : Ex} {c : List Value} (h : PX w v b R0 ts s) (hr : RepE v (fun g => R0 < g) a c) (c8 : List Value) (V : World) (hV : V = (v.alloc (.cells c.toArray 36)).alloc (.cells c8.toArray 36)) :
    CZ w V b R0 (v.heap.size + 1) (v.heap.size + 2) ts s c8 a (.slice (some ⟨v.heap.size, 0, none⟩) 1 1) (.slice none 0 0) [] := by
  subst hV
  have hlt := h.res.lt
  have h1 : Below v.heap.size v (v.alloc (.cells c.toArray 36)) := (Below.refl _ v).alloc (Nat.le_refl _) _
  have hs : (v.alloc (.cells c.toArray 36)).heap.size = v.heap.size + 1 := by simp
  have hP := (h.lift h1).mk' c8
  rw [hs] at hP
  have hk := (one_newE hr 36 v.heap.size rfl (S' := fun g => R0 < g) (fun _ h => h) hlt).bound
  have h2 : Below (v.alloc (.cells c.toArray 36)).heap.size (v.alloc (.cells c.toArray 36)) ((v.alloc (.cells c.toArray 36)).alloc (.cells c8.toArray 36)) := (Below.refl _ _).alloc (Nat.le_refl _) _
  refine ⟨⟨hP, hk.kept (fun g hg => ?_) (fun g _ hl => h2.block g hl), by omega, by simp⟩, rowG_nil _ _ _ _⟩
  have := hg.2
  rw [hs] at this
  exact ⟨hg.1, by omega, by omega⟩
theorem wpList_push_am {w : World} {ops : Array Oper} {rest : List Oper} {o : Oper} {x0 : Act} {Q : Exit → Act → World → Prop} {base : Nat} {sv : Value} {acc : List (AH × Ex)} {A : AH × Ex} {c : List Value} (hA : AmE.rep w (fun g => base ≤ g ∧ some g ≠ sv.ownBlock) A c) (hrow : RowG AmE w base (fun g => base ≤ g) sv acc)
    (hgd : o.guard = none) (s x : Operand) (ho : o.op = .call { callee := .builtin .append, args := #[s, x], argTypes := #[31, 31] }) (hs : x0.eval s = sv) (hx : x0.eval x = .slice (some ⟨w.heap.size, 0, none⟩) 1 1)
    (N : Nat) (hN : N = acc.length + 1) (hb : N ≤ 1000000) (hbase : base ≤ w.heap.size)
    (hK : ∀ (a' : Option Addr) (c' : Nat) (w' : World), RowG AmE w' base (fun g => base ≤ g) (.slice a' N c') (acc ++ [A]) → w.grownBy w' sv.ownBlock → wpList Try.prog ops Q rest (x0.put o.dst (.slice a' N c')) w') :
    wpList Try.prog ops Q (o :: rest) x0 (w.alloc (.cells c.toArray 55)) := by
  have hba : Below w.heap.size w (w.alloc (.cells c.toArray 55)) := (Below.refl _ w).alloc (Nat.le_refl _) _
  exact wpList_pushG AmE hgd s x ho base (fun g => base ≤ g) sv acc hs (hrow.lift hba) w.heap.size 55 c (heap_alloc_new w _) hx A (AmE.kept (fun _ h => h) (fun g _ hl => hba.block g hl) hA) N hN hb (Nat.le_trans hbase hba.size) fun a' c' w' h1 h2 => hK a' c' w' h1 (grown_trans (World.grownBy_alloc w _ _) h2)
theorem zLoop_open {k : Nat} {ts : List Tok} {s : St} {p : Int} {a : Ex} {l : List (AH × Ex)} {r : Ex × St} (h : zLoop k ts s p a l = some r) : ∃ g, k = g + 1 := by
  cases k with
  | zero => simp [zLoop, zArm] at h
  | succ g => exact ⟨g, rfl⟩
theorem zArms_open {k : Nat} {ts : List Tok} {s : St} {p : Int} {a : Ex} {l : List (AH × Ex)} {r : Ex × St} (h : zArms (k + 1) ts s p a l = some r) :
    (xI ts s ⟨#[124]⟩ = true ∧ zLoop k ts (xStep s) p a l = some r) ∨ (xI ts s ⟨#[124]⟩ = false ∧ r = (.mk 8 p ⟨#[]⟩ 0 zTy [a] l, xNeed ts s ⟨#[101, 110, 100]⟩)) := by
  unfold zArms at h
  cases hq : xI ts s ⟨#[124]⟩ with
  | true => rw [hq] at h; exact .inl ⟨rfl, h⟩
  | false =>
    rw [hq] at h
    simp only [Bool.false_eq_true, if_false, Option.some.injEq] at h
    exact .inr ⟨rfl, h.symm⟩
theorem zLoop_arm {k : Nat} {ts : List Tok} {s : St} {p : Int} {a : Ex} {l : List (AH × Ex)} {r : Ex × St} (h : zLoop (k + 1) ts s p a l = some r) :
    ∃ vs s3, yVars k ts (zWs ts s 2) [] = some (vs, s3) ∧
      (((xNeed ts s3 ⟨#[46]⟩).bad = true ∧ r = (zEx, xNeed ts s3 ⟨#[46]⟩)) ∨
       ((xNeed ts s3 ⟨#[46]⟩).bad = false ∧ ∃ u s5, zRead k ts (xNeed ts s3 ⟨#[46]⟩) = some (u, s5) ∧ zArms (k + 1) ts s5 p a (l ++ [(⟨tkP ts s.i, zW ts s 2, vs⟩, u)]) = some r)) := by
  unfold zLoop zArm at h
  cases hv : yVars k ts (zWs ts s 2) [] with
  | none => rw [hv] at h; simp at h
  | some q =>
    obtain ⟨vs, s3⟩ := q
    rw [hv] at h
    refine ⟨vs, s3, rfl, ?_⟩
    cases hb : (xNeed ts s3 ⟨#[46]⟩).bad with
    | true =>
      dsimp only at h
      rw [hb] at h
      simp only [if_true, Option.some.injEq] at h
      exact .inl ⟨rfl, h.symm⟩
    | false =>
      dsimp only at h
      rw [hb] at h
      simp only [Bool.false_eq_true, if_false] at h
      cases hE : zRead k ts (xNeed ts s3 ⟨#[46]⟩) with
      | none => rw [hE] at h; simp at h
      | some q =>
        obtain ⟨u, s5⟩ := q
        rw [hE] at h
        exact .inr ⟨rfl, u, s5, rfl, h⟩
theorem enterWord (v u : Value) (w : World) : (callFunc 64 #[v, u]).run Try.prog w = .ok (.enter 64 #[v, u]) w := by kernel_rfl
set_option maxRecDepth 100000 in
set_option maxHeartbeats 6400000 in
theorem zCas_of (ts : List Tok) (hok : TkOk ts) (s : St) (p : Int) (f : Nat) (hf : f ≤ 900000) (H : ∀ g, g ≤ f → ∀ s, ZAt 46 #[] ts s (zRead g ts s)) : ZAt 66 #[.int .i64 p] ts s (zCas (f + 1) ts s p) := by
  intro T j hr b base w hbb hbase h
  unfold zCas at hr
  have HR := Lib.hid h
  have HP0 := Lib.hid (PX.start HR.out)
  have hsz0 : w.heap.size < (w.alloc (.cells #[.int .i64 0, .int .i64 0, .string ⟨#[]⟩, .int .i64 0, .slice none 0 0, .slice none 0 0, .int .i64 0, .string ⟨#[]⟩, .int .i64 0, .int .i64 0, .slice none 0 0] 36)).heap.size := by simp
  cases hE : zRead f ts s with
  | none => rw [hE] at hr; simp at hr
  | some q =>
    obtain ⟨a, s1⟩ := q
    rw [hE] at hr
    have HLp : Hid (zLoop f ts (xNeed ts s1 ⟨#[111, 102]⟩) p a [] = some (T, j)) := hr
    have HE := Lib.hid (fun (V : World) (h : RdX V b ts s) => H f (Nat.le_refl _) s a s1 hE b V.heap.size V h.lt (Nat.le_refl _) h)
    have HN := Lib.hid (fun (V : World) (h : RdX V b ts s1) => rdNeed_any ⟨#[111, 102]⟩ b ts s1 V h)
    have HH := Lib.hid H
    clear h hE H hr
    generalize xNeed ts s1 ⟨#[111, 102]⟩ = s2 at *
    go_enter Try.func66, Try.ntmps66
    go_wp2_with fail
    go_at_call 46
    generalize (w.alloc (.cells #[.int .i64 0, .int .i64 0, .string ⟨#[]⟩, .int .i64 0, .slice none 0 0, .slice none 0 0, .int .i64 0, .string ⟨#[]⟩, .int .i64 0, .int .i64 0, .slice none 0 0] 36)) = w0 at *
    refine (HE.out _ HP0.out.rd).mono ?_
    rintro e w1 ⟨c, rfl, hrep, hr1, hg1⟩
    obtain ⟨ka, kc, aa, ac, tk, tn, ti, th, ta, tl, tc, rfl⟩ := hrep.form
    have HP1 := Lib.hid (HP0.out.call hr1 hg1)
    have HRp := Lib.hid (hrep.imp_lt hsz0)
    clear hrep hr1 hg1 HP0 hsz0
    go_upto_region 2 with fail
    obtain ⟨V5, hV5⟩ : ∃ V5, V5 = (w1.alloc (.cells #[.int .i64 a.k, .int .i64 a.p, .string a.n, .int .i64 a.m, .slice ka a.kids.length kc, .slice aa a.arms.length ac, .int .i64 tk, .string tn, .int .i64 ti, .int .i64 th, .slice ta tl tc] 36)).alloc (.cells #[.int .i64 8, .int .i64 p, .string ⟨#[]⟩, .int .i64 0, .slice (some ⟨w1.heap.size, 0, none⟩) 1 1, .slice none 0 0, .int .i64 0, .string ⟨#[]⟩, .int .i64 0, .int .i64 0, .slice none 0 0] 36) := ⟨_, rfl⟩
    have HZ5 := Lib.hid (cz_new HP1.out HRp.out [.int .i64 8, .int .i64 p, .string ⟨#[]⟩, .int .i64 0, .slice (some ⟨w1.heap.size, 0, none⟩) 1 1, .slice none 0 0, .int .i64 0, .string ⟨#[]⟩, .int .i64 0, .int .i64 0, .slice none 0 0] V5 hV5)
    rw [← hV5]
    clear hV5 HP1 HRp
    generalize w1.heap.size = n5 at *
    go_wp2_with fail
    go_at_call 65
    refine (HN.out _ HZ5.out.ck.eb.rd).mono ?_
    rintro e w6 ⟨rfl, hr6, hg6⟩
    have HZ6 := Lib.hid (HZ5.out.call hr6 hg6)
    clear hr6 hg6 HZ5 HN HE
    go_wp2_with fail
    go_loopg [] f (fun k wr => ∃ (s2 : St) (l : List (AH × Ex)) (sa : Option Addr) (sc : Nat), Hid (zLoop k ts s2 p a l = some (T, j)) ∧ l.length + k ≤ f ∧ k ≤ f ∧ Hid (CZ w wr b w.heap.size (n5 + 1) (n5 + 2) ts s2 [.int .i64 8, .int .i64 p, .string ⟨#[]⟩, .int .i64 0, .slice (some ⟨n5, 0, none⟩) 1 1, .slice sa l.length sc, .int .i64 0, .string ⟨#[]⟩, .int .i64 0, .int .i64 0, .slice none 0 0] a (.slice (some ⟨n5, 0, none⟩) 1 1) (.slice sa l.length sc) l))
    case atStart => exact ⟨s2, [], none, 0, HLp, by simp, Nat.le_refl _, HZ6⟩
    case round =>
      clear HZ6 HLp
      obtain ⟨s2, l, sa, sc, HL2, hlk, hkf, HZ⟩ := hrel
      obtain ⟨wo, hwo⟩ : ∃ wo, wo = wr := ⟨_, rfl⟩
      rw [← hwo] at HZ ⊢
      clear hwo
      obtain ⟨k', rfl⟩ := zLoop_open HL2.out
      obtain ⟨vs, s3, hvs, hcase⟩ := zLoop_arm HL2.out
      have HVs := Lib.hid hvs
      have HCase := Lib.hid hcase
      have HPos := Lib.hid (fun (V : World) (h : RdX V b ts s2) => rdPos_any b ts s2 V h)
      have HW := Lib.hid (fun (V : World) (h : RdX V b ts s2) => rdWord_any 2 b ts s2 V h)
      have HNd := Lib.hid (fun (V : World) (h : RdX V b ts s3) => rdNeed_any ⟨#[46]⟩ b ts s3 V h)
      have HNm := Lib.hid (zW_size hok s2 2)
      clear hvs hcase HL2
      generalize tkP ts s2.i = ap at *
      generalize zW ts s2 2 = an at *
      generalize zWs ts s2 2 = s2' at *
      generalize xNeed ts s3 ⟨#[46]⟩ = s4 at *
      go_wp2_with fail
      go_at_call 62
      refine (HPos.out _ HZ.out.ck.eb.rd).mono ?_
      rintro e w7 ⟨rfl, hb7⟩
      have HZ7 := Lib.hid (HZ.out.lift hb7)
      clear hb7 HZ HPos
      go_wp2_with fail
      go_at_call 64
      refine (HW.out _ HZ7.out.ck.eb.rd).mono ?_
      rintro e w8 ⟨rfl, hr8, hg8⟩
      have HR8 := Lib.hid (RZ.mk' (HZ7.out.call hr8 hg8) [.int .i64 ap, .string an, .slice none 0 0, .int .i64 0, .int .i64 0, .string ⟨#[]⟩, .int .i64 0, .slice none 0 0, .slice none 0 0, .int .i64 0, .string ⟨#[]⟩, .int .i64 0, .int .i64 0, .slice none 0 0])
      clear hr8 hg8 HZ7 HW
      go_wp2_with fail
      generalize (w8.alloc (.cells #[.int .i64 ap, .string an, .slice none 0 0, .int .i64 0, .int .i64 0, .string ⟨#[]⟩, .int .i64 0, .slice none 0 0, .slice none 0 0, .int .i64 0, .string ⟨#[]⟩, .int .i64 0, .int .i64 0, .slice none 0 0] 55)) = v8 at *
      generalize w8.heap.size = R2 at *
      go_loopg [] k' (fun k2 wr => ∃ (s6 : St) (acc : List ByteArray) (na : Option Addr) (nc : Nat), Hid (yVars k2 ts s6 acc = some (vs, s3)) ∧ acc.length + k2 ≤ k' ∧ k2 ≤ k' ∧ Hid (RZ w wr b w.heap.size (n5 + 1) (n5 + 2) R2 ts s6 [.int .i64 8, .int .i64 p, .string ⟨#[]⟩, .int .i64 0, .slice (some ⟨n5, 0, none⟩) 1 1, .slice sa l.length sc, .int .i64 0, .string ⟨#[]⟩, .int .i64 0, .int .i64 0, .slice none 0 0] a (.slice (some ⟨n5, 0, none⟩) 1 1) (.slice sa l.length sc) l [.int .i64 ap, .string an, .slice na acc.length nc, .int .i64 0, .int .i64 0, .string ⟨#[]⟩, .int .i64 0, .slice none 0 0, .slice none 0 0, .int .i64 0, .string ⟨#[]⟩, .int .i64 0, .int .i64 0, .slice none 0 0] (.slice na acc.length nc) acc))
      case atStart => exact ⟨s2', [], none, 0, HVs, by simp, Nat.le_refl _, HR8⟩
      case round =>
        clear HR8 HVs
        obtain ⟨s6, acc, na, nc, HV2, hal, hk2, HB2⟩ := hrel
        have HKd := Lib.hid (fun (V : World) (h : RdX V b ts s6) => rdKind_any 1 b ts s6 V h)
        rcases vars_cases HV2.out with ⟨hq, rfl, rfl⟩ | ⟨hq, g', rfl, hrest⟩
        · rw [yK_eq ts _ (by decide)] at hq
          rw [hq] at HKd
          clear HV2 hq
          go_wp2_with fail
          go_at_call 72
          refine (HKd.out _ HB2.out.ck.eb.rd).mono ?_
          rintro e w9 ⟨rfl, hb9⟩
          have HR9 := Lib.hid (HB2.out.lift hb9)
          clear hb9 HB2 HKd
          go_wp2_with fail
          go_at_call 65
          refine (HNd.out _ HR9.out.ck.eb.rd).mono ?_
          rintro e w10 ⟨rfl, hr10, hg10⟩
          have HR10 := Lib.hid (HR9.out.call hr10 hg10)
          clear hr10 hg10 HR9 HNd
          obtain ⟨i4, q4, p4⟩ := s4
          dsimp only at HCase
          obtain ⟨lv, hrd, -⟩ := HR10.out.ck.eb.rd
          obtain ⟨r0, r1, r2, -⟩ := hrd.cells
          clear hrd
          rcases HCase.out with ⟨rfl, hres⟩ | ⟨rfl, u, s5, hE, hArms⟩
          · obtain ⟨rfl, rfl⟩ := Prod.mk.inj hres
            clear hres HCase
            have HP10 := Lib.hid HR10.out.ck.eb.pb
            have HRes := Lib.hid (repE_zero w10 (fun g => w.heap.size < g))
            go_wp2_with (refine wpList_storeC rfl _ _ rfl _ _ _ HP10.out.res rfl rfl HRes.out.size HRes.out.len0 HRes.out.len.2 ?_; intro v8' hB8 hg8 hs8)
            obtain ⟨e0, e1, e2, e3, e4, e5, e6, e7, e8, e9, e10⟩ := hB8.all11
            refine bodyPost_ret (by simp [results, Try.results66, go_sem, e0, e1, e2, e3, e4, e5, e6, e7, e8, e9, e10]; try rfl) rfl ?_
            exact ⟨_, rfl, HP10.out.ret HRes.out hbase hg8⟩
          · have HE := Lib.hid (fun (V : World) (h : RdX V b ts ⟨i4, false, p4⟩) => HH.out k' (by omega) _ u s5 hE b V.heap.size V h.lt (Nat.le_refl _) h)
            have HArms := Lib.hid hArms
            have HSk := Lib.hid (fun (V : World) (h : RdX V b ts s5) => rdSkip_any ⟨#[124]⟩ b ts s5 V h)
            clear hE hArms HCase
            go_wp2_with fail
            go_at_call 46
            refine (HE.out _ HR10.out.ck.eb.rd).mono ?_
            rintro e w11 ⟨c', rfl, hrep, hr11, hg11⟩
            obtain ⟨ka2, kc2, aa2, ac2, tk2, tn2, ti2, th2, ta2, tl2, tc2, rfl⟩ := hrep.form
            have HRu := Lib.hid (hrep.imp_lt HR10.out.box.lt)
            have HR11 := Lib.hid (HR10.out.call hr11 hg11)
            clear hrep hr11 hg11 HR10 HE r0 r1 r2
            go_upto_region 10 with (refine wpList_storeM (t := 55) (ty := 36) rfl _ _ rfl R2 3 _ [.int .i64 u.k, .int .i64 u.p, .string u.n, .int .i64 u.m, .slice ka2 u.kids.length kc2, .slice aa2 u.arms.length ac2, .int .i64 tk2, .string tn2, .int .i64 ti2, .int .i64 th2, .slice ta2 tl2 tc2] HR11.out.box rfl rfl HRu.out.size (by simp) HRu.out.len.2 ?_; intro w12 hB12 hg12)
            have hB12' : BoxC 55 w12 R2 [.int .i64 ap, .string an, .slice na vs.length nc, .int .i64 u.k, .int .i64 u.p, .string u.n, .int .i64 u.m, .slice ka2 u.kids.length kc2, .slice aa2 u.arms.length ac2, .int .i64 tk2, .string tn2, .int .i64 ti2, .int .i64 th2, .slice ta2 tl2 tc2] := hB12
            obtain ⟨hZ12, hAm12⟩ := HR11.out.full (p := ap) (n := an) hg12 HRu.out
            have HZ12 := Lib.hid hZ12
            have HAm := Lib.hid hAm12
            obtain ⟨d0, d1, d2, d3, d4, d5, d6, d7, d8, d9, d10, d11, d12, d13⟩ := hB12'.all14
            have c5 := HZ12.out.ck.eb.box.cell 5 _ rfl
            have hszB := HZ12.out.ck.h3
            clear hB12 hB12' hg12 hZ12 hAm12 HR11 HRu
            go_wp2_with (at_builtin; refine wpList_push_am HAm.out HZ12.out.row rfl _ _ rfl rfl rfl (l.length + 1) rfl (by omega) hszB ?_; intro a' c' w13 hrow13 hg13; have HZ13 := Lib.hid (HZ12.out.push hrow13 hg13); have z5 := HZ13.out.ck.eb.box.cell 5 _ rfl; have f5 := HZ13.out.ck.eb.box.free 5)
            have HZ14 := Lib.hid (HZ13.out.set 5 (.slice a' (l.length + 1) c'))
            generalize w13.setCell ⟨n5 + 1, 5, none⟩ (.slice a' (l.length + 1) c') = w14 at *
            clear z5 f5 c5 d0 d1 d2 d3 d4 d5 d6 d7 d8 d9 d10 d11 d12 d13 HZ13 HZ12 HAm hrow13 hg13 hszB
            rcases zArms_open HArms.out with ⟨hq, hrest⟩ | ⟨hq, hres⟩
            · have HRest := Lib.hid hrest
              unfold xSkip at HSk
              rw [hq] at HSk
              clear hq hrest
              refine (HSk.out _ HZ14.out.ck.eb.rd).mono ?_
              rintro e w15 ⟨rfl, hr15, hg15⟩
              have HZ15 := Lib.hid (HZ14.out.call hr15 hg15)
              clear hr15 hg15 HZ14
              go_wp2_with fail
              go_roundg k'
              case measure => omega
              case rel => exact ⟨_, l ++ [(⟨ap, an, vs⟩, u)], a', c', HRest, by simp; omega, by omega, by simpa using HZ15⟩
            · obtain ⟨rfl, rfl⟩ := Prod.mk.inj hres
              unfold xSkip at HSk
              rw [hq] at HSk
              clear hq hres
              have HNe := Lib.hid (fun (V : World) (h : RdX V b ts s5) => rdNeed_any ⟨#[101, 110, 100]⟩ b ts s5 V h)
              refine (HSk.out _ HZ14.out.ck.eb.rd).mono ?_
              rintro e w15 ⟨rfl, hr15, hg15⟩
              have HZ15 := Lib.hid (HZ14.out.call hr15 hg15)
              clear hr15 hg15 HZ14
              go_wp2_with fail
              go_at_call 65
              refine (HNe.out _ HZ15.out.ck.eb.rd).mono ?_
              rintro e w16 ⟨rfl, hr16, hg16⟩
              have HZ16 := Lib.hid (HZ15.out.call hr16 hg16)
              clear hr16 hg16 HZ15
              have h01 := HZ16.out.ck.eb.h1
              have h02 := HZ16.out.ck.h2
              have HRes : Hid (RepE w16 (fun g => w.heap.size < g) (.mk 8 p ⟨#[]⟩ 0 zTy [a] (l ++ [(⟨ap, an, vs⟩, u)])) [.int .i64 8, .int .i64 p, .string ⟨#[]⟩, .int .i64 0, .slice (some ⟨n5, 0, none⟩) 1 1, .slice a' (l.length + 1) c', .int .i64 0, .string ⟨#[]⟩, .int .i64 0, .int .i64 0, .slice none 0 0]) :=
                RepE.close (Nat.zero_le _) (HZ16.out.ck.kid.kept (fun _ h => h.1) (fun _ _ _ => rfl)) ((HZ16.out.row.slG (S' := fun g => w.heap.size < g) (fun g hg => by omega) (fun g hg => by omega))) (rep_zTy _ _)
              obtain ⟨d0, d1, d2, d3, d4, d5, d6, d7, d8, d9, d10⟩ := HZ16.out.ck.eb.box.all11
              go_wp2_with (refine wpList_storeC rfl _ _ rfl _ _ _ HZ16.out.ck.eb.res rfl rfl HRes.out.size HRes.out.len0 HRes.out.len.2 ?_; intro v8' hB8 hg8 hs8)
              obtain ⟨e0, e1, e2, e3, e4, e5, e6, e7, e8, e9, e10⟩ := hB8.all11
              refine bodyPost_ret (by simp [results, Try.results66, go_sem, e0, e1, e2, e3, e4, e5, e6, e7, e8, e9, e10]; try rfl) rfl ?_
              exact ⟨_, rfl, HZ16.out.ck.eb.pb.ret HRes.out hbase hg8⟩
        · rw [yK_eq ts _ (by decide)] at hq
          have HW2 := Lib.hid (fun (V : World) (h : RdX V b ts s6) => rdWord_yes 1 b ts s6 V h hq)
          have hyt : yT ts s6 = txt ts s6.i := by unfold yT; rw [(xK_good hq).1]; rfl
          rw [hyt] at hrest
          have HRest := Lib.hid hrest
          rw [hq] at HKd
          clear HV2 hrest hq hyt
          generalize txt ts s6.i = yt at *
          generalize xStep s6 = s7 at *
          go_wp2_with fail
          go_at_call 72
          refine (HKd.out _ HB2.out.ck.eb.rd).mono ?_
          rintro e w9 ⟨rfl, hb9⟩
          have HB4 := Lib.hid ((HB2.out.lift hb9).lift (Below.refl _ _).drew)
          clear hb9 HB2 HKd
          have d2 := HB4.out.box.cell 2 _ rfl
          go_upto_region 5 with fail
          go_region_law
            (first
              | ((with_reducible refine step_call2 64 enterWord (.pointer (some ⟨b, 0, none⟩)) (.int .i64 1) (fun x w' => x = .string yt ∧ RZ w w' b w.heap.size (n5 + 1) (n5 + 2) R2 ts s7 [.int .i64 8, .int .i64 p, .string ⟨#[]⟩, .int .i64 0, .slice (some ⟨n5, 0, none⟩) 1 1, .slice sa l.length sc, .int .i64 0, .string ⟨#[]⟩, .int .i64 0, .int .i64 0, .slice none 0 0] a (.slice (some ⟨n5, 0, none⟩) 1 1) (.slice sa l.length sc) l [.int .i64 ap, .string an, .slice na acc.length nc, .int .i64 0, .int .i64 0, .string ⟨#[]⟩, .int .i64 0, .slice none 0 0, .slice none 0 0, .int .i64 0, .string ⟨#[]⟩, .int .i64 0, .int .i64 0, .slice none 0 0] (.slice na acc.length nc) acc) ?_ ?_ ?_ ?_); (rfl); (rfl); (exact (HW2.out _ HB4.out.ck.eb.rd).mono fun e w' h => ⟨_, h.1, rfl, HB4.out.call h.2.1 h.2.2⟩); (rintro x w10 ⟨rfl, hv⟩); (have HB6 := Lib.hid hv); (have x2 := hv.box.cell 2 _ rfl); (have hlt6 := hv.box.lt); (clear hv))
              | ((with_reducible refine step_push_str yt HB6.out.nrow ?_ (.tmp 22) (.tmp 25) ?_ ?_ w10.heap.size ?_ ?_ (acc.length + 1) ?_ ?_ ?_ ?_); (rfl); (rfl); (rfl); (rfl); (rfl); (rfl); (omega); (exact hlt6); (intro a' c' w11 hrow11 hg11); (have HB7 := Lib.hid (HB6.out.push hrow11 hg11)); (have z2 := HB7.out.box.cell 2 _ rfl); (have f2 := HB7.out.box.free 2)))
          all_goals
            have HB8 := Lib.hid (HB7.out.set 2 (.slice a' (acc.length + 1) c'))
            generalize w11.setCell ⟨R2, 2, none⟩ (.slice a' (acc.length + 1) c') = w12 at *
            clear z2 f2 x2 d2 HB7 HB6 HB4 hrow11 hg11
            go_wp2_with fail
            go_roundg g'
            case measure => omega
            case rel => exact ⟨s7, acc ++ [yt], a', c', HRest, by simp; omega, by omega, by simpa using HB8⟩
end Go.Proofs.Ytljgpgmaceackaa
