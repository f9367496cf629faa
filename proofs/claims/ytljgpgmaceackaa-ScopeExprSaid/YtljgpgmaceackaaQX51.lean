import Derived.Test.YtljgpgmaceackaaQX48
/- The maker of expressions: a let. -/
namespace Go.Proofs.Ytljgpgmaceackaa.MR
open Go.RowKit Go.Maps Mth

set_option maxRecDepth 100000 in
set_option maxHeartbeats 6400000 in
theorem raw_let (d b base : Nat) (z r : Int) (dv : Value) (w : World) (hz : 1 ≤ z) (hz5 : z ≤ 5) (hr : r = 10) (ht : S3.Tq w b) (hbase : base ≤ w.heap.size) (HN : NX w b r) (HS : Sub d b z dv w) :
    Calls Try.prog 9 #[.pointer (some ⟨b, 0, none⟩), dv, .int .i64 z] w (RawEnd (d + 1) base b w) := by
  have HV := Lib.hid (variable_q b)
  have HT := Lib.hid HS
  clear HS
  have HP0 := Lib.hid (PX.start ht)
  have hlt := ht.lt
  unfold NX at HN
  have HNx := Lib.hid HN
  clear HN ht
  subst hr
  all_goals
    go_enter Try.func9, Try.ntmps9
    go_wp2_with fail
    go_at_call 19
    generalize (w.alloc (.cells #[.int .i64 0, .int .i64 0, .string ⟨#[]⟩, .int .i64 0, .slice none 0 0, .slice none 0 0, .int .i64 0, .string ⟨#[]⟩, .int .i64 0, .int .i64 0, .slice none 0 0] 36)) = w0 at *
    refine HNx.out.mono ?_
    rintro e w1 ⟨rfl, ht1, hg1⟩
    have HP1 := Lib.hid (HP0.out.call ht1 hg1)
    clear ht1 hg1 HNx HP0
    obtain ⟨m, hm0, hm2, hn2⟩ := next_r 2 (by omega) (by omega) b w1 HP1.out.rd
    have HN2 := Lib.hid hn2
    clear hn2
    go_wp2_with fail
    go_at_call 19
    refine HN2.out.mono ?_
    rintro e w2 ⟨rfl, ht2, hg2⟩
    have HP2 := Lib.hid (HP1.out.call ht2 hg2)
    clear ht2 hg2 HN2
    go_wp2_with fail
    go_at_call 20
    refine (HV.out _ HP2.out.rd).mono ?_
    rintro e w3 ⟨nm, rfl, hn, ht3, hg3⟩
    have HP3 := Lib.hid (HP2.out.call ht3 hg3)
    have HNm := Lib.hid hn
    have HNs := Lib.hid (nm_size hn)
    clear hn ht3 hg3
    go_wp2_with fail
    go_at_call 9
    refine (HT.out _ HP3.out.rd HP3.out.grown).mono ?_
    rintro e w5 ⟨_, rfl, a, c, rfl, hrep, hok, ht5, hg5⟩
    obtain ⟨ka, kc, aa, ac, tk, tn, ti, th, ta, tl, tc, rfl⟩ := hrep.form
    have HP5 := Lib.hid (HP3.out.call ht5 hg5)
    have HRp := Lib.hid (hrep.imp_lt HP3.out.res.lt)
    have HOa := Lib.hid hok
    clear hrep hok ht5 hg5
    clear HV
    have HV0 := Lib.hid (AX.mk' HP5.out HRp.out)
    clear HRp
    go_upto_region 29 with fail
    generalize (w5.alloc (.cells #[.int .i64 a.k, .int .i64 a.p, .string a.n, .int .i64 a.m, .slice ka a.kids.length kc, .slice aa a.arms.length ac, .int .i64 tk, .string tn, .int .i64 ti, .int .i64 th, .slice ta tl tc] 36)) = v7 at *
    generalize w5.heap.size = R1 at *
    have HW8 := Lib.hid (HV0.out.lift (Below.refl _ _).drew)
    obtain ⟨d0, d1, d2, d3, d4, d5, d6, d7, d8, d9, d10⟩ := HW8.out.eb.box.all11
    have hwr : IntKind.i64.wrap (z - 1) = z - 1 := by rw [IntKind.wrap_i64]; omega
    go_region_law
      (((with_reducible refine step_call3 9 enterRaw (.pointer (some ⟨b, 0, none⟩)) dv (.int .i64 (z - 1)) (fun r w' => ∃ u c, r = .agg (List.toArray c) ∧ RepE w' (fun g => w.heap.size < g ∧ g ≠ R1) u c ∧ OkE d u ∧ AX w w' b w.heap.size R1 [.int .i64 a.k, .int .i64 a.p, .string a.n, .int .i64 a.m, .slice ka a.kids.length kc, .slice aa a.arms.length ac, .int .i64 tk, .string tn, .int .i64 ti, .int .i64 th, .slice ta tl tc] a) ?_ ?_ ?_ ?_ ?_); (rfl); (rfl); (first | rfl | (show Value.int IntKind.i64 (IntKind.i64.wrap (z - 1)) = Value.int IntKind.i64 (z - 1); rw [hwr])); (exact (HT.out _ HW8.out.eb.rd HW8.out.eb.grown).mono fun e w' h => by obtain ⟨_, rfl, u, c, rfl, h2, hok, h3, h4⟩ := h; exact ⟨_, rfl, u, c, rfl, h2.imp fun g hg => ⟨Nat.lt_of_lt_of_le (Nat.lt_trans HW8.out.eb.h1 HW8.out.eb.lt) hg, Nat.ne_of_gt (Nat.lt_of_lt_of_le HW8.out.eb.lt hg)⟩, hok, HW8.out.call h3 h4⟩); (rintro r w9 ⟨u, c, rfl, hrep, hok2, hv⟩); (obtain ⟨ka2, kc2, aa2, ac2, tk2, tn2, ti2, th2, ta2, tl2, tc2, rfl⟩ := hrep.form); (have HRp := Lib.hid hrep); (have HV := Lib.hid hv); (have HOu := Lib.hid hok2); (clear hrep hv hok2); (obtain ⟨x0, x1, x2, x3, x4, x5, x6, x7, x8, x9, x10⟩ := HV.out.eb.box.all11); (obtain ⟨z0, z1, z2, z3, z4, z5, z6, z7, z8, z9, z10⟩ := HV.out.eb.zall); (obtain ⟨y0, y1, y2, y3, y4, y5, y6, y7, y8, y9, y10⟩ := HV.out.eb.res.free11); (have hlt0 := HV.out.eb.res.lt)))
    all_goals
      obtain ⟨v10, hv10⟩ : ∃ v10, v10 = (((((((((((w9.setCell ⟨w.heap.size, 0, none⟩ (.int .i64 (6 + m))).setCell ⟨w.heap.size, 1, none⟩ (.int .i64 0)).setCell ⟨w.heap.size, 2, none⟩ (.string nm)).setCell ⟨w.heap.size, 3, none⟩ (.int .i64 0)).setCell ⟨w.heap.size, 4, none⟩ (.slice (some ⟨w9.heap.size, 0, none⟩) 2 2)).setCell ⟨w.heap.size, 5, none⟩ (.slice none 0 0)).setCell ⟨w.heap.size, 6, none⟩ (.int .i64 0)).setCell ⟨w.heap.size, 7, none⟩ (.string ⟨#[]⟩)).setCell ⟨w.heap.size, 8, none⟩ (.int .i64 0)).setCell ⟨w.heap.size, 9, none⟩ (.int .i64 0)).setCell ⟨w.heap.size, 10, none⟩ (.slice none 0 0)).alloc (.cells #[.int .i64 a.k, .int .i64 a.p, .string a.n, .int .i64 a.m, .slice ka a.kids.length kc, .slice aa a.arms.length ac, .int .i64 tk, .string tn, .int .i64 ti, .int .i64 th, .slice ta tl tc, .int .i64 u.k, .int .i64 u.p, .string u.n, .int .i64 u.m, .slice ka2 u.kids.length kc2, .slice aa2 u.arms.length ac2, .int .i64 tk2, .string tn2, .int .i64 ti2, .int .i64 th2, .slice ta2 tl2 tc2] 36) := ⟨_, rfl⟩
      obtain ⟨hB8, hRes, hRd, hGr⟩ := HV.out.loc HRp.out (6 + m) 0 nm HNs.out hbase v10 hv10
      have HFin := Lib.hid (And.intro hRes (And.intro hRd hGr))
      rw [← hv10]
      clear hv10 hRes hRd hGr x0 x1 x2 x3 x4 x5 x6 x7 x8 x9 x10 y0 y1 y2 y3 y4 y5 y6 y7 y8 y9 y10 z0 z1 z2 z3 z4 z5 z6 z7 z8 z9 z10 d0 d1 d2 d3 d4 d5 d6 d7 d8 d9 d10 HV HRp HW8 hwr
      obtain ⟨e0, e1, e2, e3, e4, e5, e6, e7, e8, e9, e10⟩ := hB8.all11
      go_wp2
      refine bodyPost_ret (by simp [results, Try.results9, go_sem, e0, e1, e2, e3, e4, e5, e6, e7, e8, e9, e10]; try rfl) rfl ?_
      exact raw_fin HFin.out (okE_let (by omega) HNm.out HOa.out HOu.out)
end Go.Proofs.Ytljgpgmaceackaa.MR
