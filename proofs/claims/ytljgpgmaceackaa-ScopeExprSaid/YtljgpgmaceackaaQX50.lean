import Derived.Test.YtljgpgmaceackaaQX48
/- The maker of expressions: constructors of a declaration. -/
namespace Go.Proofs.Ytljgpgmaceackaa.MR
open Go.RowKit Go.Maps Mth

theorem PX.zall {w v : World} {b R0 : Nat} (h : PX w v b R0) : v.cell? ⟨R0, 0, none⟩ = some (.int .i64 0) ∧ v.cell? ⟨R0, 1, none⟩ = some (.int .i64 0) ∧ v.cell? ⟨R0, 2, none⟩ = some (.string ⟨#[]⟩) ∧ v.cell? ⟨R0, 3, none⟩ = some (.int .i64 0) ∧ v.cell? ⟨R0, 4, none⟩ = some (.slice none 0 0) ∧ v.cell? ⟨R0, 5, none⟩ = some (.slice none 0 0) ∧ v.cell? ⟨R0, 6, none⟩ = some (.int .i64 0) ∧ v.cell? ⟨R0, 7, none⟩ = some (.string ⟨#[]⟩) ∧ v.cell? ⟨R0, 8, none⟩ = some (.int .i64 0) ∧ v.cell? ⟨R0, 9, none⟩ = some (.int .i64 0) ∧ v.cell? ⟨R0, 10, none⟩ = some (.slice none 0 0) :=
  ⟨h.res.cell 0 _ rfl, h.res.cell 1 _ rfl, h.res.cell 2 _ rfl, h.res.cell 3 _ rfl, h.res.cell 4 _ rfl, h.res.cell 5 _ rfl, h.res.cell 6 _ rfl, h.res.cell 7 _ rfl, h.res.cell 8 _ rfl, h.res.cell 9 _ rfl, h.res.cell 10 _ rfl⟩
theorem PX.other {w v v' : World} {b R0 R : Nat} (h : PX w v b R0) (hR : R0 < R) (hg : v.grownBy v' (some R)) : PX w v' b R0 := by
  have hb := h.hb; have h0 := h.h0
  exact ⟨h.rd.other (by omega) hg, h.res.grown hg (by intro e; have := Option.some.inj e; omega), grown_fresh h.grown hg (fun k e => by have := Option.some.inj e; omega), h0, hb⟩
/-- The result is a leaf. -/
theorem PX.leaf {w v : World} {b R0 base : Nat} (h : PX w v b R0) (kk : Int) (nm : ByteArray) (hn : nm.size ≤ maxLen) (V : World)
    (hV : V = (((((((((((v.setCell ⟨R0, 0, none⟩ (.int .i64 kk)).setCell ⟨R0, 1, none⟩ (.int .i64 0)).setCell ⟨R0, 2, none⟩ (.string nm)).setCell ⟨R0, 3, none⟩ (.int .i64 0)).setCell ⟨R0, 4, none⟩ (.slice none 0 0)).setCell ⟨R0, 5, none⟩ (.slice none 0 0)).setCell ⟨R0, 6, none⟩ (.int .i64 0)).setCell ⟨R0, 7, none⟩ (.string ⟨#[]⟩)).setCell ⟨R0, 8, none⟩ (.int .i64 0)).setCell ⟨R0, 9, none⟩ (.int .i64 0)).setCell ⟨R0, 10, none⟩ (.slice none 0 0))) :
    BoxC 36 V R0 [.int .i64 kk, .int .i64 0, .string nm, .int .i64 0, .slice none 0 0, .slice none 0 0, .int .i64 0, .string ⟨#[]⟩, .int .i64 0, .int .i64 0, .slice none 0 0] ∧ RepE V (fun g => base ≤ g) (.mk kk 0 nm 0 zTy [] []) [.int .i64 kk, .int .i64 0, .string nm, .int .i64 0, .slice none 0 0, .slice none 0 0, .int .i64 0, .string ⟨#[]⟩, .int .i64 0, .int .i64 0, .slice none 0 0] ∧ S3.Tq V b ∧ w.grownBy V (some b) := by
  obtain ⟨h1, h2, -⟩ := BoxC.set11s (show BoxC 36 v R0 [.int .i64 0, .int .i64 0, .string ⟨#[]⟩, .int .i64 0, .slice none 0 0, .slice none 0 0, .int .i64 0, .string ⟨#[]⟩, .int .i64 0, .int .i64 0, .slice none 0 0] from h.res) (.int .i64 kk) (.int .i64 0) (.string nm) (.int .i64 0) (.slice none 0 0) (.slice none 0 0) (.int .i64 0) (.string ⟨#[]⟩) (.int .i64 0) (.int .i64 0) (.slice none 0 0)
  rw [← hV] at h1 h2
  exact ⟨h1, repE_leaf V _ kk 0 nm 0 hn, h.fin h2⟩
/-- What the maker's declarations are like. -/
def ctOk (d : Dat) : Bool := decide (1 ≤ d.ctors.length) && decide (d.ctors.length ≤ 2) && d.ctors.all fun c => cnOk c.name && decide (c.fields.length ≤ 2)
theorem all_ct : S3.allDats.all ctOk = true := by decide +kernel
theorem ct_of {ds : List Dat} (h : S3.Some_ ds) {d : Dat} (hd : d ∈ ds) : 1 ≤ d.ctors.length ∧ d.ctors.length ≤ 2 ∧ ∀ c ∈ d.ctors, cnOk c.name = true ∧ c.fields.length ≤ 2 := by
  have := List.all_eq_true.1 all_ct d (h.2 d hd)
  unfold ctOk at this
  simp only [Bool.and_eq_true, decide_eq_true_eq, List.all_eq_true] at this
  exact ⟨this.1.1, this.1.2, this.2⟩
/-- A declaration's cells. -/
structure DAt (w : World) (b : Nat) (D0 : Dat) (ad : Addr) (pa : Option Addr) (pc : Nat) (ca : Addr) (cc : Nat) : Prop where
  d0 : ∀ v, w.grownBy v (some b) → v.cell? ad = some (.int .i64 D0.pos) ∧ v.cell? ⟨ad.block, ad.off + 1, none⟩ = some (.string D0.name) ∧ v.cell? ⟨ad.block, ad.off + 2, none⟩ = some (.slice pa D0.params.length pc) ∧ v.cell? ⟨ad.block, ad.off + 3, none⟩ = some (.slice (some ca) D0.ctors.length cc)
  hm : D0.ctors.length ≤ cc
  ct : ∀ (k : Nat) (C : Ctor), D0.ctors[k]? = some C → ∃ fa fc, C.fields.length ≤ fc ∧ ∀ v, w.grownBy v (some b) → v.cell? ⟨(ca.add (k * 3)).block, (ca.add (k * 3)).off + 1, none⟩ = some (.string C.name) ∧ v.cell? ⟨(ca.add (k * 3)).block, (ca.add (k * 3)).off + 2, none⟩ = some (.slice fa C.fields.length fc)
theorem dat_at {w : World} {b : Nat} {ds : List Dat} {da : Option Addr} {dn dc : Nat} {S : Nat → Prop} (hS : ∀ g, S g → g ≠ b) (h : SlG DatE w S ds (.slice da dn dc)) {q : Nat} {D0 : Dat} (hq : ds[q]? = some D0) (hne : 1 ≤ D0.ctors.length) :
    ∃ ad pa pc ca cc, da = some ad ∧ DAt w b D0 (ad.add (q * 4)) pa pc ca cc := by
  obtain ⟨ad, cl, rfl, hs0, ⟨pv, cv, rfl, hp, hc⟩, hc0, hcm⟩ := S3.slG_get h hq
  have q0 := hc0 _ rfl
  have q1 := hcm 1 _ (by decide) rfl
  have q2 := hcm 2 _ (by decide) rfl
  have q3 := hcm 3 _ (by decide) rfl
  simp only [show DatE.k = 4 from rfl] at q0 q1 q2 q3
  obtain ⟨pa, pc, rfl⟩ := S3.slG_form hp
  obtain ⟨ca, cc, rfl⟩ := S3.slG_form hc
  obtain ⟨c0, hc00⟩ : ∃ x, D0.ctors[0]? = some x := ⟨_, List.getElem?_eq_getElem (by omega)⟩
  have hcS := hc
  obtain ⟨ca', cap, e, ⟨hcap, -⟩, -⟩ := hcS
  simp only [Value.slice.injEq] at e
  obtain ⟨rfl, -, rfl⟩ := e
  obtain ⟨ca1, -, rfl, -, -, -, -⟩ := S3.slG_get hc hc00
  have hne1 : ∀ o, (⟨(ad.add (q * 4)).block, o, none⟩ : Addr).block ≠ b := fun o => by rw [show (⟨(ad.add (q * 4)).block, o, none⟩ : Addr).block = ad.block from add_block _ _]; exact hS _ hs0
  have lift : ∀ {v : World} {p : Addr} {x : Value}, w.grownBy v (some b) → w.cell? p = some x → p.block ≠ b → v.cell? p = some x := fun hg hx hn => hg.cell hx (by intro e; exact hn (Option.some.inj e))
  refine ⟨ad, pa, pc, ca1, cc, rfl, fun v hg => ⟨lift hg q0 (by rw [add_block]; exact hS _ hs0), lift hg q1 (hne1 _), lift hg q2 (hne1 _), lift hg q3 (hne1 _)⟩, hcap, fun k C hC => ?_⟩
  obtain ⟨ca2, cl2, e2, hs2, ⟨fv, rfl, hf⟩, -, hm2⟩ := S3.slG_get hc hC
  cases e2
  have r1 := hm2 1 _ (by decide) rfl
  have r2 := hm2 2 _ (by decide) rfl
  simp only [show CtorE.k = 3 from rfl] at r1 r2
  have hfS := hf
  obtain ⟨fa', fcap, e3, ⟨hfc, -⟩, -⟩ := hfS
  subst e3
  have hne2 : ∀ o, (⟨(ca1.add (k * 3)).block, o, none⟩ : Addr).block ≠ b := fun o => by rw [show (⟨(ca1.add (k * 3)).block, o, none⟩ : Addr).block = ca1.block from add_block _ _]; exact hS _ hs2
  exact ⟨_, _, hfc, fun v hg => ⟨lift hg r1 (hne2 _), lift hg r2 (hne2 _)⟩⟩
theorem enterNext (v u : Value) (w : World) : (callFunc 19 #[v, u]).run Try.prog w = .ok (.enter 19 #[v, u]) w := by kernel_rfl
/-- The declaration was chosen and lies in its variable. -/
structure DV (w v : World) (b R0 D : Nat) (D0 : Dat) (pa : Option Addr) (pc : Nat) (ca : Addr) (cc : Nat) : Prop where
  px : PX w v b R0
  dat : S3.BoxK v D (.int .i64 D0.pos) (.string D0.name) (.slice pa D0.params.length pc) (.slice (some ca) D0.ctors.length cc)
  h6 : R0 < D
  lt : D < v.heap.size
theorem DV.call {w v v' : World} {b R0 D : Nat} {D0 : Dat} {pa : Option Addr} {pc : Nat} {ca : Addr} {cc : Nat} (h : DV w v b R0 D D0 pa pc ca cc) (ht : S3.Tq v' b) (hg : v.grownBy v' (some b)) : DV w v' b R0 D D0 pa pc ca cc := by
  have := h.px.hb; have := h.px.h0; have := h.h6
  exact ⟨h.px.call ht hg, (hg.block D h.lt (by intro e; have := Option.some.inj e; omega)).trans h.dat, h.h6, Nat.lt_of_lt_of_le h.lt hg.size⟩
theorem DV.lift {w v v' : World} {b R0 D : Nat} {D0 : Dat} {pa : Option Addr} {pc : Nat} {ca : Addr} {cc : Nat} (h : DV w v b R0 D D0 pa pc ca cc) (hb : Below v.heap.size v v') : DV w v' b R0 D D0 pa pc ca cc := h.call (h.px.rd.lift hb) (below_grown_some hb b)
theorem dv_new {w v v' : World} {b R0 : Nat} {D0 : Dat} {pa : Option Addr} {pc : Nat} {ca : Addr} {cc : Nat} (h : PX w v b R0) (hB : S3.BoxK v' v.heap.size (.int .i64 D0.pos) (.string D0.name) (.slice pa D0.params.length pc) (.slice (some ca) D0.ctors.length cc)) (hg : (v.alloc (.cells #[.int .i64 0, .string ⟨#[]⟩, .slice none 0 0, .slice none 0 0] 61)).grownBy v' (some v.heap.size)) : DV w v' b R0 v.heap.size D0 pa pc ca cc := by
  have h1 := h.lift ((Below.refl _ v).alloc (Nat.le_refl _) (.cells #[.int .i64 0, .string ⟨#[]⟩, .slice none 0 0, .slice none 0 0] 61))
  have hlt := h.res.lt
  exact ⟨h1.other hlt hg, hB, hlt, (Array.getElem?_eq_some_iff.1 hB).1⟩
set_option maxRecDepth 100000 in
set_option maxHeartbeats 6400000 in
theorem raw_con (d b base : Nat) (z r : Int) (w : World) (ds : List Dat) (da : Option Addr) (dn dc : Nat) (S : Nat → Prop) (hdn : dn = ds.length) (hd0 : 0 < dn) (hd8 : dn ≤ 8) (hds : S3.Some_ ds) (hD : SlG DatE w S ds (.slice da dn dc)) (hSb : ∀ g, S g → g ≠ b) (hk : (z < 1 ∧ (r = 3 ∨ r = 8 ∨ r = 13)) ∨ (1 ≤ z ∧ (r = 3))) (ht : S3.Tq w b) (_ : base ≤ w.heap.size) (HN : NX w b r) :
    Calls Try.prog 9 #[.pointer (some ⟨b, 0, none⟩), .slice da dn dc, .int .i64 z] w (RawEnd d base b w) := by
  have HDn := Lib.hid hdn
  have HDS := Lib.hid hds
  have HD := Lib.hid hD
  have HSb := Lib.hid hSb
  clear hdn hds hD hSb
  have HP0 := Lib.hid (PX.start ht)
  have hlt := ht.lt
  unfold NX at HN
  have HNx := Lib.hid HN
  clear HN ht
  rcases hk with ⟨hz, rfl | rfl | rfl⟩ | ⟨hz, rfl⟩
  all_goals
    go_enter Try.func9, Try.ntmps9
    go_wp2_with fail
    go_at_call 19
    generalize (w.alloc (.cells #[.int .i64 0, .int .i64 0, .string ⟨#[]⟩, .int .i64 0, .slice none 0 0, .slice none 0 0, .int .i64 0, .string ⟨#[]⟩, .int .i64 0, .int .i64 0, .slice none 0 0] 36)) = w0 at *
    refine HNx.out.mono ?_
    rintro e w1 ⟨rfl, ht1, hg1⟩
    have HP1 := Lib.hid (HP0.out.call ht1 hg1)
    clear ht1 hg1 HNx HP0
    obtain ⟨q, hq0, hq1, hn2⟩ := next_r dn (by omega) (by omega) b w1 HP1.out.rd
    obtain ⟨q, rfl⟩ : ∃ n : Nat, q = n := ⟨q.toNat, by omega⟩
    have HN2 := Lib.hid hn2
    clear hn2
    have hql : q < ds.length := by rw [← HDn.out]; omega
    obtain ⟨D0, hD0⟩ : ∃ x, ds[q]? = some x := ⟨_, List.getElem?_eq_getElem hql⟩
    have HCt := Lib.hid (ct_of HDS.out (List.mem_of_getElem? hD0))
    obtain ⟨ad, pa, pc, ca, cc, rfl, hdat⟩ := dat_at HSb.out HD.out hD0 HCt.out.1
    have HDat := Lib.hid hdat
    clear hdat hD0 hql
    go_wp2_with fail
    go_at_call 19
    refine HN2.out.mono ?_
    rintro e w2 ⟨rfl, ht2, hg2⟩
    have HP2 := Lib.hid (HP1.out.call ht2 hg2)
    clear ht2 hg2 HN2 HP1
    obtain ⟨q0, q1, q2, q3⟩ := HDat.out.d0 _ HP2.out.grown
    have HBM : Hid (∀ w : World, S3.BoxK (w.alloc (.cells #[.int .i64 0, .string ⟨#[]⟩, .slice none 0 0, .slice none 0 0] 61)) w.heap.size (.int .i64 0) (.string ⟨#[]⟩) (.slice none 0 0) (.slice none 0 0)) := fun w => heap_alloc_new w _
    go_wp2_with (refine S3.wpList_storeD rfl _ _ rfl _ _ _ _ _ (HBM.out _) rfl _ _ _ _ _ _ _ _ rfl ?_; intro w3 hB3 hg3 hs3)
    have HDv := Lib.hid (dv_new (w := w) HP2.out hB3 hg3)
    clear hB3 hg3 hs3 q0 q1 q2 q3 HBM HP2
    generalize w2.heap.size = D at *
    have hm1 := HCt.out.1
    have hm2 := HCt.out.2.1
    have hmc := HDat.out.hm
    obtain ⟨cn, hcn⟩ : ∃ n, n = D0.ctors.length := ⟨_, rfl⟩
    have HCl : Hid (D0.ctors.length = cn) := hcn.symm
    obtain ⟨k, hk0, hk1, hnk⟩ := next_r cn (by omega) (by omega) b w3.drew (HDv.out.px.rd.lift (Below.refl _ _).drew)
    obtain ⟨k, rfl⟩ : ∃ n : Nat, k = n := ⟨k.toNat, by omega⟩
    obtain ⟨C, hC⟩ : ∃ x, D0.ctors[k]? = some x := ⟨_, List.getElem?_eq_getElem (by omega)⟩
    have HCn := Lib.hid (HCt.out.2.2 C (List.mem_of_getElem? hC)).1
    obtain ⟨fa, fc, -, hct⟩ := HDat.out.ct k C hC
    have HCc := Lib.hid hct
    have HNk := Lib.hid hnk
    have HV3 := Lib.hid (HDv.out.lift (Below.refl _ _).drew)
    have hb3 := HV3.out.dat
    unfold S3.BoxK at hb3
    rw [← hcn] at hb3 hm1 hm2 hmc
    have p3 := (S3.cell_of_block hb3 (m := 3) rfl).1
    have hkn : k < cn := by omega
    clear hct hnk hb3 hC hcn
    go_upto_region 13 with fail
    go_region_law
      (((with_reducible refine step_call2 19 enterNext (.pointer (some ⟨b, 0, none⟩)) (.int .i64 cn) (fun r w' => r = .int .i64 (k : Int) ∧ DV w w' b w.heap.size D D0 pa pc ca cc) ?_ ?_ ?_ ?_); (rfl); (rfl); (exact HNk.out.mono fun e w' h => ⟨_, h.1, rfl, HV3.out.call h.2.1 h.2.2⟩); (rintro r w9 ⟨rfl, hv⟩); (have HV := Lib.hid hv); (obtain ⟨c1, -⟩ := HCc.out _ hv.px.grown); (obtain ⟨z0, z1, z2, z3, z4, z5, z6, z7, z8, z9, z10⟩ := hv.px.zall); (obtain ⟨y0, y1, y2, y3, y4, y5, y6, y7, y8, y9, y10⟩ := hv.px.res.free11); (have hlt0 := hv.px.res.lt); (have hb9 := hv.dat); (unfold S3.BoxK at hb9); (have p9 := (S3.cell_of_block hb9 (m := 3) rfl).1); (rw [HCl.out] at p9); (clear hv hb9)))
    all_goals
      obtain ⟨v10, hv10⟩ : ∃ v10, v10 = (((((((((((w9.setCell ⟨w.heap.size, 0, none⟩ (.int .i64 2)).setCell ⟨w.heap.size, 1, none⟩ (.int .i64 0)).setCell ⟨w.heap.size, 2, none⟩ (.string C.name)).setCell ⟨w.heap.size, 3, none⟩ (.int .i64 0)).setCell ⟨w.heap.size, 4, none⟩ (.slice none 0 0)).setCell ⟨w.heap.size, 5, none⟩ (.slice none 0 0)).setCell ⟨w.heap.size, 6, none⟩ (.int .i64 0)).setCell ⟨w.heap.size, 7, none⟩ (.string ⟨#[]⟩)).setCell ⟨w.heap.size, 8, none⟩ (.int .i64 0)).setCell ⟨w.heap.size, 9, none⟩ (.int .i64 0)).setCell ⟨w.heap.size, 10, none⟩ (.slice none 0 0)) := ⟨_, rfl⟩
      obtain ⟨hB8, hRes, hRd, hGr⟩ := HV.out.px.leaf (base := base) 2 C.name (cn_size HCn.out) v10 hv10
      have HFin := Lib.hid (And.intro hRes (And.intro hRd hGr))
      rw [← hv10]
      clear hv10 hRes hRd hGr y0 y1 y2 y3 y4 y5 y6 y7 y8 y9 y10 z0 z1 z2 z3 z4 z5 z6 z7 z8 z9 z10 HV
      obtain ⟨e0, e1, e2, e3, e4, e5, e6, e7, e8, e9, e10⟩ := hB8.all11
      go_wp2
      refine bodyPost_ret (by simp [results, Try.results9, go_sem, e0, e1, e2, e3, e4, e5, e6, e7, e8, e9, e10]; try rfl) rfl ?_
      exact raw_fin HFin.out (okE_con d HCn.out)
end Go.Proofs.Ytljgpgmaceackaa.MR
