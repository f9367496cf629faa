import Derived.Test.YtljgpgmaceackaaQX14
import Derived.Test.YtljgpgmaceackaaQX50
import Derived.Deep.LoopGhost
import Derived.Test.YtljgpgmaceackaaQX48
import Derived.Test.YtljgpgmaceackaaQX51
/- The maker of expressions: a case. -/
namespace Go.Proofs.Ytljgpgmaceackaa.MR
open Go.RowKit Go.Maps Mth

/-- What holds between two arms, the declaration beside it. -/
structure DZ (w v : World) (b R0 R1 B2 D : Nat) (D0 : Dat) (pa : Option Addr) (pc : Nat) (ca : Addr) (cc : Nat) (c : List Value) (a : Ex) (kv sv : Value) (l : List (AH × Ex)) : Prop where
  cz : CZ w v b R0 R1 B2 c a kv sv l
  dat : S3.BoxK v D (.int .i64 D0.pos) (.string D0.name) (.slice pa D0.params.length pc) (.slice (some ca) D0.ctors.length cc)
  h6 : R0 < D
  h7 : D < R1
theorem boxK_lt {v : World} {D : Nat} {x0 x1 x2 x3 : Value} (h : S3.BoxK v D x0 x1 x2 x3) : D < v.heap.size := (Array.getElem?_eq_some_iff.1 h).1
theorem boxK_grown {v v' : World} {D : Nat} {x0 x1 x2 x3 : Value} {row : Option Nat} (h : S3.BoxK v D x0 x1 x2 x3) (hg : v.grownBy v' row) (hne : some D ≠ row) : S3.BoxK v' D x0 x1 x2 x3 := (hg.block D (boxK_lt h) hne).trans h
theorem DZ.call {w v v' : World} {b R0 R1 B2 D : Nat} {D0 : Dat} {pa : Option Addr} {pc : Nat} {ca : Addr} {cc : Nat} {c : List Value} {a : Ex} {kv sv : Value} {l : List (AH × Ex)} (h : DZ w v b R0 R1 B2 D D0 pa pc ca cc c a kv sv l) (ht : S3.Tq v' b) (hg : v.grownBy v' (some b)) : DZ w v' b R0 R1 B2 D D0 pa pc ca cc c a kv sv l := by
  have := h.cz.ck.eb.hb; have := h.cz.ck.eb.h0; have := h.h6
  exact ⟨h.cz.call ht hg, boxK_grown h.dat hg (by intro e; have := Option.some.inj e; omega), h.h6, h.h7⟩
theorem DZ.lift {w v v' : World} {b R0 R1 B2 D : Nat} {D0 : Dat} {pa : Option Addr} {pc : Nat} {ca : Addr} {cc : Nat} {c : List Value} {a : Ex} {kv sv : Value} {l : List (AH × Ex)} (h : DZ w v b R0 R1 B2 D D0 pa pc ca cc c a kv sv l) (hb : Below v.heap.size v v') : DZ w v' b R0 R1 B2 D D0 pa pc ca cc c a kv sv l := h.call (h.cz.ck.eb.rd.lift hb) (below_grown_some hb b)
theorem DZ.push {w v v' : World} {b R0 R1 B2 D : Nat} {D0 : Dat} {pa : Option Addr} {pc : Nat} {ca : Addr} {cc : Nat} {c : List Value} {a : Ex} {kv sv : Value} {l : List (AH × Ex)} {sv' : Value} {l' : List (AH × Ex)} (h : DZ w v b R0 R1 B2 D D0 pa pc ca cc c a kv sv l) (hrow : RowG AmE v' B2 (fun g => B2 ≤ g) sv' l') (hg : v.grownBy v' sv.ownBlock) : DZ w v' b R0 R1 B2 D D0 pa pc ca cc c a kv sv' l' := by
  have h2 := h.cz.ck.h2; have h7 := h.h7
  exact ⟨h.cz.push hrow hg, boxK_grown h.dat hg (fun e => by have := (h.cz.row.lt D e.symm).1; omega), h.h6, h.h7⟩
theorem DZ.set {w v : World} {b R0 R1 B2 D : Nat} {D0 : Dat} {pa : Option Addr} {pc : Nat} {ca : Addr} {cc : Nat} {c : List Value} {a : Ex} {kv sv : Value} {l : List (AH × Ex)} (h : DZ w v b R0 R1 B2 D D0 pa pc ca cc c a kv sv l) (m : Nat) (u : Value) : DZ w (v.setCell ⟨R1, m, none⟩ u) b R0 R1 B2 D D0 pa pc ca cc (c.set m u) a kv sv l := by
  obtain ⟨-, h2, -⟩ := h.cz.ck.eb.box.set m u
  have h7 := h.h7
  exact ⟨h.cz.set m u, boxK_grown h.dat h2 (by intro e; have := Option.some.inj e; omega), h.h6, h.h7⟩
/-- The same with the arm's variable. -/
structure RD (w v : World) (b R0 R1 B2 R2 D : Nat) (D0 : Dat) (pa : Option Addr) (pc : Nat) (ca : Addr) (cc : Nat) (c : List Value) (a : Ex) (kv sv : Value) (l : List (AH × Ex)) (d : List Value) (nv : Value) (acc : List ByteArray) : Prop where
  rz : RZ w v b R0 R1 B2 R2 c a kv sv l d nv acc
  dat : S3.BoxK v D (.int .i64 D0.pos) (.string D0.name) (.slice pa D0.params.length pc) (.slice (some ca) D0.ctors.length cc)
  h6 : R0 < D
  h7 : D < R1
theorem RD.mk' {w v : World} {b R0 R1 B2 D : Nat} {D0 : Dat} {pa : Option Addr} {pc : Nat} {ca : Addr} {cc : Nat} {c : List Value} {a : Ex} {kv sv : Value} {l : List (AH × Ex)} (h : DZ w v b R0 R1 B2 D D0 pa pc ca cc c a kv sv l) (d : List Value) : RD w (v.alloc (.cells d.toArray 55)) b R0 R1 B2 v.heap.size D D0 pa pc ca cc c a kv sv l d (.slice none 0 0) [] :=
  ⟨RZ.mk' h.cz d, boxK_grown h.dat (World.grownBy_alloc v _ none) (by simp), h.h6, h.h7⟩
theorem RD.call {w v v' : World} {b R0 R1 B2 R2 D : Nat} {D0 : Dat} {pa : Option Addr} {pc : Nat} {ca : Addr} {cc : Nat} {c : List Value} {a : Ex} {kv sv : Value} {l : List (AH × Ex)} {d : List Value} {nv : Value} {acc : List ByteArray} (h : RD w v b R0 R1 B2 R2 D D0 pa pc ca cc c a kv sv l d nv acc) (ht : S3.Tq v' b) (hg : v.grownBy v' (some b)) : RD w v' b R0 R1 B2 R2 D D0 pa pc ca cc c a kv sv l d nv acc := by
  have := h.rz.ck.eb.hb; have := h.rz.ck.eb.h0; have := h.h6
  exact ⟨h.rz.call ht hg, boxK_grown h.dat hg (by intro e; have := Option.some.inj e; omega), h.h6, h.h7⟩
theorem RD.lift {w v v' : World} {b R0 R1 B2 R2 D : Nat} {D0 : Dat} {pa : Option Addr} {pc : Nat} {ca : Addr} {cc : Nat} {c : List Value} {a : Ex} {kv sv : Value} {l : List (AH × Ex)} {d : List Value} {nv : Value} {acc : List ByteArray} (h : RD w v b R0 R1 B2 R2 D D0 pa pc ca cc c a kv sv l d nv acc) (hb : Below v.heap.size v v') : RD w v' b R0 R1 B2 R2 D D0 pa pc ca cc c a kv sv l d nv acc := h.call (h.rz.ck.eb.rd.lift hb) (below_grown_some hb b)
theorem RD.push {w v v' : World} {b R0 R1 B2 R2 D : Nat} {D0 : Dat} {pa : Option Addr} {pc : Nat} {ca : Addr} {cc : Nat} {c : List Value} {a : Ex} {kv sv : Value} {l : List (AH × Ex)} {d : List Value} {nv : Value} {acc : List ByteArray} {nv' : Value} {acc' : List ByteArray} (h : RD w v b R0 R1 B2 R2 D D0 pa pc ca cc c a kv sv l d nv acc) (hrow : RowG StrE v' (R2 + 1) (fun _ => False) nv' acc') (hg : v.grownBy v' nv.ownBlock) : RD w v' b R0 R1 B2 R2 D D0 pa pc ca cc c a kv sv l d nv' acc' := by
  have h2 := h.rz.ck.h2; have h4 := h.rz.h4; have h7 := h.h7
  exact ⟨h.rz.push hrow hg, boxK_grown h.dat hg (fun e => by have := (h.rz.nrow.lt D e.symm).1; omega), h.h6, h.h7⟩
theorem RD.set {w v : World} {b R0 R1 B2 R2 D : Nat} {D0 : Dat} {pa : Option Addr} {pc : Nat} {ca : Addr} {cc : Nat} {c : List Value} {a : Ex} {kv sv : Value} {l : List (AH × Ex)} {d : List Value} {nv : Value} {acc : List ByteArray} (h : RD w v b R0 R1 B2 R2 D D0 pa pc ca cc c a kv sv l d nv acc) (m : Nat) (u : Value) : RD w (v.setCell ⟨R2, m, none⟩ u) b R0 R1 B2 R2 D D0 pa pc ca cc c a kv sv l (d.set m u) nv acc := by
  obtain ⟨-, h2, -⟩ := h.rz.box.set m u
  have h3 := h.rz.ck.h2; have h4 := h.rz.h4; have h7 := h.h7
  exact ⟨h.rz.set m u, boxK_grown h.dat h2 (by intro e; have := Option.some.inj e; omega), h.h6, h.h7⟩
theorem RD.full {w v v' : World} {b R0 R1 B2 R2 D : Nat} {D0 : Dat} {pa : Option Addr} {pc : Nat} {ca : Addr} {cc : Nat} {c : List Value} {a : Ex} {kv sv : Value} {l : List (AH × Ex)} {d : List Value} {nv : Value} {acc : List ByteArray} {p : Int} {n : ByteArray} {e : List Value} {U : Ex} (h : RD w v b R0 R1 B2 R2 D D0 pa pc ca cc c a kv sv l d nv acc) (hg : v.grownBy v' (some R2)) (hU : RepE v (fun g => R2 < g) U e) :
    DZ w v' b R0 R1 B2 D D0 pa pc ca cc c a kv sv l ∧ AmE.rep v' (fun g => B2 ≤ g ∧ some g ≠ sv.ownBlock) (⟨p, n, acc⟩, U) (.int .i64 p :: .string n :: nv :: e) := by
  have h3 := h.rz.ck.h2; have h4 := h.rz.h4; have h7 := h.h7
  obtain ⟨h1, h2⟩ := h.rz.full (p := p) (n := n) hg hU
  exact ⟨⟨h1, boxK_grown h.dat hg (by intro e; have := Option.some.inj e; omega), h.h6, h.h7⟩, h2⟩
/-- The case's variable is made. -/
theorem dz_new {w v : World} {b R0 D : Nat} {D0 : Dat} {pa : Option Addr} {pc : Nat} {ca : Addr} {cc : Nat} {a : Ex} {c : List Value} (h : DV w v b R0 D D0 pa pc ca cc) (hr : RepE v (fun g => R0 < g) a c) (c8 : List Value) (V : World) (hV : V = (v.alloc (.cells c.toArray 36)).alloc (.cells c8.toArray 36)) :
    DZ w V b R0 (v.heap.size + 1) (v.heap.size + 2) D D0 pa pc ca cc c8 a (.slice (some ⟨v.heap.size, 0, none⟩) 1 1) (.slice none 0 0) [] := by
  have hz := cz_new h.px hr c8 V hV
  have hlt := h.lt
  have hb : Below v.heap.size v V := by rw [hV]; exact ((Below.refl _ v).alloc (Nat.le_refl _) _).alloc (by simp) _
  exact ⟨hz, (hb.block D h.lt).trans h.dat, h.h6, by omega⟩
theorem DZ.ctors {w v : World} {b R0 R1 B2 D : Nat} {D0 : Dat} {pa : Option Addr} {pc : Nat} {ca : Addr} {cc : Nat} {c : List Value} {a : Ex} {kv sv : Value} {l : List (AH × Ex)} (h : DZ w v b R0 R1 B2 D D0 pa pc ca cc c a kv sv l) : v.cell? ⟨D, 3, none⟩ = some (.slice (some ca) D0.ctors.length cc) := by
  have := h.dat
  unfold S3.BoxK at this
  exact (S3.cell_of_block this (m := 3) rfl).1
theorem RD.ctors {w v : World} {b R0 R1 B2 R2 D : Nat} {D0 : Dat} {pa : Option Addr} {pc : Nat} {ca : Addr} {cc : Nat} {c : List Value} {a : Ex} {kv sv : Value} {l : List (AH × Ex)} {d : List Value} {nv : Value} {acc : List ByteArray} (h : RD w v b R0 R1 B2 R2 D D0 pa pc ca cc c a kv sv l d nv acc) : v.cell? ⟨D, 3, none⟩ = some (.slice (some ca) D0.ctors.length cc) := by
  have := h.dat
  unfold S3.BoxK at this
  exact (S3.cell_of_block this (m := 3) rfl).1
theorem arms_ne {l : List (AH × Ex)} (h : 1 ≤ l.length) : l ≠ [] := by
  intro e
  rw [e] at h
  simp at h
theorem enterVar (v : Value) (w : World) : (callFunc 20 #[v]).run Try.prog w = .ok (.enter 20 #[v]) w := by kernel_rfl
set_option maxRecDepth 100000 in
set_option maxHeartbeats 16000000 in
theorem raw_case (d b base : Nat) (z r : Int) (w : World) (ds : List Dat) (da : Option Addr) (dn dc : Nat) (S : Nat → Prop) (hdn : dn = ds.length) (hd0 : 0 < dn) (hd8 : dn ≤ 8) (hds : S3.Some_ ds) (hD : SlG DatE w S ds (.slice da dn dc)) (hSb : ∀ g, S g → g ≠ b) (hz : 1 ≤ z) (hz5 : z ≤ 5) (hr : r = 13) (ht : S3.Tq w b) (hbase : base ≤ w.heap.size) (HN : NX w b r) (HS : Sub d b z (.slice da dn dc) w) :
    Calls Try.prog 9 #[.pointer (some ⟨b, 0, none⟩), .slice da dn dc, .int .i64 z] w (RawEnd (d + 1) base b w) := by
  have HV := Lib.hid (variable_q b)
  have HT := Lib.hid HS
  clear HS
  have HDn := Lib.hid hdn
  have HDS := Lib.hid hds
  have HD := Lib.hid hD
  have HSb := Lib.hid hSb
  clear hdn hds hD hSb
  have HP0 := Lib.hid (PX.start ht)
  have hlt := ht.lt
  unfold NX at HN
  have HNx := Lib.hid HN
  clear HN ht
  subst hr
  all_goals
    go_enter Try.func9, Try.ntmps9
    go_wp2_with fail
    go_at_call 19
    generalize (w.alloc (.cells #[.int .i64 0, .int .i64 0, .string ⟨#[]⟩, .int .i64 0, .slice none 0 0, .slice none 0 0, .int .i64 0, .string ⟨#[]⟩, .int .i64 0, .int .i64 0, .slice none 0 0] 36)) = w0 at *
    refine HNx.out.mono ?_
    rintro e w1 ⟨rfl, ht1, hg1⟩
    have HP1 := Lib.hid (HP0.out.call ht1 hg1)
    clear ht1 hg1 HNx HP0
    obtain ⟨q, hq0, hq1, hn2⟩ := next_r dn (by omega) (by omega) b w1 HP1.out.rd
    obtain ⟨q, rfl⟩ : ∃ n : Nat, q = n := ⟨q.toNat, by omega⟩
    have HN2 := Lib.hid hn2
    clear hn2
    have hql : q < ds.length := by rw [← HDn.out]; omega
    obtain ⟨D0, hD0⟩ : ∃ x, ds[q]? = some x := ⟨_, List.getElem?_eq_getElem hql⟩
    have HCt := Lib.hid (ct_of HDS.out (List.mem_of_getElem? hD0))
    obtain ⟨ad, pa, pc, ca, cc, rfl, hdat⟩ := dat_at HSb.out HD.out hD0 HCt.out.1
    have HDat := Lib.hid hdat
    clear hdat hD0 hql
    go_wp2_with fail
    go_at_call 19
    refine HN2.out.mono ?_
    rintro e w2 ⟨rfl, ht2, hg2⟩
    have HP2 := Lib.hid (HP1.out.call ht2 hg2)
    clear ht2 hg2 HN2 HP1
    obtain ⟨q0, q1, q2, q3⟩ := HDat.out.d0 _ HP2.out.grown
    have HBM : Hid (∀ w : World, S3.BoxK (w.alloc (.cells #[.int .i64 0, .string ⟨#[]⟩, .slice none 0 0, .slice none 0 0] 61)) w.heap.size (.int .i64 0) (.string ⟨#[]⟩) (.slice none 0 0) (.slice none 0 0)) := fun w => heap_alloc_new w _
    go_wp2_with (refine S3.wpList_storeD rfl _ _ rfl _ _ _ _ _ (HBM.out _) rfl _ _ _ _ _ _ _ _ rfl ?_; intro w3 hB3 hg3 hs3)
    have HDv := Lib.hid (dv_new (w := w) HP2.out hB3 hg3)
    clear hB3 hg3 hs3 q0 q1 q2 q3 HBM HP2
    generalize w2.heap.size = D at *
    have hm1 := HCt.out.1
    have hm2 := HCt.out.2.1
    have hmc := HDat.out.hm
    obtain ⟨cn, hcn⟩ : ∃ n, n = D0.ctors.length := ⟨_, rfl⟩
    have HCnl := Lib.hid hcn
    go_wp2_with fail
    go_at_call 9
    refine (HT.out _ HDv.out.px.rd HDv.out.px.grown).mono ?_
    rintro e w5 ⟨_, rfl, a, c, rfl, hrep, hok, ht5, hg5⟩
    obtain ⟨ka, kc, aa, ac, tk, tn, ti, th, ta, tl, tc, rfl⟩ := hrep.form
    have HD5 := Lib.hid (HDv.out.call ht5 hg5)
    have HRp := Lib.hid (hrep.imp_lt HDv.out.px.res.lt)
    have HOa := Lib.hid hok
    clear hrep hok ht5 hg5 HDv
    go_upto_region 38 with fail
    obtain ⟨V5, hV5⟩ : ∃ V5, V5 = (w5.alloc (.cells #[.int .i64 a.k, .int .i64 a.p, .string a.n, .int .i64 a.m, .slice ka a.kids.length kc, .slice aa a.arms.length ac, .int .i64 tk, .string tn, .int .i64 ti, .int .i64 th, .slice ta tl tc] 36)).alloc (.cells #[.int .i64 8, .int .i64 0, .string ⟨#[]⟩, .int .i64 0, .slice (some ⟨w5.heap.size, 0, none⟩) 1 1, .slice none 0 0, .int .i64 0, .string ⟨#[]⟩, .int .i64 0, .int .i64 0, .slice none 0 0] 36) := ⟨_, rfl⟩
    have HZ5 := Lib.hid (dz_new HD5.out HRp.out [.int .i64 8, .int .i64 0, .string ⟨#[]⟩, .int .i64 0, .slice (some ⟨w5.heap.size, 0, none⟩) 1 1, .slice none 0 0, .int .i64 0, .string ⟨#[]⟩, .int .i64 0, .int .i64 0, .slice none 0 0] V5 hV5)
    rw [← hV5]
    clear hV5 HD5 HRp
    generalize w5.heap.size = n5 at *
    rw [← hcn] at hm1 hm2 hmc
    go_wp2_with fail
    go_loopw [15] (fun x wr => ∃ (l : List (AH × Ex)) (sa : Option Addr) (sc : Nat), l.length ≤ cn ∧ x = .int .i64 l.length ∧ Hid (∀ A ∈ l, OkA d A) ∧ Hid (DZ w wr b w.heap.size (n5 + 1) (n5 + 2) D D0 pa pc ca cc [.int .i64 8, .int .i64 0, .string ⟨#[]⟩, .int .i64 0, .slice (some ⟨n5, 0, none⟩) 1 1, .slice sa l.length sc, .int .i64 0, .string ⟨#[]⟩, .int .i64 0, .int .i64 0, .slice none 0 0] a (.slice (some ⟨n5, 0, none⟩) 1 1) (.slice sa l.length sc) l)) (fun x _ => cn - (intOf x).toNat)
    case atStart => exact ⟨[], none, 0, Nat.zero_le _, rfl, fun A hA => by simp at hA, HZ5⟩
    case round =>
      clear HZ5
      obtain ⟨l, sa, sc, hlm, rfl, HOl, HZ⟩ := hrel
      obtain ⟨wo, hwo⟩ : ∃ wo, wo = wr := ⟨_, rfl⟩
      rw [← hwo] at HZ ⊢
      clear hwo
      have p3 := HZ.out.ctors
      rw [← hcn] at p3
      by_cases hlt2 : l.length < cn
      · obtain ⟨C, hC⟩ : ∃ x, D0.ctors[l.length]? = some x := ⟨_, List.getElem?_eq_getElem (by omega)⟩
        have HCo := Lib.hid (HCt.out.2.2 C (List.mem_of_getElem? hC))
        obtain ⟨fa, fc, hfl, hct⟩ := HDat.out.ct l.length C hC
        obtain ⟨c1, c2⟩ := hct _ HZ.out.cz.ck.eb.grown
        have HCc := Lib.hid hct
        obtain ⟨fl, hfn⟩ : ∃ n, n = C.fields.length := ⟨_, rfl⟩
        have hfl2 : fl ≤ 2 := by rw [hfn]; exact HCo.out.2
        rw [← hfn] at c2 hfl
        have HFn := Lib.hid hfn
        have HR8 := Lib.hid (RD.mk' HZ.out [.int .i64 0, .string C.name, .slice none 0 0, .int .i64 0, .int .i64 0, .string ⟨#[]⟩, .int .i64 0, .slice none 0 0, .slice none 0 0, .int .i64 0, .string ⟨#[]⟩, .int .i64 0, .int .i64 0, .slice none 0 0])
        have hli : (l.length : Int) < (cn : Int) := by omega
        clear hct hC hcn hfn
        go_wp2_with fail
        generalize (wo.alloc (.cells #[.int .i64 0, .string C.name, .slice none 0 0, .int .i64 0, .int .i64 0, .string ⟨#[]⟩, .int .i64 0, .slice none 0 0, .slice none 0 0, .int .i64 0, .string ⟨#[]⟩, .int .i64 0, .int .i64 0, .slice none 0 0] 55)) = v8 at *
        generalize wo.heap.size = R2 at *
        clear p3 c1 c2 HZ
        go_loopw [17] (fun x wr => ∃ (acc : List ByteArray) (na : Option Addr) (nc : Nat), acc.length ≤ fl ∧ x = .int .i64 acc.length ∧ Hid (∀ v ∈ acc, nmOk v = true) ∧ Hid (RD w wr b w.heap.size (n5 + 1) (n5 + 2) R2 D D0 pa pc ca cc [.int .i64 8, .int .i64 0, .string ⟨#[]⟩, .int .i64 0, .slice (some ⟨n5, 0, none⟩) 1 1, .slice sa l.length sc, .int .i64 0, .string ⟨#[]⟩, .int .i64 0, .int .i64 0, .slice none 0 0] a (.slice (some ⟨n5, 0, none⟩) 1 1) (.slice sa l.length sc) l [.int .i64 0, .string C.name, .slice na acc.length nc, .int .i64 0, .int .i64 0, .string ⟨#[]⟩, .int .i64 0, .slice none 0 0, .slice none 0 0, .int .i64 0, .string ⟨#[]⟩, .int .i64 0, .int .i64 0, .slice none 0 0] (.slice na acc.length nc) acc)) (fun x _ => fl - (intOf x).toNat)
        case atStart => exact ⟨[], none, 0, Nat.zero_le _, rfl, fun v hv => by simp at hv, HR8⟩
        case round =>
          clear HR8
          obtain ⟨acc, na, nc, hal, rfl, HOv, HB2⟩ := hrel
          have p3 := HB2.out.ctors
          rw [← HCnl.out] at p3
          obtain ⟨c1, c2⟩ := HCc.out _ HB2.out.rz.ck.eb.grown
          rw [← HFn.out] at c2
          by_cases hlt3 : acc.length < fl
          · have hai : (acc.length : Int) < (fl : Int) := by omega
            have HB4 := Lib.hid (HB2.out.lift (Below.refl _ _).drew)
            have d2 := HB4.out.rz.box.cell 2 _ rfl
            go_upto_region 45 with fail
            go_region_law
              (first
                | ((with_reducible refine step_call1 20 enterVar (.pointer (some ⟨b, 0, none⟩)) (fun x w' => ∃ nm, x = .string nm ∧ nmOk nm = true ∧ RD w w' b w.heap.size (n5 + 1) (n5 + 2) R2 D D0 pa pc ca cc [.int .i64 8, .int .i64 0, .string ⟨#[]⟩, .int .i64 0, .slice (some ⟨n5, 0, none⟩) 1 1, .slice sa l.length sc, .int .i64 0, .string ⟨#[]⟩, .int .i64 0, .int .i64 0, .slice none 0 0] a (.slice (some ⟨n5, 0, none⟩) 1 1) (.slice sa l.length sc) l [.int .i64 0, .string C.name, .slice na acc.length nc, .int .i64 0, .int .i64 0, .string ⟨#[]⟩, .int .i64 0, .slice none 0 0, .slice none 0 0, .int .i64 0, .string ⟨#[]⟩, .int .i64 0, .int .i64 0, .slice none 0 0] (.slice na acc.length nc) acc) ?_ ?_ ?_); (rfl); (exact (HV.out _ HB4.out.rz.ck.eb.rd).mono fun e w' h => by obtain ⟨nm, h1, h2, h3, h4⟩ := h; exact ⟨_, h1, nm, rfl, h2, HB4.out.call h3 h4⟩); (rintro x w10 ⟨nm, rfl, hnm, hv⟩); (have HB6 := Lib.hid hv); (have HNm := Lib.hid hnm); (have x2 := hv.rz.box.cell 2 _ rfl); (have hlt6 := hv.rz.box.lt); (clear hv hnm))
                | ((with_reducible refine step_push_str nm HB6.out.rz.nrow ?_ (.tmp 183) (.tmp 186) ?_ ?_ w10.heap.size ?_ ?_ (acc.length + 1) ?_ ?_ ?_ ?_); (rfl); (rfl); (rfl); (rfl); (rfl); (rfl); (omega); (exact hlt6); (intro a' c' w11 hrow11 hg11); (have HB7 := Lib.hid (HB6.out.push hrow11 hg11)); (have z2 := HB7.out.rz.box.cell 2 _ rfl); (have f2 := HB7.out.rz.box.free 2)))
            all_goals
              have HB8 := Lib.hid (HB7.out.set 2 (.slice a' (acc.length + 1) c'))
              generalize w11.setCell ⟨R2, 2, none⟩ (.slice a' (acc.length + 1) c') = w12 at *
              have HOv2 : Hid (∀ v ∈ acc ++ [nm], nmOk v = true) := fun v hv => by
                rcases List.mem_append.1 hv with h | h
                · exact HOv.out v h
                · simp at h; subst h; exact HNm.out
              clear z2 f2 x2 d2 HB7 HB6 HB4 hrow11 hg11 p3 c1 c2
              go_wp2_with fail
              go_roundw
              case rel => exact ⟨acc ++ [nm], a', c', by simp; omega, by simp, HOv2, by simpa using HB8⟩
              case measure => simp [intOf]; omega
          · have hae2 : acc.length ≤ 2 := by omega
            have hai : ¬ (acc.length : Int) < (fl : Int) := by omega
            go_wp2_with fail
            go_at_call 9
            refine (HT.out _ HB2.out.rz.ck.eb.rd HB2.out.rz.ck.eb.grown).mono ?_
            rintro e w11 ⟨_, rfl, u, c', rfl, hrep, hok, hr11, hg11⟩
            obtain ⟨ka2, kc2, aa2, ac2, tk2, tn2, ti2, th2, ta2, tl2, tc2, rfl⟩ := hrep.form
            have HRu := Lib.hid (hrep.imp_lt HB2.out.rz.box.lt)
            have HR11 := Lib.hid (HB2.out.call hr11 hg11)
            have HOu := Lib.hid hok
            clear hrep hok hr11 hg11 HB2 p3 c1 c2
            go_upto_region 47 with (refine wpList_storeM (t := 55) (ty := 36) rfl _ _ rfl R2 3 _ [.int .i64 u.k, .int .i64 u.p, .string u.n, .int .i64 u.m, .slice ka2 u.kids.length kc2, .slice aa2 u.arms.length ac2, .int .i64 tk2, .string tn2, .int .i64 ti2, .int .i64 th2, .slice ta2 tl2 tc2] HR11.out.rz.box rfl rfl HRu.out.size (by simp) HRu.out.len.2 ?_; intro w12 hB12 hg12)
            have hB12' : BoxC 55 w12 R2 [.int .i64 0, .string C.name, .slice na acc.length nc, .int .i64 u.k, .int .i64 u.p, .string u.n, .int .i64 u.m, .slice ka2 u.kids.length kc2, .slice aa2 u.arms.length ac2, .int .i64 tk2, .string tn2, .int .i64 ti2, .int .i64 th2, .slice ta2 tl2 tc2] := hB12
            obtain ⟨hZ12, hAm12⟩ := HR11.out.full (p := 0) (n := C.name) hg12 HRu.out
            have HZ12 := Lib.hid hZ12
            have HAm := Lib.hid hAm12
            obtain ⟨d0, d1, d2, d3, d4, d5, d6, d7, d8, d9, d10, d11, d12, d13⟩ := hB12'.all14
            have c5 := HZ12.out.cz.ck.eb.box.cell 5 _ rfl
            have hszB := HZ12.out.cz.ck.h3
            have HOA : Hid (∀ A ∈ l ++ [(⟨0, C.name, acc⟩, u)], OkA d A) := fun A hA => by
              rcases List.mem_append.1 hA with h | h
              · exact HOl.out A h
              · simp at h; subst h; exact ⟨rfl, HCo.out.1, by show acc.length ≤ 2; omega, HOv.out, HOu.out⟩
            clear hB12 hB12' hg12 hZ12 hAm12 HR11 HRu
            go_wp2_with (at_builtin; refine wpList_push_am HAm.out HZ12.out.cz.row rfl _ _ rfl rfl rfl (l.length + 1) rfl (by omega) hszB ?_; intro a' c' w13 hrow13 hg13; have HZ13 := Lib.hid (HZ12.out.push hrow13 hg13); have z5 := HZ13.out.cz.ck.eb.box.cell 5 _ rfl; have f5 := HZ13.out.cz.ck.eb.box.free 5)
            have HZ14 := Lib.hid (HZ13.out.set 5 (.slice a' (l.length + 1) c'))
            generalize w13.setCell ⟨n5 + 1, 5, none⟩ (.slice a' (l.length + 1) c') = w14 at *
            clear z5 f5 c5 d0 d1 d2 d3 d4 d5 d6 d7 d8 d9 d10 d11 d12 d13 HZ13 HZ12 HAm hrow13 hg13 hszB
            go_wp2_with fail
            go_roundw
            case rel => exact ⟨l ++ [(⟨0, C.name, acc⟩, u)], a', c', by simp; omega, by simp, HOA, by simpa using HZ14⟩
            case measure => simp [intOf]; omega
      · have hli : ¬ (l.length : Int) < (cn : Int) := by omega
        have h01 := HZ.out.cz.ck.eb.h1
        have h02 := HZ.out.cz.ck.h2
        have HRes : Hid (RepE wo (fun g => w.heap.size < g) (.mk 8 0 ⟨#[]⟩ 0 zTy [a] l) [.int .i64 8, .int .i64 0, .string ⟨#[]⟩, .int .i64 0, .slice (some ⟨n5, 0, none⟩) 1 1, .slice sa l.length sc, .int .i64 0, .string ⟨#[]⟩, .int .i64 0, .int .i64 0, .slice none 0 0]) :=
          RepE.close (Nat.zero_le _) (HZ.out.cz.ck.kid.kept (fun _ h => h.1) (fun _ _ _ => rfl)) ((HZ.out.cz.row.slG (S' := fun g => w.heap.size < g) (fun g hg => by omega) (fun g hg => by omega))) (rep_zTy _ _)
        have HOk : Hid (OkE (d + 1) (.mk 8 0 ⟨#[]⟩ 0 zTy [a] l)) := okE_case HOa.out (arms_ne (by omega)) (by omega) HOl.out
        obtain ⟨d0, d1, d2, d3, d4, d5, d6, d7, d8, d9, d10⟩ := HZ.out.cz.ck.eb.box.all11
        go_wp2_with (refine wpList_storeC rfl _ _ rfl _ _ _ HZ.out.cz.ck.eb.res rfl rfl HRes.out.size HRes.out.len0 HRes.out.len.2 ?_; intro v8 hB8 hg8 hs8)
        obtain ⟨e0, e1, e2, e3, e4, e5, e6, e7, e8, e9, e10⟩ := hB8.all11
        refine bodyPost_ret (by simp [results, Try.results9, go_sem, e0, e1, e2, e3, e4, e5, e6, e7, e8, e9, e10]; try rfl) rfl ?_
        exact raw_fin (HZ.out.cz.ck.eb.pb.ret HRes.out hbase hg8) HOk.out
end Go.Proofs.Ytljgpgmaceackaa.MR

/- The maker of expressions: an application. -/
namespace Go.Proofs.Ytljgpgmaceackaa.MR
open Go.RowKit Go.Maps Mth

set_option maxRecDepth 100000 in
set_option maxHeartbeats 6400000 in
theorem raw_app7 (d b base : Nat) (z r : Int) (dv : Value) (w : World) (hz : 1 ≤ z) (hz5 : z ≤ 5) (hr : r = 7) (ht : S3.Tq w b) (hbase : base ≤ w.heap.size) (HN : NX w b r) (HS : Sub d b z dv w) :
    Calls Try.prog 9 #[.pointer (some ⟨b, 0, none⟩), dv, .int .i64 z] w (RawEnd (d + 1) base b w) := by
  have HT := Lib.hid HS
  clear HS
  have HP0 := Lib.hid (PX.start ht)
  have hlt := ht.lt
  unfold NX at HN
  have HNx := Lib.hid HN
  clear HN ht
  subst hr
  all_goals
    go_enter Try.func9, Try.ntmps9
    go_wp2_with fail
    go_at_call 19
    generalize (w.alloc (.cells #[.int .i64 0, .int .i64 0, .string ⟨#[]⟩, .int .i64 0, .slice none 0 0, .slice none 0 0, .int .i64 0, .string ⟨#[]⟩, .int .i64 0, .int .i64 0, .slice none 0 0] 36)) = w0 at *
    refine HNx.out.mono ?_
    rintro e w1 ⟨rfl, ht1, hg1⟩
    have HP1 := Lib.hid (HP0.out.call ht1 hg1)
    clear ht1 hg1 HNx HP0
    go_wp2_with fail
    go_at_call 9
    refine (HT.out _ HP1.out.rd HP1.out.grown).mono ?_
    rintro e w5 ⟨_, rfl, a, c, rfl, hrep, hok, ht5, hg5⟩
    obtain ⟨ka, kc, aa, ac, tk, tn, ti, th, ta, tl, tc, rfl⟩ := hrep.form
    have HP5 := Lib.hid (HP1.out.call ht5 hg5)
    have HRp := Lib.hid (hrep.imp_lt HP1.out.res.lt)
    have HOa := Lib.hid hok
    clear hrep hok ht5 hg5
    have HV0 := Lib.hid (AX.mk' HP5.out HRp.out)
    clear HRp
    go_upto_region 24 with fail
    generalize (w5.alloc (.cells #[.int .i64 a.k, .int .i64 a.p, .string a.n, .int .i64 a.m, .slice ka a.kids.length kc, .slice aa a.arms.length ac, .int .i64 tk, .string tn, .int .i64 ti, .int .i64 th, .slice ta tl tc] 36)) = v7 at *
    generalize w5.heap.size = R1 at *
    have HW8 := Lib.hid (HV0.out.lift (Below.refl _ _).drew)
    obtain ⟨d0, d1, d2, d3, d4, d5, d6, d7, d8, d9, d10⟩ := HW8.out.eb.box.all11
    have hwr : IntKind.i64.wrap (z - 1) = z - 1 := by rw [IntKind.wrap_i64]; omega
    go_region_law
      (((with_reducible refine step_call3 9 enterRaw (.pointer (some ⟨b, 0, none⟩)) dv (.int .i64 (z - 1)) (fun r w' => ∃ u c, r = .agg (List.toArray c) ∧ RepE w' (fun g => w.heap.size < g ∧ g ≠ R1) u c ∧ OkE d u ∧ AX w w' b w.heap.size R1 [.int .i64 a.k, .int .i64 a.p, .string a.n, .int .i64 a.m, .slice ka a.kids.length kc, .slice aa a.arms.length ac, .int .i64 tk, .string tn, .int .i64 ti, .int .i64 th, .slice ta tl tc] a) ?_ ?_ ?_ ?_ ?_); (rfl); (rfl); (first | rfl | (show Value.int IntKind.i64 (IntKind.i64.wrap (z - 1)) = Value.int IntKind.i64 (z - 1); rw [hwr])); (exact (HT.out _ HW8.out.eb.rd HW8.out.eb.grown).mono fun e w' h => by obtain ⟨_, rfl, u, c, rfl, h2, hok, h3, h4⟩ := h; exact ⟨_, rfl, u, c, rfl, h2.imp fun g hg => ⟨Nat.lt_of_lt_of_le (Nat.lt_trans HW8.out.eb.h1 HW8.out.eb.lt) hg, Nat.ne_of_gt (Nat.lt_of_lt_of_le HW8.out.eb.lt hg)⟩, hok, HW8.out.call h3 h4⟩); (rintro r w9 ⟨u, c, rfl, hrep, hok2, hv⟩); (obtain ⟨ka2, kc2, aa2, ac2, tk2, tn2, ti2, th2, ta2, tl2, tc2, rfl⟩ := hrep.form); (have HRp := Lib.hid hrep); (have HV := Lib.hid hv); (have HOu := Lib.hid hok2); (clear hrep hv hok2); (obtain ⟨x0, x1, x2, x3, x4, x5, x6, x7, x8, x9, x10⟩ := HV.out.eb.box.all11); (obtain ⟨z0, z1, z2, z3, z4, z5, z6, z7, z8, z9, z10⟩ := HV.out.eb.zall); (obtain ⟨y0, y1, y2, y3, y4, y5, y6, y7, y8, y9, y10⟩ := HV.out.eb.res.free11); (have hlt0 := HV.out.eb.res.lt)))
    all_goals
      obtain ⟨v10, hv10⟩ : ∃ v10, v10 = (((((((((((w9.setCell ⟨w.heap.size, 0, none⟩ (.int .i64 5)).setCell ⟨w.heap.size, 1, none⟩ (.int .i64 0)).setCell ⟨w.heap.size, 2, none⟩ (.string ⟨#[]⟩)).setCell ⟨w.heap.size, 3, none⟩ (.int .i64 0)).setCell ⟨w.heap.size, 4, none⟩ (.slice (some ⟨w9.heap.size, 0, none⟩) 2 2)).setCell ⟨w.heap.size, 5, none⟩ (.slice none 0 0)).setCell ⟨w.heap.size, 6, none⟩ (.int .i64 0)).setCell ⟨w.heap.size, 7, none⟩ (.string ⟨#[]⟩)).setCell ⟨w.heap.size, 8, none⟩ (.int .i64 0)).setCell ⟨w.heap.size, 9, none⟩ (.int .i64 0)).setCell ⟨w.heap.size, 10, none⟩ (.slice none 0 0)).alloc (.cells #[.int .i64 a.k, .int .i64 a.p, .string a.n, .int .i64 a.m, .slice ka a.kids.length kc, .slice aa a.arms.length ac, .int .i64 tk, .string tn, .int .i64 ti, .int .i64 th, .slice ta tl tc, .int .i64 u.k, .int .i64 u.p, .string u.n, .int .i64 u.m, .slice ka2 u.kids.length kc2, .slice aa2 u.arms.length ac2, .int .i64 tk2, .string tn2, .int .i64 ti2, .int .i64 th2, .slice ta2 tl2 tc2] 36) := ⟨_, rfl⟩
      obtain ⟨hB8, hRes, hRd, hGr⟩ := HV.out.loc HRp.out 5 0 ⟨#[]⟩ (Nat.zero_le _) hbase v10 hv10
      have HFin := Lib.hid (And.intro hRes (And.intro hRd hGr))
      rw [← hv10]
      clear hv10 hRes hRd hGr x0 x1 x2 x3 x4 x5 x6 x7 x8 x9 x10 y0 y1 y2 y3 y4 y5 y6 y7 y8 y9 y10 z0 z1 z2 z3 z4 z5 z6 z7 z8 z9 z10 d0 d1 d2 d3 d4 d5 d6 d7 d8 d9 d10 HV HRp HW8 hwr
      obtain ⟨e0, e1, e2, e3, e4, e5, e6, e7, e8, e9, e10⟩ := hB8.all11
      go_wp2
      refine bodyPost_ret (by simp [results, Try.results9, go_sem, e0, e1, e2, e3, e4, e5, e6, e7, e8, e9, e10]; try rfl) rfl ?_
      exact raw_fin HFin.out (okE_app HOa.out HOu.out)
end Go.Proofs.Ytljgpgmaceackaa.MR

/- The maker of expressions: an application. -/
namespace Go.Proofs.Ytljgpgmaceackaa.MR
open Go.RowKit Go.Maps Mth

set_option maxRecDepth 100000 in
set_option maxHeartbeats 6400000 in
theorem raw_app8 (d b base : Nat) (z r : Int) (dv : Value) (w : World) (hz : 1 ≤ z) (hz5 : z ≤ 5) (hr : r = 8) (ht : S3.Tq w b) (hbase : base ≤ w.heap.size) (HN : NX w b r) (HS : Sub d b z dv w) :
    Calls Try.prog 9 #[.pointer (some ⟨b, 0, none⟩), dv, .int .i64 z] w (RawEnd (d + 1) base b w) := by
  have HT := Lib.hid HS
  clear HS
  have HP0 := Lib.hid (PX.start ht)
  have hlt := ht.lt
  unfold NX at HN
  have HNx := Lib.hid HN
  clear HN ht
  subst hr
  all_goals
    go_enter Try.func9, Try.ntmps9
    go_wp2_with fail
    go_at_call 19
    generalize (w.alloc (.cells #[.int .i64 0, .int .i64 0, .string ⟨#[]⟩, .int .i64 0, .slice none 0 0, .slice none 0 0, .int .i64 0, .string ⟨#[]⟩, .int .i64 0, .int .i64 0, .slice none 0 0] 36)) = w0 at *
    refine HNx.out.mono ?_
    rintro e w1 ⟨rfl, ht1, hg1⟩
    have HP1 := Lib.hid (HP0.out.call ht1 hg1)
    clear ht1 hg1 HNx HP0
    go_wp2_with fail
    go_at_call 9
    refine (HT.out _ HP1.out.rd HP1.out.grown).mono ?_
    rintro e w5 ⟨_, rfl, a, c, rfl, hrep, hok, ht5, hg5⟩
    obtain ⟨ka, kc, aa, ac, tk, tn, ti, th, ta, tl, tc, rfl⟩ := hrep.form
    have HP5 := Lib.hid (HP1.out.call ht5 hg5)
    have HRp := Lib.hid (hrep.imp_lt HP1.out.res.lt)
    have HOa := Lib.hid hok
    clear hrep hok ht5 hg5
    have HV0 := Lib.hid (AX.mk' HP5.out HRp.out)
    clear HRp
    go_upto_region 24 with fail
    generalize (w5.alloc (.cells #[.int .i64 a.k, .int .i64 a.p, .string a.n, .int .i64 a.m, .slice ka a.kids.length kc, .slice aa a.arms.length ac, .int .i64 tk, .string tn, .int .i64 ti, .int .i64 th, .slice ta tl tc] 36)) = v7 at *
    generalize w5.heap.size = R1 at *
    have HW8 := Lib.hid (HV0.out.lift (Below.refl _ _).drew)
    obtain ⟨d0, d1, d2, d3, d4, d5, d6, d7, d8, d9, d10⟩ := HW8.out.eb.box.all11
    have hwr : IntKind.i64.wrap (z - 1) = z - 1 := by rw [IntKind.wrap_i64]; omega
    go_region_law
      (((with_reducible refine step_call3 9 enterRaw (.pointer (some ⟨b, 0, none⟩)) dv (.int .i64 (z - 1)) (fun r w' => ∃ u c, r = .agg (List.toArray c) ∧ RepE w' (fun g => w.heap.size < g ∧ g ≠ R1) u c ∧ OkE d u ∧ AX w w' b w.heap.size R1 [.int .i64 a.k, .int .i64 a.p, .string a.n, .int .i64 a.m, .slice ka a.kids.length kc, .slice aa a.arms.length ac, .int .i64 tk, .string tn, .int .i64 ti, .int .i64 th, .slice ta tl tc] a) ?_ ?_ ?_ ?_ ?_); (rfl); (rfl); (first | rfl | (show Value.int IntKind.i64 (IntKind.i64.wrap (z - 1)) = Value.int IntKind.i64 (z - 1); rw [hwr])); (exact (HT.out _ HW8.out.eb.rd HW8.out.eb.grown).mono fun e w' h => by obtain ⟨_, rfl, u, c, rfl, h2, hok, h3, h4⟩ := h; exact ⟨_, rfl, u, c, rfl, h2.imp fun g hg => ⟨Nat.lt_of_lt_of_le (Nat.lt_trans HW8.out.eb.h1 HW8.out.eb.lt) hg, Nat.ne_of_gt (Nat.lt_of_lt_of_le HW8.out.eb.lt hg)⟩, hok, HW8.out.call h3 h4⟩); (rintro r w9 ⟨u, c, rfl, hrep, hok2, hv⟩); (obtain ⟨ka2, kc2, aa2, ac2, tk2, tn2, ti2, th2, ta2, tl2, tc2, rfl⟩ := hrep.form); (have HRp := Lib.hid hrep); (have HV := Lib.hid hv); (have HOu := Lib.hid hok2); (clear hrep hv hok2); (obtain ⟨x0, x1, x2, x3, x4, x5, x6, x7, x8, x9, x10⟩ := HV.out.eb.box.all11); (obtain ⟨z0, z1, z2, z3, z4, z5, z6, z7, z8, z9, z10⟩ := HV.out.eb.zall); (obtain ⟨y0, y1, y2, y3, y4, y5, y6, y7, y8, y9, y10⟩ := HV.out.eb.res.free11); (have hlt0 := HV.out.eb.res.lt)))
    all_goals
      obtain ⟨v10, hv10⟩ : ∃ v10, v10 = (((((((((((w9.setCell ⟨w.heap.size, 0, none⟩ (.int .i64 5)).setCell ⟨w.heap.size, 1, none⟩ (.int .i64 0)).setCell ⟨w.heap.size, 2, none⟩ (.string ⟨#[]⟩)).setCell ⟨w.heap.size, 3, none⟩ (.int .i64 0)).setCell ⟨w.heap.size, 4, none⟩ (.slice (some ⟨w9.heap.size, 0, none⟩) 2 2)).setCell ⟨w.heap.size, 5, none⟩ (.slice none 0 0)).setCell ⟨w.heap.size, 6, none⟩ (.int .i64 0)).setCell ⟨w.heap.size, 7, none⟩ (.string ⟨#[]⟩)).setCell ⟨w.heap.size, 8, none⟩ (.int .i64 0)).setCell ⟨w.heap.size, 9, none⟩ (.int .i64 0)).setCell ⟨w.heap.size, 10, none⟩ (.slice none 0 0)).alloc (.cells #[.int .i64 a.k, .int .i64 a.p, .string a.n, .int .i64 a.m, .slice ka a.kids.length kc, .slice aa a.arms.length ac, .int .i64 tk, .string tn, .int .i64 ti, .int .i64 th, .slice ta tl tc, .int .i64 u.k, .int .i64 u.p, .string u.n, .int .i64 u.m, .slice ka2 u.kids.length kc2, .slice aa2 u.arms.length ac2, .int .i64 tk2, .string tn2, .int .i64 ti2, .int .i64 th2, .slice ta2 tl2 tc2] 36) := ⟨_, rfl⟩
      obtain ⟨hB8, hRes, hRd, hGr⟩ := HV.out.loc HRp.out 5 0 ⟨#[]⟩ (Nat.zero_le _) hbase v10 hv10
      have HFin := Lib.hid (And.intro hRes (And.intro hRd hGr))
      rw [← hv10]
      clear hv10 hRes hRd hGr x0 x1 x2 x3 x4 x5 x6 x7 x8 x9 x10 y0 y1 y2 y3 y4 y5 y6 y7 y8 y9 y10 z0 z1 z2 z3 z4 z5 z6 z7 z8 z9 z10 d0 d1 d2 d3 d4 d5 d6 d7 d8 d9 d10 HV HRp HW8 hwr
      obtain ⟨e0, e1, e2, e3, e4, e5, e6, e7, e8, e9, e10⟩ := hB8.all11
      go_wp2
      refine bodyPost_ret (by simp [results, Try.results9, go_sem, e0, e1, e2, e3, e4, e5, e6, e7, e8, e9, e10]; try rfl) rfl ?_
      exact raw_fin HFin.out (okE_app HOa.out HOu.out)
end Go.Proofs.Ytljgpgmaceackaa.MR

/- The maker of expressions: an application. -/
namespace Go.Proofs.Ytljgpgmaceackaa.MR
open Go.RowKit Go.Maps Mth

set_option maxRecDepth 100000 in
set_option maxHeartbeats 6400000 in
theorem raw_app9 (d b base : Nat) (z r : Int) (dv : Value) (w : World) (hz : 1 ≤ z) (hz5 : z ≤ 5) (hr : r = 9) (ht : S3.Tq w b) (hbase : base ≤ w.heap.size) (HN : NX w b r) (HS : Sub d b z dv w) :
    Calls Try.prog 9 #[.pointer (some ⟨b, 0, none⟩), dv, .int .i64 z] w (RawEnd (d + 1) base b w) := by
  have HT := Lib.hid HS
  clear HS
  have HP0 := Lib.hid (PX.start ht)
  have hlt := ht.lt
  unfold NX at HN
  have HNx := Lib.hid HN
  clear HN ht
  subst hr
  all_goals
    go_enter Try.func9, Try.ntmps9
    go_wp2_with fail
    go_at_call 19
    generalize (w.alloc (.cells #[.int .i64 0, .int .i64 0, .string ⟨#[]⟩, .int .i64 0, .slice none 0 0, .slice none 0 0, .int .i64 0, .string ⟨#[]⟩, .int .i64 0, .int .i64 0, .slice none 0 0] 36)) = w0 at *
    refine HNx.out.mono ?_
    rintro e w1 ⟨rfl, ht1, hg1⟩
    have HP1 := Lib.hid (HP0.out.call ht1 hg1)
    clear ht1 hg1 HNx HP0
    go_wp2_with fail
    go_at_call 9
    refine (HT.out _ HP1.out.rd HP1.out.grown).mono ?_
    rintro e w5 ⟨_, rfl, a, c, rfl, hrep, hok, ht5, hg5⟩
    obtain ⟨ka, kc, aa, ac, tk, tn, ti, th, ta, tl, tc, rfl⟩ := hrep.form
    have HP5 := Lib.hid (HP1.out.call ht5 hg5)
    have HRp := Lib.hid (hrep.imp_lt HP1.out.res.lt)
    have HOa := Lib.hid hok
    clear hrep hok ht5 hg5
    have HV0 := Lib.hid (AX.mk' HP5.out HRp.out)
    clear HRp
    go_upto_region 24 with fail
    generalize (w5.alloc (.cells #[.int .i64 a.k, .int .i64 a.p, .string a.n, .int .i64 a.m, .slice ka a.kids.length kc, .slice aa a.arms.length ac, .int .i64 tk, .string tn, .int .i64 ti, .int .i64 th, .slice ta tl tc] 36)) = v7 at *
    generalize w5.heap.size = R1 at *
    have HW8 := Lib.hid (HV0.out.lift (Below.refl _ _).drew)
    obtain ⟨d0, d1, d2, d3, d4, d5, d6, d7, d8, d9, d10⟩ := HW8.out.eb.box.all11
    have hwr : IntKind.i64.wrap (z - 1) = z - 1 := by rw [IntKind.wrap_i64]; omega
    go_region_law
      (((with_reducible refine step_call3 9 enterRaw (.pointer (some ⟨b, 0, none⟩)) dv (.int .i64 (z - 1)) (fun r w' => ∃ u c, r = .agg (List.toArray c) ∧ RepE w' (fun g => w.heap.size < g ∧ g ≠ R1) u c ∧ OkE d u ∧ AX w w' b w.heap.size R1 [.int .i64 a.k, .int .i64 a.p, .string a.n, .int .i64 a.m, .slice ka a.kids.length kc, .slice aa a.arms.length ac, .int .i64 tk, .string tn, .int .i64 ti, .int .i64 th, .slice ta tl tc] a) ?_ ?_ ?_ ?_ ?_); (rfl); (rfl); (first | rfl | (show Value.int IntKind.i64 (IntKind.i64.wrap (z - 1)) = Value.int IntKind.i64 (z - 1); rw [hwr])); (exact (HT.out _ HW8.out.eb.rd HW8.out.eb.grown).mono fun e w' h => by obtain ⟨_, rfl, u, c, rfl, h2, hok, h3, h4⟩ := h; exact ⟨_, rfl, u, c, rfl, h2.imp fun g hg => ⟨Nat.lt_of_lt_of_le (Nat.lt_trans HW8.out.eb.h1 HW8.out.eb.lt) hg, Nat.ne_of_gt (Nat.lt_of_lt_of_le HW8.out.eb.lt hg)⟩, hok, HW8.out.call h3 h4⟩); (rintro r w9 ⟨u, c, rfl, hrep, hok2, hv⟩); (obtain ⟨ka2, kc2, aa2, ac2, tk2, tn2, ti2, th2, ta2, tl2, tc2, rfl⟩ := hrep.form); (have HRp := Lib.hid hrep); (have HV := Lib.hid hv); (have HOu := Lib.hid hok2); (clear hrep hv hok2); (obtain ⟨x0, x1, x2, x3, x4, x5, x6, x7, x8, x9, x10⟩ := HV.out.eb.box.all11); (obtain ⟨z0, z1, z2, z3, z4, z5, z6, z7, z8, z9, z10⟩ := HV.out.eb.zall); (obtain ⟨y0, y1, y2, y3, y4, y5, y6, y7, y8, y9, y10⟩ := HV.out.eb.res.free11); (have hlt0 := HV.out.eb.res.lt)))
    all_goals
      obtain ⟨v10, hv10⟩ : ∃ v10, v10 = (((((((((((w9.setCell ⟨w.heap.size, 0, none⟩ (.int .i64 5)).setCell ⟨w.heap.size, 1, none⟩ (.int .i64 0)).setCell ⟨w.heap.size, 2, none⟩ (.string ⟨#[]⟩)).setCell ⟨w.heap.size, 3, none⟩ (.int .i64 0)).setCell ⟨w.heap.size, 4, none⟩ (.slice (some ⟨w9.heap.size, 0, none⟩) 2 2)).setCell ⟨w.heap.size, 5, none⟩ (.slice none 0 0)).setCell ⟨w.heap.size, 6, none⟩ (.int .i64 0)).setCell ⟨w.heap.size, 7, none⟩ (.string ⟨#[]⟩)).setCell ⟨w.heap.size, 8, none⟩ (.int .i64 0)).setCell ⟨w.heap.size, 9, none⟩ (.int .i64 0)).setCell ⟨w.heap.size, 10, none⟩ (.slice none 0 0)).alloc (.cells #[.int .i64 a.k, .int .i64 a.p, .string a.n, .int .i64 a.m, .slice ka a.kids.length kc, .slice aa a.arms.length ac, .int .i64 tk, .string tn, .int .i64 ti, .int .i64 th, .slice ta tl tc, .int .i64 u.k, .int .i64 u.p, .string u.n, .int .i64 u.m, .slice ka2 u.kids.length kc2, .slice aa2 u.arms.length ac2, .int .i64 tk2, .string tn2, .int .i64 ti2, .int .i64 th2, .slice ta2 tl2 tc2] 36) := ⟨_, rfl⟩
      obtain ⟨hB8, hRes, hRd, hGr⟩ := HV.out.loc HRp.out 5 0 ⟨#[]⟩ (Nat.zero_le _) hbase v10 hv10
      have HFin := Lib.hid (And.intro hRes (And.intro hRd hGr))
      rw [← hv10]
      clear hv10 hRes hRd hGr x0 x1 x2 x3 x4 x5 x6 x7 x8 x9 x10 y0 y1 y2 y3 y4 y5 y6 y7 y8 y9 y10 z0 z1 z2 z3 z4 z5 z6 z7 z8 z9 z10 d0 d1 d2 d3 d4 d5 d6 d7 d8 d9 d10 HV HRp HW8 hwr
      obtain ⟨e0, e1, e2, e3, e4, e5, e6, e7, e8, e9, e10⟩ := hB8.all11
      go_wp2
      refine bodyPost_ret (by simp [results, Try.results9, go_sem, e0, e1, e2, e3, e4, e5, e6, e7, e8, e9, e10]; try rfl) rfl ?_
      exact raw_fin HFin.out (okE_app HOa.out HOu.out)
end Go.Proofs.Ytljgpgmaceackaa.MR

/- The contract of the maker's Raw. -/
namespace Go.Proofs.Ytljgpgmaceackaa.MR
open Go.RowKit Go.Maps Mth

theorem dat_kept {w v : World} {b : Nat} {S : Nat → Prop} {ds : List Dat} {x : Value} (h : SlG DatE w S ds x) (hg : w.grownBy v (some b)) (hS : ∀ g, S g → g ≠ b) : SlG DatE v S ds x :=
  SlG.kept (fun _ h => h) (fun g hs hl => hg.block g hl (by intro e; exact hS g hs (Option.some.inj e))) h
theorem raw_of (d : Nat) (H : ∀ d', d = d' + 1 → RawAt d') : RawAt d := by
  intro z ds dv S b base w hz hd5 hds hD hSb ht hbase
  obtain ⟨r, h0, h1, hn⟩ := nx_made ht
  obtain ⟨da, dc, rfl⟩ := S3.slG_form hD
  obtain ⟨dn, hdn⟩ : ∃ n, n = ds.length := ⟨_, rfl⟩
  rw [← hdn] at hD ⊢
  have h8 : dn ≤ 8 := by rw [hdn]; exact hds.1
  by_cases hd : d = 0
  · have hz1 : z < 1 := by omega
    have hc : (r = 0 ∨ r = 1 ∨ r = 5 ∨ r = 6 ∨ r = 10 ∨ r = 11) ∨ (r = 2 ∨ r = 7 ∨ r = 12) ∨ (r = 3 ∨ r = 8 ∨ r = 13) ∨ (r = 4 ∨ r = 9) := by omega
    rcases hc with hc | hc | hc | hc
    · exact raw_var d b base z r w _ (.inl ⟨hz1, hc⟩) ht hbase hn
    · exact raw_int d b base z r w _ (.inl ⟨hz1, hc⟩) ht hbase hn
    · by_cases hd0 : dn = 0
      · subst hd0
        exact raw_gone d b base z r w da dc (.inl ⟨hz1, hc⟩) ht hbase hn
      · exact raw_con d b base z r w ds da dn dc S hdn (by omega) h8 hds hD hSb (.inl ⟨hz1, hc⟩) ht hbase hn
    · exact raw_hole d b base z r w _ (.inl ⟨hz1, hc⟩) ht hbase hn
  · obtain ⟨d, rfl⟩ : ∃ d', d = d' + 1 := ⟨d - 1, by omega⟩
    have hz1 : 1 ≤ z := by omega
    have hz5 : z ≤ 5 := by omega
    have hS : Sub d b z (.slice da dn dc) w := fun v htv hg => H d rfl (z - 1) ds _ S b v.heap.size v (by omega) (by omega) hds (dat_kept hD hg hSb) hSb htv (Nat.le_refl _)
    have hc : (r = 0 ∨ r = 1) ∨ r = 2 ∨ r = 3 ∨ r = 4 ∨ (r = 5 ∨ r = 6) ∨ (r = 7 ∨ r = 8 ∨ r = 9) ∨ r = 10 ∨ r = 11 ∨ r = 12 ∨ r = 13 := by omega
    rcases hc with hc | hc | hc | hc | hc | hc | hc | hc | hc | hc
    · exact raw_var _ b base z r w _ (.inr ⟨hz1, hc⟩) ht hbase hn
    · exact raw_int _ b base z r w _ (.inr ⟨hz1, hc⟩) ht hbase hn
    · by_cases hd0 : dn = 0
      · subst hd0
        exact raw_gone _ b base z r w da dc (.inr ⟨hz1, hc⟩) ht hbase hn
      · exact raw_con _ b base z r w ds da dn dc S hdn (by omega) h8 hds hD hSb (.inr ⟨hz1, hc⟩) ht hbase hn
    · exact raw_hole _ b base z r w _ (.inr ⟨hz1, hc⟩) ht hbase hn
    · exact raw_lam d b base z r _ w hz1 hz5 hc ht hbase hn hS
    · rcases hc with hc | hc | hc
      · exact raw_app7 d b base z r _ w hz1 hz5 hc ht hbase hn hS
      · exact raw_app8 d b base z r _ w hz1 hz5 hc ht hbase hn hS
      · exact raw_app9 d b base z r _ w hz1 hz5 hc ht hbase hn hS
    · exact raw_let d b base z r _ w hz1 hz5 hc ht hbase hn hS
    · exact raw_ann d b base z r _ w hz1 hz5 hc ht hbase hn hS fun v htv hg => S3.mkType_any 2 2 ds _ [] _ S b v.heap.size v rfl (by omega) hds ⟨by simp, fun T hT => by simp at hT⟩ (dat_kept hD hg hSb) (slG_nil _ _ _) hSb htv (Nat.le_refl _)
    · exact raw_held d b base z r _ w hz1 hz5 hc ht hbase hn hS
    · by_cases hd0 : dn = 0
      · subst hd0
        exact raw_again d b base z r da dc w hz1 hz5 hc ht hbase hn hS
      · exact raw_case d b base z r w ds da dn dc S hdn (by omega) h8 hds hD hSb hz1 hz5 hc ht hbase hn hS
theorem raw_any : ∀ d, RawAt d := by
  intro d
  induction d with
  | zero => exact raw_of 0 fun d' h => by omega
  | succ d ih => exact raw_of (d + 1) fun d' h => by obtain rfl : d = d' := by omega
                                                     exact ih
end Go.Proofs.Ytljgpgmaceackaa.MR
