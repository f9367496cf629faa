import Derived.Test.YtafpngmfhajedaaQA
import Derived.Test.YtafpngmfhajedaaQB
import Derived.Shelf.Abstract
/- Names that occur twice: the library's ContainsFunc over the package's closure. -/
namespace Go.Proofs.Ytafpngmfhajedaa
open Go.RowKit Go.Sort Go.Shelf Go.Maps Mth

def ixR : List ByteArray → List (List UInt8) → Nat → Int
  | [], _, _ => -1
  | n :: l, seen, j => if seen.contains (bl n) then (j : Int) else ixR l (seen ++ [bl n]) (j + 1)
def rep (ns : List ByteArray) : Bool := decide (0 ≤ ixR ns [] 0)
theorem ixR_step {l : List ByteArray} {j : Nat} {s : ByteArray} {seen : List (List UInt8)} (h : l[j]? = some s) : ixR (l.drop j) seen j = if seen.contains (bl s) then (j : Int) else ixR (l.drop (j + 1)) (seen ++ [bl s]) (j + 1) := by
  obtain ⟨hl, e⟩ := List.getElem?_eq_some_iff.1 h
  rw [List.drop_eq_getElem_cons hl, e]; rfl
theorem addN_no {ns : List (List UInt8)} {s : List UInt8} (h : ns.contains s = false) : addN ns s = ns ++ [s] := by unfold addN; rw [h]; rfl
theorem rptClosure_any (Bx mb n : Nat) (ns : List (List UInt8)) (s : ByteArray) (w : World) (hs : s.size ≤ maxLen) (hn : n < maxLen) (hB : BoxC 109 w Bx [.map (some mb)]) (h : SM w mb n ns) :
    Calls Try.prog 94 #[.string s, .pointer (some ⟨Bx, 0, none⟩)] w fun e w' => e = .returned (.bool (ns.contains (bl s))) ∧ SM w' mb (n + 1) (addN ns (bl s)) ∧ w.grownBy w' (some mb) := by
  have HI := Lib.hid (isNew_any mb n ns s w hs hn h)
  have c0 := hB.cell 0 _ rfl
  clear h hB
  generalize addN ns (bl s) = ns' at *
  generalize ns.contains (bl s) = q at *
  go_enter Try.func94, Try.ntmps94
  go_wp2_with (go_at_call 69; refine HI.out.mono ?_; rintro e w1 ⟨rfl, hs1, hg1⟩)
  go_ret
  exact ⟨by simp, hs1, hg1⟩
set_option maxHeartbeats 1600000 in
theorem rptIndex_any (l : List ByteArray) (hl : l.length ≤ 100000) (hz : ∀ s ∈ l, s.size ≤ maxLen) (v : Value) (S : Nat → Prop) (Bx mb : Nat) (w : World) (h : SlG StrE w S l v) (hB : BoxC 109 w Bx [.map (some mb)]) (hS : ∀ b, S b → b ≠ mb) (hne : Bx ≠ mb) (hM : SM w mb 0 []) :
    Calls Try.prog 116 #[v, .func (.func 94) #[] #[.pointer (some ⟨Bx, 0, none⟩)]] w fun e w' => e = .returned (.int .i64 (ixR l [] 0)) ∧ w.grownBy w' (some mb) := by
  have eg : ∀ args w, (callFunc 94 args).run Try.prog w = .ok (.enter 94 args) w := enters_of Try.func94 (by kernel_rfl) rfl
  have HSl := Lib.hid h
  have HZ := Lib.hid hz
  have HBx := Lib.hid hB
  obtain ⟨a, c, rfl, hle⟩ := slice_form h
  unfold maxLen at hle
  obtain ⟨m, hm⟩ : ∃ m, m = l.length := ⟨_, rfl⟩
  rw [← hm] at HSl hle hl ⊢
  have HM := Lib.hid hm
  clear hm h hz hB
  have HE : Hid (ixR l [] 0 = ixR (l.drop 0) [] 0) := rfl
  have HM0 := Lib.hid hM
  have HG0 : Hid (w.grownBy w (some mb)) := ⟨rfl, rfl, rfl, Nat.le_refl _, fun _ _ _ => rfl⟩
  clear hM
  go_enter Try.func116, Try.ntmps116
  go_wp2
  go_loopw [8] (fun x wr => ∃ (j : Nat) (seen : List (List UInt8)), j ≤ m ∧ x = .int .i64 j ∧ Hid (ixR l [] 0 = ixR (l.drop j) seen j) ∧ Hid (SM wr mb j seen) ∧ Hid (w.grownBy wr (some mb))) (fun x _ => m - (intOf x).toNat)
  case atStart => exact ⟨0, [], Nat.zero_le _, rfl, HE, HM0, HG0⟩
  case round =>
    obtain ⟨j, seen, hj, rfl, HT, HMj, HGj⟩ := hrel
    by_cases hlt : j < m
    · obtain ⟨t, ht⟩ : ∃ x, l[j]? = some x := ⟨_, List.getElem?_eq_getElem (by rw [← HM.out]; exact hlt)⟩
      have hsl : SlG StrE wr S l (.slice a m c) := HSl.out.kept (fun _ h => h) (fun g hg hl => HGj.out.block g hl (by intro e; exact hS g hg (Option.some.inj e)))
      obtain ⟨ad, rfl, hc⟩ := str_at (by rw [HM.out] at hsl; exact hsl) j t ht
      have HStp := Lib.hid (ixR_step (seen := seen) ht)
      have HC := Lib.hid (rptClosure_any Bx mb j seen t wr (HZ.out t (List.mem_of_getElem? ht)) (by unfold maxLen; omega) (HBx.out.grown HGj.out (by intro e; exact hne (Option.some.inj e))) HMj.out)
      have hji : (j : Int) < (m : Int) := by omega
      clear ht hsl
      cases hq : seen.contains (bl t) with
      | true =>
        rw [hq] at HC
        have HR : Hid (ixR l [] 0 = (j : Int)) := by show _ = _; rw [HT.out, HStp.out, hq]; rfl
        clear hq
        go_wp2_with (go_at_call 94; refine HC.out.mono ?_; rintro e w1 ⟨rfl, -, hg1⟩)
        go_ret
        exact ⟨by rw [HR.out]; rfl, grown_trans HGj.out hg1⟩
      | false =>
        rw [hq, addN_no hq] at HC
        have HR : Hid (ixR l [] 0 = ixR (l.drop (j + 1)) (seen ++ [bl t]) (j + 1)) := by show _ = _; rw [HT.out, HStp.out, hq]; rfl
        clear hq
        go_wp2_with (go_at_call 94; refine HC.out.mono ?_; rintro e w1 ⟨rfl, hm1, hg1⟩; have HM1 := Lib.hid hm1; have HG1 := Lib.hid (grown_trans HGj.out hg1); clear hm1 hg1)
        go_roundw
        case rel => exact ⟨j + 1, _, hlt, by go_num, HR, HM1, HG1⟩
        case measure => simp [intOf]; omega
    · have HR : Hid (ixR l [] 0 = -1) := by
        show _ = _
        rw [HT.out, List.drop_eq_nil_of_le (by rw [← HM.out]; omega)]; rfl
      go_wp2
      go_ret
      exact ⟨by rw [HR.out]; rfl, HGj.out⟩
theorem rptContains_any (l : List ByteArray) (hl : l.length ≤ 100000) (hz : ∀ s ∈ l, s.size ≤ maxLen) (v : Value) (S : Nat → Prop) (Bx mb : Nat) (w : World) (h : SlG StrE w S l v) (hB : BoxC 109 w Bx [.map (some mb)]) (hS : ∀ b, S b → b ≠ mb) (hne : Bx ≠ mb) (hM : SM w mb 0 []) :
    Calls Try.prog 93 #[v, .func (.func 94) #[] #[.pointer (some ⟨Bx, 0, none⟩)]] w fun e w' => e = .returned (.bool (rep l)) ∧ w.grownBy w' (some mb) := by
  have HC := Lib.hid (rptIndex_any l hl hz v S Bx mb w h hB hS hne hM)
  clear h hB hM
  unfold rep
  generalize ixR l [] 0 = q at *
  go_enter Try.func93, Try.ntmps93
  go_wp2_with (go_at_call 116; refine HC.out.mono ?_; rintro e w1 ⟨rfl, hg1⟩)
  go_ret
  exact ⟨rfl, hg1⟩
theorem hasRepetition_any (l : List ByteArray) (hl : l.length ≤ 100000) (hz : ∀ s ∈ l, s.size ≤ maxLen) (v : Value) (S : Nat → Prop) (w : World) (h : SlG StrE w S l v) :
    Calls Try.prog 70 #[v] w fun e w' => e = .returned (.bool (rep l)) ∧ Below w.heap.size w w' := by
  have hmm := @run_makeMap Try.prog
  have HSl := Lib.hid h.bound
  have HM0 : Hid (∀ X, SM ((w.alloc (.map #[] 0)).alloc X) w.heap.size 0 []) := fun X => (SM.made w).alloc X
  have HBx : Hid (BoxC 109 ((w.alloc (.map #[] 0)).alloc (.cells #[.map (some w.heap.size)] 109)) (w.heap.size + 1) [.map (some w.heap.size)]) := by
    show BoxC _ _ _ _
    unfold BoxC; rw [heap_at, if_pos (by simp)]
  have hal : ∀ X Y, Below w.heap.size w ((w.alloc X).alloc Y) := fun X Y => ((Below.refl _ w).alloc (Nat.le_refl _) _).alloc (by simp) _
  have HA := Lib.hid hal
  have HC := Lib.hid (rptContains_any l hl hz v (fun b => S b ∧ b < w.heap.size) (w.heap.size + 1) w.heap.size _ (HSl.out.lift' (hal _ _)) HBx.out (fun b hb => by have := hb.2; omega) (by omega) (HM0.out _))
  obtain ⟨a, c, rfl, -⟩ := slice_form h
  clear h hal
  generalize l.length = m at *
  go_enter Try.func70, Try.ntmps70
  go_wp2_with (go_at_call 93; refine HC.out.mono ?_; rintro e w1 ⟨rfl, hg1⟩)
  go_ret
  exact ⟨rfl, Below.grown (HA.out _ _) hg1 (HA.out _ _).size (fun k hk => by have := Option.some.inj hk; omega)⟩
end Go.Proofs.Ytafpngmfhajedaa

/- The package's Check. -/
namespace Go.Proofs.Ytafpngmfhajedaa
open Go.RowKit Go.Sort Go.Shelf Go.Maps Mth

def chkC : List Ctor → List (List UInt8) → Option Int × List (List UInt8)
  | [], cs => (none, cs)
  | c :: l, cs => if cs.contains (bl c.name) then (some c.pos, cs) else chkC l (cs ++ [bl c.name])
/-- The first error of the names. -/
def chkN : List Dat → List (List UInt8) → List (List UInt8) → Int × Int
  | [], _, _ => (0, 0)
  | d :: l, ts, cs => if ts.contains (bl d.name) then (6, d.pos) else if rep d.params then (6, d.pos) else match chkC d.ctors cs with
    | (some p, _) => (6, p)
    | (none, cs') => chkN l (ts ++ [bl d.name]) cs'
theorem chkC_step {l : List Ctor} {j : Nat} {c : Ctor} {cs : List (List UInt8)} (h : l[j]? = some c) : chkC (l.drop j) cs = if cs.contains (bl c.name) then (some c.pos, cs) else chkC (l.drop (j + 1)) (cs ++ [bl c.name]) := by
  obtain ⟨hl, e⟩ := List.getElem?_eq_some_iff.1 h
  rw [List.drop_eq_getElem_cons hl, e]; rfl
theorem chkN_step {l : List Dat} {j : Nat} {d : Dat} {ts cs : List (List UInt8)} (h : l[j]? = some d) : chkN (l.drop j) ts cs = if ts.contains (bl d.name) then (6, d.pos) else if rep d.params then (6, d.pos) else match chkC d.ctors cs with
    | (some p, _) => (6, p)
    | (none, cs') => chkN (l.drop (j + 1)) (ts ++ [bl d.name]) cs' := by
  obtain ⟨hl, e⟩ := List.getElem?_eq_some_iff.1 h
  rw [List.drop_eq_getElem_cons hl, e]; rfl
/-- All names fit into memory. -/
def GoodN (ds : List Dat) : Prop := ∀ d ∈ ds, (∀ p ∈ d.params, p.size ≤ maxLen) ∧ ∀ c ∈ d.ctors, c.name.size ≤ maxLen
def fltV (p : Int × Int) : Value := .agg #[.int .i64 p.1, .int .i64 p.2]
theorem intN_fits : (⟨#[73, 110, 116]⟩ : ByteArray).size ≤ maxLen := size_lit _ (by decide)
/-- The two maps, the fault's box. -/
structure NmSt (w : World) (M : Nat) (ts cs : List (List UInt8)) (n1 n2 : Nat) (wr : World) : Prop where
  m1 : SM wr (w.heap.size + 1) n1 ts
  m2 : SM wr M n2 cs
  box : BoxC 29 wr w.heap.size [.int .i64 0, .int .i64 0]
  low : Below w.heap.size w wr
  lt : w.heap.size + 1 < M
theorem NmSt.lift {w : World} {M : Nat} {ts cs : List (List UInt8)} {n1 n2 : Nat} {wr v : World} (H : NmSt w M ts cs n1 n2 wr) (hb : Below wr.heap.size wr v) : NmSt w M ts cs n1 n2 v := ⟨H.m1.lift hb, H.m2.lift hb, H.box.lift hb, H.low.trans (hb.mono H.low.size), H.lt⟩
theorem NmSt.put1 {w : World} {M : Nat} {ts cs ts' : List (List UInt8)} {n1 n2 n1' : Nat} {wr v : World} (H : NmSt w M ts cs n1 n2 wr) (h : SM v (w.heap.size + 1) n1' ts') (hg : wr.grownBy v (some (w.heap.size + 1))) : NmSt w M ts' cs n1' n2 v :=
  ⟨h, H.m2.kept hg (by intro e; have := Option.some.inj e; have := H.lt; omega), H.box.grown hg (by intro e; have := Option.some.inj e; omega), Below.grown H.low hg H.low.size (fun k hk => by have := Option.some.inj hk; omega), H.lt⟩
theorem NmSt.put2 {w : World} {M : Nat} {ts cs cs' : List (List UInt8)} {n1 n2 n2' : Nat} {wr v : World} (H : NmSt w M ts cs n1 n2 wr) (h : SM v M n2' cs') (hg : wr.grownBy v (some M)) : NmSt w M ts cs' n1 n2' v :=
  ⟨H.m1.kept hg (by intro e; have := Option.some.inj e; have := H.lt; omega), h, H.box.grown hg (by intro e; have := Option.some.inj e; have := H.lt; omega), Below.grown H.low hg H.low.size (fun k hk => by have := Option.some.inj hk; have := H.lt; omega), H.lt⟩
/-- The fault is stored and handed back. -/
theorem flt_cells (t : TypeId) (ht : t = 29) : (Try.prog.info? t).map (·.size) = some 2 := by subst ht; kernel_rfl
set_option maxRecDepth 100000 in
set_option maxHeartbeats 6400000 in
theorem checkNames_any (ds : List Dat) (hds : GoodD ds) (hn : GoodN ds) (v : Value) (S : Nat → Prop) (w : World) (h : SlG DatE w S ds v) :
    Calls Try.prog 36 #[v] w fun e w' => e = .returned (fltV (chkN ds [[73, 110, 116]] [])) ∧ Below w.heap.size w w' := by
  have hmm := @run_makeMap Try.prog
  have HD := Lib.hid h
  have HG := Lib.hid hds.2
  have HNs := Lib.hid hn
  have hl := hds.1
  obtain ⟨da, dc, rfl, -⟩ := slice_form h
  obtain ⟨dn, hdn⟩ : ∃ n, n = ds.length := ⟨_, rfl⟩
  rw [← hdn] at HD hl ⊢
  have HDn := Lib.hid hdn
  clear hdn h hds hn
  have hal : Below w.heap.size w (w.alloc (.cells #[.int .i64 0, .int .i64 0] 29)) := (Below.refl _ w).alloc (Nat.le_refl _) _
  have HF0 : Hid (BoxC 29 (w.alloc (.cells #[.int .i64 0, .int .i64 0] 29)) w.heap.size [.int .i64 0, .int .i64 0]) := BoxC.made _ w _
  have hs0 : (w.alloc (.cells #[.int .i64 0, .int .i64 0] 29)).heap.size = w.heap.size + 1 := by simp
  have HB0 := Lib.hid hal
  clear hal
  go_enter Try.func36, Try.ntmps36
  go_upto_region 1 with fail
  generalize (w.alloc (.cells #[.int .i64 0, .int .i64 0] 29)) = V at *
  have HS0 := Lib.hid (SM.made V)
  have HBV : Hid (Below V.heap.size V (V.alloc (.map #[] 0))) := (Below.refl _ V).alloc (Nat.le_refl _) _
  rw [hs0] at HS0 HBV
  have HF1 := Lib.hid (HF0.out.lift (t := 29) ((Below.refl _ V).alloc (Nat.le_refl _) (.map #[] 0)))
  go_upto_region 2 with (refine wpList_sLay _ rfl _ _ _ rfl (w.heap.size + 1) 0 [] rfl HS0.out (by unfold maxLen; omega) ⟨#[73, 110, 116]⟩ rfl intN_fits rfl ?_; intro w1 hm1 hg1)
  have hs1 : w.heap.size + 1 < w1.heap.size := hm1.lt
  have HS1 := Lib.hid (SM.made w1)
  have hal1 : Below w1.heap.size w1 (w1.alloc (.map #[] 0)) := (Below.refl _ w1).alloc (Nat.le_refl _) _
  have hlow1 : Below w.heap.size w w1 := Below.grown (HB0.out.trans (HBV.out.mono (by omega))) hg1 (Nat.le_trans (by omega) (HBV.out.size)) (fun k hk => by have := Option.some.inj hk; omega)
  have H0 : Hid (NmSt w w1.heap.size [[73, 110, 116]] [] 1 0 (w1.alloc (.map #[] 0))) := ⟨hm1.lift hal1, HS1.out, (HF1.out.grown hg1 (by intro e; have := Option.some.inj e; omega)).lift hal1, hlow1.trans (hal1.mono hlow1.size), hs1⟩
  clear hm1 hg1 HS1 hal1 hlow1 HF1 HS0 HBV HB0 HF0 hs0 hs1
  go_upto_region 3 with fail
  clear hmm
  generalize w1.alloc (.map #[] 0) = W0 at *
  generalize w1.heap.size = M at *
  have HE : Hid (chkN ds [[73, 110, 116]] [] = chkN (ds.drop 0) [[73, 110, 116]] []) := rfl
  go_wp2
  go_loopw [14] (fun x wr => ∃ (j : Nat) (ts cs : List (List UInt8)) (n2 : Nat), j ≤ dn ∧ x = .int .i64 j ∧ n2 ≤ 1000 * j ∧ Hid (chkN ds [[73, 110, 116]] [] = chkN (ds.drop j) ts cs) ∧ Hid (NmSt w M ts cs (j + 1) n2 wr)) (fun x _ => dn - (intOf x).toNat)
  case atStart => exact ⟨0, _, _, 0, Nat.zero_le _, rfl, Nat.zero_le _, HE, H0⟩
  case round =>
    clear HE H0
    obtain ⟨j, ts, cs, n2, hj, rfl, hn2, HT, HO⟩ := hrel
    by_cases hjt : j < dn
    · obtain ⟨d, hd⟩ : ∃ x, ds[j]? = some x := ⟨_, List.getElem?_eq_getElem (by rw [← HDn.out]; exact hjt)⟩
      have HSt := Lib.hid (chkN_step (ts := ts) (cs := cs) hd)
      have hgd := HG.out d (List.mem_of_getElem? hd)
      have hnd := HNs.out d (List.mem_of_getElem? hd)
      have HNc := Lib.hid hnd.2
      have hcl := hgd.2.2.1
      obtain ⟨ad, pa, pc, ca, cc, rfl, hp, hct, r0, r1, r2, r3⟩ := dat_at HD.out hd
      have kW : ∀ {p : Addr} {u : Value}, w.cell? p = some u → wr.cell? p = some u := fun {p u} h => (HO.out.low.cell (World.block_lt_of_cell? _ _ h)).trans h
      have q0 := kW r0; have q1 := kW r1; have q2 := kW r2; have q3 := kW r3
      have hal : ∀ X, Below wr.heap.size wr (wr.alloc X) := fun X => (Below.refl _ wr).alloc (Nat.le_refl _) X
      have HA := Lib.hid hal
      have HIs : Hid (∀ X, Calls Try.prog 69 #[.map (some (w.heap.size + 1)), .string d.name] (wr.alloc X) fun e w' => e = .returned (.bool (!ts.contains (bl d.name))) ∧ NmSt w M (addN ts (bl d.name)) cs (j + 1 + 1) n2 w' ∧ (wr.alloc X).grownBy w' (some (w.heap.size + 1))) := fun X =>
        (isNew_any (w.heap.size + 1) (j + 1) ts d.name (wr.alloc X) hgd.2.1 (by unfold maxLen; omega) (HO.out.lift (hal X)).m1).mono fun _ _ ⟨h1, h2, h3⟩ => ⟨h1, (HO.out.lift (hal X)).put1 h2 h3, h3⟩
      have HHr : Hid (∀ V, Below w.heap.size w V → Calls Try.prog 70 #[.slice pa d.params.length pc] V fun e w' => e = .returned (.bool (rep d.params)) ∧ Below V.heap.size V w') := fun V hV => hasRepetition_any d.params (by have := hgd.1; omega) hnd.1 _ S V (hp.lift' hV)
      have HCt : Hid (∀ V, Below w.heap.size w V → SlG CtorE V S d.ctors (.slice ca d.ctors.length cc)) := fun V hb => hct.lift' hb
      clear r0 r1 r2 r3 kW
      have hji : (j : Int) < (dn : Int) := by omega
      have HA2 : Hid (∀ X, Below w.heap.size w (wr.alloc X)) := fun X => HO.out.low.alloc HO.out.low.size X
      have hMl := HO.out.m1.lt
      clear hal hp hct hgd hd
      obtain ⟨cl, hcl'⟩ : ∃ n, n = d.ctors.length := ⟨_, rfl⟩
      rw [← hcl'] at q3 HCt hcl
      have HCn := Lib.hid hcl'
      clear hcl'
      generalize d.params.length = pl at *
      have HDb : Hid (BoxC 36 (wr.alloc (.cells #[.int .i64 d.pos, .string d.name, .slice pa pl pc, .slice ca cl cc] 36)) wr.heap.size [.int .i64 d.pos, .string d.name, .slice pa pl pc, .slice ca cl cc]) := BoxC.made _ wr _
      have HI2 := Lib.hid (HIs.out (.cells #[.int .i64 d.pos, .string d.name, .slice pa pl pc, .slice ca cl cc] 36))
      have HAl := Lib.hid (HA.out (.cells #[.int .i64 d.pos, .string d.name, .slice pa pl pc, .slice ca cl cc] 36))
      clear HIs HA HA2
      go_upto_region 6 with fail
      generalize (wr.alloc (.cells #[.int .i64 d.pos, .string d.name, .slice pa pl pc, .slice ca cl cc] 36)) = V2 at *
      have b0 := HDb.out.cell 0 _ rfl; have b1 := HDb.out.cell 1 _ rfl; have b2 := HDb.out.cell 2 _ rfl; have b3 := HDb.out.cell 3 _ rfl
      clear q0 q1 q2 q3
      cases hq : ts.contains (bl d.name) with
      | true =>
        have HR : Hid (chkN ds [[73, 110, 116]] [] = (6, d.pos)) := by show _ = _; rw [HT.out, HSt.out, hq]; rfl
        rw [hq] at HI2
        clear hq
        go_wp2_with (first
          | (go_at_call 69; refine HI2.out.mono ?_; rintro e w1 ⟨rfl, hO1, hg1⟩; have HO1 := Lib.hid hO1; have hD1 := HDb.out.grown hg1 (by intro e; have := Option.some.inj e; omega); have d0 := hD1.cell 0 _ rfl; clear hO1 hg1 b0 b1 b2 b3)
          | (refine wpList_storeC rfl _ _ rfl _ _ [.int .i64 6, .int .i64 d.pos] HO1.out.box rfl rfl (flt_cells _ rfl) rfl (by intro u hu; simp at hu; rcases hu with rfl | rfl <;> rfl) ?_; intro w2 hB2 hg2 hs2))
        have c0 := hB2.cell 0 _ rfl; have c1 := hB2.cell 1 _ rfl
        have hlw := HO1.out.low
        refine bodyPost_ret (by simp [results, Try.results36, go_sem, c0, c1]; try rfl) rfl ?_
        exact ⟨by rw [HR.out]; rfl, Below.grown hlw hg2 hlw.size (fun k hk => by have := Option.some.inj hk; omega)⟩
      | false =>
        rw [hq] at HI2
        cases hr : rep d.params with
        | true =>
          have HR : Hid (chkN ds [[73, 110, 116]] [] = (6, d.pos)) := by show _ = _; rw [HT.out, HSt.out, hq, hr]; rfl
          rw [hr] at HHr
          clear hq hr
          go_wp2_with (first
            | (go_at_call 69; refine HI2.out.mono ?_; rintro e w1 ⟨rfl, hO1, hg1⟩; have HO1 := Lib.hid hO1; have hD1 := Lib.hid (HDb.out.grown hg1 (by intro e; have := Option.some.inj e; omega)); have d2 := hD1.out.cell 2 _ rfl; clear hO1 hg1 b0 b1 b2 b3)
            | (go_at_call 70; refine (HHr.out w1 HO1.out.low).mono ?_; rintro e w2 ⟨rfl, hb2⟩; have HO2 := Lib.hid (HO1.out.lift hb2); have d0 := (hD1.out.lift hb2).cell 0 _ rfl; clear hb2 d2)
            | (refine wpList_storeC rfl _ _ rfl _ _ [.int .i64 6, .int .i64 d.pos] HO2.out.box rfl rfl (flt_cells _ rfl) rfl (by intro u hu; simp at hu; rcases hu with rfl | rfl <;> rfl) ?_; intro w3 hB2 hg2 hs2))
          have c0 := hB2.cell 0 _ rfl; have c1 := hB2.cell 1 _ rfl
          have hlw := HO2.out.low
          refine bodyPost_ret (by simp [results, Try.results36, go_sem, c0, c1]; try rfl) rfl ?_
          exact ⟨by rw [HR.out]; rfl, Below.grown hlw hg2 hlw.size (fun k hk => by have := Option.some.inj hk; omega)⟩
        | false =>
          rw [hr] at HHr
          rw [addN_no hq] at HI2
          have HS3 : Hid (chkN ds [[73, 110, 116]] [] = match chkC d.ctors cs with | (some p, _) => (6, p) | (none, cs') => chkN (ds.drop (j + 1)) (ts ++ [bl d.name]) cs') := by show _ = _; rw [HT.out, HSt.out, hq, hr]; rfl
          clear hq hr HT HSt
          go_upto_region 8 with (first
            | (go_at_call 69; refine HI2.out.mono ?_; rintro e w1 ⟨rfl, hO1, hg1⟩; have HO1 := Lib.hid hO1; have hD1 := Lib.hid (HDb.out.grown hg1 (by intro e; have := Option.some.inj e; omega)); have d2 := hD1.out.cell 2 _ rfl; have HG1 := Lib.hid hg1; clear hO1 hg1 b0 b1 b2 b3)
            | (go_at_call 70; refine (HHr.out w1 HO1.out.low).mono ?_; rintro e w2 ⟨rfl, hb2⟩; have HO2 := Lib.hid (HO1.out.lift hb2); have d3 := (hD1.out.lift hb2).cell 3 _ rfl; have hw12 := Lib.hid hb2; clear hb2 d2))
          clear hD1 hw12 HG1 HO1 HI2 HHr HAl HDb HO
          have HC0 : Hid (chkC d.ctors cs = chkC (d.ctors.drop 0) cs) := rfl
          go_wp2
          clear d3
          go_loopw [34] (fun x wq => ∃ (k : Nat) (cs' : List (List UInt8)) (n3 : Nat), k ≤ cl ∧ x = .int .i64 k ∧ n3 ≤ n2 + k ∧ Hid (chkC d.ctors cs = chkC (d.ctors.drop k) cs') ∧ Hid (NmSt w M (ts ++ [bl d.name]) cs' (j + 1 + 1) n3 wq)) (fun x _ => cl - (intOf x).toNat)
          case atStart => exact ⟨0, cs, n2, Nat.zero_le _, rfl, Nat.le_refl _, HC0, HO2⟩
          case round =>
            clear HC0 HO2
            obtain ⟨k, cs', n3, hk, rfl, hn3, HTc, HOq⟩ := hrel
            by_cases hkt : k < cl
            · obtain ⟨c, hc⟩ : ∃ x, d.ctors[k]? = some x := ⟨_, List.getElem?_eq_getElem (by rw [← HCn.out]; exact hkt)⟩
              have HSc := Lib.hid (chkC_step (cs := cs') hc)
              have hcz := HNc.out c (List.mem_of_getElem? hc)
              obtain ⟨ad2, fa, fc, rfl, -, r0, r1, r2⟩ := ctor_at (HCt.out _ HOq.out.low) hc
              generalize c.fields.length = fn at *
              have hal : Below wr.heap.size wr (wr.alloc (.cells #[.int .i64 c.pos, .string c.name, .slice fa fn fc] 45)) := (Below.refl _ wr).alloc (Nat.le_refl _) _
              have HDc : Hid (BoxC 45 (wr.alloc (.cells #[.int .i64 c.pos, .string c.name, .slice fa fn fc] 45)) wr.heap.size [.int .i64 c.pos, .string c.name, .slice fa fn fc]) := BoxC.made _ wr _
              have hMq := HOq.out.m2.lt
              have HOa := Lib.hid (HOq.out.lift hal)
              have HIc : Hid (Calls Try.prog 69 #[.map (some M), .string c.name] (wr.alloc (.cells #[.int .i64 c.pos, .string c.name, .slice fa fn fc] 45)) fun e w' => e = .returned (.bool (!cs'.contains (bl c.name))) ∧ NmSt w M (ts ++ [bl d.name]) (addN cs' (bl c.name)) (j + 1 + 1) (n3 + 1) w' ∧ (wr.alloc (.cells #[.int .i64 c.pos, .string c.name, .slice fa fn fc] 45)).grownBy w' (some M)) :=
                (isNew_any M n3 cs' c.name _ hcz (by unfold maxLen; omega) HOa.out.m2).mono fun _ _ ⟨h1, h2, h3⟩ => ⟨h1, HOa.out.put2 h2 h3, h3⟩
              have hki : (k : Int) < (cl : Int) := by omega
              clear hc hal HOa
              go_upto_region 11 with fail
              generalize (wr.alloc (.cells #[.int .i64 c.pos, .string c.name, .slice fa fn fc] 45)) = V3 at *
              clear r0 r1 r2
              have s1 := HDc.out.cell 1 _ rfl
              cases hq : cs'.contains (bl c.name) with
              | true =>
                have HR : Hid (chkN ds [[73, 110, 116]] [] = (6, c.pos)) := by show _ = _; rw [HS3.out, HTc.out, HSc.out, hq]; rfl
                rw [hq] at HIc
                clear hq
                go_wp2_with (first
                  | (go_at_call 69; refine HIc.out.mono ?_; rintro e w1 ⟨rfl, hO1, hg1⟩; have HO1 := Lib.hid hO1; have d0 := (HDc.out.grown hg1 (by intro e; have := Option.some.inj e; omega)).cell 0 _ rfl; clear hO1 hg1 s1)
                  | (refine wpList_storeC rfl _ _ rfl _ _ [.int .i64 6, .int .i64 c.pos] HO1.out.box rfl rfl (flt_cells _ rfl) rfl (by intro u hu; simp at hu; rcases hu with rfl | rfl <;> rfl) ?_; intro w2 hB2 hg2 hs2))
                have c0 := hB2.cell 0 _ rfl; have c1 := hB2.cell 1 _ rfl
                have hlw := HO1.out.low
                refine bodyPost_ret (by simp [results, Try.results36, go_sem, c0, c1]; try rfl) rfl ?_
                exact ⟨by rw [HR.out]; rfl, Below.grown hlw hg2 hlw.size (fun k hk => by have := Option.some.inj hk; omega)⟩
              | false =>
                rw [hq, addN_no hq] at HIc
                have HR : Hid (chkC d.ctors cs = chkC (d.ctors.drop (k + 1)) (cs' ++ [bl c.name])) := by show _ = _; rw [HTc.out, HSc.out, hq]; rfl
                clear hq
                go_wp2_with (go_at_call 69; refine HIc.out.mono ?_; rintro e w1 ⟨rfl, hO1, -⟩; have HO1 := Lib.hid hO1; clear hO1 s1)
                go_roundw
                case rel => exact ⟨k + 1, _, n3 + 1, hkt, by go_num, by omega, HR, HO1⟩
                case measure => simp [intOf]; omega
            · have HN : Hid (chkC d.ctors cs = (none, cs')) := by
                show _ = _
                rw [HTc.out, List.drop_eq_nil_of_le (by rw [← HCn.out]; omega)]; rfl
              have HR : Hid (chkN ds [[73, 110, 116]] [] = chkN (ds.drop (j + 1)) (ts ++ [bl d.name]) cs') := by show _ = _; rw [HS3.out, HN.out]
              go_wp2
              go_roundw
              case rel => exact ⟨j + 1, _, cs', n3, hjt, by go_num, by omega, HR, HOq⟩
              case measure => simp [intOf]; omega
    · have HR : Hid (chkN ds [[73, 110, 116]] [] = (0, 0)) := by
        show _ = _
        rw [HT.out, List.drop_eq_nil_of_le (by rw [← HDn.out]; omega)]; rfl
      have hbx := HO.out.box
      have hlw := HO.out.low
      go_wp2_with (refine wpList_storeC rfl _ _ rfl _ _ [.int .i64 0, .int .i64 0] hbx rfl rfl (flt_cells _ rfl) rfl (by intro u hu; simp at hu; subst hu; rfl) ?_; intro w2 hB2 hg2 hs2)
      have c0 := hB2.cell 0 _ rfl; have c1 := hB2.cell 1 _ rfl
      refine bodyPost_ret (by simp [results, Try.results36, go_sem, c0, c1]; try rfl) rfl ?_
      exact ⟨by rw [HR.out]; rfl, Below.grown hlw hg2 hlw.size (fun k hk => by have := Option.some.inj hk; omega)⟩
end Go.Proofs.Ytafpngmfhajedaa

/- The package's Check: the fields; both together. -/
namespace Go.Proofs.Ytafpngmfhajedaa
open Go.RowKit Go.Sort Go.Shelf Go.Maps Mth

def chkF1 (ks : List (List UInt8 × Int)) (ns : List ByteArray) : List Ctor → Int × Int
  | [] => (0, 0)
  | c :: l => if frmL ks ns c.fields == 0 then chkF1 ks ns l else (frmL ks ns c.fields, c.pos)
/-- The first error of the fields. -/
def chkF (ks : List (List UInt8 × Int)) : List Dat → Int × Int
  | [] => (0, 0)
  | d :: l => if (chkF1 ks d.params d.ctors).1 == 0 then chkF ks l else chkF1 ks d.params d.ctors
theorem chkF1_step {ks : List (List UInt8 × Int)} {ns : List ByteArray} {l : List Ctor} {j : Nat} {c : Ctor} (h : l[j]? = some c) : chkF1 ks ns (l.drop j) = if frmL ks ns c.fields == 0 then chkF1 ks ns (l.drop (j + 1)) else (frmL ks ns c.fields, c.pos) := by
  obtain ⟨hl, e⟩ := List.getElem?_eq_some_iff.1 h
  rw [List.drop_eq_getElem_cons hl, e]; rfl
theorem chkF_step {ks : List (List UInt8 × Int)} {l : List Dat} {j : Nat} {d : Dat} (h : l[j]? = some d) : chkF ks (l.drop j) = if (chkF1 ks d.params d.ctors).1 == 0 then chkF ks (l.drop (j + 1)) else chkF1 ks d.params d.ctors := by
  obtain ⟨hl, e⟩ := List.getElem?_eq_some_iff.1 h
  rw [List.drop_eq_getElem_cons hl, e]; rfl
set_option maxRecDepth 100000 in
set_option maxHeartbeats 6400000 in
theorem checkFields_any (ds : List Dat) (hds : GoodD ds) (v : Value) (S : Nat → Prop) (w : World) (h : SlG DatE w S ds v) :
    Calls Try.prog 37 #[v] w fun e w' => e = .returned (fltV (chkF (kn ds) ds)) ∧ Below w.heap.size w w' := by
  have HD := Lib.hid h
  have HPc : Hid (∀ V, Below w.heap.size w V → Calls Try.prog 71 #[v] V fun e w' => ∃ b m, e = .returned (.map (some b)) ∧ KM w' b m (kn ds) ∧ m ≤ 2000 ∧ Below V.heap.size V w') := fun V hV => params_any ds hds.sized v S V (h.lift' hV)
  have hl := hds.1
  have HG := Lib.hid hds.2
  obtain ⟨da, dc, rfl, -⟩ := slice_form h
  obtain ⟨dn, hdn⟩ : ∃ n, n = ds.length := ⟨_, rfl⟩
  rw [← hdn] at HD hl HPc ⊢
  have HDn := Lib.hid hdn
  clear hdn h hds
  generalize kn ds = ks at *
  have HB0 : Hid (Below w.heap.size w (w.alloc (.cells #[.int .i64 0, .int .i64 0] 29))) := (Below.refl _ w).alloc (Nat.le_refl _) _
  have HF0 : Hid (BoxC 29 (w.alloc (.cells #[.int .i64 0, .int .i64 0] 29)) w.heap.size [.int .i64 0, .int .i64 0]) := BoxC.made _ w _
  have HE : Hid (chkF ks ds = chkF ks (ds.drop 0)) := rfl
  go_enter Try.func37, Try.ntmps37
  go_upto_region 1 with fail
  generalize (w.alloc (.cells #[.int .i64 0, .int .i64 0] 29)) = V at *
  go_wp2_with fail
  go_at_call 71
  refine (HPc.out V HB0.out).mono ?_
  rintro e W0 ⟨mb, mm, rfl, hk, -, hb0⟩
  have HK := Lib.hid hk
  have HBW := Lib.hid (HB0.out.trans (hb0.mono HB0.out.size))
  have HFW := Lib.hid (HF0.out.lift hb0)
  have HR0 : Hid (Below W0.heap.size W0 W0) := Below.refl _ _
  clear hk hb0 HB0 HF0 HPc
  go_wp2
  go_loopw [15] (fun x wr => ∃ j : Nat, j ≤ dn ∧ x = .int .i64 j ∧ Hid (chkF ks ds = chkF ks (ds.drop j)) ∧ Hid (Below W0.heap.size W0 wr)) (fun x _ => dn - (intOf x).toNat)
  case atStart => exact ⟨0, Nat.zero_le _, rfl, HE, HR0⟩
  case round =>
    clear HE HR0
    obtain ⟨j, hj, rfl, HT, HB⟩ := hrel
    have hbw := HBW.out.size
    by_cases hjt : j < dn
    · obtain ⟨d, hd⟩ : ∃ x, ds[j]? = some x := ⟨_, List.getElem?_eq_getElem (by rw [← HDn.out]; exact hjt)⟩
      have HSt := Lib.hid (chkF_step (ks := ks) hd)
      have hgd := HG.out d (List.mem_of_getElem? hd)
      have hcl := hgd.2.2.1
      have HGc := Lib.hid hgd.2.2.2
      have HBw := Lib.hid (HBW.out.trans (HB.out.mono hbw))
      obtain ⟨ad, pa, pc, ca, cc, rfl, hp, hct, q0, q1, q2, q3⟩ := dat_at (HD.out.lift' HBw.out) hd
      have HP := Lib.hid hp
      have HCt := Lib.hid hct
      have HKr := Lib.hid (HK.out.lift HB.out)
      have HFr := Lib.hid (HFW.out.lift HB.out)
      clear hp hct hgd hd
      obtain ⟨cl, hcl'⟩ : ∃ n, n = d.ctors.length := ⟨_, rfl⟩
      rw [← hcl'] at q3 HCt hcl
      have HCn := Lib.hid hcl'
      clear hcl'
      obtain ⟨pl, hpl'⟩ : ∃ n, n = d.params.length := ⟨_, rfl⟩
      rw [← hpl'] at q2 HP
      clear hpl'
      have hji : (j : Int) < (dn : Int) := by omega
      have hal : Below wr.heap.size wr (wr.alloc (.cells #[.int .i64 d.pos, .string d.name, .slice pa pl pc, .slice ca cl cc] 36)) := (Below.refl _ wr).alloc (Nat.le_refl _) _
      have HDb : Hid (BoxC 36 (wr.alloc (.cells #[.int .i64 d.pos, .string d.name, .slice pa pl pc, .slice ca cl cc] 36)) wr.heap.size [.int .i64 d.pos, .string d.name, .slice pa pl pc, .slice ca cl cc]) := BoxC.made _ wr _
      have HP1 := Lib.hid (HP.out.lift' hal); have HCt1 := Lib.hid (HCt.out.lift' hal); have HK1 := Lib.hid (HKr.out.lift hal); have HF1 := Lib.hid (HFr.out.lift hal)
      have HBw1 := Lib.hid (HBw.out.trans (hal.mono HBw.out.size))
      have HB1 := Lib.hid (HB.out.trans (hal.mono HB.out.size))
      have hdb := HDb.out.lt
      clear HP HCt HKr HFr HBw hal
      go_upto_region 5 with fail
      generalize (wr.alloc (.cells #[.int .i64 d.pos, .string d.name, .slice pa pl pc, .slice ca cl cc] 36)) = W1 at *
      generalize wr.heap.size = R1 at *
      clear q0 q1 q2 q3 HB
      have b3 := HDb.out.cell 3 _ rfl
      have HE1 : Hid (chkF1 ks d.params d.ctors = chkF1 ks d.params (d.ctors.drop 0)) := rfl
      have HR1 : Hid (Below W1.heap.size W1 W1) := Below.refl _ _
      go_wp2
      clear b3
      go_loopw [22] (fun x wr => ∃ k : Nat, k ≤ cl ∧ x = .int .i64 k ∧ Hid (chkF1 ks d.params d.ctors = chkF1 ks d.params (d.ctors.drop k)) ∧ Hid (Below W1.heap.size W1 wr)) (fun x _ => cl - (intOf x).toNat)
      case atStart => exact ⟨0, Nat.zero_le _, rfl, HE1, HR1⟩
      case round =>
        clear HE1 HR1
        obtain ⟨k, hk, rfl, HT1, HBk⟩ := hrel
        have hw1 := HBw1.out.size
        have hs1 := HB1.out.size
        by_cases hkt : k < cl
        · obtain ⟨c, hc⟩ : ∃ x, d.ctors[k]? = some x := ⟨_, List.getElem?_eq_getElem (by rw [← HCn.out]; exact hkt)⟩
          have HS1 := Lib.hid (chkF1_step (ks := ks) (ns := d.params) hc)
          have hgc := HGc.out c (List.mem_of_getElem? hc)
          have hfl := hgc.1
          obtain ⟨ad2, fa, fc, rfl, hfs, r0, r1, r2⟩ := ctor_at (HCt1.out.lift' HBk.out) hc
          obtain ⟨fl, hfl'⟩ : ∃ n, n = c.fields.length := ⟨_, rfl⟩
          rw [← hfl'] at r2 hfs hfl
          have HFl := Lib.hid hfl'
          have HFs := Lib.hid (slG_repL hfs)
          have HDb1 := Lib.hid (HDb.out.lift HBk.out)
          have HP2 := Lib.hid (HP1.out.lift' HBk.out); have HK2 := Lib.hid (HK1.out.lift HBk.out); have HF2 := Lib.hid (HF1.out.lift HBk.out)
          clear hfl' hgc hc hfs
          have hki : (k : Int) < (cl : Int) := by omega
          have hal : Below wr.heap.size wr (wr.alloc (.cells #[.int .i64 c.pos, .string c.name, .slice fa fl fc] 45)) := (Below.refl _ wr).alloc (Nat.le_refl _) _
          have HCb : Hid (BoxC 45 (wr.alloc (.cells #[.int .i64 c.pos, .string c.name, .slice fa fl fc] 45)) wr.heap.size [.int .i64 c.pos, .string c.name, .slice fa fl fc]) := BoxC.made _ wr _
          have HDb2 := Lib.hid (HDb1.out.lift hal); have HP3 := Lib.hid (HP2.out.lift' hal); have HK3 := Lib.hid (HK2.out.lift hal); have HF3 := Lib.hid (HF2.out.lift hal); have HFs2 := Lib.hid (HFs.out.lift hal)
          have HBw2 := Lib.hid (HBw1.out.trans ((HBk.out.trans (hal.mono HBk.out.size)).mono hw1))
          have HBk2 := Lib.hid (HBk.out.trans (hal.mono HBk.out.size))
          clear HDb1 HP2 HK2 HF2 HFs HBk hal
          go_upto_region 8 with fail
          generalize (wr.alloc (.cells #[.int .i64 c.pos, .string c.name, .slice fa fl fc] 45)) = W2 at *
          generalize wr.heap.size = R2 at *
          clear r0 r1 r2
          have s2 := HCb.out.cell 2 _ rfl
          have HE2 : Hid (frmL ks d.params c.fields = frmL ks d.params (c.fields.drop 0)) := rfl
          have HR2 : Hid (Below W2.heap.size W2 W2) := Below.refl _ _
          go_wp2
          clear s2
          go_loopw [29] (fun x wr => ∃ i : Nat, i ≤ fl ∧ x = .int .i64 i ∧ Hid (frmL ks d.params c.fields = frmL ks d.params (c.fields.drop i)) ∧ Hid (Below W2.heap.size W2 wr)) (fun x _ => fl - (intOf x).toNat)
          case atStart => exact ⟨0, Nat.zero_le _, rfl, HE2, HR2⟩
          case round =>
            clear HE2 HR2
            obtain ⟨i, hi, rfl, HT2, HBi⟩ := hrel
            have hw2 := HBw2.out.size
            by_cases hit : i < fl
            · obtain ⟨U, hU⟩ : ∃ x, c.fields[i]? = some x := ⟨_, List.getElem?_eq_getElem (by rw [← HFl.out]; exact hit)⟩
              have HS2 := Lib.hid (frmL_drop (ks := ks) (ns := d.params) hU)
              obtain ⟨fa', fc', e, -, hjx⟩ := HFs2.out.lift HBi.out
              simp only [Value.slice.injEq] at e
              obtain ⟨rfl, -, rfl⟩ := e
              obtain ⟨ad3, x, rfl, hSa, h5, hx⟩ := hjx i U hU
              obtain ⟨k', n', i', h', s', -, rfl, -, hs'⟩ := hx.open
              obtain ⟨q0, q1, q2, q3, q4⟩ := five_at h5
              obtain ⟨ua, uc, rfl, -⟩ := hs'
              have hal : Below wr.heap.size wr (wr.alloc (.cells #[.int .i64 k', .string n', .int .i64 i', .int .i64 h', .slice ua U.ts.length uc] 39)) := (Below.refl _ wr).alloc (Nat.le_refl _) _
              have HBx : Hid (Box (wr.alloc (.cells #[.int .i64 k', .string n', .int .i64 i', .int .i64 h', .slice ua U.ts.length uc] 39)) wr.heap.size (.int .i64 k') (.string n') (.int .i64 i') (.int .i64 h') (.slice ua U.ts.length uc)) := Box.made _ _ _ _ _ _
              have hbi := HBi.out.trans (hal.mono HBi.out.size)
              have HBi2 := Lib.hid hbi
              have HC := Lib.hid (formed_any ks d.params U mb mm _ _ S S _ (HK3.out.lift hbi) (HP3.out.lift' hbi) (hx.lift hal))
              have HDi := Lib.hid (HDb2.out.lift hbi)
              have HCi := Lib.hid (HCb.out.lift hbi)
              have HFi := Lib.hid (HF3.out.lift hbi)
              have hii : (i : Int) < (fl : Int) := by omega
              clear hU hx h5 hjx hSa hal hbi
              generalize U.ts.length = un at *
              generalize frm ks d.params U = eu at *
              go_upto_region 11 with fail
              generalize (wr.alloc (.cells #[.int .i64 k', .string n', .int .i64 i', .int .i64 h', .slice ua un uc] 39)) = W3 at *
              generalize wr.heap.size = R3 at *
              clear q0 q1 q2 q3 q4
              obtain ⟨q0, q1, q2, q3, q4⟩ := HBx.out.cells
              have d2 := HDi.out.cell 2 _ rfl
              cases hq : (eu == 0) with
              | true =>
                have hqn : (eu != 0) = false := by rw [bne, hq]; rfl
                have HR : Hid (frmL ks d.params c.fields = frmL ks d.params (c.fields.drop (i + 1))) := by show _ = _; rw [HT2.out, HS2.out, hq]; rfl
                clear hq
                go_wp2_with (go_at_call 72; refine HC.out.mono ?_; rintro e w1 ⟨rfl, hb1⟩; have HB2 := Lib.hid (HBi2.out.trans (hb1.mono HBi2.out.size)); clear hb1)
                go_roundw
                case rel => exact ⟨i + 1, hit, by go_num, HR, HB2⟩
                case measure => simp [intOf]; omega
              | false =>
                have hqn : (eu != 0) = true := by rw [bne, hq]; rfl
                have hR1 : frmL ks d.params c.fields = eu := by rw [HT2.out, HS2.out, hq]; rfl
                have hR2 : chkF1 ks d.params d.ctors = (eu, c.pos) := by rw [HT1.out, HS1.out, hR1, hq]; rfl
                have HR : Hid (chkF ks ds = (eu, c.pos)) := by show _ = _; rw [HT.out, HSt.out, hR2]; simp [hq]
                clear hq hR1 hR2
                go_wp2_with (first
                  | (go_at_call 72; refine HC.out.mono ?_; rintro e w1 ⟨rfl, hb1⟩; have HF4 := Lib.hid (HFi.out.lift hb1); have c0' := (HCi.out.lift hb1).cell 0 _ rfl; have HB2 := Lib.hid (HBw2.out.trans ((HBi2.out.trans (hb1.mono HBi2.out.size)).mono hw2)); clear hb1 q0 q1 q2 q3 q4 d2)
                  | (refine wpList_storeC rfl _ _ rfl _ _ [.int .i64 eu, .int .i64 c.pos] HF4.out rfl rfl (flt_cells _ rfl) rfl (by intro u hu; simp at hu; rcases hu with rfl | rfl <;> rfl) ?_; intro w2 hB2 hg2 hs2))
                have c0 := hB2.cell 0 _ rfl; have c1 := hB2.cell 1 _ rfl
                refine bodyPost_ret (by simp [results, Try.results37, go_sem, c0, c1]; try rfl) rfl ?_
                exact ⟨by rw [HR.out]; rfl, Below.grown HB2.out hg2 HB2.out.size (fun k hk => by have := Option.some.inj hk; omega)⟩
            · have hN : frmL ks d.params c.fields = 0 := by
                rw [HT2.out, List.drop_eq_nil_of_le (by rw [← HFl.out]; omega)]; rfl
              have HR : Hid (chkF1 ks d.params d.ctors = chkF1 ks d.params (d.ctors.drop (k + 1))) := by show _ = _; rw [HT1.out, HS1.out, hN]; rfl
              have HB2 := Lib.hid (HBk2.out.trans (HBi.out.mono HBk2.out.size))
              clear hN
              go_wp2
              go_roundw
              case rel => exact ⟨k + 1, hkt, by go_num, HR, HB2⟩
              case measure => simp [intOf]; omega
        · have hN : chkF1 ks d.params d.ctors = (0, 0) := by
            rw [HT1.out, List.drop_eq_nil_of_le (by rw [← HCn.out]; omega)]; rfl
          have HR : Hid (chkF ks ds = chkF ks (ds.drop (j + 1))) := by show _ = _; rw [HT.out, HSt.out, hN]; rfl
          have HB2 := Lib.hid (HB1.out.trans (HBk.out.mono hs1))
          clear hN
          go_wp2
          go_roundw
          case rel => exact ⟨j + 1, hjt, by go_num, HR, HB2⟩
          case measure => simp [intOf]; omega
    · have HR : Hid (chkF ks ds = (0, 0)) := by
        show _ = _
        rw [HT.out, List.drop_eq_nil_of_le (by rw [← HDn.out]; omega)]; rfl
      have hbx := HFW.out.lift HB.out
      have hlw := HBW.out.trans (HB.out.mono hbw)
      go_wp2_with (refine wpList_storeC rfl _ _ rfl _ _ [.int .i64 0, .int .i64 0] hbx rfl rfl (flt_cells _ rfl) rfl (by intro u hu; simp at hu; subst hu; rfl) ?_; intro w2 hB2 hg2 hs2)
      have c0 := hB2.cell 0 _ rfl; have c1 := hB2.cell 1 _ rfl
      refine bodyPost_ret (by simp [results, Try.results37, go_sem, c0, c1]; try rfl) rfl ?_
      exact ⟨by rw [HR.out]; rfl, Below.grown hlw hg2 hlw.size (fun k hk => by have := Option.some.inj hk; omega)⟩
end Go.Proofs.Ytafpngmfhajedaa

/- The library's Or over two faults; the package's Check. -/
namespace Go.Proofs.Ytafpngmfhajedaa
open Go.RowKit Go.Sort Go.Shelf Go.Maps Mth

def orP (a b : Int × Int) : Int × Int := if a == (0, 0) then b else a
set_option maxHeartbeats 3200000 in
theorem or_any (a b : Int × Int) (B : Nat) (w : World) (hB : BoxC 29 w B [.int .i64 a.1, .int .i64 a.2, .int .i64 b.1, .int .i64 b.2]) :
    Calls Try.prog 35 #[.slice (some ⟨B, 0, none⟩) 2 2] w fun e w' => e = .returned (fltV (orP a b)) ∧ Below w.heap.size w w' := by
  obtain ⟨a1, a2⟩ := a
  obtain ⟨b1, b2⟩ := b
  have q0 := hB.cell 0 _ rfl; have q1 := hB.cell 1 _ rfl; have q2 := hB.cell 2 _ rfl; have q3 := hB.cell 3 _ rfl
  have hl := hB.lt
  have step : ∀ r : Int × Int, orP (a1, a2) (b1, b2) = r → Calls Try.prog 35 #[.slice (some ⟨B, 0, none⟩) 2 2] w (fun e w' => e = .returned (fltV r) ∧ Below w.heap.size w w') →
      Calls Try.prog 35 #[.slice (some ⟨B, 0, none⟩) 2 2] w fun e w' => e = .returned (fltV (orP (a1, a2) (b1, b2))) ∧ Below w.heap.size w w' := fun r hr h => by rw [hr]; exact h
  have HA : Hid (∀ X Y Z, Below w.heap.size w (((w.alloc X).alloc Y).alloc Z)) := fun X Y Z => (((Below.refl _ w).alloc (Nat.le_refl _) _).alloc (by simp) _).alloc (by simp; omega) _
  have HA4 : Hid (∀ X Y Z Z', Below w.heap.size w ((((w.alloc X).alloc Y).alloc Z).alloc Z')) := fun X Y Z Z' => (HA.out X Y Z).alloc (by simp; omega) _
  have k2 : ∀ X Y Z, (((w.alloc X).alloc Y).alloc Z).cell? ⟨B, 2, none⟩ = some (.int .i64 b1) := fun X Y Z => ((HA.out X Y Z).cell (World.block_lt_of_cell? _ _ q2)).trans q2
  have k3 : ∀ X Y Z, (((w.alloc X).alloc Y).alloc Z).cell? ⟨B, 2 + 1, none⟩ = some (.int .i64 b2) := fun X Y Z => ((HA.out X Y Z).cell (World.block_lt_of_cell? _ _ q3)).trans q3
  clear hB
  cases h1 : (a1 == 0) with
  | false =>
    refine step (a1, a2) (by unfold orP; rw [if_neg (by simp at h1 ⊢; intro e; exact absurd e h1)]) ?_
    clear step
    go_enter Try.func35, Try.ntmps35
    go_wp2
    go_rounds 2
    go_wp2
    go_returns
    exact ⟨rfl, HA.out _ _ _⟩
  | true =>
    cases h2 : (a2 == 0) with
    | false =>
      refine step (a1, a2) (by unfold orP; rw [if_neg (by simp at h2 ⊢; intro _; exact h2)]) ?_
      clear step
      go_enter Try.func35, Try.ntmps35
      go_wp2
      go_rounds 2
      go_wp2
      go_returns
      exact ⟨rfl, HA.out _ _ _⟩
    | true =>
      refine step (b1, b2) (by unfold orP; rw [if_pos (by simp at h1 h2 ⊢; exact ⟨h1, h2⟩)]) ?_
      clear step
      cases h3 : (b1 == 0) <;> cases h4 : (b2 == 0)
      all_goals
        go_enter Try.func35, Try.ntmps35
        go_wp2
        go_rounds 3
        go_wp2
        first
          | (go_returns; exact ⟨rfl, HA4.out _ _ _ _⟩)
          | (go_returns; simp at h3 h4; subst h3; subst h4; exact ⟨rfl, HA4.out _ _ _ _⟩)
/-- The first error of all. -/
def chk (ds : List Dat) : Int × Int := orP (chkN ds [[73, 110, 116]] []) (chkF (kn ds) ds)
set_option maxHeartbeats 1600000 in
theorem check_any (ds : List Dat) (hds : GoodD ds) (hn : GoodN ds) (v : Value) (S : Nat → Prop) (w : World) (h : SlG DatE w S ds v) :
    Calls Try.prog 10 #[v] w fun e w' => e = .returned (fltV (chk ds)) ∧ Below w.heap.size w w' := by
  have HN : Hid (∀ V, Below w.heap.size w V → Calls Try.prog 36 #[v] V fun e w' => e = .returned (fltV (chkN ds [[73, 110, 116]] [])) ∧ Below V.heap.size V w') := fun V hV => checkNames_any ds hds hn v S V (h.lift' hV)
  have HF : Hid (∀ V, Below w.heap.size w V → Calls Try.prog 37 #[v] V fun e w' => e = .returned (fltV (chkF (kn ds) ds)) ∧ Below V.heap.size V w') := fun V hV => checkFields_any ds hds v S V (h.lift' hV)
  unfold chk
  obtain ⟨da, dc, rfl, -⟩ := slice_form h
  clear h hds hn
  generalize ds.length = dn at *
  generalize chkN ds [[73, 110, 116]] [] = a at *
  generalize chkF (kn ds) ds = b at *
  have HO : Hid (∀ V : World, Calls Try.prog 35 #[.slice (some ⟨V.heap.size, 0, none⟩) 2 2] (V.alloc (.cells #[.int .i64 a.1, .int .i64 a.2, .int .i64 b.1, .int .i64 b.2] 29)) fun e w' => e = .returned (fltV (orP a b)) ∧ Below V.heap.size V w') := fun V =>
    (or_any a b V.heap.size _ (BoxC.made _ V _)).mono fun _ _ ⟨h1, h2⟩ => ⟨h1, ((Below.refl _ V).alloc (Nat.le_refl _) _).trans (h2.mono (by simp))⟩
  have HB0 : Hid (Below w.heap.size w (w.alloc (.cells #[.int .i64 0, .int .i64 0] 29))) := (Below.refl _ w).alloc (Nat.le_refl _) _
  have HF0 : Hid (BoxC 29 (w.alloc (.cells #[.int .i64 0, .int .i64 0] 29)) w.heap.size [.int .i64 0, .int .i64 0]) := BoxC.made _ w _
  unfold fltV at HN HF HO
  generalize orP a b = r at *
  go_enter Try.func10, Try.ntmps10
  go_upto_region 1 with fail
  generalize (w.alloc (.cells #[.int .i64 0, .int .i64 0] 29)) = V at *
  go_wp2_with fail
  go_at_call 36
  refine (HN.out V HB0.out).mono ?_
  rintro e w1 ⟨rfl, hb1⟩
  have HB1 := Lib.hid (HB0.out.trans (hb1.mono HB0.out.size))
  have HF1 := Lib.hid (HF0.out.lift hb1)
  go_wp2_with fail
  go_at_call 37
  refine (HF.out w1 HB1.out).mono ?_
  rintro e w2 ⟨rfl, hb2⟩
  have HB2 := Lib.hid (HB1.out.trans (hb2.mono HB1.out.size))
  have HF2 := Lib.hid (HF1.out.lift hb2)
  go_wp2_with fail
  go_at_call 35
  refine (HO.out w2).mono ?_
  rintro e w3 ⟨rfl, hb3⟩
  have HB3 := Lib.hid (HB2.out.trans (hb3.mono HB2.out.size))
  have HF3 := Lib.hid (HF2.out.lift hb3)
  go_wp2_with (refine wpList_storeC rfl _ _ rfl _ _ [.int .i64 r.1, .int .i64 r.2] HF3.out rfl rfl (flt_cells _ rfl) rfl (by intro u hu; simp at hu; rcases hu with rfl | rfl <;> rfl) ?_; intro w4 hB2 hg2 hs2)
  have c0 := hB2.cell 0 _ rfl; have c1 := hB2.cell 1 _ rfl
  refine bodyPost_ret (by simp [results, Try.results10, go_sem, c0, c1]; try rfl) rfl ?_
  exact ⟨rfl, Below.grown HB3.out hg2 HB3.out.size (fun k hk => by have := Option.some.inj hk; omega)⟩
end Go.Proofs.Ytafpngmfhajedaa
