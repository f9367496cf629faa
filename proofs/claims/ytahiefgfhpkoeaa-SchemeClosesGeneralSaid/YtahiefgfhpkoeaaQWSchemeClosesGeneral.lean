/- The law SchemeClosesGeneral returns true at every input. -/
import Derived.Test.YtahiefgfhpkoeaaQS
namespace Go.Proofs.Ytahiefgfhpkoeaa
open Go.RowKit Go.Sort Go.Shelf Go.Maps Mth

set_option maxRecDepth 100000 in
set_option maxHeartbeats 20000000 in
theorem schemeClosesGeneral_any (bits : Int) (cv : Value) (zs : List Int) (w : World) (hz : Ints w cv zs) :
    Calls Try.prog 7 #[.int .i64 bits, cv] w fun e w' => e = .returned (.bool true) ∧ Below w.heap.size w w' := by
  have HZ := Lib.hid hz
  obtain ⟨ca, cc, rfl, -, -, -⟩ := hz
  have HFi := Lib.hid (fun w => first14_any w)
  have HFw : Hid (∀ w', Below w.heap.size w w' → Calls Try.prog 10 #[.slice ca zs.length cc] w' fun e w'' => e = .returned (.bool (decide (zs.length ≤ 60))) ∧ w' = w'') := fun w' hb => few_any _ zs w' (HZ.out.lift hb)
  have HTp : Hid (zs.length ≤ 60 → ∀ w1, Below w.heap.size w w1 → w.heap.size < w1.heap.size → Tq (w1.alloc (.cells #[.slice ca zs.length cc, .int .i64 0] 33)) w1.heap.size) := fun h w1 hb hs => tape_start (by omega) HZ.out hb hs
  have HMd := Lib.hid (fun b w h => made14_any bits b w h)
  have HAl : Hid (∀ (w : World) (o : Obj), Below w.heap.size w (w.alloc o)) := fun w o => (Below.refl _ w).alloc (Nat.le_refl _) _
  have HBM : Hid (∀ w : World, Zero (w.alloc (.cells #[.int .i64 0, .string ⟨#[]⟩, .int .i64 0, .int .i64 0, .slice none 0 0] 25)) w.heap.size) := fun w => Box.made _ _ _ _ _ _
  have HZm : Hid (∀ w : World, Zero6 (w.alloc (.cells #[.int .i64 0, .int .i64 0, .string ⟨#[]⟩, .int .i64 0, .int .i64 0, .slice none 0 0] 27)) w.heap.size) := fun w => BoxC.made _ _ _ _ _ _ _
  generalize zs.length = zn at *
  cases hfw : decide (zn ≤ 60)
  all_goals
    rw [hfw] at HFw
    have HFwp := Lib.hid hfw
    clear hfw
    go_enter Try.func7, Try.ntmps7
    go_wp2_with fail
    go_at_call 9
    refine (HFi.out _).mono ?_
    rintro e w1 ⟨rfl, hb1, hs1⟩
    go_wp2_with (go_at_call 10; refine (HFw.out _ hb1).mono ?_; rintro e w3 ⟨rfl, rfl⟩)
  any_goals (go_ret; exact ⟨rfl, hb1⟩)
  have hT1 := HTp.out (of_decide_eq_true HFwp.out) _ hb1 hs1
  have hbV : Below w.heap.size w (w1.alloc (.cells #[.slice ca zn cc, .int .i64 0] 33)) := hb1.trans ((HAl.out _ _).mono hb1.size)
  have hVs : (w1.alloc (.cells #[.slice ca zn cc, .int .i64 0] 33)).heap.size = w1.heap.size + 1 := by simp
  generalize hb : w1.heap.size = b at *
  generalize (w1.alloc (.cells #[.slice ca zn cc, .int .i64 0] 33)) = V at *
  have HT1 := Lib.hid hT1
  have HV := Lib.hid hbV
  have HVs := Lib.hid hVs
  have hwb : w.heap.size ≤ b := Nat.le_of_lt hs1
  clear hT1 hbV hVs HTp HFw HFi HFwp hb1 HZ hb hs1
  refine (HMd.out b V HT1.out).mono ?_
  rintro e w2 ⟨T, ids, u, v, rfl, hrep, hok, hrow, hil, hib, htq, hg⟩
  have hV1 : b + 1 ≤ V.heap.size := by have := HVs.out; omega
  obtain ⟨xk, xn, xi, xh, xa, xm, xc, rfl⟩ := hrep.form
  obtain ⟨va, vc, rfl, hvl, hvc⟩ := hrow.slice
  have HG2 : Hid (V.grownBy w2 (some b)) := hg
  have HT2 := Lib.hid htq
  have HX2 : Hid (Rep w2 (fun c => b < c) T (.agg #[.int .i64 xk, .string xn, .int .i64 xi, .int .i64 xh, .slice xa xm xc])) := hrep.imp fun c hc => by omega
  have HR2 : Hid (RowI w2 (b + 1) (.slice va ids.length vc) ids) := ⟨hrow.1, by
    rcases hrow.2 with h | ⟨g, cap, cur, h1, h2, h3⟩
    · exact .inl h
    · exact .inr ⟨g, cap, cur, h1, by omega, h3⟩⟩
  have HOk := Lib.hid hok
  have HIl := Lib.hid hil
  have HIb := Lib.hid hib
  clear hrep hok hrow hil hib htq hg hvl hvc
  go_wp2_with (refine wpList_store5 rfl _ _ rfl _ _ _ _ _ _ (HBM.out w2) rfl _ _ _ _ _ _ _ rfl ?_; intro w4 hB4 hg4 hs4)
  have hb24 : Below w2.heap.size w2 w4 := Below.grown (HAl.out w2 _) hg4 (by simp) (fun k hk => by cases hk; exact Nat.le_refl _)
  have HM1 : Hid (MkX w b w2.heap.size T ids xk xn xi xh xa xm xc (.slice va ids.length vc) w4) := ⟨hB4, HX2.out.lift hb24, HR2.out.lift hb24, HOk.out, HT2.out.lt⟩
  have HT4 : Hid (Tq w4 b) := HT2.out.lift hb24
  have HG4 : Hid (V.grownBy w4 (some b)) := grown_trans HG2.out (grown_of_below hb24 _)
  have hs24 : w2.heap.size < w4.heap.size := by rw [hs4]; simp
  have HOkT := HOk
  clear hB4 hg4 hs4 hb24 HX2 HR2 HT2 HG2 HOk
  generalize hB1 : w2.heap.size = B1 at *
  generalize hn1 : ids.length = n1 at *
  clear hB1 hn1 hV1 hs24 HIl HIb HMd HOkT HZm
  have HDs := Lib.hid (fun w => datas_any bits w)
  have HSb : Hid (∀ (ds : List Dat) (dv : Value) (b : Nat) (w : World), Some_ ds → SlG DatE w (fun c => c ≠ b) ds dv → Tq w b → Calls Try.prog 31 #[.pointer (some ⟨b, 0, none⟩), dv, .int .i64 4] w fun e w' => ∃ u σ, e = .returned u ∧ SuSt w b u σ w' ∧ OkSN QS 4 σ) := fun ds dv b w h1 h2 h3 => mkSubstQ_any QS 4 (by decide) leaf4s leaf4q ds dv b w h1 h2 h3
  have HVT : Hid (valid T = true ∧ allN QS T = true ∧ nodes T ≤ 15) := by
    have h := HM1.out.ok.1.2
    rw [capN3] at h
    exact ⟨HM1.out.ok.1.1, HM1.out.ok.2, h⟩
  have hbl : b < w4.heap.size := HT4.out.lt
  have HW4 : Hid (Below w.heap.size w w4) := Below.grown HV.out HG4.out HV.out.size (fun k hk => by cases hk; exact hwb)
  have Hbl := Lib.hid hbl
  have Hwb := Lib.hid hwb
  -- the maker's data, at any world behind
  have HDw : Hid (∀ W, Below w4.heap.size w4 W → Calls Try.prog 14 #[.int .i64 bits] W fun e w' => ∃ ds dv, e = .returned dv ∧ (∀ W', Below w'.heap.size w' W' → Calls Try.prog 31 #[.pointer (some ⟨b, 0, none⟩), dv, .int .i64 4] W' fun e w'' => ∃ u σ, e = .returned u ∧ SuSt W' b u σ w'' ∧ OkSN QS 4 σ) ∧ Below W.heap.size W w') := fun W hb => by
    refine (HDs.out W).mono ?_
    rintro e w' ⟨ds, dv, rfl, h1, h2, h3⟩
    refine ⟨ds, dv, rfl, fun W' hb' => ?_, h3⟩
    have hlt := hb.size
    exact HSb.out ds dv b W' h1 ((h2.kept (S' := fun c => c ≠ b) (fun c hc => by have := Hbl.out; omega) (fun _ _ _ => rfl)).kept (fun _ h => h) (fun c _ hl => hb'.block c hl)) ((HT4.out.lift hb).lift (h3.trans (hb'.mono h3.size)))
  -- replacing: what is made leads not into the box
  have HRw : Hid (∀ (W W0 W6 : World) (σ : List (Int × Ty)) (u : Value) (B : Nat), w4.grownBy W (some b) → Below W6.heap.size W6 W → SuSt W0 b u σ W6 → w4.heap.size ≤ W0.heap.size → OkSN QS 4 σ → w4.heap.size ≤ B → (B < W0.heap.size ∨ W6.heap.size ≤ B) → B < W.heap.size → Calls Try.prog 26 #[.agg #[.int .i64 xk, .string xn, .int .i64 xi, .int .i64 xh, .slice xa xm xc], u] W fun e w' => ∃ r, e = .returned r ∧ Rep w' (fun c => c ≠ B) (repl σ T) r ∧ Below W.heap.size W w') := fun W W0 W6 σ u B hg hb6 hsu h0 hos hB hBo hBW => by
    have hx := (HM1.out.rep.bound.kept (w' := W) (S' := fun c => c ≠ B) (fun c hc => by omega) (fun c hc hl => hg.block c hl (by intro e; have := Option.some.inj e; omega)))
    have hrow := hsu.row.slG (S' := fun c => W0.heap.size ≤ c) (fun c hc => hc) (fun c hc => hc)
    have hA := ((slG_asL hrow).bound).kept (w' := W) (S' := fun c => c ≠ B ∧ c < W.heap.size) (fun c hc => ⟨by omega, by have := hb6.size; omega⟩) (fun c hc hl => hb6.block c hl)
    exact refRepl_any σ T _ _ (fun c => c ≠ B) _ W (by have := HVT.out.2.2; omega) hA (fun _ h => h) (fun c hc => by omega) hx
  have HS : Hid (∀ W', w4.grownBy W' (some b) → W'.cell? ⟨B1, 0, none⟩ = some (.int .i64 xk) ∧ W'.cell? ⟨B1, 1, none⟩ = some (.string xn) ∧ W'.cell? ⟨B1, 2, none⟩ = some (.int .i64 xi) ∧ W'.cell? ⟨B1, 3, none⟩ = some (.int .i64 xh) ∧ W'.cell? ⟨B1, 4, none⟩ = some (.slice xa xm xc)) := fun W' hb => (HM1.out.far hb).box.cells
  have HE0 : Hid (Below w4.heap.size w4 w4.drew) := (Below.refl _ w4).drew
  have HEd : Hid (∀ W : World, Below W.heap.size W W.drew) := fun W => (Below.refl _ W).drew
  have HEa : Hid (∀ (W : World) (o : Obj), Below W.heap.size W (W.alloc o).drew) := fun W o => (HAl.out W o).drew
  have HEr : Hid (∀ W : World, Below W.heap.size W W) := fun W => Below.refl _ W
  have HGb : Hid (∀ {W W' : World}, Below W.heap.size W W' → W.grownBy W' (some b)) := fun {W W'} h => grown_of_below h _
  have HZa : Hid (∀ W : World, Zero (W.alloc (.cells #[.int .i64 0, .string ⟨#[]⟩, .int .i64 0, .int .i64 0, .slice none 0 0] 25)).drew W.heap.size) := fun W => HBM.out W
  have HRn : Hid (∀ (W W0 W6 : World) (σ : List (Int × Ty)) (u : Value), w4.grownBy W (some b) → Below W6.heap.size W6 W → SuSt W0 b u σ W6 → w4.heap.size ≤ W0.heap.size → OkSN QS 4 σ → Calls Try.prog 26 #[.agg #[.int .i64 xk, .string xn, .int .i64 xi, .int .i64 xh, .slice xa xm xc], u] W fun e w' => ∃ r, e = .returned r ∧ Rep w' (fun _ => True) (repl σ T) r ∧ Below W.heap.size W w') := fun W W0 W6 σ u hg hb6 hsu h0 hos => by
    have hx := ((HM1.out.far hg).rep.imp fun _ _ => trivial : Rep W (fun _ => True) T _)
    have hrow := hsu.row.slG (S' := fun _ => True) (fun c hc => trivial) (fun c hc => trivial)
    have hA := ((slG_asL hrow).bound).kept (w' := W) (S' := fun c => True ∧ c < W.heap.size) (fun c hc => ⟨trivial, by have := hb6.size; omega⟩) (fun c hc hl => hb6.block c hl)
    exact refRepl_any σ T _ _ (fun _ => True) _ W (by have := HVT.out.2.2; omega) hA (fun _ h => h) (fun c hc => trivial) hx
  have HZk : Hid (∀ {W W' : World} {B : Nat}, w4.heap.size ≤ B → Zero W B → W.grownBy W' (some b) → Zero W' B) := fun {W W' B} hB h hg => Box.grown h hg (by intro e; have := Option.some.inj e; have := Hbl.out; omega)
  have HZt : Hid (∀ {W : World} {B : Nat}, Zero W B → B < W.heap.size) := fun {W B} h => Box.lt h
  have HZf : Hid (∀ {W W' : World} {B : Nat}, Zero W B → Below W.heap.size W W' → Zero W' B) := fun {W W' B} h hb => Box.lift h hb
  have HSx : Hid (∀ {W : World} {B : Nat}, w4.heap.size ≤ B → w4.grownBy W (some b) → Zero W B → ∀ (k : Int) (n : ByteArray) (i h : Int) (a : Option Addr) (m c : Nat), (∀ W', W' = (((((W.setCell ⟨B, 0, none⟩ (.int .i64 k)).setCell ⟨B, 1, none⟩ (.string n)).setCell ⟨B, 2, none⟩ (.int .i64 i)).setCell ⟨B, 3, none⟩ (.int .i64 h)).setCell ⟨B, 4, none⟩ (.slice a m c)) → W'.cell? ⟨B1, 0, none⟩ = some (.int .i64 xk) ∧ W'.cell? ⟨B1, 1, none⟩ = some (.string xn) ∧ W'.cell? ⟨B1, 2, none⟩ = some (.int .i64 xi) ∧ W'.cell? ⟨B1, 3, none⟩ = some (.int .i64 xh) ∧ W'.cell? ⟨B1, 4, none⟩ = some (.slice xa xm xc)) ∧ Box (((((W.setCell ⟨B, 0, none⟩ (.int .i64 k)).setCell ⟨B, 1, none⟩ (.string n)).setCell ⟨B, 2, none⟩ (.int .i64 i)).setCell ⟨B, 3, none⟩ (.int .i64 h)).setCell ⟨B, 4, none⟩ (.slice a m c)) B (.int .i64 k) (.string n) (.int .i64 i) (.int .i64 h) (.slice a m c) ∧ w4.grownBy (((((W.setCell ⟨B, 0, none⟩ (.int .i64 k)).setCell ⟨B, 1, none⟩ (.string n)).setCell ⟨B, 2, none⟩ (.int .i64 i)).setCell ⟨B, 3, none⟩ (.int .i64 h)).setCell ⟨B, 4, none⟩ (.slice a m c)) (some b) ∧ W.grownBy (((((W.setCell ⟨B, 0, none⟩ (.int .i64 k)).setCell ⟨B, 1, none⟩ (.string n)).setCell ⟨B, 2, none⟩ (.int .i64 i)).setCell ⟨B, 3, none⟩ (.int .i64 h)).setCell ⟨B, 4, none⟩ (.slice a m c)) (some B)) := fun {W B} hB hg hz k n i h a m c => by
    obtain ⟨h1, h2, -⟩ := set5 hz (.int .i64 k) (.string n) (.int .i64 i) (.int .i64 h) (.slice a m c)
    have h3 := grown_fresh hg h2 (fun j hj => by cases hj; exact hB)
    exact ⟨fun W' e => HS.out W' (e ▸ h3), h1, h3, h2⟩
  have HOr : Hid (∀ (W6 : World) {W : World} {B : Nat}, Zero W B → (B < W.heap.size ∨ W6.heap.size ≤ B)) := fun W6 {W B} h => Or.inl h.lt
  clear HDs HSb hbl HVs HV HG4 HT4 hwb
  go_upto_region 7 with fail
  go_cut [8] (fun s8 wx => ∃ (B2 : Nat) (σ : List (Int × Ty)) (yk : Int) (yn : ByteArray) (yi yh : Int) (ya : Option Addr) (ym yc : Nat), s8 = .pointer (some ⟨B2, 0, none⟩) ∧ Hid (Box wx B2 (.int .i64 yk) (.string yn) (.int .i64 yi) (.int .i64 yh) (.slice ya ym yc) ∧ Rep wx (fun _ => True) (repl σ T) (.agg #[.int .i64 yk, .string yn, .int .i64 yi, .int .i64 yh, .slice ya ym yc]) ∧ w4.grownBy wx (some b) ∧ OkSN QS 4 σ))
  case first =>
   go_region_held3 (fun W' => W'.cell? ⟨B1, 0, none⟩ = some (.int .i64 xk) ∧ W'.cell? ⟨B1, 1, none⟩ = some (.string xn) ∧ W'.cell? ⟨B1, 2, none⟩ = some (.int .i64 xi) ∧ W'.cell? ⟨B1, 3, none⟩ = some (.int .i64 xh) ∧ W'.cell? ⟨B1, 4, none⟩ = some (.slice xa xm xc))
     (first
       | with_reducible exact HSC.out.1 _ rfl
       | with_reducible exact HS.out _ HG3.out
       | with_reducible exact HS.out _ (grown_trans HG3.out (HGb.out (HEd.out _)))
       | with_reducible exact HS.out _ (grown_trans HG3.out (HGb.out (HAl.out _ _)))
       | with_reducible exact HS.out _ (grown_trans HG3.out (HGb.out (HEa.out _ _)))
       | with_reducible exact HS.out _ HG3.out
       | with_reducible exact HS.out _ (grown_trans HG2.out (HGb.out (HEd.out _)))
       | with_reducible exact HS.out _ (grown_trans HG2.out (HGb.out (HAl.out _ _)))
       | with_reducible exact HS.out _ (grown_trans HG2.out (HGb.out (HEa.out _ _)))
       | with_reducible exact HS.out _ HG2.out
       | with_reducible exact HS.out _ (grown_trans HG1.out (HGb.out (HEd.out _)))
       | with_reducible exact HS.out _ (grown_trans HG1.out (HGb.out (HAl.out _ _)))
       | with_reducible exact HS.out _ (grown_trans HG1.out (HGb.out (HEa.out _ _)))
       | with_reducible exact HS.out _ HG1.out
       | with_reducible exact HS.out _ (HGb.out (HEd.out _))
       | with_reducible exact HS.out _ (HGb.out (HAl.out _ _))
       | with_reducible exact HS.out _ (HGb.out (HEa.out _ _))
       | with_reducible exact HS.out _ (HGb.out (HEr.out _)))
     (first
       | (go_at_call 14; (with_reducible refine (HDw.out _ (HAl.out w4 (.cells #[.int .i64 0, .string ⟨#[]⟩, .int .i64 0, .int .i64 0, .slice none 0 0] 25))).mono ?_); rintro e w5 ⟨ds, dv, rfl, hsu, hb⟩; have HSu := Lib.hid hsu; have HZ5 := Lib.hid (HZf.out (HBM.out w4) hb); have HG1 := Lib.hid (HGb.out ((HAl.out w4 (.cells #[.int .i64 0, .string ⟨#[]⟩, .int .i64 0, .int .i64 0, .slice none 0 0] 25)).trans (hb.mono (HAl.out w4 (.cells #[.int .i64 0, .string ⟨#[]⟩, .int .i64 0, .int .i64 0, .slice none 0 0] 25)).size))); clear hsu hb)
       | (go_at_call 14; (with_reducible refine (HDw.out _ (HEa.out w4 (.cells #[.int .i64 0, .string ⟨#[]⟩, .int .i64 0, .int .i64 0, .slice none 0 0] 25))).mono ?_); rintro e w5 ⟨ds, dv, rfl, hsu, hb⟩; have HSu := Lib.hid hsu; have HZ5 := Lib.hid (HZf.out (HZa.out w4) hb); have HG1 := Lib.hid (HGb.out ((HEa.out w4 (.cells #[.int .i64 0, .string ⟨#[]⟩, .int .i64 0, .int .i64 0, .slice none 0 0] 25)).trans (hb.mono (HEa.out w4 (.cells #[.int .i64 0, .string ⟨#[]⟩, .int .i64 0, .int .i64 0, .slice none 0 0] 25)).size))); clear hsu hb)
       | (go_at_call 14; (with_reducible refine (HDw.out _ (HEr.out w4)).mono ?_); rintro e w5 ⟨ds, dv, rfl, hsu, hb⟩; have HSu := Lib.hid hsu; have HG1 := Lib.hid (HGb.out ((HEr.out w4).trans (hb.mono (HEr.out w4).size))); clear hsu hb)
       | (go_at_call 14; (with_reducible refine (HDw.out _ (HEd.out w4)).mono ?_); rintro e w5 ⟨ds, dv, rfl, hsu, hb⟩; have HSu := Lib.hid hsu; have HG1 := Lib.hid (HGb.out ((HEd.out w4).trans (hb.mono (HEd.out w4).size))); clear hsu hb)
       | (go_at_call 31; have hz5 := HZ5.out; (with_reducible refine (HSu.out _ (HEr.out w5)).mono ?_); rintro e w6 ⟨u2, σ, rfl, hsu, hos⟩; have HZ6 := Lib.hid (HZk.out (Nat.le_refl _) (HZf.out hz5 (HEr.out w5)) hsu.grown); have HB6 := Lib.hid (Nat.le_refl w4.heap.size); have HH0 := Lib.hid (Nat.le_trans HG1.out.size (HEr.out w5).size); have HBo := Lib.hid (HOr.out w6 (HZf.out hz5 (HEr.out w5))); have HG2 := Lib.hid (grown_trans HG1.out (grown_trans (HGb.out (HEr.out w5)) hsu.grown)); clear hz5; have HSz := Lib.hid hsu; have HOs := Lib.hid hos; clear hsu hos)
       | (go_at_call 31; have hz5 := HZ5.out; (with_reducible refine (HSu.out _ (HEd.out w5)).mono ?_); rintro e w6 ⟨u2, σ, rfl, hsu, hos⟩; have HZ6 := Lib.hid (HZk.out (Nat.le_refl _) (HZf.out hz5 (HEd.out w5)) hsu.grown); have HB6 := Lib.hid (Nat.le_refl w4.heap.size); have HH0 := Lib.hid (Nat.le_trans HG1.out.size (HEd.out w5).size); have HBo := Lib.hid (HOr.out w6 (HZf.out hz5 (HEd.out w5))); have HG2 := Lib.hid (grown_trans HG1.out (grown_trans (HGb.out (HEd.out w5)) hsu.grown)); clear hz5; have HSz := Lib.hid hsu; have HOs := Lib.hid hos; clear hsu hos)
       | (go_at_call 31; (with_reducible refine (HSu.out _ (HAl.out w5 (.cells #[.int .i64 0, .string ⟨#[]⟩, .int .i64 0, .int .i64 0, .slice none 0 0] 25))).mono ?_); rintro e w6 ⟨u2, σ, rfl, hsu, hos⟩; have HZ6 := Lib.hid (HZk.out HG1.out.size (HBM.out w5) hsu.grown); have HB6 := Lib.hid HG1.out.size; have HH0 := Lib.hid (Nat.le_trans HG1.out.size (HAl.out w5 (.cells #[.int .i64 0, .string ⟨#[]⟩, .int .i64 0, .int .i64 0, .slice none 0 0] 25)).size); have HBo := Lib.hid (HOr.out w6 (HBM.out w5)); have HG2 := Lib.hid (grown_trans HG1.out (grown_trans (HGb.out (HAl.out w5 (.cells #[.int .i64 0, .string ⟨#[]⟩, .int .i64 0, .int .i64 0, .slice none 0 0] 25))) hsu.grown)); have HSz := Lib.hid hsu; have HOs := Lib.hid hos; clear hsu hos)
       | (go_at_call 31; (with_reducible refine (HSu.out _ (HEa.out w5 (.cells #[.int .i64 0, .string ⟨#[]⟩, .int .i64 0, .int .i64 0, .slice none 0 0] 25))).mono ?_); rintro e w6 ⟨u2, σ, rfl, hsu, hos⟩; have HZ6 := Lib.hid (HZk.out HG1.out.size (HZa.out w5) hsu.grown); have HB6 := Lib.hid HG1.out.size; have HH0 := Lib.hid (Nat.le_trans HG1.out.size (HEa.out w5 (.cells #[.int .i64 0, .string ⟨#[]⟩, .int .i64 0, .int .i64 0, .slice none 0 0] 25)).size); have HBo := Lib.hid (HOr.out w6 (HZa.out w5)); have HG2 := Lib.hid (grown_trans HG1.out (grown_trans (HGb.out (HEa.out w5 (.cells #[.int .i64 0, .string ⟨#[]⟩, .int .i64 0, .int .i64 0, .slice none 0 0] 25))) hsu.grown)); have HSz := Lib.hid hsu; have HOs := Lib.hid hos; clear hsu hos)
       | (go_at_call 31; (with_reducible refine (HSu.out _ (HEr.out w5)).mono ?_); rintro e w6 ⟨u2, σ, rfl, hsu, hos⟩; have HH0 := Lib.hid (Nat.le_trans HG1.out.size (HEr.out w5).size); have HG2 := Lib.hid (grown_trans HG1.out (grown_trans (HGb.out (HEr.out w5)) hsu.grown)); have HSz := Lib.hid hsu; have HOs := Lib.hid hos; clear hsu hos)
       | (go_at_call 31; (with_reducible refine (HSu.out _ (HEd.out w5)).mono ?_); rintro e w6 ⟨u2, σ, rfl, hsu, hos⟩; have HH0 := Lib.hid (Nat.le_trans HG1.out.size (HEd.out w5).size); have HG2 := Lib.hid (grown_trans HG1.out (grown_trans (HGb.out (HEd.out w5)) hsu.grown)); have HSz := Lib.hid hsu; have HOs := Lib.hid hos; clear hsu hos)
       | (go_at_call 26; have hz6 := HZ6.out; (with_reducible refine (HRw.out _ _ w6 σ u2 _ (grown_trans HG2.out (HGb.out (HEr.out w6))) (HEr.out w6) HSz.out HH0.out HOs.out HB6.out HBo.out (HZt.out (HZf.out hz6 (HEr.out w6)))).mono ?_); rintro e w7 ⟨r7, rfl, hr, hb⟩; have HZ7 := Lib.hid (HZf.out (HZf.out hz6 (HEr.out w6)) hb); clear hz6; have HG3 := Lib.hid (grown_trans HG2.out (HGb.out ((HEr.out w6).trans (hb.mono (HEr.out w6).size)))); obtain ⟨yk, yn, yi, yh, ya, ym, yc, rfl⟩ := hr.form; have HR7 := Lib.hid hr; have HB7 := HB6; have HSC := Lib.hid (HSx.out HB7.out HG3.out HZ7.out yk yn yi yh ya ym yc); obtain ⟨z0, z1, z2, z3, z4⟩ := HZ7.out.cells; obtain ⟨f0, f1, f2, f3, f4⟩ := HZ7.out.frozen; clear hr hb)
       | (go_at_call 26; have hz6 := HZ6.out; (with_reducible refine (HRw.out _ _ w6 σ u2 _ (grown_trans HG2.out (HGb.out (HEd.out w6))) (HEd.out w6) HSz.out HH0.out HOs.out HB6.out HBo.out (HZt.out (HZf.out hz6 (HEd.out w6)))).mono ?_); rintro e w7 ⟨r7, rfl, hr, hb⟩; have HZ7 := Lib.hid (HZf.out (HZf.out hz6 (HEd.out w6)) hb); clear hz6; have HG3 := Lib.hid (grown_trans HG2.out (HGb.out ((HEd.out w6).trans (hb.mono (HEd.out w6).size)))); obtain ⟨yk, yn, yi, yh, ya, ym, yc, rfl⟩ := hr.form; have HR7 := Lib.hid hr; have HB7 := HB6; have HSC := Lib.hid (HSx.out HB7.out HG3.out HZ7.out yk yn yi yh ya ym yc); obtain ⟨z0, z1, z2, z3, z4⟩ := HZ7.out.cells; obtain ⟨f0, f1, f2, f3, f4⟩ := HZ7.out.frozen; clear hr hb)
       | (go_at_call 26; (with_reducible refine (HRw.out _ _ w6 σ u2 w6.heap.size (grown_trans HG2.out (HGb.out (HAl.out w6 (.cells #[.int .i64 0, .string ⟨#[]⟩, .int .i64 0, .int .i64 0, .slice none 0 0] 25)))) (HAl.out w6 (.cells #[.int .i64 0, .string ⟨#[]⟩, .int .i64 0, .int .i64 0, .slice none 0 0] 25)) HSz.out HH0.out HOs.out HG2.out.size (Or.inr (Nat.le_refl _)) (HZt.out (HBM.out w6))).mono ?_); rintro e w7 ⟨r7, rfl, hr, hb⟩; have HZ7 := Lib.hid (HZf.out (HBM.out w6) hb); have HG3 := Lib.hid (grown_trans HG2.out (HGb.out ((HAl.out w6 (.cells #[.int .i64 0, .string ⟨#[]⟩, .int .i64 0, .int .i64 0, .slice none 0 0] 25)).trans (hb.mono (HAl.out w6 (.cells #[.int .i64 0, .string ⟨#[]⟩, .int .i64 0, .int .i64 0, .slice none 0 0] 25)).size)))); obtain ⟨yk, yn, yi, yh, ya, ym, yc, rfl⟩ := hr.form; have HR7 := Lib.hid hr; have HB7 := Lib.hid HG2.out.size; have HSC := Lib.hid (HSx.out HB7.out HG3.out HZ7.out yk yn yi yh ya ym yc); obtain ⟨z0, z1, z2, z3, z4⟩ := HZ7.out.cells; obtain ⟨f0, f1, f2, f3, f4⟩ := HZ7.out.frozen; clear hr hb)
       | (go_at_call 26; (with_reducible refine (HRw.out _ _ w6 σ u2 w6.heap.size (grown_trans HG2.out (HGb.out (HEa.out w6 (.cells #[.int .i64 0, .string ⟨#[]⟩, .int .i64 0, .int .i64 0, .slice none 0 0] 25)))) (HEa.out w6 (.cells #[.int .i64 0, .string ⟨#[]⟩, .int .i64 0, .int .i64 0, .slice none 0 0] 25)) HSz.out HH0.out HOs.out HG2.out.size (Or.inr (Nat.le_refl _)) (HZt.out (HZa.out w6))).mono ?_); rintro e w7 ⟨r7, rfl, hr, hb⟩; have HZ7 := Lib.hid (HZf.out (HZa.out w6) hb); have HG3 := Lib.hid (grown_trans HG2.out (HGb.out ((HEa.out w6 (.cells #[.int .i64 0, .string ⟨#[]⟩, .int .i64 0, .int .i64 0, .slice none 0 0] 25)).trans (hb.mono (HEa.out w6 (.cells #[.int .i64 0, .string ⟨#[]⟩, .int .i64 0, .int .i64 0, .slice none 0 0] 25)).size)))); obtain ⟨yk, yn, yi, yh, ya, ym, yc, rfl⟩ := hr.form; have HR7 := Lib.hid hr; have HB7 := Lib.hid HG2.out.size; have HSC := Lib.hid (HSx.out HB7.out HG3.out HZ7.out yk yn yi yh ya ym yc); obtain ⟨z0, z1, z2, z3, z4⟩ := HZ7.out.cells; obtain ⟨f0, f1, f2, f3, f4⟩ := HZ7.out.frozen; clear hr hb)
       | (go_at_call 26; (with_reducible refine (HRn.out _ _ w6 σ u2 (grown_trans HG2.out (HGb.out (HEr.out w6))) (HEr.out w6) HSz.out HH0.out HOs.out).mono ?_); rintro e w7 ⟨r7, rfl, hr, hb⟩; have HG3 := Lib.hid (grown_trans HG2.out (HGb.out ((HEr.out w6).trans (hb.mono (HEr.out w6).size)))); obtain ⟨yk, yn, yi, yh, ya, ym, yc, rfl⟩ := hr.form; have HRn7 := Lib.hid hr; clear hr hb)
       | (go_at_call 26; (with_reducible refine (HRn.out _ _ w6 σ u2 (grown_trans HG2.out (HGb.out (HEd.out w6))) (HEd.out w6) HSz.out HH0.out HOs.out).mono ?_); rintro e w7 ⟨r7, rfl, hr, hb⟩; have HG3 := Lib.hid (grown_trans HG2.out (HGb.out ((HEd.out w6).trans (hb.mono (HEd.out w6).size)))); obtain ⟨yk, yn, yi, yh, ya, ym, yc, rfl⟩ := hr.form; have HRn7 := Lib.hid hr; clear hr hb))
   all_goals
     clear HDw HRw HRn HZk HZt HZf HOr HSx HS HE0 HZa
     go_wp2_with fail
     go_meet
     first
       | exact ⟨_, σ, yk, yn, yi, yh, ya, ym, yc, rfl, HSC.out.2.1, HR7.out.kept (fun _ _ => trivial) (fun c hc hl => HSC.out.2.2.2.block c hl (fun e => hc (Option.some.inj e))), HSC.out.2.2.1, HOs.out⟩
       | exact ⟨_, σ, yk, yn, yi, yh, ya, ym, yc, rfl, Box.made _ _ _ _ _ _, HRn7.out.lift (HAl.out _ _), grown_trans HG3.out (HGb.out (HAl.out _ _)), HOs.out⟩
  case rest =>
    obtain ⟨B2, σ, yk, yn, yi, yh, ya, ym, yc, rfl, HCut⟩ := hcut
    clear HDw HRw HRn HZk HZt HZf HOr HSx HS HE0 HZa
    have HMc := Lib.hid (HM1.out.far HCut.out.2.2.1)
    have HWc : Hid (Below w.heap.size w wc) := Below.grown HW4.out HCut.out.2.2.1 HW4.out.size (fun k hk => by cases hk; exact Hwb.out)
    have HYv : Hid (valid (repl σ T) = true ∧ nodes (repl σ T) ≤ 100) := by
      refine ⟨valid_repl (fun p hp => (HCut.out.2.2.2.2 p hp).2.2.1.1) T HVT.out.1, ?_⟩
      have h1 := nodes_repl σ 3 (by decide) (fun p hp => (HCut.out.2.2.2.2 p hp).2.2.1.2) T
      have h2 := HVT.out.2.2
      omega
    have HGe := Lib.hid (fun (ids idy : List Int) hall => gB_closes (s := σ) (x := T) (ids := ids) (idy := idy) HVT.out.1 HVT.out.2.1 (fun p hp => (HCut.out.2.2.2.2 p hp).2.2.1.1) (fun p hp => (HCut.out.2.2.2.2 p hp).2.2.2) hall)
    have HQy : Hid (allN QS (repl σ T) = true) := qs_repl (fun p hp => (HCut.out.2.2.2.2 p hp).2.2.2) T HVT.out.2.1
    have HAll : Hid (∀ v ∈ vids T, (varsOf [T]).contains v = true) := fun v hv => by
      rw [varsOf_one (plain_of_valid T HVT.out.1), List.contains_iff_mem]
      exact (ded_mem v (vids T) []).2 (.inr hv)
    have HXr : Hid (∀ W, Below wc.heap.size wc W → Rep W (fun _ => True) T (.agg #[.int .i64 xk, .string xn, .int .i64 xi, .int .i64 xh, .slice xa xm xc])) := fun W hb => (HMc.out.rep.imp fun _ _ => trivial).lift hb
    have HYr : Hid (∀ W, Below wc.heap.size wc W → Rep W (fun _ => True) (repl σ T) (.agg #[.int .i64 yk, .string yn, .int .i64 yi, .int .i64 yh, .slice ya ym yc])) := fun W hb => HCut.out.2.1.lift hb
    have HXl : Hid (∀ W, Below wc.heap.size wc W → RepL (W.alloc (.cells #[.int .i64 xk, .string xn, .int .i64 xi, .int .i64 xh, .slice xa xm xc] 25)) (fun _ => True) [T] (.slice (some ⟨W.heap.size, 0, none⟩) 1 1)) := fun W hb => repL_one _ trivial (HXr.out W hb)
    have HYl : Hid (∀ W, Below wc.heap.size wc W → RepL (W.alloc (.cells #[.int .i64 yk, .string yn, .int .i64 yi, .int .i64 yh, .slice ya ym yc] 25)) (fun _ => True) [repl σ T] (.slice (some ⟨W.heap.size, 0, none⟩) 1 1)) := fun W hb => repL_one _ trivial (HYr.out W hb)
    have HXl2 : Hid (RepL ((wc.alloc (.cells #[.int .i64 yk, .string yn, .int .i64 yi, .int .i64 yh, .slice ya ym yc] 25)).alloc (.cells #[.int .i64 xk, .string xn, .int .i64 xi, .int .i64 xh, .slice xa xm xc] 25)) (fun _ => True) [T] (.slice (some ⟨wc.heap.size + 1, 0, none⟩) 1 1)) := by
      have h := HXl.out (wc.alloc (.cells #[.int .i64 yk, .string yn, .int .i64 yi, .int .i64 yh, .slice ya ym yc] 25)) (HAl.out wc _)
      have e : (wc.alloc (.cells #[.int .i64 yk, .string yn, .int .i64 yi, .int .i64 yh, .slice ya ym yc] 25)).heap.size = wc.heap.size + 1 := by simp
      rw [e] at h
      exact h
    have HYl2 : Hid (RepL ((wc.alloc (.cells #[.int .i64 xk, .string xn, .int .i64 xi, .int .i64 xh, .slice xa xm xc] 25)).alloc (.cells #[.int .i64 yk, .string yn, .int .i64 yi, .int .i64 yh, .slice ya ym yc] 25)) (fun _ => True) [repl σ T] (.slice (some ⟨wc.heap.size + 1, 0, none⟩) 1 1)) := by
      have h := HYl.out (wc.alloc (.cells #[.int .i64 xk, .string xn, .int .i64 xi, .int .i64 xh, .slice xa xm xc] 25)) (HAl.out wc _)
      have e : (wc.alloc (.cells #[.int .i64 xk, .string xn, .int .i64 xi, .int .i64 xh, .slice xa xm xc] 25)).heap.size = wc.heap.size + 1 := by simp
      rw [e] at h
      exact h
    have HVx : Hid (∀ {W : World} {v : Value}, RepL W (fun _ => True) [T] v → Calls Try.prog 35 #[v] W fun e w' => ∃ u, e = .returned u ∧ Ints w' u (varsOf [T]) ∧ Below W.heap.size W w') := fun {W v} h => m28 (fun U hU => by simp at hU; subst hU; exact HVT.out.1) (by have : nodesL [T] = nodes T := rfl; have := HVT.out.2.2; omega) h
    have HVy : Hid (∀ {W : World} {v : Value}, RepL W (fun _ => True) [repl σ T] v → Calls Try.prog 35 #[v] W fun e w' => ∃ u, e = .returned u ∧ Ints w' u (varsOf [repl σ T]) ∧ Below W.heap.size W w') := fun {W v} h => m28 (fun U hU => by simp at hU; subst hU; exact HYv.out.1) (by have : nodesL [repl σ T] = nodes (repl σ T) := rfl; have := HYv.out.2; omega) h
    have HCx : Hid (∀ {W : World} {v : Value}, Below wc.heap.size wc W → Ints W v (varsOf [T]) → Calls Try.prog 20 #[.agg #[.int .i64 xk, .string xn, .int .i64 xi, .int .i64 xh, .slice xa xm xc], v] W fun e w' => ∃ u, e = .returned u ∧ RepC w' (fun _ => True) (((clV (varsOf [T]) T).length : Int), clT (varsOf [T]) T) u ∧ Below W.heap.size W w') := fun {W v} hb hi => pkClose_any T _ _ v (fun _ => True) W HVT.out.1 (plain_of_valid T HVT.out.1) (by have := HVT.out.2.2; omega) (fun _ _ => trivial) (HXr.out W hb) hi
    have HCy : Hid (∀ {W : World} {v : Value}, Below wc.heap.size wc W → Ints W v (varsOf [repl σ T]) → Calls Try.prog 20 #[.agg #[.int .i64 yk, .string yn, .int .i64 yi, .int .i64 yh, .slice ya ym yc], v] W fun e w' => ∃ u, e = .returned u ∧ RepC w' (fun _ => True) (((clV (varsOf [repl σ T]) (repl σ T)).length : Int), clT (varsOf [repl σ T]) (repl σ T)) u ∧ Below W.heap.size W w') := fun {W v} hb hi => pkClose_any (repl σ T) _ _ v (fun _ => True) W HYv.out.1 (plain_of_valid _ HYv.out.1) (by have := HYv.out.2; omega) (fun _ _ => trivial) (HYr.out W hb) hi
    have HMy : Hid (∀ W, Below wc.heap.size wc W → Calls Try.prog 21 #[.agg #[.int .i64 yk, .string yn, .int .i64 yi, .int .i64 yh, .slice ya ym yc]] W fun e w' => ∃ u, e = .returned u ∧ RepC w' (fun _ => True) (0, repl σ T) u ∧ Below W.heap.size W w') := fun W hb => pkMono_any (repl σ T) _ _ W (HYr.out W hb)
    have HG1 : Hid (∀ {W : World} {u v : Value}, RepC W (fun _ => True) (((clV (varsOf [T]) T).length : Int), clT (varsOf [T]) T) u → RepC W (fun _ => True) (((clV (varsOf [repl σ T]) (repl σ T)).length : Int), clT (varsOf [repl σ T]) (repl σ T)) v → Calls Try.prog 32 #[u, v] W fun e w' => e = .returned (.bool true) ∧ Below W.heap.size W w') := fun {W u v} hu hv => by
      have h := pkGeneral_any _ _ _ _ u v _ _ W (clT_sch HVT.out.1 HVT.out.2.1) (clT_sch HYv.out.1 HQy.out) hu hv
      have h2 := (HGe.out (varsOf [T]) (varsOf [repl σ T]) HAll.out).1
      unfold gB at h2
      rwa [h2] at h
    have HG2 : Hid (∀ {W : World} {u v : Value}, RepC W (fun _ => True) (((clV (varsOf [T]) T).length : Int), clT (varsOf [T]) T) u → RepC W (fun _ => True) (0, repl σ T) v → Calls Try.prog 32 #[u, v] W fun e w' => e = .returned (.bool true) ∧ Below W.heap.size W w') := fun {W u v} hu hv => by
      have hk : SchOk 26 0 (repl σ T) := by
        have h := clT_sch (ids := []) HYv.out.1 HQy.out
        rw [clV_nil, clT_nil] at h
        exact h
      have h := pkGeneral_any _ 0 _ _ u v _ _ W (clT_sch HVT.out.1 HVT.out.2.1) hk hu hv
      have h2 := (HGe.out (varsOf [T]) [] HAll.out).2
      unfold gB at h2
      rwa [h2] at h
    have HS : Hid (∀ W', Below wc.heap.size wc W' → W'.cell? ⟨B1, 0, none⟩ = some (.int .i64 xk) ∧ W'.cell? ⟨B1, 1, none⟩ = some (.string xn) ∧ W'.cell? ⟨B1, 2, none⟩ = some (.int .i64 xi) ∧ W'.cell? ⟨B1, 3, none⟩ = some (.int .i64 xh) ∧ W'.cell? ⟨B1, 4, none⟩ = some (.slice xa xm xc) ∧ W'.cell? ⟨B2, 0, none⟩ = some (.int .i64 yk) ∧ W'.cell? ⟨B2, 1, none⟩ = some (.string yn) ∧ W'.cell? ⟨B2, 2, none⟩ = some (.int .i64 yi) ∧ W'.cell? ⟨B2, 3, none⟩ = some (.int .i64 yh) ∧ W'.cell? ⟨B2, 4, none⟩ = some (.slice ya ym yc)) := fun W' hb => by
      obtain ⟨x0, x1, x2, x3, x4⟩ := (HMc.out.lift hb).box.cells
      obtain ⟨y0, y1, y2, y3, y4⟩ := (Box.lift HCut.out.1 hb).cells
      exact ⟨x0, x1, x2, x3, x4, y0, y1, y2, y3, y4⟩
    clear HGe HXr HYr HMc HCut HYv HQy HAll HVT HM1 HW4
    go_wp2_with fail
    go_region_held3 (fun W' => W'.cell? ⟨B1, 0, none⟩ = some (.int .i64 xk) ∧ W'.cell? ⟨B1, 1, none⟩ = some (.string xn) ∧ W'.cell? ⟨B1, 2, none⟩ = some (.int .i64 xi) ∧ W'.cell? ⟨B1, 3, none⟩ = some (.int .i64 xh) ∧ W'.cell? ⟨B1, 4, none⟩ = some (.slice xa xm xc) ∧ W'.cell? ⟨B2, 0, none⟩ = some (.int .i64 yk) ∧ W'.cell? ⟨B2, 1, none⟩ = some (.string yn) ∧ W'.cell? ⟨B2, 2, none⟩ = some (.int .i64 yi) ∧ W'.cell? ⟨B2, 3, none⟩ = some (.int .i64 yh) ∧ W'.cell? ⟨B2, 4, none⟩ = some (.slice ya ym yc))
      (first
        | with_reducible exact HS.out _ HK9.out
        | with_reducible exact HS.out _ (HK9.out.trans (Below.mono (HEd.out _) HK9.out.size))
        | with_reducible exact HS.out _ (HK9.out.trans (Below.mono (HAl.out _ _) HK9.out.size))
        | with_reducible exact HS.out _ (HK9.out.trans (Below.mono (HEa.out _ _) HK9.out.size))
        | with_reducible exact HS.out _ HK8.out
        | with_reducible exact HS.out _ (HK8.out.trans (Below.mono (HEd.out _) HK8.out.size))
        | with_reducible exact HS.out _ (HK8.out.trans (Below.mono (HAl.out _ _) HK8.out.size))
        | with_reducible exact HS.out _ (HK8.out.trans (Below.mono (HEa.out _ _) HK8.out.size))
        | with_reducible exact HS.out _ HK7.out
        | with_reducible exact HS.out _ (HK7.out.trans (Below.mono (HEd.out _) HK7.out.size))
        | with_reducible exact HS.out _ (HK7.out.trans (Below.mono (HAl.out _ _) HK7.out.size))
        | with_reducible exact HS.out _ (HK7.out.trans (Below.mono (HEa.out _ _) HK7.out.size))
        | with_reducible exact HS.out _ HK6.out
        | with_reducible exact HS.out _ (HK6.out.trans (Below.mono (HEd.out _) HK6.out.size))
        | with_reducible exact HS.out _ (HK6.out.trans (Below.mono (HAl.out _ _) HK6.out.size))
        | with_reducible exact HS.out _ (HK6.out.trans (Below.mono (HEa.out _ _) HK6.out.size))
        | with_reducible exact HS.out _ HK5.out
        | with_reducible exact HS.out _ (HK5.out.trans (Below.mono (HEd.out _) HK5.out.size))
        | with_reducible exact HS.out _ (HK5.out.trans (Below.mono (HAl.out _ _) HK5.out.size))
        | with_reducible exact HS.out _ (HK5.out.trans (Below.mono (HEa.out _ _) HK5.out.size))
        | with_reducible exact HS.out _ HK4.out
        | with_reducible exact HS.out _ (HK4.out.trans (Below.mono (HEd.out _) HK4.out.size))
        | with_reducible exact HS.out _ (HK4.out.trans (Below.mono (HAl.out _ _) HK4.out.size))
        | with_reducible exact HS.out _ (HK4.out.trans (Below.mono (HEa.out _ _) HK4.out.size))
        | with_reducible exact HS.out _ HK3.out
        | with_reducible exact HS.out _ (HK3.out.trans (Below.mono (HEd.out _) HK3.out.size))
        | with_reducible exact HS.out _ (HK3.out.trans (Below.mono (HAl.out _ _) HK3.out.size))
        | with_reducible exact HS.out _ (HK3.out.trans (Below.mono (HEa.out _ _) HK3.out.size))
        | with_reducible exact HS.out _ HK2.out
        | with_reducible exact HS.out _ (HK2.out.trans (Below.mono (HEd.out _) HK2.out.size))
        | with_reducible exact HS.out _ (HK2.out.trans (Below.mono (HAl.out _ _) HK2.out.size))
        | with_reducible exact HS.out _ (HK2.out.trans (Below.mono (HEa.out _ _) HK2.out.size))
        | with_reducible exact HS.out _ HK1.out
        | with_reducible exact HS.out _ (HK1.out.trans (Below.mono (HEd.out _) HK1.out.size))
        | with_reducible exact HS.out _ (HK1.out.trans (Below.mono (HAl.out _ _) HK1.out.size))
        | with_reducible exact HS.out _ (HK1.out.trans (Below.mono (HEa.out _ _) HK1.out.size))
        | with_reducible exact HS.out _ (HEr.out _)
        | with_reducible exact HS.out _ (HEd.out _)
        | with_reducible exact HS.out _ (HAl.out _ _)
        | with_reducible exact HS.out _ (HEa.out _ _)
        | with_reducible exact HS.out _ (Below.trans (HAl.out _ _) (Below.mono (HAl.out _ _) (HAl.out _ _).size))
        | with_reducible exact HS.out _ (Below.trans (HAl.out _ _) (Below.mono (HEa.out _ _) (HAl.out _ _).size)))
      (first
        | (go_at_call 35; (with_reducible refine (HVx.out (HXl.out wc (HEr.out wc))).mono ?_); rintro e v1 ⟨u1, rfl, hi, hb⟩; have HI1 := Lib.hid hi; have HK1 := Lib.hid ((HAl.out wc (.cells #[.int .i64 xk, .string xn, .int .i64 xi, .int .i64 xh, .slice xa xm xc] 25)).trans (hb.mono (HAl.out wc (.cells #[.int .i64 xk, .string xn, .int .i64 xi, .int .i64 xh, .slice xa xm xc] 25)).size)); clear hi hb)
        | (go_at_call 35; (with_reducible refine (HVx.out (RepL.lift (HXl.out wc (HEr.out wc)) (HEd.out _))).mono ?_); rintro e v1 ⟨u1, rfl, hi, hb⟩; have HI1 := Lib.hid hi; have HK1 := Lib.hid ((HEa.out wc (.cells #[.int .i64 xk, .string xn, .int .i64 xi, .int .i64 xh, .slice xa xm xc] 25)).trans (hb.mono (HEa.out wc (.cells #[.int .i64 xk, .string xn, .int .i64 xi, .int .i64 xh, .slice xa xm xc] 25)).size)); clear hi hb)
        | (go_at_call 35; (with_reducible refine (HVx.out (HXl2.out)).mono ?_); rintro e v1 ⟨u1, rfl, hi, hb⟩; have HI1 := Lib.hid hi; have HK1 := Lib.hid ((Below.trans (HAl.out wc (.cells #[.int .i64 yk, .string yn, .int .i64 yi, .int .i64 yh, .slice ya ym yc] 25)) (Below.mono (HAl.out (wc.alloc (.cells #[.int .i64 yk, .string yn, .int .i64 yi, .int .i64 yh, .slice ya ym yc] 25)) (.cells #[.int .i64 xk, .string xn, .int .i64 xi, .int .i64 xh, .slice xa xm xc] 25)) (HAl.out wc (.cells #[.int .i64 yk, .string yn, .int .i64 yi, .int .i64 yh, .slice ya ym yc] 25)).size)).trans (hb.mono (Below.trans (HAl.out wc (.cells #[.int .i64 yk, .string yn, .int .i64 yi, .int .i64 yh, .slice ya ym yc] 25)) (Below.mono (HAl.out (wc.alloc (.cells #[.int .i64 yk, .string yn, .int .i64 yi, .int .i64 yh, .slice ya ym yc] 25)) (.cells #[.int .i64 xk, .string xn, .int .i64 xi, .int .i64 xh, .slice xa xm xc] 25)) (HAl.out wc (.cells #[.int .i64 yk, .string yn, .int .i64 yi, .int .i64 yh, .slice ya ym yc] 25)).size)).size)); have HY1 := Lib.hid (RepL.lift (RepL.lift (HYl.out wc (HEr.out wc)) (HAl.out (wc.alloc (.cells #[.int .i64 yk, .string yn, .int .i64 yi, .int .i64 yh, .slice ya ym yc] 25)) (.cells #[.int .i64 xk, .string xn, .int .i64 xi, .int .i64 xh, .slice xa xm xc] 25))) hb); clear hi hb)
        | (go_at_call 35; (with_reducible refine (HVx.out (RepL.lift (HXl.out wc (HEr.out wc)) (HAl.out (wc.alloc (.cells #[.int .i64 xk, .string xn, .int .i64 xi, .int .i64 xh, .slice xa xm xc] 25)) (.cells #[.int .i64 yk, .string yn, .int .i64 yi, .int .i64 yh, .slice ya ym yc] 25)))).mono ?_); rintro e v1 ⟨u1, rfl, hi, hb⟩; have HI1 := Lib.hid hi; have HK1 := Lib.hid ((Below.trans (HAl.out wc (.cells #[.int .i64 xk, .string xn, .int .i64 xi, .int .i64 xh, .slice xa xm xc] 25)) (Below.mono (HAl.out (wc.alloc (.cells #[.int .i64 xk, .string xn, .int .i64 xi, .int .i64 xh, .slice xa xm xc] 25)) (.cells #[.int .i64 yk, .string yn, .int .i64 yi, .int .i64 yh, .slice ya ym yc] 25)) (HAl.out wc (.cells #[.int .i64 xk, .string xn, .int .i64 xi, .int .i64 xh, .slice xa xm xc] 25)).size)).trans (hb.mono (Below.trans (HAl.out wc (.cells #[.int .i64 xk, .string xn, .int .i64 xi, .int .i64 xh, .slice xa xm xc] 25)) (Below.mono (HAl.out (wc.alloc (.cells #[.int .i64 xk, .string xn, .int .i64 xi, .int .i64 xh, .slice xa xm xc] 25)) (.cells #[.int .i64 yk, .string yn, .int .i64 yi, .int .i64 yh, .slice ya ym yc] 25)) (HAl.out wc (.cells #[.int .i64 xk, .string xn, .int .i64 xi, .int .i64 xh, .slice xa xm xc] 25)).size)).size)); have HY1 := Lib.hid (RepL.lift (HYl2.out) hb); clear hi hb)
        | (go_at_call 35; (with_reducible refine (HVx.out (RepL.lift (HXl2.out) (HEd.out _))).mono ?_); rintro e v1 ⟨u1, rfl, hi, hb⟩; have HI1 := Lib.hid hi; have HK1 := Lib.hid ((Below.trans (HAl.out wc (.cells #[.int .i64 yk, .string yn, .int .i64 yi, .int .i64 yh, .slice ya ym yc] 25)) (Below.mono (HEa.out (wc.alloc (.cells #[.int .i64 yk, .string yn, .int .i64 yi, .int .i64 yh, .slice ya ym yc] 25)) (.cells #[.int .i64 xk, .string xn, .int .i64 xi, .int .i64 xh, .slice xa xm xc] 25)) (HAl.out wc (.cells #[.int .i64 yk, .string yn, .int .i64 yi, .int .i64 yh, .slice ya ym yc] 25)).size)).trans (hb.mono (Below.trans (HAl.out wc (.cells #[.int .i64 yk, .string yn, .int .i64 yi, .int .i64 yh, .slice ya ym yc] 25)) (Below.mono (HEa.out (wc.alloc (.cells #[.int .i64 yk, .string yn, .int .i64 yi, .int .i64 yh, .slice ya ym yc] 25)) (.cells #[.int .i64 xk, .string xn, .int .i64 xi, .int .i64 xh, .slice xa xm xc] 25)) (HAl.out wc (.cells #[.int .i64 yk, .string yn, .int .i64 yi, .int .i64 yh, .slice ya ym yc] 25)).size)).size)); have HY1 := Lib.hid (RepL.lift (RepL.lift (HYl.out wc (HEr.out wc)) (HEa.out (wc.alloc (.cells #[.int .i64 yk, .string yn, .int .i64 yi, .int .i64 yh, .slice ya ym yc] 25)) (.cells #[.int .i64 xk, .string xn, .int .i64 xi, .int .i64 xh, .slice xa xm xc] 25))) hb); clear hi hb)
        | (go_at_call 35; (with_reducible refine (HVx.out (RepL.lift (HXl.out wc (HEr.out wc)) (HEa.out (wc.alloc (.cells #[.int .i64 xk, .string xn, .int .i64 xi, .int .i64 xh, .slice xa xm xc] 25)) (.cells #[.int .i64 yk, .string yn, .int .i64 yi, .int .i64 yh, .slice ya ym yc] 25)))).mono ?_); rintro e v1 ⟨u1, rfl, hi, hb⟩; have HI1 := Lib.hid hi; have HK1 := Lib.hid ((Below.trans (HAl.out wc (.cells #[.int .i64 xk, .string xn, .int .i64 xi, .int .i64 xh, .slice xa xm xc] 25)) (Below.mono (HEa.out (wc.alloc (.cells #[.int .i64 xk, .string xn, .int .i64 xi, .int .i64 xh, .slice xa xm xc] 25)) (.cells #[.int .i64 yk, .string yn, .int .i64 yi, .int .i64 yh, .slice ya ym yc] 25)) (HAl.out wc (.cells #[.int .i64 xk, .string xn, .int .i64 xi, .int .i64 xh, .slice xa xm xc] 25)).size)).trans (hb.mono (Below.trans (HAl.out wc (.cells #[.int .i64 xk, .string xn, .int .i64 xi, .int .i64 xh, .slice xa xm xc] 25)) (Below.mono (HEa.out (wc.alloc (.cells #[.int .i64 xk, .string xn, .int .i64 xi, .int .i64 xh, .slice xa xm xc] 25)) (.cells #[.int .i64 yk, .string yn, .int .i64 yi, .int .i64 yh, .slice ya ym yc] 25)) (HAl.out wc (.cells #[.int .i64 xk, .string xn, .int .i64 xi, .int .i64 xh, .slice xa xm xc] 25)).size)).size)); have HY1 := Lib.hid (RepL.lift (RepL.lift (HYl2.out) (HEd.out _)) hb); clear hi hb)
        | (go_at_call 20; have hy1 := HY1.out; (with_reducible refine (HCx.out (HK1.out.trans ((HEr.out v1).mono HK1.out.size)) (Ints.lift HI1.out (HEr.out v1))).mono ?_); rintro e v2 ⟨u2, rfl, hr, hb⟩; have HR2 := Lib.hid hr; have HK2 := Lib.hid (HK1.out.trans (((HEr.out v1).trans (hb.mono (HEr.out v1).size)).mono HK1.out.size)); have HY2 := Lib.hid (RepL.lift (RepL.lift hy1 (HEr.out v1)) hb); clear hr hb hy1)
        | (go_at_call 20; have hy1 := HY1.out; (with_reducible refine (HCx.out (HK1.out.trans ((HEd.out v1).mono HK1.out.size)) (Ints.lift HI1.out (HEd.out v1))).mono ?_); rintro e v2 ⟨u2, rfl, hr, hb⟩; have HR2 := Lib.hid hr; have HK2 := Lib.hid (HK1.out.trans (((HEd.out v1).trans (hb.mono (HEd.out v1).size)).mono HK1.out.size)); have HY2 := Lib.hid (RepL.lift (RepL.lift hy1 (HEd.out v1)) hb); clear hr hb hy1)
        | (go_at_call 20; (with_reducible refine (HCx.out (HK1.out.trans ((HAl.out v1 (.cells #[.int .i64 yk, .string yn, .int .i64 yi, .int .i64 yh, .slice ya ym yc] 25)).mono HK1.out.size)) (Ints.lift HI1.out (HAl.out v1 (.cells #[.int .i64 yk, .string yn, .int .i64 yi, .int .i64 yh, .slice ya ym yc] 25)))).mono ?_); rintro e v2 ⟨u2, rfl, hr, hb⟩; have HR2 := Lib.hid hr; have HK2 := Lib.hid (HK1.out.trans (((HAl.out v1 (.cells #[.int .i64 yk, .string yn, .int .i64 yi, .int .i64 yh, .slice ya ym yc] 25)).trans (hb.mono (HAl.out v1 (.cells #[.int .i64 yk, .string yn, .int .i64 yi, .int .i64 yh, .slice ya ym yc] 25)).size)).mono HK1.out.size)); have HY2 := Lib.hid (RepL.lift (HYl.out v1 HK1.out) hb); clear hr hb)
        | (go_at_call 20; (with_reducible refine (HCx.out (HK1.out.trans ((HEa.out v1 (.cells #[.int .i64 yk, .string yn, .int .i64 yi, .int .i64 yh, .slice ya ym yc] 25)).mono HK1.out.size)) (Ints.lift HI1.out (HEa.out v1 (.cells #[.int .i64 yk, .string yn, .int .i64 yi, .int .i64 yh, .slice ya ym yc] 25)))).mono ?_); rintro e v2 ⟨u2, rfl, hr, hb⟩; have HR2 := Lib.hid hr; have HK2 := Lib.hid (HK1.out.trans (((HEa.out v1 (.cells #[.int .i64 yk, .string yn, .int .i64 yi, .int .i64 yh, .slice ya ym yc] 25)).trans (hb.mono (HEa.out v1 (.cells #[.int .i64 yk, .string yn, .int .i64 yi, .int .i64 yh, .slice ya ym yc] 25)).size)).mono HK1.out.size)); have HY2 := Lib.hid (RepL.lift (RepL.lift (HYl.out v1 HK1.out) (HEd.out _)) hb); clear hr hb)
        | (go_at_call 20; (with_reducible refine (HCx.out (HK1.out.trans ((HEr.out v1).mono HK1.out.size)) (Ints.lift HI1.out (HEr.out v1))).mono ?_); rintro e v2 ⟨u2, rfl, hr, hb⟩; have HR2 := Lib.hid hr; have HK2 := Lib.hid (HK1.out.trans (((HEr.out v1).trans (hb.mono (HEr.out v1).size)).mono HK1.out.size)); clear hr hb)
        | (go_at_call 20; (with_reducible refine (HCx.out (HK1.out.trans ((HEd.out v1).mono HK1.out.size)) (Ints.lift HI1.out (HEd.out v1))).mono ?_); rintro e v2 ⟨u2, rfl, hr, hb⟩; have HR2 := Lib.hid hr; have HK2 := Lib.hid (HK1.out.trans (((HEd.out v1).trans (hb.mono (HEd.out v1).size)).mono HK1.out.size)); clear hr hb)
        | (go_at_call 35; have hy2 := HY2.out; (with_reducible refine (HVy.out (RepL.lift hy2 (HEr.out v2))).mono ?_); rintro e v3 ⟨u3, rfl, hi, hb⟩; have HI3 := Lib.hid hi; have HR3 := Lib.hid ((HR2.out.lift (HEr.out v2)).lift hb); have HK3 := Lib.hid (HK2.out.trans (((HEr.out v2).trans (hb.mono (HEr.out v2).size)).mono HK2.out.size)); clear hi hb hy2)
        | (go_at_call 35; have hy2 := HY2.out; (with_reducible refine (HVy.out (RepL.lift hy2 (HEd.out v2))).mono ?_); rintro e v3 ⟨u3, rfl, hi, hb⟩; have HI3 := Lib.hid hi; have HR3 := Lib.hid ((HR2.out.lift (HEd.out v2)).lift hb); have HK3 := Lib.hid (HK2.out.trans (((HEd.out v2).trans (hb.mono (HEd.out v2).size)).mono HK2.out.size)); clear hi hb hy2)
        | (go_at_call 35; (with_reducible refine (HVy.out (HYl.out v2 HK2.out)).mono ?_); rintro e v3 ⟨u3, rfl, hi, hb⟩; have HI3 := Lib.hid hi; have HR3 := Lib.hid ((HR2.out.lift (HAl.out v2 (.cells #[.int .i64 yk, .string yn, .int .i64 yi, .int .i64 yh, .slice ya ym yc] 25))).lift hb); have HK3 := Lib.hid (HK2.out.trans (((HAl.out v2 (.cells #[.int .i64 yk, .string yn, .int .i64 yi, .int .i64 yh, .slice ya ym yc] 25)).trans (hb.mono (HAl.out v2 (.cells #[.int .i64 yk, .string yn, .int .i64 yi, .int .i64 yh, .slice ya ym yc] 25)).size)).mono HK2.out.size)); clear hi hb)
        | (go_at_call 35; (with_reducible refine (HVy.out (RepL.lift (HYl.out v2 HK2.out) (HEd.out _))).mono ?_); rintro e v3 ⟨u3, rfl, hi, hb⟩; have HI3 := Lib.hid hi; have HR3 := Lib.hid ((HR2.out.lift (HEa.out v2 (.cells #[.int .i64 yk, .string yn, .int .i64 yi, .int .i64 yh, .slice ya ym yc] 25))).lift hb); have HK3 := Lib.hid (HK2.out.trans (((HEa.out v2 (.cells #[.int .i64 yk, .string yn, .int .i64 yi, .int .i64 yh, .slice ya ym yc] 25)).trans (hb.mono (HEa.out v2 (.cells #[.int .i64 yk, .string yn, .int .i64 yi, .int .i64 yh, .slice ya ym yc] 25)).size)).mono HK2.out.size)); clear hi hb)
        | (go_at_call 20; (with_reducible refine (HCy.out HK3.out HI3.out).mono ?_); rintro e v4 ⟨u4, rfl, hr, hb⟩; have HR4 := Lib.hid hr; have HR4b := Lib.hid (HR3.out.lift hb); have HK4 := Lib.hid (HK3.out.trans (hb.mono HK3.out.size)); clear hr hb)
        | (go_at_call 32; (with_reducible refine (HG1.out HR4b.out HR4.out).mono ?_); rintro e v5 ⟨rfl, hb⟩; have HK5 := Lib.hid (HK4.out.trans (hb.mono HK4.out.size)); clear hb)
        | (go_at_call 35; (with_reducible refine (HVx.out (HXl.out v5 HK5.out)).mono ?_); rintro e v6 ⟨u6, rfl, hi, hb⟩; have HI6 := Lib.hid hi; have HK6 := Lib.hid (HK5.out.trans (((HAl.out v5 (.cells #[.int .i64 xk, .string xn, .int .i64 xi, .int .i64 xh, .slice xa xm xc] 25)).trans (hb.mono (HAl.out v5 (.cells #[.int .i64 xk, .string xn, .int .i64 xi, .int .i64 xh, .slice xa xm xc] 25)).size)).mono HK5.out.size)); clear hi hb)
        | (go_at_call 20; (with_reducible refine (HCx.out HK6.out HI6.out).mono ?_); rintro e v7 ⟨u7, rfl, hr, hb⟩; have HR7 := Lib.hid hr; have HK7 := Lib.hid (HK6.out.trans (hb.mono HK6.out.size)); clear hr hb)
        | (go_at_call 21; (with_reducible refine (HMy.out _ HK7.out).mono ?_); rintro e v8 ⟨u8, rfl, hr, hb⟩; have HR8 := Lib.hid hr; have HR8b := Lib.hid (HR7.out.lift hb); have HK8 := Lib.hid (HK7.out.trans (hb.mono HK7.out.size)); clear hr hb)
        | (go_at_call 32; (with_reducible refine (HG2.out HR8b.out HR8.out).mono ?_); rintro e v9 ⟨rfl, hb⟩; have HK9 := Lib.hid (HK8.out.trans (hb.mono HK8.out.size)); clear hb))
    all_goals
      go_split_ands
      go_wp2
      go_ret
      exact ⟨rfl, HWc.out.trans (HK9.out.mono HWc.out.size)⟩
end Go.Proofs.Ytahiefgfhpkoeaa
