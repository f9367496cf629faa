import Derived.Test.YtljgpgmaceackaaQX11
import Derived.Test.YtljgpgmaceackaaQX17
import Derived.Test.YtljgpgmaceackaaQX09
import Derived.Deep.MidRow
/- The reference's Visible of chapter 10: the names that are bound on the way to a part. -/
namespace Go.Proofs.Ytljgpgmaceackaa
open Go.RowKit Go.Maps Mth S3

/-- A row that a call owns, element by element: what is in it lies where it lay. -/
theorem rowG_get {α : Type} {E : El α} {w : World} {base : Nat} {S : Nat → Prop} {xs : List α} {a : Option Addr} {n cap : Nat} (h : RowG E w base S (.slice a n cap) xs) {j : Nat} {x : α} (hx : xs[j]? = some x) : ∃ ad c, a = some ad ∧ E.rep w S x c ∧ (∀ u, c[0]? = some u → w.cell? (ad.add (j * E.k)) = some u) ∧ ∀ (m : Nat) (u : Value), m ≠ 0 → c[m]? = some u → w.cell? ⟨(ad.add (j * E.k)).block, (ad.add (j * E.k)).off + m, none⟩ = some u := by
  obtain ⟨L, hown, hl, hr⟩ := h
  have h5 := rowG_len hl hr
  rcases hown.2 with ⟨e, h0⟩ | ⟨g, cap', cur, e, hg, hc, hn, hm, _⟩
  · have : xs = [] := List.eq_nil_of_length_eq_zero h0
    subst this
    cases hx
  · cases e
    obtain ⟨c, hc', hrep⟩ := hr j x hx
    have hcell : ∀ (m : Nat) (u : Value), c[m]? = some u → w.cell? ((⟨g, 0, none⟩ : Addr).add (j * E.k + m)) = some u := fun m u hu => hown.cells (g := g) rfl _ _ (flat_get E.k L (fun c h => (h5 c h).1) j m c u hc' hu)
    refine ⟨⟨g, 0, none⟩, c, rfl, E.kept (fun b hb => hb.1) (fun _ _ _ => rfl) hrep, fun u hu => hcell 0 u hu, fun m u hm hu => ?_⟩
    rw [add_add' _ _ _ hm]
    exact hcell m u hu
/-- An expression of a row, cell by cell. -/
theorem rowE_at {w : World} {base : Nat} {S : Nat → Prop} {xs : List Ex} {a : Option Addr} {n c : Nat} (h : RowG ExE w base S (.slice a n c) xs) {j : Nat} {U : Ex} (hU : xs[j]? = some U) :
    ∃ ad kb kd ab ae uk un ui uh ua ul uc, a = some ad ∧ RepE w S U [.int .i64 U.k, .int .i64 U.p, .string U.n, .int .i64 U.m, .slice kb U.kids.length kd, .slice ab U.arms.length ae, .int .i64 uk, .string un, .int .i64 ui, .int .i64 uh, .slice ua ul uc] ∧
      w.cell? (ad.add (j * 11)) = some (.int .i64 U.k) ∧ w.cell? ⟨(ad.add (j * 11)).block, (ad.add (j * 11)).off + 1, none⟩ = some (.int .i64 U.p) ∧ w.cell? ⟨(ad.add (j * 11)).block, (ad.add (j * 11)).off + 2, none⟩ = some (.string U.n) ∧ w.cell? ⟨(ad.add (j * 11)).block, (ad.add (j * 11)).off + 3, none⟩ = some (.int .i64 U.m) ∧ w.cell? ⟨(ad.add (j * 11)).block, (ad.add (j * 11)).off + 4, none⟩ = some (.slice kb U.kids.length kd) ∧ w.cell? ⟨(ad.add (j * 11)).block, (ad.add (j * 11)).off + 5, none⟩ = some (.slice ab U.arms.length ae) ∧
      w.cell? ⟨(ad.add (j * 11)).block, (ad.add (j * 11)).off + 6, none⟩ = some (.int .i64 uk) ∧ w.cell? ⟨(ad.add (j * 11)).block, (ad.add (j * 11)).off + 7, none⟩ = some (.string un) ∧ w.cell? ⟨(ad.add (j * 11)).block, (ad.add (j * 11)).off + 8, none⟩ = some (.int .i64 ui) ∧ w.cell? ⟨(ad.add (j * 11)).block, (ad.add (j * 11)).off + 9, none⟩ = some (.int .i64 uh) ∧ w.cell? ⟨(ad.add (j * 11)).block, (ad.add (j * 11)).off + 10, none⟩ = some (.slice ua ul uc) := by
  obtain ⟨ad, cc, had, hr, hc0, hcm⟩ := rowG_get h hU
  have hr' : RepE w S U cc := hr
  obtain ⟨kb, kd, ab, ae, uk, un, ui, uh, ua, ul, uc, rfl⟩ := hr'.form
  rw [show ExE.k = 11 from rfl] at hc0 hcm
  exact ⟨ad, kb, kd, ab, ae, uk, un, ui, uh, ua, ul, uc, had, hr', hc0 _ rfl, hcm 1 _ (by decide) rfl, hcm 2 _ (by decide) rfl, hcm 3 _ (by decide) rfl, hcm 4 _ (by decide) rfl, hcm 5 _ (by decide) rfl, hcm 6 _ (by decide) rfl, hcm 7 _ (by decide) rfl, hcm 8 _ (by decide) rfl, hcm 9 _ (by decide) rfl, hcm 10 _ (by decide) rfl⟩
theorem bnOk_kid {n m : Nat} {T U : Ex} {z : Int} (h : fitV n m T = true) (hk : kidE T z = some U) : BnOk T z.toNat := by
  obtain ⟨k, rfl⟩ := fitV_pos h
  have hf := fitV_open h
  intro e
  have h1 := hf.one e
  obtain ⟨h2, h3, h4⟩ := kidE_some hk
  unfold chN at h4
  rw [List.length_append, List.length_map, h1] at h4
  exact ⟨h1, by omega⟩
theorem onW_le : ∀ (zs : List Int) (n m : Nat) (T : Ex) (l : List ByteArray), fitV n m T = true → onW T zs = some l → l.length ≤ m ∧ ∀ x ∈ l, x.size ≤ 100000 := by
  intro zs
  induction zs with
  | nil => intro n m T l _ h; cases h; simp
  | cons z zs ih =>
    intro n m T l hf h
    simp only [onW] at h
    cases hk : kidE T z with
    | none => rw [hk] at h; cases h
    | some U =>
      rw [hk] at h
      obtain ⟨h1, h2, k, hm⟩ := kid_V hf hk
      cases ho : onW U zs with
      | none => simp [ho] at h
      | some l' =>
        simp [ho] at h
        subst h
        obtain ⟨h3, h4⟩ := ih k _ U l' hm ho
        refine ⟨by rw [List.length_append]; omega, fun x hx => ?_⟩
        rcases List.mem_append.1 hx with hx | hx
        · exact h2 x hx
        · exact h4 x hx
theorem rowG_weak {α : Type} {E : El α} {w : World} {base base' : Nat} {S : Nat → Prop} {v : Value} {xs : List α} (h : RowG E w base S v xs) (hb : base' ≤ base) : RowG E w base' S v xs := by
  obtain ⟨L, h1, h2⟩ := h
  exact ⟨L, ⟨h1.1, h1.2.imp id fun ⟨g, cap, cur, e, h3, h4⟩ => ⟨g, cap, cur, e, Nat.le_trans hb h3, h4⟩⟩, h2⟩
/-- The walk over a path: the part in its box, the names in their row. -/
structure VW (w : World) (U : Ex) (l : List ByteArray) (v : Value) (wr : World) : Prop where
  box : ∃ c, BoxC 36 wr w.heap.size c ∧ RepE w (fun b => b < w.heap.size) U c
  row : RowG StrE wr (w.heap.size + 1) (fun _ => False) v l
  low : Below w.heap.size w wr
theorem VW.ge {w : World} {U : Ex} {l : List ByteArray} {v : Value} {wr : World} (H : VW w U l v wr) : w.heap.size + 1 ≤ wr.heap.size := by
  obtain ⟨c, h, -⟩ := H.box
  exact h.lt
theorem VW.lift {w : World} {U : Ex} {l : List ByteArray} {v : Value} {wr x : World} (H : VW w U l v wr) (hb : Below wr.heap.size wr x) : VW w U l v x := by
  obtain ⟨⟨c, h1, h2⟩, h3, h4⟩ := H
  exact ⟨⟨c, h1.lift hb, h2⟩, h3.lift hb, h4.trans (hb.mono h4.size)⟩
theorem VW.push {w : World} {U : Ex} {l l' : List ByteArray} {v v' : Value} {wr x : World} (H : VW w U l v wr) (hr : RowG StrE x (w.heap.size + 1) (fun _ => False) v' l') (hg : wr.grownBy x v.ownBlock) : VW w U l' v' x := by
  have hne : ∀ k, v.ownBlock = some k → w.heap.size + 1 ≤ k := fun k e => (H.row.lt k e).1
  obtain ⟨⟨c, h1, h2⟩, h3, h4⟩ := H
  exact ⟨⟨c, h1.grown hg (fun e => by have := hne _ e.symm; omega), h2⟩, hr, Below.grown h4 hg h4.size (fun k hk => by have := hne k hk; omega)⟩
theorem VW.stored {w : World} {U V : Ex} {l : List ByteArray} {v : Value} {wr x : World} {c : List Value} (H : VW w U l v wr) (hr : RepE w (fun b => b < w.heap.size) V c) (hB : BoxC 36 x w.heap.size c) (hg : wr.grownBy x (some w.heap.size)) : VW w V l v x := by
  refine ⟨⟨c, hB, hr⟩, H.row.kept hg (H.row.off (Nat.lt_succ_self _)) (fun _ h => h.elim), Below.grown H.low hg H.low.size (fun k hk => by have := Option.some.inj hk; omega)⟩
end Go.Proofs.Ytljgpgmaceackaa

/- The package's Visible, from a contract of what keeps the innermost names. -/
namespace Go.Proofs.Ytljgpgmaceackaa
open Go.RowKit Go.Maps Mth S3

theorem rowG_apart {α : Type} {E : El α} {w w' : World} {base : Nat} {S : Nat → Prop} {v : Value} {xs : List α} {row : Option Nat} (h : RowG E w base S v xs) (hg : w.grownBy w' row) (hr : ∀ k, row = some k → k < base ∧ ¬ S k) : RowG E w' base S v xs := by
  refine h.kept hg ?_ (fun b hb e => (hr b e.symm).2 hb)
  cases hrow : row with
  | none =>
    cases v.ownBlock with
    | none => exact .inl rfl
    | some _ => exact .inr (by simp)
  | some k => exact h.off (hr k hrow).1
/-- What is wanted of innermost. -/
def InnerAt : Prop := ∀ (l : List ByteArray) (v : Value) (S : Nat → Prop) (w : World), l.length ≤ 200000 → (∀ n ∈ l, n.size ≤ maxLen) → SlG StrE w S l v →
    Calls Try.prog 35 #[v] w fun e w' => ∃ u, e = .returned u ∧ SlG StrE w' (fun _ => True) (lastN l) u ∧ Below w.heap.size w w'
/-- The names so far, whether or not the path leads to a part. -/
structure OnP (M : Nat) (T U : Ex) (zs : List Int) (j : Nat) (l : List ByteArray) : Prop where
  rest : onW T zs = (onW U (zs.drop j)).map (l ++ ·)
  fit : ∃ n m, fitV n m U = true ∧ l.length + m ≤ M
theorem OnP.step {M : Nat} {T U V : Ex} {zs : List Int} {j : Nat} {l : List ByteArray} {z : Int} (H : OnP M T U zs j l) (hz : zs[j]? = some z) (hk : kidE U z = some V) : BnOk U z.toNat ∧ OnP M T V zs (j + 1) (l ++ bnN U z.toNat) := by
  obtain ⟨hr, ⟨n, m, hm, hle⟩⟩ := H
  rw [onW_step hz, hk] at hr
  obtain ⟨h1, h2, k, h3⟩ := kid_V hm hk
  refine ⟨bnOk_kid hm hk, ⟨?_, k, _, h3, by rw [List.length_append]; omega⟩⟩
  rw [hr]
  show Option.map _ (Option.map _ (onW V (zs.drop (j + 1)))) = _
  cases ho : onW V (zs.drop (j + 1)) with
  | none => rfl
  | some r => simp
theorem OnP.le {M : Nat} {T U : Ex} {zs : List Int} {j : Nat} {l : List ByteArray} (H : OnP M T U zs j l) : l.length ≤ M := by
  obtain ⟨-, n, m, -, h⟩ := H
  omega
theorem OnP.fail {M : Nat} {T U : Ex} {zs : List Int} {j : Nat} {l : List ByteArray} {z : Int} (H : OnP M T U zs j l) (hz : zs[j]? = some z) (hk : kidE U z = none) : visN T zs = [] := by
  have hr := H.rest
  rw [onW_step hz, hk] at hr
  unfold visN
  rw [hr]; rfl
theorem OnP.all {M : Nat} {T U : Ex} {zs : List Int} {j : Nat} {l : List ByteArray} (H : OnP M T U zs j l) (hj : zs.length ≤ j) : onW T zs = some l := by
  have hr := H.rest
  rw [List.drop_eq_nil_of_le hj] at hr
  rw [hr]
  simp [onW]
theorem OnP.last {M : Nat} {T U : Ex} {zs : List Int} {j : Nat} {l : List ByteArray} (H : OnP M T U zs j l) (hj : zs.length ≤ j) : visN T zs = lastN l := by
  have hr := H.rest
  rw [List.drop_eq_nil_of_le hj] at hr
  unfold visN
  rw [hr]
  simp [onW]
set_option maxRecDepth 100000 in
set_option maxHeartbeats 6400000 in
theorem pkVis_any (HIn : InnerAt) (n M : Nat) (hM : M ≤ 100000) (T : Ex) (hfit : fitV n M T = true) (zs : List Int) (S : Nat → Prop) (c : List Value) (pv : Value) (w : World) (h : RepE w S T c) (hp : Ints w pv zs) :
    Calls Try.prog 16 #[.agg c.toArray, pv] w fun e w' => ∃ u, e = .returned u ∧ SlG StrE w' (fun _ => True) (visN T zs) u ∧ Below w.heap.size w w' := by
  have hrep0 := h.bound.imp (S' := fun b => b < w.heap.size) (fun b hb => hb.2)
  obtain ⟨ka, kc, aa, ac, tk, tn, ti, th, ta, tl, tc, rfl⟩ := h.form
  obtain ⟨pa, pc, rfl, hpl, hpc, hcell⟩ := hp
  have HP := Lib.hid hcell
  have HI := Lib.hid HIn
  have HSz : Hid (∀ l, onW T zs = some l → ∀ n ∈ l, n.size ≤ maxLen) := fun l h x hx => by have := (onW_le zs n M T l hfit h).2 x hx; unfold maxLen; omega
  have hb1 : Below w.heap.size w (w.alloc (.cells #[.int .i64 T.k, .int .i64 T.p, .string T.n, .int .i64 T.m, .slice ka T.kids.length kc, .slice aa T.arms.length ac, .int .i64 tk, .string tn, .int .i64 ti, .int .i64 th, .slice ta tl tc] 36)) := (Below.refl _ w).alloc (Nat.le_refl _) _
  have hB := BoxC.made 36 w [.int .i64 T.k, .int .i64 T.p, .string T.n, .int .i64 T.m, .slice ka T.kids.length kc, .slice aa T.arms.length ac, .int .i64 tk, .string tn, .int .i64 ti, .int .i64 th, .slice ta tl tc]
  have HV0 : Hid (VW w T [] (.slice none 0 0) (w.alloc (.cells #[.int .i64 T.k, .int .i64 T.p, .string T.n, .int .i64 T.m, .slice ka T.kids.length kc, .slice aa T.arms.length ac, .int .i64 tk, .string tn, .int .i64 ti, .int .i64 th, .slice ta tl tc] 36))) := ⟨⟨_, hB, hrep0⟩, rowG_nil _ _ _ _, hb1⟩
  have HO0 : Hid (OnP M T T zs 0 []) := ⟨by simp, n, M, hfit, by simp⟩
  clear h hrep0 hcell hb1 hB hfit HIn
  obtain ⟨m, hm⟩ : ∃ m, m = zs.length := ⟨_, rfl⟩
  have HM := Lib.hid hm
  rw [← hm] at hpl ⊢
  clear hm
  unfold maxLen at hpc
  generalize T.kids.length = kn at *
  generalize T.arms.length = an at *
  go_enter Try.func16, Try.ntmps16
  go_upto_region 1 with fail
  generalize (w.alloc (.cells #[.int .i64 T.k, .int .i64 T.p, .string T.n, .int .i64 T.m, .slice ka kn kc, .slice aa an ac, .int .i64 tk, .string tn, .int .i64 ti, .int .i64 th, .slice ta tl tc] 36)) = V at *
  go_wp2_with fail
  go_loopw [5, 11] (fun y i wr => ∃ (j : Nat) (U : Ex) (l : List ByteArray) (sa : Option Addr) (sn sc : Nat), j ≤ m ∧ i = .int .i64 j ∧ y = .slice sa sn sc ∧ Hid (OnP M T U zs j l) ∧ Hid (VW w U l (.slice sa sn sc) wr)) (fun _ i _ => m - (intOf i).toNat)
  case atStart => exact ⟨0, T, [], none, 0, 0, Nat.zero_le _, rfl, rfl, HO0, HV0⟩
  case round =>
    clear HO0 HV0
    obtain ⟨j, U, l, sa, sn, sc, hj, rfl, rfl, HO, HV⟩ := hrel
    by_cases hlt : j < m
    · obtain ⟨z, hz⟩ : ∃ x, zs[j]? = some x := ⟨_, List.getElem?_eq_getElem (by rw [← HM.out]; exact hlt)⟩
      obtain ⟨ad, rfl, hpc1⟩ := HP.out j _ hz
      have hpb := (HV.out.low.cell (World.block_lt_of_cell? _ _ hpc1)).trans hpc1
      obtain ⟨n', m', hn', hle'⟩ := HO.out.fit
      obtain ⟨n'', rfl⟩ := fitV_pos hn'
      have HFt := Lib.hid (fitV_open hn')
      have hlen : (chN U).length ≤ 200000 := by unfold chN; rw [List.length_append, List.length_map]; have := HFt.out.kids; have := HFt.out.arms; omega
      obtain ⟨cu, hbox, hrep⟩ := HV.out.box
      obtain ⟨ua, uc, va, vc, yk, yn, yi, yh, ya, yl, yc, rfl⟩ := hrep.form
      have HCh : Hid (Calls Try.prog 33 #[.agg #[.int .i64 U.k, .int .i64 U.p, .string U.n, .int .i64 U.m, .slice ua U.kids.length uc, .slice va U.arms.length vc, .int .i64 yk, .string yn, .int .i64 yi, .int .i64 yh, .slice ya yl yc]] wr fun e w' => ∃ a cp, e = .returned (.slice a (chN U).length cp) ∧ RowG ExE w' (wr.heap.size + 1) (fun b => b < w.heap.size) (.slice a (chN U).length cp) (chN U) ∧ Below wr.heap.size wr w') := (pkChildren_any U HFt.out.kids HFt.out.arms (fun b => b < w.heap.size) _ wr (hrep.lift HV.out.low)).mono fun e w' ⟨a, cp, h1, h2, h3⟩ => ⟨a, cp, h1, h2.imp (fun b hb => hb.1), h3⟩
      have hji : (j : Int) < (m : Int) := by omega
      obtain ⟨b0, b1, b2, b3, b4, b5, b6, b7, b8, b9, b10⟩ := bx11 hbox
      have HOwn : Hid (∀ k, (Value.slice sa sn sc).ownBlock = some k → k < wr.heap.size + 1 ∧ ¬ k < w.heap.size) := fun k e => by have := HV.out.row.lt k e; exact ⟨by omega, by omega⟩
      have HBx := Lib.hid hbox
      have HRp := Lib.hid hrep
      obtain ⟨q, hq⟩ : ∃ q, q = (chN U).length := ⟨_, rfl⟩
      rw [← hq] at HCh hlen
      have HQ := Lib.hid hq
      clear hq hpc1 hbox hrep
      cases hk : kidE U z with
      | none =>
        have HN := Lib.hid (HO.out.fail hz hk)
        have hcz := kidE_none hk
        rw [← HQ.out] at hcz
        clear hn' hle' hk hz
        generalize U.kids.length = k1 at *
        generalize U.arms.length = k2 at *
        rcases hcz with hz1 | hz1
        · go_wp2_with (go_at_call 33; refine HCh.out.mono ?_; rintro e w3 ⟨ca, cp, rfl, hsl, hb3⟩; have HV3 := Lib.hid (HV.out.lift hb3); clear hb3 hsl)
          go_ret
          exact ⟨_, rfl, by rw [HN.out]; exact slG_nil _ _ _, HV3.out.low⟩
        · go_wp2_with (go_at_call 33; refine HCh.out.mono ?_; rintro e w3 ⟨ca, cp, rfl, hsl, hb3⟩; have HV3 := Lib.hid (HV.out.lift hb3); clear hb3 hsl)
          go_ret
          exact ⟨_, rfl, by rw [HN.out]; exact slG_nil _ _ _, HV3.out.low⟩
      | some V1 =>
        obtain ⟨hz0, hch, hzl'⟩ := kidE_some hk
        obtain ⟨hbn, ho1⟩ := HO.out.step hz hk
        obtain ⟨y, rfl⟩ : ∃ y : Nat, z = y := ⟨z.toNat, by omega⟩
        rw [Int.toNat_natCast] at hch hbn ho1
        rw [← HQ.out] at hzl'
        have hym : y ≤ 1000000 := by omega
        have hpush : l.length + (bnN U y).length ≤ 1000000 := by have h1 := (HFt.out.all y V1 hch).1; omega
        have HO1 := Lib.hid ho1
        have HC1 := Lib.hid hch
        have HBd : Hid (∀ X, Below w.heap.size w X → Calls Try.prog 34 #[.agg #[.int .i64 U.k, .int .i64 U.p, .string U.n, .int .i64 U.m, .slice ua U.kids.length uc, .slice va U.arms.length vc, .int .i64 yk, .string yn, .int .i64 yi, .int .i64 yh, .slice ya yl yc], .int .i64 y] X fun e w' => ∃ u, e = .returned u ∧ SlG StrE w' (fun _ => True) (bnN U y) u ∧ Below X.heap.size X w') := fun X hX => boundIn_any U y hbn _ _ X HFt.out.kids hym (HRp.out.lift hX)
        clear hz hk hbn ho1 hch hz0 hn' hle' HRp
        generalize U.kids.length = k1 at *
        generalize U.arms.length = k2 at *
        go_upto_region 8 with (go_at_call 33; refine HCh.out.mono ?_; rintro e w3 ⟨ca, cp, rfl, hsl, hb3⟩; have HV3 := Lib.hid (HV.out.lift hb3); have HS3 := Lib.hid hsl; have HBx3 := Lib.hid (HBx.out.lift hb3); clear hb3 hsl b0 b1 b2 b3 b4 b5 b6 b7 b8 b9 b10 hpb)
        obtain ⟨b0, b1, b2, b3, b4, b5, b6, b7, b8, b9, b10⟩ := bx11 HBx3.out
        go_upto_region 9 with (first
          | (go_at_call 34; refine (HBd.out _ HV3.out.low).mono ?_; rintro e w4 ⟨u, rfl, hs4, hb4⟩; have HV4 := Lib.hid (HV3.out.lift hb4); have HU4 := Lib.hid hs4; have HS4 := Lib.hid (HS3.out.lift hb4); have HBx4 := Lib.hid (HBx3.out.lift hb4); clear hb4 hs4 b0 b1 b2 b3 b4 b5 b6 b7 b8 b9 b10)
          | (at_builtin; refine wpList_pushStr rfl _ _ rfl (w.heap.size + 1) (.slice sa sn sc) l rfl HV4.out.row u rfl (bnN U y) (fun _ => True) HU4.out hpush HV4.out.ge ?_; intro sa5 sn5 sc5 w5 hn5 hrow5 hg5; rw [List.length_append] at hn5; subst hn5))
        have HV5 := Lib.hid (HV4.out.push hrow5 hg5)
        have HBx5 := Lib.hid (HBx4.out.grown hg5 (fun e => by have := HOwn.out _ e.symm; have h2 := HV4.out.row.lt _ e.symm; omega))
        have HS5 := Lib.hid (rowG_apart HS4.out hg5 HOwn.out)
        obtain ⟨ad5, kb, kd, ab, ae, uk, un, ui, uh, ua', ul, uc', hca, hr5, q0, q1, q2, q3, q4, q5, q6, q7, q8, q9, q10⟩ := rowE_at HS5.out HC1.out
        subst hca
        have HR5 : Hid (RepE w (fun b => b < w.heap.size) V1 _) := hr5.kept (fun _ h => h) (fun b hb _ => (HV5.out.low.block b hb).symm)
        clear hrow5 hg5 hr5 HS4 HS3 HBx4 HBx3 HV3 HV4 HU4
        go_wp2_with (refine wpList_storeC rfl _ _ rfl _ _ [.int .i64 V1.k, .int .i64 V1.p, .string V1.n, .int .i64 V1.m, .slice kb V1.kids.length kd, .slice ab V1.arms.length ae, .int .i64 uk, .string un, .int .i64 ui, .int .i64 uh, .slice ua' ul uc'] HBx5.out rfl rfl sizeEx rfl HR5.out.len.2 ?_; intro w6 hB6 hg6 hs6)
        have HV6 := Lib.hid (HV5.out.stored HR5.out hB6 hg6)
        clear hB6 hg6 hs6
        go_roundw
        case rel => exact ⟨j + 1, V1, l ++ bnN U y, sa5, _, sc5, hlt, by go_num, rfl, HO1, HV6⟩
        case measure => simp [intOf]; omega
    · have HR := Lib.hid (HO.out.last (by rw [← HM.out]; omega))
      have hll : l.length ≤ 200000 := by have := HO.out.le; omega
      have HL := Lib.hid (HI.out l _ _ wr hll (HSz.out l (HO.out.all (by rw [← HM.out]; omega))) (HV.out.row.slG (S' := fun _ => True) (fun _ _ => trivial) (fun _ _ => trivial)))
      go_wp2_with (go_at_call 35; refine HL.out.mono ?_; rintro e w3 ⟨u, rfl, hs3, hb3⟩)
      go_ret
      exact ⟨_, rfl, by rw [HR.out]; exact hs3, HV.out.low.trans (hb3.mono HV.out.low.size)⟩
end Go.Proofs.Ytljgpgmaceackaa

/- An element of an owned row that is written over, in part or whole. -/
namespace Go.Proofs.Ytljgpgmaceackaa
open Go.RowKit Go.Maps Mth S3

theorem own_setCells {base : Nat} {e : TypeId} {size g n cap : Nat} : ∀ (c A o s : List Value) (w : World), c.length = o.length → w.ownsRow base e size (.slice (some ⟨g, 0, none⟩) n cap) n (A ++ o ++ s) →
    (w.setCells g A.length c).ownsRow base e size (.slice (some ⟨g, 0, none⟩) n cap) n (A ++ c ++ s) ∧ w.grownBy (w.setCells g A.length c) (some g) := by
  intro c
  induction c with
  | nil =>
    intro A o s w hl h
    have : o = [] := List.eq_nil_of_length_eq_zero hl.symm
    subst this
    exact ⟨h, rfl, rfl, rfl, Nat.le_refl _, fun _ _ _ => rfl⟩
  | cons v r ih =>
    intro A o s w hl h
    cases o with
    | nil => simp at hl
    | cons u o =>
      obtain ⟨h1, h2⟩ := h.stored A.length v
      have e : (A ++ u :: o ++ s).set A.length v = (A ++ [v]) ++ o ++ s := by simp
      rw [e] at h1
      obtain ⟨h3, h4⟩ := ih (A ++ [v]) o s _ (by simpa using hl) h1
      have e2 : (A ++ [v]).length = A.length + 1 := by simp
      rw [e2] at h3 h4
      refine ⟨by rw [World.setCells]; simpa using h3, ?_⟩
      rw [World.setCells]
      exact grown_trans h2 h4
/-- Some cells of an element of an owned row are written over. -/
theorem RowG.put {α : Type} {E : El α} {w : World} {base : Nat} {S : Nat → Prop} {xs : List α} {g n cap : Nat} (h : RowG E w base S (.slice (some ⟨g, 0, none⟩) n cap) xs) {j : Nat} {x : α} (hx : xs[j]? = some x) (y : α) (m : Nat) (vs : List Value)
    (hy : ∀ c, E.rep w (fun b => S b ∧ b ≠ g) x c → ∃ p o s, c = p ++ o ++ s ∧ p.length = m ∧ vs.length = o.length ∧ E.rep w (fun b => S b ∧ b ≠ g) y (p ++ vs ++ s)) :
    RowG E (w.setCells g (j * E.k + m) vs) base S (.slice (some ⟨g, 0, none⟩) n cap) (xs.set j y) ∧ w.grownBy (w.setCells g (j * E.k + m) vs) (some g) := by
  obtain ⟨a', c', e', -⟩ := h.slice
  cases e'
  obtain ⟨L, hown, hl, hr⟩ := h
  have h5 := rowG_len hl hr
  have hS : ∀ z c, E.rep w (fun b => S b ∧ some b ≠ Value.ownBlock (.slice (some ⟨g, 0, none⟩) xs.length cap)) z c → E.rep w (fun b => S b ∧ b ≠ g) z c := fun z c hc => E.kept (fun b hb => ⟨hb.1, fun e => hb.2 (by rw [e]; rfl)⟩) (fun _ _ _ => rfl) hc
  obtain ⟨c, hc, hrep⟩ := hr j x hx
  obtain ⟨p, o, s, rfl, hp, hvs, hnew⟩ := hy c (hS _ _ hrep)
  have hj : j < L.length := (List.getElem?_eq_some_iff.1 hc).1
  have hLj : L[j] = p ++ o ++ s := (List.getElem?_eq_some_iff.1 hc).2
  have hk : (p ++ o ++ s).length = E.k := (h5 _ (hLj ▸ List.getElem_mem hj)).1
  have htl : (L.take j).flatten.length = j * E.k := by
    rw [List.length_flatten, List.map_congr_left (g := fun _ => E.k) (fun c hc => (h5 c (List.mem_of_mem_take hc)).1), List.map_const', List.sum_replicate_nat, List.length_take, Nat.min_eq_left (Nat.le_of_lt hj)]
  have hsplit : L.flatten = ((L.take j).flatten ++ p) ++ o ++ (s ++ (L.drop (j + 1)).flatten) := by
    conv => lhs; rw [← List.take_append_drop j L, List.drop_eq_getElem_cons hj, hLj]
    simp
  have hset : (L.set j (p ++ vs ++ s)).flatten = ((L.take j).flatten ++ p) ++ vs ++ (s ++ (L.drop (j + 1)).flatten) := by
    rw [List.set_eq_take_append_cons_drop, if_pos hj]
    simp
  have hal : ((L.take j).flatten ++ p).length = j * E.k + m := by rw [List.length_append, htl, hp]
  rw [hsplit] at hown
  obtain ⟨h6, h7⟩ := own_setCells vs _ o _ w hvs hown
  rw [hal, ← hset] at h6
  rw [hal] at h7
  refine ⟨⟨L.set j (p ++ vs ++ s), by rw [List.length_set]; exact h6, by simp [hl], fun i z hz => ?_⟩, h7⟩
  have hkeep : ∀ z c, E.rep w (fun b => S b ∧ b ≠ g) z c → E.rep (w.setCells g (j * E.k + m) vs) (fun b => S b ∧ some b ≠ Value.ownBlock (.slice (some ⟨g, 0, none⟩) xs.length cap)) z c := fun z c hc => E.kept (fun b hb => ⟨hb.1, fun e => hb.2 (by cases e; rfl)⟩) (fun b hb hlt => h7.block b hlt (fun e => hb.2 (by cases e; rfl))) hc
  by_cases e : j = i
  · subst e
    rw [List.getElem?_set_self (by rw [← hl]; exact hj)] at hz
    cases hz
    exact ⟨_, List.getElem?_set_self hj, hkeep _ _ hnew⟩
  · rw [List.getElem?_set_ne e] at hz
    obtain ⟨c, hc, hrep⟩ := hr i z hz
    exact ⟨c, by rw [List.getElem?_set_ne e]; exact hc, hkeep _ _ (hS _ _ hrep)⟩
/-- Cells of an owned row are there and may be written. -/
theorem RowG.free {α : Type} {E : El α} {w : World} {base : Nat} {S : Nat → Prop} {xs : List α} {g n cap : Nat} (h : RowG E w base S (.slice (some ⟨g, 0, none⟩) n cap) xs) (j : Nat) : w.frozen? ⟨g, j, none⟩ = false := by
  obtain ⟨L, hown, hl, hr⟩ := h
  obtain ⟨a', c', e', -⟩ := RowG.slice ⟨L, hown, hl, hr⟩
  cases e'
  exact hown.frozenAt j
theorem RowG.there {α : Type} {E : El α} {w : World} {base : Nat} {S : Nat → Prop} {xs : List α} {g n cap : Nat} (h : RowG E w base S (.slice (some ⟨g, 0, none⟩) n cap) xs) {j : Nat} (hj : j < xs.length) (m k : Nat) (hm : m + k ≤ E.k) : w.there g (j * E.k + m) k := by
  intro i hi
  obtain ⟨ad, c, e, hr, h0, h1⟩ := rowG_get h (List.getElem?_eq_getElem hj)
  cases e
  refine ⟨?_, h.free _⟩
  have hl := (E.len hr).1
  by_cases hz : m + i = 0
  · have := h0 _ (List.getElem?_eq_getElem (by omega))
    have e : ((⟨g, 0, none⟩ : Addr).add (j * E.k)) = ⟨g, j * E.k + m + i, none⟩ := by rw [Addr.add_mid]; congr 1; omega
    rw [← e, this]; rfl
  · have := h1 (m + i) _ hz (List.getElem?_eq_getElem (by omega))
    have e : (⟨((⟨g, 0, none⟩ : Addr).add (j * E.k)).block, ((⟨g, 0, none⟩ : Addr).add (j * E.k)).off + (m + i), none⟩ : Addr) = ⟨g, j * E.k + m + i, none⟩ := by rw [Addr.add_mid]; congr 1; simp; omega
    rw [← e, this]; rfl
/-- A store of a whole struct, or of one cell's worth, into an element of an owned row. -/
theorem wpList_putG {w : World} {ops : Array Oper} {rest : List Oper} {o : Oper} {a : Act} {Q : Exit → Act → World → Prop} {α : Type} (E : El α) (hgd : o.guard = none) (t : TypeId) (x y : Operand) (ho : o.op = Op.store t x y)
    (base : Nat) (S : Nat → Prop) (g n cap : Nat) (xs : List α) (hrow : RowG E w base S (.slice (some ⟨g, 0, none⟩) n cap) xs) (j m : Nat) (z z' : α) (hz : xs[j]? = some z) (vs : List Value) (O : Nat) (hO : O = j * E.k + m)
    (hx : a.eval x = .pointer (some ⟨g, O, none⟩)) (hy : a.eval y = .agg vs.toArray) (hi : (Try.prog.info? t).map (·.size) = some vs.length) (h1 : ∀ v ∈ vs, v.oneCell' = true) (hm : m + vs.length ≤ E.k)
    (hr : ∀ c, E.rep w (fun b => S b ∧ b ≠ g) z c → ∃ p o s, c = p ++ o ++ s ∧ p.length = m ∧ vs.length = o.length ∧ E.rep w (fun b => S b ∧ b ≠ g) z' (p ++ vs ++ s))
    (hK : ∀ w', RowG E w' base S (.slice (some ⟨g, 0, none⟩) n cap) (xs.set j z') → w.grownBy w' (some g) → wpList Try.prog ops Q rest (a.put o.dst undef) w') :
    wpList Try.prog ops Q (o :: rest) a w := by
  subst hO
  obtain ⟨h2, h3⟩ := hrow.put hz z' m vs hr
  refine wpList_store_mid hgd t x y ho g _ vs.toArray hx hy (by simpa using hrow.there (List.getElem?_eq_some_iff.1 hz).1 m vs.length hm) (by simpa using hi) (all_oneCell_toArray h1) ?_
  simpa using hK _ h2 h3
end Go.Proofs.Ytljgpgmaceackaa

/- The library's Reverse of a row of strings that the call owns. -/
namespace Go.Proofs.Ytljgpgmaceackaa
open Go.RowKit Go.Maps Mth S3

/-- A list of which so many are exchanged from both ends. -/
def revAt (xs cur : List ByteArray) (k : Nat) : Prop := cur.length = xs.length ∧ ∀ p, p < xs.length → cur[p]? = if p < k ∨ xs.length ≤ p + k then xs[xs.length - 1 - p]? else xs[p]?
theorem revAt_zero (xs : List ByteArray) : revAt xs xs 0 := ⟨rfl, fun p hp => by rw [if_neg (by omega)]⟩
theorem revAt_step {xs cur : List ByteArray} {k q : Nat} (h : revAt xs cur k) (hq : q + k + 1 = xs.length) (hkq : k < q) {a b : ByteArray} (ha : cur[k]? = some a) (hb : cur[q]? = some b) : revAt xs ((cur.set k b).set q a) (k + 1) := by
  obtain ⟨hl, hc⟩ := h
  refine ⟨by simp [hl], fun p hp => ?_⟩
  have ek := hc k (by omega)
  have eq := hc q (by omega)
  rw [if_neg (by omega)] at ek eq
  rw [List.getElem?_set, List.getElem?_set]
  by_cases h1 : q = p
  · subst h1
    rw [if_pos rfl, if_pos (by simp; omega), if_pos (by omega), ← ha, ek]
    congr 1; omega
  · rw [if_neg h1]
    by_cases h2 : k = p
    · subst h2
      rw [if_pos rfl, if_pos (by omega), if_pos (by omega), ← hb, eq]
      congr 1; omega
    · rw [if_neg h2, hc p hp]
      by_cases h3 : p < k ∨ xs.length ≤ p + k
      · rw [if_pos h3, if_pos (by omega)]
      · rw [if_neg h3, if_neg (by omega)]
theorem revAt_end {xs cur : List ByteArray} {k : Nat} (h : revAt xs cur k) (hk : xs.length ≤ 2 * k + 1) : cur = xs.reverse := by
  obtain ⟨hl, hc⟩ := h
  apply List.ext_getElem?
  intro p
  by_cases hp : p < xs.length
  · rw [hc p hp, List.getElem?_reverse hp]
    by_cases h3 : p < k ∨ xs.length ≤ p + k
    · rw [if_pos h3]
    · rw [if_neg h3]; congr 1; omega
  · rw [List.getElem?_eq_none (by omega), List.getElem?_eq_none (by simp; omega)]
/-- A row of strings: its cells. -/
theorem rowS_flat {w : World} {base : Nat} {v : Value} {cur : List ByteArray} (h : RowG StrE w base (fun _ => False) v cur) : w.ownsRow base 9 1 v cur.length (cur.map .string) := by
  obtain ⟨L, hown, hl, hr⟩ := h
  have : L = cur.map (fun s => [Value.string s]) := by
    apply List.ext_getElem?
    intro j
    rw [List.getElem?_map]
    by_cases hj : j < cur.length
    · obtain ⟨c, hc, hrep⟩ := hr j cur[j] (List.getElem?_eq_getElem hj)
      have hrep' : c = [.string cur[j]] := hrep
      rw [hc, List.getElem?_eq_getElem hj, hrep']; rfl
    · rw [List.getElem?_eq_none (by omega), List.getElem?_eq_none (by omega)]; rfl
  subst this
  have e : (cur.map (fun s => [Value.string s])).flatten = cur.map .string := by
    clear hown hl hr
    induction cur with
    | nil => rfl
    | cons x l ih => simp [ih]
  rw [e] at hown
  exact hown
theorem rowS_of {w : World} {base : Nat} {v : Value} {cur : List ByteArray} (h : w.ownsRow base 9 1 v cur.length (cur.map .string)) : RowG StrE w base (fun _ => False) v cur := by
  refine ⟨cur.map (fun s => [Value.string s]), ?_, by simp, fun j x hx => ⟨[.string x], by rw [List.getElem?_map, hx]; rfl, rfl⟩⟩
  have e : (cur.map (fun s => [Value.string s])).flatten = cur.map .string := by
    clear h
    induction cur with
    | nil => rfl
    | cons x l ih => simp [ih]
  rw [e]
  exact h
/-- A string is stored into a row. -/
theorem rowS_stored {w : World} {base g n c : Nat} {cur : List ByteArray} (h : RowG StrE w base (fun _ => False) (.slice (some ⟨g, 0, none⟩) n c) cur) (j : Nat) (s : ByteArray) :
    RowG StrE (w.setCell ⟨g, j, none⟩ (.string s)) base (fun _ => False) (.slice (some ⟨g, 0, none⟩) n c) (cur.set j s) ∧ w.grownBy (w.setCell ⟨g, j, none⟩ (.string s)) (some g) := by
  have hn : n = cur.length := by
    obtain ⟨a, c', e, -⟩ := h.slice
    cases e; rfl
  subst hn
  obtain ⟨h1, h2⟩ := (rowS_flat h).stored j (.string s)
  refine ⟨rowS_of ?_, h2⟩
  rw [List.length_set, List.map_set]
  exact h1
/-- What Reverse leaves alone. -/
structure RvSt (w : World) (base : Nat) (v : Value) (cur : List ByteArray) (wr : World) : Prop where
  row : RowG StrE wr base (fun _ => False) v cur
  low : Below base w wr
  size : wr.heap.size = w.heap.size
  rest : ∀ b, b < w.heap.size → v.ownBlock ≠ some b → wr.heap[b]? = w.heap[b]?
theorem RvSt.drew {w : World} {base : Nat} {v : Value} {cur : List ByteArray} {wr : World} (H : RvSt w base v cur wr) : RvSt w base v cur wr.drew :=
  ⟨H.row.lift (Below.refl _ wr).drew, H.low.trans ((Below.refl base wr).drew), H.size, H.rest⟩
theorem RvSt.swap {w : World} {base g n c : Nat} {cur : List ByteArray} {wr : World} (H : RvSt w base (.slice (some ⟨g, 0, none⟩) n c) cur wr) (hb : base ≤ w.heap.size) (k q : Nat) (a b : ByteArray) : RvSt w base (.slice (some ⟨g, 0, none⟩) n c) ((cur.set k b).set q a) ((wr.setCell ⟨g, k, none⟩ (.string b)).setCell ⟨g, q, none⟩ (.string a)) := by
  obtain ⟨h1, g1⟩ := rowS_stored H.row k b
  obtain ⟨h2, g2⟩ := rowS_stored h1 q a
  have hg := grown_trans g1 g2
  have hbg : base ≤ g := (H.row.lt g rfl).1
  refine ⟨h2, Below.grown H.low hg (by rw [H.size]; exact hb) (fun k hk => by have := Option.some.inj hk; omega), by simp [H.size], fun b hb' hne => ?_⟩
  rw [hg.block b (by rw [H.size]; exact hb') (fun e => hne e.symm), H.rest b hb' hne]
set_option maxRecDepth 100000 in
set_option maxHeartbeats 6400000 in
theorem revS_any (base : Nat) (xs : List ByteArray) (v : Value) (w : World) (hx : xs.length ≤ 1000000) (hb : base ≤ w.heap.size) (h : RowG StrE w base (fun _ => False) v xs) :
    Calls Try.prog 51 #[v] w fun e w' => e = .returned (.tuple #[]) ∧ RvSt w base v xs.reverse w' := by
  have HR0 : Hid (RvSt w base v xs w) := ⟨h, Below.refl _ _, rfl, fun _ _ _ => rfl⟩
  have HZ0 := Lib.hid (revAt_zero xs)
  obtain ⟨a, c, rfl, hle, hcm⟩ := h.slice
  clear h
  unfold maxLen at hcm
  obtain ⟨m, hm⟩ : ∃ m, m = xs.length := ⟨_, rfl⟩
  rw [← hm] at hx hle HR0 ⊢
  have HM := Lib.hid hm
  clear hm
  go_enter Try.func51, Try.ntmps51
  go_wp2
  go_loopw [2, 3] (fun i jj wr => ∃ (k : Nat) (cur : List ByteArray), 2 * k ≤ m + 1 ∧ i = .int .i64 k ∧ jj = .int .i64 ((m : Int) - 1 - k) ∧ Hid (revAt xs cur k) ∧ Hid (RvSt w base (.slice a m c) cur wr)) (fun i _ _ => m - (intOf i).toNat)
  case atStart => exact ⟨0, xs, by omega, rfl, by go_num, HZ0, HR0⟩
  case round =>
    clear HZ0 HR0
    obtain ⟨k, cur, hk, rfl, rfl, HZ, HR⟩ := hrel
    by_cases hlt : 2 * k + 1 < m
    · obtain ⟨q, hq⟩ : ∃ q : Nat, (m : Int) - 1 - k = q := ⟨m - 1 - k, by omega⟩
      rw [hq]
      have hqm : q + k + 1 = m := by omega
      have hcl : cur.length = m := by rw [HZ.out.1, HM.out]
      obtain ⟨s, hs⟩ : ∃ x, cur[k]? = some x := ⟨_, List.getElem?_eq_getElem (by omega)⟩
      obtain ⟨t, ht⟩ : ∃ x, cur[q]? = some x := ⟨_, List.getElem?_eq_getElem (by omega)⟩
      have HZ1 := Lib.hid (revAt_step HZ.out (by rw [← HM.out]; exact hqm) (by omega) hs ht)
      have hkq : (k : Int) < (q : Int) := by omega
      obtain ⟨g, rfl⟩ : ∃ g, a = some ⟨g, 0, none⟩ := by
        rcases (rowS_flat HR.out.row).2 with ⟨e, -⟩ | ⟨g, cap, cu, e, -⟩
        · cases e; omega
        · cases e; exact ⟨g, rfl⟩
      have hfl := rowS_flat HR.out.row
      rw [hcl] at hfl
      have d0 := hfl.cellAt k (by omega)
      have d1 := hfl.cellAt q (by omega)
      have f0 := hfl.frozenAt k
      have f1 := hfl.frozenAt q
      rw [List.getElem?_map, hs] at d0
      rw [List.getElem?_map, ht] at d1
      simp only [Option.map_some] at d0 d1
      have hkm : (k : Int) < (m : Int) := by omega
      have hqm' : (q : Int) < (m : Int) := by omega
      have hne : ¬ k = q := by omega
      have hne' : ¬ q = k := by omega
      clear hfl hs ht
      have HSw := Lib.hid (HR.out.swap hb k q s t)
      have HSw1 := Lib.hid HSw.out.drew
      go_upto_region 3 with fail
      go_region_law (fail)
      all_goals
        clear d0 d1 f0 f1
        go_wp2
        go_roundw
        case rel => exact ⟨k + 1, _, by omega, by go_num, by go_num, HZ1, by first | exact HSw1 | exact HSw⟩
        case measure => simp [intOf]; omega
    · have HE := Lib.hid (revAt_end HZ.out (by rw [← HM.out]; omega))
      go_wp2
      go_end0
      exact ⟨rfl, by rw [← HE.out]; exact HR.out⟩
end Go.Proofs.Ytljgpgmaceackaa
