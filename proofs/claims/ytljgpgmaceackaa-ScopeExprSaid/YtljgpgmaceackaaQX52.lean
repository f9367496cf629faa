import Derived.Test.YtljgpgmaceackaaQX19
import Derived.Test.YtljgpgmaceackaaQX21
import Derived.Test.YtljgpgmaceackaaQX25
import Derived.Test.YtljgpgmaceackaaQX32
import Derived.Test.YtljgpgmaceackaaQX46
import Derived.Test.YtljgpgmaceackaaQX17
import Derived.Test.YtljgpgmaceackaaQX44
import Derived.Test.YtljgpgmaceackaaQX04
import Derived.Deep.RegionHeld3
/- The law ScopeExpr returns true at every input. -/
namespace Go.Proofs.Ytljgpgmaceackaa
open Go.RowKit Go.Maps Mth S3

theorem tape_newX {w w1 : World} {zs : List Int} {a : Option Addr} {cap n : Nat} (hn : n = zs.length) (hz : zs.length ≤ 1000) (h : Ints w (.slice a n cap) zs) (hb : Below w.heap.size w w1) :
    S3.Tq (w1.alloc (.cells #[.slice a n cap, .int .i64 0] 29)) w1.heap.size := by
  subst hn
  obtain ⟨a', cap', e, -, -, hj⟩ := h
  cases e
  refine ⟨zs, a, cap, 0, ?_, Nat.zero_le _, hz, fun j x hx => ?_⟩
  · unfold S3.TapeAt; rw [heap_at, if_pos rfl]; rfl
  · obtain ⟨ad, rfl, hc⟩ := hj j x hx
    have hl := World.block_lt_of_cell? _ _ hc
    have hl1 := Nat.lt_of_lt_of_le hl hb.size
    refine ⟨ad, rfl, by rw [add_block] at hl1; exact hl1, ?_⟩
    rw [((Below.refl _ w1).alloc (Nat.le_refl _) _).cell hl1, hb.cell hl]
    exact hc
def six : List ByteArray := [⟨#[120]⟩, ⟨#[121]⟩, ⟨#[122]⟩, ⟨#[102]⟩, ⟨#[103]⟩, ⟨#[105, 100]⟩]
def eight : List ByteArray := [⟨#[120]⟩, ⟨#[121]⟩, ⟨#[122]⟩, ⟨#[102]⟩, ⟨#[103]⟩, ⟨#[105, 100]⟩, ⟨#[118, 49]⟩, ⟨#[118, 50]⟩]
theorem six_at {k : Nat} (hk : k < 6) : ∃ s, ∀ V : World, (V.alloc (.cells #[.string ⟨#[120]⟩, .string ⟨#[121]⟩, .string ⟨#[122]⟩, .string ⟨#[102]⟩, .string ⟨#[103]⟩, .string ⟨#[105, 100]⟩] 9)).cell? ⟨V.heap.size, k, none⟩ = some (.string s) := by
  have hl : k < six.length := hk
  exact ⟨six[k], fun V => (BoxC.made 9 V (six.map Value.string)).cell k _ (by rw [List.getElem?_map, List.getElem?_eq_getElem hl]; rfl)⟩
theorem all_sized : allDats.all (fun d => decide (d.name.size ≤ 1000)) = true := by decide +kernel
theorem dsOf_sized (bits : Int) : Sized (dsOf bits) := by
  refine ⟨by have := (dsOf_some bits).1; omega, fun d hd => ?_⟩
  have := List.all_eq_true.1 all_sized d ((dsOf_some bits).2 d hd)
  have : d.name.size ≤ 1000 := by simpa using this
  unfold maxLen
  omega
def Lit (W V : World) (n : Nat) : Prop := SlG StrE V (fun g => W.heap.size ≤ g) eight (.slice (some ⟨n, 0, none⟩) 8 8)
theorem lit_strS (V : World) (l : List ByteArray) (hl : l.length ≤ 100) (S : Nat → Prop) (hS : S V.heap.size) : SlG StrE (V.alloc (.cells (l.map Value.string).toArray 9)) S l (.slice (some ⟨V.heap.size, 0, none⟩) l.length l.length) := by
  refine ⟨_, l.length, rfl, ⟨Nat.le_refl _, by unfold maxLen; omega⟩, fun j x hx => ?_⟩
  refine ⟨_, [.string x], rfl, hS, fun m u hu => ?_, rfl⟩
  match m, hu with
  | 0, hu =>
    simp at hu
    subst hu
    have := (BoxC.made 9 V (l.map Value.string)).cell j (.string x) (by rw [List.getElem?_map, hx]; rfl)
    simpa [Addr.add_mid, show StrE.k = 1 from rfl] using this
theorem lit_mk {W X : World} (h : W.heap.size ≤ X.heap.size) : Lit W (X.alloc (.cells #[.string ⟨#[120]⟩, .string ⟨#[121]⟩, .string ⟨#[122]⟩, .string ⟨#[102]⟩, .string ⟨#[103]⟩, .string ⟨#[105, 100]⟩, .string ⟨#[118, 49]⟩, .string ⟨#[118, 50]⟩] 9)) X.heap.size := lit_strS X eight (by decide) _ h
theorem lit_mk2 {W X : World} (h : W.heap.size ≤ X.heap.size) : Lit W ((X.alloc (.cells #[.string ⟨#[120]⟩, .string ⟨#[121]⟩, .string ⟨#[122]⟩, .string ⟨#[102]⟩, .string ⟨#[103]⟩, .string ⟨#[105, 100]⟩, .string ⟨#[118, 49]⟩, .string ⟨#[118, 50]⟩] 9)).alloc (.cells #[.string ⟨#[120]⟩, .string ⟨#[121]⟩, .string ⟨#[122]⟩, .string ⟨#[102]⟩, .string ⟨#[103]⟩, .string ⟨#[105, 100]⟩, .string ⟨#[118, 49]⟩, .string ⟨#[118, 50]⟩] 9)) (X.heap.size + 1) := by
  have := lit_mk (W := W) (X := X.alloc (.cells #[.string ⟨#[120]⟩, .string ⟨#[121]⟩, .string ⟨#[122]⟩, .string ⟨#[102]⟩, .string ⟨#[103]⟩, .string ⟨#[105, 100]⟩, .string ⟨#[118, 49]⟩, .string ⟨#[118, 50]⟩] 9)) (Nat.le_trans h (World.grownBy_alloc _ _ none).size)
  rw [show (X.alloc (.cells #[.string ⟨#[120]⟩, .string ⟨#[121]⟩, .string ⟨#[122]⟩, .string ⟨#[102]⟩, .string ⟨#[103]⟩, .string ⟨#[105, 100]⟩, .string ⟨#[118, 49]⟩, .string ⟨#[118, 50]⟩] 9)).heap.size = X.heap.size + 1 by simp] at this
  exact this
theorem lit_gr {W V V' : World} {n : Nat} {o : Option Nat} (h : Lit W V n) (ho : ∀ k, o = some k → k < W.heap.size) (hg : V.grownBy V' o) : Lit W V' n :=
  h.kept (fun _ h => h) (fun g hb hl => hg.block g hl (fun e => by have := ho g e.symm; omega))
theorem lit_up {W V V' : World} {n : Nat} (h : Lit W V n) (hb : Below V.heap.size V V') : Lit W V' n := h.lift' hb
theorem lit_al {W V : World} {n : Nat} (h : Lit W V n) (o : Obj) : Lit W (V.alloc o) n := lit_up h ((Below.refl _ V).alloc (Nat.le_refl _) o)
theorem slG_al {α : Type} {E : El α} {w : World} {S : Nat → Prop} {xs : List α} {v : Value} (h : SlG E w S xs v) (o : Obj) : SlG E (w.alloc o) S xs v := h.lift' ((Below.refl _ w).alloc (Nat.le_refl _) o)
/-- The list of names, which lies ahead of block N. -/
structure XSt (w : World) (N : Nat) (v : Value) (L : List ByteArray) (V : World) : Prop where
  row : RowG StrE V w.heap.size (fun _ => False) v L
  off : ∀ k, v.ownBlock = some k → k < N
  low : Below w.heap.size w V
theorem XSt.far {w : World} {N : Nat} {v : Value} {L : List ByteArray} {V V' : World} {row : Option Nat} (H : XSt w N v L V) (hN : w.heap.size ≤ N) (hg : V.grownBy V' row) (hr : ∀ k, row = some k → N ≤ k) : XSt w N v L V' :=
  ⟨H.row.kept hg (by
    cases h : v.ownBlock with
    | none => exact .inl rfl
    | some k => exact .inr (fun e => by have := H.off k h; have := hr k e.symm; omega)) (fun _ h => h.elim), H.off, Below.grown H.low hg H.low.size (fun k e => by have := hr k e; omega)⟩
theorem XSt.lift {w : World} {N : Nat} {v : Value} {L : List ByteArray} {V V' : World} (H : XSt w N v L V) (hN : w.heap.size ≤ N) (hb : Below V.heap.size V V') : XSt w N v L V' := H.far hN (grown_of_below hb none) (fun k e => by cases e)
set_option maxRecDepth 100000 in
set_option maxHeartbeats 16000000 in
theorem scopeExpr_any (bits other : Int) (cv : Value) (zs : List Int) (nv : Value) (ns : List Int) (spoil : Int) (w : World) (hz : Ints w cv zs) (hn : Ints w nv ns) :
    Calls Try.prog 3 #[.int .i64 bits, .int .i64 other, cv, nv, .int .i64 spoil] w fun e w' => e = .returned (.bool true) ∧ Below w.heap.size w w' := by
  have HFi := Lib.hid (first10_any w)
  have HZ := Lib.hid hz
  obtain ⟨za, zc, rfl, -, -, -⟩ := hz
  obtain ⟨na, nc, rfl, hnl, hnc, hncell⟩ := hn
  have HNc := Lib.hid hncell
  clear hncell
  have HFw : Hid (∀ V, Below w.heap.size w V → Calls Try.prog 5 #[.slice za zs.length zc] V fun e w' => e = .returned (.bool (decide (zs.length ≤ 60))) ∧ V = w') := fun V hb => S3.few_any _ zs V (HZ.out.lift hb)
  obtain ⟨zn, hzn⟩ : ∃ n, n = zs.length := ⟨_, rfl⟩
  rw [← hzn] at HZ HFw ⊢
  have HZn := Lib.hid hzn
  clear hzn
  obtain ⟨nn, hnn⟩ : ∃ n, n = ns.length := ⟨_, rfl⟩
  rw [← hnn] at hnl ⊢
  have HNn := Lib.hid hnn
  clear hnn
  cases h60 : decide (zn ≤ 60) with
  | false =>
    rw [h60] at HFw
    clear h60
    go_enter Try.func3, Try.ntmps3
    go_wp2_with fail
    go_at_call 4
    refine HFi.out.mono ?_
    rintro e w1 ⟨rfl, hb1, hlt1⟩
    go_wp2_with fail
    go_at_call 5
    refine (HFw.out _ hb1).mono ?_
    rintro e w2 ⟨rfl, rfl⟩
    go_wp2
    go_ret
    exact ⟨rfl, hb1⟩
  | true =>
    rw [h60] at HFw
    have hle : zn ≤ 60 := by simpa using h60
    clear h60
    by_cases h5 : (5 : Int) < (nn : Int)
    · go_enter Try.func3, Try.ntmps3
      go_wp2_with fail
      go_at_call 4
      refine HFi.out.mono ?_
      rintro e w1 ⟨rfl, hb1, hlt1⟩
      go_wp2_with fail
      go_at_call 5
      refine (HFw.out _ hb1).mono ?_
      rintro e w2 ⟨rfl, rfl⟩
      go_wp2
      go_ret
      exact ⟨rfl, hb1⟩
    have hn5 : nn ≤ 5 := by omega
    have HDa := Lib.hid (fun V => S3.datas_any bits V)
    have HMk := Lib.hid (MR.raw_any 4)
    go_enter Try.func3, Try.ntmps3
    go_wp2_with fail
    go_at_call 4
    refine HFi.out.mono ?_
    rintro e w1 ⟨rfl, hb1, hlt1⟩
    have HB1 := Lib.hid hb1
    clear hb1 hlt1 HFi
    go_wp2_with fail
    go_at_call 5
    refine (HFw.out _ HB1.out).mono ?_
    rintro e w2 ⟨rfl, rfl⟩
    clear HFw
    have HX0 : Hid (RowG StrE w1 w.heap.size (fun _ => False) (.slice none 0 0) [] ∧ Below w.heap.size w w1) := ⟨rowG_nil _ _ _ _, HB1.out⟩
    go_wp2_with fail
    go_loopw [11, 12] (fun l i wr => ∃ (j : Nat) (L : List ByteArray) (la : Option Addr) (lc : Nat), j ≤ nn ∧ i = .int .i64 j ∧ l = .slice la j lc ∧ Hid (L.length = j) ∧ Hid (RowG StrE wr w.heap.size (fun _ => False) (.slice la j lc) L ∧ Below w.heap.size w wr)) (fun _ i _ => nn - (intOf i).toNat)
    case atStart => exact ⟨0, [], none, 0, Nat.zero_le _, rfl, rfl, rfl, HX0⟩
    case round =>
      clear HX0
      obtain ⟨j, L, la, lc, hj, rfl, rfl, HLl, HX⟩ := hrel
      by_cases hlt : j < nn
      · obtain ⟨z, hzj⟩ : ∃ x, ns[j]? = some x := ⟨_, List.getElem?_eq_getElem (by rw [← HNn.out]; exact hlt)⟩
        obtain ⟨ad, rfl, hcz⟩ := HNc.out j z hzj
        obtain ⟨k, hk⟩ : ∃ k : Nat, z % 6 = k := ⟨(z % 6).toNat, by have := Int.emod_nonneg z (b := 6) (by omega); omega⟩
        have hk6 : k < 6 := by have := Int.emod_lt_of_pos z (b := 6) (by omega); omega
        obtain ⟨s, hs⟩ := six_at hk6
        have hsw := hs wr
        have HMo : Hid (∀ V : World, Calls Try.prog 6 #[.int .i64 z, .int .i64 6] V fun e w' => e = .returned (.int .i64 k) ∧ V = w') := fun V => by
          have := S3.mod_any z 6 V (by omega) (by omega)
          rwa [hk] at this
        have hki : (k : Int) < 6 := by omega
        have hji : (j : Int) < (nn : Int) := by omega
        have hA6 : Below wr.heap.size wr (wr.alloc (.cells #[.string ⟨#[120]⟩, .string ⟨#[121]⟩, .string ⟨#[122]⟩, .string ⟨#[102]⟩, .string ⟨#[103]⟩, .string ⟨#[105, 100]⟩] 9)) := (Below.refl _ wr).alloc (Nat.le_refl _) _
        have hzc : (wr.alloc (.cells #[.string ⟨#[120]⟩, .string ⟨#[121]⟩, .string ⟨#[122]⟩, .string ⟨#[102]⟩, .string ⟨#[103]⟩, .string ⟨#[105, 100]⟩] 9)).cell? (ad.add j) = some (.int .i64 z) := ((HX.out.2.trans (hA6.mono HX.out.2.size)).cell (World.block_lt_of_cell? _ _ hcz)).trans hcz
        have HA6 := Lib.hid hA6
        have hb2 : Below (wr.alloc (.cells #[.string ⟨#[120]⟩, .string ⟨#[121]⟩, .string ⟨#[122]⟩, .string ⟨#[102]⟩, .string ⟨#[103]⟩, .string ⟨#[105, 100]⟩] 9)).heap.size (wr.alloc (.cells #[.string ⟨#[120]⟩, .string ⟨#[121]⟩, .string ⟨#[122]⟩, .string ⟨#[102]⟩, .string ⟨#[103]⟩, .string ⟨#[105, 100]⟩] 9)) ((wr.alloc (.cells #[.string ⟨#[120]⟩, .string ⟨#[121]⟩, .string ⟨#[122]⟩, .string ⟨#[102]⟩, .string ⟨#[103]⟩, .string ⟨#[105, 100]⟩] 9)).alloc (.cells #[.string s] 9)) := (Below.refl _ _).alloc (Nat.le_refl _) _
        have HBa := Lib.hid ((HX.out.2.trans (hA6.mono HX.out.2.size)).trans (hb2.mono (Nat.le_trans HX.out.2.size hA6.size)))
        have HRa := Lib.hid ((HX.out.1.lift hA6).lift hb2)
        have HRs := Lib.hid HBa.out.size
        have HO1 : Hid (SlG StrE ((wr.alloc (.cells #[.string ⟨#[120]⟩, .string ⟨#[121]⟩, .string ⟨#[122]⟩, .string ⟨#[102]⟩, .string ⟨#[103]⟩, .string ⟨#[105, 100]⟩] 9)).alloc (.cells #[.string s] 9)) (fun _ => True) [s] (.slice (some ⟨wr.heap.size + 1, 0, none⟩) 1 1)) := by
          have := one_str (wr.alloc (.cells #[.string ⟨#[120]⟩, .string ⟨#[121]⟩, .string ⟨#[122]⟩, .string ⟨#[102]⟩, .string ⟨#[103]⟩, .string ⟨#[105, 100]⟩] 9)) s
          rw [show (wr.alloc (.cells #[.string ⟨#[120]⟩, .string ⟨#[121]⟩, .string ⟨#[122]⟩, .string ⟨#[102]⟩, .string ⟨#[103]⟩, .string ⟨#[105, 100]⟩] 9)).heap.size = wr.heap.size + 1 by simp] at this
          exact this
        clear hk hs hcz hzj hA6 hb2
        have HLb : Hid (L.length + [s].length ≤ 1000000) := by have := HLl.out; show L.length + 1 ≤ 1000000; omega
        go_wp2_with (first
          | (go_at_call 6; refine (HMo.out _).mono ?_; rintro e x ⟨rfl, rfl⟩)
          | (at_builtin; refine wpList_pushStr rfl _ _ rfl w.heap.size (.slice la j lc) L rfl HRa.out _ rfl [s] (fun _ => True) HO1.out HLb.out HRs.out ?_; intro la4 n4 lc4 w4 hn4 hrow4 hg4; have HRw4 := Lib.hid hrow4; have HG4 := Lib.hid hg4; have HN4 := Lib.hid hn4; clear hrow4 hg4 hn4))
        have hn4 : j + 1 = n4 := by rw [HN4.out, List.length_append, HLl.out]; rfl
        have HX4 : Hid (RowG StrE w4 w.heap.size (fun _ => False) (.slice la4 n4 lc4) (L ++ [s]) ∧ Below w.heap.size w w4) := ⟨HRw4.out, Below.grown HBa.out HG4.out HBa.out.size (fun k e => (HX.out.1.lt k e).1)⟩
        have HL4 : Hid ((L ++ [s]).length = n4) := HN4.out.symm
        subst hn4
        clear HRw4 HG4 HN4 HRa HRs HBa HX HLl HLb HMo HA6 hzc hsw
        go_wp2
        go_roundw
        case rel => exact ⟨j + 1, L ++ [s], la4, lc4, hlt, by go_num, rfl, HL4, HX4⟩
        case measure => simp [intOf]; omega
      · have hjn : j = nn := by omega
        subst hjn
        have hTq := tape_newX (w1 := wr) HZn.out (by rw [← HZn.out]; omega) HZ.out HX.out.2
        have hal1 : Below wr.heap.size wr (wr.alloc (.cells #[.slice za zn zc, .int .i64 0] 29)) := (Below.refl _ wr).alloc (Nat.le_refl _) _
        have HTq := Lib.hid hTq
        have hx2 : XSt w wr.heap.size (.slice la j lc) L (wr.alloc (.cells #[.slice za zn zc, .int .i64 0] 29)) := XSt.lift ⟨HX.out.1, fun k e => (HX.out.1.lt k e).2, HX.out.2⟩ HX.out.2.size hal1
        have HX2 := Lib.hid hx2
        have HWb : Hid (w.heap.size ≤ wr.heap.size) := HX.out.2.size
        have HSz : Hid ((wr.alloc (.cells #[.slice za zn zc, .int .i64 0] 29)).heap.size = wr.heap.size + 1) := by show _ = _; simp
        have HMz : Hid (∀ V : World, BoxC 36 (V.alloc (.cells #[.int .i64 0, .int .i64 0, .string ⟨#[]⟩, .int .i64 0, .slice none 0 0, .slice none 0 0, .int .i64 0, .string ⟨#[]⟩, .int .i64 0, .int .i64 0, .slice none 0 0] 36)) V.heap.size zE) := fun V => BoxC.made _ V zE
        clear hTq hal1 hx2 HX
        go_wp2_with fail
        go_at_call 10
        generalize (wr.alloc (.cells #[.slice za zn zc, .int .i64 0] 29)) = V2 at *
        generalize wr.heap.size = b at *
        refine (HDa.out V2).mono ?_
        rintro e V3 ⟨ds, dv, rfl, hds, hsd, hb3⟩
        have HDs := Lib.hid hds
        have HSd := Lib.hid hsd
        have HTq3 := Lib.hid (HTq.out.lift hb3)
        have HX3 := Lib.hid (HX2.out.lift HWb.out hb3)
        have HS3 : Hid (b + 1 ≤ V3.heap.size) := by have := hb3.size; have := HSz.out; show b + 1 ≤ V3.heap.size; omega
        clear hds hsd hb3 HTq HX2 HDa
        go_upto_region 12 with (first
          | (go_at_call 9; refine (HMk.out 4 ds dv _ b V3.heap.size V3 rfl (by omega) HDs.out HSd.out (fun c hc => by have := HSz.out; omega) HTq3.out (Nat.le_refl _)).mono ?_; rintro e V5 ⟨u, rfl, T0, c0, rfl, hrep, hok, -, hg5⟩; have HR5 := Lib.hid hrep; have HGe := Lib.hid (GE_ok (by omega) hok); have HX5 := Lib.hid (HX3.out.far HWb.out hg5 (fun k e => by cases e; exact Nat.le_refl _)); have HS5 : Hid (b + 1 ≤ V5.heap.size) := Nat.le_trans HS3.out hg5.size; clear hrep hok hg5)
          | (go_at_call 8; refine (spoiled_any 100000 99999 T0 spoil _ c0 V5 (by omega) HGe.out HR5.out).mono ?_; rintro e V6 ⟨T1, c1, rfl, hge1, hr1, hb6⟩; have HR6 := Lib.hid hr1; have HGe1 := Lib.hid hge1; have HX6 := Lib.hid (HX5.out.lift HWb.out hb6); have HS6 : Hid (b + 1 ≤ V6.heap.size) := Nat.le_trans HS5.out hb6.size; clear hr1 hge1 hb6)
          | (go_at_call 7; refine (marked_any 100000 199999 T1 1 _ c1 V6 HGe1.out HR6.out).mono ?_; rintro e V7 ⟨T, c2, z', rfl, hge2, hr2, hb7⟩; obtain ⟨ka, kc, aa, ac, tk, tn, ti, th, ta, tl, tc, rfl⟩ := hr2.form; have HR7 := Lib.hid hr2; have HGe2 := Lib.hid hge2; have HX7 := Lib.hid (HX6.out.lift HWb.out hb7); have HS7 : Hid (b + 1 ≤ V7.heap.size) := Nat.le_trans HS6.out hb7.size; clear hr2 hge2 hb7)
          | (refine wpList_storeC rfl _ _ rfl _ _ _ (HMz.out _) rfl rfl sizeEx rfl HR7.out.len.2 ?_; intro W hB8 hg8 hs8))
        have hw78 : Below V7.heap.size V7 W := Below.grown ((Below.refl _ V7).alloc (Nat.le_refl _) _) hg8 ((Below.refl _ V7).alloc (Nat.le_refl _) _).size (fun k hk => by have h1 := Option.some.inj hk; omega)
        have HR8 : Hid (RepE W (fun g => b < g ∧ g < V7.heap.size) T _) := (HR7.out.bound.imp (S' := fun g => b < g ∧ g < V7.heap.size) (fun g hg => ⟨by
          rcases hg.1 with (h | h) | h
          · exact Nat.lt_of_lt_of_le HS3.out h
          · exact Nat.lt_of_lt_of_le HS5.out h
          · exact Nat.lt_of_lt_of_le HS6.out h, hg.2⟩)).lift hw78
        have HX8 := Lib.hid (HX7.out.lift HWb.out hw78)
        have HBx := Lib.hid hB8
        have HZ8 : Hid (W.heap.size = V7.heap.size + 1) := by show _ = _; rw [hs8]; simp
        have HBb : Hid (b < V7.heap.size) := HS7.out
        clear hw78 hB8 hg8 hs8 HR7 HX7 HX6 HX5 HX3 HR6 HR5 HGe HGe1 HS3 HS5 HS6 HTq3 HMk HSz HSd HDs HMz
        generalize V7.heap.size = B at *
        generalize T.kids.length = kn at *
        generalize T.arms.length = an at *
        have hlj : L.length ≤ 5 := by rw [HLl.out]; exact hn5
        have HLj := Lib.hid hlj
        have HOb : Hid (∀ k, (Value.ownBlock (.slice la j lc)) = some k → k < b) := fun k e => HX8.out.off k e
        have HRow := Lib.hid HX8.out.row
        have HLow := Lib.hid HX8.out.low
        have HOld : Hid (∀ V, W.grownBy V (Value.ownBlock (.slice la j lc)) → RepE V (fun g => b < g ∧ g < B) T [.int .i64 T.k, .int .i64 T.p, .string T.n, .int .i64 T.m, .slice ka kn kc, .slice aa an ac, .int .i64 tk, .string tn, .int .i64 ti, .int .i64 th, .slice ta tl tc]) := fun V hV => HR8.out.kept (fun _ h => h) (fun g hg hl => hV.block g hl (fun e => by have := HOb.out g e.symm; omega))
        have HBox : Hid (∀ V, W.grownBy V (Value.ownBlock (.slice la j lc)) → BoxC 36 V B [.int .i64 T.k, .int .i64 T.p, .string T.n, .int .i64 T.m, .slice ka kn kc, .slice aa an ac, .int .i64 tk, .string tn, .int .i64 ti, .int .i64 th, .slice ta tl tc]) := fun V hV => HBx.out.grown hV (fun e => by have := HOb.out B e.symm; have := HBb.out; omega)
        have hS0 : ∀ v, W.grownBy v (Value.ownBlock (.slice la j lc)) → RowG StrE v w.heap.size (fun _ => False) (.slice la j lc) L → (v.cell? ⟨B, 0, none⟩ = some (.int .i64 T.k) ∧ v.cell? ⟨B, 1, none⟩ = some (.int .i64 T.p) ∧ v.cell? ⟨B, 2, none⟩ = some (.string T.n) ∧ v.cell? ⟨B, 3, none⟩ = some (.int .i64 T.m) ∧ v.cell? ⟨B, 4, none⟩ = some (.slice ka kn kc) ∧ v.cell? ⟨B, 5, none⟩ = some (.slice aa an ac) ∧ v.cell? ⟨B, 6, none⟩ = some (.int .i64 tk) ∧ v.cell? ⟨B, 7, none⟩ = some (.string tn) ∧ v.cell? ⟨B, 8, none⟩ = some (.int .i64 ti) ∧ v.cell? ⟨B, 9, none⟩ = some (.int .i64 th) ∧ v.cell? ⟨B, 10, none⟩ = some (.slice ta tl tc) ∧ W.grownBy v (Value.ownBlock (.slice la j lc)) ∧ RowG StrE v w.heap.size (fun _ => False) (.slice la j lc) L) := fun v hg hr => by
          obtain ⟨b0, b1, b2, b3, b4, b5, b6, b7, b8, b9, b10⟩ := bx11 (HBox.out v hg)
          exact ⟨b0, b1, b2, b3, b4, b5, b6, b7, b8, b9, b10, hg, hr⟩
        have HS0 := Lib.hid hS0
        have HDb : Hid (∀ (z : Int) (V : World), W.grownBy V (Value.ownBlock (.slice la j lc)) → RowG StrE V w.heap.size (fun _ => False) (.slice la j lc) L → Calls Try.prog 10 #[.int .i64 z] V fun e w' => ∃ dv, e = .returned dv ∧ SlG DatE w' (fun c => W.heap.size ≤ c) (dsOf z) dv ∧ W.grownBy w' (Value.ownBlock (.slice la j lc)) ∧ RowG StrE w' w.heap.size (fun _ => False) (.slice la j lc) L ∧ Below V.heap.size V w') := fun z V hV hR => (datasB_any z V).mono fun e w' ⟨dv, h1, h2, h3⟩ => ⟨dv, h1, h2.slG.kept (S' := fun c => W.heap.size ≤ c) (fun c hc => Nat.le_trans hV.size hc) (fun _ _ _ => rfl), grown_trans hV (grown_of_below h3 _), hR.lift h3, h3⟩
        have HEx : Hid (∀ (z : Int) (l : List ByteArray), l.length ≤ 100 → ∀ (dv : Value) (a : Option Addr) (n c : Nat) (V : World), W.grownBy V (Value.ownBlock (.slice la j lc)) → RowG StrE V w.heap.size (fun _ => False) (.slice la j lc) L → SlG DatE V (fun c => W.heap.size ≤ c) (dsOf z) dv → SlG StrE V (fun _ => True) l (.slice a n c) → Calls Try.prog 11 #[dv, .slice a n c, .agg #[.int .i64 T.k, .int .i64 T.p, .string T.n, .int .i64 T.m, .slice ka kn kc, .slice aa an ac, .int .i64 tk, .string tn, .int .i64 ti, .int .i64 th, .slice ta tl tc]] V fun e w' => e = .returned (ftV (scE (dsOf z) 100000 l T)) ∧ W.grownBy w' (Value.ownBlock (.slice la j lc)) ∧ RowG StrE w' w.heap.size (fun _ => False) (.slice la j lc) L ∧ Below V.heap.size V w') := fun z l hl dv a n c V hV hR hd hs =>
          (scopeE_any (dsOf z) (dsOf_sized z) 100000 T _ HGe2.out.1 HGe2.out.2.1 l (by omega) dv _ _ _ _ _ V hd hs (HOld.out V hV)).mono fun e w' ⟨h1, h2⟩ => ⟨h1, grown_trans hV (grown_of_below h2 _), hR.lift h2, h2⟩
        have HRx : Hid (∀ (z : Int) (l : List ByteArray), l.length ≤ 100 → ∀ (dv : Value) (a : Option Addr) (n c : Nat) (V : World), W.grownBy V (Value.ownBlock (.slice la j lc)) → RowG StrE V w.heap.size (fun _ => False) (.slice la j lc) L → SlG DatE V (fun c => W.heap.size ≤ c) (dsOf z) dv → SlG StrE V (fun _ => True) l (.slice a n c) → Calls Try.prog 12 #[dv, .slice a n c, .agg #[.int .i64 T.k, .int .i64 T.p, .string T.n, .int .i64 T.m, .slice ka kn kc, .slice aa an ac, .int .i64 tk, .string tn, .int .i64 ti, .int .i64 th, .slice ta tl tc]] V fun e w' => e = .returned (ftV (scE (dsOf z) 100000 l T)) ∧ W.grownBy w' (Value.ownBlock (.slice la j lc)) ∧ RowG StrE w' w.heap.size (fun _ => False) (.slice la j lc) L ∧ Below V.heap.size V w') := fun z l hl dv a n c V hV hR hd hs =>
          (refXpr_any (dsOf z) 100000 T _ HGe2.out.1 l (by omega) dv _ _ _ _ _ V hd hs (HOld.out V hV)).mono fun e w' ⟨h1, h2⟩ => ⟨h1, grown_trans hV (grown_of_below h2 _), hR.lift h2, h2⟩
        obtain ⟨⟨r1, q1⟩, hp1⟩ : ∃ p : Int × Int, p = scE (dsOf other) 100000 L T := ⟨_, rfl⟩
        obtain ⟨⟨r2, q2⟩, hp2⟩ : ∃ p : Int × Int, p = scE (dsOf bits) 100000 (L ++ eight) T := ⟨_, rfl⟩
        have hl8 : (L ++ eight).length ≤ 100 := by rw [List.length_append]; show L.length + 8 ≤ 100; omega
        have HEa : Hid (∀ (dv : Value) (V : World), W.grownBy V (Value.ownBlock (.slice la j lc)) → RowG StrE V w.heap.size (fun _ => False) (.slice la j lc) L → SlG DatE V (fun c => W.heap.size ≤ c) (dsOf other) dv → Calls Try.prog 11 #[dv, .slice la j lc, .agg #[.int .i64 T.k, .int .i64 T.p, .string T.n, .int .i64 T.m, .slice ka kn kc, .slice aa an ac, .int .i64 tk, .string tn, .int .i64 ti, .int .i64 th, .slice ta tl tc]] V fun e w' => e = .returned (.agg #[.int .i64 r1, .int .i64 q1]) ∧ W.grownBy w' (Value.ownBlock (.slice la j lc)) ∧ RowG StrE w' w.heap.size (fun _ => False) (.slice la j lc) L ∧ Below V.heap.size V w') := fun dv V hV hR hd => by
          have := HEx.out other L (by omega) dv la j lc V hV hR hd (hR.slG (fun _ _ => trivial) (fun _ _ => trivial))
          rw [← hp1] at this
          exact this
        have HRa : Hid (∀ (dv : Value) (V : World), W.grownBy V (Value.ownBlock (.slice la j lc)) → RowG StrE V w.heap.size (fun _ => False) (.slice la j lc) L → SlG DatE V (fun c => W.heap.size ≤ c) (dsOf other) dv → Calls Try.prog 12 #[dv, .slice la j lc, .agg #[.int .i64 T.k, .int .i64 T.p, .string T.n, .int .i64 T.m, .slice ka kn kc, .slice aa an ac, .int .i64 tk, .string tn, .int .i64 ti, .int .i64 th, .slice ta tl tc]] V fun e w' => e = .returned (.agg #[.int .i64 r1, .int .i64 q1]) ∧ W.grownBy w' (Value.ownBlock (.slice la j lc)) ∧ RowG StrE w' w.heap.size (fun _ => False) (.slice la j lc) L ∧ Below V.heap.size V w') := fun dv V hV hR hd => by
          have := HRx.out other L (by omega) dv la j lc V hV hR hd (hR.slG (fun _ _ => trivial) (fun _ _ => trivial))
          rw [← hp1] at this
          exact this
        have HEc : Hid (∀ (dv : Value) (a : Option Addr) (n c : Nat) (V : World), W.grownBy V (Value.ownBlock (.slice la j lc)) → RowG StrE V w.heap.size (fun _ => False) (.slice la j lc) L → SlG DatE V (fun c => W.heap.size ≤ c) (dsOf bits) dv → SlG StrE V (fun _ => True) (L ++ eight) (.slice a n c) → Calls Try.prog 11 #[dv, .slice a n c, .agg #[.int .i64 T.k, .int .i64 T.p, .string T.n, .int .i64 T.m, .slice ka kn kc, .slice aa an ac, .int .i64 tk, .string tn, .int .i64 ti, .int .i64 th, .slice ta tl tc]] V fun e w' => e = .returned (.agg #[.int .i64 r2, .int .i64 q2]) ∧ W.grownBy w' (Value.ownBlock (.slice la j lc)) ∧ RowG StrE w' w.heap.size (fun _ => False) (.slice la j lc) L ∧ Below V.heap.size V w') := fun dv a n c V hV hR hd hs => by
          have := HEx.out bits (L ++ eight) hl8 dv a n c V hV hR hd hs
          rw [← hp2] at this
          exact this
        have HRc : Hid (∀ (dv : Value) (a : Option Addr) (n c : Nat) (V : World), W.grownBy V (Value.ownBlock (.slice la j lc)) → RowG StrE V w.heap.size (fun _ => False) (.slice la j lc) L → SlG DatE V (fun c => W.heap.size ≤ c) (dsOf bits) dv → SlG StrE V (fun _ => True) (L ++ eight) (.slice a n c) → Calls Try.prog 12 #[dv, .slice a n c, .agg #[.int .i64 T.k, .int .i64 T.p, .string T.n, .int .i64 T.m, .slice ka kn kc, .slice aa an ac, .int .i64 tk, .string tn, .int .i64 ti, .int .i64 th, .slice ta tl tc]] V fun e w' => e = .returned (.agg #[.int .i64 r2, .int .i64 q2]) ∧ W.grownBy w' (Value.ownBlock (.slice la j lc)) ∧ RowG StrE w' w.heap.size (fun _ => False) (.slice la j lc) L ∧ Below V.heap.size V w') := fun dv a n c V hV hR hd hs => by
          have := HRx.out bits (L ++ eight) hl8 dv a n c V hV hR hd hs
          rw [← hp2] at this
          exact this
        have HWw : Hid (w.heap.size ≤ W.heap.size) := HLow.out.size
        have HOw : Hid (∀ k, (Value.ownBlock (.slice la j lc)) = some k → k < W.heap.size) := fun k e => (HRow.out.lt k e).2
        have HLe : Hid (L.length + eight.length ≤ 1000000) := by show L.length + 8 ≤ _; omega
        have HOs : Hid (∀ g, W.heap.size ≤ g → some g ≠ (Value.ownBlock (.slice la j lc))) := fun g hb e => by have := HOw.out g e.symm; omega
        have tok1 : True := trivial
        have tok2 : True := trivial
        obtain ⟨b0, b1, b2, b3, b4, b5, b6, b7, b8, b9, b10⟩ := bx11 (HBox.out W (World.grownBy.refl _ _))
        clear hp1 hp2 hl8 hlj HLj HEx HRx HOld HBox hS0 HX8 HR8 HZ8 HBx HGe2 HBb HOb
        go_region_held3 (fun v => v.cell? ⟨B, 0, none⟩ = some (.int .i64 T.k) ∧ v.cell? ⟨B, 1, none⟩ = some (.int .i64 T.p) ∧ v.cell? ⟨B, 2, none⟩ = some (.string T.n) ∧ v.cell? ⟨B, 3, none⟩ = some (.int .i64 T.m) ∧ v.cell? ⟨B, 4, none⟩ = some (.slice ka kn kc) ∧ v.cell? ⟨B, 5, none⟩ = some (.slice aa an ac) ∧ v.cell? ⟨B, 6, none⟩ = some (.int .i64 tk) ∧ v.cell? ⟨B, 7, none⟩ = some (.string tn) ∧ v.cell? ⟨B, 8, none⟩ = some (.int .i64 ti) ∧ v.cell? ⟨B, 9, none⟩ = some (.int .i64 th) ∧ v.cell? ⟨B, 10, none⟩ = some (.slice ta tl tc) ∧ W.grownBy v (Value.ownBlock (.slice la j lc)) ∧ RowG StrE v w.heap.size (fun _ => False) (.slice la j lc) L)
          (first
            | exact HS0.out _ (grown_of_below (Below.refl _ _).drew _) (HRow.out.lift (Below.refl _ _).drew)
            | with_reducible exact HS0.out _ HG.out HR.out
            | with_reducible exact HS0.out _ (grown_trans HG.out (World.grownBy_alloc _ _ _)) (RowG.lift HR.out ((Below.refl _ _).alloc (Nat.le_refl _) _))
            | with_reducible exact HS0.out _ (grown_trans (grown_trans HG.out (World.grownBy_alloc _ _ _)) (World.grownBy_alloc _ _ _)) (RowG.lift (RowG.lift HR.out ((Below.refl _ _).alloc (Nat.le_refl _) _)) ((Below.refl _ _).alloc (Nat.le_refl _) _)))
          (first
            | (go_at_call 10; (with_reducible refine (HDb.out other _ ?_ ?_).mono ?_); (go_split_ands; assumption); (go_split_ands; assumption); rintro e w' ⟨dv1, rfl, hd, hg, hr, hb⟩; have HDv := Lib.hid hd; have HG := Lib.hid hg; have HR := Lib.hid hr; clear hd hg hr)
            | (go_at_call 11; (with_reducible refine (HEa.out _ _ ?_ ?_ ?_).mono ?_); (go_split_ands; assumption); (go_split_ands; assumption); (exact HDv.out); rintro e w' ⟨rfl, hg, hr, hb⟩; have HG := Lib.hid hg; have HR := Lib.hid hr; have Z0 := Lib.hid hg.size; clear hg hr hb)
            | (go_at_call 12; (with_reducible refine (HRa.out _ _ ?_ ?_ ?_).mono ?_); (go_split_ands; assumption); (go_split_ands; assumption); (exact HDv.out); rintro e w' ⟨rfl, hg, hr, hb⟩; have HG := Lib.hid hg; have HR := Lib.hid hr; have Z0 := Lib.hid hg.size; clear hg hr hb)
            | ((have _t := tok1); go_at_call 10; (with_reducible refine (HDb.out bits _ ?_ ?_).mono ?_); (go_split_ands; assumption); (go_split_ands; assumption); rintro e w' ⟨dv2, rfl, hd, hg, hr, hb⟩; clear tok1; have HDv := Lib.hid hd; have HG := Lib.hid hg; have HR := Lib.hid hr; have B1 := Lib.hid hb; have Z1 := Lib.hid hg.size; clear hd hg hr)
            | (go_at_call 10; (with_reducible refine (HDb.out bits _ ?_ ?_).mono ?_); (go_split_ands; assumption); (go_split_ands; assumption); rintro e w' ⟨dv3, rfl, hd, hg, hr, hb⟩; have HDv := Lib.hid hd; have HG := Lib.hid hg; have HR := Lib.hid hr; have B4 := Lib.hid hb; have Z4 := Lib.hid hg.size; clear hd hg hr)
            | (go_at_call 11; (with_reducible refine (HEc.out _ _ _ _ _ ?_ ?_ ?_ ?_).mono ?_); (go_split_ands; assumption); (go_split_ands; assumption); (first | exact HDv.out | exact slG_al HDv.out _ | exact slG_al (slG_al HDv.out _) _); (first | exact HNw.out | exact slG_al HNw.out _ | exact slG_al (slG_al HNw.out _) _); rintro e w' ⟨rfl, hg, hr, hb⟩; have HG := Lib.hid hg; have HR := Lib.hid hr; have B3 := Lib.hid hb; have Z3 := Lib.hid hg.size; clear hg hr)
            | (go_at_call 12; (with_reducible refine (HRc.out _ _ _ _ _ ?_ ?_ ?_ ?_).mono ?_); (go_split_ands; assumption); (go_split_ands; assumption); (first | exact HDv.out | exact slG_al HDv.out _ | exact slG_al (slG_al HDv.out _) _); (first | exact HNw.out | exact slG_al HNw.out _ | exact slG_al (slG_al HNw.out _) _); rintro e w' ⟨rfl, hg, hr, hb⟩; have HG := Lib.hid hg; have HR := Lib.hid hr; have B3 := Lib.hid hb; have Z5 := Lib.hid hg.size; clear hg hr)
            | ((have _t := tok2); (refine step_pushK ?_ _ _ (by rfl) w.heap.size (.slice la j lc) L rfl ?_ _ rfl eight (by decide) (fun g => W.heap.size ≤ g) ?_ HLe.out ?_ ?_); (first | rfl | kernel_rfl | simp [Region.wanted, yielded]); (first | exact HR.out | exact RowG.lift HR.out ((Below.refl _ _).alloc (Nat.le_refl _) _) | exact RowG.lift (RowG.lift HR.out ((Below.refl _ _).alloc (Nat.le_refl _) _)) ((Below.refl _ _).alloc (Nat.le_refl _) _)); (change Lit W _ _); (first | with_reducible exact (lit_mk Z1.out) | with_reducible exact (lit_al (lit_mk Z1.out) _) | with_reducible exact (lit_mk2 Z1.out) | with_reducible exact (lit_up (lit_mk Z0.out) B1.out) | with_reducible exact (lit_up (lit_al (lit_mk Z0.out) _) B1.out) | with_reducible exact (lit_up (lit_mk2 Z0.out) B1.out) | with_reducible exact (lit_al (lit_up (lit_mk Z0.out) B1.out) _)); (first | exact Nat.le_trans HWw.out HG.out.size | exact Nat.le_trans (Nat.le_trans HWw.out HG.out.size) (World.grownBy_alloc _ _ none).size | exact Nat.le_trans (Nat.le_trans (Nat.le_trans HWw.out HG.out.size) (World.grownBy_alloc _ _ none).size) (World.grownBy_alloc _ _ none).size); (intro a5 n5 c5 w5 hn hrow hg hold); (have HDx := HDv); clear HDv; (have HDv : Hid (SlG DatE w5 (fun c => W.heap.size ≤ c) (dsOf bits) dv2) := (by first | exact HDx.out.kept (fun _ h => h) (fun g hb hl => hg.block g hl (HOs.out g hb)) | exact (slG_al HDx.out _).kept (fun _ h => h) (fun g hb hl => hg.block g hl (HOs.out g hb)) | exact (slG_al (slG_al HDx.out _) _).kept (fun _ h => h) (fun g hb hl => hg.block g hl (HOs.out g hb)))); (have HNw := Lib.hid (hrow.slG (S' := fun _ => True) (fun _ _ => trivial) (fun _ _ => trivial))); (have hgn := (by first | exact grown_trans HG.out hg | exact grown_trans (grown_trans HG.out (World.grownBy_alloc _ _ _)) hg | exact grown_trans (grown_trans (grown_trans HG.out (World.grownBy_alloc _ _ _)) (World.grownBy_alloc _ _ _)) hg : W.grownBy w5 (Value.ownBlock (.slice la j lc)))); (have HGn := Lib.hid hgn); clear hgn; (have HR := Lib.hid hold); (have G2 := Lib.hid hg); (have HG := HGn); (have Z2 := Lib.hid HGn.out.size); clear tok2 HGn; clear HDx hn hrow hold)
            | ((refine step_pushK ?_ _ _ (by rfl) w.heap.size (.slice la j lc) L rfl ?_ _ rfl eight (by decide) (fun g => W.heap.size ≤ g) ?_ HLe.out ?_ ?_); (first | rfl | kernel_rfl | simp [Region.wanted, yielded]); (first | exact HR.out | exact RowG.lift HR.out ((Below.refl _ _).alloc (Nat.le_refl _) _) | exact RowG.lift (RowG.lift HR.out ((Below.refl _ _).alloc (Nat.le_refl _) _)) ((Below.refl _ _).alloc (Nat.le_refl _) _)); (change Lit W _ _); (first | with_reducible exact (lit_mk Z4.out) | with_reducible exact (lit_up (lit_mk Z3.out) B4.out) | with_reducible exact (lit_up (lit_up (lit_mk Z2.out) B3.out) B4.out) | with_reducible exact (lit_up (lit_up (lit_gr (lit_mk Z1.out) HOw.out G2.out) B3.out) B4.out) | with_reducible exact (lit_up (lit_up (lit_gr (lit_al (lit_mk Z1.out) _) HOw.out G2.out) B3.out) B4.out) | with_reducible exact (lit_up (lit_up (lit_gr (lit_mk2 Z1.out) HOw.out G2.out) B3.out) B4.out) | with_reducible exact (lit_up (lit_up (lit_gr (lit_up (lit_mk Z0.out) B1.out) HOw.out G2.out) B3.out) B4.out) | with_reducible exact (lit_up (lit_up (lit_gr (lit_up (lit_al (lit_mk Z0.out) _) B1.out) HOw.out G2.out) B3.out) B4.out) | with_reducible exact (lit_up (lit_up (lit_gr (lit_up (lit_mk2 Z0.out) B1.out) HOw.out G2.out) B3.out) B4.out) | with_reducible exact (lit_up (lit_up (lit_gr (lit_al (lit_up (lit_mk Z0.out) B1.out) _) HOw.out G2.out) B3.out) B4.out)); (first | exact Nat.le_trans HWw.out HG.out.size | exact Nat.le_trans (Nat.le_trans HWw.out HG.out.size) (World.grownBy_alloc _ _ none).size | exact Nat.le_trans (Nat.le_trans (Nat.le_trans HWw.out HG.out.size) (World.grownBy_alloc _ _ none).size) (World.grownBy_alloc _ _ none).size); (intro a6 n6 c6 w6 hn hrow hg hold); (have HDx := HDv); clear HDv; (have HDv : Hid (SlG DatE w6 (fun c => W.heap.size ≤ c) (dsOf bits) dv3) := (by first | exact HDx.out.kept (fun _ h => h) (fun g hb hl => hg.block g hl (HOs.out g hb)) | exact (slG_al HDx.out _).kept (fun _ h => h) (fun g hb hl => hg.block g hl (HOs.out g hb)) | exact (slG_al (slG_al HDx.out _) _).kept (fun _ h => h) (fun g hb hl => hg.block g hl (HOs.out g hb)))); (have HNw := Lib.hid (hrow.slG (S' := fun _ => True) (fun _ _ => trivial) (fun _ _ => trivial))); (have hgn := (by first | exact grown_trans HG.out hg | exact grown_trans (grown_trans HG.out (World.grownBy_alloc _ _ _)) hg | exact grown_trans (grown_trans (grown_trans HG.out (World.grownBy_alloc _ _ _)) (World.grownBy_alloc _ _ _)) hg : W.grownBy w6 (Value.ownBlock (.slice la j lc)))); (have HGn := Lib.hid hgn); clear hgn; (have HR := Lib.hid hold); (have HG := HGn); clear HGn; clear HDx hn hrow hold))
        all_goals
          go_wp2
          go_ret
          exact ⟨rfl, Below.grown HLow.out HG.out HLow.out.size (fun k e => (HRow.out.lt k e).1)⟩
end Go.Proofs.Ytljgpgmaceackaa
