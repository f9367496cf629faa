/- The contract of the law's made, and of the maker's Type for the ways that the laws call it. -/
import Derived.Test.YtodbmgmjnenlpaaTyMk
namespace Go.Proofs.Ytodbmgmjnenlpaa
open Go.RowKit Go.Sort Go.Shelf Go.Maps Mth

def leavesL : List Ty := (List.range 4).map varTy ++ leafTs
def namedL : List Ty := [namTy 97, namTy 98, namTy 99]
theorem leaf_all (l : List Ty) (hn : l.length ≤ 1000) (h : l.all (fun T => valid T && T.ts.isEmpty) = true) : LeafL l := ⟨hn, fun T hT => by
  have := List.all_eq_true.1 h T hT
  simpa using this⟩
theorem leavesL_ok : LeafL leavesL := leaf_all _ (by decide) (by decide +kernel)
theorem bothL_ok : LeafL (leavesL ++ namedL) := leaf_all _ (by decide) (by decide +kernel)
theorem noneL_ok : LeafL [] := leaf_all _ (by decide) rfl
theorem slG_some {α : Type} {E : El α} {w : World} {S : Nat → Prop} {x : α} {xs : List α} {v : Value} (h : SlG E w S (x :: xs) v) : ∃ ad cap, v = .slice (some ad) (xs.length + 1) cap := by
  obtain ⟨a, cap, rfl, -, hj⟩ := h
  obtain ⟨ad, _, rfl, _⟩ := hj 0 x rfl
  exact ⟨ad, cap, rfl⟩
set_option maxRecDepth 100000 in
set_option maxHeartbeats 3200000 in
theorem made_any (bits : Int) (cv : Value) (zs : List Int) (w : World) (hz : zs.length ≤ 1000) (h : Ints w cv zs) :
    Calls Try.prog 11 #[.int .i64 bits, cv] w fun e w' => ∃ (b : Nat) (T : Ty) (u : Value), e = .returned (.tuple #[u, .pointer (some ⟨b, 0, none⟩)]) ∧ w.heap.size ≤ b ∧ Rep w' (fun c => b < c) T u ∧ Ok 4 T ∧ Tq w' b ∧ Below w.heap.size w w' := by
  obtain ⟨ca, cc, rfl, hc1, hc2, hc⟩ := h
  have HC := Lib.hid hc
  have HD := Lib.hid (fun w => datas_any bits w)
  have HLv := Lib.hid (fun w => mkLeaves_any w)
  have HNm := Lib.hid (fun w => mkNamed_any w)
  have HMk := Lib.hid (mkType_any 4)
  have hb0 : Below w.heap.size w ((w.alloc (.cells #[.int .i64 0, .string ⟨#[]⟩, .int .i64 0, .int .i64 0, .slice none 0 0] 24)).alloc (.cells #[.slice ca zs.length cc, .int .i64 0] 60)) := ((Below.refl _ w).alloc (Nat.le_refl _) _).alloc (by simp) _
  have HZ0 : Hid (Zero ((w.alloc (.cells #[.int .i64 0, .string ⟨#[]⟩, .int .i64 0, .int .i64 0, .slice none 0 0] 24)).alloc (.cells #[.slice ca zs.length cc, .int .i64 0] 60)) w.heap.size) := by
    show Box _ _ _ _ _ _ _
    unfold Box; rw [heap_at, if_neg (by simp), heap_at, if_pos rfl]
  have HT0 : Hid (Tq ((w.alloc (.cells #[.int .i64 0, .string ⟨#[]⟩, .int .i64 0, .int .i64 0, .slice none 0 0] 24)).alloc (.cells #[.slice ca zs.length cc, .int .i64 0] 60)) (w.heap.size + 1)) := by
    refine ⟨zs, ca, cc, 0, ?_, Nat.zero_le _, hz, fun j x hx => ?_⟩
    · unfold TapeAt; rw [heap_at, if_pos (by simp)]; rfl
    · obtain ⟨ad, rfl, hcell⟩ := HC.out j x hx
      have hl := World.block_lt_of_cell? _ _ hcell
      refine ⟨ad, rfl, by rw [add_block] at hl; omega, ?_⟩
      rw [hb0.cell hl]; exact hcell
  have hsz0 : ((w.alloc (.cells #[.int .i64 0, .string ⟨#[]⟩, .int .i64 0, .int .i64 0, .slice none 0 0] 24)).alloc (.cells #[.slice ca zs.length cc, .int .i64 0] 60)).heap.size = w.heap.size + 2 := by simp
  have HSz0 := Lib.hid hsz0
  clear hc HC hsz0
  generalize zs.length = zn at *
  go_enter Try.func11, Try.ntmps11
  go_wp2_with fail
  go_at_call 18
  generalize ((w.alloc (.cells #[.int .i64 0, .string ⟨#[]⟩, .int .i64 0, .int .i64 0, .slice none 0 0] 24)).alloc (.cells #[.slice ca zn cc, .int .i64 0] 60)) = w0 at *
  refine (HD.out _).mono ?_
  rintro e w1 ⟨ds, dv, rfl, hds, hsd, hb1⟩
  obtain ⟨da, dc, rfl⟩ := slG_form hsd
  have HDS := Lib.hid hds
  have HSD := Lib.hid hsd
  clear hds hsd
  generalize ds.length = dn at *
  go_wp2_with fail
  go_at_call 14
  refine (HLv.out _).mono ?_
  rintro e w2 ⟨v, rfl, hrow, hb2⟩
  have HRow := Lib.hid hrow
  have hrlt := Lib.hid (fun k e => RowG.lt hrow k e)
  clear hrow
  go_wp2_with fail
  go_at_call 42
  refine (HNm.out _).mono ?_
  rintro e w3 ⟨nv, rfl, hsl, hb3⟩
  obtain ⟨na, nc, rfl⟩ := slG_some hsl
  have HNews := Lib.hid (slG_repL (SlG.kept (S' := fun c => w1.heap.size ≤ c ∧ some c ≠ v.ownBlock) (fun c hc => ⟨Nat.le_trans hb2.size hc, fun e => by have := (hrlt.out c e.symm).2; omega⟩) (fun _ _ _ => rfl) hsl))
  have HRow3 := Lib.hid (HRow.out.lift hb3)
  have h01 := hb1.size
  have h12 := hb2.size
  have h23 := hb3.size
  have HB13 := Lib.hid (hb2.trans (hb3.mono h12))
  clear hsl hb2 hb3 HRow
  go_wp2_with (at_builtin; refine wpList_pushT rfl _ _ rfl w1.heap.size (fun c => w1.heap.size ≤ c) v leavesL rfl (rowT_of HRow3.out) na 3 nc rfl namedL rfl (repL_at HNews.out) 11 rfl (by decide) HB13.out.size ?_; intro a3 c3 w4 hrow4 hg4 _; have HRow4 := Lib.hid hrow4; have HG4 := Lib.hid hg4; clear hrow4 hg4)
  go_at_call 13
  have hb14 : Below w1.heap.size w1 w4 := Below.grown HB13.out HG4.out HB13.out.size (fun k hk => (hrlt.out k hk).1)
  have hb04 : Below w0.heap.size w0 w4 := hb1.trans (hb14.mono h01)
  have h14 := hb14.size
  have hs0 : w0.heap.size = w.heap.size + 2 := HSz0.out
  have hd4 : SlG DatE w4 (fun c => w.heap.size + 2 ≤ c) ds (.slice da dn dc) := SlG.kept (fun c hc => by omega) (fun c _ hlt => hb14.block c hlt) HSD.out
  have hl4 : SlG TyE w4 (fun c => w.heap.size + 2 ≤ c) (leavesL ++ namedL) (.slice a3 11 c3) := (rowG_of HRow4.out).slG (fun c hc => by omega) (fun c hc => by omega)
  refine (HMk.out 4 ds _ (leavesL ++ namedL) _ (fun c => w.heap.size + 2 ≤ c) (w.heap.size + 1) w4.heap.size w4 rfl (Nat.le_refl _) HDS.out bothL_ok hd4 hl4 (fun c hc => by omega) (HT0.out.lift hb04) (Nat.le_refl _)).mono ?_
  rintro e w5 ⟨u, rfl, T, hrep, hok, htq, hg5⟩
  have HZ5 := Lib.hid (Box.grown (Box.lift HZ0.out hb04) hg5 (by intro e; have := Option.some.inj e; omega))
  have HB5 := Lib.hid (Below.grown (hb0.trans (hb04.mono hb0.size)) hg5 (by have := hb0.size; omega) (fun k hk => by cases hk; omega))
  have HTq := Lib.hid htq
  have HOk := Lib.hid hok
  have HRep := Lib.hid (Rep.imp (S' := fun c => w.heap.size + 1 < c) (fun c hc => by omega) hrep)
  obtain ⟨uk, un, ui, uh, ua, um, uc, rfl⟩ := hrep.form
  clear hrep hok htq hg5 hd4 hl4 hb14 hb04 HRow4 HG4 HB13 HRow3 HNews HSD HDS hb0 hb1 HZ0 HT0 HSz0 hs0 h01 h12 h23 h14 hrlt HD HLv HNm HMk
  go_wp2_with (refine wpList_store5 rfl _ _ rfl _ _ _ _ _ _ HZ5.out rfl _ _ _ _ _ _ _ rfl ?_; intro w6 hB6 hg6 hs6)
  obtain ⟨c0, c1, c2, c3, c4⟩ := hB6.cells
  refine bodyPost_ret (v := .tuple #[.agg #[.int .i64 uk, .string un, .int .i64 ui, .int .i64 uh, .slice ua um uc], .pointer (some ⟨w.heap.size + 1, 0, none⟩)]) (by simp [results, Try.results11, go_sem, c0, c1, c2, c3, c4]; try rfl) rfl ?_
  refine ⟨w.heap.size + 1, T, _, rfl, by omega, HRep.out.kept (fun c hc => hc) (fun c hc hlt => hg6.block c hlt (by intro e; have := Option.some.inj e; omega)), HOk.out, ?_, Below.grown HB5.out hg6 HB5.out.size (fun k hk => by cases hk; exact Nat.le_refl _)⟩
  exact HTq.out.under rfl hg6
end Go.Proofs.Ytodbmgmjnenlpaa
