/- The contract of the reader's Atom in any state, out of the one of its Type. -/
import Derived.Test.YthphnacfidofbaaGreatDoorTyXMb
import Derived.Test.YthphnacfidofbaaGreatDoorTyGeMa
namespace Go.Proofs.YthphnacfidofbaaGreatDoor
open Go.RowKit Go.Maps Mth

mutual
def xAtom : Nat → List Tok → St → Option (Ty × St)
  | 0, _, _ => none
  | f + 1, ts, s =>
    if xK ts s 1 then some (.mk 5 (txt ts s.i) 0 0 [], xStep s)
    else if xK ts s 2 then some (.mk 4 (txt ts s.i) 0 0 [], xStep s)
    else if (xNeed ts s ⟨#[40]⟩).bad then some (.mk 0 ⟨#[]⟩ 0 0 [], xNeed ts s ⟨#[40]⟩)
    else
      match xType f ts (xNeed ts s ⟨#[40]⟩) with
      | some (t, s2) => some (t, xNeed ts s2 ⟨#[41]⟩)
      | none => none
def xType : Nat → List Tok → St → Option (Ty × St)
  | 0, _, _ => none
  | f + 1, ts, s =>
    if xK ts s 2 then
      match xArgs f ts (xStep s) [] with
      | some (l, s') => xArrow f ts s' (.mk 4 (txt ts s.i) 0 0 l)
      | none => none
    else
      match xAtom f ts s with
      | some (t, s') => xArrow f ts s' t
      | none => none
def xArrow : Nat → List Tok → St → Ty → Option (Ty × St)
  | 0, _, _, _ => none
  | f + 1, ts, s, a =>
    if xI ts s ⟨#[45, 62]⟩ then
      match xType f ts (xSkip ts s ⟨#[45, 62]⟩) with
      | some (t, s') => some (con arrN [a, t], s')
      | none => none
    else some (a, s)
def xArgs : Nat → List Tok → St → List Ty → Option (List Ty × St)
  | 0, _, _, _ => none
  | f + 1, ts, s, acc =>
    if xK ts s 1 || xK ts s 2 || xI ts s ⟨#[40]⟩ then
      match xAtom f ts s with
      | some (t, s') => xArgs f ts s' (acc ++ [t])
      | none => none
    else some (acc, s)
end
/-- What the contract of a reading of a type says. -/
def XAt (fid : Nat) (ts : List Tok) (s : St) (r : Option (Ty × St)) : Prop :=
  ∀ (T : Ty) (s' : St), r = some (T, s') → ∀ (b base : Nat) (w : World), b < base → base ≤ w.heap.size → RdX w b ts s →
    Calls Tryz.prog fid #[.pointer (some ⟨b, 0, none⟩)] w fun e w' => ∃ u, e = .returned u ∧ Rep w' (fun c => base ≤ c) T u ∧ RdX w' b ts s' ∧ w.grownBy w' (some b)

theorem Box.grown {w w' : World} {B : Nat} {c0 c1 c2 c3 c4 : Value} {row : Option Nat} (h : Box w B c0 c1 c2 c3 c4) (hg : w.grownBy w' row) (hne : some B ≠ row) : Box w' B c0 c1 c2 c3 c4 := h.kept (hg.block _ h.lt hne)

set_option maxHeartbeats 3200000 in
theorem xAtom_of (ts : List Tok) (hok : TkOk ts) (s : St) (f : Nat) (H : XAt 96 ts (xNeed ts s ⟨#[40]⟩) (xType f ts (xNeed ts s ⟨#[40]⟩))) : XAt 127 ts s (xAtom (f + 1) ts s) := by
  intro T j hr b base w hbb hbase h
  have HR := Lib.hid h
  have hblt := h.lt
  have hb0 : ∀ X, Below w.heap.size w (w.alloc (.cells X 30)) := fun X => (Below.refl _ w).alloc (Nat.le_refl _) _
  have HZ : Hid (Zero (w.alloc (.cells #[.int .i64 0, .string ⟨#[]⟩, .int .i64 0, .int .i64 0, .slice none 0 0] 30)) w.heap.size) := Box.made _ _ _ _ _ _
  have HRA := Lib.hid (fun X => h.lift (hb0 X))
  have HK1 : Hid (∀ w, RdX w b ts s → Calls Tryz.prog 94 #[.pointer (some ⟨b, 0, none⟩), .int .i64 1] w fun e w' => e = .returned (.bool (xK ts s 1)) ∧ Below w.heap.size w w') := fun w h => rdKind_any 1 b ts s w h
  have HK2 : Hid (∀ w, RdX w b ts s → Calls Tryz.prog 94 #[.pointer (some ⟨b, 0, none⟩), .int .i64 2] w fun e w' => e = .returned (.bool (xK ts s 2)) ∧ Below w.heap.size w w') := fun w h => rdKind_any 2 b ts s w h
  have HS := Lib.hid (txt_size hok s.i)
  clear h
  unfold xAtom at hr
  cases h1 : xK ts s 1 with
  | true =>
    rw [h1] at hr HK1
    simp only [if_true, Option.some.injEq, Prod.mk.injEq] at hr
    obtain ⟨rfl, rfl⟩ := hr
    have HW : Hid (∀ w, RdX w b ts s → Calls Tryz.prog 84 #[.pointer (some ⟨b, 0, none⟩), .int .i64 1] w (XEnd w b ts (xStep s) (.string (txt ts s.i)))) := fun w h => rdWord_yes 1 b ts s w h h1
    clear h1 HK2
    generalize txt ts s.i = tx at *
    go_enter Tryz.func127, Tryz.ntmps127
    go_wp2_with fail
    go_at_call 94
    refine (HK1.out _ (HRA.out _)).mono ?_
    rintro e w1 ⟨rfl, hb1⟩
    have HZ1 := Lib.hid (Box.lift HZ.out hb1)
    have HR1 := Lib.hid ((HRA.out _).lift hb1)
    have hg1 := (hb0 _).trans (hb1.mono (hb0 _).size)
    clear hb1
    go_wp2_with fail
    go_at_call 84
    refine (HW.out _ HR1.out).mono ?_
    rintro e w2 ⟨rfl, hr2, hg2⟩
    have HR2 := Lib.hid hr2
    have HZ2 := Lib.hid (Box.grown HZ1.out hg2 (by intro e; cases e; omega))
    clear hr2
    go_wp2_with fail
    go_at_call 35
    refine (refNamed_any _ _).mono ?_
    rintro e w3 ⟨rfl, hb3⟩
    have HR3 := Lib.hid (HR2.out.lift hb3)
    have HZ3 := Lib.hid (Box.lift HZ2.out hb3)
    have hg3 := grown_trans (grown_trans (grown_of_below hg1 (some b)) hg2) (grown_of_below hb3 (some b))
    unfold leafV
    go_wp2_with (refine wpList_store5 rfl _ _ rfl _ _ _ _ _ _ HZ3.out rfl _ _ _ _ _ _ _ rfl ?_; intro w4 hB4 hg4 hs4)
    obtain ⟨c0, c1, c2, c3, c4⟩ := hB4.cells
    refine bodyPost_ret (by simp [results, Tryz.results127, go_sem, c0, c1, c2, c3, c4]; try rfl) rfl ?_
    exact ⟨_, rfl, rep_leaf _ _ _ _ _ _ HS.out, HR3.out.other hblt hg4, grown_fresh hg3 hg4 fun k e => by cases e; exact Nat.le_refl _⟩
  | false =>
    rw [h1] at hr HK1
    simp only [Bool.false_eq_true, if_false] at hr
    cases h2 : xK ts s 2 with
    | true =>
      rw [h2] at hr HK2
      simp only [if_true, Option.some.injEq, Prod.mk.injEq] at hr
      obtain ⟨rfl, rfl⟩ := hr
      have HW : Hid (∀ w, RdX w b ts s → Calls Tryz.prog 84 #[.pointer (some ⟨b, 0, none⟩), .int .i64 2] w (XEnd w b ts (xStep s) (.string (txt ts s.i)))) := fun w h => rdWord_yes 2 b ts s w h h2
      clear h1 h2
      generalize txt ts s.i = tx at *
      go_enter Tryz.func127, Tryz.ntmps127
      go_wp2_with fail
      go_at_call 94
      refine (HK1.out _ (HRA.out _)).mono ?_
      rintro e w0 ⟨rfl, hb0'⟩
      have HZ0 := Lib.hid (Box.lift HZ.out hb0')
      have HR0 := Lib.hid ((HRA.out _).lift hb0')
      have hg0 := (hb0 _).trans (hb0'.mono (hb0 _).size)
      clear hb0'
      go_wp2_with fail
      go_at_call 94
      refine (HK2.out _ HR0.out).mono ?_
      rintro e w1 ⟨rfl, hb1⟩
      have HZ1 := Lib.hid (Box.lift HZ0.out hb1)
      have HR1 := Lib.hid (HR0.out.lift hb1)
      have hg1 := hg0.trans (hb1.mono hg0.size)
      clear hb1
      go_wp2_with fail
      go_at_call 84
      refine (HW.out _ HR1.out).mono ?_
      rintro e w2 ⟨rfl, hr2, hg2⟩
      have HR2 := Lib.hid hr2
      have HZ2 := Lib.hid (Box.grown HZ1.out hg2 (by intro e; cases e; omega))
      clear hr2
      go_wp2_with fail
      go_at_call 34
      refine (refCon_nil _ _).mono ?_
      rintro e w3 ⟨rfl, hb3⟩
      have HR3 := Lib.hid (HR2.out.lift hb3)
      have HZ3 := Lib.hid (Box.lift HZ2.out hb3)
      have hg3 := grown_trans (grown_trans (grown_of_below hg1 (some b)) hg2) (grown_of_below hb3 (some b))
      unfold leafV
      go_wp2_with (refine wpList_store5 rfl _ _ rfl _ _ _ _ _ _ HZ3.out rfl _ _ _ _ _ _ _ rfl ?_; intro w4 hB4 hg4 hs4)
      obtain ⟨c0, c1, c2, c3, c4⟩ := hB4.cells
      refine bodyPost_ret (by simp [results, Tryz.results127, go_sem, c0, c1, c2, c3, c4]; try rfl) rfl ?_
      exact ⟨_, rfl, rep_leaf _ _ _ _ _ _ HS.out, HR3.out.other hblt hg4, grown_fresh hg3 hg4 fun k e => by cases e; exact Nat.le_refl _⟩
    | false =>
      rw [h2] at hr HK2
      simp only [Bool.false_eq_true, if_false] at hr
      have HN1 : Hid (∀ w, RdX w b ts s → Calls Tryz.prog 85 #[.pointer (some ⟨b, 0, none⟩), .string ⟨#[40]⟩] w (XEnd w b ts (xNeed ts s ⟨#[40]⟩) (.tuple #[]))) := fun w h => rdNeed_any _ b ts s w h
      generalize xNeed ts s ⟨#[40]⟩ = s1 at *
      obtain ⟨i1, q1, p1⟩ := s1
      dsimp only at hr
      cases q1 with
      | true =>
        simp only [if_true, Option.some.injEq, Prod.mk.injEq] at hr
        obtain ⟨rfl, rfl⟩ := hr
        clear h1 h2 H
        go_enter Tryz.func127, Tryz.ntmps127
        go_wp2_with fail
        go_at_call 94
        refine (HK1.out _ (HRA.out _)).mono ?_
        rintro e w0 ⟨rfl, hb0'⟩
        have HZ0 := Lib.hid (Box.lift HZ.out hb0')
        have HR0 := Lib.hid ((HRA.out _).lift hb0')
        have hg0 := (hb0 _).trans (hb0'.mono (hb0 _).size)
        clear hb0'
        go_wp2_with fail
        go_at_call 94
        refine (HK2.out _ HR0.out).mono ?_
        rintro e w1 ⟨rfl, hb1⟩
        have HZ1 := Lib.hid (Box.lift HZ0.out hb1)
        have HR1 := Lib.hid (HR0.out.lift hb1)
        have hg1 := hg0.trans (hb1.mono hg0.size)
        clear hb1
        go_wp2_with fail
        go_at_call 85
        refine (HN1.out _ HR1.out).mono ?_
        rintro e w2 ⟨rfl, hr2, hg2⟩
        have HR2 := Lib.hid hr2
        have HZ2 := Lib.hid (Box.grown HZ1.out hg2 (by intro e; cases e; omega))
        have hg3 := grown_trans (grown_of_below hg1 (some b)) hg2
        obtain ⟨lv, hrd, -⟩ := hr2
        obtain ⟨r0, r1, r2, -⟩ := hrd.cells
        clear hrd
        go_wp2_with (refine wpList_store5 rfl _ _ rfl _ _ _ _ _ _ HZ2.out rfl _ _ _ _ _ _ _ rfl ?_; intro w4 hB4 hg4 hs4)
        obtain ⟨c0, c1, c2, c3, c4⟩ := hB4.cells
        refine bodyPost_ret (by simp [results, Tryz.results127, go_sem, c0, c1, c2, c3, c4]; try rfl) rfl ?_
        exact ⟨_, rfl, rep_leaf _ _ _ _ _ _ (Nat.zero_le _), HR2.out.other hblt hg4, grown_fresh hg3 hg4 fun k e => by cases e; exact Nat.le_refl _⟩
      | false =>
        simp only [Bool.false_eq_true, if_false] at hr
        cases h4 : xType f ts ⟨i1, false, p1⟩ with
        | none => rw [h4] at hr; simp at hr
        | some p =>
          obtain ⟨U, k⟩ := p
          rw [h4] at hr
          simp only [Option.some.injEq, Prod.mk.injEq] at hr
          obtain ⟨rfl, rfl⟩ := hr
          have HN2 : Hid (∀ w, RdX w b ts k → Calls Tryz.prog 85 #[.pointer (some ⟨b, 0, none⟩), .string ⟨#[41]⟩] w (XEnd w b ts (xNeed ts k ⟨#[41]⟩) (.tuple #[]))) := fun w h => rdNeed_any _ b ts k w h
          have HT := Lib.hid (H U k h4)
          clear h1 h2 h4 H
          go_enter Tryz.func127, Tryz.ntmps127
          go_wp2_with fail
          go_at_call 94
          refine (HK1.out _ (HRA.out _)).mono ?_
          rintro e w0 ⟨rfl, hb0'⟩
          have HZ0 := Lib.hid (Box.lift HZ.out hb0')
          have HR0 := Lib.hid ((HRA.out _).lift hb0')
          have hg0 := (hb0 _).trans (hb0'.mono (hb0 _).size)
          have hsz0 := hb0'.size
          simp at hsz0
          clear hb0'
          go_wp2_with fail
          go_at_call 94
          refine (HK2.out _ HR0.out).mono ?_
          rintro e w1 ⟨rfl, hb1⟩
          have HZ1 := Lib.hid (Box.lift HZ0.out hb1)
          have HR1 := Lib.hid (HR0.out.lift hb1)
          have hg1 := hg0.trans (hb1.mono hg0.size)
          have hsz1 := hb1.size
          clear hb1
          go_wp2_with fail
          go_at_call 85
          refine (HN1.out _ HR1.out).mono ?_
          rintro e w2 ⟨rfl, hr2, hg2⟩
          have HR2 := Lib.hid hr2
          have HZ2 := Lib.hid (Box.grown HZ1.out hg2 (by intro e; cases e; omega))
          have hsz2 := hg2.size
          obtain ⟨lv, hrd, -⟩ := hr2
          obtain ⟨r0, r1, r2, -⟩ := hrd.cells
          clear hrd
          go_wp2_with fail
          go_at_call 96
          refine (HT.out b (w.heap.size + 1) _ (by omega) (by omega) HR2.out).mono ?_
          rintro e w3 ⟨u, rfl, hrep, hr3, hg3⟩
          have HR3 := Lib.hid hr3
          have HZ3 := Lib.hid (Box.grown HZ2.out hg3 (by intro e; cases e; omega))
          have HRep := Lib.hid hrep
          have hsz3 := hg3.size
          obtain ⟨uk, un, ui, uh, us, -, rfl, -, hus⟩ := hrep.open
          obtain ⟨ua, uc, rfl, -⟩ := hus
          clear hr3 hrep r0 r1 r2
          generalize U.ts.length = un' at *
          go_wp2_with fail
          go_at_call 85
          have hb3 : Below w3.heap.size w3 (w3.alloc (.cells #[.int .i64 uk, .string un, .int .i64 ui, .int .i64 uh, .slice ua un' uc] 30)) := (Below.refl _ w3).alloc (Nat.le_refl _) _
          have HI3 : Hid (Box (w3.alloc (.cells #[.int .i64 uk, .string un, .int .i64 ui, .int .i64 uh, .slice ua un' uc] 30)) w3.heap.size (.int .i64 uk) (.string un) (.int .i64 ui) (.int .i64 uh) (.slice ua un' uc)) := Box.made _ _ _ _ _ _
          have HR3' := Lib.hid (HR3.out.lift hb3)
          have HZ3' := Lib.hid (Box.lift HZ3.out hb3)
          have hg3' := grown_of_below hb3 (some b)
          have hsz3' := hb3.size
          clear hb3
          generalize (w3.alloc (.cells #[.int .i64 uk, .string un, .int .i64 ui, .int .i64 uh, .slice ua un' uc] 30)) = w4 at *
          refine (HN2.out _ HR3'.out).mono ?_
          rintro e w5 ⟨rfl, hr5, hg5⟩
          have HR5 := Lib.hid hr5
          have HZ5 := Lib.hid (Box.grown HZ3'.out hg5 (by intro e; cases e; omega))
          have HI5 := Lib.hid (Box.grown HI3.out hg5 (by intro e; cases e; omega))
          have hg35 := grown_trans hg3' hg5
          have hgA := grown_trans (grown_trans (grown_of_below hg1 (some b)) hg2) (grown_trans hg3 hg35)
          obtain ⟨d0, d1, d2, d3, d4⟩ := HI5.out.cells
          clear hr5 HI3 HZ3' HR3' HZ3 HR3 HI5
          go_wp2_with (refine wpList_store5 rfl _ _ rfl _ _ _ _ _ _ HZ5.out rfl _ _ _ _ _ _ _ rfl ?_; intro w6 hB6 hg6 hs6)
          obtain ⟨c0, c1, c2, c3, c4⟩ := hB6.cells
          refine bodyPost_ret (by simp [results, Tryz.results127, go_sem, c0, c1, c2, c3, c4]; try rfl) rfl ?_
          refine ⟨_, rfl, ?_, HR5.out.other hblt hg6, grown_fresh hgA hg6 fun k e => by cases e; exact Nat.le_refl _⟩
          refine HRep.out.kept (fun b hb => Nat.le_trans hbase (Nat.le_trans (Nat.le_succ _) hb)) fun b' hb hlt => ?_
          have hb' : w.heap.size + 1 ≤ b' := hb
          rw [hg6.block _ (Nat.lt_of_lt_of_le hlt hg35.size) (by intro e; cases e; omega)]
          exact hg35.block _ hlt (by intro e; cases e; omega)
end Go.Proofs.YthphnacfidofbaaGreatDoor
