/- The contract of the reader's Atom, out of the one of its Type. -/
import Derived.Test.YtahiefgfhpkoeaaTyRead2
import Derived.Test.YtahiefgfhpkoeaaTyGen
import Derived.Test.YtahiefgfhpkoeaaTyVars
namespace Go.Proofs.Ytahiefgfhpkoeaa
open Go.RowKit Go.Sort Go.Shelf Go.Maps Mth

def txt (ts : List Tok) (i : Nat) : ByteArray := match ts[i]? with | some t => ⟨t.text.toArray⟩ | none => ⟨#[]⟩
mutual
def pAtom : Nat → List Tok → Nat → Option (Ty × Nat)
  | 0, _, _ => none
  | f + 1, ts, i =>
    if rKind ts i 1 then some (.mk 5 (txt ts i) 0 0 [], i + 1)
    else if rKind ts i 2 then some (.mk 4 (txt ts i) 0 0 [], i + 1)
    else if rIs ts i ⟨#[40]⟩ then
      match pType f ts (i + 1) with
      | some (t, j) => if rIs ts j ⟨#[41]⟩ then some (t, j + 1) else none
      | none => none
    else none
def pType : Nat → List Tok → Nat → Option (Ty × Nat)
  | 0, _, _ => none
  | f + 1, ts, i =>
    if rKind ts i 2 then
      match pArgs f ts (i + 1) [] with
      | some (l, j) => pArrow f ts j (.mk 4 (txt ts i) 0 0 l)
      | none => none
    else
      match pAtom f ts i with
      | some (t, j) => pArrow f ts j t
      | none => none
def pArrow : Nat → List Tok → Nat → Ty → Option (Ty × Nat)
  | 0, _, _, _ => none
  | f + 1, ts, i, a =>
    if rIs ts i ⟨#[45, 62]⟩ then
      match pType f ts (i + 1) with
      | some (t, j) => some (con arrN [a, t], j)
      | none => none
    else some (a, i)
def pArgs : Nat → List Tok → Nat → List Ty → Option (List Ty × Nat)
  | 0, _, _, _ => none
  | f + 1, ts, i, acc =>
    if rKind ts i 1 || rKind ts i 2 || rIs ts i ⟨#[40]⟩ then
      match pAtom f ts i with
      | some (t, j) => pArgs f ts j (acc ++ [t])
      | none => none
    else some (acc, i)
end
/-- All texts are short. -/
def TkOk (ts : List Tok) : Prop := ∀ t ∈ ts, t.text.length ≤ 4000
theorem txt_size {ts : List Tok} (h : TkOk ts) (i : Nat) : (txt ts i).size ≤ maxLen := by
  unfold txt
  cases ht : ts[i]? with
  | none => exact Nat.zero_le _
  | some t =>
    have := h t (List.mem_of_getElem? ht)
    show (⟨t.text.toArray⟩ : ByteArray).size ≤ maxLen
    have e : (⟨t.text.toArray⟩ : ByteArray).size = t.text.length := by rw [← bl_len, bl_mk]
    rw [e]
    unfold maxLen
    omega
/-- What the contract of a reading of a type says. -/
def PAt (fid : Nat) (ts : List Tok) (i : Nat) (r : Option (Ty × Nat)) : Prop :=
  ∀ (T : Ty) (j : Nat), r = some (T, j) → ∀ (b base : Nat) (w : World), b < base → base ≤ w.heap.size → RdT w b ts i →
    Calls Try.prog fid #[.pointer (some ⟨b, 0, none⟩)] w fun e w' => ∃ u, e = .returned u ∧ Rep w' (fun c => base ≤ c) T u ∧ RdT w' b ts j ∧ w.grownBy w' (some b)

theorem Box.grown {w w' : World} {B : Nat} {c0 c1 c2 c3 c4 : Value} {row : Option Nat} (h : Box w B c0 c1 c2 c3 c4) (hg : w.grownBy w' row) (hne : some B ≠ row) : Box w' B c0 c1 c2 c3 c4 := h.kept (hg.block _ h.lt hne)
theorem txt_some {ts : List Tok} {i : Nat} {t : Tok} (h : ts[i]? = some t) : txt ts i = ⟨t.text.toArray⟩ := by unfold txt; rw [h]

set_option maxHeartbeats 3200000 in
theorem pAtom_of (ts : List Tok) (hok : TkOk ts) (i f : Nat) (H : PAt 100 ts (i + 1) (pType f ts (i + 1))) : PAt 98 ts i (pAtom (f + 1) ts i) := by
  intro T j hr b base w hbb hbase h
  have HR := Lib.hid h
  have hblt := h.lt
  have hb0 : ∀ X, Below w.heap.size w (w.alloc (.cells X 25)) := fun X => (Below.refl _ w).alloc (Nat.le_refl _) _
  have HZ : Hid (Zero (w.alloc (.cells #[.int .i64 0, .string ⟨#[]⟩, .int .i64 0, .int .i64 0, .slice none 0 0] 25)) w.heap.size) := Box.made _ _ _ _ _ _
  have HRA := Lib.hid (fun X => h.lift (hb0 X))
  have HK1 : Hid (∀ w, RdT w b ts i → Calls Try.prog 96 #[.pointer (some ⟨b, 0, none⟩), .int .i64 1] w fun e w' => e = .returned (.bool (rKind ts i 1)) ∧ Below w.heap.size w w') := fun w h => rdKind_any 1 b ts i w h
  have HK2 : Hid (∀ w, RdT w b ts i → Calls Try.prog 96 #[.pointer (some ⟨b, 0, none⟩), .int .i64 2] w fun e w' => e = .returned (.bool (rKind ts i 2)) ∧ Below w.heap.size w w') := fun w h => rdKind_any 2 b ts i w h
  clear h
  unfold pAtom at hr
  cases h1 : rKind ts i 1 with
  | true =>
    rw [h1] at hr HK1
    simp only [if_true, Option.some.injEq, Prod.mk.injEq] at hr
    obtain ⟨rfl, rfl⟩ := hr
    obtain ⟨t, ht⟩ : ∃ x, ts[i]? = some x := ⟨_, List.getElem?_eq_getElem (rKind_lt h1)⟩
    have HW : Hid (∀ w, RdT w b ts i → Calls Try.prog 95 #[.pointer (some ⟨b, 0, none⟩), .int .i64 1] w fun e w' => e = .returned (.string (txt ts i)) ∧ RdT w' b ts (i + 1) ∧ w.grownBy w' (some b)) := fun w h => by
      have := rdWord_yes 1 t b ts i w h ht h1
      rwa [← txt_some ht] at this
    have HS := Lib.hid (txt_size hok i)
    clear ht h1 HK2
    generalize txt ts i = tx at *
    go_enter Try.func98, Try.ntmps98
    go_wp2_with fail
    go_at_call 96
    refine (HK1.out _ (HRA.out _)).mono ?_
    rintro e w1 ⟨rfl, hb1⟩
    have HZ1 := Lib.hid (Box.lift HZ.out hb1)
    have HR1 := Lib.hid ((HRA.out _).lift hb1)
    have hg1 := (hb0 _).trans (hb1.mono (hb0 _).size)
    clear hb1
    go_wp2_with fail
    go_at_call 95
    refine (HW.out _ HR1.out).mono ?_
    rintro e w2 ⟨rfl, hr2, hg2⟩
    have HR2 := Lib.hid hr2
    have HZ2 := Lib.hid (Box.grown HZ1.out hg2 (by intro e; cases e; omega))
    clear hr2
    go_wp2_with fail
    go_at_call 16
    refine (refNamed_any _ _).mono ?_
    rintro e w3 ⟨rfl, hb3⟩
    have HR3 := Lib.hid (HR2.out.lift hb3)
    have HZ3 := Lib.hid (Box.lift HZ2.out hb3)
    have hg3 := grown_trans (grown_trans (grown_of_below hg1 (some b)) hg2) (grown_of_below hb3 (some b))
    unfold leafV
    go_wp2_with (refine wpList_store5 rfl _ _ rfl _ _ _ _ _ _ HZ3.out rfl _ _ _ _ _ _ _ rfl ?_; intro w4 hB4 hg4 hs4)
    obtain ⟨c0, c1, c2, c3, c4⟩ := hB4.cells
    refine bodyPost_ret (by simp [results, Try.results98, go_sem, c0, c1, c2, c3, c4]; try rfl) rfl ?_
    exact ⟨_, rfl, rep_leaf _ _ _ _ _ _ HS.out, HR3.out.other hblt hg4, grown_fresh hg3 hg4 fun k e => by cases e; exact Nat.le_refl _⟩
  | false =>
    rw [h1] at hr HK1
    simp only [Bool.false_eq_true, if_false] at hr
    cases h2 : rKind ts i 2 with
    | true =>
      rw [h2] at hr HK2
      simp only [if_true, Option.some.injEq, Prod.mk.injEq] at hr
      obtain ⟨rfl, rfl⟩ := hr
      obtain ⟨t, ht⟩ : ∃ x, ts[i]? = some x := ⟨_, List.getElem?_eq_getElem (rKind_lt h2)⟩
      have HW : Hid (∀ w, RdT w b ts i → Calls Try.prog 95 #[.pointer (some ⟨b, 0, none⟩), .int .i64 2] w fun e w' => e = .returned (.string (txt ts i)) ∧ RdT w' b ts (i + 1) ∧ w.grownBy w' (some b)) := fun w h => by
        have := rdWord_yes 2 t b ts i w h ht h2
        rwa [← txt_some ht] at this
      have HS := Lib.hid (txt_size hok i)
      clear ht h1 h2
      generalize txt ts i = tx at *
      go_enter Try.func98, Try.ntmps98
      go_wp2_with fail
      go_at_call 96
      refine (HK1.out _ (HRA.out _)).mono ?_
      rintro e w0 ⟨rfl, hb0'⟩
      have HZ0 := Lib.hid (Box.lift HZ.out hb0')
      have HR0 := Lib.hid ((HRA.out _).lift hb0')
      have hg0 := (hb0 _).trans (hb0'.mono (hb0 _).size)
      clear hb0'
      go_wp2_with fail
      go_at_call 96
      refine (HK2.out _ HR0.out).mono ?_
      rintro e w1 ⟨rfl, hb1⟩
      have HZ1 := Lib.hid (Box.lift HZ0.out hb1)
      have HR1 := Lib.hid (HR0.out.lift hb1)
      have hg1 := hg0.trans (hb1.mono hg0.size)
      clear hb1
      go_wp2_with fail
      go_at_call 95
      refine (HW.out _ HR1.out).mono ?_
      rintro e w2 ⟨rfl, hr2, hg2⟩
      have HR2 := Lib.hid hr2
      have HZ2 := Lib.hid (Box.grown HZ1.out hg2 (by intro e; cases e; omega))
      clear hr2
      go_wp2_with fail
      go_at_call 45
      refine (refCon_nil _ _).mono ?_
      rintro e w3 ⟨rfl, hb3⟩
      have HR3 := Lib.hid (HR2.out.lift hb3)
      have HZ3 := Lib.hid (Box.lift HZ2.out hb3)
      have hg3 := grown_trans (grown_trans (grown_of_below hg1 (some b)) hg2) (grown_of_below hb3 (some b))
      unfold leafV
      go_wp2_with (refine wpList_store5 rfl _ _ rfl _ _ _ _ _ _ HZ3.out rfl _ _ _ _ _ _ _ rfl ?_; intro w4 hB4 hg4 hs4)
      obtain ⟨c0, c1, c2, c3, c4⟩ := hB4.cells
      refine bodyPost_ret (by simp [results, Try.results98, go_sem, c0, c1, c2, c3, c4]; try rfl) rfl ?_
      exact ⟨_, rfl, rep_leaf _ _ _ _ _ _ HS.out, HR3.out.other hblt hg4, grown_fresh hg3 hg4 fun k e => by cases e; exact Nat.le_refl _⟩
    | false =>
      rw [h2] at hr HK2
      simp only [Bool.false_eq_true, if_false] at hr
      cases h3 : rIs ts i ⟨#[40]⟩ with
      | false => rw [h3] at hr; simp at hr
      | true =>
        rw [h3] at hr
        simp only [if_true] at hr
        cases h4 : pType f ts (i + 1) with
        | none => rw [h4] at hr; simp at hr
        | some p =>
          obtain ⟨U, k⟩ := p
          rw [h4] at hr
          simp only at hr
          cases h5 : rIs ts k ⟨#[41]⟩ with
          | false => rw [h5] at hr; simp at hr
          | true =>
            rw [h5] at hr
            simp only [if_true, Option.some.injEq, Prod.mk.injEq] at hr
            obtain ⟨rfl, rfl⟩ := hr
            have HN1 : Hid (∀ w, RdT w b ts i → Calls Try.prog 94 #[.pointer (some ⟨b, 0, none⟩), .string ⟨#[40]⟩] w fun e w' => e = .returned (.tuple #[]) ∧ RdT w' b ts (i + 1) ∧ w.grownBy w' (some b)) := fun w h => rdNeed_yes _ b ts i w h h3
            have HN2 : Hid (∀ w, RdT w b ts k → Calls Try.prog 94 #[.pointer (some ⟨b, 0, none⟩), .string ⟨#[41]⟩] w fun e w' => e = .returned (.tuple #[]) ∧ RdT w' b ts (k + 1) ∧ w.grownBy w' (some b)) := fun w h => rdNeed_yes _ b ts k w h h5
            have HT := Lib.hid (H U k h4)
            clear h1 h2 h3 h4 h5 H
            go_enter Try.func98, Try.ntmps98
            go_wp2_with fail
            go_at_call 96
            refine (HK1.out _ (HRA.out _)).mono ?_
            rintro e w0 ⟨rfl, hb0'⟩
            have HZ0 := Lib.hid (Box.lift HZ.out hb0')
            have HR0 := Lib.hid ((HRA.out _).lift hb0')
            have hg0 := (hb0 _).trans (hb0'.mono (hb0 _).size)
            have hsz0 := hb0'.size
            simp at hsz0
            clear hb0'
            go_wp2_with fail
            go_at_call 96
            refine (HK2.out _ HR0.out).mono ?_
            rintro e w1 ⟨rfl, hb1⟩
            have HZ1 := Lib.hid (Box.lift HZ0.out hb1)
            have HR1 := Lib.hid (HR0.out.lift hb1)
            have hg1 := hg0.trans (hb1.mono hg0.size)
            have hsz1 := hb1.size
            clear hb1
            go_wp2_with fail
            go_at_call 94
            refine (HN1.out _ HR1.out).mono ?_
            rintro e w2 ⟨rfl, hr2, hg2⟩
            have HR2 := Lib.hid hr2
            have HZ2 := Lib.hid (Box.grown HZ1.out hg2 (by intro e; cases e; omega))
            have hsz2 := hg2.size
            obtain ⟨lv, hrd, -⟩ := hr2
            obtain ⟨r0, r1, r2, -⟩ := hrd.cells
            clear hrd
            go_wp2_with fail
            go_at_call 100
            refine (HT.out b (w.heap.size + 1) _ (by omega) (by omega) HR2.out).mono ?_
            rintro e w3 ⟨u, rfl, hrep, hr3, hg3⟩
            have HR3 := Lib.hid hr3
            have HZ3 := Lib.hid (Box.grown HZ2.out hg3 (by intro e; cases e; omega))
            have HRep := Lib.hid hrep
            have hsz3 := hg3.size
            obtain ⟨uk, un, ui, uh, us, -, rfl, -, hus⟩ := hrep.open
            obtain ⟨ua, uc, rfl, -⟩ := hus
            clear hr3 hrep r0 r1 r2
            generalize U.ts.length = un' at *
            go_wp2_with fail
            go_at_call 94
            have hb3 : Below w3.heap.size w3 (w3.alloc (.cells #[.int .i64 uk, .string un, .int .i64 ui, .int .i64 uh, .slice ua un' uc] 25)) := (Below.refl _ w3).alloc (Nat.le_refl _) _
            have HI3 : Hid (Box (w3.alloc (.cells #[.int .i64 uk, .string un, .int .i64 ui, .int .i64 uh, .slice ua un' uc] 25)) w3.heap.size (.int .i64 uk) (.string un) (.int .i64 ui) (.int .i64 uh) (.slice ua un' uc)) := Box.made _ _ _ _ _ _
            have HR3' := Lib.hid (HR3.out.lift hb3)
            have HZ3' := Lib.hid (Box.lift HZ3.out hb3)
            have hg3' := grown_of_below hb3 (some b)
            have hsz3' := hb3.size
            clear hb3
            generalize (w3.alloc (.cells #[.int .i64 uk, .string un, .int .i64 ui, .int .i64 uh, .slice ua un' uc] 25)) = w4 at *
            refine (HN2.out _ HR3'.out).mono ?_
            rintro e w5 ⟨rfl, hr5, hg5⟩
            have HR5 := Lib.hid hr5
            have HZ5 := Lib.hid (Box.grown HZ3'.out hg5 (by intro e; cases e; omega))
            have HI5 := Lib.hid (Box.grown HI3.out hg5 (by intro e; cases e; omega))
            have hg35 := grown_trans hg3' hg5
            have hgA := grown_trans (grown_trans (grown_of_below hg1 (some b)) hg2) (grown_trans hg3 hg35)
            obtain ⟨d0, d1, d2, d3, d4⟩ := HI5.out.cells
            clear hr5 HI3 HZ3' HR3' HZ3 HR3 HI5
            go_wp2_with (refine wpList_store5 rfl _ _ rfl _ _ _ _ _ _ HZ5.out rfl _ _ _ _ _ _ _ rfl ?_; intro w6 hB6 hg6 hs6)
            obtain ⟨c0, c1, c2, c3, c4⟩ := hB6.cells
            refine bodyPost_ret (by simp [results, Try.results98, go_sem, c0, c1, c2, c3, c4]; try rfl) rfl ?_
            refine ⟨_, rfl, ?_, HR5.out.other hblt hg6, grown_fresh hgA hg6 fun k e => by cases e; exact Nat.le_refl _⟩
            refine HRep.out.kept (fun b hb => Nat.le_trans hbase (Nat.le_trans (Nat.le_succ _) hb)) fun b' hb hlt => ?_
            have hb' : w.heap.size + 1 ≤ b' := hb
            rw [hg6.block _ (Nat.lt_of_lt_of_le hlt hg35.size) (by intro e; cases e; omega)]
            exact hg35.block _ hlt (by intro e; cases e; omega)
end Go.Proofs.Ytahiefgfhpkoeaa
