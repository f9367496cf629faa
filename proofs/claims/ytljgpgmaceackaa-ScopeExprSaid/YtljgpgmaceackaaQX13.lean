import Derived.Test.YtljgpgmaceackaaQX09
/- The contract of the reader's declaration. -/
namespace Go.Proofs.Ytljgpgmaceackaa.S3
open Go.RowKit Go.Maps Mth

def pPos (ts : List Tok) (i : Nat) : Int := match ts[i]? with | some t => t.pos | none => 0
def pParams : Nat → List Tok → Nat → List ByteArray → Option (List ByteArray × Nat)
  | 0, _, _, _ => none
  | f + 1, ts, i, acc => if rKind ts i 1 then pParams f ts (i + 1) (acc ++ [txt ts i]) else some (acc, i)
def pCtors : Nat → List Tok → Nat → List Ctor → Option (List Ctor × Nat)
  | 0, _, _, _ => none
  | f + 1, ts, i, acc =>
    if rKind ts i 2 then
      match pArgs f ts (i + 1) [] with
      | some (l, j) => if rIs ts j ⟨#[124]⟩ then pCtors f ts (j + 1) (acc ++ [⟨pPos ts i, txt ts i, l⟩]) else some (acc ++ [⟨pPos ts i, txt ts i, l⟩], j)
      | none => none
    else none
def pDecl (f : Nat) (ts : List Tok) (i : Nat) : Option (Dat × Nat) :=
  if rIs ts i ⟨#[100, 97, 116, 97]⟩ && rKind ts (i + 1) 2 then
    match pParams f ts (i + 1 + 1) [] with
    | some (ps, j) =>
      if rIs ts j ⟨#[61]⟩ then
        match pCtors f ts (j + 1) [] with
        | some (cs, k) => if rIs ts k ⟨#[59]⟩ then some (⟨pPos ts i, txt ts (i + 1), ps, cs⟩, k + 1) else none
        | none => none
      else none
    | none => none
  else none
theorem decl_cases {f : Nat} {ts : List Tok} {i j : Nat} {d : Dat} (h : pDecl f ts i = some (d, j)) :
    rIs ts i ⟨#[100, 97, 116, 97]⟩ = true ∧ rKind ts (i + 1) 2 = true ∧ ∃ ps cs p k, pParams f ts (i + 1 + 1) [] = some (ps, p) ∧ rIs ts p ⟨#[61]⟩ = true ∧ pCtors f ts (p + 1) [] = some (cs, k) ∧ rIs ts k ⟨#[59]⟩ = true ∧ j = k + 1 ∧ d = ⟨pPos ts i, txt ts (i + 1), ps, cs⟩ := by
  unfold pDecl at h
  split at h
  · rename_i h1
    rw [Bool.and_eq_true] at h1
    split at h
    · rename_i ps p hp
      split at h
      · rename_i he
        split at h
        · rename_i cs k hk
          split at h
          · rename_i hs
            simp only [Option.some.injEq, Prod.mk.injEq] at h
            exact ⟨h1.1, h1.2, ps, cs, p, k, hp, he, hk, hs, h.2.symm, h.1.symm⟩
          · simp at h
        · simp at h
      · simp at h
    · simp at h
  · simp at h
theorem params_cases {g : Nat} {ts : List Tok} {i j : Nat} {acc l : List ByteArray} (h : pParams g ts i acc = some (l, j)) :
    (rKind ts i 1 = false ∧ l = acc ∧ j = i) ∨ (rKind ts i 1 = true ∧ ∃ g', g = g' + 1 ∧ pParams g' ts (i + 1) (acc ++ [txt ts i]) = some (l, j)) := by
  cases g with
  | zero => simp [pParams] at h
  | succ g =>
    unfold pParams at h
    cases h1 : rKind ts i 1 with
    | false => rw [h1] at h; simp only [Bool.false_eq_true, if_false, Option.some.injEq, Prod.mk.injEq] at h; exact .inl ⟨rfl, h.1.symm, h.2.symm⟩
    | true => rw [h1] at h; simp only [if_true] at h; exact .inr ⟨rfl, g, rfl, h⟩
theorem ctors_cases {g : Nat} {ts : List Tok} {i j : Nat} {acc l : List Ctor} (h : pCtors g ts i acc = some (l, j)) :
    rKind ts i 2 = true ∧ ∃ g' fs p, g = g' + 1 ∧ pArgs g' ts (i + 1) [] = some (fs, p) ∧
      ((rIs ts p ⟨#[124]⟩ = false ∧ l = acc ++ [⟨pPos ts i, txt ts i, fs⟩] ∧ j = p) ∨ (rIs ts p ⟨#[124]⟩ = true ∧ pCtors g' ts (p + 1) (acc ++ [⟨pPos ts i, txt ts i, fs⟩]) = some (l, j))) := by
  cases g with
  | zero => simp [pCtors] at h
  | succ g =>
    unfold pCtors at h
    split at h
    · rename_i h1
      refine ⟨h1, g, ?_⟩
      split at h
      · rename_i fs p hp
        refine ⟨fs, p, rfl, hp, ?_⟩
        split at h
        · rename_i h2
          exact .inr ⟨h2, h⟩
        · rename_i h2
          simp only [Option.some.injEq, Prod.mk.injEq] at h
          exact .inl ⟨by simpa using h2, h.1.symm, h.2.symm⟩
      · simp at h
    · simp at h
/-- A box of a declaration. -/
def BoxD (w : World) (B : Nat) (c0 c1 c2 c3 : Value) : Prop := w.heap[B]? = some (.cells #[c0, c1, c2, c3] 61 (0, 0))
theorem BoxD.lt {w : World} {B : Nat} {c0 c1 c2 c3 : Value} (h : BoxD w B c0 c1 c2 c3) : B < w.heap.size := (Array.getElem?_eq_some_iff.1 h).1
theorem BoxD.kept {w w' : World} {B : Nat} {c0 c1 c2 c3 : Value} {row : Option Nat} (h : BoxD w B c0 c1 c2 c3) (hg : w.grownBy w' row) (hne : some B ≠ row) : BoxD w' B c0 c1 c2 c3 := by
  have hl := h.lt
  unfold BoxD at *; rw [hg.block _ hl hne, h]
theorem BoxD.lift {w w' : World} {B : Nat} {c0 c1 c2 c3 : Value} (h : BoxD w B c0 c1 c2 c3) (hb : Below w.heap.size w w') : BoxD w' B c0 c1 c2 c3 := h.kept (grown_of_below hb none) (by simp)
theorem BoxD.cells {w : World} {B : Nat} {c0 c1 c2 c3 : Value} (h : BoxD w B c0 c1 c2 c3) :
    w.cell? ⟨B, 0, none⟩ = some c0 ∧ w.cell? ⟨B, 1, none⟩ = some c1 ∧ w.cell? ⟨B, 2, none⟩ = some c2 ∧ w.cell? ⟨B, 3, none⟩ = some c3 :=
  ⟨(cell_of_block h rfl).1, (cell_of_block h rfl).1, (cell_of_block h rfl).1, (cell_of_block h rfl).1⟩
theorem BoxD.frozen {w : World} {B : Nat} {c0 c1 c2 c3 : Value} (h : BoxD w B c0 c1 c2 c3) :
    w.frozen? ⟨B, 0, none⟩ = false ∧ w.frozen? ⟨B, 1, none⟩ = false ∧ w.frozen? ⟨B, 2, none⟩ = false ∧ w.frozen? ⟨B, 3, none⟩ = false :=
  ⟨(cell_of_block h rfl).2, (cell_of_block h rfl).2, (cell_of_block h rfl).2, (cell_of_block h rfl).2⟩
theorem set4D {w : World} {B : Nat} {c0 c1 c2 c3 : Value} (h : BoxD w B c0 c1 c2 c3) (v0 v1 v2 v3 : Value) :
    BoxD ((((w.setCell ⟨B, 0, none⟩ v0).setCell ⟨B, 1, none⟩ v1).setCell ⟨B, 2, none⟩ v2).setCell ⟨B, 3, none⟩ v3) B v0 v1 v2 v3 ∧
    w.grownBy ((((w.setCell ⟨B, 0, none⟩ v0).setCell ⟨B, 1, none⟩ v1).setCell ⟨B, 2, none⟩ v2).setCell ⟨B, 3, none⟩ v3) (some B) := by
  obtain ⟨a0, g0, s0⟩ := set1 h 0 v0
  obtain ⟨a1, g1, s1⟩ := set1 a0 1 v1
  obtain ⟨a2, g2, s2⟩ := set1 a1 2 v2
  obtain ⟨a3, g3, s3⟩ := set1 a2 3 v3
  refine ⟨?_, grown_trans (grown_trans (grown_trans g0 g1) g2) g3⟩
  unfold BoxD
  rw [a3]
  simp
def ZeroD (w : World) (B : Nat) : Prop := BoxD w B (.int .i64 0) (.string ⟨#[]⟩) (.slice none 0 0) (.slice none 0 0)
theorem keepD {b D base R : Nat} {c0 c1 c2 c3 : Value} (h1 : R ≠ b) (h2 : R ≠ D) (h3 : R < base) : ∀ v v' row, BoxD v R c0 c1 c2 c3 → v.grownBy v' row → (∀ Z, row = some Z → Z = b ∨ Z = D ∨ base ≤ Z) → BoxD v' R c0 c1 c2 c3 :=
  fun v v' row h hg hr => h.kept hg (fun e => by rcases hr R e.symm with e | e | e <;> omega)

/-- What the contract of a reading of a declaration says. -/
def DAt (ts : List Tok) (i : Nat) (r : Option (Dat × Nat)) : Prop :=
  ∀ (d : Dat) (j : Nat), r = some (d, j) → ∀ (b base : Nat) (w : World), b < base → base ≤ w.heap.size → RdT w b ts i →
    Calls Try.prog 53 #[.pointer (some ⟨b, 0, none⟩)] w fun e w' => ∃ c : List Value, e = .returned (.agg c.toArray) ∧ DatE.rep w' (fun c => base ≤ c) d c ∧ RdT w' b ts j ∧ w.grownBy w' (some b)

theorem enterWord (v u : Value) (w : World) : (callFunc 64 #[v, u]).run Try.prog w = .ok (.enter 64 #[v, u]) w := by kernel_rfl
theorem tyE_of {w : World} {n base : Nat} {V : Ty} {sv : Value} {uk : Int} {un : ByteArray} {ui uh : Int} {ua : Option Addr} {un' uc : Nat} (h : Rep w (fun c => n ≤ c) V (.agg #[.int .i64 uk, .string un, .int .i64 ui, .int .i64 uh, .slice ua un' uc])) (hS : ∀ c, n ≤ c → base ≤ c ∧ some c ≠ sv.ownBlock) :
    TyE.rep w (fun c => base ≤ c ∧ some c ≠ sv.ownBlock) V [.int .i64 uk, .string un, .int .i64 ui, .int .i64 uh, .slice ua un' uc] := Rep.kept hS (fun _ _ _ => rfl) h
theorem rowG_bound {α : Type} {E : El α} {w : World} {base : Nat} {S : Nat → Prop} {v : Value} {xs : List α} (h : RowG E w base S v xs) : RowG E w base (fun c => S c ∧ c < w.heap.size) v xs := by
  obtain ⟨L, hown, hl, hr⟩ := h
  refine ⟨L, hown, hl, fun j x hx => ?_⟩
  obtain ⟨c, hc, hrep⟩ := hr j x hx
  exact ⟨c, hc, E.kept (fun b hb => ⟨⟨hb.1.1, hb.2⟩, hb.1.2⟩) (fun _ _ _ => rfl) (E.bound hrep)⟩
theorem rowG_imp {α : Type} {E : El α} {w : World} {base : Nat} {S S' : Nat → Prop} {v : Value} {xs : List α} (h : RowG E w base S v xs) (hS : ∀ b, S b → S' b) : RowG E w base S' v xs := by
  obtain ⟨L, hown, hl, hr⟩ := h
  refine ⟨L, hown, hl, fun j x hx => ?_⟩
  obtain ⟨c, hc, hrep⟩ := hr j x hx
  exact ⟨c, hc, E.kept (fun b hb => ⟨hS b hb.1, hb.2⟩) (fun _ _ _ => rfl) hrep⟩

set_option maxHeartbeats 6400000 in
theorem decl_any (ts : List Tok) (hok : TkOk ts) (f : Nat) (hf : f ≤ 1000) (i : Nat) : DAt ts i (pDecl f ts i) := by
  intro d j hr b base w hbb hbase h
  obtain ⟨h1, h2, ps, cs, p, k, hp, he, hk, hs, rfl, rfl⟩ := decl_cases hr
  clear hr
  have HR := Lib.hid h
  have hblt := h.lt
  have HCs := Lib.hid hk
  have HPs := Lib.hid hp
  obtain ⟨t, ht⟩ : ∃ x, ts[i]? = some x := ⟨_, List.getElem?_eq_getElem (rIs_lt h1)⟩
  obtain ⟨t1, ht1⟩ : ∃ x, ts[i + 1]? = some x := ⟨_, List.getElem?_eq_getElem (rKind_lt h2)⟩
  have HPos : Hid (∀ w, RdT w b ts i → Calls Try.prog 62 #[.pointer (some ⟨b, 0, none⟩)] w fun e w' => e = .returned (.int .i64 (pPos ts i)) ∧ Below w.heap.size w w') := fun w h => by
    have := rdPos_any t b ts i w h ht
    unfold pPos; rw [ht]; exact this
  have HN1 : Hid (∀ w, RdT w b ts i → Calls Try.prog 65 #[.pointer (some ⟨b, 0, none⟩), .string ⟨#[100, 97, 116, 97]⟩] w fun e w' => e = .returned (.tuple #[]) ∧ RdT w' b ts (i + 1) ∧ w.grownBy w' (some b)) := fun w h => rdNeed_yes _ b ts i w h h1
  have HW : Hid (∀ w, RdT w b ts (i + 1) → Calls Try.prog 64 #[.pointer (some ⟨b, 0, none⟩), .int .i64 2] w fun e w' => e = .returned (.string (txt ts (i + 1))) ∧ RdT w' b ts (i + 1 + 1) ∧ w.grownBy w' (some b)) := fun w h => by
    have := rdWord_yes 2 t1 b ts (i + 1) w h ht1 h2
    rwa [← txt_some ht1] at this
  have HN2 : Hid (∀ w, RdT w b ts p → Calls Try.prog 65 #[.pointer (some ⟨b, 0, none⟩), .string ⟨#[61]⟩] w fun e w' => e = .returned (.tuple #[]) ∧ RdT w' b ts (p + 1) ∧ w.grownBy w' (some b)) := fun w h => rdNeed_yes _ b ts p w h he
  have HN3 : Hid (∀ w, RdT w b ts k → Calls Try.prog 65 #[.pointer (some ⟨b, 0, none⟩), .string ⟨#[59]⟩] w fun e w' => e = .returned (.tuple #[]) ∧ RdT w' b ts (k + 1) ∧ w.grownBy w' (some b)) := fun w h => rdNeed_yes _ b ts k w h hs
  clear ht ht1 h1 h2 he hk hs hp h
  generalize pPos ts i = pos at *
  generalize txt ts (i + 1) = nm at *
  have hb0 : Below w.heap.size w (w.alloc (.cells #[.int .i64 0, .string ⟨#[]⟩, .slice none 0 0, .slice none 0 0] 61)) := (Below.refl _ w).alloc (Nat.le_refl _) _
  have HZ : Hid (ZeroD (w.alloc (.cells #[.int .i64 0, .string ⟨#[]⟩, .slice none 0 0, .slice none 0 0] 61)) w.heap.size) := heap_alloc_new w _
  have HR0 := Lib.hid (HR.out.lift hb0)
  have hsz0 : w.heap.size + 1 ≤ (w.alloc (.cells #[.int .i64 0, .string ⟨#[]⟩, .slice none 0 0, .slice none 0 0] 61)).heap.size := by simp
  go_enter Try.func53, Try.ntmps53
  go_wp2_with fail
  go_at_call 62
  generalize (w.alloc (.cells #[.int .i64 0, .string ⟨#[]⟩, .slice none 0 0, .slice none 0 0] 61)) = w0 at *
  refine (HPos.out _ HR0.out).mono ?_
  rintro e w1 ⟨rfl, hb1⟩
  have HZ1 := Lib.hid (BoxD.lift HZ.out hb1)
  have HR1 := Lib.hid (HR0.out.lift hb1)
  have hg1 := hb0.trans (hb1.mono hb0.size)
  have hsz1 : w.heap.size + 1 ≤ w1.heap.size := Nat.le_trans hsz0 hb1.size
  clear hb1 HR0 HZ hb0
  go_wp2_with fail
  go_at_call 65
  have HX : Hid (∀ X, RdT (w1.alloc (.cells X 61)) b ts i) := fun X => HR1.out.lift ((Below.refl _ w1).alloc (Nat.le_refl _) _)
  have HD2 : Hid (BoxD (w1.alloc (.cells #[.int .i64 pos, .string ⟨#[]⟩, .slice none 0 0, .slice none 0 0] 61)) w1.heap.size (.int .i64 pos) (.string ⟨#[]⟩) (.slice none 0 0) (.slice none 0 0)) := heap_alloc_new w1 _
  have HZ2 : Hid (ZeroD (w1.alloc (.cells #[.int .i64 pos, .string ⟨#[]⟩, .slice none 0 0, .slice none 0 0] 61)) w.heap.size) := BoxD.lift HZ1.out ((Below.refl _ w1).alloc (Nat.le_refl _) _)
  have hg2 := hg1.trans (((Below.refl _ w1).alloc (Nat.le_refl _) (.cells #[.int .i64 pos, .string ⟨#[]⟩, .slice none 0 0, .slice none 0 0] 61)).mono hg1.size)
  have hsz2 : w1.heap.size + 1 ≤ (w1.alloc (.cells #[.int .i64 pos, .string ⟨#[]⟩, .slice none 0 0, .slice none 0 0] 61)).heap.size := by simp
  refine (HN1.out _ (HX.out _)).mono ?_
  clear HX
  generalize (w1.alloc (.cells #[.int .i64 pos, .string ⟨#[]⟩, .slice none 0 0, .slice none 0 0] 61)) = w2 at *
  rintro e w3 ⟨rfl, hr3, hg3⟩
  have hneD : some w1.heap.size ≠ some b := fun e => by have := Option.some.inj e; omega
  have hneZ : some w.heap.size ≠ some b := fun e => by have := Option.some.inj e; omega
  have HR3 := Lib.hid hr3
  have HD3 := Lib.hid (HD2.out.kept hg3 hneD)
  have HZ3 := Lib.hid (BoxD.kept HZ2.out hg3 hneZ)
  have hg03 := grown_trans (grown_of_below hg2 (some b)) hg3
  have hsz3 := Nat.le_trans hsz2 hg3.size
  clear hr3 hg3 HD2 HZ2 hg2 hsz2 HZ1 HR1 hg1
  go_wp2_with fail
  go_at_call 64
  refine (HW.out _ HR3.out).mono ?_
  rintro e w4 ⟨rfl, hr4, hg4⟩
  have HR4 := Lib.hid hr4
  have HD4 := Lib.hid (HD3.out.kept hg4 hneD)
  have HZ4 := Lib.hid (BoxD.kept HZ3.out hg4 hneZ)
  have hg04 := grown_trans hg03 hg4
  have hsz4 := Nat.le_trans hsz3 hg4.size
  obtain ⟨d0, d1, d2, d3⟩ := HD4.out.cells
  obtain ⟨f0, f1, f2, f3⟩ := HD4.out.frozen
  clear hr4 hg4 HD3 HZ3 hg03 hsz3 HR3 HW HN1 HPos
  go_wp2
  obtain ⟨e1, e2, e3⟩ := set1 HD4.out 1 (.string nm)
  have HR5 := Lib.hid (HR4.out.other (by omega) e2)
  have HZ5 := Lib.hid (BoxD.kept HZ4.out e2 (fun e => by have := Option.some.inj e; omega))
  have HD5 : Hid (BoxD (w4.setCell ⟨w1.heap.size, 1, none⟩ (.string nm)) w1.heap.size (.int .i64 pos) (.string nm) (.slice none 0 0) (.slice none 0 0)) := by
    show _ = _
    rw [e1]; simp
  have hg05 := grown_fresh hg04 e2 fun R e => by have := Option.some.inj e; omega
  rw [← e3] at hsz4
  clear e1 e2 e3 d0 d1 d2 d3 f0 f1 f2 f3 HR4 HZ4 HD4 hg04
  generalize (w4.setCell ⟨w1.heap.size, 1, none⟩ (.string nm)) = w5 at *
  have HJ : Hid (JOk w b w1.heap.size (w1.heap.size + 1) (fun v => ZeroD v w.heap.size)) := ⟨hblt, by omega, Nat.lt_succ_self _, keepD (by omega) (by omega) (by omega)⟩
  have HP5 : Hid (PSt StrE w w1.heap.size (w1.heap.size + 1) 61 (fun v => ZeroD v w.heap.size) w5 b (i + 1 + 1) ts #[.int .i64 pos, .string nm, .slice none 0 0, .slice none 0 0] 2 (.slice none 0 0) (.slice none 0 0) []) :=
    ⟨HR5.out, HD5.out, rfl, rowG_nil _ _ _ _, HZ5.out, hg05, hsz4⟩
  clear HR5 HD5 HZ5 hg05 hsz4
  go_loopg [] f (fun k wr => ∃ (acc : List ByteArray) (q : Nat) (av : Value), Hid (pParams k ts q acc = some (ps, p)) ∧ acc.length + k ≤ f ∧ Hid (PSt StrE w w1.heap.size (w1.heap.size + 1) 61 (fun v => ZeroD v w.heap.size) wr b q ts #[.int .i64 pos, .string nm, av, .slice none 0 0] 2 av av acc))
  case atStart => exact ⟨[], _, _, HPs, by simp, HP5⟩
  case round =>
    obtain ⟨acc, q, av, HC, hal, HPr⟩ := hrel
    have HK : Hid (∀ w, RdT w b ts q → Calls Try.prog 72 #[.pointer (some ⟨b, 0, none⟩), .int .i64 1] w fun e w' => e = .returned (.bool (rKind ts q 1)) ∧ Below w.heap.size w w') := fun w h => rdKind_any 1 b ts q w h
    obtain ⟨sa, sc, rfl, -, -⟩ := HPr.out.row.slice
    rcases params_cases HC.out with ⟨hq, rfl, rfl⟩ | ⟨hq, g, rfl, hrest⟩
    · rw [hq] at HK
      clear hq HC
      go_wp2_with fail
      go_at_call 72
      refine (HK.out _ HPr.out.rd).mono ?_
      rintro e v1 ⟨rfl, hb1⟩
      have HP1 := Lib.hid (HPr.out.lift HJ.out hb1)
      clear hb1 HPr HK
      go_wp2_with fail
      go_at_call 65
      refine (HN2.out _ HP1.out.rd).mono ?_
      rintro e w6 ⟨rfl, hr6, hg6⟩
      have HP6 := Lib.hid (PSt.call HJ.out HP1.out hr6 hg6)
      clear hr6 hg6 HP1 HP5
      generalize (.slice sa ps.length sc : Value) = pv at *
      have hDB : w1.heap.size < w6.heap.size := HP6.out.size
      have HJ2 : Hid (JOk w b w1.heap.size w6.heap.size (fun v => ZeroD v w.heap.size ∧ SlG StrE v (fun c => w1.heap.size + 1 ≤ c ∧ c < w6.heap.size) ps pv)) :=
        ⟨hblt, by omega, hDB, fun v v' row h hg hr => ⟨keepD (by omega) (by omega) (by omega) v v' row h.1 hg hr, h.2.kept (fun _ h => h) (fun c hc hlt => hg.block c hlt (fun e => by have := hr c e.symm; omega))⟩⟩
      have HQ6 : Hid (PSt CtorE w w1.heap.size w6.heap.size 61 (fun v => ZeroD v w.heap.size ∧ SlG StrE v (fun c => w1.heap.size + 1 ≤ c ∧ c < w6.heap.size) ps pv) w6 b (p + 1) ts #[.int .i64 pos, .string nm, pv, .slice none 0 0] 3 (.slice none 0 0) (.slice none 0 0) []) :=
        ⟨HP6.out.rd, HP6.out.box, rfl, rowG_nil _ _ _ _, ⟨HP6.out.oth, (HP6.out.row.slG (fun _ h => h) (fun _ h => h)).bound⟩, HP6.out.grown, Nat.le_refl _⟩
      clear HP6 HJ
      go_wp2
      go_loopg [] f (fun kk wr => ∃ (acc : List Ctor) (q : Nat) (cv : Value), Hid (pCtors kk ts q acc = some (cs, k)) ∧ acc.length + kk ≤ f ∧ Hid (PSt CtorE w w1.heap.size w6.heap.size 61 (fun v => ZeroD v w.heap.size ∧ SlG StrE v (fun c => w1.heap.size + 1 ≤ c ∧ c < w6.heap.size) ps pv) wr b q ts #[.int .i64 pos, .string nm, pv, cv] 3 cv cv acc))
      case atStart => exact ⟨[], _, _, HCs, by simp, HQ6⟩
      case round =>
        clear HQ6 HCs
        obtain ⟨acc, q, cv, HC, hal, HQr⟩ := hrel
        obtain ⟨ca, cc, rfl, -, -⟩ := HQr.out.row.slice
        obtain ⟨hq, g, fs, m, rfl, hargs, hend⟩ := ctors_cases HC.out
        have HArgs := Lib.hid hargs
        have HEnd := Lib.hid hend
        obtain ⟨tq, htq⟩ : ∃ x, ts[q]? = some x := ⟨_, List.getElem?_eq_getElem (rKind_lt hq)⟩
        have HPosq : Hid (∀ w, RdT w b ts q → Calls Try.prog 62 #[.pointer (some ⟨b, 0, none⟩)] w fun e w' => e = .returned (.int .i64 (pPos ts q)) ∧ Below w.heap.size w w') := fun w h => by
          have := rdPos_any tq b ts q w h htq
          unfold pPos; rw [htq]; exact this
        have HWq : Hid (∀ w, RdT w b ts q → Calls Try.prog 64 #[.pointer (some ⟨b, 0, none⟩), .int .i64 2] w fun e w' => e = .returned (.string (txt ts q)) ∧ RdT w' b ts (q + 1) ∧ w.grownBy w' (some b)) := fun w h => by
          have := rdWord_yes 2 tq b ts q w h htq hq
          rwa [← txt_some htq] at this
        clear hq HC htq hargs hend
        generalize pPos ts q = cpos at *
        generalize txt ts q = cnm at *
        obtain ⟨lv, hrd, -⟩ := HQr.out.rd
        obtain ⟨r0, r1, r2, -⟩ := hrd.cells
        clear hrd
        go_wp2_with fail
        go_at_call 62
        refine (HPosq.out _ HQr.out.rd).mono ?_
        rintro e v1 ⟨rfl, hb1⟩
        have HQ1 := Lib.hid (HQr.out.lift HJ2.out hb1)
        clear hb1 HQr r0 r1 r2
        go_wp2_with fail
        go_at_call 64
        refine (HWq.out _ HQ1.out.rd).mono ?_
        rintro e v2 ⟨rfl, hr2, hg2⟩
        have HQ2 := Lib.hid (HQ1.out.call HJ2.out hr2 hg2)
        clear hr2 hg2 HQ1 HPosq HWq
        go_wp2
        have HL : Hid (∀ k', (Value.slice ca acc.length cc).ownBlock = some k' → w6.heap.size ≤ k' ∧ k' < v2.heap.size) := HQ2.out.row.lt
        have hBC : w6.heap.size ≤ v2.heap.size := HQ2.out.size
        have HEl : Hid ((Value.slice ca acc.length cc) = .slice ca acc.length cc) := rfl
        generalize hcv : (Value.slice ca acc.length cc) = cv at *
        clear hcv HEl
        have HJ3 : Hid (JOk w b v2.heap.size (v2.heap.size + 1) (fun v => BoxD v w1.heap.size (.int .i64 pos) (.string nm) pv cv ∧ (ZeroD v w.heap.size ∧ SlG StrE v (fun c => w1.heap.size + 1 ≤ c ∧ c < w6.heap.size) ps pv) ∧ RowG CtorE v w6.heap.size (fun c => w6.heap.size ≤ c ∧ c < v2.heap.size) cv acc)) := by
          refine ⟨hblt, by omega, Nat.lt_succ_self _, fun v v' row h hg hr => ⟨h.1.kept hg (fun e => by have := hr _ e.symm; omega), HJ2.out.keep v v' row h.2.1 hg (fun R e => by have := hr R e; omega), h.2.2.kept hg ?_ (fun c hc e => by have := hr c e.symm; omega)⟩⟩
          cases hv : cv.ownBlock with
          | none => exact .inl rfl
          | some k' => exact .inr fun e => by have h1 := HL.out k' hv; have h2 := hr k' e.symm; omega
        have hba : Below v2.heap.size v2 (v2.alloc (.cells #[.int .i64 cpos, .string cnm, .slice none 0 0] 63)) := (Below.refl _ v2).alloc (Nat.le_refl _) _
        have HT0 : Hid (PSt TyE w v2.heap.size (v2.heap.size + 1) 63 (fun v => BoxD v w1.heap.size (.int .i64 pos) (.string nm) pv cv ∧ (ZeroD v w.heap.size ∧ SlG StrE v (fun c => w1.heap.size + 1 ≤ c ∧ c < w6.heap.size) ps pv) ∧ RowG CtorE v w6.heap.size (fun c => w6.heap.size ≤ c ∧ c < v2.heap.size) cv acc) (v2.alloc (.cells #[.int .i64 cpos, .string cnm, .slice none 0 0] 63)) b (q + 1) ts #[.int .i64 cpos, .string cnm, .slice none 0 0] 2 (.slice none 0 0) (.slice none 0 0) []) :=
          ⟨HQ2.out.rd.lift hba, heap_alloc_new v2 _, rfl, rowG_nil _ _ _ _, ⟨(HQ2.out.lift HJ2.out hba).box, (HQ2.out.lift HJ2.out hba).oth, (rowG_bound HQ2.out.row).lift hba⟩, (HQ2.out.lift HJ2.out hba).grown, by simp⟩
        generalize (v2.alloc (.cells #[.int .i64 cpos, .string cnm, .slice none 0 0] 63)) = w7 at *
        clear hba HQ2
        go_loopg [] g (fun kk wr => ∃ (accF : List Ty) (q' : Nat) (fv : Value), Hid (pArgs kk ts q' accF = some (fs, m)) ∧ accF.length + kk ≤ f ∧ kk ≤ f ∧ Hid (PSt TyE w v2.heap.size (v2.heap.size + 1) 63 (fun v => BoxD v w1.heap.size (.int .i64 pos) (.string nm) pv cv ∧ (ZeroD v w.heap.size ∧ SlG StrE v (fun c => w1.heap.size + 1 ≤ c ∧ c < w6.heap.size) ps pv) ∧ RowG CtorE v w6.heap.size (fun c => w6.heap.size ≤ c ∧ c < v2.heap.size) cv acc) wr b q' ts #[.int .i64 cpos, .string cnm, fv] 2 fv fv accF))
        case atStart => exact ⟨[], _, _, HArgs, by simp; omega, by omega, HT0⟩
        case round =>
          clear HT0 HArgs
          obtain ⟨accF, q', fv, HP, hal3, hkf, HSr⟩ := hrel
          obtain ⟨sa, sc, rfl, -, -⟩ := HSr.out.row.slice
          have HK : Hid (∀ w, RdT w b ts q' → Calls Try.prog 73 #[.pointer (some ⟨b, 0, none⟩)] w fun e w' => e = .returned (.bool (rKind ts q' 1 || rKind ts q' 2 || rIs ts q' ⟨#[40]⟩)) ∧ Below w.heap.size w w') := fun w h => rdAtoms_any b ts q' w h
          rcases args_cases HP.out with ⟨hq, rfl, rfl⟩ | ⟨hq, g3, V, n3, rfl, hV, hrest⟩
          · rw [hq] at HK
            clear hq HP
            go_wp2_with fail
            go_at_call 73
            refine (HK.out _ HSr.out.rd).mono ?_
            rintro e v5 ⟨rfl, hb5⟩
            have HS5 := Lib.hid (HSr.out.lift HJ3.out hb5)
            clear hb5 HSr HK
            generalize (Value.slice sa fs.length sc) = fv at *
            have HQ5 : Hid (PSt CtorE w w1.heap.size w6.heap.size 61 (fun v => ZeroD v w.heap.size ∧ SlG StrE v (fun c => w1.heap.size + 1 ≤ c ∧ c < w6.heap.size) ps pv) v5 b m ts #[.int .i64 pos, .string nm, pv, cv] 3 cv cv acc) :=
              ⟨HS5.out.rd, HS5.out.oth.1, rfl, rowG_imp HS5.out.oth.2.2 (fun _ h => h.1), HS5.out.oth.2.1, HS5.out.grown, by have := HS5.out.size; omega⟩
            have hx : CtorE.rep v5 (fun c => w6.heap.size ≤ c ∧ some c ≠ cv.ownBlock) ⟨cpos, cnm, fs⟩ [.int .i64 cpos, .string cnm, fv] :=
              ⟨fv, rfl, (HS5.out.row.slG (S' := fun c => v2.heap.size + 1 ≤ c) (fun _ h => h) (fun _ h => h)).kept (fun c hc => ⟨by omega, fun e => by have := (HL.out c e.symm).2; omega⟩) (fun _ _ _ => rfl)⟩
            have HX := Lib.hid hx
            have hNb : acc.length + 1 ≤ 1000000 := by omega
            obtain ⟨d0, d1, d2, d3⟩ := BoxD.cells HS5.out.oth.1
            have e0 := (cell_of_block HS5.out.box (m := 0) rfl).1
            have e1 := (cell_of_block HS5.out.box (m := 1) rfl).1
            have e2 := (cell_of_block HS5.out.box (m := 2) rfl).1
            clear hx
            go_wp2_with (at_builtin; refine wpList_pushP HJ2.out HQ5.out ⟨cpos, cnm, fs⟩ [.int .i64 cpos, .string cnm, fv] HX.out _ rfl _ rfl _ _ rfl rfl _ rfl rfl (acc.length + 1) rfl hNb ?_; intro a' c' v6 hP; have HP6 := Lib.hid hP; have c4 := hP.cell; have f4 := hP.frozen; clear hP d0 d1 d2 d3 e0 e1 e2)
            have HQ7 : Hid (PSt CtorE w w1.heap.size w6.heap.size 61 (fun v => ZeroD v w.heap.size ∧ SlG StrE v (fun c => w1.heap.size + 1 ≤ c ∧ c < w6.heap.size) ps pv) (v6.setCell ⟨w1.heap.size, 3, none⟩ (.slice a' (acc.length + 1) c')) b m ts #[.int .i64 pos, .string nm, pv, .slice a' (acc.length + 1) c'] 3 (.slice a' (acc.length + 1) c') (.slice a' (acc.length + 1) c') (acc ++ [⟨cpos, cnm, fs⟩])) := by
              have := PSt.stored HJ2.out HP6.out
              simp at this
              exact this
            clear HP6 c4 f4 HX HQ5 HS5
            generalize (v6.setCell ⟨w1.heap.size, 3, none⟩ (.slice a' (acc.length + 1) c')) = v7 at *
            rcases HEnd.out with ⟨hno, rfl, rfl⟩ | ⟨hyes, hrest⟩
            · have HSk : Hid (∀ w, RdT w b ts k → Calls Try.prog 63 #[.pointer (some ⟨b, 0, none⟩), .string ⟨#[124]⟩] w fun e w' => e = .returned (.bool false) ∧ Below w.heap.size w w') := fun w h => rdSkip_no _ b ts k w h hno
              clear hno
              refine (HSk.out _ HQ7.out.rd).mono ?_
              rintro e v8 ⟨rfl, hb8⟩
              have HQ8 := Lib.hid (HQ7.out.lift HJ2.out hb8)
              clear hb8 HQ7 HSk
              generalize (Value.slice a' (acc.length + 1) c') = cw at *
              go_wp2_with fail
              go_at_call 65
              refine (HN3.out _ HQ8.out.rd).mono ?_
              rintro e v9 ⟨rfl, hr9, hg9⟩
              have HQ9 := Lib.hid (HQ8.out.call HJ2.out hr9 hg9)
              clear hr9 hg9 HQ8
              obtain ⟨pa, pc, rfl, -⟩ := HQ9.out.oth.2.slice
              obtain ⟨wa, wc, hcw, -, -⟩ := HQ9.out.row.slice
              generalize (acc ++ [(⟨cpos, cnm, fs⟩ : Ctor)]).length = n at hcw
              subst hcw
              obtain ⟨d0, d1, d2, d3⟩ := BoxD.cells (c0 := .int .i64 pos) (c1 := .string nm) (c2 := .slice pa ps.length pc) (c3 := .slice wa n wc) HQ9.out.box
              obtain ⟨z0, z1, z2, z3⟩ := HQ9.out.oth.1.cells
              obtain ⟨f0, f1, f2, f3⟩ := HQ9.out.oth.1.frozen
              go_wp2
              obtain ⟨hB, hG⟩ := set4D HQ9.out.oth.1 (.int .i64 pos) (.string nm) (.slice pa ps.length pc) (.slice wa n wc)
              clear z0 z1 z2 z3 f0 f1 f2 f3 d0 d1 d2 d3
              generalize ((((v9.setCell ⟨w.heap.size, 0, none⟩ (.int .i64 pos)).setCell ⟨w.heap.size, 1, none⟩ (.string nm)).setCell ⟨w.heap.size, 2, none⟩ (.slice pa ps.length pc)).setCell ⟨w.heap.size, 3, none⟩ (.slice wa n wc)) = v10 at *
              obtain ⟨c0, c1, c2, c3⟩ := hB.cells
              refine bodyPost_ret (by simp [results, Try.results53, go_sem, c0, c1, c2, c3]; try rfl) rfl ?_
              refine ⟨[.int .i64 pos, .string nm, .slice pa ps.length pc, .slice wa n wc], rfl, ⟨_, _, rfl, ?_, ?_⟩, HQ9.out.rd.other hblt hG, grown_fresh HQ9.out.grown hG fun R e => by cases e; exact Nat.le_refl _⟩
              · exact HQ9.out.oth.2.kept (fun c hc => by omega) (fun c hc hlt => hG.block c hlt (fun e => by have := Option.some.inj e; omega))
              · exact (HQ9.out.row.slG (S' := fun c => w6.heap.size ≤ c) (fun _ h => h) (fun _ h => h)).kept (fun c hc => by omega) (fun c hc hlt => hG.block c hlt (fun e => by have := Option.some.inj e; omega))
            · have HSk : Hid (∀ w, RdT w b ts m → Calls Try.prog 63 #[.pointer (some ⟨b, 0, none⟩), .string ⟨#[124]⟩] w fun e w' => e = .returned (.bool true) ∧ RdT w' b ts (m + 1) ∧ w.grownBy w' (some b)) := fun w h => rdSkip_yes _ b ts m w h hyes
              have HCn := Lib.hid hrest
              clear hyes hrest
              refine (HSk.out _ HQ7.out.rd).mono ?_
              rintro e v8 ⟨rfl, hr8, hg8⟩
              have HQ8 := Lib.hid (HQ7.out.call HJ2.out hr8 hg8)
              clear hr8 hg8 HQ7 HSk
              go_wp2
              go_roundg g
              case measure => omega
              case rel => exact ⟨acc ++ [⟨cpos, cnm, fs⟩], m + 1, _, HCn, by simp; omega, HQ8⟩
          · rw [hq] at HK
            clear hq HP
            have HPn := Lib.hid hrest
            have HAt := Lib.hid (atom_any ts hok g3 (by omega) q' V n3 hV)
            clear hV hrest
            go_wp2_with fail
            go_at_call 73
            refine (HK.out _ HSr.out.rd).mono ?_
            rintro e v1 ⟨rfl, hb1⟩
            have HP1 := Lib.hid (HSr.out.lift HJ3.out hb1)
            have HPd := Lib.hid (PSt.drew HJ3.out HP1.out)
            clear hb1 HSr HK
            go_wp2_with fail
            have hbd : Below v1.heap.size v1 v1.drew := (Below.refl _ v1).drew
            have hsz1 := HP1.out.size
            have hbv : b < v1.heap.size := by omega
            have hle : v1.heap.size ≤ v1.drew.heap.size := hbd.size
            have HSV : Hid (∀ c, v1.heap.size ≤ c → v2.heap.size + 1 ≤ c ∧ some c ≠ (Value.slice sa accF.length sc).ownBlock) := fun c hc => ⟨by omega, fun e => by have := (RowG.lt HP1.out.row _ e.symm).2; omega⟩
            have y4 := HPd.out.cell
            have hNb : accF.length + 1 ≤ 1000000 := by omega
            clear hbd hsz1
            go_region_law
              (first
                | ((with_reducible refine step_call1 74 enterAtom (.pointer (some ⟨b, 0, none⟩)) (fun u w' => Rep w' (fun c => v1.heap.size ≤ c) V u ∧ RdT w' b ts n3 ∧ v1.drew.grownBy w' (some b)) ?_ ?_ ?_); (rfl); (exact HAt.out b v1.heap.size _ hbv hle HPd.out.rd); (rintro u v3 ⟨hrep, hr2, hg2⟩); (have HF := Lib.hid (PSt.call HJ3.out HPd.out hr2 hg2)); (obtain ⟨uk, un, ui, uh, ua, un', uc, rfl⟩ := hrep.form); (have HE := Lib.hid (tyE_of hrep HSV.out)); (have HE2 := Lib.hid (tyE_of (hrep.lift (Below.refl _ v3).drew) HSV.out)); (have z4 := HF.out.cell); (have z4o := HF.out.cellA HJ3.out); (have z4d := HF.out.cellD HJ3.out); clear hrep hr2 hg2 y4)
                | ((with_reducible refine fitA v3 _ ?_); (refine step_pushP HJ3.out HF.out V [.int .i64 uk, .string un, .int .i64 ui, .int .i64 uh, .slice ua un' uc] HE.out _ rfl _ (by rfl) _ _ (by rfl) (by rfl) _ rfl (by rfl) (accF.length + 1) rfl hNb ?_); (intro a' c' v4 hP); (have HP3 := Lib.hid hP); (have c4 := hP.cell); (have f4 := hP.frozen); clear hP z4 z4o z4d)
                | ((with_reducible refine fitA v3.drew _ ?_); (refine step_pushP HJ3.out (PSt.drew HJ3.out HF.out) V [.int .i64 uk, .string un, .int .i64 ui, .int .i64 uh, .slice ua un' uc] HE2.out _ rfl _ (by rfl) _ _ (by rfl) (by rfl) _ rfl (by rfl) (accF.length + 1) rfl hNb ?_); (intro a' c' v4 hP); (have HP3 := Lib.hid hP); (have c4 := hP.cell); (have f4 := hP.frozen); clear hP z4 z4o z4d))
            all_goals
              have HP4 := Lib.hid (PSt.stored HJ3.out HP3.out)
              clear HP3 c4 f4 HF HE HE2 hNb HPd HP1
              go_wp2
              go_roundg g3
              case measure => omega
              case rel => exact ⟨accF ++ [V], n3, _, HPn, by simp; omega, by omega, by simpa using HP4⟩
    · rw [hq] at HK
      obtain ⟨tq, htq⟩ : ∃ x, ts[q]? = some x := ⟨_, List.getElem?_eq_getElem (rKind_lt hq)⟩
      have HWq : Hid (∀ w, RdT w b ts q → Calls Try.prog 64 #[.pointer (some ⟨b, 0, none⟩), .int .i64 1] w fun e w' => e = .returned (.string (txt ts q)) ∧ RdT w' b ts (q + 1) ∧ w.grownBy w' (some b)) := fun w h => by
        have := rdWord_yes 1 tq b ts q w h htq hq
        rwa [← txt_some htq] at this
      have HPn := Lib.hid hrest
      clear hq HC htq hrest
      generalize txt ts q = tx at *
      go_wp2_with fail
      go_at_call 72
      refine (HK.out _ HPr.out.rd).mono ?_
      rintro e v1 ⟨rfl, hb1⟩
      have HP1 := Lib.hid (HPr.out.lift HJ.out hb1)
      have HPd := Lib.hid (PSt.drew HJ.out HP1.out)
      clear hb1 HPr HK
      go_wp2_with fail
      have HW1 : Hid (Calls Try.prog 64 #[.pointer (some ⟨b, 0, none⟩), .int .i64 1] v1.drew fun e w' => ∃ u, e = .returned u ∧ (u = .string tx ∧ RdT w' b ts (q + 1) ∧ v1.drew.grownBy w' (some b))) :=
        (HWq.out _ HPd.out.rd).mono fun e w' h => ⟨_, h.1, rfl, h.2⟩
      have y4 := HPd.out.cell
      have hx : ∀ v S, StrE.rep v S tx [.string tx] := fun _ _ => rfl
      have hNb : acc.length + 1 ≤ 1000000 := by omega
      go_region_law
        (first
          | ((with_reducible refine step_call2 64 enterWord (.pointer (some ⟨b, 0, none⟩)) (.int .i64 1) (fun u w' => u = .string tx ∧ RdT w' b ts (q + 1) ∧ v1.drew.grownBy w' (some b)) ?_ ?_ ?_ ?_); (rfl); (rfl); (exact HW1.out); (rintro u v2 ⟨rfl, hr2, hg2⟩); (have HF := Lib.hid (PSt.call HJ.out HPd.out hr2 hg2)); (have z4 := HF.out.cell); (have z4o := HF.out.cellA HJ.out); (have z4d := HF.out.cellD HJ.out); clear hr2 hg2 y4)
          | ((with_reducible refine fitA v2 _ ?_); (refine step_pushP HJ.out HF.out tx [.string tx] (hx _ _) _ rfl _ (by rfl) _ _ (by rfl) (by rfl) _ rfl (by rfl) (acc.length + 1) rfl hNb ?_); (intro a' c' v3 hP); (have HP3 := Lib.hid hP); (have c4 := hP.cell); (have f4 := hP.frozen); clear hP z4 z4o z4d)
          | ((with_reducible refine fitA v2.drew _ ?_); (refine step_pushP HJ.out (PSt.drew HJ.out HF.out) tx [.string tx] (hx _ _) _ rfl _ (by rfl) _ _ (by rfl) (by rfl) _ rfl (by rfl) (acc.length + 1) rfl hNb ?_); (intro a' c' v3 hP); (have HP3 := Lib.hid hP); (have c4 := hP.cell); (have f4 := hP.frozen); clear hP z4 z4o z4d))
      all_goals
        have HP4 := Lib.hid (PSt.stored HJ.out HP3.out)
        clear HP3 c4 f4 HF hx hNb HW1 HPd HP1
        go_wp2
        go_roundg g
        case measure => omega
        case rel => exact ⟨acc ++ [tx], q + 1, _, HPn, by simp; omega, by simpa using HP4⟩
end Go.Proofs.Ytljgpgmaceackaa.S3
