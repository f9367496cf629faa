import Derived.Test.YtljgpgmaceackaaQX04
import Derived.Test.YtljgpgmaceackaaQX44
import Derived.Test.YtljgpgmaceackaaQX14
/- Lists of declarations that a call may append to. -/
namespace Go.Proofs.Ytljgpgmaceackaa
open Go.RowKit Go.Maps Mth S3

/-- The list lies in blocks that were laid since w0, and its row may be appended to. -/
def OwnD (w0 w : World) (ds : List Dat) (dv : Value) : Prop := ∃ base, w0.heap.size ≤ base ∧ base ≤ w.heap.size ∧ RowG DatE w base (fun c => w0.heap.size ≤ c) dv ds
theorem OwnD.slG {w0 w : World} {ds : List Dat} {dv : Value} (h : OwnD w0 w ds dv) : SlG DatE w (fun c => w0.heap.size ≤ c) ds dv := by
  obtain ⟨base, h1, h2, h3⟩ := h
  exact h3.slG (fun _ h => h) (fun c hc => Nat.le_trans h1 hc)
theorem OwnD.lift {w0 w w' : World} {ds : List Dat} {dv : Value} (h : OwnD w0 w ds dv) (hb : Below w.heap.size w w') : OwnD w0 w' ds dv := by
  obtain ⟨base, h1, h2, h3⟩ := h
  exact ⟨base, h1, Nat.le_trans h2 hb.size, h3.lift hb⟩
end Go.Proofs.Ytljgpgmaceackaa

/- What the maker's Datas hands back, as a function of the bits. -/
namespace Go.Proofs.Ytljgpgmaceackaa
open Go.RowKit Go.Maps Mth S3

def bt (bits : Int) (j : Nat) : Bool := Go.bits BinOp.and IntKind.i64 (bits / 2 ^ j) 1 == 1
def dsl (bits : Int) : Nat → List Dat
  | 0 => if ((Go.bits BinOp.and IntKind.i64 bits 2 != 0) || (Go.bits BinOp.and IntKind.i64 bits 64 != 0)) then (allDats[1]?).toList else []
  | j + 1 => dsl bits j ++ (if j != 1 && bt bits j then (allDats[j]?).toList else [])
/-- The declarations that the bits choose. -/
def dsOf (bits : Int) : List Dat := dsl bits 7
theorem dsl_zero (bits : Int) : dsl bits 0 = if ((Go.bits BinOp.and IntKind.i64 bits 2 != 0) || (Go.bits BinOp.and IntKind.i64 bits 64 != 0)) then (allDats[1]?).toList else [] := rfl
theorem dsl_succ (bits : Int) (j : Nat) : dsl bits (j + 1) = dsl bits j ++ (if j != 1 && bt bits j then (allDats[j]?).toList else []) := rfl
theorem opt_len {α : Type} (o : Option α) : o.toList.length ≤ 1 := by cases o <;> simp
theorem dsl_len (bits : Int) : ∀ j, (dsl bits j).length ≤ j + 1 := by
  intro j
  induction j with
  | zero => rw [dsl_zero]; split; exact opt_len _; simp
  | succ j ih =>
    rw [dsl_succ, List.length_append]
    have : (if j != 1 && bt bits j then (allDats[j]?).toList else []).length ≤ 1 := by
      split
      · exact opt_len _
      · simp
    omega
theorem opt_mem {l : List Dat} {j : Nat} {d : Dat} (h : d ∈ (l[j]?).toList) : d ∈ l := by
  cases hl : l[j]? with
  | none => rw [hl] at h; simp at h
  | some x => rw [hl] at h; simp at h; subst h; exact List.mem_of_getElem? hl
theorem dsl_mem (bits : Int) : ∀ j d, d ∈ dsl bits j → d ∈ allDats := by
  intro j
  induction j with
  | zero =>
    intro d h
    rw [dsl_zero] at h
    split at h
    · exact opt_mem h
    · simp at h
  | succ j ih =>
    intro d h
    rw [dsl_succ] at h
    rcases List.mem_append.1 h with h | h
    · exact ih d h
    · split at h
      · exact opt_mem h
      · simp at h
theorem dsOf_some (bits : Int) : Some_ (dsOf bits) := ⟨dsl_len bits 7, fun d h => dsl_mem bits 7 d h⟩
set_option maxRecDepth 100000 in
set_option maxHeartbeats 3200000 in
theorem datasB_any (bits : Int) (w : World) : Calls Try.prog 10 #[.int .i64 bits] w fun e w' => ∃ dv, e = .returned dv ∧ OwnD w w' (dsOf bits) dv ∧ Below w.heap.size w w' := by
  have HA := Lib.hid (fun w => all_any w)
  have HN := Lib.hid all_num
  cases hA : (Go.bits BinOp.and IntKind.i64 bits 2 != 0) <;> cases hB : (Go.bits BinOp.and IntKind.i64 bits 64 != 0)
  all_goals
   go_enter Try.func10, Try.ntmps10
   go_wp2_with fail
   go_at_call 22
   refine (HA.out _).mono ?_
   rintro e w1 ⟨dv, rfl, hsl, hb1⟩
   obtain ⟨da, dc, rfl⟩ := slG_form hsl
   rw [HN.out]
   rw [HN.out] at hsl
   have HSl := Lib.hid hsl.bound
   have HB := Lib.hid hb1
   obtain ⟨d, hd⟩ : ∃ x, allDats[1]? = some x := ⟨_, List.getElem?_eq_getElem (by rw [HN.out]; decide)⟩
   obtain ⟨ad, cl, rfl, -, ⟨pv, cv, rfl, hp, hc⟩, hc0, hcm⟩ := slG_get hsl hd
   have q0 := hc0 _ rfl
   have q1 := hcm 1 _ (by decide) rfl
   have q2 := hcm 2 _ (by decide) rfl
   have q3 := hcm 3 _ (by decide) rfl
   simp only [show DatE.k = 4 from rfl] at q0 q1 q2 q3
   simp [Addr.add] at q0 q1 q2 q3
   obtain ⟨pa, pc, rfl⟩ := slG_form hp
   obtain ⟨ca, cc, rfl⟩ := slG_form hc
   have HRp : Hid (DatE.rep w1 (fun c => w.heap.size ≤ c) d [.int .i64 d.pos, .string d.name, .slice pa d.params.length pc, .slice ca d.ctors.length cc]) := ⟨_, _, rfl, hp, hc⟩
   have HM := Lib.hid (List.mem_of_getElem? hd)
   have hx0 : ∀ X, DatE.rep (w1.alloc X) (fun c => (w.heap.size ≤ c ∧ c < w1.heap.size) ∧ some c ≠ (Value.slice none 0 0).ownBlock) d [.int .i64 d.pos, .string d.name, .slice pa d.params.length pc, .slice ca d.ctors.length cc] := fun X =>
     DatE.kept (fun c hc => ⟨hc, by simp [Value.ownBlock]⟩) (fun c hc _ => ((Below.refl _ w1).alloc (Nat.le_refl _) X).block c hc.2) (DatE.bound HRp.out)
   have HX0 := Lib.hid hx0
   have HN0 : Hid (∀ X Z, (w1.alloc (.cells X Z)).heap[w1.heap.size]? = some (.cells X Z (0, 0))) := fun X Z => heap_alloc_new w1 _
   have hbA : ∀ X, Below w1.heap.size w1 (w1.alloc X) := fun X => (Below.refl _ w1).alloc (Nat.le_refl _) X
   have hD0 : dsl bits 0 = if ((Go.bits BinOp.and IntKind.i64 bits 2 != 0) || (Go.bits BinOp.and IntKind.i64 bits 64 != 0)) then [d] else [] := by rw [dsl_zero, hd]; rfl
   rw [hA, hB] at hD0
   simp at hD0
   clear hc0 hcm hp hc hd hsl hb1 HA hx0
   go_wp2_with (at_builtin; refine wpList_pushG DatE rfl _ _ rfl w1.heap.size (fun c => w.heap.size ≤ c ∧ c < w1.heap.size) (.slice none 0 0) [] rfl (rowG_nil _ _ _ _) w1.heap.size _ [.int .i64 d.pos, .string d.name, .slice pa d.params.length pc, .slice ca d.ctors.length cc] (HN0.out _ _) rfl d (HX0.out _) 1 rfl (by decide) (hbA _).size ?_; intro a' c' w2 hrow2 hg2; have HRow2 := Lib.hid hrow2; have hb2 := Below.grown (hbA _) hg2 (hbA _).size (by intro k hk; simp [Value.ownBlock] at hk); clear hrow2 hg2)
   all_goals
     have HD0 := Lib.hid hD0
     clear hD0
     go_loopw [4, 5] (fun y x wr => ∃ (j : Nat), j ≤ 7 ∧ x = .int .i64 j ∧ Hid (RowG DatE wr w1.heap.size (fun c => w.heap.size ≤ c ∧ c < w1.heap.size) y (dsl bits j)) ∧ Below w1.heap.size w1 wr) (fun _ x _ => 7 - (intOf x).toNat)
     case atStart => first
       | exact ⟨0, Nat.zero_le _, rfl, by show RowG _ _ _ _ _ _; rw [HD0.out]; exact HRow2.out, hb2⟩
       | exact ⟨0, Nat.zero_le _, rfl, by show RowG _ _ _ _ _ _; rw [HD0.out]; exact rowG_nil _ _ _ _, Below.refl _ _⟩
     case round =>
       clear q0 q1 q2 q3 HX0 HN0 hbA HRp HM
       obtain ⟨j, hj, rfl, HRow, hb⟩ := hrel
       have hl := dsl_len bits j
       have HSn := Lib.hid (dsl_succ bits j)
       obtain ⟨xs, hxs7⟩ : ∃ xs, dsl bits j = xs := ⟨_, rfl⟩
       rw [hxs7] at HRow HSn hl
       by_cases hlt : j < 7
       · obtain ⟨e, he⟩ : ∃ x, allDats[j]? = some x := ⟨_, List.getElem?_eq_getElem (by rw [HN.out]; exact hlt)⟩
         obtain ⟨ad2, cl, had, -, ⟨pv2, cv2, rfl, hp, hc⟩, hc0, hcm⟩ := slG_get (HSl.out.lift hb) he
         cases had
         have q0 := hc0 _ rfl
         have q1 := hcm 1 _ (by decide) rfl
         have q2 := hcm 2 _ (by decide) rfl
         have q3 := hcm 3 _ (by decide) rfl
         simp only [show DatE.k = 4 from rfl] at q0 q1 q2 q3
         obtain ⟨pa2, pc2, rfl⟩ := slG_form hp
         obtain ⟨ca2, cc2, rfl⟩ := slG_form hc
         have HM := Lib.hid (List.mem_of_getElem? he)
         have hx0 : ∀ X, DatE.rep (wr.alloc X) (fun c => (w.heap.size ≤ c ∧ c < w1.heap.size) ∧ some c ≠ u4.ownBlock) e [.int .i64 e.pos, .string e.name, .slice pa2 e.params.length pc2, .slice ca2 e.ctors.length cc2] := fun X =>
           DatE.kept (fun c hc => ⟨hc, fun e => by have := (RowG.lt HRow.out c e.symm).1; omega⟩) (fun c hc hlt => ((Below.refl _ wr).alloc (Nat.le_refl _) X).block c hlt) ⟨_, _, rfl, hp, hc⟩
         have HXe := Lib.hid hx0
         have HNr : Hid (∀ X Z, (wr.alloc (.cells X Z)).heap[wr.heap.size]? = some (.cells X Z (0, 0))) := fun X Z => heap_alloc_new wr _
         have HBr : Hid (∀ X, Below wr.heap.size wr (wr.alloc X)) := fun X => (Below.refl _ wr).alloc (Nat.le_refl _) X
         have HRowA := Lib.hid (fun X => HRow.out.lift (HBr.out X))
         have hsz : w1.heap.size ≤ wr.heap.size := hb.size
         have HLow : Hid (∀ k, u4.ownBlock = some k → w1.heap.size ≤ k) := fun k hk => (RowG.lt HRow.out k hk).1
         have hji : (j : Int) < 7 := by omega
         have hj0 : (0 : Int) ≤ (j : Int) := by omega
         have HMe := Lib.hid he
         clear hc0 hcm hp hc he hx0
         by_cases hj1 : j = 1
         · subst hj1
           clear q0 q1 q2 q3 HXe HNr HBr HRowA hji hj0
           go_wp2
           go_roundw
           case rel => exact ⟨2, by omega, rfl, by show RowG _ _ _ _ _ _; rw [HSn.out]; simpa using HRow.out, hb⟩
           case measure => simp [intOf]
         have hj1' : ¬ (j : Int) = 1 := by omega
         have hj1b : ((j : Int) != 1) = true := by simp [hj1']
         cases hT : (Go.bits BinOp.and IntKind.i64 (bits / 2 ^ j) 1 == 1) with
         | true =>
           have HN : Hid (dsl bits (j + 1) = xs ++ [e]) := by
             show _ = _
             rw [HSn.out]
             have : (j != 1) = true := by simpa using hj1
             unfold bt
             rw [hT, this, HMe.out]
             rfl
           go_wp2_with (at_builtin; refine wpList_pushG DatE rfl _ _ rfl w1.heap.size (fun c => w.heap.size ≤ c ∧ c < w1.heap.size) u4 xs rfl (HRowA.out _) wr.heap.size _ [.int .i64 e.pos, .string e.name, .slice pa2 e.params.length pc2, .slice ca2 e.ctors.length cc2] (HNr.out _ _) rfl e (HXe.out _) (xs.length + 1) rfl (by omega) (Nat.le_trans hsz (HBr.out _).size) ?_; intro a3 c3 w3 hrow3 hg3; have HRow3 := Lib.hid hrow3; have hb3 := Below.grown (hb.trans ((HBr.out _).mono hsz)) hg3 (Nat.le_trans hsz (HBr.out _).size) HLow.out; clear hrow3 hg3)
           go_roundw
           case rel => exact ⟨j + 1, hlt, by go_num, by show RowG _ _ _ _ _ _; rw [HN.out]; exact HRow3.out, hb3⟩
           case measure => simp [intOf]; omega
         | false =>
           have HN : Hid (dsl bits (j + 1) = xs) := by
             show _ = _
             rw [HSn.out]
             unfold bt
             rw [hT]
             simp
           go_wp2
           go_roundw
           case rel => exact ⟨j + 1, hlt, by go_num, by show RowG _ _ _ _ _ _; rw [HN.out]; exact HRow.out, hb⟩
           case measure => simp [intOf]; omega
       · obtain rfl : j = 7 := by omega
         have hbw := HB.out.size
         have HS7 : Hid (OwnD w wr xs u4) := ⟨w1.heap.size, hbw, hb.size, HRow.out.imp fun _ h => h.1⟩
         have HB7 : Hid (Below w.heap.size w wr) := HB.out.trans (hb.mono hbw)
         have HXs : Hid (dsOf bits = xs) := hxs7
         go_wp2
         go_ret
         exact ⟨_, rfl, by rw [HXs.out]; exact HS7.out, HB7.out⟩
end Go.Proofs.Ytljgpgmaceackaa
