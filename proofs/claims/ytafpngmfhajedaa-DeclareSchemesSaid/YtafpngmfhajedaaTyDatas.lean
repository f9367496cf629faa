/- The contract of the maker's Datas. -/
import Derived.Test.YtafpngmfhajedaaTyAll
namespace Go.Proofs.Ytafpngmfhajedaa
open Go.RowKit Go.Sort Go.Shelf Go.Maps Mth

/-- Some of the declarations that the maker knows. -/
def Some_ (ds : List Dat) : Prop := ds.length ≤ 8 ∧ ∀ d ∈ ds, d ∈ allDats
set_option maxRecDepth 100000 in
set_option maxHeartbeats 3200000 in
theorem datas_any (bits : Int) (w : World) : Calls Try.prog 12 #[.int .i64 bits] w fun e w' => ∃ ds dv, e = .returned dv ∧ Some_ ds ∧ SlG DatE w' (fun c => w.heap.size ≤ c) ds dv ∧ Below w.heap.size w w' := by
  have HA := Lib.hid (fun w => all_any w)
  have HN := Lib.hid all_num
  cases hA : (Go.bits BinOp.and IntKind.i64 bits 2 != 0) <;> cases hB : (Go.bits BinOp.and IntKind.i64 bits 64 != 0)
  all_goals
   go_enter Try.func12, Try.ntmps12
   go_wp2_with fail
   go_at_call 40
   refine (HA.out _).mono ?_
   rintro e w1 ⟨dv, rfl, hsl, hb1⟩
   obtain ⟨da, dc, rfl⟩ := slG_form hsl
   rw [HN.out]
   rw [HN.out] at hsl
   have HSl := Lib.hid hsl.bound
   have HB := Lib.hid hb1
   obtain ⟨d, hd⟩ : ∃ x, allDats[1]? = some x := ⟨_, List.getElem?_eq_getElem (by rw [HN.out]; decide)⟩
   obtain ⟨ad, cl, rfl, -, ⟨pv, cv, rfl, hp, hc⟩, hc0, hcm⟩ := slG_get hsl hd
   have q0 := hc0 _ rfl
   have q1 := hcm 1 _ (by decide) rfl
   have q2 := hcm 2 _ (by decide) rfl
   have q3 := hcm 3 _ (by decide) rfl
   simp only [show DatE.k = 4 from rfl] at q0 q1 q2 q3
   simp [Addr.add] at q0 q1 q2 q3
   obtain ⟨pa, pc, rfl⟩ := slG_form hp
   obtain ⟨ca, cc, rfl⟩ := slG_form hc
   have HRp : Hid (DatE.rep w1 (fun c => w.heap.size ≤ c) d [.int .i64 d.pos, .string d.name, .slice pa d.params.length pc, .slice ca d.ctors.length cc]) := ⟨_, _, rfl, hp, hc⟩
   have HM := Lib.hid (List.mem_of_getElem? hd)
   have hx0 : ∀ X, DatE.rep (w1.alloc X) (fun c => (w.heap.size ≤ c ∧ c < w1.heap.size) ∧ some c ≠ (Value.slice none 0 0).ownBlock) d [.int .i64 d.pos, .string d.name, .slice pa d.params.length pc, .slice ca d.ctors.length cc] := fun X =>
     DatE.kept (fun c hc => ⟨hc, by simp [Value.ownBlock]⟩) (fun c hc _ => ((Below.refl _ w1).alloc (Nat.le_refl _) X).block c hc.2) (DatE.bound HRp.out)
   have HX0 := Lib.hid hx0
   have HN0 : Hid (∀ X Z, (w1.alloc (.cells X Z)).heap[w1.heap.size]? = some (.cells X Z (0, 0))) := fun X Z => heap_alloc_new w1 _
   have hbA : ∀ X, Below w1.heap.size w1 (w1.alloc X) := fun X => (Below.refl _ w1).alloc (Nat.le_refl _) X
   clear hc0 hcm hp hc hd hsl hb1 HA hx0
   go_wp2_with (at_builtin; refine wpList_pushG DatE rfl _ _ rfl w1.heap.size (fun c => w.heap.size ≤ c ∧ c < w1.heap.size) (.slice none 0 0) [] rfl (rowG_nil _ _ _ _) w1.heap.size _ [.int .i64 d.pos, .string d.name, .slice pa d.params.length pc, .slice ca d.ctors.length cc] (HN0.out _ _) rfl d (HX0.out _) 1 rfl (by decide) (hbA _).size ?_; intro a' c' w2 hrow2 hg2; have HRow2 := Lib.hid hrow2; have hb2 := Below.grown (hbA _) hg2 (hbA _).size (by intro k hk; simp [Value.ownBlock] at hk); clear hrow2 hg2)
   all_goals
     go_loopw [4, 5] (fun y x wr => ∃ (j : Nat) (xs : List Dat), j ≤ 7 ∧ x = .int .i64 j ∧ Hid (RowG DatE wr w1.heap.size (fun c => w.heap.size ≤ c ∧ c < w1.heap.size) y xs) ∧ Hid (∀ z ∈ xs, z ∈ allDats) ∧ xs.length ≤ j + 1 ∧ Below w1.heap.size w1 wr) (fun _ x _ => 7 - (intOf x).toNat)
     case atStart => first
       | exact ⟨0, [d], Nat.zero_le _, rfl, HRow2, fun z hz => by simp at hz; subst hz; exact HM.out, by simp, hb2⟩
       | exact ⟨0, [], Nat.zero_le _, rfl, rowG_nil _ _ _ _, fun z hz => by simp at hz, by simp, Below.refl _ _⟩
     case round =>
       clear q0 q1 q2 q3 HX0 HN0 hbA HRp HM
       obtain ⟨j, xs, hj, rfl, HRow, HX, hl, hb⟩ := hrel
       by_cases hlt : j < 7
       · obtain ⟨e, he⟩ : ∃ x, allDats[j]? = some x := ⟨_, List.getElem?_eq_getElem (by rw [HN.out]; exact hlt)⟩
         obtain ⟨ad2, cl, had, -, ⟨pv2, cv2, rfl, hp, hc⟩, hc0, hcm⟩ := slG_get (HSl.out.lift hb) he
         cases had
         have q0 := hc0 _ rfl
         have q1 := hcm 1 _ (by decide) rfl
         have q2 := hcm 2 _ (by decide) rfl
         have q3 := hcm 3 _ (by decide) rfl
         simp only [show DatE.k = 4 from rfl] at q0 q1 q2 q3
         obtain ⟨pa2, pc2, rfl⟩ := slG_form hp
         obtain ⟨ca2, cc2, rfl⟩ := slG_form hc
         have HM := Lib.hid (List.mem_of_getElem? he)
         have hx0 : ∀ X, DatE.rep (wr.alloc X) (fun c => (w.heap.size ≤ c ∧ c < w1.heap.size) ∧ some c ≠ u4.ownBlock) e [.int .i64 e.pos, .string e.name, .slice pa2 e.params.length pc2, .slice ca2 e.ctors.length cc2] := fun X =>
           DatE.kept (fun c hc => ⟨hc, fun e => by have := (RowG.lt HRow.out c e.symm).1; omega⟩) (fun c hc hlt => ((Below.refl _ wr).alloc (Nat.le_refl _) X).block c hlt) ⟨_, _, rfl, hp, hc⟩
         have HXe := Lib.hid hx0
         have HNr : Hid (∀ X Z, (wr.alloc (.cells X Z)).heap[wr.heap.size]? = some (.cells X Z (0, 0))) := fun X Z => heap_alloc_new wr _
         have HBr : Hid (∀ X, Below wr.heap.size wr (wr.alloc X)) := fun X => (Below.refl _ wr).alloc (Nat.le_refl _) X
         have HRowA := Lib.hid (fun X => HRow.out.lift (HBr.out X))
         have hsz : w1.heap.size ≤ wr.heap.size := hb.size
         have HLow : Hid (∀ k, u4.ownBlock = some k → w1.heap.size ≤ k) := fun k hk => (RowG.lt HRow.out k hk).1
         have hji : (j : Int) < 7 := by omega
         have hj0 : (0 : Int) ≤ (j : Int) := by omega
         clear hc0 hcm hp hc he hx0
         by_cases hj1 : j = 1
         · subst hj1
           clear q0 q1 q2 q3 HXe HNr HBr HRowA hji hj0
           go_wp2
           go_roundw
           case rel => exact ⟨2, xs, by omega, rfl, HRow, HX, by omega, hb⟩
           case measure => simp [intOf]
         have hj1' : ¬ (j : Int) = 1 := by omega
         go_wp2_with (at_builtin; refine wpList_pushG DatE rfl _ _ rfl w1.heap.size (fun c => w.heap.size ≤ c ∧ c < w1.heap.size) u4 xs rfl (HRowA.out _) wr.heap.size _ [.int .i64 e.pos, .string e.name, .slice pa2 e.params.length pc2, .slice ca2 e.ctors.length cc2] (HNr.out _ _) rfl e (HXe.out _) (xs.length + 1) rfl (by omega) (Nat.le_trans hsz (HBr.out _).size) ?_; intro a3 c3 w3 hrow3 hg3; have HRow3 := Lib.hid hrow3; have hb3 := Below.grown (hb.trans ((HBr.out _).mono hsz)) hg3 (Nat.le_trans hsz (HBr.out _).size) HLow.out; clear hrow3 hg3)
         all_goals
           have hxs : ∀ z ∈ xs ++ [e], z ∈ allDats := fun z hz => by
             rcases List.mem_append.1 hz with h | h
             · exact HX.out z h
             · simp at h; subst h; exact HM.out
           first
             | exact ⟨⟨j + 1, xs ++ [e], hlt, by first | go_num | (simp <;> omega), HRow3, hxs, by simp; omega, hb3⟩, by simp [intOf] <;> omega⟩
             | exact ⟨⟨j + 1, xs, hlt, by first | go_num | (simp <;> omega), HRow, HX, by omega, hb⟩, by simp [intOf] <;> omega⟩
             | (go_roundw
                case rel => first
                  | exact ⟨j + 1, xs ++ [e], hlt, by first | go_num | (simp <;> omega), HRow3, hxs, by simp; omega, hb3⟩
                  | exact ⟨j + 1, xs, hlt, by first | go_num | (simp <;> omega), HRow, HX, by omega, hb⟩
                case measure => simp [intOf]; omega)
       · have hbw := HB.out.size
         have HS7 : Hid (SlG DatE wr (fun c => w.heap.size ≤ c) xs u4) := HRow.out.slG (fun _ h => h.1) (fun c h => Nat.le_trans hbw h)
         have HB7 : Hid (Below w.heap.size w wr) := HB.out.trans (hb.mono hbw)
         have hj7 : ¬ ((j : Int) < 7) := by omega
         go_wp2
         go_ret
         exact ⟨xs, _, rfl, ⟨by omega, HX.out⟩, HS7.out, HB7.out⟩
end Go.Proofs.Ytafpngmfhajedaa
