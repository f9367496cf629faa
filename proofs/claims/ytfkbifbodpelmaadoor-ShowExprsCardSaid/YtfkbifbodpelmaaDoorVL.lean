import Derived.Test.YtfkbifbodpelmaaDoorVS1
import Derived.Test.YtfkbifbodpelmaaDoorVR0
import Derived.Test.YtfkbifbodpelmaaDoorVB2
import Derived.Lib.ItoaLen
import Derived.Lib.AppendIntMem
import Derived.Deep.LoopGhost
import Derived.Deep.CutBlock
import Derived.Lib.UnsafeStr
/- Letters. -/
namespace Go.Proofs.YtfkbifbodpelmaaDoor
open Go.RowKit Go.Maps Mth

/-- The letter of a number. -/
def ltr (n : Int) : List UInt8 := if max n 0 < 26 then [UInt8.ofNat (97 + (max n 0).toNat)] else UInt8.ofNat (97 + (max n 0).toNat % 26) :: Lib.itoa (max n 0 / 26)
/-- The library's table of powers of ten lies as it was laid. -/
def Tab (w : World) : Prop := Lib.TabIs Tryd.prog w "internal/strconv.uint64pow10" .u64 Lib.pow10Tab
theorem Tryd.gPow : Tryd.prog.globalNamed "internal/strconv.uint64pow10" = some 1 := by kernel_rfl
theorem Tab.size {w : World} (h : Tab w) : 1 < w.heap.size := by
  unfold Tab Lib.TabIs World.var? at h
  rw [Tryd.gPow] at h
  simp only [Option.bind_some] at h
  by_cases hz : 1 < w.heap.size
  · exact hz
  · rw [Array.getElem?_eq_none (by omega)] at h
    simp at h
theorem Tab.below {w w' : World} (h : Tab w) (hb : Below w.heap.size w w') : Tab w' := var?_below hb Tryd.gPow h.size h
/-- The letters lie as they were laid. -/
def Lts (w : World) : Prop := ∀ k, k < 26 → w.cell? ⟨0, k, none⟩ = some (.string ⟨#[UInt8.ofNat (97 + k)]⟩)
/-- What the writers read of the program's own variables. -/
structure Gs (w : World) : Prop where
  tab : Tab w
  lts : Lts w
theorem Gs.size {w : World} (h : Gs w) : 2 ≤ w.heap.size := by
  have h1 := h.tab.size
  have h2 := World.block_lt_of_cell? _ _ (h.lts 0 (by omega))
  simp at h2
  omega
theorem Gs.lift {w w' : World} (h : Gs w) (hb : Below w.heap.size w w') : Gs w' :=
  ⟨h.tab.below hb, fun k hk => by rw [hb.cell (World.block_lt_of_cell? _ _ (h.lts k hk))]; exact h.lts k hk⟩
theorem Gs.fr {w w' : World} {b : Nat} (h : Gs w) (hb : 2 ≤ b) (hf : Below b w w') : Gs w' := by
  refine ⟨?_, fun k hk => by rw [hf.cell (by show 0 < b; omega)]; exact h.lts k hk⟩
  have ht := h.tab
  unfold Tab Lib.TabIs World.var? at *
  rw [Tryd.gPow] at *
  simp only [Option.bind_some] at *
  rw [hf.block 1 (by omega)]
  exact ht
set_option maxHeartbeats 1600000 in
theorem letter_any (n : Int) (w : World) (h1 : -9223372036854775808 ≤ n) (h2 : n ≤ 9223372036854775807) (hg : Gs w) :
    Calls Tryd.prog 7 #[.int .i64 n] w fun e w' => e = .returned (.string ⟨(ltr n).toArray⟩) ∧ Below w.heap.size w w' := by
  have HL := Lib.hid hg.lts
  have HI : Hid (∀ m : Int, 0 ≤ m → m ≤ 9223372036854775807 → Calls Tryd.prog 26 #[.int .i64 m] w fun e w' => e = .returned (.string ⟨(Lib.itoa m).toArray⟩) ∧ Below w.heap.size w w') := fun m a b => (Tryd.strconv_Itoa m (by omega) b w hg.tab).mono fun e w' ⟨x, k, os, y⟩ => ⟨x, by subst y; exact Lib.below_grow _ _ (Nat.le_refl _) _ _⟩
  clear hg
  obtain ⟨m, hm⟩ : ∃ m : Nat, max n 0 = m := ⟨(max n 0).toNat, by omega⟩
  have hm2 : m ≤ 9223372036854775807 := by omega
  unfold ltr
  rw [hm]
  have HMx := Lib.hid hm
  clear hm
  have hl := HL.out (m % 26) (Nat.mod_lt _ (by omega))
  have ht : ((m : Int).tmod 26) = ((m % 26 : Nat) : Int) := by rw [Int.tmod_eq_emod_of_nonneg (by omega)]; omega
  have hmx : max n 0 = (m : Int) := HMx.out
  by_cases hlt : (m : Int) < 26
  · rw [if_pos hlt]
    have e : m % 26 = m := Nat.mod_eq_of_lt (by omega)
    rw [e] at hl ht
    go_enter Tryd.func7, Tryd.ntmps7
    go_wp2
    go_ret
    exact ⟨by simp, Below.refl _ _⟩
  · rw [if_neg hlt]
    have HI1 := Lib.hid (HI.out ((m : Int) / 26) (by omega) (by omega))
    have hil : (Lib.itoa ((m : Int) / 26)).length ≤ 21 := Lib.itoa_length_le _ (by omega) (by omega)
    clear HI
    generalize Lib.itoa ((m : Int) / 26) = d at *
    go_enter Tryd.func7, Tryd.ntmps7
    go_wp2_with fail
    go_at_call 26
    refine HI1.out.mono ?_
    rintro e w' ⟨rfl, hb⟩
    go_wp2
    go_ret
    refine ⟨congrArg (fun x => Ending.returned (Value.string x)) ?_, hb⟩
    refine ByteArray.ext ?_
    rw [ByteArray.data_append]
    simp [UInt8.ofNat_add]
theorem abc_at : ∀ k : Fin 26, ((⟨#[97, 98, 99, 100, 101, 102, 103, 104, 105, 106, 107, 108, 109, 110, 111, 112, 113, 114, 115, 116, 117, 118, 119, 120, 121, 122]⟩ : ByteArray).extract k.1 (k.1 + 1)).data = #[UInt8.ofNat (97 + k.1)] := by decide +kernel
set_option maxRecDepth 100000 in
set_option maxHeartbeats 1600000 in
theorem refLetter_any (n : Int) (w : World) (h1 : -9223372036854775808 ≤ n) (h2 : n ≤ 9223372036854775807) :
    Calls Tryd.prog 8 #[.int .i64 n] w fun e w' => e = .returned (.string ⟨(ltr n).toArray⟩) ∧ w = w' := by
  have HI : Hid (∀ (m : Nat) (w : World), m ≤ 9223372036854775807 → Calls Tryd.prog 27 #[.int .i64 m] w fun e w' => e = .returned (.string ⟨(Lib.itoa m).toArray⟩) ∧ w = w') := fun m w h => refNumber_nat m w h
  obtain ⟨m, hm⟩ : ∃ m : Nat, max n 0 = m := ⟨(max n 0).toNat, by omega⟩
  have hm2 : m ≤ 9223372036854775807 := by omega
  unfold ltr
  rw [hm]
  have HMx := Lib.hid hm
  clear hm
  have ht : ((m : Int).tmod 26) = ((m % 26 : Nat) : Int) := by rw [Int.tmod_eq_emod_of_nonneg (by omega)]; omega
  have hmx : max n 0 = (m : Int) := HMx.out
  have ha := abc_at ⟨m % 26, Nat.mod_lt _ (by omega)⟩
  have h26 : m % 26 < 26 := Nat.mod_lt _ (by omega)
  by_cases hlt : (m : Int) < 26
  · rw [if_pos hlt]
    have HA := Lib.hid ha
    clear ha HI
    go_enter Tryd.func8, Tryd.ntmps8
    go_wp2
    go_ret
    have e : m % 26 = m := Nat.mod_eq_of_lt (by omega)
    exact ⟨congrArg (fun x => Ending.returned (Value.string x)) (ByteArray.ext (HA.out.trans (by simp [e]))), rfl⟩
  · rw [if_neg hlt]
    have HA := Lib.hid ha
    clear ha
    have HI1 : Hid (Calls Tryd.prog 27 #[.int .i64 ((m : Int) / 26)] w fun e w' => e = .returned (.string ⟨(Lib.itoa ((m : Int) / 26)).toArray⟩) ∧ w = w') := by
      have hq : ((m : Int) / 26) = ((m / 26 : Nat) : Int) := by omega
      rw [hq]
      exact HI.out (m / 26) w (by omega)
    have hil : (Lib.itoa ((m : Int) / 26)).length ≤ 21 := Lib.itoa_length_le _ (by omega) (by omega)
    clear HI
    generalize Lib.itoa ((m : Int) / 26) = d at *
    have hge : 26 ≤ (m : Int) := by omega
    clear hlt
    have hs1 : ((⟨#[97, 98, 99, 100, 101, 102, 103, 104, 105, 106, 107, 108, 109, 110, 111, 112, 113, 114, 115, 116, 117, 118, 119, 120, 121, 122]⟩ : ByteArray).extract (m % 26) (m % 26 + 1)) = ⟨#[UInt8.ofNat (97 + m % 26)]⟩ := ByteArray.ext HA.out
    have HS1 := Lib.hid hs1
    clear hs1
    go_enter Tryd.func8, Tryd.ntmps8
    go_wp2_with fail
    go_at_call 27
    refine HI1.out.mono ?_
    rintro e w' ⟨rfl, rfl⟩
    rw [HS1.out]
    go_wp2
    go_ret
    refine ⟨congrArg (fun x => Ending.returned (Value.string x)) ?_, rfl⟩
    refine ByteArray.ext ?_
    rw [ByteArray.data_append]
    simp [UInt8.ofNat_add]
end Go.Proofs.YtfkbifbodpelmaaDoor

/- What the writers of types write. -/
namespace Go.Proofs.YtfkbifbodpelmaaDoor
open Go.RowKit Go.Maps Mth

/-! The text of a type, its letters too. -/
mutual
def wT : Ty → List UInt8
  | .mk k n i _ ts => if k == 1 then 95 :: ltr i else if k == 2 then ltr i else if k == 3 then 39 :: ltr i else if k == 5 then bl n else if k == 4 then (if n.toList == [45, 62] then wH ts else bl n ++ wA ts) else []
def wH : List Ty → List UInt8
  | [] => []
  | t :: l => brk (isArr t) (wT t) ++ wB l
def wB : List Ty → List UInt8
  | [] => []
  | t :: l => 32 :: ([45, 62] ++ 32 :: (wT t ++ wB l))
def wA : List Ty → List UInt8
  | [] => []
  | t :: l => 32 :: (brk (conArgs t) (wT t) ++ wA l)
end
mutual
def wOk : Ty → Bool
  | .mk k n i _ ts => decide (0 ≤ i) && decide (i ≤ 1000000) && (k != 4 || n.toList != [45, 62] || ts.length == 2) && wOkL ts
def wOkL : List Ty → Bool
  | [] => true
  | t :: l => wOk t && wOkL l
end
theorem wOkL_mem : ∀ {l : List Ty}, wOkL l = true → ∀ {T : Ty}, T ∈ l → wOk T = true := by
  intro l
  induction l with
  | nil => intro _ T h; simp at h
  | cons t l ih =>
    intro h T hT
    simp only [wOkL, Bool.and_eq_true] at h
    rcases List.mem_cons.1 hT with rfl | hT
    · exact h.1
    · exact ih h.2 hT
theorem Wr.lift {B b : Nat} {l : List UInt8} {w w' : World} (h : Wr B b l w) (hb : Below w.heap.size w w') : Wr B b l w' := by
  have k : ∀ p, Lib.BuilderAtF 74 5 B b p (Lib.byteCells l) w → Lib.BuilderAtF 74 5 B b p (Lib.byteCells l) w' := by
    intro p h
    have hlt := h.lt
    obtain ⟨hB, v, hk, hown, hne⟩ := h
    exact ⟨hB, v, by rw [hb.block _ hlt]; exact hk, hown.kept (row := none) (grown_of_below hb none) (by cases v.ownBlock <;> simp), hne⟩
  exact h.imp (k _) (k _)
theorem Box.fr {B b R : Nat} {w w' : World} {c0 c1 c2 c3 c4 : Value} (h : Box w R c0 c1 c2 c3 c4) (hf : Fr B b w w') (hR : R ≠ b) : Box w' R c0 c1 c2 c3 c4 :=
  hf.2 R _ h (by intro e; exact hR (Option.some.inj e)) (by intro c fz e; injection e with _ h2 _; revert h2; decide)
theorem Rep.fr {B : Nat} {w w' : World} {T : Ty} {v : Value} (h : Rep w (fun g => g < B) T v) (hf : Below B w w') : Rep w' (fun g => g < B) T v := Rep.kept (fun _ h => h) (fun g hg _ => hf.block g hg) h
theorem Fr.below {B b : Nat} {w v x : World} (h : Fr B b w v) (hB : B ≤ v.heap.size) (hb : Below v.heap.size v x) : Fr B b w x :=
  ⟨h.1.trans (hb.mono hB), h.2.trans fun k o hk _ _ => by rw [hb.block k (Array.getElem?_eq_some_iff.1 hk).1]; exact hk⟩
def WrEnd (b : Nat) (l t : List UInt8) (w : World) (e : Ending) (w' : World) : Prop := e = .returned (.tuple #[]) ∧ Wr b b (l ++ t) w' ∧ Fr b b w w'
/-- A writer of a type. -/
def WrAt (f : FuncId) (T : Ty) : Prop := ∀ (b : Nat) (l : List UInt8) (w : World) (v : Value), Gs w → 2 ≤ b → Wr b b l w → Rep w (fun g => g < b) T v → l.length + (wT T).length ≤ 500000000 → Calls Tryd.prog f #[.pointer (some ⟨b, 0, none⟩), v] w (WrEnd b l (wT T) w)
theorem ltr_len (n : Int) (h1 : 0 ≤ n) (h2 : n ≤ 1000000) : (ltr n).length ≤ 22 := by
  unfold ltr
  split
  · simp
  · have := Lib.itoa_length_le (max n 0 / 26) (by omega) (by omega)
    simp only [List.length_cons]
    omega
/-- A string written. -/
theorem write_s (b : Nat) (l : List UInt8) (s : ByteArray) (w : World) (h : Wr b b l w) (hl : l.length + s.size ≤ 1000000000) :
    Calls Tryd.prog 54 #[.pointer (some ⟨b, 0, none⟩), .string s] w fun e w' => e = .returned (.tuple #[.int .i64 s.size, .nilIface]) ∧ Wr b b (l ++ bl s) w' ∧ Fr b b w w' := write_any b b l s w h hl
set_option maxRecDepth 100000 in
set_option maxHeartbeats 3200000 in
theorem wt_leaf (k : Int) (n : ByteArray) (i hm : Int) (sv : Value) (t : List UInt8) (b : Nat) (l : List UInt8) (w : World) (hg : Gs w) (hw : Wr b b l w) (hi : 0 ≤ i ∧ i ≤ 1000000) (hl : l.length + t.length ≤ 500000000)
    (hk : (k = 1 ∧ t = 95 :: ltr i) ∨ (k = 2 ∧ t = ltr i) ∨ (k = 3 ∧ t = 39 :: ltr i) ∨ (k = 5 ∧ t = bl n)) :
    Calls Tryd.prog 47 #[.pointer (some ⟨b, 0, none⟩), .agg #[.int .i64 k, .string n, .int .i64 i, .int .i64 hm, sv]] w (WrEnd b l t w) := by
  have hal : Below w.heap.size w (w.alloc (.cells #[.int .i64 k, .string n, .int .i64 i, .int .i64 hm, sv] 35)) := (Below.refl _ w).alloc (Nat.le_refl _) _
  have hlt := hw.lt
  have HBx : Hid (Box (w.alloc (.cells #[.int .i64 k, .string n, .int .i64 i, .int .i64 hm, sv] 35)) w.heap.size (.int .i64 k) (.string n) (.int .i64 i) (.int .i64 hm) sv) := Box.made _ _ _ _ _ _
  have HG := Lib.hid (hg.lift hal)
  have HW := Lib.hid (hw.lift hal)
  have HF : Hid (Fr b b w (w.alloc (.cells #[.int .i64 k, .string n, .int .i64 i, .int .i64 hm, sv] 35))) := (Fr.refl b b w).alloc (by omega) _
  have HL := Lib.hid (ltr_len i hi.1 hi.2)
  obtain ⟨hi1, hi2⟩ := hi
  clear hal hg hw
  rcases hk with ⟨rfl, rfl⟩ | ⟨rfl, rfl⟩ | ⟨rfl, rfl⟩ | ⟨rfl, rfl⟩
  · have HLet := Lib.hid (letter_any i _ (by omega) (by omega) HG.out)
    go_enter Tryd.func47, Tryd.ntmps47
    go_upto_region 1 with fail
    generalize (w.alloc (.cells #[.int .i64 1, .string n, .int .i64 i, .int .i64 hm, sv] 35)) = V at *
    obtain ⟨b0, b1, b2, b3, b4⟩ := HBx.out.cells
    have hbV := HF.out.size
    go_wp2_with fail
    go_at_call 7
    refine HLet.out.mono ?_
    rintro e w1 ⟨rfl, hb1⟩
    have HW1 := Lib.hid (HW.out.lift hb1)
    have HF1 := Lib.hid (HF.out.below (by omega) hb1)
    have hsz : (⟨(95 :: ltr i).toArray⟩ : ByteArray).size ≤ 23 := by have := HL.out; show (Array.size _) ≤ _; simp; omega
    have HWs := Lib.hid (write_s b l ⟨(95 :: ltr i).toArray⟩ w1 HW1.out (by have := hl; omega))
    have hsl : (⟨(ltr i).toArray⟩ : ByteArray).size ≤ 22 := by have := HL.out; show (Array.size _) ≤ _; simpa using this
    have HCat : Hid ((⟨#[95]⟩ : ByteArray) ++ ⟨(ltr i).toArray⟩ = ⟨(95 :: ltr i).toArray⟩) := by show _ = _; refine ByteArray.ext ?_; rw [ByteArray.data_append]; simp
    generalize (⟨(ltr i).toArray⟩ : ByteArray) = x at *
    go_wp2_with fail
    go_at_call 54
    rw [HCat.out]
    refine HWs.out.mono ?_
    rintro e w2 ⟨rfl, hw2, hf2⟩
    go_wp2
    go_end0
    exact ⟨rfl, by simpa [bl] using hw2, HF1.out.trans hf2⟩
  · have HLet := Lib.hid (letter_any i _ (by omega) (by omega) HG.out)
    go_enter Tryd.func47, Tryd.ntmps47
    go_upto_region 1 with fail
    generalize (w.alloc (.cells #[.int .i64 2, .string n, .int .i64 i, .int .i64 hm, sv] 35)) = V at *
    obtain ⟨b0, b1, b2, b3, b4⟩ := HBx.out.cells
    have hbV := HF.out.size
    go_wp2_with fail
    go_at_call 7
    refine HLet.out.mono ?_
    rintro e w1 ⟨rfl, hb1⟩
    have HW1 := Lib.hid (HW.out.lift hb1)
    have HF1 := Lib.hid (HF.out.below (by omega) hb1)
    have hsz : (⟨(ltr i).toArray⟩ : ByteArray).size ≤ 23 := by have := HL.out; show (Array.size _) ≤ _; simp; omega
    have HWs := Lib.hid (write_s b l ⟨(ltr i).toArray⟩ w1 HW1.out (by have := hl; omega))
    have hsl : (⟨(ltr i).toArray⟩ : ByteArray).size ≤ 22 := by have := HL.out; show (Array.size _) ≤ _; simpa using this
    go_wp2_with fail
    go_at_call 54
    refine HWs.out.mono ?_
    rintro e w2 ⟨rfl, hw2, hf2⟩
    go_wp2
    go_end0
    exact ⟨rfl, by simpa [bl] using hw2, HF1.out.trans hf2⟩
  · have HLet := Lib.hid (letter_any i _ (by omega) (by omega) HG.out)
    go_enter Tryd.func47, Tryd.ntmps47
    go_upto_region 1 with fail
    generalize (w.alloc (.cells #[.int .i64 3, .string n, .int .i64 i, .int .i64 hm, sv] 35)) = V at *
    obtain ⟨b0, b1, b2, b3, b4⟩ := HBx.out.cells
    have hbV := HF.out.size
    go_wp2_with fail
    go_at_call 7
    refine HLet.out.mono ?_
    rintro e w1 ⟨rfl, hb1⟩
    have HW1 := Lib.hid (HW.out.lift hb1)
    have HF1 := Lib.hid (HF.out.below (by omega) hb1)
    have hsz : (⟨(39 :: ltr i).toArray⟩ : ByteArray).size ≤ 23 := by have := HL.out; show (Array.size _) ≤ _; simp; omega
    have HWs := Lib.hid (write_s b l ⟨(39 :: ltr i).toArray⟩ w1 HW1.out (by have := hl; omega))
    have hsl : (⟨(ltr i).toArray⟩ : ByteArray).size ≤ 22 := by have := HL.out; show (Array.size _) ≤ _; simpa using this
    have HCat : Hid ((⟨#[39]⟩ : ByteArray) ++ ⟨(ltr i).toArray⟩ = ⟨(39 :: ltr i).toArray⟩) := by show _ = _; refine ByteArray.ext ?_; rw [ByteArray.data_append]; simp
    generalize (⟨(ltr i).toArray⟩ : ByteArray) = x at *
    go_wp2_with fail
    go_at_call 54
    rw [HCat.out]
    refine HWs.out.mono ?_
    rintro e w2 ⟨rfl, hw2, hf2⟩
    go_wp2
    go_end0
    exact ⟨rfl, by simpa [bl] using hw2, HF1.out.trans hf2⟩
  · have HG := HG
    go_enter Tryd.func47, Tryd.ntmps47
    go_upto_region 1 with fail
    generalize (w.alloc (.cells #[.int .i64 5, .string n, .int .i64 i, .int .i64 hm, sv] 35)) = V at *
    obtain ⟨b0, b1, b2, b3, b4⟩ := HBx.out.cells
    have hbV := HF.out.size
    have HWs := Lib.hid (write_s b l n V HW.out (by rw [bl_len] at hl; omega))
    go_wp2_with fail
    go_at_call 54
    refine HWs.out.mono ?_
    rintro e w2 ⟨rfl, hw2, hf2⟩
    go_wp2
    go_end0
    exact ⟨rfl, by simpa [bl] using hw2, HF.out.trans hf2⟩
theorem Gs.frr {w w' : World} {b : Nat} (h : Gs w) (hb : 2 ≤ b) (hf : Fr b b w w') : Gs w' := h.fr hb hf.1
theorem rep5 {w : World} {S : Nat → Prop} {T : Ty} {v : Value} (h : Rep w S T v) : ∃ a c, v = .agg #[.int .i64 T.k, .string T.n, .int .i64 T.i, .int .i64 T.h, .slice a T.ts.length c] := by
  obtain ⟨k, n, i, hm, s, eT, rfl, hn, hs⟩ := h.open
  obtain ⟨sa, sc, rfl, -, -⟩ := hs
  have e : T = .mk k n i hm T.ts := eT
  exact ⟨sa, sc, by rw [e]; rfl⟩
set_option maxRecDepth 100000 in
set_option maxHeartbeats 3200000 in
theorem part_any (T : Ty) (HT : WrAt 47 T) (q : Bool) (b : Nat) (l : List UInt8) (w : World) (v : Value) (hg : Gs w) (hb2 : 2 ≤ b) (hw : Wr b b l w) (hr : Rep w (fun g => g < b) T v) (hl : l.length + (brk q (wT T)).length ≤ 500000000) :
    Calls Tryd.prog 96 #[.pointer (some ⟨b, 0, none⟩), v, .func (.func 47) #[] #[], .bool q] w (WrEnd b l (brk q (wT T)) w) := by
  obtain ⟨sa, sc, rfl⟩ := rep5 hr
  have hal : Below w.heap.size w (w.alloc (.cells #[.int .i64 T.k, .string T.n, .int .i64 T.i, .int .i64 T.h, .slice sa T.ts.length sc] 35)) := (Below.refl _ w).alloc (Nat.le_refl _) _
  have hlt := hw.lt
  have HBx : Hid (Box (w.alloc (.cells #[.int .i64 T.k, .string T.n, .int .i64 T.i, .int .i64 T.h, .slice sa T.ts.length sc] 35)) w.heap.size (.int .i64 T.k) (.string T.n) (.int .i64 T.i) (.int .i64 T.h) (.slice sa T.ts.length sc)) := Box.made _ _ _ _ _ _
  have HG := Lib.hid (hg.lift hal)
  have HW := Lib.hid (hw.lift hal)
  have HF : Hid (Fr b b w (w.alloc (.cells #[.int .i64 T.k, .string T.n, .int .i64 T.i, .int .i64 T.h, .slice sa T.ts.length sc] 35))) := (Fr.refl b b w).alloc (by omega) _
  have HR := Lib.hid (hr.lift hal)
  have HHT := Lib.hid HT
  clear hal hg hw hr HT
  go_enter Tryd.func96, Tryd.ntmps96
  go_upto_region 1 with fail
  generalize (w.alloc (.cells #[.int .i64 T.k, .string T.n, .int .i64 T.i, .int .i64 T.h, .slice sa T.ts.length sc] 35)) = V at *
  obtain ⟨b0, b1, b2, b3, b4⟩ := HBx.out.cells
  have hbV := HF.out.size
  cases q with
  | false =>
    go_wp2_with fail
    go_at_call 47
    refine (HHT.out b l V _ HG.out hb2 HW.out HR.out (by simpa [brk] using hl)).mono ?_
    rintro e w2 ⟨rfl, hw2, hf2⟩
    go_wp2
    go_end0
    exact ⟨rfl, hw2, HF.out.trans hf2⟩
  | true =>
    have hl2 : l.length + (wT T).length + 2 ≤ 500000000 := by simp [brk] at hl; omega
    have HWs := Lib.hid (write_s b l ⟨#[40]⟩ V HW.out (by show _ + 1 ≤ _; omega))
    go_wp2_with fail
    go_at_call 54
    refine HWs.out.mono ?_
    rintro e w2 ⟨rfl, hw2, hf2⟩
    have HBx2 := Lib.hid (HBx.out.fr hf2 (by omega))
    have HG2 := Lib.hid (HG.out.frr hb2 hf2)
    have HR2 := Lib.hid (HR.out.fr hf2.1)
    have HF2 := Lib.hid (HF.out.trans hf2)
    have HW2 := Lib.hid hw2
    clear b0 b1 b2 b3 b4 hw2 hf2 HWs
    obtain ⟨b0, b1, b2, b3, b4⟩ := HBx2.out.cells
    go_wp2_with fail
    go_at_call 47
    refine (HHT.out b _ w2 _ HG2.out hb2 HW2.out HR2.out (by simp [bl]; omega)).mono ?_
    rintro e w3 ⟨rfl, hw3, hf3⟩
    have HF3 := Lib.hid (HF2.out.trans hf3)
    have HWs := Lib.hid (write_s b _ ⟨#[41]⟩ w3 hw3 (by simp [bl]; show _ + 1 ≤ _; omega))
    clear b0 b1 b2 b3 b4 hw3 hf3
    go_wp2_with fail
    go_at_call 54
    refine HWs.out.mono ?_
    rintro e w4 ⟨rfl, hw4, hf4⟩
    go_wp2
    go_end0
    exact ⟨rfl, by simpa [bl, brk] using hw4, HF3.out.trans hf4⟩
end Go.Proofs.YtfkbifbodpelmaaDoor

/- The writers of applied types. -/
namespace Go.Proofs.YtfkbifbodpelmaaDoor
open Go.RowKit Go.Maps Mth

theorem wA_app (l m : List Ty) : wA (l ++ m) = wA l ++ wA m := by
  induction l with
  | nil => simp [wA]
  | cons t l ih => simp [wA, ih]
theorem wA_take (ts : List Ty) (k : Nat) : (wA (ts.take k)).length ≤ (wA ts).length := by
  have h := wA_app (ts.take k) (ts.drop k)
  rw [List.take_append_drop] at h
  rw [h, List.length_append]
  omega
theorem RepL.fr {B : Nat} {w w' : World} {ts : List Ty} {v : Value} (h : RepL w (fun g => g < B) ts v) (hf : Below B w w') : RepL w' (fun g => g < B) ts v := h.kept (fun _ h => h) (fun g hg _ => hf.block g hg)
set_option maxRecDepth 100000 in
set_option maxHeartbeats 6400000 in
theorem applied_any (nm : ByteArray) (ts : List Ty) (H : ∀ U ∈ ts, WrAt 47 U) (b : Nat) (l : List UInt8) (w : World) (sv : Value) (hg : Gs w) (hb2 : 2 ≤ b) (hw : Wr b b l w) (hr : RepL w (fun g => g < b) ts sv) (hl : l.length + (bl nm ++ wA ts).length ≤ 500000000) :
    Calls Tryd.prog 95 #[.pointer (some ⟨b, 0, none⟩), .string nm, sv] w (WrEnd b l (bl nm ++ wA ts) w) := by
  have HPt : Hid (∀ U ∈ ts, ∀ (q : Bool) (l : List UInt8) (w : World) (v : Value), Gs w → Wr b b l w → Rep w (fun g => g < b) U v → l.length + (brk q (wT U)).length ≤ 500000000 → Calls Tryd.prog 96 #[.pointer (some ⟨b, 0, none⟩), v, .func (.func 47) #[] #[], .bool q] w (WrEnd b l (brk q (wT U)) w)) := fun U hU q l w v h1 h2 h3 h4 => part_any U (H U hU) q b l w v h1 hb2 h2 h3 h4
  have HRl := Lib.hid hr
  obtain ⟨sa, sc, rfl, ⟨hc1, hc2⟩, -⟩ := hr
  have HWs := Lib.hid (write_s b l nm w hw (by rw [List.length_append, bl_len] at hl; omega))
  have HG := Lib.hid hg
  have HLn := Lib.hid hl
  have hlt := hw.lt.2
  unfold maxLen at hc2
  clear hg hw H hl
  obtain ⟨m, hm'⟩ : ∃ m, m = ts.length := ⟨_, rfl⟩
  rw [← hm'] at hc1 HRl ⊢
  have HM := Lib.hid hm'
  clear hm'
  go_enter Tryd.func95, Tryd.ntmps95
  go_wp2_with fail
  go_at_call 54
  refine HWs.out.mono ?_
  rintro e w1 ⟨rfl, hw1, hf1⟩
  have HW1 := Lib.hid hw1
  have HF1 := Lib.hid hf1
  clear hw1 hf1 HWs
  go_wp2
  go_loopw [13] (fun x wr => ∃ j : Nat, j ≤ m ∧ x = .int .i64 j ∧ Hid (Wr b b (l ++ (bl nm ++ wA (ts.take j))) wr) ∧ Hid (Fr b b w wr)) (fun x _ => m - (intOf x).toNat)
  case atStart => exact ⟨0, Nat.zero_le _, rfl, by show Wr b b _ _; simpa [wA] using HW1.out, HF1.out⟩
  case round =>
    obtain ⟨j, hj, rfl, HWj, HFj⟩ := hrel
    by_cases hjm : j < m
    · obtain ⟨U, hU⟩ : ∃ x, ts[j]? = some x := ⟨_, List.getElem?_eq_getElem (by rw [← HM.out]; exact hjm)⟩
      have HUm : Hid (U ∈ ts) := List.mem_of_getElem? hU
      have hst : wA (ts.take (j + 1)) = wA (ts.take j) ++ (32 :: brk (conArgs U) (wT U)) := by
        rw [List.take_add_one, hU, wA_app]; simp [wA]
      have hle : l.length + (bl nm ++ wA (ts.take (j + 1))).length ≤ 500000000 := by
        have h1 := HLn.out
        have h2 := wA_take ts (j + 1)
        simp only [List.length_append] at *
        omega
      rw [hst] at hle
      have HSt := Lib.hid hst
      have HLe := Lib.hid hle
      clear hst hle
      have hr := HRl.out.fr HFj.out.1
      obtain ⟨sa', sc', e, -, hjj⟩ := hr
      cases e
      obtain ⟨ad, x, rfl, hS, h5, hx⟩ := hjj j U hU
      obtain ⟨ua, uc, rfl⟩ := rep5 hx
      obtain ⟨q0, q1, q2, q3, q4⟩ := five_at h5
      have HXr := Lib.hid hx
      have hwr := HFj.out.size
      clear hjj hU h5 hx hS
      have hji : (j : Int) < (ts.length : Int) := by omega
      have hal : Below wr.heap.size wr (wr.alloc (.cells #[.int .i64 U.k, .string U.n, .int .i64 U.i, .int .i64 U.h, .slice ua U.ts.length uc] 35)) := (Below.refl _ wr).alloc (Nat.le_refl _) _
      have HBx : Hid (Box (wr.alloc (.cells #[.int .i64 U.k, .string U.n, .int .i64 U.i, .int .i64 U.h, .slice ua U.ts.length uc] 35)) wr.heap.size (.int .i64 U.k) (.string U.n) (.int .i64 U.i) (.int .i64 U.h) (.slice ua U.ts.length uc)) := Box.made _ _ _ _ _ _
      have HWa := Lib.hid (HWj.out.lift hal)
      have HFa := Lib.hid (HFj.out.below (by omega) hal)
      have HXa := Lib.hid (HXr.out.lift hal)
      have hwb : b < wr.heap.size := by omega
      clear hal
      go_upto_region 4 with fail
      generalize (wr.alloc (.cells #[.int .i64 U.k, .string U.n, .int .i64 U.i, .int .i64 U.h, .slice ua U.ts.length uc] 35)) = V at *
      generalize wr.heap.size = R at *
      have HWs := Lib.hid (write_s b _ ⟨#[32]⟩ V HWa.out (by have := HLe.out; simp only [List.length_append, List.length_cons] at *; show _ + 1 ≤ _; omega))
      clear q0 q1 q2 q3 q4
      go_wp2_with fail
      go_at_call 54
      refine HWs.out.mono ?_
      rintro e V2 ⟨rfl, hw2, hf2⟩
      have HBx2 := Lib.hid (HBx.out.fr hf2 (by omega))
      have HX2 := Lib.hid (HXa.out.fr hf2.1)
      have HF2 := Lib.hid (HFa.out.trans hf2)
      have HW2 := Lib.hid hw2
      have HG2 := Lib.hid (HG.out.frr hb2 HF2.out)
      clear hw2 hf2 HWs HBx HXa HWa HFa
      obtain ⟨q0, q1, q2, q3, q4⟩ := HBx2.out.cells
      have hlen : l.length + (bl nm).length + (wA (ts.take j)).length + 1 + (brk (conArgs U) (wT U)).length ≤ 500000000 := by
        have h := HLe.out
        rw [List.length_append, List.length_append, List.length_cons] at h
        omega
      have HPa := Lib.hid (HPt.out U HUm.out (conArgs U) _ V2 _ HG2.out HW2.out HX2.out (by rw [List.length_append, List.length_append, List.length_append]; show _ + 1 + _ ≤ _; omega))
      have HCn : Hid (conArgs U = (U.k == 4 && U.ts.length != 0)) := rfl
      clear hlen
      generalize U.ts.length = un at *
      generalize U.k = uk at *
      generalize U.n = unm at *
      generalize U.i = ui at *
      generalize U.h = uh at *
      cases h4 : (uk == 4) with
      | false =>
        have HQ : Hid (conArgs U = false) := by show _ = _; rw [HCn.out, h4]; rfl
        have HPq := HPa
        rw [HQ.out] at HPq
        go_wp2_with fail
        go_at_call 96
        refine HPq.out.mono ?_
        rintro e V3 ⟨rfl, hw3, hf3⟩
        have HW3 : Hid (Wr b b (l ++ (bl nm ++ wA (ts.take (j + 1)))) V3) := by
          show Wr b b _ _
          rw [HSt.out]
          have e : l ++ (bl nm ++ (wA (List.take j ts) ++ 32 :: brk (conArgs U) (wT U))) = l ++ (bl nm ++ wA (List.take j ts)) ++ bl ⟨#[32]⟩ ++ brk (conArgs U) (wT U) := by rw [List.append_assoc, List.append_assoc, List.append_assoc]; rfl
          rw [e, HQ.out]
          exact hw3
        have HF3 := Lib.hid (HF2.out.trans hf3)
        clear hw3 hf3 q0 q1 q2 q3 q4
        go_wp2
        go_roundw
        case rel => exact ⟨j + 1, hjm, by go_num, HW3, HF3⟩
        case measure => simp [intOf]; omega
      | true =>
        have HQ : Hid (conArgs U = decide (0 < un)) := by show _ = _; rw [HCn.out, h4]; cases un <;> simp
        have HPq := HPa
        rw [HQ.out] at HPq
        go_wp2_with fail
        go_at_call 96
        refine HPq.out.mono ?_
        rintro e V3 ⟨rfl, hw3, hf3⟩
        have HW3 : Hid (Wr b b (l ++ (bl nm ++ wA (ts.take (j + 1)))) V3) := by
          show Wr b b _ _
          rw [HSt.out]
          have e : l ++ (bl nm ++ (wA (List.take j ts) ++ 32 :: brk (conArgs U) (wT U))) = l ++ (bl nm ++ wA (List.take j ts)) ++ bl ⟨#[32]⟩ ++ brk (conArgs U) (wT U) := by rw [List.append_assoc, List.append_assoc, List.append_assoc]; rfl
          rw [e, HQ.out]
          exact hw3
        have HF3 := Lib.hid (HF2.out.trans hf3)
        clear hw3 hf3 q0 q1 q2 q3 q4
        go_wp2
        go_roundw
        case rel => exact ⟨j + 1, hjm, by go_num, HW3, HF3⟩
        case measure => simp [intOf]; omega
    · have HWf : Hid (Wr b b (l ++ (bl nm ++ wA ts)) wr) := by
        have h := HWj.out
        rwa [List.take_of_length_le (by rw [← HM.out]; omega)] at h
      go_wp2
      go_end0
      exact ⟨rfl, HWf.out, HFj.out⟩
end Go.Proofs.YtfkbifbodpelmaaDoor

/- The writer of type constructors; the writer of every type; the text of a type. -/
namespace Go.Proofs.YtfkbifbodpelmaaDoor
open Go.RowKit Go.Maps Mth

theorem wH_two (a c : Ty) : wH [a, c] = brk (isArr a) (wT a) ++ 32 :: 45 :: 62 :: 32 :: wT c := by simp [wH, wB]
theorem wT_arr {T : Ty} {a c : Ty} (h : isArr T = true) (ht : T.ts = [a, c]) : wT T = brk (isArr a) (wT a) ++ 32 :: 45 :: 62 :: 32 :: wT c := by
  cases T with
  | mk k n i hh ts =>
    obtain rfl : ts = [a, c] := ht
    simp only [isArr, Ty.k, Ty.n, Bool.and_eq_true, beq_iff_eq] at h
    obtain ⟨rfl, h2⟩ := h
    rw [← wH_two]
    simp [wT, h2]
theorem wT_con {T : Ty} (h4 : (T.k == 4) = true) (h : isArr T = false) : wT T = bl T.n ++ wA T.ts := by
  cases T with
  | mk k n i hh ts =>
    simp only [Ty.k, beq_iff_eq] at h4
    subst h4
    simp only [isArr, Ty.k, Ty.n, beq_self_eq_true, Bool.true_and] at h
    simp [wT, h, Ty.n, Ty.ts]
theorem rep5' {w : World} {S : Nat → Prop} {T : Ty} {v : Value} (h : Rep w S T v) : ∃ a c, v = .agg #[.int .i64 T.k, .string T.n, .int .i64 T.i, .int .i64 T.h, .slice a T.ts.length c] ∧ RepL w S T.ts (.slice a T.ts.length c) := by
  obtain ⟨k, n, i, hm, s, eT, rfl, hn, hs⟩ := h.open
  have hs' := hs
  obtain ⟨sa, sc, rfl, -, -⟩ := hs
  have e : T = .mk k n i hm T.ts := eT
  exact ⟨sa, sc, by rw [e]; rfl, hs'⟩
set_option maxRecDepth 100000 in
set_option maxHeartbeats 6400000 in
theorem typeCon_any (T : Ty) (h4 : (T.k == 4) = true) (hT : isArr T = true → ∃ a c, T.ts = [a, c]) (hU : ∀ U ∈ T.ts, isArr U = true → ∃ a c, U.ts = [a, c]) (H : ∀ U ∈ T.ts, WrAt 47 U) (b : Nat) (l : List UInt8) (w : World) (v : Value) (hg : Gs w) (hb2 : 2 ≤ b) (hw : Wr b b l w)
    (hr : Rep w (fun g => g < b) T v) (hl : l.length + (wT T).length ≤ 500000000) :
    Calls Tryd.prog 75 #[.pointer (some ⟨b, 0, none⟩), v] w (WrEnd b l (wT T) w) := by
  obtain ⟨sa, sc, rfl, hrl⟩ := rep5' hr
  have hlt := hw.lt
  have hal : ∀ o, Below w.heap.size w (w.alloc o) := fun o => (Below.refl _ w).alloc (Nat.le_refl _) _
  have HB0 := Lib.hid (hal (.cells #[.int .i64 T.k, .string T.n, .int .i64 T.i, .int .i64 T.h, .slice sa T.ts.length sc] 35))
  have HBx : Hid (Box (w.alloc (.cells #[.int .i64 T.k, .string T.n, .int .i64 T.i, .int .i64 T.h, .slice sa T.ts.length sc] 35)) w.heap.size (.int .i64 T.k) (.string T.n) (.int .i64 T.i) (.int .i64 T.h) (.slice sa T.ts.length sc)) := Box.made _ _ _ _ _ _
  have HIs := Lib.hid (fun V u (hr : Rep V (fun g => g < b) T u) => pkArrow_any T hT u _ V hr)
  have HR := Lib.hid hr
  have HRl := Lib.hid hrl
  have HG := Lib.hid hg
  have HW := Lib.hid hw
  have HLn := Lib.hid hl
  have HH := Lib.hid H
  have HU := Lib.hid hU
  have hwb : b < w.heap.size := hlt.2
  clear hal hg hw hr hrl H hU
  cases ha : isArr T with
  | false =>
    rw [wT_con h4 ha] at HLn ⊢
    unfold IsArrEnd at HIs
    rw [ha] at HIs
    clear h4 hT ha hl
    have HAp := Lib.hid (fun (V : World) (sv : Value) hg hw hr => applied_any T.n T.ts HH.out b l V sv hg hb2 hw hr HLn.out)
    clear HU HH HLn
    generalize bl T.n ++ wA T.ts = txt at *
    generalize hts : T.ts = ts at *
    have HTs := Lib.hid hts
    clear hts
    obtain ⟨tn, htn⟩ : ∃ tn, tn = ts.length := ⟨_, rfl⟩
    rw [← htn] at HRl HR HB0 HBx ⊢
    clear htn
    generalize T.k = tk at *
    generalize T.n = tnm at *
    generalize T.i = ti at *
    generalize T.h = th at *
    go_enter Tryd.func75, Tryd.ntmps75
    go_upto_region 1 with fail
    generalize (w.alloc (.cells #[.int .i64 tk, .string tnm, .int .i64 ti, .int .i64 th, .slice sa tn sc] 35)) = V at *
    obtain ⟨b0, b1, b2, b3, b4⟩ := HBx.out.cells
    go_upto_region 2 with (go_at_call 94; refine (HIs.out V _ (HR.out.lift HB0.out)).mono ?_; rintro e w1 ⟨k0, n0, i0, h0, a0, m0, c0, k1, n1, i1, h1, a1, m1, c1, rfl, hb1, -⟩; have HB1 := Lib.hid (HB0.out.trans (hb1.mono HB0.out.size)); have HBx1 := Lib.hid (HBx.out.lift hb1); clear hb1 b0 b1 b2 b3 b4)
    have hsz := HB1.out.size
    have HB2 : Hid (Below w.heap.size w ((w1.alloc (.cells #[.int .i64 k0, .string n0, .int .i64 i0, .int .i64 h0, .slice a0 m0 c0] 35)).alloc (.cells #[.int .i64 k1, .string n1, .int .i64 i1, .int .i64 h1, .slice a1 m1 c1] 35))) := (HB1.out.alloc hsz _).alloc (by simp; omega) _
    have HBx2 : Hid (Box ((w1.alloc (.cells #[.int .i64 k0, .string n0, .int .i64 i0, .int .i64 h0, .slice a0 m0 c0] 35)).alloc (.cells #[.int .i64 k1, .string n1, .int .i64 i1, .int .i64 h1, .slice a1 m1 c1] 35)) w.heap.size (.int .i64 tk) (.string tnm) (.int .i64 ti) (.int .i64 th) (.slice sa tn sc)) := Box.lift HBx1.out (((Below.refl _ w1).alloc (Nat.le_refl _) _).alloc (by simp) _)
    generalize ((w1.alloc (.cells #[.int .i64 k0, .string n0, .int .i64 i0, .int .i64 h0, .slice a0 m0 c0] 35)).alloc (.cells #[.int .i64 k1, .string n1, .int .i64 i1, .int .i64 h1, .slice a1 m1 c1] 35)) = V2 at *
    have HWr2 := Lib.hid (HW.out.lift HB2.out)
    have HG2 := Lib.hid (HG.out.lift HB2.out)
    have HR2 := Lib.hid (RepL.fr HRl.out (HB2.out.mono (Nat.le_of_lt hwb)))
    have HF2 : Hid (Fr b b w V2) := (Fr.refl b b w).below (by omega) HB2.out
    obtain ⟨b0, b1, b2, b3, b4⟩ := HBx2.out.cells
    go_wp2_with (go_at_call 95; refine (HAp.out V2 _ HG2.out HWr2.out HR2.out).mono ?_; rintro e w3 ⟨rfl, hw3, hf3⟩)
    go_end0
    exact ⟨rfl, hw3, HF2.out.trans hf3⟩
  | true =>
    obtain ⟨ta, tc, ht⟩ := hT ha
    rw [wT_arr ha ht] at HLn ⊢
    unfold IsArrEnd at HIs
    rw [ha, ht] at HIs
    rw [ht] at HH HU
    have hta := HU.out ta (by simp)
    have HIa := Lib.hid (fun V u (hr : Rep V (fun g => g < b) ta u) => pkArrow_any ta hta u _ V hr)
    unfold IsArrEnd at HIa
    have hll := HLn.out
    simp only [List.length_append, List.length_cons] at hll
    have HPa : Hid (∀ (V : World) (v : Value), Gs V → Wr b b l V → Rep V (fun g => g < b) ta v → Calls Tryd.prog 96 #[.pointer (some ⟨b, 0, none⟩), v, .func (.func 47) #[] #[], .bool (isArr ta)] V (WrEnd b l (brk (isArr ta) (wT ta)) V)) := fun V v h1 h2 h3 => part_any ta (HH.out ta (by simp)) (isArr ta) b l V v h1 hb2 h2 h3 (by omega)
    have HTc := Lib.hid (HH.out tc (by simp))
    have HL0 : Hid ((brk (isArr ta) (wT ta)).length + (wT tc).length + 4 + l.length ≤ 500000000) := by show _ ≤ _; omega
    have htl : T.ts.length = 2 := by rw [ht]; rfl
    rw [htl] at HRl HR HB0 HBx ⊢
    clear h4 hT ha hl HU HH hta HLn hll htl ht
    generalize brk (isArr ta) (wT ta) = txa at *
    generalize isArr ta = qa at *
    generalize T.k = tk at *
    generalize T.n = tnm at *
    generalize T.i = ti at *
    generalize T.h = th at *
    go_enter Tryd.func75, Tryd.ntmps75
    go_upto_region 1 with fail
    generalize (w.alloc (.cells #[.int .i64 tk, .string tnm, .int .i64 ti, .int .i64 th, .slice sa 2 sc] 35)) = V at *
    obtain ⟨b0, b1, b2, b3, b4⟩ := HBx.out.cells
    go_upto_region 2 with (go_at_call 94; refine (HIs.out V _ (HR.out.lift HB0.out)).mono ?_; rintro e w1 ⟨k0, n0, i0, h0, a0, m0, c0, k1, n1, i1, h1, a1, m1, c1, rfl, hb1, hrr⟩; obtain ⟨hra, hrc⟩ := hrr rfl _ _ rfl; have HB1 := Lib.hid (HB0.out.trans (hb1.mono HB0.out.size)); have HRa := Lib.hid hra; have HRc := Lib.hid hrc; clear hb1 b0 b1 b2 b3 b4 hra hrc hrr)
    have hsz := HB1.out.size
    have hbl : Below w1.heap.size w1 ((w1.alloc (.cells #[.int .i64 k0, .string n0, .int .i64 i0, .int .i64 h0, .slice a0 m0 c0] 35)).alloc (.cells #[.int .i64 k1, .string n1, .int .i64 i1, .int .i64 h1, .slice a1 m1 c1] 35)) := ((Below.refl _ w1).alloc (Nat.le_refl _) _).alloc (by simp) _
    have HB2 : Hid (Below w.heap.size w ((w1.alloc (.cells #[.int .i64 k0, .string n0, .int .i64 i0, .int .i64 h0, .slice a0 m0 c0] 35)).alloc (.cells #[.int .i64 k1, .string n1, .int .i64 i1, .int .i64 h1, .slice a1 m1 c1] 35))) := (HB1.out.alloc hsz _).alloc (by simp; omega) _
    have HXa : Hid (Box ((w1.alloc (.cells #[.int .i64 k0, .string n0, .int .i64 i0, .int .i64 h0, .slice a0 m0 c0] 35)).alloc (.cells #[.int .i64 k1, .string n1, .int .i64 i1, .int .i64 h1, .slice a1 m1 c1] 35)) w1.heap.size (.int .i64 k0) (.string n0) (.int .i64 i0) (.int .i64 h0) (.slice a0 m0 c0)) := by
      show Box _ _ _ _ _ _ _
      unfold Box; rw [heap_at, if_neg (by simp), heap_at, if_pos rfl]
    have HXc : Hid (Box ((w1.alloc (.cells #[.int .i64 k0, .string n0, .int .i64 i0, .int .i64 h0, .slice a0 m0 c0] 35)).alloc (.cells #[.int .i64 k1, .string n1, .int .i64 i1, .int .i64 h1, .slice a1 m1 c1] 35)) (w1.heap.size + 1) (.int .i64 k1) (.string n1) (.int .i64 i1) (.int .i64 h1) (.slice a1 m1 c1)) := by
      show Box _ _ _ _ _ _ _
      unfold Box; rw [heap_at, if_pos (by simp)]
    have HRa2 := Lib.hid (HRa.out.lift hbl)
    have HRc2 := Lib.hid (HRc.out.lift hbl)
    clear hbl HRa HRc HBx HB0
    generalize ((w1.alloc (.cells #[.int .i64 k0, .string n0, .int .i64 i0, .int .i64 h0, .slice a0 m0 c0] 35)).alloc (.cells #[.int .i64 k1, .string n1, .int .i64 i1, .int .i64 h1, .slice a1 m1 c1] 35)) = V2 at *
    generalize w1.heap.size = R at *
    obtain ⟨b0, b1, b2, b3, b4⟩ := HXa.out.cells
    go_upto_region 5 with (go_at_call 94; refine (HIa.out V2 _ HRa2.out).mono ?_; rintro e w3 ⟨x0, y0, z0, u0, v0, s0, t0, x1, y1, z1, u1, v1, s1, t1, rfl, hb3, -⟩; have HB3 := Lib.hid (HB2.out.trans (hb3.mono HB2.out.size)); have HXa3 := Lib.hid (HXa.out.lift hb3); have HXc3 := Lib.hid (HXc.out.lift hb3); have HRa3 := Lib.hid (HRa2.out.lift hb3); have HRc3 := Lib.hid (HRc2.out.lift hb3); clear hb3 b0 b1 b2 b3 b4)
    have hsz3 := HB3.out.size
    have hbl : Below w3.heap.size w3 ((w3.alloc (.cells #[.int .i64 x0, .string y0, .int .i64 z0, .int .i64 u0, .slice v0 s0 t0] 35)).alloc (.cells #[.int .i64 x1, .string y1, .int .i64 z1, .int .i64 u1, .slice v1 s1 t1] 35)) := ((Below.refl _ w3).alloc (Nat.le_refl _) _).alloc (by simp) _
    have HB4 : Hid (Below w.heap.size w ((w3.alloc (.cells #[.int .i64 x0, .string y0, .int .i64 z0, .int .i64 u0, .slice v0 s0 t0] 35)).alloc (.cells #[.int .i64 x1, .string y1, .int .i64 z1, .int .i64 u1, .slice v1 s1 t1] 35))) := (HB3.out.alloc hsz3 _).alloc (by simp; omega) _
    have HXa4 := Lib.hid (HXa3.out.lift hbl)
    have HXc4 := Lib.hid (HXc3.out.lift hbl)
    have HRa4 := Lib.hid (HRa3.out.lift hbl)
    have HRc4 := Lib.hid (HRc3.out.lift hbl)
    clear hbl HXa3 HXc3 HRa3 HRc3 HXa HXc HRa2 HRc2
    generalize ((w3.alloc (.cells #[.int .i64 x0, .string y0, .int .i64 z0, .int .i64 u0, .slice v0 s0 t0] 35)).alloc (.cells #[.int .i64 x1, .string y1, .int .i64 z1, .int .i64 u1, .slice v1 s1 t1] 35)) = V4 at *
    have HWr4 := Lib.hid (HW.out.lift HB4.out)
    have HG4 := Lib.hid (HG.out.lift HB4.out)
    have HF4 : Hid (Fr b b w V4) := (Fr.refl b b w).below (by omega) HB4.out
    obtain ⟨b0, b1, b2, b3, b4⟩ := HXa4.out.cells
    go_wp2_with fail
    go_at_call 96
    refine (HPa.out V4 _ HG4.out HWr4.out HRa4.out).mono ?_
    rintro e w5 ⟨rfl, hw5, hf5⟩
    have HF5 := Lib.hid (HF4.out.trans hf5)
    have HXc5 := Lib.hid (HXc4.out.fr hf5 (by omega))
    have HRc5 := Lib.hid (HRc4.out.fr hf5.1)
    have HG5 := Lib.hid (HG4.out.frr hb2 hf5)
    have HWs := Lib.hid (write_s b (l ++ txa) ⟨#[32, 45, 62, 32]⟩ w5 hw5 (by have := HL0.out; rw [List.length_append]; show _ + 4 ≤ _; omega))
    clear b0 b1 b2 b3 b4 hw5 hf5
    go_wp2_with fail
    go_at_call 54
    refine HWs.out.mono ?_
    rintro e w6 ⟨rfl, hw6, hf6⟩
    have HF6 := Lib.hid (HF5.out.trans hf6)
    have HXc6 := Lib.hid (HXc5.out.fr hf6 (by omega))
    have HRc6 := Lib.hid (HRc5.out.fr hf6.1)
    have HG6 := Lib.hid (HG5.out.frr hb2 hf6)
    have HW6 := Lib.hid hw6
    clear hw6 hf6
    obtain ⟨b0, b1, b2, b3, b4⟩ := HXc6.out.cells
    go_wp2_with fail
    go_at_call 47
    refine (HTc.out b _ w6 _ HG6.out hb2 HW6.out HRc6.out (by have := HL0.out; simp [bl]; omega)).mono ?_
    rintro e w7 ⟨rfl, hw7, hf7⟩
    go_wp2
    go_end0
    exact ⟨rfl, by simpa [bl] using hw7, HF6.out.trans hf7⟩
end Go.Proofs.YtfkbifbodpelmaaDoor

/- The text of every type: the package's Type. -/
namespace Go.Proofs.YtfkbifbodpelmaaDoor
open Go.RowKit Go.Maps Mth

theorem wok_arr {T : Ty} (h : wOk T = true) (ha : isArr T = true) : ∃ a c, T.ts = [a, c] := by
  cases T with
  | mk k n i hh ts =>
    simp only [isArr, Ty.k, Ty.n, Bool.and_eq_true] at ha
    simp only [wOk, Bool.and_eq_true, Bool.or_eq_true] at h
    have h2 := h.1.2
    rw [bne, ha.1, bne, ha.2] at h2
    have h3 : ts.length = 2 := by simpa using h2
    match ts, h3 with
    | [a, c], _ => exact ⟨a, c, rfl⟩
theorem wok_kid {T : Ty} (h : wOk T = true) : ∀ U ∈ T.ts, wOk U = true := by
  cases T with
  | mk k n i hh ts =>
    simp only [wOk, Bool.and_eq_true] at h
    exact fun U hU => wOkL_mem h.2 hU
theorem wok_i {T : Ty} (h : wOk T = true) : 0 ≤ T.i ∧ T.i ≤ 1000000 := by
  cases T with
  | mk k n i hh ts =>
    simp only [wOk, Bool.and_eq_true, decide_eq_true_eq] at h
    exact ⟨h.1.1.1, h.1.1.2⟩
theorem Wr.len {b : Nat} {l : List UInt8} {w : World} (h : Wr b b l w) : b < w.heap.size := h.lt.2
set_option maxRecDepth 100000 in
set_option maxHeartbeats 3200000 in
theorem type_of (T : Ty) (ih : ∀ U ∈ T.ts, wOk U = true → WrAt 47 U) (hok : wOk T = true) : WrAt 47 T := by
  intro b l w v hg hb2 hw hr hl
  obtain ⟨sa, sc, hv, hrl⟩ := rep5' hr
  subst hv
  have hi := wok_i hok
  by_cases h1235 : T.k = 1 ∨ T.k = 2 ∨ T.k = 3 ∨ T.k = 5
  · have ht : (T.k = 1 ∧ wT T = 95 :: ltr T.i) ∨ (T.k = 2 ∧ wT T = ltr T.i) ∨ (T.k = 3 ∧ wT T = 39 :: ltr T.i) ∨ (T.k = 5 ∧ wT T = bl T.n) := by
      cases T with
      | mk k n i hh ts =>
        simp only [Ty.k] at h1235
        rcases h1235 with rfl | rfl | rfl | rfl
        · exact .inl ⟨rfl, by simp [wT, Ty.i]⟩
        · exact .inr (.inl ⟨rfl, by simp [wT, Ty.i]⟩)
        · exact .inr (.inr (.inl ⟨rfl, by simp [wT, Ty.i]⟩))
        · exact .inr (.inr (.inr ⟨rfl, by simp [wT, Ty.n]⟩))
    exact wt_leaf T.k T.n T.i T.h _ (wT T) b l w hg hw hi hl ht
  · have hlt := hw.lt
    have hal : Below w.heap.size w (w.alloc (.cells #[.int .i64 T.k, .string T.n, .int .i64 T.i, .int .i64 T.h, .slice sa T.ts.length sc] 35)) := (Below.refl _ w).alloc (Nat.le_refl _) _
    have HBx : Hid (Box (w.alloc (.cells #[.int .i64 T.k, .string T.n, .int .i64 T.i, .int .i64 T.h, .slice sa T.ts.length sc] 35)) w.heap.size (.int .i64 T.k) (.string T.n) (.int .i64 T.i) (.int .i64 T.h) (.slice sa T.ts.length sc)) := Box.made _ _ _ _ _ _
    have HW := Lib.hid (hw.lift hal)
    have HF : Hid (Fr b b w (w.alloc (.cells #[.int .i64 T.k, .string T.n, .int .i64 T.i, .int .i64 T.h, .slice sa T.ts.length sc] 35))) := (Fr.refl b b w).alloc (by omega) _
    have k1 : (T.k == 1) = false := by simpa using fun e => h1235 (.inl e)
    have k2 : (T.k == 2) = false := by simpa using fun e => h1235 (.inr (.inl e))
    have k3 : (T.k == 3) = false := by simpa using fun e => h1235 (.inr (.inr (.inl e)))
    have k5 : (T.k == 5) = false := by simpa using fun e => h1235 (.inr (.inr (.inr e)))
    cases h4 : (T.k == 4) with
    | true =>
      have HC := Lib.hid (typeCon_any T h4 (wok_arr hok) (fun U hU => wok_arr (wok_kid hok U hU)) (fun U hU => ih U hU (wok_kid hok U hU)) b l _ _ (hg.lift hal) hb2 HW.out (hr.lift hal) hl)
      clear hal hg hw hr hrl ih hok h1235
      generalize wT T = txt at *
      generalize T.ts.length = tn at *
      generalize T.k = tk at *
      generalize T.n = tnm at *
      generalize T.i = ti at *
      generalize T.h = th at *
      go_enter Tryd.func47, Tryd.ntmps47
      go_upto_region 1 with fail
      generalize (w.alloc (.cells #[.int .i64 tk, .string tnm, .int .i64 ti, .int .i64 th, .slice sa tn sc] 35)) = V at *
      obtain ⟨b0, b1, b2, b3, b4⟩ := HBx.out.cells
      go_wp2_with (go_at_call 75; refine HC.out.mono ?_; rintro e w3 ⟨rfl, hw3, hf3⟩)
      go_end0
      exact ⟨rfl, hw3, HF.out.trans hf3⟩
    | false =>
      have ht : wT T = [] := by
        cases T with
        | mk k n i hh ts =>
          simp only [Ty.k] at k1 k2 k3 k5 h4
          simp [wT, k1, k2, k3, k5, h4]
      rw [ht]
      clear hal hg hw hr hrl ih hok h1235 ht
      generalize T.ts.length = tn at *
      generalize T.k = tk at *
      generalize T.n = tnm at *
      generalize T.i = ti at *
      generalize T.h = th at *
      go_enter Tryd.func47, Tryd.ntmps47
      go_upto_region 1 with fail
      generalize (w.alloc (.cells #[.int .i64 tk, .string tnm, .int .i64 ti, .int .i64 th, .slice sa tn sc] 35)) = V at *
      obtain ⟨b0, b1, b2, b3, b4⟩ := HBx.out.cells
      go_wp2
      go_end0
      exact ⟨rfl, by simpa using HW.out, HF.out⟩
theorem type_any : ∀ T, wOk T = true → WrAt 47 T := tyInd type_of
theorem wr_new (w : World) : Wr w.heap.size w.heap.size [] (w.alloc (.cells #[.pointer none, .slice none 0 0] 74)) :=
  .inl ⟨Nat.le_refl _, .slice none 0 0, heap_alloc_new w _, World.ownsRowF_nil _ _ _ _, by simp [Value.ownBlock]⟩
theorem byte_ptr : Tryd.prog.underlying 109 = some (.pointer 5) := Tryd.underlying109
theorem byte_cell : Tryd.prog.cellsOf 5 = 1 := by kernel_rfl
set_option maxRecDepth 100000 in
set_option maxHeartbeats 3200000 in
/-- The text that was written. -/
theorem string_any (b : Nat) (l : List UInt8) (w : World) (h : Wr b b l w) (h0 : l ≠ []) :
    Calls Tryd.prog 32 #[.pointer (some ⟨b, 0, none⟩)] w fun e w' => e = .returned (.string ⟨l.toArray⟩) ∧ Below b w w' := by
  obtain ⟨p, hB, v, hbk, hown, hne⟩ : ∃ p, Lib.BuilderAtF 74 5 b b p (Lib.byteCells l) w := by
    rcases h with h | h
    · exact ⟨_, h⟩
    · exact ⟨_, h⟩
  have hl0 : l.length ≠ 0 := by simpa using h0
  rw [Lib.byteCells_length] at hown
  obtain ⟨g, cap, cur, fz, rfl, hbg, hg, hfz, hnc, hcm, hcs, htake⟩ : ∃ g cap cur fz, v = .slice (some ⟨g, 0, none⟩) l.length cap ∧ b ≤ g ∧ w.heap[g]? = some (.cells cur 5 fz) ∧ fz.2 ≤ l.length * 1 ∧ l.length ≤ cap ∧ cap ≤ maxLen ∧ cur.size = cap * 1 ∧ cur.toList.take (l.length * 1) = Lib.byteCells l := by
    rcases hown.2 with ⟨_, hz⟩ | ⟨g, cap, cur, fz, hv, r⟩
    · exact absurd hz hl0
    · exact ⟨g, cap, cur, fz, hv, r⟩
  have c1 : w.drew.cell? ⟨b, 1, none⟩ = some (.slice (some ⟨g, 0, none⟩) l.length cap) := by
    have : w.drew.heap[b]? = some (.cells #[p, .slice (some ⟨g, 0, none⟩) l.length cap] 74 (0, 0)) := hbk
    rw [Lib.cell_of_heap this]; rfl
  have hSD : (Builtin.unsafeSliceData_ #[72] 109 #[.slice (some ⟨g, 0, none⟩) l.length cap]).run Tryd.prog w.drew = .ok (.pointer (some ⟨g, 0, none⟩)) w.drew :=
    Lib.run_unsafeSliceData_row _ _ _ _ _ _ (by omega)
  have hUS : (Builtin.unsafeString_ #[109, 3] 9 #[.pointer (some ⟨g, 0, none⟩), .int .i64 l.length]).run Tryd.prog w.drew = .ok (.string ⟨l.toArray⟩) (w.drew.freeze ⟨g, 0, none⟩ l.length) := by
    refine Lib.run_unsafeString_row w.drew 109 3 9 5 byte_ptr byte_cell g cur.size (by have hg' : w.drew.heap[g]? = some (.cells cur 5 fz) := hg; simp [World.shape?, hg']) l h0 (by omega) (by unfold maxLen at hcm; omega) ?_
    intro j x hx
    have := hown.cells (g := g) rfl j (.int .u8 x.toNat) (by simp [Lib.byteCells, hx])
    exact this
  have HE : Hid (Below b w (w.drew.freeze ⟨g, 0, none⟩ l.length)) := Lib.below_freeze (Below.drew (Below.refl b w)) (p := ⟨g, 0, none⟩) hbg _
  clear h hown hg htake hcs
  go_enter Tryd.func32, Tryd.ntmps32
  go_wp2
  go_region
  all_goals
    go_wp2
    go_ret
    exact ⟨rfl, HE.out⟩
end Go.Proofs.YtfkbifbodpelmaaDoor
