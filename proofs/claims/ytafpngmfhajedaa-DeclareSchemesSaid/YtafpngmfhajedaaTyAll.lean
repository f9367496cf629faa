/- The text that the maker parses, and the contract of its all. -/
import Derived.Test.YtafpngmfhajedaaTyParse2
namespace Go.Proofs.Ytafpngmfhajedaa
open Go.RowKit Go.Sort Go.Shelf Go.Maps Mth

def allSrc : ByteArray := ⟨#[100, 97, 116, 97, 32, 66, 111, 111, 108, 32, 61, 32, 84, 114, 117, 101, 32, 124, 32, 70, 97, 108, 115, 101, 59, 32, 100, 97, 116, 97, 32, 79, 112, 116, 105, 111, 110, 32, 97, 32, 61, 32, 78, 111, 110, 101, 32, 124, 32, 83, 111, 109, 101, 32, 97, 59, 32, 100, 97, 116, 97, 32, 76, 105, 115, 116, 32, 97, 32, 61, 32, 78, 105, 108, 32, 124, 32, 67, 111, 110, 115, 32, 97, 32, 40, 76, 105, 115, 116, 32, 97, 41, 59, 100, 97, 116, 97, 32, 80, 97, 105, 114, 32, 97, 32, 98, 32, 61, 32, 80, 97, 105, 114, 32, 97, 32, 98, 59, 32, 100, 97, 116, 97, 32, 78, 97, 116, 32, 61, 32, 90, 101, 114, 111, 32, 124, 32, 83, 117, 99, 99, 32, 78, 97, 116, 59, 32, 100, 97, 116, 97, 32, 70, 117, 110, 32, 97, 32, 98, 32, 61, 32, 70, 117, 110, 32, 40, 97, 32, 45, 62, 32, 98, 41, 59, 32, 100, 97, 116, 97, 32, 84, 119, 111, 32, 97, 32, 61, 32, 66, 111, 116, 104, 32, 97, 32, 97, 32, 124, 32, 79, 110, 101, 32, 40, 79, 112, 116, 105, 111, 110, 32, 97, 41, 59]⟩
def allToks : List Tok := ftoks (bl allSrc)
def allDats : List Dat := (pProg 40 40 allToks 0 []).getD []
theorem all_err : ferr (bl allSrc) = 0 := by decide +kernel
theorem all_pos : fpos (bl allSrc) = 0 := by decide +kernel
theorem all_len : (decide (allToks.length ≤ 1000) && decide (0 < allToks.length)) = true := by decide +kernel
theorem all_ok : allToks.all (fun t => decide (t.text.length ≤ 4000)) = true := by decide +kernel
theorem all_some : (pProg 40 40 allToks 0 []).isSome = true := by decide +kernel
theorem all_num : allDats.length = 7 := by decide +kernel
theorem all_lim : allDats.all (fun d => decide (d.params.length ≤ 4) && decide (d.ctors.length ≤ 6) && decide (d.name.size ≤ 4000) && d.ctors.all (fun c => decide (c.fields.length ≤ 4) && c.fields.all (fun T => decide (dep T ≤ 40)))) = true := by decide +kernel
theorem allText : PText allSrc 40 allToks allDats where
  size := by decide +kernel
  err := all_err
  pos := all_pos
  toks := rfl
  len := by have := all_len; simp only [Bool.and_eq_true, decide_eq_true_eq] at this; exact this.1
  ne := by intro h; have := all_len; rw [h] at this; simp at this
  ok := fun t ht => by have := List.all_eq_true.1 all_ok t ht; simpa using this
  hK := by decide
  prog := by
    have h := all_some
    unfold allDats
    cases hp : pProg 40 40 allToks 0 [] with
    | none => rw [hp] at h; cases h
    | some l => rfl
  num := by rw [all_num]; decide
  lim := fun d hd => by
    have := List.all_eq_true.1 all_lim d hd
    simp only [Bool.and_eq_true, decide_eq_true_eq, List.all_eq_true] at this
    exact ⟨this.1.1.1, this.1.1.2, fun c hc => ⟨(this.2 c hc).1, (this.2 c hc).2⟩⟩
theorem all_name : ∀ d ∈ allDats, d.name.size ≤ 4000 ∧ d.params.length ≤ 4 := fun d hd => by
  have := List.all_eq_true.1 all_lim d hd
  simp only [Bool.and_eq_true, decide_eq_true_eq, List.all_eq_true] at this
  exact ⟨this.1.2, this.1.1.1⟩
set_option maxHeartbeats 1600000 in
theorem all_any (w : World) : Calls Try.prog 40 #[] w fun e w' => ∃ dv, e = .returned dv ∧ SlG DatE w' (fun c => w.heap.size ≤ c) allDats dv ∧ Below w.heap.size w w' := by
  have HP := Lib.hid (fun w => refParse_any allSrc 40 allToks allDats allText w)
  go_enter Try.func40, Try.ntmps40
  go_wp2_with fail
  go_at_call 65
  refine (HP.out _).mono ?_
  rintro e w1 ⟨dv, rfl, hsl, hb1⟩
  obtain ⟨da, dc, rfl⟩ := slG_form hsl
  have HSl := Lib.hid hsl
  have HB := Lib.hid hb1
  have HA : Hid (∀ X Y, Below w1.heap.size w1 ((w1.alloc X).alloc Y)) := fun X Y => ((Below.refl _ w1).alloc (Nat.le_refl _) X).alloc (by simp) Y
  clear hsl hb1 HP
  go_wp2
  go_ret
  exact ⟨_, rfl, HSl.out.lift (HA.out _ _), HB.out.trans ((HA.out _ _).mono HB.out.size)⟩
end Go.Proofs.Ytafpngmfhajedaa
