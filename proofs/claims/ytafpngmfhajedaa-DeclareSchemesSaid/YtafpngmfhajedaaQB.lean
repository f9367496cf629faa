import Derived.Test.YtafpngmfhajedaaQA
import Derived.Deep.CutBlock
import Derived.Deep.LoopGhost
import Derived.Deep.RegionHeld3
import Derived.Test.YtafpngmfhajedaaQR
/- The cells of declarations and constructors; where a constructor is declared. -/
namespace Go.Proofs.Ytafpngmfhajedaa
open Go.RowKit Go.Sort Go.Shelf Go.Maps Mth

theorem dat_at {w : World} {S : Nat → Prop} {ds : List Dat} {a : Option Addr} {n c : Nat} (h : SlG DatE w S ds (.slice a n c)) {j : Nat} {d : Dat} (hd : ds[j]? = some d) :
    ∃ ad pa pc ca cc, a = some ad ∧ SlG StrE w S d.params (.slice pa d.params.length pc) ∧ SlG CtorE w S d.ctors (.slice ca d.ctors.length cc) ∧ w.cell? (ad.add (j * 4)) = some (.int .i64 d.pos) ∧ w.cell? ⟨(ad.add (j * 4)).block, (ad.add (j * 4)).off + 1, none⟩ = some (.string d.name) ∧
      w.cell? ⟨(ad.add (j * 4)).block, (ad.add (j * 4)).off + 2, none⟩ = some (.slice pa d.params.length pc) ∧ w.cell? ⟨(ad.add (j * 4)).block, (ad.add (j * 4)).off + 3, none⟩ = some (.slice ca d.ctors.length cc) := by
  obtain ⟨ad, cl, had, -, ⟨pv, cv, rfl, hp, hc⟩, hc0, hcm⟩ := slG_get h hd
  have q0 := hc0 _ rfl
  have q1 := hcm 1 _ (by decide) rfl
  have q2 := hcm 2 _ (by decide) rfl
  have q3 := hcm 3 _ (by decide) rfl
  simp only [show DatE.k = 4 from rfl] at q0 q1 q2 q3
  obtain ⟨pa, pc, rfl, -⟩ := slice_form hp
  obtain ⟨ca, cc, rfl, -⟩ := slice_form hc
  exact ⟨ad, pa, pc, ca, cc, had, hp, hc, q0, q1, q2, q3⟩
theorem ctor_at {w : World} {S : Nat → Prop} {cs : List Ctor} {a : Option Addr} {n c : Nat} (h : SlG CtorE w S cs (.slice a n c)) {j : Nat} {x : Ctor} (hx : cs[j]? = some x) :
    ∃ ad fa fc, a = some ad ∧ SlG TyE w S x.fields (.slice fa x.fields.length fc) ∧ w.cell? (ad.add (j * 3)) = some (.int .i64 x.pos) ∧ w.cell? ⟨(ad.add (j * 3)).block, (ad.add (j * 3)).off + 1, none⟩ = some (.string x.name) ∧
      w.cell? ⟨(ad.add (j * 3)).block, (ad.add (j * 3)).off + 2, none⟩ = some (.slice fa x.fields.length fc) := by
  obtain ⟨ad, cl, had, -, ⟨fv, rfl, hf⟩, hc0, hcm⟩ := slG_get h hx
  have q0 := hc0 _ rfl
  have q1 := hcm 1 _ (by decide) rfl
  have q2 := hcm 2 _ (by decide) rfl
  simp only [show CtorE.k = 3 from rfl] at q0 q1 q2
  obtain ⟨fa, fc, rfl, -⟩ := slice_form hf
  exact ⟨ad, fa, fc, had, hf, q0, q1, q2⟩
theorem bl_beq (s t : ByteArray) : (bl s == bl t) = (s.toList == t.toList) := by
  unfold bl
  rw [Lib.toList_data, Lib.toList_data]
def fndC (s : ByteArray) : List Ctor → Nat → Option Nat
  | [], _ => none
  | c :: l, j => if c.name.toList == s.toList then some j else fndC s l (j + 1)
def fndF (s : ByteArray) : List Dat → Nat → Option (Nat × Nat)
  | [], _ => none
  | d :: l, i => match fndC s d.ctors 0 with | some k => some (i, k) | none => fndF s l (i + 1)
/-- Where a constructor is declared. -/
def fnd (ds : List Dat) (s : ByteArray) : Option (Nat × Nat) := fndF s ds 0
theorem fndC_step {s : ByteArray} {l : List Ctor} {j : Nat} {c : Ctor} (h : l[j]? = some c) : fndC s (l.drop j) j = if c.name.toList == s.toList then some j else fndC s (l.drop (j + 1)) (j + 1) := by
  obtain ⟨hl, e⟩ := List.getElem?_eq_some_iff.1 h
  rw [List.drop_eq_getElem_cons hl, e]; rfl
theorem fndF_step {s : ByteArray} {l : List Dat} {i : Nat} {d : Dat} (h : l[i]? = some d) : fndF s (l.drop i) i = match fndC s d.ctors 0 with | some k => some (i, k) | none => fndF s (l.drop (i + 1)) (i + 1) := by
  obtain ⟨hl, e⟩ := List.getElem?_eq_some_iff.1 h
  rw [List.drop_eq_getElem_cons hl, e]; rfl
theorem fndC_some {s : ByteArray} : ∀ {l : List Ctor} {j k : Nat}, fndC s l j = some k → j ≤ k ∧ ∃ c, l[k - j]? = some c := by
  intro l
  induction l with
  | nil => intro j k h; cases h
  | cons c l ih =>
    intro j k h
    simp only [fndC] at h
    split at h
    · cases h; exact ⟨Nat.le_refl _, c, by simp⟩
    · obtain ⟨h1, x, hx⟩ := ih h
      exact ⟨by omega, x, by rw [show k - j = (k - (j + 1)) + 1 by omega]; simpa using hx⟩
theorem fndF_some {s : ByteArray} : ∀ {l : List Dat} {i a b : Nat}, fndF s l i = some (a, b) → i ≤ a ∧ ∃ d c, l[a - i]? = some d ∧ d.ctors[b]? = some c := by
  intro l
  induction l with
  | nil => intro i a b h; cases h
  | cons d l ih =>
    intro i a b h
    simp only [fndF] at h
    split at h
    · rename_i k hk
      cases h
      obtain ⟨-, c, hc⟩ := fndC_some hk
      exact ⟨Nat.le_refl _, d, c, by simp, by simpa using hc⟩
    · obtain ⟨h1, x, c, hx, hc⟩ := ih h
      exact ⟨by omega, x, c, by rw [show a - i = (a - (i + 1)) + 1 by omega]; simpa using hx, hc⟩
theorem fnd_some {s : ByteArray} {ds : List Dat} {i k : Nat} (h : fnd ds s = some (i, k)) : ∃ d c, ds[i]? = some d ∧ d.ctors[k]? = some c := by
  obtain ⟨-, d, c, hd, hc⟩ := fndF_some h
  exact ⟨d, c, by simpa using hd, hc⟩
def fndV : Option (Nat × Nat) → Value
  | some (i, k) => .tuple #[.int .i64 i, .int .i64 k, .bool true]
  | none => .tuple #[.int .i64 0, .int .i64 0, .bool false]
set_option maxRecDepth 100000 in
set_option maxHeartbeats 3200000 in
theorem refFind_any (ds : List Dat) (s : ByteArray) (v : Value) (S : Nat → Prop) (w : World) (h : SlG DatE w S ds v) :
    Calls Try.prog 57 #[v, .string s] w fun e w' => e = .returned (fndV (fnd ds s)) ∧ w = w' := by
  have HD := Lib.hid h
  obtain ⟨da, dc, rfl, hle⟩ := slice_form h
  unfold maxLen at hle
  obtain ⟨dn, hdn⟩ : ∃ n, n = ds.length := ⟨_, rfl⟩
  rw [← hdn] at HD hle ⊢
  have HDn := Lib.hid hdn
  clear hdn h
  have HE : Hid (fnd ds s = fndF s (ds.drop 0) 0) := rfl
  go_enter Try.func57, Try.ntmps57
  go_wp2
  go_loop [7] (fun x => ∃ j : Nat, j ≤ dn ∧ x = .int .i64 j ∧ Hid (fnd ds s = fndF s (ds.drop j) j)) (fun x => dn - (intOf x).toNat)
  case atStart => exact ⟨0, Nat.zero_le _, rfl, HE⟩
  case round =>
    obtain ⟨j, hj, rfl, HF⟩ := hrel
    by_cases hjt : j < dn
    · obtain ⟨d, hd⟩ : ∃ x, ds[j]? = some x := ⟨_, List.getElem?_eq_getElem (by rw [← HDn.out]; exact hjt)⟩
      have HS := Lib.hid (fndF_step (s := s) hd)
      obtain ⟨ad, pa, pc, ca, cc, rfl, -, hct, q0, q1, q2, q3⟩ := dat_at HD.out hd
      have HCt := Lib.hid hct
      obtain ⟨ca', cc', e, hcl⟩ := slice_form hct
      cases e
      unfold maxLen at hcl
      clear hct hd q0 q1 q2
      obtain ⟨cn, hcn⟩ : ∃ n, n = d.ctors.length := ⟨_, rfl⟩
      rw [← hcn] at HCt q3 hcl
      have HCn := Lib.hid hcn
      clear hcn
      have hji : (j : Int) < (dn : Int) := by omega
      have HE2 : Hid (fndC s d.ctors 0 = fndC s (d.ctors.drop 0) 0) := rfl
      go_wp2
      go_loop [8] (fun x => ∃ k : Nat, k ≤ cn ∧ x = .int .i64 k ∧ Hid (fndC s d.ctors 0 = fndC s (d.ctors.drop k) k)) (fun x => cn - (intOf x).toNat)
      case atStart => exact ⟨0, Nat.zero_le _, rfl, HE2⟩
      case round =>
        obtain ⟨k, hk, rfl, HG⟩ := hrel
        by_cases hkt : k < cn
        · obtain ⟨c, hc⟩ : ∃ x, d.ctors[k]? = some x := ⟨_, List.getElem?_eq_getElem (by rw [← HCn.out]; exact hkt)⟩
          have HS2 := Lib.hid (fndC_step (s := s) hc)
          obtain ⟨ad2, fa, fc, rfl, -, r0, r1, r2⟩ := ctor_at HCt.out hc
          clear hc r0 r2
          have hki : (k : Int) < (cn : Int) := by omega
          cases hq : (c.name.toList == s.toList) with
          | true =>
            have HR : Hid (fnd ds s = some (j, k)) := by show _ = _; rw [HF.out, HS.out, HG.out, HS2.out, hq]; rfl
            go_wp2
            go_returns
            exact ⟨by rw [HR.out]; rfl, rfl⟩
          | false =>
            have HR : Hid (fndC s d.ctors 0 = fndC s (d.ctors.drop (k + 1)) (k + 1)) := by show _ = _; rw [HG.out, HS2.out, hq]; rfl
            go_wp2
            go_round
            case rel => exact ⟨k + 1, hkt, by go_num, HR⟩
            case measure => simp [intOf]; omega
        · have HN : Hid (fndC s d.ctors 0 = none) := by
            show _ = _
            rw [HG.out, List.drop_eq_nil_of_le (by rw [← HCn.out]; omega)]; rfl
          have HR : Hid (fnd ds s = fndF s (ds.drop (j + 1)) (j + 1)) := by show _ = _; rw [HF.out, HS.out, HN.out]
          go_wp2
          go_round
          case rel => exact ⟨j + 1, hjt, by go_num, HR⟩
          case measure => simp [intOf]; omega
    · have HR : Hid (fnd ds s = none) := by
        show _ = _
        rw [HF.out, List.drop_eq_nil_of_le (by rw [← HDn.out]; omega)]; rfl
      go_wp2
      go_returns
      exact ⟨by rw [HR.out]; rfl, rfl⟩
set_option maxRecDepth 100000 in
set_option maxHeartbeats 3200000 in
theorem find_any (ds : List Dat) (s : ByteArray) (v : Value) (S : Nat → Prop) (w : World) (h : SlG DatE w S ds v) :
    Calls Try.prog 41 #[v, .string s] w fun e w' => e = .returned (fndV (fnd ds s)) ∧ Below w.heap.size w w' := by
  have HD := Lib.hid h
  obtain ⟨da, dc, rfl, hle⟩ := slice_form h
  unfold maxLen at hle
  obtain ⟨dn, hdn⟩ : ∃ n, n = ds.length := ⟨_, rfl⟩
  rw [← hdn] at HD hle ⊢
  have HDn := Lib.hid hdn
  clear hdn h
  have HE : Hid (fnd ds s = fndF s (ds.drop 0) 0) := rfl
  have HB0 : Hid (Below w.heap.size w w) := Below.refl _ w
  go_enter Try.func41, Try.ntmps41
  go_wp2
  go_loopw [13] (fun x wr => ∃ j : Nat, j ≤ dn ∧ x = .int .i64 j ∧ Hid (fnd ds s = fndF s (ds.drop j) j) ∧ Hid (Below w.heap.size w wr)) (fun x _ => dn - (intOf x).toNat)
  case atStart => exact ⟨0, Nat.zero_le _, rfl, HE, HB0⟩
  case round =>
    obtain ⟨j, hj, rfl, HF, HB⟩ := hrel
    by_cases hjt : j < dn
    · obtain ⟨d, hd⟩ : ∃ x, ds[j]? = some x := ⟨_, List.getElem?_eq_getElem (by rw [← HDn.out]; exact hjt)⟩
      have HS := Lib.hid (fndF_step (s := s) hd)
      obtain ⟨ad, pa, pc, ca, cc, rfl, -, hct, q0, q1, q2, q3⟩ := dat_at (HD.out.lift' HB.out) hd
      have HCt := Lib.hid hct
      obtain ⟨ca', cc', e, hcl⟩ := slice_form hct
      cases e
      unfold maxLen at hcl
      clear hct hd
      generalize d.params.length = pn at *
      obtain ⟨cn, hcn⟩ : ∃ n, n = d.ctors.length := ⟨_, rfl⟩
      rw [← hcn] at HCt q3 hcl
      have HCn := Lib.hid hcn
      clear hcn
      have hji : (j : Int) < (dn : Int) := by omega
      have HE2 : Hid (fndC s d.ctors 0 = fndC s (d.ctors.drop 0) 0) := rfl
      have HBa : Hid (∀ X, Below w.heap.size w (wr.alloc X)) := fun X => HB.out.alloc HB.out.size X
      have HCa : Hid (∀ X, SlG CtorE (wr.alloc X) S d.ctors (.slice ca cn cc)) := fun X => HCt.out.lift' ((Below.refl _ wr).alloc (Nat.le_refl _) X)
      go_wp2
      go_loopw [21] (fun x wq => ∃ k : Nat, k ≤ cn ∧ x = .int .i64 k ∧ Hid (fndC s d.ctors 0 = fndC s (d.ctors.drop k) k) ∧ Hid (Below w.heap.size w wq) ∧ Hid (SlG CtorE wq S d.ctors (.slice ca cn cc))) (fun x _ => cn - (intOf x).toNat)
      case atStart => exact ⟨0, Nat.zero_le _, rfl, HE2, HBa.out _, HCa.out _⟩
      case round =>
        clear q0 q1 q2 q3
        obtain ⟨k, hk, rfl, HG, HBq, HCq⟩ := hrel
        by_cases hkt : k < cn
        · obtain ⟨c, hc⟩ : ∃ x, d.ctors[k]? = some x := ⟨_, List.getElem?_eq_getElem (by rw [← HCn.out]; exact hkt)⟩
          have HS2 := Lib.hid (fndC_step (s := s) hc)
          obtain ⟨ad2, fa, fc, rfl, -, r0, r1, r2⟩ := ctor_at HCq.out hc
          clear hc
          generalize c.fields.length = fn at *
          have hki : (k : Int) < (cn : Int) := by omega
          have HBb : Hid (∀ X, Below w.heap.size w (wr.alloc X)) := fun X => HBq.out.alloc HBq.out.size X
          have HCb : Hid (∀ X, SlG CtorE (wr.alloc X) S d.ctors (.slice (some ad2) cn cc)) := fun X => HCq.out.lift' ((Below.refl _ wr).alloc (Nat.le_refl _) X)
          cases hq : (c.name.toList == s.toList) with
          | true =>
            have HR : Hid (fnd ds s = some (j, k)) := by show _ = _; rw [HF.out, HS.out, HG.out, HS2.out, hq]; rfl
            go_wp2
            go_returns
            exact ⟨by rw [HR.out]; rfl, HBb.out _⟩
          | false =>
            have HR : Hid (fndC s d.ctors 0 = fndC s (d.ctors.drop (k + 1)) (k + 1)) := by show _ = _; rw [HG.out, HS2.out, hq]; rfl
            go_wp2
            go_roundw
            case rel => exact ⟨k + 1, hkt, by go_num, HR, HBb.out _, HCb.out _⟩
            case measure => simp [intOf]; omega
        · have HN : Hid (fndC s d.ctors 0 = none) := by
            show _ = _
            rw [HG.out, List.drop_eq_nil_of_le (by rw [← HCn.out]; omega)]; rfl
          have HR : Hid (fnd ds s = fndF s (ds.drop (j + 1)) (j + 1)) := by show _ = _; rw [HF.out, HS.out, HN.out]
          go_wp2
          go_roundw
          case rel => exact ⟨j + 1, hjt, by go_num, HR, HBq⟩
          case measure => simp [intOf]; omega
    · have HR : Hid (fnd ds s = none) := by
        show _ = _
        rw [HF.out, List.drop_eq_nil_of_le (by rw [← HDn.out]; omega)]; rfl
      go_wp2
      go_returns
      exact ⟨by rw [HR.out]; rfl, HB.out⟩
end Go.Proofs.Ytafpngmfhajedaa

/- The reference's errors of a type; the package's Formed. -/
namespace Go.Proofs.Ytafpngmfhajedaa
open Go.RowKit Go.Sort Go.Shelf Go.Maps Mth

def ffT : Option Int → Value
  | some c => .tuple #[.int .i64 c, .bool true]
  | none => .tuple #[.int .i64 0, .bool false]
theorem ff_step {s : ByteArray} {ds : List Dat} {j : Nat} {d : Dat} (h : ds[j]? = some d) : ff (ds.drop j) (bl s) = if d.name.toList == s.toList then some (d.params.length : Int) else ff (ds.drop (j + 1)) (bl s) := by
  obtain ⟨hl, e⟩ := List.getElem?_eq_some_iff.1 h
  rw [List.drop_eq_getElem_cons hl, e, ← bl_beq]; rfl
set_option maxRecDepth 100000 in
set_option maxHeartbeats 1600000 in
theorem refParams_any (ds : List Dat) (s : ByteArray) (v : Value) (S : Nat → Prop) (w : World) (h : SlG DatE w S ds v) :
    Calls Try.prog 73 #[v, .string s] w fun e w' => e = .returned (ffT (prm ds (bl s))) ∧ w = w' := by
  have HD := Lib.hid h
  obtain ⟨da, dc, rfl, hle⟩ := slice_form h
  unfold maxLen at hle
  obtain ⟨dn, hdn⟩ : ∃ n, n = ds.length := ⟨_, rfl⟩
  rw [← hdn] at HD hle ⊢
  have HDn := Lib.hid hdn
  clear hdn h
  have hi : (bl s == [73, 110, 116]) = (s.toList == [73, 110, 116]) := by unfold bl; rw [Lib.toList_data]
  have ha : (bl s == [45, 62]) = (s.toList == [45, 62]) := by unfold bl; rw [Lib.toList_data]
  unfold prm
  rw [hi, ha]
  clear hi ha
  cases h1 : (s.toList == [73, 110, 116]) with
  | true =>
    go_enter Try.func73, Try.ntmps73
    go_wp2
    go_returns
    exact ⟨rfl, rfl⟩
  | false =>
    cases h2 : (s.toList == [45, 62]) with
    | true =>
      go_enter Try.func73, Try.ntmps73
      go_wp2
      go_returns
      exact ⟨rfl, rfl⟩
    | false =>
      simp only [Bool.false_eq_true, if_false]
      have HE : Hid (ff ds (bl s) = ff (ds.drop 0) (bl s)) := rfl
      go_enter Try.func73, Try.ntmps73
      go_wp2
      go_loop [6] (fun x => ∃ j : Nat, j ≤ dn ∧ x = .int .i64 j ∧ Hid (ff ds (bl s) = ff (ds.drop j) (bl s))) (fun x => dn - (intOf x).toNat)
      case atStart => exact ⟨0, Nat.zero_le _, rfl, HE⟩
      case round =>
        obtain ⟨j, hj, rfl, HF⟩ := hrel
        by_cases hjt : j < dn
        · obtain ⟨d, hd⟩ : ∃ x, ds[j]? = some x := ⟨_, List.getElem?_eq_getElem (by rw [← HDn.out]; exact hjt)⟩
          have HS := Lib.hid (ff_step (s := s) hd)
          obtain ⟨ad, pa, pc, ca, cc, rfl, hp, -, q0, q1, q2, q3⟩ := dat_at HD.out hd
          obtain ⟨pa', pc', e, hpl⟩ := slice_form hp
          cases e
          clear hp hd q0 q3
          generalize d.params.length = pn at *
          have hji : (j : Int) < (dn : Int) := by omega
          cases hq : (d.name.toList == s.toList) with
          | true =>
            have HR : Hid (ff ds (bl s) = some (pn : Int)) := by show _ = _; rw [HF.out, HS.out, hq]; rfl
            go_wp2
            go_returns
            exact ⟨by rw [HR.out]; rfl, rfl⟩
          | false =>
            have HR : Hid (ff ds (bl s) = ff (ds.drop (j + 1)) (bl s)) := by show _ = _; rw [HF.out, HS.out, hq]; rfl
            clear q2
            go_wp2
            go_round
            case rel => exact ⟨j + 1, hjt, by go_num, HR⟩
            case measure => simp [intOf]; omega
        · have HR : Hid (ff ds (bl s) = none) := by
            show _ = _
            rw [HF.out, List.drop_eq_nil_of_le (by rw [← HDn.out]; omega)]; rfl
          go_wp2
          go_returns
          exact ⟨by rw [HR.out]; rfl, rfl⟩
mutual
/-- The reference's first error. -/
def frmR (ds : List Dat) (ns : List ByteArray) : Ty → Int
  | .mk k n _ _ ts => if k == 5 then (if decide (0 ≤ ix ns n) then 0 else 7) else if k == 4 then (match prm ds (bl n) with | none => 7 | some c => if c == (ts.length : Int) then frmRL ds ns ts else 8) else 0
def frmRL (ds : List Dat) (ns : List ByteArray) : List Ty → Int
  | [] => 0
  | t :: l => if frmR ds ns t == 0 then frmRL ds ns l else frmR ds ns t
end
/-- Only constructors have arguments. -/
def flatT : Ty → Bool
  | .mk k _ _ _ ts => (k == 4 || ts.length == 0) && flatL ts
where flatL : List Ty → Bool
  | [] => true
  | t :: l => flatT t && flatL l
theorem flat_kid : ∀ {ts : List Ty}, flatT.flatL ts = true → ∀ {U : Ty}, U ∈ ts → flatT U = true := by
  intro ts
  induction ts with
  | nil => intro _ U hU; simp at hU
  | cons t l ih =>
    intro h U hU
    simp only [flatT.flatL, Bool.and_eq_true] at h
    rcases List.mem_cons.1 hU with rfl | hU
    · exact h.1
    · exact ih h.2 hU
theorem frmL_eq (ds : List Dat) (ns : List ByteArray) : ∀ l : List Ty, (∀ U ∈ l, frm (kn ds) ns U = frmR ds ns U) → frmL (kn ds) ns l = frmRL ds ns l := by
  intro l
  induction l with
  | nil => intro _; rfl
  | cons t l ih =>
    intro h
    simp only [frmL, frmRL]
    rw [h t (by simp), ih fun U hU => h U (by simp [hU])]
/-- Both say the same of a type in which only constructors have arguments. -/
theorem frm_eq (ds : List Dat) (ns : List ByteArray) (T : Ty) (h : flatT T = true) : frm (kn ds) ns T = frmR ds ns T := by
  refine Ty.induct (p := fun T => flatT T = true → frm (kn ds) ns T = frmR ds ns T) (fun T ih h => ?_) T h
  cases T with
  | mk k n i hm ts =>
    simp only [flatT, Bool.and_eq_true, Bool.or_eq_true] at h
    have hk := frmL_eq ds ns ts fun U hU => ih U hU (flat_kid h.2 hU)
    unfold frm frmR ndE
    cases h5 : (k == 5) with
    | true =>
      have h4 : (k == 4) = false := by
        have := beq_iff_eq.1 h5
        subst this; rfl
      have hts : ts = [] := by
        rcases h.1 with h6 | h6
        · rw [h4] at h6; cases h6
        · exact List.eq_nil_of_length_eq_zero (by simpa using h6)
      subst hts
      cases decide (0 ≤ ix ns n) <;> rfl
    | false =>
      cases h4 : (k == 4) with
      | true =>
        simp only [Bool.false_eq_true, if_false, if_true]
        unfold ndK
        rw [kf_kn]
        cases prm ds (bl n) with
        | none => rfl
        | some c =>
          simp only
          cases hc : (c == (ts.length : Int)) with
          | true => simpa using hk
          | false => rfl
      | false =>
        have hts : ts = [] := by
          rcases h.1 with h6 | h6
          · rw [h4] at h6; cases h6
          · exact List.eq_nil_of_length_eq_zero (by simpa using h6)
        subst hts
        rfl
end Go.Proofs.Ytafpngmfhajedaa

/- The reference's Formed; the package's Formed. -/
namespace Go.Proofs.Ytafpngmfhajedaa
open Go.RowKit Go.Sort Go.Shelf Go.Maps Mth

def FrmRAt (ds : List Dat) (ns : List ByteArray) (T : Ty) : Prop := ∀ (dv v nv : Value) (S S' S'' : Nat → Prop) (w : World), SlG DatE w S'' ds dv → SlG StrE w S' ns nv → Rep w S T v →
  Calls Try.prog 39 #[dv, v, nv] w fun e w' => e = .returned (.int .i64 (frmR ds ns T)) ∧ Below w.heap.size w w'
theorem frmRL_drop {ds : List Dat} {ns : List ByteArray} {l : List Ty} {j : Nat} {T : Ty} (h : l[j]? = some T) : frmRL ds ns (l.drop j) = if frmR ds ns T == 0 then frmRL ds ns (l.drop (j + 1)) else frmR ds ns T := by
  obtain ⟨hl, e⟩ := List.getElem?_eq_some_iff.1 h
  rw [List.drop_eq_getElem_cons hl, e]
  rfl
set_option maxRecDepth 100000 in
set_option maxHeartbeats 3200000 in
theorem refFormed_of (ds : List Dat) (ns : List ByteArray) (T : Ty) (H : ∀ U ∈ T.ts, FrmRAt ds ns U) : FrmRAt ds ns T := by
  intro dv v nv S S' S'' w hD hN h
  have HIx : Hid (∀ V, Below w.heap.size w V → Calls Try.prog 38 #[nv, .string T.n] V fun e w' => e = .returned (.int .i64 (ix ns T.n)) ∧ V = w') := fun V hb => refIndex_any ns T.n nv S' V (hN.lift' hb)
  have HPr : Hid (∀ V, Below w.heap.size w V → Calls Try.prog 73 #[dv, .string T.n] V fun e w' => e = .returned (ffT (prm ds (bl T.n))) ∧ V = w') := fun V hb => refParams_any ds T.n dv S'' V (hD.lift' hb)
  have HF : Hid (frmR ds ns T = if T.k == 5 then (if decide (0 ≤ ix ns T.n) then 0 else 7) else if T.k == 4 then (match prm ds (bl T.n) with | none => 7 | some c => if c == (T.ts.length : Int) then frmRL ds ns T.ts else 8) else 0) := by cases T; rfl
  have HH := Lib.hid H
  have HN := Lib.hid hN
  have HD := Lib.hid hD
  obtain ⟨k, n, i, hm, s, eT, rfl, hn, hs⟩ := h.open
  have hTk : T.k = k := by rw [eT]; rfl
  have hTn : T.n = n := by rw [eT]; rfl
  rw [hTn] at HIx HPr
  rw [hTk, hTn] at HF
  obtain ⟨sa, sc, rfl, ⟨hl1, hl2⟩, hj⟩ := hs
  have HJ := Lib.hid hj
  obtain ⟨na, nc, rfl, hle⟩ := slice_form hN
  obtain ⟨da, dc, rfl, hled⟩ := slice_form hD
  have hlt : T.ts.length ≤ maxLen := by omega
  clear hD hN h H hj eT hl1 hl2 hTk hTn
  obtain ⟨tn, htn⟩ : ∃ n, n = T.ts.length := ⟨_, rfl⟩
  rw [← htn] at HF hlt ⊢
  have HTn := Lib.hid htn
  clear htn
  generalize ns.length = nn at *
  generalize ds.length = dn at *
  unfold maxLen at hlt hle hled
  have hal : Below w.heap.size w (w.alloc (.cells #[.int .i64 k, .string n, .int .i64 i, .int .i64 hm, .slice sa tn sc] 39)) := (Below.refl _ w).alloc (Nat.le_refl _) _
  have HBx : Hid (Box (w.alloc (.cells #[.int .i64 k, .string n, .int .i64 i, .int .i64 hm, .slice sa tn sc] 39)) w.heap.size (.int .i64 k) (.string n) (.int .i64 i) (.int .i64 hm) (.slice sa tn sc)) := Box.made _ _ _ _ _ _
  have HB := Lib.hid hal
  clear hal
  generalize frmR ds ns T = fr at *
  cases h5 : (k == 5) with
  | true =>
    rw [h5] at HF
    have h4 : (k == 4) = false := by
      have := beq_iff_eq.1 h5
      subst this; rfl
    generalize ix ns n = q at *
    by_cases hq : 0 ≤ q
    · have HFr : Hid (fr = 0) := by show _ = _; rw [HF.out]; simp [hq]
      clear HF
      go_enter Try.func39, Try.ntmps39
      go_upto_region 1 with fail
      generalize (w.alloc (.cells #[.int .i64 k, .string n, .int .i64 i, .int .i64 hm, .slice sa tn sc] 39)) = V at *
      obtain ⟨b0, b1, b2, b3, b4⟩ := HBx.out.cells
      go_wp2_with (go_at_call 38; refine (HIx.out V HB.out).mono ?_; rintro e w1 ⟨rfl, rfl⟩)
      go_ret
      exact ⟨by rw [HFr.out]; rfl, HB.out⟩
    · have HFr : Hid (fr = 7) := by show _ = _; rw [HF.out]; simp [hq]
      clear HF
      go_enter Try.func39, Try.ntmps39
      go_upto_region 1 with fail
      generalize (w.alloc (.cells #[.int .i64 k, .string n, .int .i64 i, .int .i64 hm, .slice sa tn sc] 39)) = V at *
      obtain ⟨b0, b1, b2, b3, b4⟩ := HBx.out.cells
      go_wp2_with (go_at_call 38; refine (HIx.out V HB.out).mono ?_; rintro e w1 ⟨rfl, rfl⟩)
      go_ret
      exact ⟨by rw [HFr.out]; rfl, HB.out⟩
  | false =>
    rw [h5] at HF
    clear HIx
    cases h4 : (k == 4) with
    | false =>
      rw [h4] at HF
      have HFr : Hid (fr = 0) := by show _ = _; rw [HF.out]; rfl
      clear HF
      go_enter Try.func39, Try.ntmps39
      go_upto_region 1 with fail
      generalize (w.alloc (.cells #[.int .i64 k, .string n, .int .i64 i, .int .i64 hm, .slice sa tn sc] 39)) = V at *
      obtain ⟨b0, b1, b2, b3, b4⟩ := HBx.out.cells
      go_wp2
      go_ret
      exact ⟨by rw [HFr.out]; rfl, HB.out⟩
    | true =>
      rw [h4] at HF
      cases hp : prm ds (bl n) with
      | none =>
        rw [hp] at HF HPr
        have HFr : Hid (fr = 7) := by show _ = _; rw [HF.out]; rfl
        clear HF hp
        go_enter Try.func39, Try.ntmps39
        go_upto_region 1 with fail
        generalize (w.alloc (.cells #[.int .i64 k, .string n, .int .i64 i, .int .i64 hm, .slice sa tn sc] 39)) = V at *
        obtain ⟨b0, b1, b2, b3, b4⟩ := HBx.out.cells
        go_wp2_with (go_at_call 73; refine (HPr.out V HB.out).mono ?_; rintro e w1 ⟨rfl, rfl⟩; unfold ffT)
        go_ret
        exact ⟨by rw [HFr.out]; rfl, HB.out⟩
      | some c =>
        rw [hp] at HF HPr
        clear hp
        cases hc : (c == (tn : Int)) with
        | false =>
          have hc' : (c != (tn : Int)) = true := by rw [bne, hc]; rfl
          have hcn : ¬ c = (tn : Int) := by simpa using hc
          have HFr : Hid (fr = 8) := by show _ = _; rw [HF.out]; simp [hcn]
          clear hcn
          clear HF
          go_enter Try.func39, Try.ntmps39
          go_upto_region 1 with fail
          generalize (w.alloc (.cells #[.int .i64 k, .string n, .int .i64 i, .int .i64 hm, .slice sa tn sc] 39)) = V at *
          obtain ⟨b0, b1, b2, b3, b4⟩ := HBx.out.cells
          go_wp2_with (go_at_call 73; refine (HPr.out V HB.out).mono ?_; rintro e w1 ⟨rfl, rfl⟩; unfold ffT)
          go_ret
          exact ⟨by rw [HFr.out]; rfl, HB.out⟩
        | true =>
          have hc' : (c != (tn : Int)) = false := by rw [bne, hc]; rfl
          have hce : c = (tn : Int) := by simpa using hc
          have HF2 : Hid (fr = frmRL ds ns T.ts) := by show _ = _; rw [HF.out]; simp [hce]
          clear hce
          clear HF
          have HL : Hid (frmRL ds ns T.ts = frmRL ds ns (T.ts.drop 0)) := by show _ = _; simp
          go_enter Try.func39, Try.ntmps39
          go_upto_region 1 with fail
          generalize (w.alloc (.cells #[.int .i64 k, .string n, .int .i64 i, .int .i64 hm, .slice sa tn sc] 39)) = V at *
          have hVs := HB.out.size
          have hb4 := HBx.out.lt
          obtain ⟨b0, b1, b2, b3, b4⟩ := HBx.out.cells
          have HVV : Hid (Below V.heap.size V V) := Below.refl _ V
          go_wp2_with (go_at_call 73; refine (HPr.out V HB.out).mono ?_; rintro e w1 ⟨rfl, rfl⟩; unfold ffT)
          clear b0 b1 b2 b3 b4
          go_loopw [9] (fun x wr => ∃ j : Nat, j ≤ tn ∧ x = .int .i64 j ∧ Hid (frmRL ds ns T.ts = frmRL ds ns (T.ts.drop j)) ∧ Hid (Below V.heap.size V wr)) (fun x _ => tn - (intOf x).toNat)
          case atStart => exact ⟨0, Nat.zero_le _, rfl, HL, HVV⟩
          case round =>
            obtain ⟨j, hj, rfl, HT, HBr⟩ := hrel
            obtain ⟨b0, b1, b2, b3, b4⟩ := (HBx.out.lift HBr.out).cells
            have HBw := Lib.hid (HB.out.trans (HBr.out.mono hVs))
            clear b0 b1 b2 b3
            by_cases hjt : j < tn
            · obtain ⟨U, hU⟩ : ∃ x, T.ts[j]? = some x := ⟨_, List.getElem?_eq_getElem (by rw [← HTn.out]; exact hjt)⟩
              have HS := Lib.hid (frmRL_drop (ds := ds) (ns := ns) hU)
              obtain ⟨ad, x, rfl, hS, h5', hx⟩ := HJ.out j U hU
              have hx' := hx.lift HBw.out
              have g5 := h5'.kept (HBw.out.block _ h5'.lt)
              have HUm := Lib.hid (List.mem_of_getElem? hU)
              obtain ⟨k', n', i', h', s', -, rfl, hn', hs'⟩ := hx'.open
              obtain ⟨q0, q1, q2, q3, q4⟩ := five_at g5
              obtain ⟨ua, uc, rfl, -⟩ := hs'
              have HC := Lib.hid (HH.out U HUm.out _ _ _ S S' S'' wr (HD.out.lift' HBw.out) (HN.out.lift' HBw.out) hx')
              have hji : (j : Int) < (tn : Int) := by omega
              clear hU hx hx' g5 h5' hS hn'
              generalize U.ts.length = un at *
              generalize frmR ds ns U = eu at *
              cases hq : (eu == 0) with
              | true =>
                have hqn : (eu != 0) = false := by rw [bne, hq]; rfl
                have HT2 : Hid (frmRL ds ns T.ts = frmRL ds ns (T.ts.drop (j + 1))) := by show _ = _; rw [HT.out, HS.out, hq]; rfl
                clear hq
                go_wp2_with (go_at_call 39; refine HC.out.mono ?_; rintro e w1 ⟨rfl, hb1⟩; have HB2 := Lib.hid (HBr.out.trans (hb1.mono HBr.out.size)); clear hb1)
                go_roundw
                case rel => exact ⟨j + 1, hjt, by go_num, HT2, HB2⟩
                case measure => simp [intOf]; omega
              | false =>
                have hqn : (eu != 0) = true := by rw [bne, hq]; rfl
                have HT2 : Hid (frmRL ds ns T.ts = eu) := by show _ = _; rw [HT.out, HS.out, hq]; rfl
                clear hq
                go_wp2_with (go_at_call 39; refine HC.out.mono ?_; rintro e w1 ⟨rfl, hb1⟩; have HB2 := Lib.hid (HBw.out.trans (hb1.mono HBw.out.size)); clear hb1)
                go_ret
                exact ⟨by rw [HF2.out, HT2.out]; rfl, HB2.out⟩
            · have HT2 : Hid (frmRL ds ns T.ts = 0) := by
                show _ = _
                rw [HT.out, List.drop_eq_nil_of_le (by rw [← HTn.out]; omega)]; rfl
              go_wp2
              go_ret
              exact ⟨by rw [HF2.out, HT2.out]; rfl, HBw.out⟩
theorem refFormed_any (ds : List Dat) (ns : List ByteArray) (T : Ty) : FrmRAt ds ns T := Ty.induct (refFormed_of ds ns) T
theorem keepCall' {W a b : World} (h1 : Below W.heap.size W a) (h2 : Below a.heap.size a b) : Below W.heap.size W b := h1.trans (h2.mono h1.size)
theorem keepB5 {W w1 w2 : World} {A : Nat} {a0 a1 a2 a3 a4 : Value} (h0 : w1.cell? ⟨A, 0, none⟩ = some a0) (h1 : w1.cell? ⟨A, 1, none⟩ = some a1) (h2 : w1.cell? ⟨A, 2, none⟩ = some a2) (h3 : w1.cell? ⟨A, 3, none⟩ = some a3) (h4 : w1.cell? ⟨A, 4, none⟩ = some a4) (hW : Below W.heap.size W w1) (hb : Below w1.heap.size w1 w2) :
    w2.cell? ⟨A, 0, none⟩ = some a0 ∧ w2.cell? ⟨A, 1, none⟩ = some a1 ∧ w2.cell? ⟨A, 2, none⟩ = some a2 ∧ w2.cell? ⟨A, 3, none⟩ = some a3 ∧ w2.cell? ⟨A, 4, none⟩ = some a4 ∧ Below W.heap.size W w2 := by
  have k : ∀ p v, w1.cell? p = some v → w2.cell? p = some v := fun p v h => (hb.cell (World.block_lt_of_cell? _ _ h)).trans h
  exact ⟨k _ _ h0, k _ _ h1, k _ _ h2, k _ _ h3, k _ _ h4, hW.trans (hb.mono hW.size)⟩
set_option maxRecDepth 100000 in
set_option maxHeartbeats 3200000 in
theorem pkFormed_any (ds : List Dat) (hds : Sized ds) (ns : List ByteArray) (T : Ty) (dv v nv : Value) (S S' S'' : Nat → Prop) (w : World) (hD : SlG DatE w S'' ds dv) (hN : SlG StrE w S' ns nv) (h : Rep w S T v) :
    Calls Try.prog 104 #[dv, v, nv] w fun e w' => e = .returned (.int .i64 (frm (kn ds) ns T)) ∧ Below w.heap.size w w' := by
  obtain ⟨k, n, i, hm, s, -, rfl, hn, hs⟩ := h.open
  obtain ⟨sa, sc, rfl, -⟩ := hs
  obtain ⟨na, nc, rfl, hle⟩ := slice_form hN
  obtain ⟨da, dc, rfl, hled⟩ := slice_form hD
  have hal : Below w.heap.size w (w.alloc (.cells #[.int .i64 k, .string n, .int .i64 i, .int .i64 hm, .slice sa T.ts.length sc] 39)) := (Below.refl _ w).alloc (Nat.le_refl _) _
  have HBx : Hid (Box (w.alloc (.cells #[.int .i64 k, .string n, .int .i64 i, .int .i64 hm, .slice sa T.ts.length sc] 39)) w.heap.size (.int .i64 k) (.string n) (.int .i64 i) (.int .i64 hm) (.slice sa T.ts.length sc)) := Box.made _ _ _ _ _ _
  have HP : Hid (∀ V, Below w.heap.size w V → Calls Try.prog 71 #[.slice da ds.length dc] V fun e w' => ∃ b m, e = .returned (.map (some b)) ∧ KM w' b m (kn ds) ∧ Below V.heap.size V w') := fun V hb => (params_any ds hds _ S'' V (hD.lift' hb)).mono fun e w' ⟨b, m, h1, h2, _, h3⟩ => ⟨b, m, h1, h2, h3⟩
  have HFm : Hid (∀ V b m, Below w.heap.size w V → KM V b m (kn ds) → Calls Try.prog 72 #[.map (some b), .agg #[.int .i64 k, .string n, .int .i64 i, .int .i64 hm, .slice sa T.ts.length sc], .slice na ns.length nc] V fun e w' => e = .returned (.int .i64 (frm (kn ds) ns T)) ∧ Below V.heap.size V w') := fun V b m hb hk => formed_any (kn ds) ns T b m _ _ S S' V hk (hN.lift' hb) (h.lift hb)
  have HB := Lib.hid hal
  clear hal hN hD h
  generalize T.ts.length = tn at *
  generalize ns.length = nn at *
  generalize ds.length = dn at *
  generalize frm (kn ds) ns T = fr at *
  go_enter Try.func104, Try.ntmps104
  go_upto_region 1 with fail
  generalize (w.alloc (.cells #[.int .i64 k, .string n, .int .i64 i, .int .i64 hm, .slice sa tn sc] 39)) = V at *
  obtain ⟨b0, b1, b2, b3, b4⟩ := HBx.out.cells
  go_region_held3 (fun w' => w'.cell? ⟨w.heap.size, 0, none⟩ = some (.int .i64 k) ∧ w'.cell? ⟨w.heap.size, 1, none⟩ = some (.string n) ∧ w'.cell? ⟨w.heap.size, 2, none⟩ = some (.int .i64 i) ∧ w'.cell? ⟨w.heap.size, 3, none⟩ = some (.int .i64 hm) ∧ w'.cell? ⟨w.heap.size, 4, none⟩ = some (.slice sa tn sc) ∧ Below V.heap.size V w')
    (first
      | (go_split_ands; exact keepB5 (by assumption) (by assumption) (by assumption) (by assumption) (by assumption) (by assumption) hb)
      | exact ⟨b0, b1, b2, b3, b4, (Below.refl _ V).drew⟩)
    (first
      | (go_at_call 71; (with_reducible refine (HP.out _ ?_).mono ?_); (go_split_ands; exact HB.out.trans (Below.mono (by assumption) HB.out.size)); go_split_ands; rintro e w' ⟨mb, mm, rfl, hk, hb⟩; have HK := Lib.hid hk; have HL := Lib.hid (HB.out.trans (Below.mono (keepCall' (W := V) (by assumption) hb) HB.out.size)); clear hk)
      | (go_at_call 72; (with_reducible refine (HFm.out _ mb mm HL.out HK.out).mono ?_); rintro e w' ⟨rfl, hb⟩))
  go_split_ands
  have hbW : Below V.heap.size V w' := by assumption
  go_wp2
  go_ret
  exact ⟨rfl, HB.out.trans (hbW.mono HB.out.size)⟩
end Go.Proofs.Ytafpngmfhajedaa

/- The reference's Bind. -/
namespace Go.Proofs.Ytafpngmfhajedaa
open Go.RowKit Go.Sort Go.Shelf Go.Maps Mth

end Go.Proofs.Ytafpngmfhajedaa

/- The data type of a declaration with its parameters as quantified variables (the reference's Result). -/
namespace Go.Proofs.Ytafpngmfhajedaa
open Go.RowKit Go.Sort Go.Shelf Go.Maps Mth

def bndTy (i : Nat) : Ty := .mk 2 ⟨#[]⟩ i 0 []
def bndTs (n : Nat) : List Ty := (List.range n).map bndTy
def resT (d : Dat) : Ty := con d.name (bndTs d.params.length)
theorem bndTs_succ (j : Nat) : bndTs (j + 1) = bndTs j ++ [bndTy j] := by unfold bndTs; rw [List.range_succ, List.map_append]; rfl
theorem bndTs_len (j : Nat) : (bndTs j).length = j := by simp [bndTs]
theorem bndE (W : World) (S : Nat → Prop) (j : Nat) : TyE.rep W S (bndTy j) [.int .i64 2, .string ⟨#[]⟩, .int .i64 j, .int .i64 0, .slice none 0 0] := rep_leaf W S 2 ⟨#[]⟩ j 0 (Nat.zero_le _)
theorem refCon_rw (n : ByteArray) (hn : n.size ≤ maxLen) (ts : List Ty) (hl : ts.length ≤ 1000000) (base : Nat) (S : Nat → Prop) (v : Value) (w : World) (hS : ∀ c, base ≤ c → S c) (hb : base ≤ w.heap.size) (h : RowG TyE w base S v ts) :
    Calls Try.prog 28 #[.string n, v] w fun e w' => ∃ u, e = .returned u ∧ Rep w' S (con n ts) u ∧ Below w.heap.size w w' := by
  have hR := slG_repL (h.slG (S' := S) (fun _ h => h) hS)
  obtain ⟨L, hown, hl', hr⟩ := h
  rcases hown.2 with ⟨rfl, h0⟩ | ⟨g, cap, cur, rfl, _⟩
  · obtain rfl := List.eq_nil_of_length_eq_zero h0
    refine (refCon_nil n w).mono ?_
    rintro e w' ⟨rfl, hb'⟩
    exact ⟨_, rfl, rep_leaf _ _ _ _ _ _ hn, hb'⟩
  · refine (refCon_any n ts hl _ cap S w (fun c hc => hS c (by omega)) hR).mono ?_
    rintro e w' ⟨a, c, rfl, h1, h2⟩
    exact ⟨_, rfl, Rep.close hn h1, h2⟩
end Go.Proofs.Ytafpngmfhajedaa

/- The scheme of a constructor: what it is; the reference's Constructor. -/
namespace Go.Proofs.Ytafpngmfhajedaa
open Go.RowKit Go.Sort Go.Shelf Go.Maps Mth

/-- The type of a constructor with these fields. -/
def conT (d : Dat) : List Ty → Ty
  | [] => resT d
  | f :: l => con arrN [bnd d.params f, conT d l]
def schA (ds : List Dat) : Option (Nat × Nat) → Option (Nat × Ty)
  | none => none
  | some (i, k) => match ds[i]? with
    | none => none
    | some d => match d.ctors[k]? with
      | none => none
      | some c => some (d.params.length, conT d c.fields)
def sch (ds : List Dat) (s : ByteArray) : Option (Nat × Ty) := schA ds (fnd ds s)
theorem sch_none {ds : List Dat} {s : ByteArray} (h : fnd ds s = none) : sch ds s = none := by unfold sch; rw [h]; rfl
theorem sch_some {ds : List Dat} {s : ByteArray} {i k : Nat} {d : Dat} {c : Ctor} (h : fnd ds s = some (i, k)) (hd : ds[i]? = some d) (hc : d.ctors[k]? = some c) : sch ds s = some (d.params.length, conT d c.fields) := by
  unfold sch schA; rw [h]; simp only [hd, hc]
/-- Declarations of bounded sizes. -/
def GoodC (c : Ctor) : Prop := c.fields.length ≤ 1000 ∧ ∀ f ∈ c.fields, nodes f ≤ 1000000 ∧ nm0 f = true
def GoodD (ds : List Dat) : Prop := ds.length ≤ 1000 ∧ ∀ d ∈ ds, d.params.length ≤ 1000 ∧ d.name.size ≤ maxLen ∧ d.ctors.length ≤ 1000 ∧ ∀ c ∈ d.ctors, GoodC c
theorem GoodD.sized {ds : List Dat} (h : GoodD ds) : Sized ds := ⟨h.1, fun d hd => (h.2 d hd).2.1⟩
def SchV (w : World) (S : Nat → Prop) (n : Nat) (T : Ty) (v : Value) : Prop := ∃ c0 c1 c2 c3 c4, v = .agg #[.int .i64 n, c0, c1, c2, c3, c4] ∧ Rep w S T (.agg #[c0, c1, c2, c3, c4])
def SchE (w : World) (S : Nat → Prop) : Option (Nat × Ty) → Ending → Prop
  | none, e => e = .returned (.tuple #[.agg #[.int .i64 0, .int .i64 0, .string ⟨#[]⟩, .int .i64 0, .int .i64 0, .slice none 0 0], .bool false])
  | some (n, T), e => ∃ v, e = .returned (.tuple #[v, .bool true]) ∧ SchV w S n T v
theorem conT_drop (d : Dat) {fs : List Ty} {j : Nat} {U : Ty} (h : fs[j]? = some U) : conT d (fs.drop j) = con arrN [bnd d.params U, conT d (fs.drop (j + 1))] := by
  obtain ⟨hl, e⟩ := List.getElem?_eq_some_iff.1 h
  rw [List.drop_eq_getElem_cons hl, e]; rfl
theorem conT_end (d : Dat) (fs : List Ty) : conT d (fs.drop fs.length) = resT d := by simp [conT]
/-- The scheme's box, the type's box and the type between two rounds. -/
structure CoSt (w : World) (D : Nat) (T : Ty) (wr : World) : Prop where
  box : ∃ k n i h s m c, Box wr D (.int .i64 k) (.string n) (.int .i64 i) (.int .i64 h) (.slice s m c) ∧ Rep wr (fun b => b ≠ w.heap.size ∧ b ≠ D) T (.agg #[.int .i64 k, .string n, .int .i64 i, .int .i64 h, .slice s m c])
  sc : BoxC 41 wr w.heap.size [.int .i64 0, .int .i64 0, .string ⟨#[]⟩, .int .i64 0, .int .i64 0, .slice none 0 0]
  low : Below w.heap.size w wr
  lt : w.heap.size < D
theorem set6 {t : TypeId} {w : World} {B : Nat} {c0 c1 c2 c3 c4 c5 : Value} (h : BoxC t w B [c0, c1, c2, c3, c4, c5]) (v0 v1 v2 v3 v4 v5 : Value) :
    BoxC t ((((((w.setCell ⟨B, 0, none⟩ v0).setCell ⟨B, 1, none⟩ v1).setCell ⟨B, 2, none⟩ v2).setCell ⟨B, 3, none⟩ v3).setCell ⟨B, 4, none⟩ v4).setCell ⟨B, 5, none⟩ v5) B [v0, v1, v2, v3, v4, v5] ∧
    w.grownBy ((((((w.setCell ⟨B, 0, none⟩ v0).setCell ⟨B, 1, none⟩ v1).setCell ⟨B, 2, none⟩ v2).setCell ⟨B, 3, none⟩ v3).setCell ⟨B, 4, none⟩ v4).setCell ⟨B, 5, none⟩ v5) (some B) := by
  obtain ⟨a0, g0, -⟩ := h.set 0 v0
  obtain ⟨a1, g1, -⟩ := a0.set 1 v1
  obtain ⟨a2, g2, -⟩ := a1.set 2 v2
  obtain ⟨a3, g3, -⟩ := a2.set 3 v3
  obtain ⟨a4, g4, -⟩ := a3.set 4 v4
  obtain ⟨a5, g5, -⟩ := a4.set 5 v5
  exact ⟨a5, grown_trans (grown_trans (grown_trans (grown_trans (grown_trans g0 g1) g2) g3) g4) g5⟩
def AfArr (S : Nat → Prop) (V : World) (T U : Ty) (r : Value) (w' : World) : Prop := ∃ a c, r = .agg #[.int .i64 4, .string arrN, .int .i64 0, .int .i64 0, .slice a 2 c] ∧ RepL w' S [T, U] (.slice a 2 c) ∧ Below V.heap.size V w'
def AfBnd (S : Nat → Prop) (V : World) (T : Ty) (r : Value) (w' : World) : Prop := Rep w' S T r ∧ Below V.heap.size V w'
theorem refArr_at (S : Nat → Prop) (T U : Ty) (u v : Value) (V X : World) (hS : ∀ b, V.heap.size ≤ b → S b) (h : Rep V S T u) (h' : Rep V S U v) (hb : Below V.heap.size V X) :
    Calls Try.prog 31 #[u, v] X fun e w' => ∃ r, e = .returned r ∧ AfArr S V T U r w' := by
  refine (refArrow_any T U u v S X (fun b hc => hS b (Nat.le_trans hb.size hc)) (h.lift hb) (h'.lift hb)).mono ?_
  rintro e w' ⟨a, c, rfl, hr, hb'⟩
  exact ⟨_, rfl, a, c, rfl, hr, hb.trans (hb'.mono hb.size)⟩
/-- What holds when the field is bound. -/
structure BdSt (w : World) (D : Nat) (T U : Ty) (u : Value) (k : Int) (n : ByteArray) (i h : Int) (s : Option Addr) (m c : Nat) (wr : World) : Prop where
  left : Rep wr (fun b => b ≠ w.heap.size ∧ b ≠ D) U u
  box : Box wr D (.int .i64 k) (.string n) (.int .i64 i) (.int .i64 h) (.slice s m c)
  right : Rep wr (fun b => b ≠ w.heap.size ∧ b ≠ D) T (.agg #[.int .i64 k, .string n, .int .i64 i, .int .i64 h, .slice s m c])
  sc : BoxC 41 wr w.heap.size [.int .i64 0, .int .i64 0, .string ⟨#[]⟩, .int .i64 0, .int .i64 0, .slice none 0 0]
  low : Below w.heap.size w wr
  lt : w.heap.size < D
theorem BdSt.lift {w : World} {D : Nat} {T U : Ty} {u : Value} {k : Int} {n : ByteArray} {i h : Int} {s : Option Addr} {m c : Nat} {wr v : World} (H : BdSt w D T U u k n i h s m c wr) (hb : Below wr.heap.size wr v) : BdSt w D T U u k n i h s m c v :=
  ⟨H.left.lift hb, Box.lift H.box hb, H.right.lift hb, H.sc.lift hb, H.low.trans (hb.mono H.low.size), H.lt⟩
/-- The arrow's struct is stored. -/
theorem BdSt.done {w : World} {D : Nat} {T U : Ty} {u : Value} {k : Int} {n : ByteArray} {i h : Int} {s : Option Addr} {m c : Nat} {wr v v' : World} (H : BdSt w D T U u k n i h s m c wr) {a : Option Addr} {cc : Nat} (hr : RepL v (fun b => b ≠ w.heap.size ∧ b ≠ D) [U, T] (.slice a 2 cc)) (hb : Below wr.heap.size wr v)
    (hB : Box v' D (.int .i64 4) (.string arrN) (.int .i64 0) (.int .i64 0) (.slice a 2 cc)) (hg : v.grownBy v' (some D)) : CoSt w D (con arrN [U, T]) v' :=
  ⟨⟨4, arrN, 0, 0, a, 2, cc, hB, (Rep.close arrN_fits hr).kept (fun _ h => h) (fun b hb hlt => hg.block b hlt (by intro e; exact hb.2 (Option.some.inj e)))⟩, (H.sc.lift hb).grown hg (by intro e; have := Option.some.inj e; have := H.lt; omega), Below.grown (H.lift hb).low hg (H.lift hb).low.size (fun k hk => by have := Option.some.inj hk; have := H.lt; omega), H.lt⟩
end Go.Proofs.Ytafpngmfhajedaa
