import Derived.Test.YtljgpgmaceackaaQX14
import Derived.Deep.CutBlock
import Derived.Deep.LoopGhost
import Derived.Deep.RegionHeld3
/- The reference's errors of a type; the package's Formed. -/
namespace Go.Proofs.Ytljgpgmaceackaa
open Go.RowKit Go.Maps Mth S3

def ffT : Option Int → Value
  | some c => .tuple #[.int .i64 c, .bool true]
  | none => .tuple #[.int .i64 0, .bool false]
theorem ff_step {s : ByteArray} {ds : List Dat} {j : Nat} {d : Dat} (h : ds[j]? = some d) : ff (ds.drop j) (bl s) = if d.name.toList == s.toList then some (d.params.length : Int) else ff (ds.drop (j + 1)) (bl s) := by
  obtain ⟨hl, e⟩ := List.getElem?_eq_some_iff.1 h
  rw [List.drop_eq_getElem_cons hl, e, ← bl_beq]; rfl
set_option maxRecDepth 100000 in
set_option maxHeartbeats 1600000 in
theorem refParams_any (ds : List Dat) (s : ByteArray) (v : Value) (S : Nat → Prop) (w : World) (h : SlG DatE w S ds v) :
    Calls Try.prog 43 #[v, .string s] w fun e w' => e = .returned (ffT (prm ds (bl s))) ∧ w = w' := by
  have HD := Lib.hid h
  obtain ⟨da, dc, rfl, hle⟩ := slice_form h
  unfold maxLen at hle
  obtain ⟨dn, hdn⟩ : ∃ n, n = ds.length := ⟨_, rfl⟩
  rw [← hdn] at HD hle ⊢
  have HDn := Lib.hid hdn
  clear hdn h
  have hi : (bl s == [73, 110, 116]) = (s.toList == [73, 110, 116]) := by unfold bl; rw [Lib.toList_data]
  have ha : (bl s == [45, 62]) = (s.toList == [45, 62]) := by unfold bl; rw [Lib.toList_data]
  unfold prm
  rw [hi, ha]
  clear hi ha
  cases h1 : (s.toList == [73, 110, 116]) with
  | true =>
    go_enter Try.func43, Try.ntmps43
    go_wp2
    go_returns
    exact ⟨rfl, rfl⟩
  | false =>
    cases h2 : (s.toList == [45, 62]) with
    | true =>
      go_enter Try.func43, Try.ntmps43
      go_wp2
      go_returns
      exact ⟨rfl, rfl⟩
    | false =>
      simp only [Bool.false_eq_true, if_false]
      have HE : Hid (ff ds (bl s) = ff (ds.drop 0) (bl s)) := rfl
      go_enter Try.func43, Try.ntmps43
      go_wp2
      go_loop [6] (fun x => ∃ j : Nat, j ≤ dn ∧ x = .int .i64 j ∧ Hid (ff ds (bl s) = ff (ds.drop j) (bl s))) (fun x => dn - (intOf x).toNat)
      case atStart => exact ⟨0, Nat.zero_le _, rfl, HE⟩
      case round =>
        obtain ⟨j, hj, rfl, HF⟩ := hrel
        by_cases hjt : j < dn
        · obtain ⟨d, hd⟩ : ∃ x, ds[j]? = some x := ⟨_, List.getElem?_eq_getElem (by rw [← HDn.out]; exact hjt)⟩
          have HS := Lib.hid (ff_step (s := s) hd)
          obtain ⟨ad, pa, pc, ca, cc, rfl, hp, -, q0, q1, q2, q3⟩ := dat_at HD.out hd
          obtain ⟨pa', pc', e, hpl⟩ := slice_form hp
          cases e
          clear hp hd q0 q3
          generalize d.params.length = pn at *
          have hji : (j : Int) < (dn : Int) := by omega
          cases hq : (d.name.toList == s.toList) with
          | true =>
            have HR : Hid (ff ds (bl s) = some (pn : Int)) := by show _ = _; rw [HF.out, HS.out, hq]; rfl
            go_wp2
            go_returns
            exact ⟨by rw [HR.out]; rfl, rfl⟩
          | false =>
            have HR : Hid (ff ds (bl s) = ff (ds.drop (j + 1)) (bl s)) := by show _ = _; rw [HF.out, HS.out, hq]; rfl
            clear q2
            go_wp2
            go_round
            case rel => exact ⟨j + 1, hjt, by go_num, HR⟩
            case measure => simp [intOf]; omega
        · have HR : Hid (ff ds (bl s) = none) := by
            show _ = _
            rw [HF.out, List.drop_eq_nil_of_le (by rw [← HDn.out]; omega)]; rfl
          go_wp2
          go_returns
          exact ⟨by rw [HR.out]; rfl, rfl⟩
mutual
/-- The reference's first error. -/
def frmR (ds : List Dat) (ns : List ByteArray) : Ty → Int
  | .mk k n _ _ ts => if k == 5 then (if decide (0 ≤ ix ns n) then 0 else 7) else if k == 4 then (match prm ds (bl n) with | none => 7 | some c => if c == (ts.length : Int) then frmRL ds ns ts else 8) else 0
def frmRL (ds : List Dat) (ns : List ByteArray) : List Ty → Int
  | [] => 0
  | t :: l => if frmR ds ns t == 0 then frmRL ds ns l else frmR ds ns t
end
/-- Only constructors have arguments. -/
def flatT : Ty → Bool
  | .mk k _ _ _ ts => (k == 4 || ts.length == 0) && flatL ts
where flatL : List Ty → Bool
  | [] => true
  | t :: l => flatT t && flatL l
theorem flat_kid : ∀ {ts : List Ty}, flatT.flatL ts = true → ∀ {U : Ty}, U ∈ ts → flatT U = true := by
  intro ts
  induction ts with
  | nil => intro _ U hU; simp at hU
  | cons t l ih =>
    intro h U hU
    simp only [flatT.flatL, Bool.and_eq_true] at h
    rcases List.mem_cons.1 hU with rfl | hU
    · exact h.1
    · exact ih h.2 hU
theorem frmL_eq (ds : List Dat) (ns : List ByteArray) : ∀ l : List Ty, (∀ U ∈ l, frm (kn ds) ns U = frmR ds ns U) → frmL (kn ds) ns l = frmRL ds ns l := by
  intro l
  induction l with
  | nil => intro _; rfl
  | cons t l ih =>
    intro h
    simp only [frmL, frmRL]
    rw [h t (by simp), ih fun U hU => h U (by simp [hU])]
/-- Both say the same of a type in which only constructors have arguments. -/
theorem frm_eq (ds : List Dat) (ns : List ByteArray) (T : Ty) (h : flatT T = true) : frm (kn ds) ns T = frmR ds ns T := by
  refine Ty.induct (p := fun T => flatT T = true → frm (kn ds) ns T = frmR ds ns T) (fun T ih h => ?_) T h
  cases T with
  | mk k n i hm ts =>
    simp only [flatT, Bool.and_eq_true, Bool.or_eq_true] at h
    have hk := frmL_eq ds ns ts fun U hU => ih U hU (flat_kid h.2 hU)
    unfold frm frmR ndE
    cases h5 : (k == 5) with
    | true =>
      have h4 : (k == 4) = false := by
        have := beq_iff_eq.1 h5
        subst this; rfl
      have hts : ts = [] := by
        rcases h.1 with h6 | h6
        · rw [h4] at h6; cases h6
        · exact List.eq_nil_of_length_eq_zero (by simpa using h6)
      subst hts
      cases decide (0 ≤ ix ns n) <;> rfl
    | false =>
      cases h4 : (k == 4) with
      | true =>
        simp only [Bool.false_eq_true, if_false, if_true]
        unfold ndK
        rw [kf_kn]
        cases prm ds (bl n) with
        | none => rfl
        | some c =>
          simp only
          cases hc : (c == (ts.length : Int)) with
          | true => simpa using hk
          | false => rfl
      | false =>
        have hts : ts = [] := by
          rcases h.1 with h6 | h6
          · rw [h4] at h6; cases h6
          · exact List.eq_nil_of_length_eq_zero (by simpa using h6)
        subst hts
        rfl
end Go.Proofs.Ytljgpgmaceackaa

/- The reference's Formed; the package's Formed. -/
namespace Go.Proofs.Ytljgpgmaceackaa
open Go.RowKit Go.Maps Mth S3

def FrmRAt (ds : List Dat) (ns : List ByteArray) (T : Ty) : Prop := ∀ (dv v nv : Value) (S S' S'' : Nat → Prop) (w : World), SlG DatE w S'' ds dv → SlG StrE w S' ns nv → Rep w S T v →
  Calls Try.prog 29 #[dv, v, nv] w fun e w' => e = .returned (.int .i64 (frmR ds ns T)) ∧ Below w.heap.size w w'
theorem frmRL_drop {ds : List Dat} {ns : List ByteArray} {l : List Ty} {j : Nat} {T : Ty} (h : l[j]? = some T) : frmRL ds ns (l.drop j) = if frmR ds ns T == 0 then frmRL ds ns (l.drop (j + 1)) else frmR ds ns T := by
  obtain ⟨hl, e⟩ := List.getElem?_eq_some_iff.1 h
  rw [List.drop_eq_getElem_cons hl, e]
  rfl
set_option maxRecDepth 100000 in
set_option maxHeartbeats 3200000 in
theorem refFormed_of (ds : List Dat) (ns : List ByteArray) (T : Ty) (H : ∀ U ∈ T.ts, FrmRAt ds ns U) : FrmRAt ds ns T := by
  intro dv v nv S S' S'' w hD hN h
  have HIx : Hid (∀ V, Below w.heap.size w V → Calls Try.prog 42 #[nv, .string T.n] V fun e w' => e = .returned (.int .i64 (ix ns T.n)) ∧ V = w') := fun V hb => refIndex_any ns T.n nv S' V (hN.lift' hb)
  have HPr : Hid (∀ V, Below w.heap.size w V → Calls Try.prog 43 #[dv, .string T.n] V fun e w' => e = .returned (ffT (prm ds (bl T.n))) ∧ V = w') := fun V hb => refParams_any ds T.n dv S'' V (hD.lift' hb)
  have HF : Hid (frmR ds ns T = if T.k == 5 then (if decide (0 ≤ ix ns T.n) then 0 else 7) else if T.k == 4 then (match prm ds (bl T.n) with | none => 7 | some c => if c == (T.ts.length : Int) then frmRL ds ns T.ts else 8) else 0) := by cases T; rfl
  have HH := Lib.hid H
  have HN := Lib.hid hN
  have HD := Lib.hid hD
  obtain ⟨k, n, i, hm, s, eT, rfl, hn, hs⟩ := h.open
  have hTk : T.k = k := by rw [eT]; rfl
  have hTn : T.n = n := by rw [eT]; rfl
  rw [hTn] at HIx HPr
  rw [hTk, hTn] at HF
  obtain ⟨sa, sc, rfl, ⟨hl1, hl2⟩, hj⟩ := hs
  have HJ := Lib.hid hj
  obtain ⟨na, nc, rfl, hle⟩ := slice_form hN
  obtain ⟨da, dc, rfl, hled⟩ := slice_form hD
  have hlt : T.ts.length ≤ maxLen := by omega
  clear hD hN h H hj eT hl1 hl2 hTk hTn
  obtain ⟨tn, htn⟩ : ∃ n, n = T.ts.length := ⟨_, rfl⟩
  rw [← htn] at HF hlt ⊢
  have HTn := Lib.hid htn
  clear htn
  generalize ns.length = nn at *
  generalize ds.length = dn at *
  unfold maxLen at hlt hle hled
  have hal : Below w.heap.size w (w.alloc (.cells #[.int .i64 k, .string n, .int .i64 i, .int .i64 hm, .slice sa tn sc] 34)) := (Below.refl _ w).alloc (Nat.le_refl _) _
  have HBx : Hid (Box (w.alloc (.cells #[.int .i64 k, .string n, .int .i64 i, .int .i64 hm, .slice sa tn sc] 34)) w.heap.size (.int .i64 k) (.string n) (.int .i64 i) (.int .i64 hm) (.slice sa tn sc)) := Box.made _ _ _ _ _ _
  have HB := Lib.hid hal
  clear hal
  generalize frmR ds ns T = fr at *
  cases h5 : (k == 5) with
  | true =>
    rw [h5] at HF
    have h4 : (k == 4) = false := by
      have := beq_iff_eq.1 h5
      subst this; rfl
    generalize ix ns n = q at *
    by_cases hq : 0 ≤ q
    · have HFr : Hid (fr = 0) := by show _ = _; rw [HF.out]; simp [hq]
      clear HF
      go_enter Try.func29, Try.ntmps29
      go_upto_region 1 with fail
      generalize (w.alloc (.cells #[.int .i64 k, .string n, .int .i64 i, .int .i64 hm, .slice sa tn sc] 34)) = V at *
      obtain ⟨b0, b1, b2, b3, b4⟩ := HBx.out.cells
      go_wp2_with (go_at_call 42; refine (HIx.out V HB.out).mono ?_; rintro e w1 ⟨rfl, rfl⟩)
      go_ret
      exact ⟨by rw [HFr.out]; rfl, HB.out⟩
    · have HFr : Hid (fr = 7) := by show _ = _; rw [HF.out]; simp [hq]
      clear HF
      go_enter Try.func29, Try.ntmps29
      go_upto_region 1 with fail
      generalize (w.alloc (.cells #[.int .i64 k, .string n, .int .i64 i, .int .i64 hm, .slice sa tn sc] 34)) = V at *
      obtain ⟨b0, b1, b2, b3, b4⟩ := HBx.out.cells
      go_wp2_with (go_at_call 42; refine (HIx.out V HB.out).mono ?_; rintro e w1 ⟨rfl, rfl⟩)
      go_ret
      exact ⟨by rw [HFr.out]; rfl, HB.out⟩
  | false =>
    rw [h5] at HF
    clear HIx
    cases h4 : (k == 4) with
    | false =>
      rw [h4] at HF
      have HFr : Hid (fr = 0) := by show _ = _; rw [HF.out]; rfl
      clear HF
      go_enter Try.func29, Try.ntmps29
      go_upto_region 1 with fail
      generalize (w.alloc (.cells #[.int .i64 k, .string n, .int .i64 i, .int .i64 hm, .slice sa tn sc] 34)) = V at *
      obtain ⟨b0, b1, b2, b3, b4⟩ := HBx.out.cells
      go_wp2
      go_ret
      exact ⟨by rw [HFr.out]; rfl, HB.out⟩
    | true =>
      rw [h4] at HF
      cases hp : prm ds (bl n) with
      | none =>
        rw [hp] at HF HPr
        have HFr : Hid (fr = 7) := by show _ = _; rw [HF.out]; rfl
        clear HF hp
        go_enter Try.func29, Try.ntmps29
        go_upto_region 1 with fail
        generalize (w.alloc (.cells #[.int .i64 k, .string n, .int .i64 i, .int .i64 hm, .slice sa tn sc] 34)) = V at *
        obtain ⟨b0, b1, b2, b3, b4⟩ := HBx.out.cells
        go_wp2_with (go_at_call 43; refine (HPr.out V HB.out).mono ?_; rintro e w1 ⟨rfl, rfl⟩; unfold ffT)
        go_ret
        exact ⟨by rw [HFr.out]; rfl, HB.out⟩
      | some c =>
        rw [hp] at HF HPr
        clear hp
        cases hc : (c == (tn : Int)) with
        | false =>
          have hc' : (c != (tn : Int)) = true := by rw [bne, hc]; rfl
          have hcn : ¬ c = (tn : Int) := by simpa using hc
          have HFr : Hid (fr = 8) := by show _ = _; rw [HF.out]; simp [hcn]
          clear hcn
          clear HF
          go_enter Try.func29, Try.ntmps29
          go_upto_region 1 with fail
          generalize (w.alloc (.cells #[.int .i64 k, .string n, .int .i64 i, .int .i64 hm, .slice sa tn sc] 34)) = V at *
          obtain ⟨b0, b1, b2, b3, b4⟩ := HBx.out.cells
          go_wp2_with (go_at_call 43; refine (HPr.out V HB.out).mono ?_; rintro e w1 ⟨rfl, rfl⟩; unfold ffT)
          go_ret
          exact ⟨by rw [HFr.out]; rfl, HB.out⟩
        | true =>
          have hc' : (c != (tn : Int)) = false := by rw [bne, hc]; rfl
          have hce : c = (tn : Int) := by simpa using hc
          have HF2 : Hid (fr = frmRL ds ns T.ts) := by show _ = _; rw [HF.out]; simp [hce]
          clear hce
          clear HF
          have HL : Hid (frmRL ds ns T.ts = frmRL ds ns (T.ts.drop 0)) := by show _ = _; simp
          go_enter Try.func29, Try.ntmps29
          go_upto_region 1 with fail
          generalize (w.alloc (.cells #[.int .i64 k, .string n, .int .i64 i, .int .i64 hm, .slice sa tn sc] 34)) = V at *
          have hVs := HB.out.size
          have hb4 := HBx.out.lt
          obtain ⟨b0, b1, b2, b3, b4⟩ := HBx.out.cells
          have HVV : Hid (Below V.heap.size V V) := Below.refl _ V
          go_wp2_with (go_at_call 43; refine (HPr.out V HB.out).mono ?_; rintro e w1 ⟨rfl, rfl⟩; unfold ffT)
          clear b0 b1 b2 b3 b4
          go_loopw [9] (fun x wr => ∃ j : Nat, j ≤ tn ∧ x = .int .i64 j ∧ Hid (frmRL ds ns T.ts = frmRL ds ns (T.ts.drop j)) ∧ Hid (Below V.heap.size V wr)) (fun x _ => tn - (intOf x).toNat)
          case atStart => exact ⟨0, Nat.zero_le _, rfl, HL, HVV⟩
          case round =>
            obtain ⟨j, hj, rfl, HT, HBr⟩ := hrel
            obtain ⟨b0, b1, b2, b3, b4⟩ := (HBx.out.lift HBr.out).cells
            have HBw := Lib.hid (HB.out.trans (HBr.out.mono hVs))
            clear b0 b1 b2 b3
            by_cases hjt : j < tn
            · obtain ⟨U, hU⟩ : ∃ x, T.ts[j]? = some x := ⟨_, List.getElem?_eq_getElem (by rw [← HTn.out]; exact hjt)⟩
              have HS := Lib.hid (frmRL_drop (ds := ds) (ns := ns) hU)
              obtain ⟨ad, x, rfl, hS, h5', hx⟩ := HJ.out j U hU
              have hx' := hx.lift HBw.out
              have g5 := h5'.kept (HBw.out.block _ h5'.lt)
              have HUm := Lib.hid (List.mem_of_getElem? hU)
              obtain ⟨k', n', i', h', s', -, rfl, hn', hs'⟩ := hx'.open
              obtain ⟨q0, q1, q2, q3, q4⟩ := five_at g5
              obtain ⟨ua, uc, rfl, -⟩ := hs'
              have HC := Lib.hid (HH.out U HUm.out _ _ _ S S' S'' wr (HD.out.lift' HBw.out) (HN.out.lift' HBw.out) hx')
              have hji : (j : Int) < (tn : Int) := by omega
              clear hU hx hx' g5 h5' hS hn'
              generalize U.ts.length = un at *
              generalize frmR ds ns U = eu at *
              cases hq : (eu == 0) with
              | true =>
                have hqn : (eu != 0) = false := by rw [bne, hq]; rfl
                have HT2 : Hid (frmRL ds ns T.ts = frmRL ds ns (T.ts.drop (j + 1))) := by show _ = _; rw [HT.out, HS.out, hq]; rfl
                clear hq
                go_wp2_with (go_at_call 29; refine HC.out.mono ?_; rintro e w1 ⟨rfl, hb1⟩; have HB2 := Lib.hid (HBr.out.trans (hb1.mono HBr.out.size)); clear hb1)
                go_roundw
                case rel => exact ⟨j + 1, hjt, by go_num, HT2, HB2⟩
                case measure => simp [intOf]; omega
              | false =>
                have hqn : (eu != 0) = true := by rw [bne, hq]; rfl
                have HT2 : Hid (frmRL ds ns T.ts = eu) := by show _ = _; rw [HT.out, HS.out, hq]; rfl
                clear hq
                go_wp2_with (go_at_call 29; refine HC.out.mono ?_; rintro e w1 ⟨rfl, hb1⟩; have HB2 := Lib.hid (HBw.out.trans (hb1.mono HBw.out.size)); clear hb1)
                go_ret
                exact ⟨by rw [HF2.out, HT2.out]; rfl, HB2.out⟩
            · have HT2 : Hid (frmRL ds ns T.ts = 0) := by
                show _ = _
                rw [HT.out, List.drop_eq_nil_of_le (by rw [← HTn.out]; omega)]; rfl
              go_wp2
              go_ret
              exact ⟨by rw [HF2.out, HT2.out]; rfl, HBw.out⟩
theorem refFormed_any (ds : List Dat) (ns : List ByteArray) (T : Ty) : FrmRAt ds ns T := Ty.induct (refFormed_of ds ns) T
theorem keepCall' {W a b : World} (h1 : Below W.heap.size W a) (h2 : Below a.heap.size a b) : Below W.heap.size W b := h1.trans (h2.mono h1.size)
theorem keepB5 {W w1 w2 : World} {A : Nat} {a0 a1 a2 a3 a4 : Value} (h0 : w1.cell? ⟨A, 0, none⟩ = some a0) (h1 : w1.cell? ⟨A, 1, none⟩ = some a1) (h2 : w1.cell? ⟨A, 2, none⟩ = some a2) (h3 : w1.cell? ⟨A, 3, none⟩ = some a3) (h4 : w1.cell? ⟨A, 4, none⟩ = some a4) (hW : Below W.heap.size W w1) (hb : Below w1.heap.size w1 w2) :
    w2.cell? ⟨A, 0, none⟩ = some a0 ∧ w2.cell? ⟨A, 1, none⟩ = some a1 ∧ w2.cell? ⟨A, 2, none⟩ = some a2 ∧ w2.cell? ⟨A, 3, none⟩ = some a3 ∧ w2.cell? ⟨A, 4, none⟩ = some a4 ∧ Below W.heap.size W w2 := by
  have k : ∀ p v, w1.cell? p = some v → w2.cell? p = some v := fun p v h => (hb.cell (World.block_lt_of_cell? _ _ h)).trans h
  exact ⟨k _ _ h0, k _ _ h1, k _ _ h2, k _ _ h3, k _ _ h4, hW.trans (hb.mono hW.size)⟩
set_option maxRecDepth 100000 in
set_option maxHeartbeats 3200000 in
theorem pkFormed_any (ds : List Dat) (hds : Sized ds) (ns : List ByteArray) (T : Ty) (dv v nv : Value) (S S' S'' : Nat → Prop) (w : World) (hD : SlG DatE w S'' ds dv) (hN : SlG StrE w S' ns nv) (h : Rep w S T v) :
    Calls Try.prog 59 #[dv, v, nv] w fun e w' => e = .returned (.int .i64 (frm (kn ds) ns T)) ∧ Below w.heap.size w w' := by
  obtain ⟨k, n, i, hm, s, -, rfl, hn, hs⟩ := h.open
  obtain ⟨sa, sc, rfl, -⟩ := hs
  obtain ⟨na, nc, rfl, hle⟩ := slice_form hN
  obtain ⟨da, dc, rfl, hled⟩ := slice_form hD
  have hal : Below w.heap.size w (w.alloc (.cells #[.int .i64 k, .string n, .int .i64 i, .int .i64 hm, .slice sa T.ts.length sc] 34)) := (Below.refl _ w).alloc (Nat.le_refl _) _
  have HBx : Hid (Box (w.alloc (.cells #[.int .i64 k, .string n, .int .i64 i, .int .i64 hm, .slice sa T.ts.length sc] 34)) w.heap.size (.int .i64 k) (.string n) (.int .i64 i) (.int .i64 hm) (.slice sa T.ts.length sc)) := Box.made _ _ _ _ _ _
  have HP : Hid (∀ V, Below w.heap.size w V → Calls Try.prog 81 #[.slice da ds.length dc] V fun e w' => ∃ b m, e = .returned (.map (some b)) ∧ KM w' b m (kn ds) ∧ Below V.heap.size V w') := fun V hb => (params_any ds hds _ S'' V (hD.lift' hb)).mono fun e w' ⟨b, m, h1, h2, _, h3⟩ => ⟨b, m, h1, h2, h3⟩
  have HFm : Hid (∀ V b m, Below w.heap.size w V → KM V b m (kn ds) → Calls Try.prog 80 #[.map (some b), .agg #[.int .i64 k, .string n, .int .i64 i, .int .i64 hm, .slice sa T.ts.length sc], .slice na ns.length nc] V fun e w' => e = .returned (.int .i64 (frm (kn ds) ns T)) ∧ Below V.heap.size V w') := fun V b m hb hk => formed_any (kn ds) ns T b m _ _ S S' V hk (hN.lift' hb) (h.lift hb)
  have HB := Lib.hid hal
  clear hal hN hD h
  generalize T.ts.length = tn at *
  generalize ns.length = nn at *
  generalize ds.length = dn at *
  generalize frm (kn ds) ns T = fr at *
  go_enter Try.func59, Try.ntmps59
  go_upto_region 1 with fail
  generalize (w.alloc (.cells #[.int .i64 k, .string n, .int .i64 i, .int .i64 hm, .slice sa tn sc] 34)) = V at *
  obtain ⟨b0, b1, b2, b3, b4⟩ := HBx.out.cells
  go_region_held3 (fun w' => w'.cell? ⟨w.heap.size, 0, none⟩ = some (.int .i64 k) ∧ w'.cell? ⟨w.heap.size, 1, none⟩ = some (.string n) ∧ w'.cell? ⟨w.heap.size, 2, none⟩ = some (.int .i64 i) ∧ w'.cell? ⟨w.heap.size, 3, none⟩ = some (.int .i64 hm) ∧ w'.cell? ⟨w.heap.size, 4, none⟩ = some (.slice sa tn sc) ∧ Below V.heap.size V w')
    (first
      | (go_split_ands; exact keepB5 (by assumption) (by assumption) (by assumption) (by assumption) (by assumption) (by assumption) hb)
      | exact ⟨b0, b1, b2, b3, b4, (Below.refl _ V).drew⟩)
    (first
      | (go_at_call 81; (with_reducible refine (HP.out _ ?_).mono ?_); (go_split_ands; exact HB.out.trans (Below.mono (by assumption) HB.out.size)); go_split_ands; rintro e w' ⟨mb, mm, rfl, hk, hb⟩; have HK := Lib.hid hk; have HL := Lib.hid (HB.out.trans (Below.mono (keepCall' (W := V) (by assumption) hb) HB.out.size)); clear hk)
      | (go_at_call 80; (with_reducible refine (HFm.out _ mb mm HL.out HK.out).mono ?_); rintro e w' ⟨rfl, hb⟩))
  go_split_ands
  have hbW : Below V.heap.size V w' := by assumption
  go_wp2
  go_ret
  exact ⟨rfl, HB.out.trans (hbW.mono HB.out.size)⟩
end Go.Proofs.Ytljgpgmaceackaa
