import Derived.Test.YthphnacfidofbaaGreatDoorTyPMa
/- The package's reading of types: what it is to find, by the fuel; enclosed and atom. -/
namespace Go.Proofs.YthphnacfidofbaaGreatDoor
open Go.RowKit Go.Maps Mth

/-- What a reading finds: a type and the index behind it, or the index of the unexpected token. -/
inductive PR where
  | ok (T : Ty) (j : Nat)
  | bad (p : Nat)
inductive PL where
  | ok (l : List Ty) (j : Nat)
  | bad (p : Nat)
def qEncl (ts : List Tok) : Option PR → Option PR
  | none => none
  | some (.bad p) => some (.bad p)
  | some (.ok T j) => if rMark ts j ⟨#[41]⟩ then some (.ok T (j + 1)) else some (.bad j)
mutual
def qAtom : Nat → List Tok → Nat → Option PR
  | 0, _, _ => none
  | f + 1, ts, i =>
    if tkK ts i == 1 then some (.ok (.mk 5 (txt ts i) 0 0 []) (i + 1))
    else if tkK ts i == 2 then some (.ok (.mk 4 (txt ts i) 0 0 []) (i + 1))
    else if rMark ts i ⟨#[40]⟩ then qEncl ts (qType f ts (i + 1))
    else some (.bad i)
def qType : Nat → List Tok → Nat → Option PR
  | 0, _, _ => none
  | f + 1, ts, i =>
    if tkK ts i == 2 then
      match qArgs f ts (i + 1) [] with
      | none => none
      | some (.bad p) => some (.bad p)
      | some (.ok l j) => qArrow f ts j (.mk 4 (txt ts i) 0 0 l)
    else
      match qAtom f ts i with
      | none => none
      | some (.bad p) => some (.bad p)
      | some (.ok T j) => qArrow f ts j T
def qArrow : Nat → List Tok → Nat → Ty → Option PR
  | 0, _, _, _ => none
  | f + 1, ts, i, a =>
    if rMark ts i ⟨#[45, 62]⟩ then
      match qType f ts (i + 1) with
      | none => none
      | some (.bad p) => some (.bad p)
      | some (.ok T j) => some (.ok (con arrN [a, T]) j)
    else some (.ok a i)
def qArgs : Nat → List Tok → Nat → List Ty → Option PL
  | 0, _, _, _ => none
  | f + 1, ts, i, acc =>
    if rStart ts i then
      match qAtom f ts i with
      | none => none
      | some (.bad p) => some (.bad p)
      | some (.ok T j) => qArgs f ts j (acc ++ [T])
    else some (.ok acc i)
end
def qApp (f : Nat) (ts : List Tok) (i : Nat) : Option PR :=
  if tkK ts i == 2 then
    match qArgs f ts (i + 1) [] with
    | none => none
    | some (.bad p) => some (.bad p)
    | some (.ok l j) => some (.ok (.mk 4 (txt ts i) 0 0 l) j)
  else qAtom f ts i

/-- The results are those of a reading. -/
def PIs (ts : List Tok) : PR → Ty → Nat → Value → Prop
  | .ok T j, T', j', ev => T' = T ∧ j' = j ∧ ev = .nilIface
  | .bad p, _, _, ev => ev = .iface 150 (.agg #[.int .i64 (posAt ts p)])
def PkEnd (w : World) (b base : Nat) (ts : List Tok) (r : PR) (e : Ending) (w' : World) : Prop :=
  ∃ u T j ev, e = .returned (.tuple #[u, ev]) ∧ Rep w' (fun c => base ≤ c) T u ∧ PkX w' b ts j ∧ w.grownBy w' (some b) ∧ PIs ts r T j ev
def PkAt (fid : Nat) (ts : List Tok) (i : Nat) (r : Option PR) : Prop :=
  ∀ R, r = some R → ∀ (b base : Nat) (w : World), b < base → base ≤ w.heap.size → PkX w b ts i → Calls Tryz.prog fid #[.pointer (some ⟨b, 0, none⟩)] w (PkEnd w b base ts R)
theorem PkEnd.ok {w w' : World} {b base : Nat} {ts : List Tok} {T : Ty} {j : Nat} {e : Ending} (h : PkEnd w b base ts (.ok T j) e w') : ∃ u, e = .returned (.tuple #[u, .nilIface]) ∧ Rep w' (fun c => base ≤ c) T u ∧ PkX w' b ts j ∧ w.grownBy w' (some b) := by
  obtain ⟨u, T', j', ev, he, h1, h2, h3, rfl, rfl, rfl⟩ := h
  exact ⟨u, he, h1, h2, h3⟩
theorem PkEnd.bad {w w' : World} {b base : Nat} {ts : List Tok} {p : Nat} {e : Ending} (h : PkEnd w b base ts (.bad p) e w') : ∃ u T j, e = .returned (.tuple #[u, .iface 150 (.agg #[.int .i64 (posAt ts p)])]) ∧ Rep w' (fun c => base ≤ c) T u ∧ PkX w' b ts j ∧ w.grownBy w' (some b) := by
  obtain ⟨u, T', j', ev, he, h1, h2, h3, rfl⟩ := h
  exact ⟨u, T', j', he, h1, h2, h3⟩

/-- What holds while a method runs: its result is zero yet. -/
structure ZSt (w : World) (b : Nat) (ts : List Tok) (j : Nat) (V : World) : Prop where
  zero : Zero V w.heap.size
  rd : PkX V b ts j
  grown : w.grownBy V (some b)
  lt : b < w.heap.size
  size : w.heap.size + 1 ≤ V.heap.size
theorem zst_new {w : World} {b : Nat} {ts : List Tok} {j : Nat} (h : PkX w b ts j) : ZSt w b ts j (w.alloc (.cells #[.int .i64 0, .string ⟨#[]⟩, .int .i64 0, .int .i64 0, .slice none 0 0] 30)) := by
  have hb : Below w.heap.size w (w.alloc (.cells #[.int .i64 0, .string ⟨#[]⟩, .int .i64 0, .int .i64 0, .slice none 0 0] 30)) := (Below.refl _ w).alloc (Nat.le_refl _) _
  exact ⟨Box.made _ _ _ _ _ _, h.lift hb, below_grown_some hb b, h.lt, by simp⟩
theorem ZSt.lift {w V V' : World} {b : Nat} {ts : List Tok} {j : Nat} (h : ZSt w b ts j V) (hb : Below V.heap.size V V') : ZSt w b ts j V' :=
  ⟨Box.lift h.zero hb, h.rd.lift hb, grown_trans h.grown (below_grown_some hb b), h.lt, Nat.le_trans h.size hb.size⟩
theorem ZSt.go {w V V' : World} {b : Nat} {ts : List Tok} {j j' : Nat} (h : ZSt w b ts j V) (hr : PkX V' b ts j') (hg : V.grownBy V' (some b)) : ZSt w b ts j' V' :=
  ⟨Box.grown h.zero hg (by intro e; have := Option.some.inj e; have := h.lt; omega), hr, grown_trans h.grown hg, h.lt, Nat.le_trans h.size hg.size⟩
/-- The result is stored: the end. -/
theorem ZSt.fin {w V V' : World} {b base : Nat} {ts : List Tok} {j : Nat} (h : ZSt w b ts j V) (hg : V.grownBy V' (some w.heap.size)) (hbase : base ≤ w.heap.size) {T : Ty} {u : Value} (hr : Rep V (fun c => w.heap.size + 1 ≤ c) T u) :
    Rep V' (fun c => base ≤ c) T u ∧ PkX V' b ts j ∧ w.grownBy V' (some b) :=
  ⟨hr.kept (fun c hc => by omega) (fun c hc hlt => hg.block c hlt (by intro e; have := Option.some.inj e; omega)), h.rd.other h.lt hg, grown_fresh h.grown hg fun k e => by have := Option.some.inj e; omega⟩
theorem ZSt.leaf {w V V' : World} {b base : Nat} {ts : List Tok} {j : Nat} (h : ZSt w b ts j V) (hg : V.grownBy V' (some w.heap.size)) (k : Int) (n : ByteArray) (hn : n.size ≤ maxLen) :
    Rep V' (fun c => base ≤ c) (.mk k n 0 0 []) (.agg #[.int .i64 k, .string n, .int .i64 0, .int .i64 0, .slice none 0 0]) ∧ PkX V' b ts j ∧ w.grownBy V' (some b) :=
  ⟨rep_leaf _ _ k n 0 0 hn, h.rd.other h.lt hg, grown_fresh h.grown hg fun k e => by have := Option.some.inj e; omega⟩
theorem zero_ok : (⟨#[]⟩ : ByteArray).size ≤ maxLen := Nat.zero_le _

set_option maxHeartbeats 3200000 in
theorem encl_of (ts : List Tok) (i : Nat) (r : Option PR) (H : PkAt 44 ts i r) : PkAt 73 ts i (qEncl ts r) := by
  intro R hR b base w hbb hbase h
  have HZ : Hid (ZSt w b ts i _) := zst_new h
  clear h
  cases r with
  | none => simp [qEncl] at hR
  | some r0 =>
    have HT := Lib.hid (H r0 rfl)
    clear H
    cases r0 with
    | bad p =>
      simp only [qEncl, Option.some.injEq] at hR
      subst hR
      go_enter Tryz.func73, Tryz.ntmps73
      go_upto_region 1 with fail
      generalize (w.alloc (.cells #[.int .i64 0, .string ⟨#[]⟩, .int .i64 0, .int .i64 0, .slice none 0 0] 30)) = V at *
      have hsz := HZ.out.size
      go_wp2_with fail
      go_at_call 44
      refine (HT.out b (w.heap.size + 1) V (by omega) hsz HZ.out.rd).mono ?_
      intro e w1 he
      obtain ⟨u, T, j, rfl, hrep, hrd, hg⟩ := he.bad
      have HZ1 := Lib.hid (HZ.out.go hrd hg)
      obtain ⟨uk, un, ui, uh, ua, um, uc, rfl⟩ := hrep.form
      have HZ2 := Lib.hid (HZ1.out.lift ((Below.refl _ w1).alloc (Nat.le_refl _) (.cells #[.int .i64 uk, .string un, .int .i64 ui, .int .i64 uh, .slice ua um uc] 30)))
      clear hrep hrd hg he HZ HT
      go_wp2_with (refine wpList_store5 rfl _ _ rfl _ _ _ _ _ _ HZ2.out.zero rfl _ _ _ _ _ _ _ rfl ?_; intro w4 hB4 hg4 hs4)
      obtain ⟨c0, c1, c2, c3, c4⟩ := hB4.cells
      refine bodyPost_ret (by simp [results, Tryz.results73, go_sem, c0, c1, c2, c3, c4]; try rfl) rfl ?_
      obtain ⟨e1, e2, e3⟩ := HZ2.out.leaf (base := base) hg4 0 ⟨#[]⟩ zero_ok
      exact ⟨_, _, _, _, rfl, e1, e2, e3, rfl⟩
    | ok T j =>
      have HR : Hid (qEncl ts (some (.ok T j)) = some R) := hR
      clear hR
      go_enter Tryz.func73, Tryz.ntmps73
      go_upto_region 1 with fail
      generalize (w.alloc (.cells #[.int .i64 0, .string ⟨#[]⟩, .int .i64 0, .int .i64 0, .slice none 0 0] 30)) = V at *
      have hsz := HZ.out.size
      go_wp2_with fail
      go_at_call 44
      refine (HT.out b (w.heap.size + 1) V (by omega) hsz HZ.out.rd).mono ?_
      intro e w1 he
      obtain ⟨u, rfl, hrep, hrd, hg⟩ := he.ok
      have HZ1 := Lib.hid (HZ.out.go hrd hg)
      obtain ⟨uk, un, ui, uh, ua, um, uc, rfl⟩ := hrep.form
      have hba : Below w1.heap.size w1 (w1.alloc (.cells #[.int .i64 uk, .string un, .int .i64 ui, .int .i64 uh, .slice ua um uc] 30)) := (Below.refl _ w1).alloc (Nat.le_refl _) _
      have HZ2 := Lib.hid (HZ1.out.lift hba)
      have HP2 := Lib.hid (hrep.lift hba)
      have HB2 : Hid (Box (w1.alloc (.cells #[.int .i64 uk, .string un, .int .i64 ui, .int .i64 uh, .slice ua um uc] 30)) w1.heap.size (.int .i64 uk) (.string un) (.int .i64 ui) (.int .i64 uh) (.slice ua um uc)) := Box.made _ _ _ _ _ _
      have hs1 := HZ1.out.size
      clear hrep hrd hg he HZ HT hba HZ1
      go_wp2_with fail
      go_at_call 68
      generalize (w1.alloc (.cells #[.int .i64 uk, .string un, .int .i64 ui, .int .i64 uh, .slice ua um uc] 30)) = V2 at *
      generalize w1.heap.size = n4 at *
      refine (pkTok_any b ts j V2 HZ2.out.rd).mono ?_
      rintro e w3 ⟨rfl, hb3⟩
      have HZ3 := Lib.hid (HZ2.out.lift hb3)
      have HP3 := Lib.hid (HP2.out.lift hb3)
      have HB3 := Lib.hid (Box.lift HB2.out hb3)
      clear hb3 HZ2 HP2 HB2
      go_wp2_with fail
      go_at_call 67
      refine (isMark_any (tkK ts j) (txt ts j) (tkP ts j) ⟨#[41]⟩ w3).mono ?_
      rintro e w4 ⟨rfl, hb4⟩
      have HZ4 := Lib.hid (HZ3.out.lift hb4)
      have HP4 := Lib.hid (HP3.out.lift hb4)
      have HB4 := Lib.hid (Box.lift HB3.out hb4)
      clear hb4 HZ3 HP3 HB3
      have hm : (tkK ts j == 5 && (txt ts j).toList == (⟨#[41]⟩ : ByteArray).toList) = rMark ts j ⟨#[41]⟩ := rfl
      rw [hm]
      clear hm
      cases hq : rMark ts j ⟨#[41]⟩ with
      | true =>
        have hlt : j < ts.length := by
          rcases Nat.lt_or_ge j ts.length with h | h
          · exact h
          · unfold rMark tkK at hq; rw [List.getElem?_eq_none h] at hq; simp at hq
        have hRe : R = .ok T (j + 1) := by have := HR.out; simp only [qEncl, hq, if_true, Option.some.injEq] at this; exact this.symm
        have hst := HZ4.out.rd.step hlt
        obtain ⟨a, cap, c0, c1, f1, hcap, hT⟩ := HZ4.out.rd.cells
        have hjl := HZ4.out.rd.le.2
        have HZ5 := Lib.hid (HZ4.out.go hst.1 hst.2)
        have HP5 := Lib.hid (HP4.out.kept (fun c hc => hc) (fun c hc hlt => hst.2.block c hlt (by intro e; have := Option.some.inj e; omega)))
        have HB5 := Lib.hid (Box.grown HB4.out hst.2 (by intro e; have := Option.some.inj e; omega))
        subst hRe
        clear hq HR hst hT hcap HP4 HB4
        go_upto_region 7 with fail
        clear c0 c1 f1
        generalize w4.setCell ⟨b, 1, none⟩ (.int .i64 ((j : Int) + 1)) = V5 at *
        obtain ⟨d0, d1, d2, d3, d4⟩ := HB5.out.cells
        go_wp2_with (refine wpList_store5 rfl _ _ rfl _ _ _ _ _ _ HZ5.out.zero rfl _ _ _ _ _ _ _ rfl ?_; intro w6 hB6 hg6 hs6)
        obtain ⟨c0, c1, c2, c3, c4⟩ := hB6.cells
        refine bodyPost_ret (by simp [results, Tryz.results73, go_sem, c0, c1, c2, c3, c4]; try rfl) rfl ?_
        obtain ⟨e1, e2, e3⟩ := HZ5.out.fin hg6 hbase HP5.out
        exact ⟨_, _, _, _, rfl, e1, e2, e3, rfl, rfl, rfl⟩
      | false =>
        have hRe : R = .bad j := by have := HR.out; simp only [qEncl, hq, Bool.false_eq_true, if_false, Option.some.injEq] at this; exact this.symm
        subst hRe
        clear hq HR
        go_wp2_with fail
        go_at_call 71
        refine (unexpected_any b ts j w4 HZ4.out.rd).mono ?_
        rintro e w5 ⟨rfl, hb5⟩
        have HZ5 := Lib.hid (HZ4.out.lift hb5)
        clear hb5 HZ4 HP4 HB4
        go_wp2_with (refine wpList_store5 rfl _ _ rfl _ _ _ _ _ _ HZ5.out.zero rfl _ _ _ _ _ _ _ rfl ?_; intro w6 hB6 hg6 hs6)
        obtain ⟨c0, c1, c2, c3, c4⟩ := hB6.cells
        refine bodyPost_ret (by simp [results, Tryz.results73, go_sem, c0, c1, c2, c3, c4]; try rfl) rfl ?_
        obtain ⟨e1, e2, e3⟩ := HZ5.out.leaf (base := base) hg6 0 ⟨#[]⟩ zero_ok
        exact ⟨_, _, _, _, rfl, e1, e2, e3, rfl⟩
end Go.Proofs.YthphnacfidofbaaGreatDoor

/- The package's reading of types: atom. -/
namespace Go.Proofs.YthphnacfidofbaaGreatDoor
open Go.RowKit Go.Maps Mth

theorem tkK_lt {ts : List Tok} {i : Nat} (h : ¬ tkK ts i = 0) : i < ts.length := by
  rcases Nat.lt_or_ge i ts.length with h' | h'
  · exact h'
  · exact absurd (by unfold tkK; rw [List.getElem?_eq_none h']) h
theorem rMark_K {ts : List Tok} {i : Nat} {s : ByteArray} (h : rMark ts i s = true) : tkK ts i = 5 := by
  unfold rMark at h
  simp at h
  exact h.1
theorem rMark_lt {ts : List Tok} {i : Nat} {s : ByteArray} (h : rMark ts i s = true) : i < ts.length := tkK_lt (by rw [rMark_K h]; decide)
theorem rStart_lt {ts : List Tok} {i : Nat} (h : rStart ts i = true) : i < ts.length := by
  apply tkK_lt
  intro h0
  unfold rStart rMark at h
  rw [h0] at h
  simp at h
theorem con_leaf (n : ByteArray) (S : Nat → Prop) (w : World) (hn : n.size ≤ maxLen) (hS : ∀ b, w.heap.size ≤ b → S b) : Calls Tryz.prog 72 #[.string n, .slice none 0 0] w fun e w' => ∃ a c, e = .returned (.agg #[.int .i64 4, .string n, .int .i64 0, .int .i64 0, .slice a 0 c]) ∧ Rep w' S (.mk 4 n 0 0 []) (.agg #[.int .i64 4, .string n, .int .i64 0, .int .i64 0, .slice a 0 c]) ∧ Below w.heap.size w w' := by
  refine (con_any n [] (by simp) none 0 S w hS (repL_nil _ _)).mono ?_
  rintro e w' ⟨a, c, rfl, hr, hb⟩
  exact ⟨a, c, rfl, Rep.close hn hr, hb⟩

set_option maxHeartbeats 3200000 in
theorem atom_of (ts : List Tok) (i : Nat) (f : Nat) (H : PkAt 44 ts (i + 1) (qType f ts (i + 1))) : PkAt 46 ts i (qAtom (f + 1) ts i) := by
  intro R hR b base w hbb hbase h
  have hok := h.ok
  have HS := Lib.hid (txt_size hok i)
  have HZ : Hid (ZSt w b ts i _) := zst_new h
  have HE43 := Lib.hid (encl_of ts (i + 1) _ H)
  clear h H hok
  have HR : Hid (qAtom (f + 1) ts i = some R) := hR
  clear hR
  have HS0 : Hid (∀ w', Calls Tryz.prog 70 #[.agg #[.int .i64 (tkK ts i), .string (txt ts i), .int .i64 (tkP ts i)]] w' fun e w'' => e = .returned (.bool (rStart ts i)) ∧ Below w'.heap.size w' w'') := fun w' => starts_any _ _ _ w'
  cases hs : rStart ts i with
  | false =>
    have hk : tkK ts i ≠ 1 ∧ tkK ts i ≠ 2 ∧ rMark ts i ⟨#[40]⟩ = false := by
      unfold rStart at hs
      simp at hs
      exact ⟨hs.1.1, hs.1.2, hs.2⟩
    have hRe : R = .bad i := by
      have := HR.out
      unfold qAtom at this
      rw [if_neg (by simpa using hk.1), if_neg (by simpa using hk.2.1), if_neg (by simp [hk.2.2])] at this
      exact (Option.some.inj this).symm
    subst hRe
    rw [hs] at HS0
    clear hs hk HR HE43 HS
    go_enter Tryz.func46, Tryz.ntmps46
    go_upto_region 1 with fail
    generalize (w.alloc (.cells #[.int .i64 0, .string ⟨#[]⟩, .int .i64 0, .int .i64 0, .slice none 0 0] 30)) = V at *
    go_wp2_with fail
    go_at_call 68
    refine (pkTok_any b ts i V HZ.out.rd).mono ?_
    rintro e w1 ⟨rfl, hb1⟩
    have HZ1 := Lib.hid (HZ.out.lift hb1)
    clear hb1 HZ
    have HZ2 := Lib.hid (HZ1.out.lift ((Below.refl _ w1).alloc (Nat.le_refl _) (.cells #[.int .i64 (tkK ts i), .string (txt ts i), .int .i64 (tkP ts i)] 44)))
    clear HZ1
    go_wp2_with fail
    go_at_call 70
    generalize (w1.alloc (.cells #[.int .i64 (tkK ts i), .string (txt ts i), .int .i64 (tkP ts i)] 44)) = V2 at *
    refine (HS0.out V2).mono ?_
    rintro e w3 ⟨rfl, hb3⟩
    have HZ3 := Lib.hid (HZ2.out.lift hb3)
    clear hb3 HZ2 HS0
    go_wp2_with fail
    go_at_call 71
    refine (unexpected_any b ts i w3 HZ3.out.rd).mono ?_
    rintro e w4 ⟨rfl, hb4⟩
    have HZ4 := Lib.hid (HZ3.out.lift hb4)
    clear hb4 HZ3
    go_wp2_with (refine wpList_store5 rfl _ _ rfl _ _ _ _ _ _ HZ4.out.zero rfl _ _ _ _ _ _ _ rfl ?_; intro w6 hB6 hg6 hs6)
    obtain ⟨c0, c1, c2, c3, c4⟩ := hB6.cells
    refine bodyPost_ret (by simp [results, Tryz.results46, go_sem, c0, c1, c2, c3, c4]; try rfl) rfl ?_
    obtain ⟨e1, e2, e3⟩ := HZ4.out.leaf (base := base) hg6 0 ⟨#[]⟩ zero_ok
    exact ⟨_, _, _, _, rfl, e1, e2, e3, rfl⟩
  | true =>
    have hlt := rStart_lt hs
    have hk : ((tkK ts i == 1) = true ∧ R = .ok (.mk 5 (txt ts i) 0 0 []) (i + 1)) ∨ ((tkK ts i == 1) = false ∧ (tkK ts i == 2) = true ∧ R = .ok (.mk 4 (txt ts i) 0 0 []) (i + 1)) ∨ ((tkK ts i == 1) = false ∧ (tkK ts i == 2) = false ∧ qEncl ts (qType f ts (i + 1)) = some R) := by
      have hq := HR.out
      unfold qAtom at hq
      unfold rStart at hs
      cases h1 : (tkK ts i == 1) with
      | true =>
        rw [h1] at hq
        simp only [if_true, Option.some.injEq] at hq
        exact .inl ⟨rfl, hq.symm⟩
      | false =>
        rw [h1] at hq hs
        simp only [Bool.false_eq_true, if_false] at hq
        cases h2 : (tkK ts i == 2) with
        | true =>
          rw [h2] at hq
          simp only [if_true, Option.some.injEq] at hq
          exact .inr (.inl ⟨rfl, rfl, hq.symm⟩)
        | false =>
          rw [h2] at hs hq
          simp only [Bool.false_eq_true, if_false] at hq
          simp only [Bool.false_or] at hs
          rw [hs] at hq
          simp only [if_true] at hq
          exact .inr (.inr ⟨rfl, rfl, hq⟩)
    rw [hs] at HS0
    have HK := Lib.hid hk
    clear hs hk
    go_enter Tryz.func46, Tryz.ntmps46
    go_upto_region 1 with fail
    generalize (w.alloc (.cells #[.int .i64 0, .string ⟨#[]⟩, .int .i64 0, .int .i64 0, .slice none 0 0] 30)) = V at *
    have hs0 := HZ.out.size
    go_wp2_with fail
    go_at_call 68
    refine (pkTok_any b ts i V HZ.out.rd).mono ?_
    rintro e w1 ⟨rfl, hb1⟩
    have HZ1 := Lib.hid (HZ.out.lift hb1)
    have hs1 := hb1.size
    clear hb1 HZ
    have HZ2 := Lib.hid (HZ1.out.lift ((Below.refl _ w1).alloc (Nat.le_refl _) (.cells #[.int .i64 (tkK ts i), .string (txt ts i), .int .i64 (tkP ts i)] 44)))
    have HT2 : Hid ((w1.alloc (.cells #[.int .i64 (tkK ts i), .string (txt ts i), .int .i64 (tkP ts i)] 44)).heap[w1.heap.size]? = some (.cells #[.int .i64 (tkK ts i), .string (txt ts i), .int .i64 (tkP ts i)] 44 (0, 0))) := heap_alloc_new w1 _
    clear HZ1
    go_wp2_with fail
    go_at_call 70
    generalize (w1.alloc (.cells #[.int .i64 (tkK ts i), .string (txt ts i), .int .i64 (tkP ts i)] 44)) = V2 at *
    refine (HS0.out V2).mono ?_
    rintro e w3 ⟨rfl, hb3⟩
    have HZ3 := Lib.hid (HZ2.out.lift hb3)
    have HT3 : Hid (w3.heap[w1.heap.size]? = some (.cells #[.int .i64 (tkK ts i), .string (txt ts i), .int .i64 (tkP ts i)] 44 (0, 0))) := by show _ = _; rw [hb3.block _ (Array.getElem?_eq_some_iff.1 HT2.out).1]; exact HT2.out
    clear hb3 HZ2 HS0 HT2
    generalize w1.heap.size = n4 at *
    have hst := HZ3.out.rd.step hlt
    obtain ⟨a, cap, c0, c1, f1, hcap, hT⟩ := HZ3.out.rd.cells
    have hjl := HZ3.out.rd.le.2
    have hbw := HZ3.out.lt
    have HZ5 := Lib.hid (HZ3.out.go hst.1 hst.2)
    have HT5 : Hid ((w3.setCell ⟨b, 1, none⟩ (.int .i64 ((i : Int) + 1))).heap[n4]? = some (.cells #[.int .i64 (tkK ts i), .string (txt ts i), .int .i64 (tkP ts i)] 44 (0, 0))) := by show _ = _; rw [hst.2.block _ (Array.getElem?_eq_some_iff.1 HT3.out).1 (by intro e; have := Option.some.inj e; omega)]; exact HT3.out
    clear hst hT hcap HT3
    go_upto_region 5 with fail
    clear c0 c1 f1
    generalize w3.setCell ⟨b, 1, none⟩ (.int .i64 ((i : Int) + 1)) = V5 at *
    obtain ⟨⟨t0, t1, t2⟩, -⟩ := tok_cells HT5.out
    generalize txt ts i = x at *
    generalize tkP ts i = p at *
    clear HR
    rcases HK.out with ⟨h1, rfl⟩ | ⟨h1, h2, rfl⟩ | ⟨h1, h2, h3⟩
    · clear HK HE43
      go_wp2_with (refine wpList_store5 rfl _ _ rfl _ _ _ _ _ _ HZ5.out.zero rfl _ _ _ _ _ _ _ rfl ?_; intro w6 hB6 hg6 hs6)
      obtain ⟨c0, c1, c2, c3, c4⟩ := hB6.cells
      refine bodyPost_ret (by simp [results, Tryz.results46, go_sem, c0, c1, c2, c3, c4]; try rfl) rfl ?_
      obtain ⟨e1, e2, e3⟩ := HZ5.out.leaf (base := base) hg6 5 x HS.out
      exact ⟨_, _, _, _, rfl, e1, e2, e3, rfl, rfl, rfl⟩
    · clear HK HE43
      have hs5 := HZ5.out.size
      go_wp2_with fail
      go_at_call 72
      refine (con_leaf x (fun c => w.heap.size + 1 ≤ c) V5 HS.out (fun c hc => Nat.le_trans hs5 hc)).mono ?_
      rintro e w6 ⟨a6, c6, rfl, hr6, hb6⟩
      have HZ6 := Lib.hid (HZ5.out.lift hb6)
      have HP6 := Lib.hid hr6
      clear hr6 hb6 HZ5 HT5 t0 t1 t2
      go_wp2_with (refine wpList_store5 rfl _ _ rfl _ _ _ _ _ _ HZ6.out.zero rfl _ _ _ _ _ _ _ rfl ?_; intro w7 hB7 hg7 hs7)
      obtain ⟨c0, c1, c2, c3, c4⟩ := hB7.cells
      refine bodyPost_ret (by simp [results, Tryz.results46, go_sem, c0, c1, c2, c3, c4]; try rfl) rfl ?_
      obtain ⟨e1, e2, e3⟩ := HZ6.out.fin hg7 hbase HP6.out
      exact ⟨_, _, _, _, rfl, e1, e2, e3, rfl, rfl, rfl⟩
    · have HC := Lib.hid (HE43.out R h3)
      clear HK HE43 h3
      have hs5 := HZ5.out.size
      go_wp2_with fail
      go_at_call 73
      refine (HC.out b (w.heap.size + 1) V5 (by omega) hs5 HZ5.out.rd).mono ?_
      rintro e w6 ⟨u, T, j, ev, rfl, hrep, hrd, hg, hp⟩
      have HZ6 := Lib.hid (HZ5.out.go hrd hg)
      have HP6 := Lib.hid hrep
      have HI6 := Lib.hid hp
      obtain ⟨uk, un, ui, uh, ua, um, uc, rfl⟩ := hrep.form
      clear hrep hrd hg hp HZ5 HT5 t0 t1 t2
      go_wp2_with (refine wpList_store5 rfl _ _ rfl _ _ _ _ _ _ HZ6.out.zero rfl _ _ _ _ _ _ _ rfl ?_; intro w7 hB7 hg7 hs7)
      obtain ⟨c0, c1, c2, c3, c4⟩ := hB7.cells
      refine bodyPost_ret (by simp [results, Tryz.results46, go_sem, c0, c1, c2, c3, c4]; try rfl) rfl ?_
      obtain ⟨e1, e2, e3⟩ := HZ6.out.fin hg7 hbase HP6.out
      exact ⟨_, _, _, _, rfl, e1, e2, e3, HI6.out⟩
end Go.Proofs.YthphnacfidofbaaGreatDoor
