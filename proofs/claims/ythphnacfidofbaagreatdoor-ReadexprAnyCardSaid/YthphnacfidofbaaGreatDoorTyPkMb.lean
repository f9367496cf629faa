import Derived.Test.YthphnacfidofbaaGreatDoorTyPkMa
import Derived.Deep.LoopGhost
/- The package's reading of types: applied. -/
namespace Go.Proofs.YthphnacfidofbaaGreatDoor
open Go.RowKit Go.Maps Mth

theorem qargs_cases {g : Nat} {ts : List Tok} {p : Nat} {acc : List Ty} {L : PL} (h : qArgs g ts p acc = some L) :
    (rStart ts p = false ∧ L = .ok acc p) ∨ (rStart ts p = true ∧ ∃ g', g = g' + 1 ∧ ((∃ pb, qAtom g' ts p = some (.bad pb) ∧ L = .bad pb) ∨ (∃ V q, qAtom g' ts p = some (.ok V q) ∧ qArgs g' ts q (acc ++ [V]) = some L))) := by
  cases g with
  | zero => simp [qArgs] at h
  | succ g =>
    unfold qArgs at h
    cases h1 : rStart ts p with
    | false =>
      rw [h1] at h
      simp only [Bool.false_eq_true, if_false, Option.some.injEq] at h
      exact .inl ⟨rfl, h.symm⟩
    | true =>
      rw [h1] at h
      simp only [if_true] at h
      cases h2 : qAtom g ts p with
      | none => rw [h2] at h; simp at h
      | some r =>
        rw [h2] at h
        cases r with
        | bad pb =>
          simp only [Option.some.injEq] at h
          exact .inr ⟨rfl, g, rfl, .inl ⟨pb, h2, h.symm⟩⟩
        | ok V q => exact .inr ⟨rfl, g, rfl, .inr ⟨V, q, h2, h⟩⟩
def RofL (x : ByteArray) : PL → PR
  | .ok l j => .ok (.mk 4 x 0 0 l) j
  | .bad p => .bad p
theorem qapp_cases {f : Nat} {ts : List Tok} {i : Nat} {R : PR} (h : qApp f ts i = some R) :
    ((tkK ts i == 2) = true ∧ ∃ L, qArgs f ts (i + 1) [] = some L ∧ R = RofL (txt ts i) L) ∨ ((tkK ts i == 2) = false ∧ qAtom f ts i = some R) := by
  unfold qApp at h
  cases h1 : (tkK ts i == 2) with
  | true =>
    rw [h1] at h
    simp only [if_true] at h
    cases h2 : qArgs f ts (i + 1) [] with
    | none => rw [h2] at h; simp at h
    | some L =>
      rw [h2] at h
      cases L with
      | bad p => simp only [Option.some.injEq] at h; exact .inl ⟨rfl, _, rfl, h.symm⟩
      | ok l j => simp only [Option.some.injEq] at h; exact .inl ⟨rfl, _, rfl, h.symm⟩
  | false =>
    rw [h1] at h
    simp only [Bool.false_eq_true, if_false] at h
    exact .inr ⟨rfl, h⟩

/-- The loop over the arguments. -/
structure ASt (w : World) (b n4 : Nat) (ts : List Tok) (p : Nat) (k : Int) (x : ByteArray) (q : Int) (av : Value) (acc : List Ty) (V : World) : Prop where
  z : ZSt w b ts p V
  head : V.heap[n4]? = some (.cells #[.int .i64 k, .string x, .int .i64 q] 44 (0, 0))
  row : RowG TyE V (n4 + 1) (fun c => n4 + 1 ≤ c) av acc
  le : w.heap.size + 1 ≤ n4
  lt : n4 + 1 ≤ V.heap.size
section
variable {w V V' : World} {b n4 : Nat} {ts : List Tok} {p p' : Nat} {k : Int} {x : ByteArray} {q : Int} {av : Value} {acc : List Ty}
theorem ASt.lift (h : ASt w b n4 ts p k x q av acc V) (hb : Below V.heap.size V V') : ASt w b n4 ts p k x q av acc V' :=
  ⟨h.z.lift hb, by rw [hb.block _ (Array.getElem?_eq_some_iff.1 h.head).1]; exact h.head, h.row.lift hb, h.le, Nat.le_trans h.lt hb.size⟩
theorem ASt.go (h : ASt w b n4 ts p k x q av acc V) (hr : PkX V' b ts p') (hg : V.grownBy V' (some b)) : ASt w b n4 ts p' k x q av acc V' := by
  have h1 := h.z.lt
  have h2 := h.le
  exact ⟨h.z.go hr hg, by rw [hg.block _ (Array.getElem?_eq_some_iff.1 h.head).1 (by intro e; have := Option.some.inj e; omega)]; exact h.head, h.row.kept hg (RowG.off h.row (by omega)) (fun c hc e => by have := Option.some.inj e; omega), h.le, Nat.le_trans h.lt hg.size⟩
theorem ASt.push (h : ASt w b n4 ts p k x q av acc V) {av' : Value} {X : Ty} (hrow : RowG TyE V' (n4 + 1) (fun c => n4 + 1 ≤ c) av' (acc ++ [X])) (hg : V.grownBy V' av.ownBlock) : ASt w b n4 ts p k x q av' (acc ++ [X]) V' := by
  have h1 := h.z.lt
  have h2 := h.le
  have hlt := fun R e => RowG.lt h.row R e
  have hz := h.z
  have hrd : PkX V' b ts p := by
    cases hv : av.ownBlock with
    | none => rw [hv] at hg; exact hz.rd.lift ⟨hg.os, hg.tape, hg.output, hg.size, fun i hi => hg.block i hi (by simp)⟩
    | some R => rw [hv] at hg; exact hz.rd.other (by have := (hlt R hv).1; omega) hg
  exact ⟨⟨Box.grown hz.zero hg (fun e => by have := (hlt _ e.symm).1; omega), hrd, grown_fresh hz.grown hg (fun R e => by have := (hlt R e).1; omega), hz.lt, Nat.le_trans hz.size hg.size⟩,
    by rw [hg.block _ (Array.getElem?_eq_some_iff.1 h.head).1 (fun e => by have := (hlt _ e.symm).1; omega)]; exact h.head, hrow, h.le, Nat.le_trans h.lt hg.size⟩
end

set_option maxHeartbeats 3200000 in
theorem applied_of (ts : List Tok) (f : Nat) (hf : f ≤ 900000) (HA : Hid (∀ g, g ≤ f → ∀ i, PkAt 46 ts i (qAtom g ts i))) (i : Nat) : PkAt 66 ts i (qApp f ts i) := by
  intro R hR b base w hbb hbase h
  have hok := h.ok
  have HS := Lib.hid (txt_size hok i)
  have HZ : Hid (ZSt w b ts i _) := zst_new h
  have hbw := h.lt
  clear h hok
  rcases qapp_cases hR with ⟨h2, L, hL, hRL⟩ | ⟨h2, hA⟩
  · have HL := Lib.hid hL
    have HRL : Hid (R = RofL (txt ts i) L) := hRL
    have h2' : (tkK ts i != 2) = false := by simp [bne, h2]
    have hlt : i < ts.length := tkK_lt (by simp at h2; omega)
    clear hR hL hRL
    go_enter Tryz.func66, Tryz.ntmps66
    go_upto_region 1 with fail
    generalize (w.alloc (.cells #[.int .i64 0, .string ⟨#[]⟩, .int .i64 0, .int .i64 0, .slice none 0 0] 30)) = V at *
    go_wp2_with fail
    go_at_call 68
    refine (pkTok_any b ts i V HZ.out.rd).mono ?_
    rintro e w1 ⟨rfl, hb1⟩
    have HZ1 := Lib.hid (HZ.out.lift hb1)
    clear hb1 HZ
    have HA2 : Hid (ASt w b w1.heap.size ts i (tkK ts i) (txt ts i) (tkP ts i) (.slice none 0 0) [] (w1.alloc (.cells #[.int .i64 (tkK ts i), .string (txt ts i), .int .i64 (tkP ts i)] 44))) :=
      ⟨HZ1.out.lift ((Below.refl _ w1).alloc (Nat.le_refl _) _), heap_alloc_new w1 _, rowG_nil _ _ _ _, HZ1.out.size, by simp⟩
    clear HZ1
    go_upto_region 4 with fail
    generalize (w1.alloc (.cells #[.int .i64 (tkK ts i), .string (txt ts i), .int .i64 (tkP ts i)] 44)) = V2 at *
    generalize w1.heap.size = n4 at *
    have hst := HA2.out.z.rd.step hlt
    obtain ⟨a, cap, c0, c1, f1, hcap, hT⟩ := HA2.out.z.rd.cells
    have hjl := HA2.out.z.rd.le.2
    have HA5 := Lib.hid (HA2.out.go hst.1 hst.2)
    clear hst hT hcap HA2
    go_upto_region 5 with fail
    clear c0 c1 f1
    generalize V2.setCell ⟨b, 1, none⟩ (.int .i64 ((i : Int) + 1)) = V5 at *
    clear h2 h2'
    generalize tkK ts i = k at *
    generalize txt ts i = x at *
    generalize tkP ts i = p0 at *
    go_wp2
    go_loopg [5] f (fun g av wr => ∃ (acc : List Ty) (p : Nat), Hid (qArgs g ts p acc = some L) ∧ acc.length + g ≤ f ∧ g ≤ f ∧ Hid (ASt w b n4 ts p k x p0 av acc wr))
    case atStart => exact ⟨[], i + 1, HL, by simp, Nat.le_refl _, HA5⟩
    case round =>
      obtain ⟨acc, p, HP, hal, hgf, HAr⟩ := hrel
      obtain ⟨sa, sc, rfl, -, -⟩ := HAr.out.row.slice
      have HS0 : Hid (∀ w', Calls Tryz.prog 70 #[.agg #[.int .i64 (tkK ts p), .string (txt ts p), .int .i64 (tkP ts p)]] w' fun e w'' => e = .returned (.bool (rStart ts p)) ∧ Below w'.heap.size w' w'') := fun w' => starts_any _ _ _ w'
      rcases qargs_cases HP.out with ⟨hq, rfl⟩ | ⟨hq, g', rfl, hcase⟩
      · rw [hq] at HS0
        have hRe : R = .ok (.mk 4 x 0 0 acc) p := HRL.out
        subst hRe
        clear hq HP HRL HL HA5
        go_wp2_with fail
        go_at_call 68
        refine (pkTok_any b ts p wr HAr.out.z.rd).mono ?_
        rintro e v1 ⟨rfl, hb1⟩
        have HA1 := Lib.hid (HAr.out.lift hb1)
        clear hb1 HAr
        go_wp2_with fail
        go_at_call 70
        refine (HS0.out v1).mono ?_
        rintro e v2 ⟨rfl, hb2⟩
        have HA2 := Lib.hid (HA1.out.lift hb2)
        clear hb2 HA1 HS0
        obtain ⟨⟨t0, t1, t2⟩, -⟩ := tok_cells HA2.out.head
        have hs2 := HA2.out.z.size
        have hle := HA2.out.le
        have HC : Hid (Calls Tryz.prog 72 #[.string x, .slice sa acc.length sc] v2 fun e w' => ∃ a c, e = .returned (.agg #[.int .i64 4, .string x, .int .i64 0, .int .i64 0, .slice a acc.length c]) ∧ RepL w' (fun c => w.heap.size + 1 ≤ c) acc (.slice a acc.length c) ∧ Below v2.heap.size v2 w') :=
          con_any x acc (by omega) sa sc (fun c => w.heap.size + 1 ≤ c) v2 (fun c hc => by omega) (slG_repL (HA2.out.row.slG (fun c hc => by omega) (fun c hc => by omega)))
        generalize acc.length = al at *
        go_wp2_with fail
        go_at_call 72
        refine HC.out.mono ?_
        rintro e v3 ⟨a3, c3, rfl, hr3, hb3⟩
        have HZ3 := Lib.hid (HA2.out.z.lift hb3)
        have HP3 : Hid (Rep v3 (fun c => w.heap.size + 1 ≤ c) (.mk 4 x 0 0 acc) _) := Rep.close HS.out hr3
        clear hr3 hb3 HC HA2 t0 t1 t2
        go_wp2_with (refine wpList_store5 rfl _ _ rfl _ _ _ _ _ _ HZ3.out.zero rfl _ _ _ _ _ _ _ rfl ?_; intro w7 hB7 hg7 hs7)
        obtain ⟨c0, c1, c2, c3', c4⟩ := hB7.cells
        refine bodyPost_ret (by simp [results, Tryz.results66, go_sem, c0, c1, c2, c3', c4]; try rfl) rfl ?_
        obtain ⟨e1, e2, e3⟩ := HZ3.out.fin hg7 hbase HP3.out
        exact ⟨_, _, _, _, rfl, e1, e2, e3, rfl, rfl, rfl⟩
      · rw [hq] at HS0
        clear hq
        rcases hcase with ⟨pb, hV, rfl⟩ | ⟨X, q, hV, hrest⟩
        · have HAt := Lib.hid (HA.out g' (by omega) p _ hV)
          have hRe : R = .bad pb := HRL.out
          subst hRe
          clear hV HP HRL HL HA5
          go_wp2_with fail
          go_at_call 68
          refine (pkTok_any b ts p wr HAr.out.z.rd).mono ?_
          rintro e v1 ⟨rfl, hb1⟩
          have HA1 := Lib.hid (HAr.out.lift hb1)
          clear hb1 HAr
          go_wp2_with fail
          go_at_call 70
          refine (HS0.out v1).mono ?_
          rintro e v2 ⟨rfl, hb2⟩
          have HA2 := Lib.hid (HA1.out.lift hb2)
          clear hb2 HA1 HS0
          have hs2 := HA2.out.z.size
          go_wp2_with fail
          go_at_call 46
          refine (HAt.out b (w.heap.size + 1) v2 (by omega) hs2 HA2.out.z.rd).mono ?_
          intro e v3 he
          obtain ⟨u, T, j, rfl, hrep, hrd, hg⟩ := he.bad
          have HZ3 := Lib.hid (HA2.out.z.go hrd hg)
          obtain ⟨uk, un, ui, uh, ua, um, uc, rfl⟩ := hrep.form
          have HZ4 := Lib.hid (HZ3.out.lift ((Below.refl _ v3).alloc (Nat.le_refl _) (.cells #[.int .i64 uk, .string un, .int .i64 ui, .int .i64 uh, .slice ua um uc] 30)))
          clear hrep hrd hg he HZ3 HAt HA2
          go_wp2_with (refine wpList_store5 rfl _ _ rfl _ _ _ _ _ _ HZ4.out.zero rfl _ _ _ _ _ _ _ rfl ?_; intro w7 hB7 hg7 hs7)
          obtain ⟨c0, c1, c2, c3, c4⟩ := hB7.cells
          refine bodyPost_ret (by simp [results, Tryz.results66, go_sem, c0, c1, c2, c3, c4]; try rfl) rfl ?_
          obtain ⟨e1, e2, e3⟩ := HZ4.out.leaf (base := base) hg7 0 ⟨#[]⟩ zero_ok
          exact ⟨_, _, _, _, rfl, e1, e2, e3, rfl⟩
        · have HAt := Lib.hid (HA.out g' (by omega) p _ hV)
          have HRest := Lib.hid hrest
          clear hV hrest HP HL HA5
          go_wp2_with fail
          go_at_call 68
          refine (pkTok_any b ts p wr HAr.out.z.rd).mono ?_
          rintro e v1 ⟨rfl, hb1⟩
          have HA1 := Lib.hid (HAr.out.lift hb1)
          clear hb1 HAr
          go_wp2_with fail
          go_at_call 70
          refine (HS0.out v1).mono ?_
          rintro e v2 ⟨rfl, hb2⟩
          have HA2 := Lib.hid (HA1.out.lift hb2)
          clear hb2 HA1 HS0
          have hs2 := HA2.out.z.size
          go_wp2_with fail
          go_at_call 46
          refine (HAt.out b v2.heap.size v2 (by omega) (Nat.le_refl _) HA2.out.z.rd).mono ?_
          intro e v3 he
          obtain ⟨u, rfl, hrep, hrd, hg⟩ := he.ok
          have HA3 := Lib.hid (HA2.out.go hrd hg)
          obtain ⟨uk, un, ui, uh, ua, um, uc, rfl⟩ := hrep.form
          have hbx : Below v3.heap.size v3 ((v3.alloc (.cells #[.int .i64 uk, .string un, .int .i64 ui, .int .i64 uh, .slice ua um uc] 30)).alloc (.cells #[.int .i64 uk, .string un, .int .i64 ui, .int .i64 uh, .slice ua um uc] 30)) := ((Below.refl _ v3).alloc (Nat.le_refl _) _).alloc (by simp) _
          have HA4 := Lib.hid (HA3.out.lift hbx)
          have hl2 := HA2.out.lt
          have HnB : Hid (∀ c, v2.heap.size ≤ c → n4 + 1 ≤ c ∧ some c ≠ (Value.slice sa acc.length sc).ownBlock) := fun c hc => ⟨by omega, fun e => by have := (RowG.lt HA2.out.row _ e.symm).2; omega⟩
          have HP4 : Hid (Rep ((v3.alloc (.cells #[.int .i64 uk, .string un, .int .i64 ui, .int .i64 uh, .slice ua um uc] 30)).alloc (.cells #[.int .i64 uk, .string un, .int .i64 ui, .int .i64 uh, .slice ua um uc] 30)) (fun c => n4 + 1 ≤ c ∧ some c ≠ (Value.slice sa acc.length sc).ownBlock) X (.agg [Value.int .i64 uk, .string un, .int .i64 ui, .int .i64 uh, .slice ua um uc].toArray)) := (hrep.lift hbx).imp HnB.out
          have hNb : acc.length + 1 ≤ 1000000 := by omega
          have hnb : n4 + 1 ≤ ((v3.alloc (.cells #[.int .i64 uk, .string un, .int .i64 ui, .int .i64 uh, .slice ua um uc] 30)).alloc (.cells #[.int .i64 uk, .string un, .int .i64 ui, .int .i64 uh, .slice ua um uc] 30)).heap.size := HA4.out.lt
          have HBk : Hid (((v3.alloc (.cells #[.int .i64 uk, .string un, .int .i64 ui, .int .i64 uh, .slice ua um uc] 30)).alloc (.cells #[.int .i64 uk, .string un, .int .i64 ui, .int .i64 uh, .slice ua um uc] 30)).heap[v3.heap.size + 1]? = some (.cells [Value.int .i64 uk, .string un, .int .i64 ui, .int .i64 uh, .slice ua um uc].toArray 30 (0, 0))) := by show _ = _; rw [heap_at, if_pos (by simp)]
          clear hrep hrd hg he HA3 HA2 HAt hbx
          go_wp2_with (at_builtin; refine wpList_pushG TyE rfl _ _ rfl (n4 + 1) (fun c => n4 + 1 ≤ c) (.slice sa acc.length sc) acc rfl HA4.out.row _ _ _ HBk.out rfl X HP4.out (acc.length + 1) rfl hNb hnb ?_; intro a' c' v5 hrow5 hg5)
          have HA5 := Lib.hid (HA4.out.push hrow5 hg5)
          clear hrow5 hg5 HA4 HBk HP4 HnB
          go_wp2
          go_roundg g'
          case measure => omega
          case rel => exact ⟨acc ++ [X], q, HRest, by simp; omega, by omega, HA5⟩
  · have HAt := Lib.hid (HA.out f (Nat.le_refl _) i R hA)
    have h2' : (tkK ts i != 2) = true := by simp [bne, h2]
    clear hR hA
    go_enter Tryz.func66, Tryz.ntmps66
    go_upto_region 1 with fail
    generalize (w.alloc (.cells #[.int .i64 0, .string ⟨#[]⟩, .int .i64 0, .int .i64 0, .slice none 0 0] 30)) = V at *
    go_wp2_with fail
    go_at_call 68
    refine (pkTok_any b ts i V HZ.out.rd).mono ?_
    rintro e w1 ⟨rfl, hb1⟩
    have HZ1 := Lib.hid (HZ.out.lift hb1)
    clear hb1 HZ
    have HZ2 := Lib.hid (HZ1.out.lift ((Below.refl _ w1).alloc (Nat.le_refl _) (.cells #[.int .i64 (tkK ts i), .string (txt ts i), .int .i64 (tkP ts i)] 44)))
    clear HZ1
    go_wp2_with fail
    go_at_call 46
    generalize (w1.alloc (.cells #[.int .i64 (tkK ts i), .string (txt ts i), .int .i64 (tkP ts i)] 44)) = V2 at *
    have hs2 := HZ2.out.size
    refine (HAt.out b (w.heap.size + 1) V2 (by omega) hs2 HZ2.out.rd).mono ?_
    rintro e w6 ⟨u, T, j, ev, rfl, hrep, hrd, hg, hp⟩
    have HZ6 := Lib.hid (HZ2.out.go hrd hg)
    have HP6 := Lib.hid hrep
    have HI6 := Lib.hid hp
    obtain ⟨uk, un, ui, uh, ua, um, uc, rfl⟩ := hrep.form
    clear hrep hrd hg hp HZ2
    go_wp2_with (refine wpList_store5 rfl _ _ rfl _ _ _ _ _ _ HZ6.out.zero rfl _ _ _ _ _ _ _ rfl ?_; intro w7 hB7 hg7 hs7)
    obtain ⟨c0, c1, c2, c3, c4⟩ := hB7.cells
    refine bodyPost_ret (by simp [results, Tryz.results66, go_sem, c0, c1, c2, c3, c4]; try rfl) rfl ?_
    obtain ⟨e1, e2, e3⟩ := HZ6.out.fin hg7 hbase HP6.out
    exact ⟨_, _, _, _, rfl, e1, e2, e3, HI6.out⟩
end Go.Proofs.YthphnacfidofbaaGreatDoor

/- The package's reading of types: anyType; all by the fuel. -/
namespace Go.Proofs.YthphnacfidofbaaGreatDoor
open Go.RowKit Go.Maps Mth

theorem qtype_app (f : Nat) (ts : List Tok) (i : Nat) : qType (f + 1) ts i = match qApp f ts i with
    | none => none
    | some (.bad p) => some (.bad p)
    | some (.ok T j) => qArrow f ts j T := by
  rw [qType]
  unfold qApp
  cases h1 : (tkK ts i == 2) with
  | true =>
    simp only [if_true]
    cases h2 : qArgs f ts (i + 1) [] with
    | none => rfl
    | some L => cases L <;> rfl
  | false => rfl
theorem qarrow_cases {g : Nat} {ts : List Tok} {j : Nat} {T : Ty} {R : PR} (h : qArrow g ts j T = some R) :
    (rMark ts j ⟨#[45, 62]⟩ = false ∧ R = .ok T j) ∨ (rMark ts j ⟨#[45, 62]⟩ = true ∧ ∃ g', g = g' + 1 ∧ ((∃ p, qType g' ts (j + 1) = some (.bad p) ∧ R = .bad p) ∨ (∃ U k, qType g' ts (j + 1) = some (.ok U k) ∧ R = .ok (con arrN [T, U]) k))) := by
  cases g with
  | zero => simp [qArrow] at h
  | succ g =>
    unfold qArrow at h
    cases h1 : rMark ts j ⟨#[45, 62]⟩ with
    | false =>
      rw [h1] at h
      simp only [Bool.false_eq_true, if_false, Option.some.injEq] at h
      exact .inl ⟨rfl, h.symm⟩
    | true =>
      rw [h1] at h
      simp only [if_true] at h
      cases h2 : qType g ts (j + 1) with
      | none => rw [h2] at h; simp at h
      | some r =>
        rw [h2] at h
        cases r with
        | bad p => simp only [Option.some.injEq] at h; exact .inr ⟨rfl, g, rfl, .inl ⟨p, h2, h.symm⟩⟩
        | ok U k => simp only [Option.some.injEq] at h; exact .inr ⟨rfl, g, rfl, .inr ⟨U, k, h2, h.symm⟩⟩
theorem arrN_ok' : arrN.size ≤ maxLen := by unfold maxLen; decide +kernel

set_option maxHeartbeats 3200000 in
theorem anyType_of (ts : List Tok) (f : Nat) (i : Nat) (HApp : PkAt 66 ts i (qApp f ts i)) (HT : Hid (∀ g, g ≤ f → ∀ i, PkAt 44 ts i (qType g ts i))) : PkAt 44 ts i (qType (f + 1) ts i) := by
  intro R hR b base w hbb hbase h
  have HZ : Hid (ZSt w b ts i _) := zst_new h
  have hbw := h.lt
  clear h
  rw [qtype_app] at hR
  cases ha : qApp f ts i with
  | none => rw [ha] at hR; simp at hR
  | some r0 =>
    rw [ha] at hR
    have HA := Lib.hid (HApp r0 ha)
    clear ha HApp
    cases r0 with
    | bad p =>
      simp only [Option.some.injEq] at hR
      subst hR
      go_enter Tryz.func44, Tryz.ntmps44
      go_upto_region 1 with fail
      generalize (w.alloc (.cells #[.int .i64 0, .string ⟨#[]⟩, .int .i64 0, .int .i64 0, .slice none 0 0] 30)) = V at *
      have hsz := HZ.out.size
      go_wp2_with fail
      go_at_call 66
      refine (HA.out b (w.heap.size + 1) V (by omega) hsz HZ.out.rd).mono ?_
      intro e w1 he
      obtain ⟨u, T, j, rfl, hrep, hrd, hg⟩ := he.bad
      have HZ1 := Lib.hid (HZ.out.go hrd hg)
      obtain ⟨uk, un, ui, uh, ua, um, uc, rfl⟩ := hrep.form
      have hba : Below w1.heap.size w1 (w1.alloc (.cells #[.int .i64 uk, .string un, .int .i64 ui, .int .i64 uh, .slice ua um uc] 30)) := (Below.refl _ w1).alloc (Nat.le_refl _) _
      have HZ2 := Lib.hid (HZ1.out.lift hba)
      have HP2 := Lib.hid (hrep.lift hba)
      clear hrep hrd hg he HZ HA HZ1 hba
      go_wp2_with (refine wpList_store5 rfl _ _ rfl _ _ _ _ _ _ HZ2.out.zero rfl _ _ _ _ _ _ _ rfl ?_; intro w4 hB4 hg4 hs4)
      obtain ⟨c0, c1, c2, c3, c4⟩ := hB4.cells
      refine bodyPost_ret (by simp [results, Tryz.results44, go_sem, c0, c1, c2, c3, c4]; try rfl) rfl ?_
      obtain ⟨e1, e2, e3⟩ := HZ2.out.fin hg4 hbase HP2.out
      exact ⟨_, _, _, _, rfl, e1, e2, e3, rfl⟩
    | ok T j =>
      have HR := Lib.hid (qarrow_cases hR)
      clear hR
      go_enter Tryz.func44, Tryz.ntmps44
      go_upto_region 1 with fail
      generalize (w.alloc (.cells #[.int .i64 0, .string ⟨#[]⟩, .int .i64 0, .int .i64 0, .slice none 0 0] 30)) = V at *
      have hsz := HZ.out.size
      go_wp2_with fail
      go_at_call 66
      refine (HA.out b (w.heap.size + 1) V (by omega) hsz HZ.out.rd).mono ?_
      intro e w1 he
      obtain ⟨u, rfl, hrep, hrd, hg⟩ := he.ok
      have HZ1 := Lib.hid (HZ.out.go hrd hg)
      obtain ⟨uk, un, ui, uh, ua, um, uc, rfl⟩ := hrep.form
      have hba : Below w1.heap.size w1 (w1.alloc (.cells #[.int .i64 uk, .string un, .int .i64 ui, .int .i64 uh, .slice ua um uc] 30)) := (Below.refl _ w1).alloc (Nat.le_refl _) _
      have HZ2 := Lib.hid (HZ1.out.lift hba)
      have HP2 := Lib.hid (hrep.lift hba)
      have HB2 : Hid (Box (w1.alloc (.cells #[.int .i64 uk, .string un, .int .i64 ui, .int .i64 uh, .slice ua um uc] 30)) w1.heap.size (.int .i64 uk) (.string un) (.int .i64 ui) (.int .i64 uh) (.slice ua um uc)) := Box.made _ _ _ _ _ _
      have hs1 := HZ1.out.size
      clear hrep hrd hg he HZ HA hba HZ1
      go_wp2_with fail
      go_at_call 68
      generalize (w1.alloc (.cells #[.int .i64 uk, .string un, .int .i64 ui, .int .i64 uh, .slice ua um uc] 30)) = V2 at *
      generalize w1.heap.size = n4 at *
      refine (pkTok_any b ts j V2 HZ2.out.rd).mono ?_
      rintro e w3 ⟨rfl, hb3⟩
      have HZ3 := Lib.hid (HZ2.out.lift hb3)
      have HP3 := Lib.hid (HP2.out.lift hb3)
      have HB3 := Lib.hid (Box.lift HB2.out hb3)
      clear hb3 HZ2 HP2 HB2
      go_wp2_with fail
      go_at_call 67
      refine (isMark_any (tkK ts j) (txt ts j) (tkP ts j) ⟨#[45, 62]⟩ w3).mono ?_
      rintro e w4 ⟨rfl, hb4⟩
      have HZ4 := Lib.hid (HZ3.out.lift hb4)
      have HP4 := Lib.hid (HP3.out.lift hb4)
      have HB4 := Lib.hid (Box.lift HB3.out hb4)
      clear hb4 HZ3 HP3 HB3
      have hm : (tkK ts j == 5 && (txt ts j).toList == (⟨#[45, 62]⟩ : ByteArray).toList) = rMark ts j ⟨#[45, 62]⟩ := rfl
      rw [hm]
      clear hm
      rcases HR.out with ⟨hq, rfl⟩ | ⟨hq, g', rfl, hcase⟩
      · rw [hq]
        clear hq HR
        obtain ⟨d0, d1, d2, d3, d4⟩ := HB4.out.cells
        go_wp2_with (refine wpList_store5 rfl _ _ rfl _ _ _ _ _ _ HZ4.out.zero rfl _ _ _ _ _ _ _ rfl ?_; intro w6 hB6 hg6 hs6)
        obtain ⟨c0, c1, c2, c3, c4⟩ := hB6.cells
        refine bodyPost_ret (by simp [results, Tryz.results44, go_sem, c0, c1, c2, c3, c4]; try rfl) rfl ?_
        obtain ⟨e1, e2, e3⟩ := HZ4.out.fin hg6 hbase HP4.out
        exact ⟨_, _, _, _, rfl, e1, e2, e3, rfl, rfl, rfl⟩
      · have hlt := rMark_lt hq
        rw [hq]
        clear hq
        have hst := HZ4.out.rd.step hlt
        obtain ⟨a, cap, c0, c1, f1, hcap, hTk⟩ := HZ4.out.rd.cells
        have hjl := HZ4.out.rd.le.2
        have HZ5 := Lib.hid (HZ4.out.go hst.1 hst.2)
        have HP5 := Lib.hid (HP4.out.kept (fun c hc => hc) (fun c hc hlt => hst.2.block c hlt (by intro e; have := Option.some.inj e; omega)))
        have HB5 := Lib.hid (Box.grown HB4.out hst.2 (by intro e; have := Option.some.inj e; omega))
        clear hst hTk hcap HP4 HB4 HZ4
        go_upto_region 5 with fail
        clear c0 c1 f1
        generalize w4.setCell ⟨b, 1, none⟩ (.int .i64 ((j : Int) + 1)) = V5 at *
        have hs5 := HZ5.out.size
        rcases hcase with ⟨p, hU, rfl⟩ | ⟨U, k, hU, rfl⟩
        · have HU := Lib.hid (HT.out g' (by omega) (j + 1) _ hU)
          clear hU HR
          go_wp2_with fail
          go_at_call 44
          refine (HU.out b (w.heap.size + 1) V5 (by omega) hs5 HZ5.out.rd).mono ?_
          intro e w6 he
          obtain ⟨u6, T6, j6, rfl, hrep, hrd, hg⟩ := he.bad
          have HZ6 := Lib.hid (HZ5.out.go hrd hg)
          obtain ⟨vk, vn, vi, vh, va, vm, vc, rfl⟩ := hrep.form
          have HZ7 := Lib.hid (HZ6.out.lift ((Below.refl _ w6).alloc (Nat.le_refl _) (.cells #[.int .i64 vk, .string vn, .int .i64 vi, .int .i64 vh, .slice va vm vc] 30)))
          clear hrep hrd hg he HZ6 HZ5 HU
          go_wp2_with (refine wpList_store5 rfl _ _ rfl _ _ _ _ _ _ HZ7.out.zero rfl _ _ _ _ _ _ _ rfl ?_; intro w8 hB8 hg8 hs8)
          obtain ⟨c0, c1, c2, c3, c4⟩ := hB8.cells
          refine bodyPost_ret (by simp [results, Tryz.results44, go_sem, c0, c1, c2, c3, c4]; try rfl) rfl ?_
          obtain ⟨e1, e2, e3⟩ := HZ7.out.leaf (base := base) hg8 0 ⟨#[]⟩ zero_ok
          exact ⟨_, _, _, _, rfl, e1, e2, e3, rfl⟩
        · have HU := Lib.hid (HT.out g' (by omega) (j + 1) _ hU)
          clear hU HR
          go_wp2_with fail
          go_at_call 44
          refine (HU.out b (w.heap.size + 1) V5 (by omega) hs5 HZ5.out.rd).mono ?_
          intro e w6 he
          obtain ⟨u6, rfl, hrep, hrd, hg⟩ := he.ok
          have HZ6 := Lib.hid (HZ5.out.go hrd hg)
          have HP6 := Lib.hid (HP5.out.kept (fun c hc => hc) (fun c hc hlt => hg.block c hlt (by intro e; have := Option.some.inj e; omega)))
          have HB6 := Lib.hid (Box.grown HB5.out hg (by intro e; have := Option.some.inj e; omega))
          obtain ⟨vk, vn, vi, vh, va, vm, vc, rfl⟩ := hrep.form
          have hba : Below w6.heap.size w6 (w6.alloc (.cells #[.int .i64 vk, .string vn, .int .i64 vi, .int .i64 vh, .slice va vm vc] 30)) := (Below.refl _ w6).alloc (Nat.le_refl _) _
          have HZ7 := Lib.hid (HZ6.out.lift hba)
          have HP7 := Lib.hid (HP6.out.lift hba)
          have HQ7 := Lib.hid (hrep.lift hba)
          obtain ⟨d0, d1, d2, d3, d4⟩ := (Box.lift HB6.out hba).cells
          have hs7 := HZ7.out.size
          have HAr := Lib.hid (arrow_any T U _ _ (fun c => w.heap.size + 1 ≤ c) _ (fun c hc => Nat.le_trans hs7 hc) HP7.out HQ7.out)
          have HB7 : Hid (Box (w6.alloc (.cells #[.int .i64 vk, .string vn, .int .i64 vi, .int .i64 vh, .slice va vm vc] 30)) w6.heap.size (.int .i64 vk) (.string vn) (.int .i64 vi) (.int .i64 vh) (.slice va vm vc)) := Box.made _ _ _ _ _ _
          clear hrep hrd hg he HZ6 HZ5 HU HP5 HB5 HP6 HB6 hba
          go_upto_region 8 with fail
          generalize (w6.alloc (.cells #[.int .i64 vk, .string vn, .int .i64 vi, .int .i64 vh, .slice va vm vc] 30)) = V7 at *
          generalize w6.heap.size = n6 at *
          obtain ⟨k0, k1, k2, k3, k4⟩ := HB7.out.cells
          go_wp2_with fail
          go_at_call 69
          refine HAr.out.mono ?_
          rintro e w8 ⟨a8, c8, rfl, hr8, hb8⟩
          have HZ8 := Lib.hid (HZ7.out.lift hb8)
          have HP8 : Hid (Rep w8 (fun c => w.heap.size + 1 ≤ c) (con arrN [T, U]) _) := Rep.close arrN_ok' hr8
          clear hr8 hb8 HZ7 HAr HB7 d0 d1 d2 d3 d4 k0 k1 k2 k3 k4
          go_wp2_with (refine wpList_store5 rfl _ _ rfl _ _ _ _ _ _ HZ8.out.zero rfl _ _ _ _ _ _ _ rfl ?_; intro w9 hB9 hg9 hs9)
          obtain ⟨c0, c1, c2, c3, c4⟩ := hB9.cells
          refine bodyPost_ret (by simp [results, Tryz.results44, go_sem, c0, c1, c2, c3, c4]; try rfl) rfl ?_
          obtain ⟨e1, e2, e3⟩ := HZ8.out.fin hg9 hbase HP8.out
          exact ⟨_, _, _, _, rfl, e1, e2, e3, rfl, rfl, rfl⟩

theorem pkAt_none (fid : Nat) (ts : List Tok) (i : Nat) : PkAt fid ts i none := fun R h => by cases h
theorem pk_all (ts : List Tok) : ∀ f, f ≤ 900000 → Hid (∀ g, g ≤ f → ∀ i, PkAt 46 ts i (qAtom g ts i)) ∧ Hid (∀ g, g ≤ f → ∀ i, PkAt 44 ts i (qType g ts i)) := by
  intro f
  induction f with
  | zero =>
    intro _
    refine ⟨fun g hg i => ?_, fun g hg i => ?_⟩
    · obtain rfl : g = 0 := Nat.le_zero.1 hg
      unfold qAtom; exact pkAt_none _ _ _
    · obtain rfl : g = 0 := Nat.le_zero.1 hg
      unfold qType; exact pkAt_none _ _ _
  | succ f ih =>
    intro hf
    obtain ⟨hA, hT⟩ := ih (by omega)
    refine ⟨fun g hg i => ?_, fun g hg i => ?_⟩
    · by_cases h : g ≤ f
      · exact hA.out g h i
      · obtain rfl : g = f + 1 := by omega
        exact atom_of ts i f (hT.out f (Nat.le_refl _) (i + 1))
    · by_cases h : g ≤ f
      · exact hT.out g h i
      · obtain rfl : g = f + 1 := by omega
        exact anyType_of ts f i (applied_of ts f (by omega) hA i) hT
theorem patom_any (ts : List Tok) (f : Nat) (hf : f ≤ 900000) (i : Nat) : PkAt 46 ts i (qAtom f ts i) := (pk_all ts f hf).1.out f (Nat.le_refl _) i
theorem ptype_any (ts : List Tok) (f : Nat) (hf : f ≤ 900000) (i : Nat) : PkAt 44 ts i (qType f ts i) := (pk_all ts f hf).2.out f (Nat.le_refl _) i
end Go.Proofs.YthphnacfidofbaaGreatDoor
