/- The package's reading of types: anyType; all by the fuel. -/
import Derived.Test.YtbbplpmjpadgiaaGreatDoorTyPk3
namespace Go.Proofs.YtbbplpmjpadgiaaGreatDoor
open Go.RowKit Go.Maps Mth

theorem qtype_app (f : Nat) (ts : List Tok) (i : Nat) : qType (f + 1) ts i = match qApp f ts i with
    | none => none
    | some (.bad p) => some (.bad p)
    | some (.ok T j) => qArrow f ts j T := by
  rw [qType]
  unfold qApp
  cases h1 : (tkK ts i == 2) with
  | true =>
    simp only [if_true]
    cases h2 : qArgs f ts (i + 1) [] with
    | none => rfl
    | some L => cases L <;> rfl
  | false => rfl
theorem qarrow_cases {g : Nat} {ts : List Tok} {j : Nat} {T : Ty} {R : PR} (h : qArrow g ts j T = some R) :
    (rMark ts j ⟨#[45, 62]⟩ = false ∧ R = .ok T j) ∨ (rMark ts j ⟨#[45, 62]⟩ = true ∧ ∃ g', g = g' + 1 ∧ ((∃ p, qType g' ts (j + 1) = some (.bad p) ∧ R = .bad p) ∨ (∃ U k, qType g' ts (j + 1) = some (.ok U k) ∧ R = .ok (con arrN [T, U]) k))) := by
  cases g with
  | zero => simp [qArrow] at h
  | succ g =>
    unfold qArrow at h
    cases h1 : rMark ts j ⟨#[45, 62]⟩ with
    | false =>
      rw [h1] at h
      simp only [Bool.false_eq_true, if_false, Option.some.injEq] at h
      exact .inl ⟨rfl, h.symm⟩
    | true =>
      rw [h1] at h
      simp only [if_true] at h
      cases h2 : qType g ts (j + 1) with
      | none => rw [h2] at h; simp at h
      | some r =>
        rw [h2] at h
        cases r with
        | bad p => simp only [Option.some.injEq] at h; exact .inr ⟨rfl, g, rfl, .inl ⟨p, h2, h.symm⟩⟩
        | ok U k => simp only [Option.some.injEq] at h; exact .inr ⟨rfl, g, rfl, .inr ⟨U, k, h2, h.symm⟩⟩
theorem arrN_ok' : arrN.size ≤ maxLen := by unfold maxLen; decide +kernel

set_option maxHeartbeats 3200000 in
theorem anyType_of (ts : List Tok) (f : Nat) (i : Nat) (HApp : PkAt 70 ts i (qApp f ts i)) (HT : Hid (∀ g, g ≤ f → ∀ i, PkAt 48 ts i (qType g ts i))) : PkAt 48 ts i (qType (f + 1) ts i) := by
  intro R hR b base w hbb hbase h
  have HZ : Hid (ZSt w b ts i _) := zst_new h
  have hbw := h.lt
  clear h
  rw [qtype_app] at hR
  cases ha : qApp f ts i with
  | none => rw [ha] at hR; simp at hR
  | some r0 =>
    rw [ha] at hR
    have HA := Lib.hid (HApp r0 ha)
    clear ha HApp
    cases r0 with
    | bad p =>
      simp only [Option.some.injEq] at hR
      subst hR
      go_enter Tryz.func48, Tryz.ntmps48
      go_upto_region 1 with fail
      generalize (w.alloc (.cells #[.int .i64 0, .string ⟨#[]⟩, .int .i64 0, .int .i64 0, .slice none 0 0] 30)) = V at *
      have hsz := HZ.out.size
      go_wp2_with fail
      go_at_call 70
      refine (HA.out b (w.heap.size + 1) V (by omega) hsz HZ.out.rd).mono ?_
      intro e w1 he
      obtain ⟨u, T, j, rfl, hrep, hrd, hg⟩ := he.bad
      have HZ1 := Lib.hid (HZ.out.go hrd hg)
      obtain ⟨uk, un, ui, uh, ua, um, uc, rfl⟩ := hrep.form
      have hba : Below w1.heap.size w1 (w1.alloc (.cells #[.int .i64 uk, .string un, .int .i64 ui, .int .i64 uh, .slice ua um uc] 30)) := (Below.refl _ w1).alloc (Nat.le_refl _) _
      have HZ2 := Lib.hid (HZ1.out.lift hba)
      have HP2 := Lib.hid (hrep.lift hba)
      clear hrep hrd hg he HZ HA HZ1 hba
      go_wp2_with (refine wpList_store5 rfl _ _ rfl _ _ _ _ _ _ HZ2.out.zero rfl _ _ _ _ _ _ _ rfl ?_; intro w4 hB4 hg4 hs4)
      obtain ⟨c0, c1, c2, c3, c4⟩ := hB4.cells
      refine bodyPost_ret (by simp [results, Tryz.results48, go_sem, c0, c1, c2, c3, c4]; try rfl) rfl ?_
      obtain ⟨e1, e2, e3⟩ := HZ2.out.fin hg4 hbase HP2.out
      exact ⟨_, _, _, _, rfl, e1, e2, e3, rfl⟩
    | ok T j =>
      have HR := Lib.hid (qarrow_cases hR)
      clear hR
      go_enter Tryz.func48, Tryz.ntmps48
      go_upto_region 1 with fail
      generalize (w.alloc (.cells #[.int .i64 0, .string ⟨#[]⟩, .int .i64 0, .int .i64 0, .slice none 0 0] 30)) = V at *
      have hsz := HZ.out.size
      go_wp2_with fail
      go_at_call 70
      refine (HA.out b (w.heap.size + 1) V (by omega) hsz HZ.out.rd).mono ?_
      intro e w1 he
      obtain ⟨u, rfl, hrep, hrd, hg⟩ := he.ok
      have HZ1 := Lib.hid (HZ.out.go hrd hg)
      obtain ⟨uk, un, ui, uh, ua, um, uc, rfl⟩ := hrep.form
      have hba : Below w1.heap.size w1 (w1.alloc (.cells #[.int .i64 uk, .string un, .int .i64 ui, .int .i64 uh, .slice ua um uc] 30)) := (Below.refl _ w1).alloc (Nat.le_refl _) _
      have HZ2 := Lib.hid (HZ1.out.lift hba)
      have HP2 := Lib.hid (hrep.lift hba)
      have HB2 : Hid (Box (w1.alloc (.cells #[.int .i64 uk, .string un, .int .i64 ui, .int .i64 uh, .slice ua um uc] 30)) w1.heap.size (.int .i64 uk) (.string un) (.int .i64 ui) (.int .i64 uh) (.slice ua um uc)) := Box.made _ _ _ _ _ _
      have hs1 := HZ1.out.size
      clear hrep hrd hg he HZ HA hba HZ1
      go_wp2_with fail
      go_at_call 72
      generalize (w1.alloc (.cells #[.int .i64 uk, .string un, .int .i64 ui, .int .i64 uh, .slice ua um uc] 30)) = V2 at *
      generalize w1.heap.size = n4 at *
      refine (pkTok_any b ts j V2 HZ2.out.rd).mono ?_
      rintro e w3 ⟨rfl, hb3⟩
      have HZ3 := Lib.hid (HZ2.out.lift hb3)
      have HP3 := Lib.hid (HP2.out.lift hb3)
      have HB3 := Lib.hid (Box.lift HB2.out hb3)
      clear hb3 HZ2 HP2 HB2
      go_wp2_with fail
      go_at_call 71
      refine (isMark_any (tkK ts j) (txt ts j) (tkP ts j) ⟨#[45, 62]⟩ w3).mono ?_
      rintro e w4 ⟨rfl, hb4⟩
      have HZ4 := Lib.hid (HZ3.out.lift hb4)
      have HP4 := Lib.hid (HP3.out.lift hb4)
      have HB4 := Lib.hid (Box.lift HB3.out hb4)
      clear hb4 HZ3 HP3 HB3
      have hm : (tkK ts j == 5 && (txt ts j).toList == (⟨#[45, 62]⟩ : ByteArray).toList) = rMark ts j ⟨#[45, 62]⟩ := rfl
      rw [hm]
      clear hm
      rcases HR.out with ⟨hq, rfl⟩ | ⟨hq, g', rfl, hcase⟩
      · rw [hq]
        clear hq HR
        obtain ⟨d0, d1, d2, d3, d4⟩ := HB4.out.cells
        go_wp2_with (refine wpList_store5 rfl _ _ rfl _ _ _ _ _ _ HZ4.out.zero rfl _ _ _ _ _ _ _ rfl ?_; intro w6 hB6 hg6 hs6)
        obtain ⟨c0, c1, c2, c3, c4⟩ := hB6.cells
        refine bodyPost_ret (by simp [results, Tryz.results48, go_sem, c0, c1, c2, c3, c4]; try rfl) rfl ?_
        obtain ⟨e1, e2, e3⟩ := HZ4.out.fin hg6 hbase HP4.out
        exact ⟨_, _, _, _, rfl, e1, e2, e3, rfl, rfl, rfl⟩
      · have hlt := rMark_lt hq
        rw [hq]
        clear hq
        have hst := HZ4.out.rd.step hlt
        obtain ⟨a, cap, c0, c1, f1, hcap, hTk⟩ := HZ4.out.rd.cells
        have hjl := HZ4.out.rd.le.2
        have HZ5 := Lib.hid (HZ4.out.go hst.1 hst.2)
        have HP5 := Lib.hid (HP4.out.kept (fun c hc => hc) (fun c hc hlt => hst.2.block c hlt (by intro e; have := Option.some.inj e; omega)))
        have HB5 := Lib.hid (Box.grown HB4.out hst.2 (by intro e; have := Option.some.inj e; omega))
        clear hst hTk hcap HP4 HB4 HZ4
        go_upto_region 5 with fail
        clear c0 c1 f1
        generalize w4.setCell ⟨b, 1, none⟩ (.int .i64 ((j : Int) + 1)) = V5 at *
        have hs5 := HZ5.out.size
        rcases hcase with ⟨p, hU, rfl⟩ | ⟨U, k, hU, rfl⟩
        · have HU := Lib.hid (HT.out g' (by omega) (j + 1) _ hU)
          clear hU HR
          go_wp2_with fail
          go_at_call 48
          refine (HU.out b (w.heap.size + 1) V5 (by omega) hs5 HZ5.out.rd).mono ?_
          intro e w6 he
          obtain ⟨u6, T6, j6, rfl, hrep, hrd, hg⟩ := he.bad
          have HZ6 := Lib.hid (HZ5.out.go hrd hg)
          obtain ⟨vk, vn, vi, vh, va, vm, vc, rfl⟩ := hrep.form
          have HZ7 := Lib.hid (HZ6.out.lift ((Below.refl _ w6).alloc (Nat.le_refl _) (.cells #[.int .i64 vk, .string vn, .int .i64 vi, .int .i64 vh, .slice va vm vc] 30)))
          clear hrep hrd hg he HZ6 HZ5 HU
          go_wp2_with (refine wpList_store5 rfl _ _ rfl _ _ _ _ _ _ HZ7.out.zero rfl _ _ _ _ _ _ _ rfl ?_; intro w8 hB8 hg8 hs8)
          obtain ⟨c0, c1, c2, c3, c4⟩ := hB8.cells
          refine bodyPost_ret (by simp [results, Tryz.results48, go_sem, c0, c1, c2, c3, c4]; try rfl) rfl ?_
          obtain ⟨e1, e2, e3⟩ := HZ7.out.leaf (base := base) hg8 0 ⟨#[]⟩ zero_ok
          exact ⟨_, _, _, _, rfl, e1, e2, e3, rfl⟩
        · have HU := Lib.hid (HT.out g' (by omega) (j + 1) _ hU)
          clear hU HR
          go_wp2_with fail
          go_at_call 48
          refine (HU.out b (w.heap.size + 1) V5 (by omega) hs5 HZ5.out.rd).mono ?_
          intro e w6 he
          obtain ⟨u6, rfl, hrep, hrd, hg⟩ := he.ok
          have HZ6 := Lib.hid (HZ5.out.go hrd hg)
          have HP6 := Lib.hid (HP5.out.kept (fun c hc => hc) (fun c hc hlt => hg.block c hlt (by intro e; have := Option.some.inj e; omega)))
          have HB6 := Lib.hid (Box.grown HB5.out hg (by intro e; have := Option.some.inj e; omega))
          obtain ⟨vk, vn, vi, vh, va, vm, vc, rfl⟩ := hrep.form
          have hba : Below w6.heap.size w6 (w6.alloc (.cells #[.int .i64 vk, .string vn, .int .i64 vi, .int .i64 vh, .slice va vm vc] 30)) := (Below.refl _ w6).alloc (Nat.le_refl _) _
          have HZ7 := Lib.hid (HZ6.out.lift hba)
          have HP7 := Lib.hid (HP6.out.lift hba)
          have HQ7 := Lib.hid (hrep.lift hba)
          obtain ⟨d0, d1, d2, d3, d4⟩ := (Box.lift HB6.out hba).cells
          have hs7 := HZ7.out.size
          have HAr := Lib.hid (arrow_any T U _ _ (fun c => w.heap.size + 1 ≤ c) _ (fun c hc => Nat.le_trans hs7 hc) HP7.out HQ7.out)
          have HB7 : Hid (Box (w6.alloc (.cells #[.int .i64 vk, .string vn, .int .i64 vi, .int .i64 vh, .slice va vm vc] 30)) w6.heap.size (.int .i64 vk) (.string vn) (.int .i64 vi) (.int .i64 vh) (.slice va vm vc)) := Box.made _ _ _ _ _ _
          clear hrep hrd hg he HZ6 HZ5 HU HP5 HB5 HP6 HB6 hba
          go_upto_region 8 with fail
          generalize (w6.alloc (.cells #[.int .i64 vk, .string vn, .int .i64 vi, .int .i64 vh, .slice va vm vc] 30)) = V7 at *
          generalize w6.heap.size = n6 at *
          obtain ⟨k0, k1, k2, k3, k4⟩ := HB7.out.cells
          go_wp2_with fail
          go_at_call 73
          refine HAr.out.mono ?_
          rintro e w8 ⟨a8, c8, rfl, hr8, hb8⟩
          have HZ8 := Lib.hid (HZ7.out.lift hb8)
          have HP8 : Hid (Rep w8 (fun c => w.heap.size + 1 ≤ c) (con arrN [T, U]) _) := Rep.close arrN_ok' hr8
          clear hr8 hb8 HZ7 HAr HB7 d0 d1 d2 d3 d4 k0 k1 k2 k3 k4
          go_wp2_with (refine wpList_store5 rfl _ _ rfl _ _ _ _ _ _ HZ8.out.zero rfl _ _ _ _ _ _ _ rfl ?_; intro w9 hB9 hg9 hs9)
          obtain ⟨c0, c1, c2, c3, c4⟩ := hB9.cells
          refine bodyPost_ret (by simp [results, Tryz.results48, go_sem, c0, c1, c2, c3, c4]; try rfl) rfl ?_
          obtain ⟨e1, e2, e3⟩ := HZ8.out.fin hg9 hbase HP8.out
          exact ⟨_, _, _, _, rfl, e1, e2, e3, rfl, rfl, rfl⟩

theorem pkAt_none (fid : Nat) (ts : List Tok) (i : Nat) : PkAt fid ts i none := fun R h => by cases h
theorem pk_all (ts : List Tok) : ∀ f, f ≤ 900000 → Hid (∀ g, g ≤ f → ∀ i, PkAt 50 ts i (qAtom g ts i)) ∧ Hid (∀ g, g ≤ f → ∀ i, PkAt 48 ts i (qType g ts i)) := by
  intro f
  induction f with
  | zero =>
    intro _
    refine ⟨fun g hg i => ?_, fun g hg i => ?_⟩
    · obtain rfl : g = 0 := Nat.le_zero.1 hg
      unfold qAtom; exact pkAt_none _ _ _
    · obtain rfl : g = 0 := Nat.le_zero.1 hg
      unfold qType; exact pkAt_none _ _ _
  | succ f ih =>
    intro hf
    obtain ⟨hA, hT⟩ := ih (by omega)
    refine ⟨fun g hg i => ?_, fun g hg i => ?_⟩
    · by_cases h : g ≤ f
      · exact hA.out g h i
      · obtain rfl : g = f + 1 := by omega
        exact atom_of ts i f (hT.out f (Nat.le_refl _) (i + 1))
    · by_cases h : g ≤ f
      · exact hT.out g h i
      · obtain rfl : g = f + 1 := by omega
        exact anyType_of ts f i (applied_of ts f (by omega) hA i) hT
theorem patom_any (ts : List Tok) (f : Nat) (hf : f ≤ 900000) (i : Nat) : PkAt 50 ts i (qAtom f ts i) := (pk_all ts f hf).1.out f (Nat.le_refl _) i
theorem ptype_any (ts : List Tok) (f : Nat) (hf : f ≤ 900000) (i : Nat) : PkAt 48 ts i (qType f ts i) := (pk_all ts f hf).2.out f (Nat.le_refl _) i
end Go.Proofs.YtbbplpmjpadgiaaGreatDoor
