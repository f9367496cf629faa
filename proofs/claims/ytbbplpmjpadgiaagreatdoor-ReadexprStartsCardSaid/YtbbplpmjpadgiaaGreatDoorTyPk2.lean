/- The package's reading of types: atom. -/
import Derived.Test.YtbbplpmjpadgiaaGreatDoorTyPk
namespace Go.Proofs.YtbbplpmjpadgiaaGreatDoor
open Go.RowKit Go.Maps Mth

theorem tkK_lt {ts : List Tok} {i : Nat} (h : ¬ tkK ts i = 0) : i < ts.length := by
  rcases Nat.lt_or_ge i ts.length with h' | h'
  · exact h'
  · exact absurd (by unfold tkK; rw [List.getElem?_eq_none h']) h
theorem rMark_K {ts : List Tok} {i : Nat} {s : ByteArray} (h : rMark ts i s = true) : tkK ts i = 5 := by
  unfold rMark at h
  simp at h
  exact h.1
theorem rMark_lt {ts : List Tok} {i : Nat} {s : ByteArray} (h : rMark ts i s = true) : i < ts.length := tkK_lt (by rw [rMark_K h]; decide)
theorem rStart_lt {ts : List Tok} {i : Nat} (h : rStart ts i = true) : i < ts.length := by
  apply tkK_lt
  intro h0
  unfold rStart rMark at h
  rw [h0] at h
  simp at h
theorem con_leaf (n : ByteArray) (S : Nat → Prop) (w : World) (hn : n.size ≤ maxLen) (hS : ∀ b, w.heap.size ≤ b → S b) : Calls Tryz.prog 76 #[.string n, .slice none 0 0] w fun e w' => ∃ a c, e = .returned (.agg #[.int .i64 4, .string n, .int .i64 0, .int .i64 0, .slice a 0 c]) ∧ Rep w' S (.mk 4 n 0 0 []) (.agg #[.int .i64 4, .string n, .int .i64 0, .int .i64 0, .slice a 0 c]) ∧ Below w.heap.size w w' := by
  refine (con_any n [] (by simp) none 0 S w hS (repL_nil _ _)).mono ?_
  rintro e w' ⟨a, c, rfl, hr, hb⟩
  exact ⟨a, c, rfl, Rep.close hn hr, hb⟩

set_option maxHeartbeats 3200000 in
theorem atom_of (ts : List Tok) (i : Nat) (f : Nat) (H : PkAt 48 ts (i + 1) (qType f ts (i + 1))) : PkAt 50 ts i (qAtom (f + 1) ts i) := by
  intro R hR b base w hbb hbase h
  have hok := h.ok
  have HS := Lib.hid (txt_size hok i)
  have HZ : Hid (ZSt w b ts i _) := zst_new h
  have HE43 := Lib.hid (encl_of ts (i + 1) _ H)
  clear h H hok
  have HR : Hid (qAtom (f + 1) ts i = some R) := hR
  clear hR
  have HS0 : Hid (∀ w', Calls Tryz.prog 74 #[.agg #[.int .i64 (tkK ts i), .string (txt ts i), .int .i64 (tkP ts i)]] w' fun e w'' => e = .returned (.bool (rStart ts i)) ∧ Below w'.heap.size w' w'') := fun w' => starts_any _ _ _ w'
  cases hs : rStart ts i with
  | false =>
    have hk : tkK ts i ≠ 1 ∧ tkK ts i ≠ 2 ∧ rMark ts i ⟨#[40]⟩ = false := by
      unfold rStart at hs
      simp at hs
      exact ⟨hs.1.1, hs.1.2, hs.2⟩
    have hRe : R = .bad i := by
      have := HR.out
      unfold qAtom at this
      rw [if_neg (by simpa using hk.1), if_neg (by simpa using hk.2.1), if_neg (by simp [hk.2.2])] at this
      exact (Option.some.inj this).symm
    subst hRe
    rw [hs] at HS0
    clear hs hk HR HE43 HS
    go_enter Tryz.func50, Tryz.ntmps50
    go_upto_region 1 with fail
    generalize (w.alloc (.cells #[.int .i64 0, .string ⟨#[]⟩, .int .i64 0, .int .i64 0, .slice none 0 0] 30)) = V at *
    go_wp2_with fail
    go_at_call 72
    refine (pkTok_any b ts i V HZ.out.rd).mono ?_
    rintro e w1 ⟨rfl, hb1⟩
    have HZ1 := Lib.hid (HZ.out.lift hb1)
    clear hb1 HZ
    have HZ2 := Lib.hid (HZ1.out.lift ((Below.refl _ w1).alloc (Nat.le_refl _) (.cells #[.int .i64 (tkK ts i), .string (txt ts i), .int .i64 (tkP ts i)] 44)))
    clear HZ1
    go_wp2_with fail
    go_at_call 74
    generalize (w1.alloc (.cells #[.int .i64 (tkK ts i), .string (txt ts i), .int .i64 (tkP ts i)] 44)) = V2 at *
    refine (HS0.out V2).mono ?_
    rintro e w3 ⟨rfl, hb3⟩
    have HZ3 := Lib.hid (HZ2.out.lift hb3)
    clear hb3 HZ2 HS0
    go_wp2_with fail
    go_at_call 75
    refine (unexpected_any b ts i w3 HZ3.out.rd).mono ?_
    rintro e w4 ⟨rfl, hb4⟩
    have HZ4 := Lib.hid (HZ3.out.lift hb4)
    clear hb4 HZ3
    go_wp2_with (refine wpList_store5 rfl _ _ rfl _ _ _ _ _ _ HZ4.out.zero rfl _ _ _ _ _ _ _ rfl ?_; intro w6 hB6 hg6 hs6)
    obtain ⟨c0, c1, c2, c3, c4⟩ := hB6.cells
    refine bodyPost_ret (by simp [results, Tryz.results50, go_sem, c0, c1, c2, c3, c4]; try rfl) rfl ?_
    obtain ⟨e1, e2, e3⟩ := HZ4.out.leaf (base := base) hg6 0 ⟨#[]⟩ zero_ok
    exact ⟨_, _, _, _, rfl, e1, e2, e3, rfl⟩
  | true =>
    have hlt := rStart_lt hs
    have hk : ((tkK ts i == 1) = true ∧ R = .ok (.mk 5 (txt ts i) 0 0 []) (i + 1)) ∨ ((tkK ts i == 1) = false ∧ (tkK ts i == 2) = true ∧ R = .ok (.mk 4 (txt ts i) 0 0 []) (i + 1)) ∨ ((tkK ts i == 1) = false ∧ (tkK ts i == 2) = false ∧ qEncl ts (qType f ts (i + 1)) = some R) := by
      have hq := HR.out
      unfold qAtom at hq
      unfold rStart at hs
      cases h1 : (tkK ts i == 1) with
      | true =>
        rw [h1] at hq
        simp only [if_true, Option.some.injEq] at hq
        exact .inl ⟨rfl, hq.symm⟩
      | false =>
        rw [h1] at hq hs
        simp only [Bool.false_eq_true, if_false] at hq
        cases h2 : (tkK ts i == 2) with
        | true =>
          rw [h2] at hq
          simp only [if_true, Option.some.injEq] at hq
          exact .inr (.inl ⟨rfl, rfl, hq.symm⟩)
        | false =>
          rw [h2] at hs hq
          simp only [Bool.false_eq_true, if_false] at hq
          simp only [Bool.false_or] at hs
          rw [hs] at hq
          simp only [if_true] at hq
          exact .inr (.inr ⟨rfl, rfl, hq⟩)
    rw [hs] at HS0
    have HK := Lib.hid hk
    clear hs hk
    go_enter Tryz.func50, Tryz.ntmps50
    go_upto_region 1 with fail
    generalize (w.alloc (.cells #[.int .i64 0, .string ⟨#[]⟩, .int .i64 0, .int .i64 0, .slice none 0 0] 30)) = V at *
    have hs0 := HZ.out.size
    go_wp2_with fail
    go_at_call 72
    refine (pkTok_any b ts i V HZ.out.rd).mono ?_
    rintro e w1 ⟨rfl, hb1⟩
    have HZ1 := Lib.hid (HZ.out.lift hb1)
    have hs1 := hb1.size
    clear hb1 HZ
    have HZ2 := Lib.hid (HZ1.out.lift ((Below.refl _ w1).alloc (Nat.le_refl _) (.cells #[.int .i64 (tkK ts i), .string (txt ts i), .int .i64 (tkP ts i)] 44)))
    have HT2 : Hid ((w1.alloc (.cells #[.int .i64 (tkK ts i), .string (txt ts i), .int .i64 (tkP ts i)] 44)).heap[w1.heap.size]? = some (.cells #[.int .i64 (tkK ts i), .string (txt ts i), .int .i64 (tkP ts i)] 44 (0, 0))) := heap_alloc_new w1 _
    clear HZ1
    go_wp2_with fail
    go_at_call 74
    generalize (w1.alloc (.cells #[.int .i64 (tkK ts i), .string (txt ts i), .int .i64 (tkP ts i)] 44)) = V2 at *
    refine (HS0.out V2).mono ?_
    rintro e w3 ⟨rfl, hb3⟩
    have HZ3 := Lib.hid (HZ2.out.lift hb3)
    have HT3 : Hid (w3.heap[w1.heap.size]? = some (.cells #[.int .i64 (tkK ts i), .string (txt ts i), .int .i64 (tkP ts i)] 44 (0, 0))) := by show _ = _; rw [hb3.block _ (Array.getElem?_eq_some_iff.1 HT2.out).1]; exact HT2.out
    clear hb3 HZ2 HS0 HT2
    generalize w1.heap.size = n4 at *
    have hst := HZ3.out.rd.step hlt
    obtain ⟨a, cap, c0, c1, f1, hcap, hT⟩ := HZ3.out.rd.cells
    have hjl := HZ3.out.rd.le.2
    have hbw := HZ3.out.lt
    have HZ5 := Lib.hid (HZ3.out.go hst.1 hst.2)
    have HT5 : Hid ((w3.setCell ⟨b, 1, none⟩ (.int .i64 ((i : Int) + 1))).heap[n4]? = some (.cells #[.int .i64 (tkK ts i), .string (txt ts i), .int .i64 (tkP ts i)] 44 (0, 0))) := by show _ = _; rw [hst.2.block _ (Array.getElem?_eq_some_iff.1 HT3.out).1 (by intro e; have := Option.some.inj e; omega)]; exact HT3.out
    clear hst hT hcap HT3
    go_upto_region 5 with fail
    clear c0 c1 f1
    generalize w3.setCell ⟨b, 1, none⟩ (.int .i64 ((i : Int) + 1)) = V5 at *
    obtain ⟨⟨t0, t1, t2⟩, -⟩ := tok_cells HT5.out
    generalize txt ts i = x at *
    generalize tkP ts i = p at *
    clear HR
    rcases HK.out with ⟨h1, rfl⟩ | ⟨h1, h2, rfl⟩ | ⟨h1, h2, h3⟩
    · clear HK HE43
      go_wp2_with (refine wpList_store5 rfl _ _ rfl _ _ _ _ _ _ HZ5.out.zero rfl _ _ _ _ _ _ _ rfl ?_; intro w6 hB6 hg6 hs6)
      obtain ⟨c0, c1, c2, c3, c4⟩ := hB6.cells
      refine bodyPost_ret (by simp [results, Tryz.results50, go_sem, c0, c1, c2, c3, c4]; try rfl) rfl ?_
      obtain ⟨e1, e2, e3⟩ := HZ5.out.leaf (base := base) hg6 5 x HS.out
      exact ⟨_, _, _, _, rfl, e1, e2, e3, rfl, rfl, rfl⟩
    · clear HK HE43
      have hs5 := HZ5.out.size
      go_wp2_with fail
      go_at_call 76
      refine (con_leaf x (fun c => w.heap.size + 1 ≤ c) V5 HS.out (fun c hc => Nat.le_trans hs5 hc)).mono ?_
      rintro e w6 ⟨a6, c6, rfl, hr6, hb6⟩
      have HZ6 := Lib.hid (HZ5.out.lift hb6)
      have HP6 := Lib.hid hr6
      clear hr6 hb6 HZ5 HT5 t0 t1 t2
      go_wp2_with (refine wpList_store5 rfl _ _ rfl _ _ _ _ _ _ HZ6.out.zero rfl _ _ _ _ _ _ _ rfl ?_; intro w7 hB7 hg7 hs7)
      obtain ⟨c0, c1, c2, c3, c4⟩ := hB7.cells
      refine bodyPost_ret (by simp [results, Tryz.results50, go_sem, c0, c1, c2, c3, c4]; try rfl) rfl ?_
      obtain ⟨e1, e2, e3⟩ := HZ6.out.fin hg7 hbase HP6.out
      exact ⟨_, _, _, _, rfl, e1, e2, e3, rfl, rfl, rfl⟩
    · have HC := Lib.hid (HE43.out R h3)
      clear HK HE43 h3
      have hs5 := HZ5.out.size
      go_wp2_with fail
      go_at_call 77
      refine (HC.out b (w.heap.size + 1) V5 (by omega) hs5 HZ5.out.rd).mono ?_
      rintro e w6 ⟨u, T, j, ev, rfl, hrep, hrd, hg, hp⟩
      have HZ6 := Lib.hid (HZ5.out.go hrd hg)
      have HP6 := Lib.hid hrep
      have HI6 := Lib.hid hp
      obtain ⟨uk, un, ui, uh, ua, um, uc, rfl⟩ := hrep.form
      clear hrep hrd hg hp HZ5 HT5 t0 t1 t2
      go_wp2_with (refine wpList_store5 rfl _ _ rfl _ _ _ _ _ _ HZ6.out.zero rfl _ _ _ _ _ _ _ rfl ?_; intro w7 hB7 hg7 hs7)
      obtain ⟨c0, c1, c2, c3, c4⟩ := hB7.cells
      refine bodyPost_ret (by simp [results, Tryz.results50, go_sem, c0, c1, c2, c3, c4]; try rfl) rfl ?_
      obtain ⟨e1, e2, e3⟩ := HZ6.out.fin hg7 hbase HP6.out
      exact ⟨_, _, _, _, rfl, e1, e2, e3, HI6.out⟩
end Go.Proofs.YtbbplpmjpadgiaaGreatDoor
