import Derived.Test.YtfkbifbodpelmaaDoorVL
import Derived.Test.YtfkbifbodpelmaaDoorVS2
/- The writers of expressions: a kid, what is an atom, a part in parentheses. -/
namespace Go.Proofs.YtfkbifbodpelmaaDoor
open Go.RowKit Go.Maps Mth

theorem BoxC.fr {t : TypeId} {B b R : Nat} {w w' : World} {c : List Value} (h : BoxC t w R c) (hf : Fr B b w w') (hR : R ≠ b) (ht : t ≠ 5) : BoxC t w' R c :=
  hf.2 R _ h (by intro e; exact hR (Option.some.inj e)) (by intro c fz e; injection e with _ h2 _; exact ht h2)
theorem RepE.fr {B : Nat} {w w' : World} {T : Ex} {c : List Value} (h : RepE w (fun g => g < B) T c) (hf : Below B w w') : RepE w' (fun g => g < B) T c := RepE.kept (fun _ h => h) (fun g hg _ => hf.block g hg) h
def WrE (T : Ex) : Prop := ∀ (b : Nat) (l : List UInt8) (w : World) (c : List Value), Gs w → 2 ≤ b → Wr b b l w → RepE w (fun g => g < b) T c → l.length + (shE T).length ≤ 500000000 → Calls Tryd.prog 31 #[.pointer (some ⟨b, 0, none⟩), .agg c.toArray] w (WrEnd b l (shE T) w)
theorem zx_made (w : World) : BoxC 37 (w.alloc (.cells #[.int .i64 0, .int .i64 0, .string ⟨#[]⟩, .int .i64 0, .slice none 0 0, .slice none 0 0, .int .i64 0, .string ⟨#[]⟩, .int .i64 0, .int .i64 0, .slice none 0 0] 37)) w.heap.size zExC := BoxC.made _ w zExC
set_option maxRecDepth 100000 in
set_option maxHeartbeats 3200000 in
theorem kid0_any (T a : Ex) (hts : T.kids = [a]) (c : List Value) (S : Nat → Prop) (w : World) (h : RepE w S T c) :
    Calls Tryd.prog 55 #[.agg c.toArray, .int .i64 0] w fun e w' => ∃ cu : List Value, e = .returned (.agg cu.toArray) ∧ RepE w' S a cu ∧ Below w.heap.size w w' := by
  obtain ⟨kv, av, tc0, hc0, -, hkids, -, -⟩ := h.open
  obtain ⟨ka, kc, aa, ac, tk, tn, ti, th, ta, tl, tc, rfl⟩ := h.form
  simp only [List.cons.injEq] at hc0
  obtain ⟨-, -, -, -, rfl, -, -⟩ := hc0
  rw [hts] at hkids
  have hal : ∀ X Y, Below w.heap.size w ((w.alloc X).alloc Y) := fun X Y => ((Below.refl _ w).alloc (Nat.le_refl _) _).alloc (by simp) _
  have hn1 : T.kids.length = 1 := by rw [hts]; rfl
  have HB0 := Lib.hid (hal (.cells #[.int .i64 T.k, .int .i64 T.p, .string T.n, .int .i64 T.m, .slice ka T.kids.length kc, .slice aa T.arms.length ac, .int .i64 tk, .string tn, .int .i64 ti, .int .i64 th, .slice ta tl tc] 37) (.cells #[.int .i64 0, .int .i64 0, .string ⟨#[]⟩, .int .i64 0, .slice none 0 0, .slice none 0 0, .int .i64 0, .string ⟨#[]⟩, .int .i64 0, .int .i64 0, .slice none 0 0] 37))
  have HBZ : Hid (BoxC 37 ((w.alloc (.cells #[.int .i64 T.k, .int .i64 T.p, .string T.n, .int .i64 T.m, .slice ka T.kids.length kc, .slice aa T.arms.length ac, .int .i64 tk, .string tn, .int .i64 ti, .int .i64 th, .slice ta tl tc] 37)).alloc (.cells #[.int .i64 0, .int .i64 0, .string ⟨#[]⟩, .int .i64 0, .slice none 0 0, .slice none 0 0, .int .i64 0, .string ⟨#[]⟩, .int .i64 0, .int .i64 0, .slice none 0 0] 37)) (w.heap.size + 1) zExC) := by
    have := zx_made (w.alloc (.cells #[.int .i64 T.k, .int .i64 T.p, .string T.n, .int .i64 T.m, .slice ka T.kids.length kc, .slice aa T.arms.length ac, .int .i64 tk, .string tn, .int .i64 ti, .int .i64 th, .slice ta tl tc] 37))
    rw [World.size_alloc] at this
    exact this
  have HBX : Hid (BoxC 37 ((w.alloc (.cells #[.int .i64 T.k, .int .i64 T.p, .string T.n, .int .i64 T.m, .slice ka T.kids.length kc, .slice aa T.arms.length ac, .int .i64 tk, .string tn, .int .i64 ti, .int .i64 th, .slice ta tl tc] 37)).alloc (.cells #[.int .i64 0, .int .i64 0, .string ⟨#[]⟩, .int .i64 0, .slice none 0 0, .slice none 0 0, .int .i64 0, .string ⟨#[]⟩, .int .i64 0, .int .i64 0, .slice none 0 0] 37)) w.heap.size [.int .i64 T.k, .int .i64 T.p, .string T.n, .int .i64 T.m, .slice ka T.kids.length kc, .slice aa T.arms.length ac, .int .i64 tk, .string tn, .int .i64 ti, .int .i64 th, .slice ta tl tc]) := BoxC.lift (BoxC.made _ w [.int .i64 T.k, .int .i64 T.p, .string T.n, .int .i64 T.m, .slice ka T.kids.length kc, .slice aa T.arms.length ac, .int .i64 tk, .string tn, .int .i64 ti, .int .i64 th, .slice ta tl tc]) ((Below.refl _ _).alloc (Nat.le_refl _) _)
  rw [hn1] at HB0 HBZ HBX ⊢
  have hkids' := slG_lift hkids.bound HB0.out
  obtain ⟨-, hkc, ad, d, rfl, hca, hra⟩ := kids1 hkids'
  have HR := Lib.hid hra
  obtain ⟨kau, kcu, aau, acu, tku, tnu, tiu, thu, tau, tlu, tcu, rfl⟩ := hra.form
  clear hal hts hkids hkids' h hn1
  go_enter Tryd.func55, Tryd.ntmps55
  go_upto_region 1 with fail
  generalize (w.alloc (.cells #[.int .i64 T.k, .int .i64 T.p, .string T.n, .int .i64 T.m, .slice (some ad) 1 kc, .slice aa T.arms.length ac, .int .i64 tk, .string tn, .int .i64 ti, .int .i64 th, .slice ta tl tc] 37)).alloc (.cells #[.int .i64 0, .int .i64 0, .string ⟨#[]⟩, .int .i64 0, .slice none 0 0, .slice none 0 0, .int .i64 0, .string ⟨#[]⟩, .int .i64 0, .int .i64 0, .slice none 0 0] 37) = V at *
  generalize hB : w.heap.size = B at *
  obtain ⟨q0, q1, q2, q3, q4, q5, q6, q7, q8, q9, q10⟩ := kidA hca
  obtain ⟨b0, b1, b2', b3, b4, b5, b6, b7, b8, b9, b10⟩ := HBX.out.all11
  clear hca hra
  go_wp2_with (refine wpList_storeC rfl _ _ rfl _ _ _ HBZ.out rfl rfl HR.out.size HR.out.len0 HR.out.len.2 ?_; intro v8 hB8 hg8 hs8)
  obtain ⟨e0, e1, e2, e3, e4, e5, e6, e7, e8, e9, e10⟩ := hB8.all11
  refine bodyPost_ret (by simp [results, Tryd.results55, go_sem, e0, e1, e2, e3, e4, e5, e6, e7, e8, e9, e10]; try rfl) rfl ?_
  subst hB
  refine ⟨_, rfl, HR.out.kept (fun g hg => hg.1) (fun g hg _ => hg8.block g (Nat.lt_of_lt_of_le hg.2 HB0.out.size) (by intro e; have := Option.some.inj e; have := hg.2; omega)), Below.grown HB0.out hg8 HB0.out.size (fun k hk => by cases hk; omega)⟩
set_option maxRecDepth 100000 in
set_option maxHeartbeats 3200000 in
theorem kid0of2_any (T a b2 : Ex) (hts : T.kids = [a, b2]) (c : List Value) (S : Nat → Prop) (w : World) (h : RepE w S T c) :
    Calls Tryd.prog 55 #[.agg c.toArray, .int .i64 0] w fun e w' => ∃ cu : List Value, e = .returned (.agg cu.toArray) ∧ RepE w' S a cu ∧ Below w.heap.size w w' := by
  obtain ⟨kv, av, tc0, hc0, -, hkids, -, -⟩ := h.open
  obtain ⟨ka, kc, aa, ac, tk, tn, ti, th, ta, tl, tc, rfl⟩ := h.form
  simp only [List.cons.injEq] at hc0
  obtain ⟨-, -, -, -, rfl, -, -⟩ := hc0
  rw [hts] at hkids
  have hal : ∀ X Y, Below w.heap.size w ((w.alloc X).alloc Y) := fun X Y => ((Below.refl _ w).alloc (Nat.le_refl _) _).alloc (by simp) _
  have hn1 : T.kids.length = 2 := by rw [hts]; rfl
  have HB0 := Lib.hid (hal (.cells #[.int .i64 T.k, .int .i64 T.p, .string T.n, .int .i64 T.m, .slice ka T.kids.length kc, .slice aa T.arms.length ac, .int .i64 tk, .string tn, .int .i64 ti, .int .i64 th, .slice ta tl tc] 37) (.cells #[.int .i64 0, .int .i64 0, .string ⟨#[]⟩, .int .i64 0, .slice none 0 0, .slice none 0 0, .int .i64 0, .string ⟨#[]⟩, .int .i64 0, .int .i64 0, .slice none 0 0] 37))
  have HBZ : Hid (BoxC 37 ((w.alloc (.cells #[.int .i64 T.k, .int .i64 T.p, .string T.n, .int .i64 T.m, .slice ka T.kids.length kc, .slice aa T.arms.length ac, .int .i64 tk, .string tn, .int .i64 ti, .int .i64 th, .slice ta tl tc] 37)).alloc (.cells #[.int .i64 0, .int .i64 0, .string ⟨#[]⟩, .int .i64 0, .slice none 0 0, .slice none 0 0, .int .i64 0, .string ⟨#[]⟩, .int .i64 0, .int .i64 0, .slice none 0 0] 37)) (w.heap.size + 1) zExC) := by
    have := zx_made (w.alloc (.cells #[.int .i64 T.k, .int .i64 T.p, .string T.n, .int .i64 T.m, .slice ka T.kids.length kc, .slice aa T.arms.length ac, .int .i64 tk, .string tn, .int .i64 ti, .int .i64 th, .slice ta tl tc] 37))
    rw [World.size_alloc] at this
    exact this
  have HBX : Hid (BoxC 37 ((w.alloc (.cells #[.int .i64 T.k, .int .i64 T.p, .string T.n, .int .i64 T.m, .slice ka T.kids.length kc, .slice aa T.arms.length ac, .int .i64 tk, .string tn, .int .i64 ti, .int .i64 th, .slice ta tl tc] 37)).alloc (.cells #[.int .i64 0, .int .i64 0, .string ⟨#[]⟩, .int .i64 0, .slice none 0 0, .slice none 0 0, .int .i64 0, .string ⟨#[]⟩, .int .i64 0, .int .i64 0, .slice none 0 0] 37)) w.heap.size [.int .i64 T.k, .int .i64 T.p, .string T.n, .int .i64 T.m, .slice ka T.kids.length kc, .slice aa T.arms.length ac, .int .i64 tk, .string tn, .int .i64 ti, .int .i64 th, .slice ta tl tc]) := BoxC.lift (BoxC.made _ w [.int .i64 T.k, .int .i64 T.p, .string T.n, .int .i64 T.m, .slice ka T.kids.length kc, .slice aa T.arms.length ac, .int .i64 tk, .string tn, .int .i64 ti, .int .i64 th, .slice ta tl tc]) ((Below.refl _ _).alloc (Nat.le_refl _) _)
  rw [hn1] at HB0 HBZ HBX ⊢
  have hkids' := slG_lift hkids.bound HB0.out
  obtain ⟨-, hkc, ad, d, d2, rfl, hca, hra, -, -⟩ := kids2 hkids'
  have HR := Lib.hid hra
  obtain ⟨kau, kcu, aau, acu, tku, tnu, tiu, thu, tau, tlu, tcu, rfl⟩ := hra.form
  clear hal hts hkids hkids' h hn1
  go_enter Tryd.func55, Tryd.ntmps55
  go_upto_region 1 with fail
  generalize (w.alloc (.cells #[.int .i64 T.k, .int .i64 T.p, .string T.n, .int .i64 T.m, .slice (some ad) 2 kc, .slice aa T.arms.length ac, .int .i64 tk, .string tn, .int .i64 ti, .int .i64 th, .slice ta tl tc] 37)).alloc (.cells #[.int .i64 0, .int .i64 0, .string ⟨#[]⟩, .int .i64 0, .slice none 0 0, .slice none 0 0, .int .i64 0, .string ⟨#[]⟩, .int .i64 0, .int .i64 0, .slice none 0 0] 37) = V at *
  generalize hB : w.heap.size = B at *
  obtain ⟨q0, q1, q2, q3, q4, q5, q6, q7, q8, q9, q10⟩ := kidA hca
  obtain ⟨b0, b1, b2', b3, b4, b5, b6, b7, b8, b9, b10⟩ := HBX.out.all11
  clear hca hra
  go_wp2_with (refine wpList_storeC rfl _ _ rfl _ _ _ HBZ.out rfl rfl HR.out.size HR.out.len0 HR.out.len.2 ?_; intro v8 hB8 hg8 hs8)
  obtain ⟨e0, e1, e2, e3, e4, e5, e6, e7, e8, e9, e10⟩ := hB8.all11
  refine bodyPost_ret (by simp [results, Tryd.results55, go_sem, e0, e1, e2, e3, e4, e5, e6, e7, e8, e9, e10]; try rfl) rfl ?_
  subst hB
  refine ⟨_, rfl, HR.out.kept (fun g hg => hg.1) (fun g hg _ => hg8.block g (Nat.lt_of_lt_of_le hg.2 HB0.out.size) (by intro e; have := Option.some.inj e; have := hg.2; omega)), Below.grown HB0.out hg8 HB0.out.size (fun k hk => by cases hk; omega)⟩
set_option maxRecDepth 100000 in
set_option maxHeartbeats 3200000 in
theorem kid1_any (T a b2 : Ex) (hts : T.kids = [a, b2]) (c : List Value) (S : Nat → Prop) (w : World) (h : RepE w S T c) :
    Calls Tryd.prog 55 #[.agg c.toArray, .int .i64 1] w fun e w' => ∃ cu : List Value, e = .returned (.agg cu.toArray) ∧ RepE w' S b2 cu ∧ Below w.heap.size w w' := by
  obtain ⟨kv, av, tc0, hc0, -, hkids, -, -⟩ := h.open
  obtain ⟨ka, kc, aa, ac, tk, tn, ti, th, ta, tl, tc, rfl⟩ := h.form
  simp only [List.cons.injEq] at hc0
  obtain ⟨-, -, -, -, rfl, -, -⟩ := hc0
  rw [hts] at hkids
  have hal : ∀ X Y, Below w.heap.size w ((w.alloc X).alloc Y) := fun X Y => ((Below.refl _ w).alloc (Nat.le_refl _) _).alloc (by simp) _
  have hn1 : T.kids.length = 2 := by rw [hts]; rfl
  have HB0 := Lib.hid (hal (.cells #[.int .i64 T.k, .int .i64 T.p, .string T.n, .int .i64 T.m, .slice ka T.kids.length kc, .slice aa T.arms.length ac, .int .i64 tk, .string tn, .int .i64 ti, .int .i64 th, .slice ta tl tc] 37) (.cells #[.int .i64 0, .int .i64 0, .string ⟨#[]⟩, .int .i64 0, .slice none 0 0, .slice none 0 0, .int .i64 0, .string ⟨#[]⟩, .int .i64 0, .int .i64 0, .slice none 0 0] 37))
  have HBZ : Hid (BoxC 37 ((w.alloc (.cells #[.int .i64 T.k, .int .i64 T.p, .string T.n, .int .i64 T.m, .slice ka T.kids.length kc, .slice aa T.arms.length ac, .int .i64 tk, .string tn, .int .i64 ti, .int .i64 th, .slice ta tl tc] 37)).alloc (.cells #[.int .i64 0, .int .i64 0, .string ⟨#[]⟩, .int .i64 0, .slice none 0 0, .slice none 0 0, .int .i64 0, .string ⟨#[]⟩, .int .i64 0, .int .i64 0, .slice none 0 0] 37)) (w.heap.size + 1) zExC) := by
    have := zx_made (w.alloc (.cells #[.int .i64 T.k, .int .i64 T.p, .string T.n, .int .i64 T.m, .slice ka T.kids.length kc, .slice aa T.arms.length ac, .int .i64 tk, .string tn, .int .i64 ti, .int .i64 th, .slice ta tl tc] 37))
    rw [World.size_alloc] at this
    exact this
  have HBX : Hid (BoxC 37 ((w.alloc (.cells #[.int .i64 T.k, .int .i64 T.p, .string T.n, .int .i64 T.m, .slice ka T.kids.length kc, .slice aa T.arms.length ac, .int .i64 tk, .string tn, .int .i64 ti, .int .i64 th, .slice ta tl tc] 37)).alloc (.cells #[.int .i64 0, .int .i64 0, .string ⟨#[]⟩, .int .i64 0, .slice none 0 0, .slice none 0 0, .int .i64 0, .string ⟨#[]⟩, .int .i64 0, .int .i64 0, .slice none 0 0] 37)) w.heap.size [.int .i64 T.k, .int .i64 T.p, .string T.n, .int .i64 T.m, .slice ka T.kids.length kc, .slice aa T.arms.length ac, .int .i64 tk, .string tn, .int .i64 ti, .int .i64 th, .slice ta tl tc]) := BoxC.lift (BoxC.made _ w [.int .i64 T.k, .int .i64 T.p, .string T.n, .int .i64 T.m, .slice ka T.kids.length kc, .slice aa T.arms.length ac, .int .i64 tk, .string tn, .int .i64 ti, .int .i64 th, .slice ta tl tc]) ((Below.refl _ _).alloc (Nat.le_refl _) _)
  rw [hn1] at HB0 HBZ HBX ⊢
  have hkids' := slG_lift hkids.bound HB0.out
  obtain ⟨-, hkc, ad, d, d2, rfl, -, -, hca, hra⟩ := kids2 hkids'
  have HR := Lib.hid hra
  obtain ⟨kau, kcu, aau, acu, tku, tnu, tiu, thu, tau, tlu, tcu, rfl⟩ := hra.form
  clear hal hts hkids hkids' h hn1
  go_enter Tryd.func55, Tryd.ntmps55
  go_upto_region 1 with fail
  generalize (w.alloc (.cells #[.int .i64 T.k, .int .i64 T.p, .string T.n, .int .i64 T.m, .slice (some ad) 2 kc, .slice aa T.arms.length ac, .int .i64 tk, .string tn, .int .i64 ti, .int .i64 th, .slice ta tl tc] 37)).alloc (.cells #[.int .i64 0, .int .i64 0, .string ⟨#[]⟩, .int .i64 0, .slice none 0 0, .slice none 0 0, .int .i64 0, .string ⟨#[]⟩, .int .i64 0, .int .i64 0, .slice none 0 0] 37) = V at *
  generalize hB : w.heap.size = B at *
  obtain ⟨q0, q1, q2, q3, q4, q5, q6, q7, q8, q9, q10⟩ := kidB hca
  obtain ⟨b0, b1, b2', b3, b4, b5, b6, b7, b8, b9, b10⟩ := HBX.out.all11
  clear hca hra
  go_wp2_with (refine wpList_storeC rfl _ _ rfl _ _ _ HBZ.out rfl rfl HR.out.size HR.out.len0 HR.out.len.2 ?_; intro v8 hB8 hg8 hs8)
  obtain ⟨e0, e1, e2, e3, e4, e5, e6, e7, e8, e9, e10⟩ := hB8.all11
  refine bodyPost_ret (by simp [results, Tryd.results55, go_sem, e0, e1, e2, e3, e4, e5, e6, e7, e8, e9, e10]; try rfl) rfl ?_
  subst hB
  refine ⟨_, rfl, HR.out.kept (fun g hg => hg.1) (fun g hg _ => hg8.block g (Nat.lt_of_lt_of_le hg.2 HB0.out.size) (by intro e; have := Option.some.inj e; have := hg.2; omega)), Below.grown HB0.out hg8 HB0.out.size (fun k hk => by cases hk; omega)⟩
set_option maxHeartbeats 3200000 in
theorem isAtom_any (T : Ex) (c : List Value) (S : Nat → Prop) (w : World) (h : RepE w S T c) :
    Calls Tryd.prog 83 #[.agg c.toArray] w fun e w' => e = .returned (.bool (atomE T)) ∧ Below w.heap.size w w' := by
  obtain ⟨ka, kc, aa, ac, tk, tn, ti, th, ta, tl, tc, rfl⟩ := h.form
  clear h
  unfold atomE
  have HB : Hid (∀ c t, Below w.heap.size w (w.alloc (.cells c t))) := fun c t => (Below.refl _ w).alloc (Nat.le_refl _) _
  generalize T.k = k
  generalize T.kids.length = kl
  generalize T.arms.length = al
  cases h1 : (k == 1)
  · cases h2 : (k == 2)
    · cases h3 : (k == 3)
      · cases h4 : (k == 10)
        · cases h5 : (k == 9)
          · cases h6 : (k == 11)
            all_goals
              go_enter Tryd.func83, Tryd.ntmps83
              go_wp2
              go_ret
              exact ⟨rfl, HB.out _ _⟩
          all_goals
            go_enter Tryd.func83, Tryd.ntmps83
            go_wp2
            go_ret
            exact ⟨rfl, HB.out _ _⟩
        all_goals
          go_enter Tryd.func83, Tryd.ntmps83
          go_wp2
          go_ret
          exact ⟨rfl, HB.out _ _⟩
      all_goals
        go_enter Tryd.func83, Tryd.ntmps83
        go_wp2
        go_ret
        exact ⟨rfl, HB.out _ _⟩
    all_goals
      go_enter Tryd.func83, Tryd.ntmps83
      go_wp2
      go_ret
      exact ⟨rfl, HB.out _ _⟩
  all_goals
    go_enter Tryd.func83, Tryd.ntmps83
    go_wp2
    go_ret
    exact ⟨rfl, HB.out _ _⟩
end Go.Proofs.YtfkbifbodpelmaaDoor
