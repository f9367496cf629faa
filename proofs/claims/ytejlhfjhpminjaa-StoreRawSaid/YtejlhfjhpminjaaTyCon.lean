/- The contracts of the reference's makers of types. -/
import Derived.Test.YtejlhfjhpminjaaTyBox
namespace Go.Proofs.Ytejlhfjhpminjaa
open Go.RowKit Mth

/-- A value without arguments. -/
def leafV (k : Int) (n : ByteArray) (i h : Int) : Value := .agg #[.int .i64 k, .string n, .int .i64 i, .int .i64 h, .slice none 0 0]
theorem rep_leaf (w : World) (S : Nat → Prop) (k : Int) (n : ByteArray) (i h : Int) (hn : n.size ≤ maxLen) : Rep w S (.mk k n i h []) (leafV k n i h) := Rep.close hn (repL_nil w S)
theorem refVar_any (i : Int) (w : World) : Calls Try.prog 11 #[.int .i64 i] w fun e w' => e = .returned (leafV 1 ⟨#[]⟩ i 0) ∧ Below w.heap.size w w' := by
  go_enter Try.func11, Try.ntmps11
  go_wp2
  go_returns
  exact ⟨rfl, (Below.refl _ w).alloc (Nat.le_refl _) _⟩
/-- A constructor. -/
def con (n : ByteArray) (ts : List Ty) : Ty := .mk 4 n 0 0 ts
def arrN : ByteArray := ⟨#[45, 62]⟩
def intN : ByteArray := ⟨#[73, 110, 116]⟩
theorem refCon_nil (n : ByteArray) (w : World) : Calls Try.prog 26 #[.string n, .slice none 0 0] w fun e w' => e = .returned (leafV 4 n 0 0) ∧ Below w.heap.size w w' := by
  go_enter Try.func26, Try.ntmps26
  go_wp2
  go_returns
  exact ⟨rfl, (Below.refl _ w).alloc (Nat.le_refl _) _⟩
set_option maxHeartbeats 800000 in
theorem refInt_any (w : World) : Calls Try.prog 18 #[] w fun e w' => e = .returned (leafV 4 intN 0 0) ∧ Below w.heap.size w w' := by
  have hb0 : ∀ X Z, Below w.heap.size w (w.alloc (.cells X Z)) := fun X Z => (Below.refl _ w).alloc (Nat.le_refl _) _
  go_enter Try.func18, Try.ntmps18
  go_wp2_with fail
  go_at_call 26
  refine (refCon_nil _ _).mono ?_
  rintro e w1 ⟨rfl, hb1⟩
  have HB := Lib.hid ((Box.made w _ _ _ _ _).lift hb1)
  have hbx := (hb0 _ _).trans (hb1.mono (hb0 _ _).size)
  clear hb1
  unfold leafV
  go_wp2_with (refine wpList_store5 rfl _ _ rfl _ _ _ _ _ _ HB.out rfl _ _ _ _ _ _ _ rfl ?_; intro w2 hB2 hg2 hs2)
  obtain ⟨c0, c1, c2, c3, c4⟩ := hB2.cells
  refine bodyPost_ret (by simp [results, Try.results18, go_sem, c0, c1, c2, c3, c4]; try rfl) rfl ?_
  exact ⟨rfl, Below.grown hbx hg2 hbx.size (fun j hj => by cases hj; exact Nat.le_refl _)⟩
/-- A slice without address holds nothing. -/
theorem repL_none {w : World} {S : Nat → Prop} {ts : List Ty} {n c : Nat} (h : RepL w S ts (.slice none n c)) : ts = [] ∧ n = 0 := by
  obtain ⟨a, cap, hv, _, hj⟩ := h
  simp at hv
  obtain ⟨rfl, rfl, rfl⟩ := hv
  cases ts with
  | nil => exact ⟨rfl, rfl⟩
  | cons t ts => obtain ⟨ad, _, h, _⟩ := hj 0 t rfl; cases h
set_option maxHeartbeats 800000 in
theorem refCon_any (n : ByteArray) (ts : List Ty) (hl : ts.length ≤ 1000000) (ad : Addr) (cap : Nat) (S : Nat → Prop) (w : World) (hS : ∀ b, w.heap.size ≤ b → S b) (h : RepL w S ts (.slice (some ad) ts.length cap)) :
    Calls Try.prog 26 #[.string n, .slice (some ad) ts.length cap] w fun e w' => ∃ a c, e = .returned (.agg #[.int .i64 4, .string n, .int .i64 0, .int .i64 0, .slice a ts.length c]) ∧ RepL w' S ts (.slice a ts.length c) ∧ Below w.heap.size w w' := by
  have HR := Lib.hid h
  clear h
  have hb0 : ∀ X Z, Below w.heap.size w (w.alloc (.cells X Z)) := fun X Z => (Below.refl _ w).alloc (Nat.le_refl _) _
  obtain ⟨m, hm⟩ : ∃ m, m = ts.length := ⟨_, rfl⟩
  rw [← hm] at hl ⊢
  have HM := Lib.hid hm
  clear hm
  have hnews : ∀ X Z, ∀ j T, ts[j]? = some T → ∃ y, Five (w.alloc (.cells X Z)) ad j y ∧ Rep (w.alloc (.cells X Z)) (fun b => (b < w.heap.size ∧ S b) ∧ some b ≠ (Value.slice none 0 0).ownBlock) T y := by
    intro X Z j T hj
    obtain ⟨a, c, hv, _, hr⟩ := HR.out.lift (hb0 X Z)
    have := HR.out
    obtain ⟨a', c', hv', _, hr'⟩ := this
    simp at hv'
    obtain ⟨rfl, rfl⟩ := hv'
    obtain ⟨ad', y, e, _, h5, hrep⟩ := hr' j T hj
    cases e
    exact ⟨y, h5.kept ((hb0 X Z).block _ h5.lt), (hrep.bound.lift (hb0 X Z)).imp fun b hb => ⟨⟨hb.2, hb.1⟩, by simp [Value.ownBlock]⟩⟩
  have HN := Lib.hid hnews
  clear hnews
  go_enter Try.func26, Try.ntmps26
  go_wp2_with (first
    | (at_builtin; refine wpList_pushT rfl _ _ rfl (w.heap.size + 1) (fun b => b < w.heap.size ∧ S b) (.slice none 0 0) [] rfl (rowT_nil _ _ _) _ _ _ rfl ts HM.out.symm (HN.out _ _) m (by simp) hl (by simp) ?_; intro a1 c1 w1 hrow hg hloc; have HB := Lib.hid ((Box.made w _ _ _ _ _).kept (hg.block _ (by simp) (by simp [Value.ownBlock]))))
    | (refine wpList_store5 rfl _ _ rfl _ _ _ _ _ _ HB.out rfl _ _ _ _ _ _ _ rfl ?_; intro w2 hB2 hg2 hs2))
  obtain ⟨c0, c1, c2, c3, c4⟩ := hB2.cells
  have hbw : Below w.heap.size w w1 := Below.grown (hb0 _ _) hg (by simp) (fun j hj => by simp [Value.ownBlock] at hj)
  have hrow2 := hrow.kept hg2 (hrow.off (Nat.lt_succ_self _)) (fun b hb => by intro e; cases e; exact absurd hb.1 (Nat.lt_irrefl _))
  refine bodyPost_ret (by simp [results, Try.results26, go_sem, c0, c1, c2, c3, c4]; try rfl) rfl ?_
  exact ⟨a1, _, rfl, hrow2.repL (fun b hb => hb.2) (fun b hb => hS b (by omega)), Below.grown hbw hg2 hbw.size (fun j hj => by cases hj; exact Nat.le_refl _)⟩

/-- A row of two that was just made. -/
theorem two_new {w w0 : World} {S : Nat → Prop} {T U : Ty} {a0 a1 a2 a3 a4 b0 b1 b2 b3 b4 : Value} (hb : Below w0.heap.size w0 w) (h : Rep w0 S T (.agg #[a0, a1, a2, a3, a4])) (k : Rep w0 S U (.agg #[b0, b1, b2, b3, b4])) (Z : TypeId) (n : Nat) (hn : n = w.heap.size) (hS : S n) :
    RepL (w.alloc (.cells #[a0, a1, a2, a3, a4, b0, b1, b2, b3, b4] Z)) S [T, U] (.slice (some ⟨n, 0, none⟩) 2 2) := by
  subst hn
  have hb' : Below w0.heap.size w0 (w.alloc (.cells #[a0, a1, a2, a3, a4, b0, b1, b2, b3, b4] Z)) := hb.alloc hb.size _
  refine ⟨_, 2, rfl, ⟨Nat.le_refl _, by simp [maxLen]⟩, fun j X hj => ?_⟩
  rcases j with _ | _ | j
  · simp at hj; subst hj
    exact ⟨_, _, rfl, hS, ⟨a0, a1, a2, a3, a4, rfl, by simp [Addr.add], by simp [Addr.add], by simp [Addr.add], by simp [Addr.add], by simp [Addr.add]⟩, h.lift hb'⟩
  · simp at hj; subst hj
    exact ⟨_, _, rfl, hS, ⟨b0, b1, b2, b3, b4, rfl, by simp [Addr.add], by simp [Addr.add], by simp [Addr.add], by simp [Addr.add], by simp [Addr.add]⟩, k.lift hb'⟩
  · simp at hj
set_option maxHeartbeats 1600000 in
theorem refArrow_any (T U : Ty) (v u : Value) (S : Nat → Prop) (w : World) (hS : ∀ b, w.heap.size ≤ b → S b) (h : Rep w S T v) (h' : Rep w S U u) :
    Calls Try.prog 10 #[v, u] w fun e w' => ∃ a c, e = .returned (.agg #[.int .i64 4, .string arrN, .int .i64 0, .int .i64 0, .slice a 2 c]) ∧ RepL w' S [T, U] (.slice a 2 c) ∧ Below w.heap.size w w' := by
  obtain ⟨k, n, i, hm, s, eT, rfl, hn, hs⟩ := h.open
  obtain ⟨k', n', i', hm', s', eU, rfl, hn', hs'⟩ := h'.open
  obtain ⟨sa, sc, rfl, -⟩ := hs
  obtain ⟨sa', sc', rfl, -⟩ := hs'
  have HR := Lib.hid h
  have HR' := Lib.hid h'
  clear h h' eT eU hn hn'
  generalize T.ts.length = sn at *
  generalize U.ts.length = sn' at *
  go_enter Try.func10, Try.ntmps10
  go_wp2_with fail
  go_at_call 26
  have hb3 : ∀ A B C, Below w.heap.size w (((w.alloc (.cells A 31)).alloc (.cells B 31)).alloc (.cells C 31)) := fun A B C => (((Below.refl _ w).alloc (Nat.le_refl _) _).alloc (by simp) _).alloc (by simp; omega) _
  refine (refCon_any arrN [T, U] (by simp) ⟨w.heap.size + 1 + 1 + 1, 0, none⟩ 2 (fun b => S b ∧ b ≠ w.heap.size + 1 + 1) _ (fun b hb => ⟨hS b (by simp at hb; omega), by simp at hb; omega⟩)
    (two_new (hb3 _ _ _) (HR.out.bound.imp fun b hb => ⟨hb.1, by omega⟩) (HR'.out.bound.imp fun b hb => ⟨hb.1, by omega⟩) _ _ (by simp) ⟨hS _ (by omega), by omega⟩)).mono ?_
  rintro e w1 ⟨a, c, rfl, hrep, hb1⟩
  have hbw := (((hb3 _ _ _).alloc (hb3 _ _ _).size _)).trans (hb1.mono (by simp; omega))
  have HB : Hid (Zero w1 (w.heap.size + 1 + 1)) := Box.lift (by unfold Box; rw [heap_at, if_neg (by simp), heap_at, if_pos (by simp)]) hb1
  have hsz := hb1.size
  clear hb1
  go_wp2_with (refine wpList_store5 rfl _ _ rfl _ _ _ _ _ _ HB.out rfl _ _ _ _ _ _ _ rfl ?_; intro w2 hB2 hg2 hs2)
  obtain ⟨c0, c1, c2, c3, c4⟩ := hB2.cells
  refine bodyPost_ret (by simp [results, Try.results10, go_sem, c0, c1, c2, c3, c4]; try rfl) rfl ?_
  exact ⟨a, c, rfl, hrep.kept (fun b hb => hb.1) (fun b hb hlt => hg2.block b hlt (by intro e; cases e; exact hb.2 rfl)), Below.grown hbw hg2 hbw.size (fun j hj => by cases hj; omega)⟩
end Go.Proofs.Ytejlhfjhpminjaa
