import Derived.Test.YthphnacfidofbaaGreatDoorTyXType
/- The reference's Type and Atom, whole: by the fuel, from any index. -/
namespace Go.Proofs.YthphnacfidofbaaGreatDoor
open Go.RowKit Go.Maps Mth

theorem xAt_none (fid : Nat) (ts : List Tok) (i : St) : XAt fid ts i none := fun T j h => by cases h
theorem reader_all (ts : List Tok) (hok : TkOk ts) : ∀ f, f ≤ 900000 → Hid (∀ g, g ≤ f → ∀ i, XAt 127 ts i (xAtom g ts i)) ∧ Hid (∀ g, g ≤ f → ∀ i, XAt 96 ts i (xType g ts i)) := by
  intro f
  induction f with
  | zero =>
    intro _
    refine ⟨fun g hg i => ?_, fun g hg i => ?_⟩
    · obtain rfl : g = 0 := Nat.le_zero.1 hg
      unfold xAtom; exact xAt_none _ _ _
    · obtain rfl : g = 0 := Nat.le_zero.1 hg
      unfold xType; exact xAt_none _ _ _
  | succ f ih =>
    intro hf
    obtain ⟨hA, hT⟩ := ih (by omega)
    refine ⟨fun g hg i => ?_, fun g hg i => ?_⟩
    · by_cases h : g ≤ f
      · exact hA.out g h i
      · obtain rfl : g = f + 1 := by omega
        exact xAtom_of ts hok i f (hT.out f (Nat.le_refl _) _)
    · by_cases h : g ≤ f
      · exact hT.out g h i
      · obtain rfl : g = f + 1 := by omega
        exact xType_of ts hok f (by omega) hA hT i
theorem xatom_any (ts : List Tok) (hok : TkOk ts) (f : Nat) (hf : f ≤ 900000) (i : St) : XAt 127 ts i (xAtom f ts i) := (reader_all ts hok f hf).1.out f (Nat.le_refl _) i
theorem xtype_any (ts : List Tok) (hok : TkOk ts) (f : Nat) (hf : f ≤ 900000) (i : St) : XAt 96 ts i (xType f ts i) := (reader_all ts hok f hf).2.out f (Nat.le_refl _) i

/-- The index from which a list is read. -/
def startAt (ts : List Tok) (k : Int) : Nat := if k < 0 ∨ (ts.length : Int) < k then ts.length else k.toNat
theorem startAt_le (ts : List Tok) (k : Int) : startAt ts k ≤ ts.length := by unfold startAt; split <;> omega
theorem TokAt.below {w w' : World} {S : Nat → Prop} {lv : Value} {ts : List Tok} {b : Nat} (h : TokAt w S lv ts) (hb : w.heap.size ≤ b) (hg : Below w.heap.size w w') : TokAt w' (fun g => g < b) lv ts := by
  obtain ⟨a, cap, hv, hcap, hc⟩ := h
  refine TokAt.lift (w := w) ⟨a, cap, hv, hcap, fun j t ht => ?_⟩ hg
  obtain ⟨g, ha, hs, h1, h2, h3⟩ := hc j t ht
  exact ⟨g, ha, Nat.lt_of_lt_of_le (World.block_lt_of_cell? _ _ h1) hb, h1, h2, h3⟩
theorem new_any (ts : List Tok) (hok : TkOk ts) (S : Nat → Prop) (lv : Value) (k : Int) (w : World) (h : TokAt w S lv ts) :
    Calls Tryz.prog 50 #[lv, .int .i64 k] w fun e w' => e = .returned (.pointer (some ⟨w.heap.size, 0, none⟩)) ∧ RdX w' w.heap.size ts ⟨startAt ts k, false, 0⟩ ∧ Below w.heap.size w w' := by
  have HT := Lib.hid h
  have hl := hok.1
  obtain ⟨a, cap, rfl, -, -⟩ := h
  have HEnd : Hid (∀ i : Nat, i ≤ ts.length → RdX (w.alloc (.cells #[.slice a ts.length cap, .int .i64 i, .bool false, .int .i64 0] 125)) w.heap.size ts ⟨i, false, 0⟩) := fun i hi =>
    ⟨_, heap_alloc_new w _, HT.out.below (Nat.le_refl _) ((Below.refl _ w).alloc (Nat.le_refl _) _), hi, (fun _ => rfl), hok⟩
  have hb : ∀ X, Below w.heap.size w (w.alloc X) := fun X => (Below.refl _ w).alloc (Nat.le_refl _) _
  have HB := Lib.hid hb
  clear hb
  by_cases h1 : k < 0
  · have HE : Hid (startAt ts k = ts.length) := by show _ = _; unfold startAt; rw [if_pos (.inl h1)]
    go_enter Tryz.func50, Tryz.ntmps50
    go_wp2
    go_ret
    exact ⟨rfl, by rw [HE.out]; exact HEnd.out _ (Nat.le_refl _), HB.out _⟩
  · by_cases h2 : (ts.length : Int) < k
    · have HE : Hid (startAt ts k = ts.length) := by show _ = _; unfold startAt; rw [if_pos (.inr h2)]
      have h3 : decide (k < 0) = false := by simpa using h1
      go_enter Tryz.func50, Tryz.ntmps50
      go_wp2
      go_ret
      exact ⟨rfl, by rw [HE.out]; exact HEnd.out _ (Nat.le_refl _), HB.out _⟩
    · obtain ⟨i, rfl⟩ : ∃ i : Nat, k = i := ⟨k.toNat, by omega⟩
      have HE : Hid (startAt ts (i : Int) = i) := by show _ = _; unfold startAt; rw [if_neg (by omega)]; simp
      have h3 : decide ((i : Int) < 0) = false := by simp
      have h4 : decide (ts.length < i) = false := by simp; omega
      have h5 : i ≤ ts.length := by omega
      clear h1 h2
      go_enter Tryz.func50, Tryz.ntmps50
      go_wp2
      go_ret
      exact ⟨rfl, by rw [HE.out]; exact HEnd.out _ h5, HB.out _⟩
/-- The results of a reading: the type, the index behind it, the error and its offset. -/
structure Res where
  T : Ty
  n : Int
  e : Int
  p : Int
def ResAt (w : World) (S : Nat → Prop) (r : Res) (v : Value) : Prop := ∃ u, v = .tuple #[u, .int .i64 r.n, .agg #[.int .i64 r.e, .int .i64 r.p]] ∧ Rep w S r.T u
def zeroT : Ty := .mk 0 ⟨#[]⟩ 0 0 []
def resOf (T : Ty) (s : St) : Res := if s.bad then ⟨zeroT, 0, 3, s.p⟩ else ⟨T, s.i, 0, 0⟩
/-- The worlds of done: a copy of the type, the type's result, the error's result. -/
structure DSt (w : World) (b n : Nat) (c0 c1 c2 c3 c4 : Value) (i : Nat) (q : Bool) (p : Int) (V : World) : Prop where
  rd : V.cell? ⟨b, 1, none⟩ = some (.int .i64 i) ∧ V.cell? ⟨b, 2, none⟩ = some (.bool q) ∧ V.cell? ⟨b, 3, none⟩ = some (.int .i64 p)
  arg : Box V n c0 c1 c2 c3 c4
  typ : Zero V (n + 1)
  flt : V.heap[n + 1 + 1]? = some (.cells #[.int .i64 0, .int .i64 0] 40 (0, 0))
  low : Below w.heap.size w V
  le : w.heap.size ≤ n
theorem dst_new {w : World} {b : Nat} {uk : Int} {un : ByteArray} {ui uh : Int} {ua : Option Addr} {um uc : Nat} {lv : Value} {i : Nat} {q : Bool} {p : Int} (h : RdB w b lv ⟨i, q, p⟩) :
    DSt w b w.heap.size (.int .i64 uk) (.string un) (.int .i64 ui) (.int .i64 uh) (.slice ua um uc) i q p (((w.alloc (.cells #[.int .i64 uk, .string un, .int .i64 ui, .int .i64 uh, .slice ua um uc] 30)).alloc (.cells #[.int .i64 0, .string ⟨#[]⟩, .int .i64 0, .int .i64 0, .slice none 0 0] 30)).alloc (.cells #[.int .i64 0, .int .i64 0] 40)) := by
  have hb : Below w.heap.size w (((w.alloc (.cells #[.int .i64 uk, .string un, .int .i64 ui, .int .i64 uh, .slice ua um uc] 30)).alloc (.cells #[.int .i64 0, .string ⟨#[]⟩, .int .i64 0, .int .i64 0, .slice none 0 0] 30)).alloc (.cells #[.int .i64 0, .int .i64 0] 40)) := (((Below.refl _ w).alloc (Nat.le_refl _) _).alloc (by simp) _).alloc (by simp; omega) _
  have h' : RdB (((w.alloc (.cells #[.int .i64 uk, .string un, .int .i64 ui, .int .i64 uh, .slice ua um uc] 30)).alloc (.cells #[.int .i64 0, .string ⟨#[]⟩, .int .i64 0, .int .i64 0, .slice none 0 0] 30)).alloc (.cells #[.int .i64 0, .int .i64 0] 40)) b lv ⟨i, q, p⟩ := by
    unfold RdB at *
    rw [hb.block _ (Array.getElem?_eq_some_iff.1 h).1, h]
  obtain ⟨c0, c1, c2, c3, -⟩ := h'.cells
  refine ⟨⟨c1, c2, c3⟩, ?_, ?_, ?_, hb, Nat.le_refl _⟩
  · unfold Box; rw [heap_at, if_neg (by simp; omega), heap_at, if_neg (by simp), heap_at, if_pos rfl]
  · show Box _ _ _ _ _ _ _
    unfold Box; rw [heap_at, if_neg (by simp), heap_at, if_pos (by simp)]
  · rw [heap_at, if_pos (by simp)]
theorem DSt.fin {w V : World} {b n : Nat} {c0 c1 c2 c3 c4 : Value} {i : Nat} {q : Bool} {p : Int} (h : DSt w b n c0 c1 c2 c3 c4 i q p V) (v0 v1 v2 v3 v4 e0 e1 : Value) :
    Box (((((((V.setCell ⟨n + 1, 0, none⟩ v0).setCell ⟨n + 1, 1, none⟩ v1).setCell ⟨n + 1, 2, none⟩ v2).setCell ⟨n + 1, 3, none⟩ v3).setCell ⟨n + 1, 4, none⟩ v4).setCell ⟨n + 1 + 1, 0, none⟩ e0).setCell ⟨n + 1 + 1, 1, none⟩ e1).drew (n + 1) v0 v1 v2 v3 v4 ∧
    (((((((V.setCell ⟨n + 1, 0, none⟩ v0).setCell ⟨n + 1, 1, none⟩ v1).setCell ⟨n + 1, 2, none⟩ v2).setCell ⟨n + 1, 3, none⟩ v3).setCell ⟨n + 1, 4, none⟩ v4).setCell ⟨n + 1 + 1, 0, none⟩ e0).setCell ⟨n + 1 + 1, 1, none⟩ e1).drew.cell? ⟨n + 1 + 1, 0, none⟩ = some e0 ∧
    (((((((V.setCell ⟨n + 1, 0, none⟩ v0).setCell ⟨n + 1, 1, none⟩ v1).setCell ⟨n + 1, 2, none⟩ v2).setCell ⟨n + 1, 3, none⟩ v3).setCell ⟨n + 1, 4, none⟩ v4).setCell ⟨n + 1 + 1, 0, none⟩ e0).setCell ⟨n + 1 + 1, 1, none⟩ e1).drew.cell? ⟨n + 1 + 1, 1, none⟩ = some e1 ∧
    Below w.heap.size w (((((((V.setCell ⟨n + 1, 0, none⟩ v0).setCell ⟨n + 1, 1, none⟩ v1).setCell ⟨n + 1, 2, none⟩ v2).setCell ⟨n + 1, 3, none⟩ v3).setCell ⟨n + 1, 4, none⟩ v4).setCell ⟨n + 1 + 1, 0, none⟩ e0).setCell ⟨n + 1 + 1, 1, none⟩ e1).drew := by
  have hle := h.le
  obtain ⟨hB, hG, -⟩ := set5 h.typ v0 v1 v2 v3 v4
  have hn2 : n + 1 + 1 < V.heap.size := (Array.getElem?_eq_some_iff.1 h.flt).1
  have hF := (hG.block (n + 1 + 1) hn2 (by intro e; have := Option.some.inj e; omega)).trans h.flt
  have hL := Below.grown h.low hG h.low.size (fun k hk => by have := Option.some.inj hk; omega)
  generalize (((((V.setCell ⟨n + 1, 0, none⟩ v0).setCell ⟨n + 1, 1, none⟩ v1).setCell ⟨n + 1, 2, none⟩ v2).setCell ⟨n + 1, 3, none⟩ v3).setCell ⟨n + 1, 4, none⟩ v4) = V1 at *
  obtain ⟨a0, g0, -⟩ := set1 hF 0 e0
  obtain ⟨a1, g1, -⟩ := set1 a0 1 e1
  have g01 := grown_trans g0 g1
  have hB' : Box ((V1.setCell ⟨n + 1 + 1, 0, none⟩ e0).setCell ⟨n + 1 + 1, 1, none⟩ e1) (n + 1) v0 v1 v2 v3 v4 := hB.kept (g01.block _ hB.lt (by intro e; have := Option.some.inj e; omega))
  have hL' := Below.grown hL g01 hL.size (fun k hk => by have := Option.some.inj hk; omega)
  generalize (V1.setCell ⟨n + 1 + 1, 0, none⟩ e0).setCell ⟨n + 1 + 1, 1, none⟩ e1 = V2 at *
  refine ⟨hB', ?_, ?_, hL'.drew⟩
  · show V2.cell? _ = _
    simp [World.cell?, a1]
  · show V2.cell? _ = _
    simp [World.cell?, a1]
end Go.Proofs.YthphnacfidofbaaGreatDoor

/- The reference's Type and Atom: what they return. -/
namespace Go.Proofs.YthphnacfidofbaaGreatDoor
open Go.RowKit Go.Maps Mth

/-- The two variables of the results: a type, an error. -/
structure Outs (w : World) (V : World) : Prop where
  typ : Zero V w.heap.size
  flt : V.heap[w.heap.size + 1]? = some (.cells #[.int .i64 0, .int .i64 0] 40 (0, 0))
  low : Below w.heap.size w V
  size : w.heap.size + 2 ≤ V.heap.size
theorem outs_new (w : World) : Outs w ((w.alloc (.cells #[.int .i64 0, .string ⟨#[]⟩, .int .i64 0, .int .i64 0, .slice none 0 0] 30)).alloc (.cells #[.int .i64 0, .int .i64 0] 40)) := by
  refine ⟨?_, ?_, ((Below.refl _ w).alloc (Nat.le_refl _) _).alloc (by simp) _, by simp⟩
  · show Box _ _ _ _ _ _ _
    unfold Box; rw [heap_at, if_neg (by simp), heap_at, if_pos rfl]
  · rw [heap_at, if_pos (by simp)]
theorem Outs.lift {w V V' : World} (h : Outs w V) (hb : Below V.heap.size V V') : Outs w V' :=
  ⟨Box.lift h.typ hb, by rw [hb.block _ (Array.getElem?_eq_some_iff.1 h.flt).1]; exact h.flt, h.low.trans (hb.mono h.low.size), Nat.le_trans h.size hb.size⟩
theorem Outs.grown {w V V' : World} {b : Nat} (h : Outs w V) (hb : w.heap.size + 2 ≤ b) (hg : V.grownBy V' (some b)) : Outs w V' :=
  ⟨Box.grown h.typ hg (by intro e; have := Option.some.inj e; omega), by rw [hg.block _ (Array.getElem?_eq_some_iff.1 h.flt).1 (by intro e; have := Option.some.inj e; omega)]; exact h.flt, Below.grown h.low hg h.low.size (fun k hk => by have := Option.some.inj hk; omega), Nat.le_trans h.size hg.size⟩
theorem Outs.fcells {w V : World} (h : Outs w V) : V.cell? ⟨w.heap.size + 1, 0, none⟩ = some (.int .i64 0) ∧ V.cell? ⟨w.heap.size + 1, 1, none⟩ = some (.int .i64 0) ∧ V.frozen? ⟨w.heap.size + 1, 0, none⟩ = false ∧ V.frozen? ⟨w.heap.size + 1, 1, none⟩ = false := by
  have hF := h.flt
  refine ⟨by simp [World.cell?, hF], by simp [World.cell?, hF], by simp [World.frozen?, hF], by simp [World.frozen?, hF]⟩
/-- The results, stored. -/
theorem Outs.fin {w V : World} (h : Outs w V) (v0 v1 v2 v3 v4 e0 e1 : Value) :
    Box (((((((V.setCell ⟨w.heap.size, 0, none⟩ v0).setCell ⟨w.heap.size, 1, none⟩ v1).setCell ⟨w.heap.size, 2, none⟩ v2).setCell ⟨w.heap.size, 3, none⟩ v3).setCell ⟨w.heap.size, 4, none⟩ v4).setCell ⟨w.heap.size + 1, 0, none⟩ e0).setCell ⟨w.heap.size + 1, 1, none⟩ e1) w.heap.size v0 v1 v2 v3 v4 ∧
    (((((((V.setCell ⟨w.heap.size, 0, none⟩ v0).setCell ⟨w.heap.size, 1, none⟩ v1).setCell ⟨w.heap.size, 2, none⟩ v2).setCell ⟨w.heap.size, 3, none⟩ v3).setCell ⟨w.heap.size, 4, none⟩ v4).setCell ⟨w.heap.size + 1, 0, none⟩ e0).setCell ⟨w.heap.size + 1, 1, none⟩ e1).cell? ⟨w.heap.size + 1, 0, none⟩ = some e0 ∧
    (((((((V.setCell ⟨w.heap.size, 0, none⟩ v0).setCell ⟨w.heap.size, 1, none⟩ v1).setCell ⟨w.heap.size, 2, none⟩ v2).setCell ⟨w.heap.size, 3, none⟩ v3).setCell ⟨w.heap.size, 4, none⟩ v4).setCell ⟨w.heap.size + 1, 0, none⟩ e0).setCell ⟨w.heap.size + 1, 1, none⟩ e1).cell? ⟨w.heap.size + 1, 1, none⟩ = some e1 ∧
    Below w.heap.size w (((((((V.setCell ⟨w.heap.size, 0, none⟩ v0).setCell ⟨w.heap.size, 1, none⟩ v1).setCell ⟨w.heap.size, 2, none⟩ v2).setCell ⟨w.heap.size, 3, none⟩ v3).setCell ⟨w.heap.size, 4, none⟩ v4).setCell ⟨w.heap.size + 1, 0, none⟩ e0).setCell ⟨w.heap.size + 1, 1, none⟩ e1) ∧
    ∀ c, w.heap.size + 2 ≤ c → c < V.heap.size → (((((((V.setCell ⟨w.heap.size, 0, none⟩ v0).setCell ⟨w.heap.size, 1, none⟩ v1).setCell ⟨w.heap.size, 2, none⟩ v2).setCell ⟨w.heap.size, 3, none⟩ v3).setCell ⟨w.heap.size, 4, none⟩ v4).setCell ⟨w.heap.size + 1, 0, none⟩ e0).setCell ⟨w.heap.size + 1, 1, none⟩ e1).heap[c]? = V.heap[c]? := by
  obtain ⟨hB, hG, hS⟩ := set5 h.typ v0 v1 v2 v3 v4
  have hn2 : w.heap.size + 1 < V.heap.size := (Array.getElem?_eq_some_iff.1 h.flt).1
  have hF := (hG.block (w.heap.size + 1) hn2 (by intro e; have := Option.some.inj e; omega)).trans h.flt
  have hL := Below.grown h.low hG h.low.size (fun k hk => by have := Option.some.inj hk; omega)
  generalize (((((V.setCell ⟨w.heap.size, 0, none⟩ v0).setCell ⟨w.heap.size, 1, none⟩ v1).setCell ⟨w.heap.size, 2, none⟩ v2).setCell ⟨w.heap.size, 3, none⟩ v3).setCell ⟨w.heap.size, 4, none⟩ v4) = V1 at *
  obtain ⟨a0, g0, -⟩ := set1 hF 0 e0
  obtain ⟨a1, g1, -⟩ := set1 a0 1 e1
  have g01 := grown_trans g0 g1
  have hB' : Box ((V1.setCell ⟨w.heap.size + 1, 0, none⟩ e0).setCell ⟨w.heap.size + 1, 1, none⟩ e1) w.heap.size v0 v1 v2 v3 v4 := hB.kept (g01.block _ hB.lt (by intro e; have := Option.some.inj e; omega))
  have hL' := Below.grown hL g01 hL.size (fun k hk => by have := Option.some.inj hk; omega)
  generalize (V1.setCell ⟨w.heap.size + 1, 0, none⟩ e0).setCell ⟨w.heap.size + 1, 1, none⟩ e1 = V2 at *
  refine ⟨hB', ?_, ?_, hL', fun c hc hlt => ?_⟩
  · simp [World.cell?, a1]
  · simp [World.cell?, a1]
  · rw [g01.block c (Nat.lt_of_lt_of_le hlt hG.size) (by intro e; have := Option.some.inj e; omega), hG.block c hlt (by intro e; have := Option.some.inj e; omega)]
end Go.Proofs.YthphnacfidofbaaGreatDoor
