import Derived.Test.YtljgpgmaceackaaQX03
import Derived.Test.YtljgpgmaceackaaQX04
import Derived.Test.YtljgpgmaceackaaQX02
import Derived.StillTailTactics
import Derived.Deep.CutBlock
import Derived.BigQuiet
import Derived.Deep.QuietTactic
import Derived.Test.YtljgpgmaceackaaQX01
/- The reference's reader, whatever its state: its memory. -/
namespace Go.Proofs.Ytljgpgmaceackaa
open Go.RowKit Go.Maps Mth

theorem below_grown_some {w w' : World} (h : Below w.heap.size w w') (b : Nat) : w.grownBy w' (some b) := grown_of_below h _
theorem grown_fresh {a b c : World} {r row : Option Nat} (h : a.grownBy b r) (k : b.grownBy c row) (hr : ∀ i, row = some i → a.heap.size ≤ i) : a.grownBy c r :=
  ⟨k.os.trans h.os, k.tape.trans h.tape, k.output.trans h.output, Nat.le_trans h.size k.size, fun i hi hne => (k.block i (Nat.lt_of_lt_of_le hi h.size) (fun e => by have := hr i e.symm; omega)).trans (h.block i hi hne)⟩

/-- A state of the reader: its place, whether it has failed, and at which offset. -/
structure St where
  i : Nat
  bad : Bool
  p : Int
/-- All texts are short, and there are not too many. -/
def TkOk (ts : List Tok) : Prop := ts.length ≤ 100000 ∧ ∀ t ∈ ts, t.text.length ≤ 4000 ∧ t.pos ≤ 1000000000
/-- The tokens of a slice whose cells lie in a block of S. -/
def TokAt (w : World) (S : Nat → Prop) (lv : Value) (ts : List Tok) : Prop :=
  ∃ a cap, lv = .slice a ts.length cap ∧ (ts.length ≤ cap ∧ cap ≤ maxLen) ∧ ∀ (j : Nat) (t : Tok), ts[j]? = some t → ∃ g, a = some ⟨g, 0, none⟩ ∧ S g ∧
    w.cell? ⟨g, j * 3, none⟩ = some (.int .i64 t.kind) ∧ w.cell? ⟨g, j * 3 + 1, none⟩ = some (.string ⟨t.text.toArray⟩) ∧ w.cell? ⟨g, j * 3 + 2, none⟩ = some (.int .i64 t.pos)
theorem TokAt.kept {w w' : World} {S S' : Nat → Prop} {lv : Value} {ts : List Tok} (hS : ∀ g, S g → S' g) (hw : ∀ g, S g → g < w.heap.size → w'.heap[g]? = w.heap[g]?) (h : TokAt w S lv ts) : TokAt w' S' lv ts := by
  obtain ⟨a, cap, hv, hcap, hc⟩ := h
  refine ⟨a, cap, hv, hcap, fun j t ht => ?_⟩
  obtain ⟨g, ha, hg, h1, h2, h3⟩ := hc j t ht
  have e := hw g hg (World.block_lt_of_cell? _ _ h1)
  have k : ∀ o v, w.cell? ⟨g, o, none⟩ = some v → w'.cell? ⟨g, o, none⟩ = some v := fun o v h => by rw [World.cell?_of_block (a := ⟨g, o, none⟩) e]; exact h
  exact ⟨g, ha, hS g hg, k _ _ h1, k _ _ h2, k _ _ h3⟩
theorem TokAt.lift {w w' : World} {S : Nat → Prop} {lv : Value} {ts : List Tok} (h : TokAt w S lv ts) (hb : Below w.heap.size w w') : TokAt w' S lv ts := h.kept (fun _ h => h) fun g _ hl => hb.block g hl
theorem TokAt.grown {w w' : World} {S : Nat → Prop} {lv : Value} {ts : List Tok} {b : Nat} (h : TokAt w S lv ts) (hS : ∀ g, S g → g ≠ b) (hg : w.grownBy w' (some b)) : TokAt w' S lv ts :=
  h.kept (fun _ h => h) fun g hs hl => hg.block g hl (fun e => hS g hs (Option.some.inj e))

def RdB (w : World) (b : Nat) (lv : Value) (s : St) : Prop := w.heap[b]? = some (.cells #[lv, .int .i64 s.i, .bool s.bad, .int .i64 s.p] 95 (0, 0))
theorem RdB.lt {w : World} {b : Nat} {lv : Value} {s : St} (h : RdB w b lv s) : b < w.heap.size := (Array.getElem?_eq_some_iff.1 h).1
theorem RdB.cells {w : World} {b : Nat} {lv : Value} {i : Nat} {q : Bool} {p : Int} (h : RdB w b lv ⟨i, q, p⟩) : w.cell? ⟨b, 0, none⟩ = some lv ∧ w.cell? ⟨b, 1, none⟩ = some (.int .i64 i) ∧ w.cell? ⟨b, 2, none⟩ = some (.bool q) ∧ w.cell? ⟨b, 3, none⟩ = some (.int .i64 p) ∧ w.frozen? ⟨b, 1, none⟩ = false ∧ w.frozen? ⟨b, 2, none⟩ = false ∧ w.frozen? ⟨b, 3, none⟩ = false := by
  unfold RdB at h
  simp [World.cell?, World.frozen?, h]
/-- The reader in its block, in a state. -/
def RdX (w : World) (b : Nat) (ts : List Tok) (s : St) : Prop := ∃ lv, RdB w b lv s ∧ TokAt w (fun g => g < b) lv ts ∧ s.i ≤ ts.length ∧ (s.bad = false → s.p = 0) ∧ TkOk ts
theorem RdX.lift {w w' : World} {b : Nat} {ts : List Tok} {s : St} (h : RdX w b ts s) (hb : Below w.heap.size w w') : RdX w' b ts s := by
  obtain ⟨lv, h1, h2, h3⟩ := h
  refine ⟨lv, ?_, h2.lift hb, h3⟩
  unfold RdB at *
  rw [hb.block _ (Array.getElem?_eq_some_iff.1 h1).1, h1]
theorem RdX.other {w w' : World} {b R : Nat} {ts : List Tok} {s : St} (h : RdX w b ts s) (hR : b < R) (hg : w.grownBy w' (some R)) : RdX w' b ts s := by
  obtain ⟨lv, h1, h2, h3⟩ := h
  refine ⟨lv, ?_, h2.grown (fun g hg => by omega) hg, h3⟩
  unfold RdB at *
  rw [hg.block b (Array.getElem?_eq_some_iff.1 h1).1 (by intro e; have := Option.some.inj e; omega), h1]
theorem RdX.lt {w : World} {b : Nat} {ts : List Tok} {s : St} (h : RdX w b ts s) : b < w.heap.size := by
  obtain ⟨lv, h1, _⟩ := h
  exact h1.lt
theorem RdX.le {w : World} {b : Nat} {ts : List Tok} {s : St} (h : RdX w b ts s) : s.i ≤ ts.length ∧ ts.length ≤ 100000 := by
  obtain ⟨lv, _, _, h3, _, h4⟩ := h
  exact ⟨h3, h4.1⟩

/-- Is the next token of this kind? -/
def rKind (ts : List Tok) (i : Nat) (k : Int) : Bool := match ts[i]? with | some t => t.kind == k | none => false
/-- Is the next token a mark or a keyword with this text? -/
def rIs (ts : List Tok) (i : Nat) (s : ByteArray) : Bool := match ts[i]? with | some t => (t.kind == 5 || t.kind == 4) && (⟨t.text.toArray⟩ : ByteArray).toList == s.toList | none => false
def txt (ts : List Tok) (i : Nat) : ByteArray := match ts[i]? with | some t => ⟨t.text.toArray⟩ | none => ⟨#[]⟩
/-- The offset of the token at an index, or of the end. -/
def posAt (ts : List Tok) (i : Nat) : Int := match ts[i]? with
  | some t => t.pos
  | none => match ts[ts.length - 1]? with
    | some t => (t.pos : Int) + t.text.length
    | none => 0
def xK (ts : List Tok) (s : St) (k : Int) : Bool := !s.bad && rKind ts s.i k
def xI (ts : List Tok) (s : St) (t : ByteArray) : Bool := !s.bad && rIs ts s.i t
def xStep (s : St) : St := ⟨s.i + 1, s.bad, s.p⟩
def xFail (ts : List Tok) (s : St) : St := if s.bad then s else ⟨s.i, true, posAt ts s.i⟩
def xSkip (ts : List Tok) (s : St) (t : ByteArray) : St := if xI ts s t then xStep s else s
def xNeed (ts : List Tok) (s : St) (t : ByteArray) : St := if xI ts s t then xStep s else xFail ts s
theorem rKind_lt {ts : List Tok} {i : Nat} {k : Int} (h : rKind ts i k = true) : i < ts.length := by
  unfold rKind at h
  cases ht : ts[i]? with
  | none => rw [ht] at h; simp at h
  | some t => exact (List.getElem?_eq_some_iff.1 ht).1
theorem rIs_lt {ts : List Tok} {i : Nat} {s : ByteArray} (h : rIs ts i s = true) : i < ts.length := by
  unfold rIs at h
  cases ht : ts[i]? with
  | none => rw [ht] at h; simp at h
  | some t => exact (List.getElem?_eq_some_iff.1 ht).1
theorem txt_some {ts : List Tok} {i : Nat} {t : Tok} (h : ts[i]? = some t) : txt ts i = ⟨t.text.toArray⟩ := by unfold txt; rw [h]
theorem txt_size {ts : List Tok} (h : TkOk ts) (i : Nat) : (txt ts i).size ≤ maxLen := by
  unfold txt
  cases ht : ts[i]? with
  | none => exact Nat.zero_le _
  | some t =>
    have := (h.2 t (List.mem_of_getElem? ht)).1
    show (⟨t.text.toArray⟩ : ByteArray).size ≤ maxLen
    have e : (⟨t.text.toArray⟩ : ByteArray).size = t.text.length := by rw [← bl_len, bl_mk]
    rw [e]
    unfold maxLen
    omega
end Go.Proofs.Ytljgpgmaceackaa

/- The reference's reader, whatever its state: what each small method does. -/
namespace Go.Proofs.Ytljgpgmaceackaa
open Go.RowKit Go.Maps Mth

set_option maxHeartbeats 1600000 in
theorem rdKind_any (k : Int) (b : Nat) (ts : List Tok) (s : St) (w : World) (h : RdX w b ts s) : Calls Try.prog 72 #[.pointer (some ⟨b, 0, none⟩), .int .i64 k] w fun e w' => e = .returned (.bool (xK ts s k)) ∧ Below w.heap.size w w' := by
  obtain ⟨i, q, p⟩ := s
  obtain ⟨lv, hr, ⟨a, cap, rfl, hcap, hc⟩, hi, hp, hl⟩ := h
  obtain ⟨c0, c1, c2, c3, f1, f2, f3⟩ := hr.cells
  have hl1 := hl.1
  have HC := Lib.hid hc
  clear hc hr hp hl
  dsimp only at hi
  cases q
  · by_cases hlt : i < ts.length
    · obtain ⟨t, ht⟩ : ∃ x, ts[i]? = some x := ⟨_, List.getElem?_eq_getElem hlt⟩
      obtain ⟨g, rfl, hg, d0, d1, d2⟩ := HC.out i t ht
      have HE : Hid (xK ts ⟨i, false, p⟩ k = (t.kind == k)) := by show _ = _; unfold xK rKind; simp only; rw [ht]; rfl
      clear ht
      have hli : ((i : Int) < (ts.length : Int)) := by omega
      go_enter Try.func72, Try.ntmps72
      go_wp2
      go_quiet (fail)
      go_wp2
      go_ret
      exact ⟨ret_bool HE.out.symm, below_drewN (Below.refl _ w) nq⟩
    · have HE : Hid (xK ts ⟨i, false, p⟩ k = false) := by show _ = _; unfold xK rKind; simp only; rw [List.getElem?_eq_none (by omega)]; rfl
      have hli : decide ((i : Int) < (ts.length : Int)) = false := by simpa using hlt
      go_enter Try.func72, Try.ntmps72
      go_wp2
      go_quiet (fail)
      go_wp2
      go_ret
      exact ⟨ret_bool HE.out.symm, below_drewN (Below.refl _ w) nq⟩
  · go_enter Try.func72, Try.ntmps72
    go_wp2
    go_quiet (fail)
    go_wp2
    go_ret
    exact ⟨rfl, below_drewN (Below.refl _ w) nq⟩

set_option maxHeartbeats 3200000 in
theorem rdIs_any (s : ByteArray) (b : Nat) (ts : List Tok) (st : St) (w : World) (h : RdX w b ts st) : Calls Try.prog 52 #[.pointer (some ⟨b, 0, none⟩), .string s] w fun e w' => e = .returned (.bool (xI ts st s)) ∧ Below w.heap.size w w' := by
  obtain ⟨i, q, p⟩ := st
  obtain ⟨lv, hr, ⟨a, cap, rfl, hcap, hc⟩, hi, hp, hl⟩ := h
  obtain ⟨c0, c1, c2, c3, f1, f2, f3⟩ := hr.cells
  have hl1 := hl.1
  have HC := Lib.hid hc
  clear hc hr hp hl
  dsimp only at hi
  cases q
  · by_cases hlt : i < ts.length
    · obtain ⟨t, ht⟩ : ∃ x, ts[i]? = some x := ⟨_, List.getElem?_eq_getElem hlt⟩
      obtain ⟨g, rfl, hg, d0, d1, d2⟩ := HC.out i t ht
      have HE : Hid (xI ts ⟨i, false, p⟩ s = ((t.kind == 5 || t.kind == 4) && (⟨t.text.toArray⟩ : ByteArray).toList == s.toList)) := by show _ = _; unfold xI rIs; simp only; rw [ht]; rfl
      clear ht
      have hli : ((i : Int) < (ts.length : Int)) := by omega
      generalize (⟨t.text.toArray⟩ : ByteArray) = tx at *
      generalize t.kind = tk at *
      cases h5 : (tk == 5)
      · cases h4 : (tk == 4)
        · go_enter Try.func52, Try.ntmps52
          go_wp2
          go_quiet (fail)
          go_wp2
          go_ret
          exact ⟨ret_bool (by rw [HE.out, h5, h4]; rfl), below_drewN (Below.refl _ w) nq⟩
        · cases ht : (tx.toList == s.toList)
          all_goals
            go_enter Try.func52, Try.ntmps52
            go_wp2
            go_quiet (fail)
            go_wp2
            go_ret
            exact ⟨ret_bool (by rw [HE.out, h5, h4, ht]; rfl), below_drewN (Below.refl _ w) nq⟩
      · cases ht : (tx.toList == s.toList)
        all_goals
          go_enter Try.func52, Try.ntmps52
          go_wp2
          go_quiet (fail)
          go_wp2
          go_ret
          exact ⟨ret_bool (by rw [HE.out, h5, ht]; rfl), below_drewN (Below.refl _ w) nq⟩
    · have HE : Hid (xI ts ⟨i, false, p⟩ s = false) := by show _ = _; unfold xI rIs; simp only; rw [List.getElem?_eq_none (by omega)]; rfl
      have hli : decide ((i : Int) < (ts.length : Int)) = false := by simpa using hlt
      go_enter Try.func52, Try.ntmps52
      go_wp2
      go_quiet (fail)
      go_wp2
      go_ret
      exact ⟨ret_bool HE.out.symm, below_drewN (Below.refl _ w) nq⟩
  · go_enter Try.func52, Try.ntmps52
    go_wp2
    go_quiet (fail)
    go_wp2
    go_ret
    exact ⟨rfl, below_drewN (Below.refl _ w) nq⟩
end Go.Proofs.Ytljgpgmaceackaa

/- The contracts of the maker's small functions: Mod, Few, Next, SmallType, ValidType. -/
namespace Go.Proofs.Ytljgpgmaceackaa.S3
open Go.RowKit Go.Maps Mth

theorem mod_any (a n : Int) (w : World) (h1 : 1 ≤ n) (h2 : n ≤ 1000001) :
    Calls Try.prog 6 #[.int .i64 a, .int .i64 n] w fun e w' => e = .returned (.int .i64 (a % n)) ∧ w = w' := by
  have e1 := Int.emod_nonneg a (b := n) (by omega)
  have e2 := Int.emod_lt_of_pos a (b := n) (by omega)
  have HT : Hid ((a.tmod n = a % n) ∨ (a.tmod n = a % n - n ∧ a % n ≠ 0)) := by
    show _ ∨ _
    rw [Int.tmod_eq_emod]
    by_cases hc : 0 ≤ a ∨ n ∣ a
    · left; simp only [hc, if_true]; omega
    · right
      simp only [hc, if_false]
      refine ⟨by omega, fun h => hc (.inr (Int.dvd_of_emod_eq_zero h))⟩
  have hb : -n < a.tmod n ∧ a.tmod n < n := by rcases HT.out with h | ⟨h, h'⟩ <;> omega
  have HE : Hid (a % n = if a.tmod n < 0 then a.tmod n + n else a.tmod n) := by
    show a % n = _
    rcases HT.out with h | ⟨h, h'⟩
    · rw [if_neg (by omega)]; omega
    · rw [if_pos (by omega)]; omega
  clear HT e1 e2
  obtain ⟨hb1, hb2⟩ := hb
  go_enter Try.func6, Try.ntmps6
  go_wp2
  all_goals
    go_ret
    refine ⟨ret_int ?_, rfl⟩
    rw [HE.out]
  · rw [if_pos (by assumption)]
  · rw [if_neg (by omega)]

/-- The block is a tape with these choices, at this place. -/
def TapeAt (w : World) (t : Nat) (lv : Value) (i : Nat) : Prop := w.heap[t]? = some (.cells #[lv, .int .i64 i] 29 (0, 0))
theorem TapeAt.lt {w : World} {t : Nat} {lv : Value} {i : Nat} (h : TapeAt w t lv i) : t < w.heap.size := (Array.getElem?_eq_some_iff.1 h).1
theorem TapeAt.lift {w w' : World} {t : Nat} {lv : Value} {i : Nat} (h : TapeAt w t lv i) (hb : Below w.heap.size w w') : TapeAt w' t lv i := by unfold TapeAt at *; rw [hb.block _ (Array.getElem?_eq_some_iff.1 h).1, h]
theorem TapeAt.cells {w : World} {t : Nat} {lv : Value} {i : Nat} (h : TapeAt w t lv i) : w.cell? ⟨t, 0, none⟩ = some lv ∧ w.cell? ⟨t, 1, none⟩ = some (.int .i64 i) ∧ w.frozen? ⟨t, 1, none⟩ = false := by
  unfold TapeAt at h
  simp [World.cell?, World.frozen?, h]
theorem few_any (v : Value) (zs : List Int) (w : World) (h : Ints w v zs) : Calls Try.prog 5 #[v] w fun e w' => e = .returned (.bool (decide (zs.length ≤ 60))) ∧ w = w' := by
  obtain ⟨a, cap, rfl, -⟩ := h
  go_enter Try.func5, Try.ntmps5
  go_wp2
  go_ret
  exact ⟨ret_bool (by rw [Bool.eq_iff_iff]; simp <;> omega), rfl⟩

theorem below_grown_some {w w' : World} (h : Below w.heap.size w w') (b : Nat) : w.grownBy w' (some b) := grown_of_below h _
end Go.Proofs.Ytljgpgmaceackaa.S3

/- The reference's reader, whatever its state: Fail and what calls it. -/
namespace Go.Proofs.Ytljgpgmaceackaa
open Go.RowKit Go.Maps Mth

/-- What a method has done that leaves the reader in a state. -/
def XEnd (w : World) (b : Nat) (ts : List Tok) (s : St) (v : Value) (e : Ending) (w' : World) : Prop := e = .returned v ∧ RdX w' b ts s ∧ w.grownBy w' (some b)

/-- The reader's block after stores into it. -/
theorem RdX.stored {w w' : World} {b : Nat} {ts : List Tok} {s' : St} {lv : Value} (hT : TokAt w (fun g => g < b) lv ts) (hok : TkOk ts) (hi : s'.i ≤ ts.length) (hp : s'.bad = false → s'.p = 0) (hB : RdB w' b lv s') (hg : w.grownBy w' (some b)) : RdX w' b ts s' :=
  ⟨lv, hB, hT.grown (fun g hg => by omega) hg, hi, hp, hok⟩

theorem RdB.lift {w w' : World} {b : Nat} {lv : Value} {s : St} (h : RdB w b lv s) (hb : Below w.heap.size w w') : RdB w' b lv s := by
  unfold RdB at *
  rw [hb.block _ (Array.getElem?_eq_some_iff.1 h).1, h]
/-- The reader's block while it fails. -/
structure FX (w : World) (b : Nat) (a : Option Addr) (cap : Nat) (ts : List Tok) (s : St) (v : World) : Prop where
  blk : RdB v b (.slice a ts.length cap) s
  tok : TokAt v (fun g => g < b) (.slice a ts.length cap) ts
  grown : w.grownBy v (some b)
theorem FX.lift {w v v' : World} {b : Nat} {a : Option Addr} {cap : Nat} {ts : List Tok} {s : St} (h : FX w b a cap ts s v) (hb : Below v.heap.size v v') : FX w b a cap ts s v' :=
  ⟨h.blk.lift hb, h.tok.lift hb, grown_trans h.grown (below_grown_some hb b)⟩
theorem FX.three {w v : World} {b g : Nat} {cap : Nat} {ts : List Tok} {i : Nat} {q : Bool} {p : Int} {t : Tok} {j : Nat} (h : FX w b (some ⟨g, 0, none⟩) cap ts ⟨i, q, p⟩ v) (ht : ts[j]? = some t) :
    ∀ v', Below v.heap.size v v' → v'.cell? ⟨b, 0, none⟩ = some (.slice (some ⟨g, 0, none⟩) ts.length cap) ∧ v'.cell? ⟨b, 1, none⟩ = some (.int .i64 i) ∧ v'.cell? ⟨g, j * 3, none⟩ = some (.int .i64 t.kind) ∧ v'.cell? ⟨g, j * 3 + 1, none⟩ = some (.string ⟨t.text.toArray⟩) ∧ v'.cell? ⟨g, j * 3 + 2, none⟩ = some (.int .i64 t.pos) := by
  intro v' hb
  have h' := h.lift hb
  obtain ⟨c0, c1, _⟩ := h'.blk.cells
  obtain ⟨a, c, hv, -, hc⟩ := h'.tok
  obtain ⟨g', ha, -, d0, d1, d2⟩ := hc j t ht
  simp at hv
  obtain ⟨rfl, rfl⟩ := hv
  simp at ha
  subst ha
  exact ⟨c0, c1, d0, d1, d2⟩
theorem FX.set {w v : World} {b : Nat} {a : Option Addr} {cap : Nat} {ts : List Tok} {i : Nat} {p : Int} (h : FX w b a cap ts ⟨i, true, p⟩ v) (p' : Int) : FX w b a cap ts ⟨i, true, p'⟩ (v.setCell ⟨b, 3, none⟩ (.int .i64 p')) := by
  have hset := set1 h.blk 3 (.int .i64 p')
  refine ⟨?_, h.tok.grown (fun g hg => by omega) hset.2.1, grown_trans h.grown hset.2.1⟩
  unfold RdB
  rw [hset.1]
  simp
theorem FX.rdX {w v : World} {b : Nat} {a : Option Addr} {cap : Nat} {ts : List Tok} {i : Nat} {p : Int} (h : FX w b a cap ts ⟨i, true, p⟩ v) (hi : i ≤ ts.length) (hok : TkOk ts) : RdX v b ts ⟨i, true, p⟩ :=
  ⟨_, h.blk, h.tok, hi, (fun e => by cases e), hok⟩

set_option maxHeartbeats 3200000 in
theorem rdFail_any (b : Nat) (ts : List Tok) (st : St) (w : World) (h : RdX w b ts st) : Calls Try.prog 47 #[.pointer (some ⟨b, 0, none⟩)] w (XEnd w b ts (xFail ts st) (.tuple #[])) := by
  obtain ⟨i, q, p⟩ := st
  have HX := Lib.hid h
  obtain ⟨lv, hr, hT, hi, hp, hl⟩ := h
  obtain ⟨c0, c1, c2, c3, f1, f2, f3⟩ := hr.cells
  have hl1 := hl.1
  have HL := Lib.hid hl
  dsimp only at hi
  cases q
  · have hset := set1 hr 2 (.bool true)
    obtain ⟨a, cap, rfl, hcap, hc⟩ := hT
    have HF : Hid (FX w b a cap ts ⟨i, true, 0⟩ (w.setCell ⟨b, 2, none⟩ (.bool true))) := by
      refine ⟨?_, TokAt.grown ⟨a, cap, rfl, hcap, hc⟩ (fun g hg => by omega) hset.2.1, hset.2.1⟩
      unfold RdB
      rw [hset.1]
      have hp0 := hp rfl
      dsimp only at hp0
      subst hp0
      simp
    have hp0 := hp rfl
    dsimp only at hp0
    subst hp0
    clear hset hr hp hl
    by_cases hlt : i < ts.length
    · obtain ⟨t, ht⟩ : ∃ x, ts[i]? = some x := ⟨_, List.getElem?_eq_getElem hlt⟩
      have HE : Hid (xFail ts ⟨i, false, 0⟩ = ⟨i, true, t.pos⟩) := by show _ = _; unfold xFail posAt; simp only; rw [ht]; rfl
      have HTT := Lib.hid ht
      obtain ⟨g, rfl, -⟩ := hc i t ht
      clear ht hc
      have hli : ((i : Int) < (ts.length : Int)) := by omega
      go_enter Try.func47, Try.ntmps47
      go_upto_region 2 with fail
      clear c0 c1 c2 c3 f1 f2 f3
      generalize w.setCell ⟨b, 2, none⟩ (.bool true) = w1 at *
      obtain ⟨c0, c1, -, c3, -, -, f3⟩ := HF.out.blk.cells
      go_quiet (fail)
      have HF2 := Lib.hid (HF.out.lift (below_drewN (Below.refl _ w1) nq))
      clear HF c0 c1 c3 f3
      generalize w1.drewN nq = w2 at *
      have HS := Lib.hid (HF2.out.three HTT.out)
      have HF3 := Lib.hid (HF2.out.set t.pos)
      have HS' := Lib.hid (HF3.out.three HTT.out)
      obtain ⟨c0, c1, -, c3, -, -, f3⟩ := HF2.out.blk.cells
      go_wp2_with fail
      go_region_held3 (fun v => v.cell? ⟨b, 0, none⟩ = some (.slice (some ⟨g, 0, none⟩) ts.length cap) ∧ v.cell? ⟨b, 1, none⟩ = some (.int .i64 i) ∧ v.cell? ⟨g, i * 3 + 2, none⟩ = some (.int .i64 t.pos))
        (first
          | exact ⟨(HS.out _ (Below.refl _ _).drew).1, (HS.out _ (Below.refl _ _).drew).2.1, (HS.out _ (Below.refl _ _).drew).2.2.2.2⟩
          | exact ⟨(HS'.out _ (Below.refl _ _).drew).1, (HS'.out _ (Below.refl _ _).drew).2.1, (HS'.out _ (Below.refl _ _).drew).2.2.2.2⟩)
        (fail)
      all_goals
        go_wp2
        go_end0
        have HF4 := Lib.hid (HF3.out.lift (Below.refl _ _).drew)
        exact ⟨rfl, by rw [HE.out]; exact HF4.out.rdX hi HL.out, HF4.out.grown⟩
    · have hie : i = ts.length := by omega
      have hli : decide ((i : Int) < (ts.length : Int)) = false := by simpa using hlt
      cases hlast : ts[ts.length - 1]? with
      | none =>
        have h0 : ts.length = 0 := by rw [List.getElem?_eq_none_iff] at hlast; omega
        have HE : Hid (xFail ts ⟨i, false, 0⟩ = ⟨i, true, 0⟩) := by show _ = _; unfold xFail posAt; simp only; rw [List.getElem?_eq_none (by omega), hlast]; rfl
        have h00 : decide (0 < (ts.length : Int)) = false := by rw [h0]; rfl
        have h01 : decide (0 < ts.length) = false := by rw [h0]; rfl
        clear hlast hc
        go_enter Try.func47, Try.ntmps47
        go_upto_region 2 with fail
        clear c0 c1 c2 c3 f1 f2 f3
        generalize w.setCell ⟨b, 2, none⟩ (.bool true) = w1 at *
        obtain ⟨c0, c1, -, c3, -, -, f3⟩ := HF.out.blk.cells
        go_quiet (fail)
        have HF2 := Lib.hid (HF.out.lift (below_drewN (Below.refl _ w1) nq))
        clear HF c0 c1 c3 f3
        generalize w1.drewN nq = w2 at *
        obtain ⟨c0, c1, -, c3, -, -, f3⟩ := HF2.out.blk.cells
        go_wp2
        go_end0
        exact ⟨rfl, by rw [HE.out]; exact HF2.out.rdX hi HL.out, HF2.out.grown⟩
      | some t =>
        have h0 : 0 < ts.length := by have := (List.getElem?_eq_some_iff.1 hlast).1; omega
        have HE : Hid (xFail ts ⟨i, false, 0⟩ = ⟨i, true, (t.pos : Int) + t.text.length⟩) := by show _ = _; unfold xFail posAt; simp only; rw [List.getElem?_eq_none (by omega), hlast]; rfl
        have HTT := Lib.hid hlast
        obtain ⟨g, rfl, -⟩ := hc _ t hlast
        have htk := HL.out.2 t (List.mem_of_getElem? hlast)
        obtain ⟨tl, tp⟩ := htk
        have hsz : (⟨t.text.toArray⟩ : ByteArray).size = t.text.length := by rw [← bl_len, bl_mk]
        have HSz := Lib.hid hsz
        obtain ⟨m, hm⟩ : ∃ m, ts.length = m + 1 := ⟨ts.length - 1, by omega⟩
        have HM : Hid (ts.length = m + 1) := hm
        have HTm : Hid (ts[m]? = some t) := by show _ = _; rw [← hlast, hm]; rfl
        have hm1 : m < ts.length := by omega
        have hm2 : (m : Int) < (ts.length : Int) := by omega
        have hm0 : (0 : Int) ≤ (m : Int) := by omega
        have HWr : Hid (IntKind.i64.wrap ((ts.length : Int) - 1) = (m : Int)) := by show _ = _; rw [IntKind.wrap_i64]; omega
        clear hlast hc hsz hm
        go_enter Try.func47, Try.ntmps47
        go_upto_region 2 with fail
        clear c0 c1 c2 c3 f1 f2 f3
        generalize w.setCell ⟨b, 2, none⟩ (.bool true) = w1 at *
        obtain ⟨c0, c1, -, c3, -, -, f3⟩ := HF.out.blk.cells
        go_quiet (fail)
        have HF2 := Lib.hid (HF.out.lift (below_drewN (Below.refl _ w1) nq))
        clear HF c0 c1 c3 f3
        generalize w1.drewN nq = w2 at *
        have HS : Hid (∀ v', Below w2.heap.size w2 v' → v'.cell? ⟨b, 0, none⟩ = some (.slice (some ⟨g, 0, none⟩) ts.length cap) ∧ v'.cell? ⟨g, m * 3, none⟩ = some (.int .i64 t.kind) ∧ v'.cell? ⟨g, m * 3 + 1, none⟩ = some (.string ⟨t.text.toArray⟩) ∧ v'.cell? ⟨g, m * 3 + 2, none⟩ = some (.int .i64 t.pos)) := fun v' hb => by
          obtain ⟨a0, -, a1⟩ := HF2.out.three HTm.out v' hb
          exact ⟨a0, a1⟩
        obtain ⟨c0, c1, -, c3, -, -, f3⟩ := HF2.out.blk.cells
        generalize (⟨t.text.toArray⟩ : ByteArray) = tx at *
        go_wp2_with fail
        have hwr := HWr.out
        go_region_held3 (fun v => v.cell? ⟨b, 0, none⟩ = some (.slice (some ⟨g, 0, none⟩) ts.length cap) ∧ v.cell? ⟨g, m * 3, none⟩ = some (.int .i64 t.kind) ∧ v.cell? ⟨g, m * 3 + 1, none⟩ = some (.string tx) ∧ v.cell? ⟨g, m * 3 + 2, none⟩ = some (.int .i64 t.pos))
          (first
            | exact HS.out _ (Below.refl _ _).drew
            | exact HS.out _ ((Below.refl _ _).alloc (Nat.le_refl _) _).drew
            | exact HS.out _ ((Below.refl _ _).alloc (Nat.le_refl _) _))
          (fail)
        clear hwr c0 c1 c3 f3
        have hal : Below w2.heap.size w2 (w2.alloc (.cells #[.int .i64 t.kind, .string tx, .int .i64 t.pos] 113)).drew := ((Below.refl _ w2).alloc (Nat.le_refl _) _).drew
        have HF4 := Lib.hid (HF2.out.lift hal)
        have HF5 := Lib.hid (HF4.out.set ((t.pos : Int) + t.text.length))
        have n1 : (w2.alloc (.cells #[.int .i64 t.kind, .string tx, .int .i64 t.pos] 113)).drew.cell? ⟨w2.heap.size, 1, none⟩ = some (.string tx) := World.cell?_alloc_at _ _ _ _ rfl
        have n2 : (w2.alloc (.cells #[.int .i64 t.kind, .string tx, .int .i64 t.pos] 113)).drew.cell? ⟨w2.heap.size, 2, none⟩ = some (.int .i64 t.pos) := World.cell?_alloc_at _ _ _ _ rfl
        obtain ⟨c0, c1, -, c3, -, -, f3⟩ := HF4.out.blk.cells
        clear HF2 HS hal
        generalize (w2.alloc (.cells #[.int .i64 t.kind, .string tx, .int .i64 t.pos] 113)).drew = w4 at *
        generalize w2.heap.size = n at *
        have HW2 : Hid (IntKind.i64.wrap ((t.pos : Int) + (tx.size : Int)) = (t.pos : Int) + t.text.length) := by show _ = _; rw [HSz.out, IntKind.wrap_i64]; omega
        have hw2 := HW2.out
        have htx : tx.size ≤ 4000 := by rw [HSz.out]; exact tl
        go_wp2
        rw [HSz.out]
        go_end0
        exact ⟨rfl, by rw [HE.out]; exact HF5.out.rdX hi HL.out, HF5.out.grown⟩
  · go_enter Try.func47, Try.ntmps47
    go_wp2
    go_end0
    exact ⟨rfl, HX.out, below_grown_some (Below.refl _ w) b⟩
end Go.Proofs.Ytljgpgmaceackaa

/- The reference's reader, whatever its state: Skip, Need, Word, Atoms. -/
namespace Go.Proofs.Ytljgpgmaceackaa
open Go.RowKit Go.Maps Mth

theorem xI_good {ts : List Tok} {s : St} {t : ByteArray} (h : xI ts s t = true) : s.bad = false ∧ s.i < ts.length ∧ rIs ts s.i t = true := by
  unfold xI at h
  simp at h
  exact ⟨h.1, rIs_lt h.2, h.2⟩
theorem xK_good {ts : List Tok} {s : St} {k : Int} (h : xK ts s k = true) : s.bad = false ∧ s.i < ts.length ∧ rKind ts s.i k = true := by
  unfold xK at h
  simp at h
  exact ⟨h.1, rKind_lt h.2, h.2⟩
/-- The reader after one step. -/
theorem RdX.step {w : World} {b : Nat} {ts : List Tok} {s : St} (h : RdX w b ts s) (hi : s.i < ts.length) :
    RdX (w.setCell ⟨b, 1, none⟩ (.int .i64 ((s.i : Int) + 1))) b ts (xStep s) ∧ w.grownBy (w.setCell ⟨b, 1, none⟩ (.int .i64 ((s.i : Int) + 1))) (some b) := by
  obtain ⟨lv, hr, ht, _, hp, hl⟩ := h
  have hset := set1 hr 1 (.int .i64 ((s.i : Int) + 1))
  refine ⟨⟨lv, ?_, ht.grown (fun g hg => by omega) hset.2.1, hi, hp, hl⟩, hset.2.1⟩
  unfold RdB
  rw [hset.1]
  simp [xStep]
set_option maxHeartbeats 1600000 in
theorem rdSkip_any (s : ByteArray) (b : Nat) (ts : List Tok) (st : St) (w : World) (h : RdX w b ts st) : Calls Try.prog 63 #[.pointer (some ⟨b, 0, none⟩), .string s] w (XEnd w b ts (xSkip ts st s) (.bool (xI ts st s))) := by
  cases hs : xI ts st s with
  | true =>
    obtain ⟨hq, hlt, -⟩ := xI_good hs
    have HE : Hid (xSkip ts st s = xStep st) := by show _ = _; unfold xSkip; rw [hs]; rfl
    have HI : Hid (∀ w, RdX w b ts st → Calls Try.prog 52 #[.pointer (some ⟨b, 0, none⟩), .string s] w fun e w' => e = .returned (.bool true) ∧ Below w.heap.size w w') := fun w h => by have := rdIs_any s b ts st w h; rwa [hs] at this
    have HR := Lib.hid h
    have hle := h.le.2
    clear h hs
    obtain ⟨i, q, p⟩ := st
    dsimp only at hq hlt
    subst hq
    go_enter Try.func63, Try.ntmps63
    go_wp2_with fail
    go_at_call 52
    refine (HI.out _ HR.out).mono ?_
    rintro e w1 ⟨rfl, hb1⟩
    have HR1 := Lib.hid (HR.out.lift hb1)
    obtain ⟨lv, hr, -⟩ := HR1.out
    obtain ⟨c0, c1, c2, c3, f1, f2, f3⟩ := hr.cells
    clear hr
    go_wp2
    go_ret
    have hst := HR1.out.step hlt
    exact ⟨rfl, by rw [HE.out]; exact hst.1, grown_trans (below_grown_some hb1 b) hst.2⟩
  | false =>
    have HE : Hid (xSkip ts st s = st) := by show _ = _; unfold xSkip; rw [hs]; rfl
    have HI : Hid (∀ w, RdX w b ts st → Calls Try.prog 52 #[.pointer (some ⟨b, 0, none⟩), .string s] w fun e w' => e = .returned (.bool false) ∧ Below w.heap.size w w') := fun w h => by have := rdIs_any s b ts st w h; rwa [hs] at this
    have HR := Lib.hid h
    clear h hs
    go_enter Try.func63, Try.ntmps63
    go_wp2_with (go_at_call 52; refine (HI.out _ HR.out).mono ?_; rintro e w1 ⟨rfl, hb1⟩)
    go_ret
    exact ⟨rfl, by rw [HE.out]; exact HR.out.lift hb1, below_grown_some hb1 b⟩
theorem rdNeed_any (s : ByteArray) (b : Nat) (ts : List Tok) (st : St) (w : World) (h : RdX w b ts st) : Calls Try.prog 65 #[.pointer (some ⟨b, 0, none⟩), .string s] w (XEnd w b ts (xNeed ts st s) (.tuple #[])) := by
  have HS := Lib.hid (rdSkip_any s b ts st w h)
  cases hs : xI ts st s with
  | true =>
    have HE : Hid (xNeed ts st s = xSkip ts st s) := by show _ = _; unfold xNeed xSkip; rw [hs]; rfl
    rw [hs] at HS
    clear h hs
    go_enter Try.func65, Try.ntmps65
    go_wp2_with (go_at_call 63; refine HS.out.mono ?_; rintro e w1 ⟨rfl, hr1, hg1⟩; have HR1 := Lib.hid hr1; clear hr1)
    go_end0
    exact ⟨rfl, by rw [HE.out]; exact HR1.out, hg1⟩
  | false =>
    have HE : Hid (xNeed ts st s = xFail ts st) := by show _ = _; unfold xNeed; rw [hs]; rfl
    have HE2 : Hid (xSkip ts st s = st) := by show _ = _; unfold xSkip; rw [hs]; rfl
    rw [hs] at HS
    clear h hs
    go_enter Try.func65, Try.ntmps65
    go_wp2_with fail
    go_at_call 63
    refine HS.out.mono ?_
    rintro e w1 ⟨rfl, hr1, hg1⟩
    rw [HE2.out] at hr1
    have HR1 := Lib.hid hr1
    clear hr1
    go_wp2_with fail
    go_at_call 47
    refine (rdFail_any b ts st _ HR1.out).mono ?_
    rintro e w2 ⟨rfl, hr2, hg2⟩
    have HR2 := Lib.hid hr2
    clear hr2
    go_wp2
    go_end0
    exact ⟨rfl, by rw [HE.out]; exact HR2.out, grown_trans hg1 hg2⟩
set_option maxHeartbeats 1600000 in
theorem rdWord_yes (k : Int) (b : Nat) (ts : List Tok) (st : St) (w : World) (h : RdX w b ts st) (hk : xK ts st k = true) : Calls Try.prog 64 #[.pointer (some ⟨b, 0, none⟩), .int .i64 k] w (XEnd w b ts (xStep st) (.string (txt ts st.i))) := by
  obtain ⟨hq, hlt, -⟩ := xK_good hk
  have HI : Hid (∀ w, RdX w b ts st → Calls Try.prog 72 #[.pointer (some ⟨b, 0, none⟩), .int .i64 k] w fun e w' => e = .returned (.bool true) ∧ Below w.heap.size w w') := fun w h => by have := rdKind_any k b ts st w h; rwa [hk] at this
  have HR := Lib.hid h
  have hle := h.le.2
  obtain ⟨t, ht⟩ : ∃ x, ts[st.i]? = some x := ⟨_, List.getElem?_eq_getElem hlt⟩
  rw [txt_some ht]
  have HT := Lib.hid ht
  clear h hk ht
  obtain ⟨i, q, p⟩ := st
  dsimp only at hq hlt HT
  subst hq
  go_enter Try.func64, Try.ntmps64
  go_wp2_with fail
  go_at_call 72
  refine (HI.out _ HR.out).mono ?_
  rintro e w1 ⟨rfl, hb1⟩
  have HR1 := Lib.hid (HR.out.lift hb1)
  obtain ⟨lv, hr, -⟩ := HR1.out
  obtain ⟨c0, c1, c2, c3, f1, f2, f3⟩ := hr.cells
  clear hr
  go_wp2
  have HS := Lib.hid (HR1.out.step hlt)
  have hg := grown_trans (below_grown_some hb1 b) HS.out.2
  clear c0 c1 c2 c3 f1 f2 f3
  have HS1 := Lib.hid HS.out.1
  clear HS
  dsimp only at HS1 hg
  generalize (w1.setCell ⟨b, 1, none⟩ (.int .i64 ((i : Int) + 1))) = W at *
  obtain ⟨lv2, hr2, ⟨a, cap, rfl, hcap, hc⟩, -⟩ := HS1.out
  unfold xStep at hr2
  obtain ⟨c0, c1, c2, c3, f1, f2, f3⟩ := hr2.cells
  obtain ⟨g, rfl, hgb, d0, d1, d2⟩ := hc i t HT.out
  clear hr2 hc
  have hwr : IntKind.i64.wrap (i : Int) = i := by rw [IntKind.wrap_i64]; omega
  have hli : ((i : Int) < (ts.length : Int)) := by omega
  go_quiet (fail)
  go_wp2
  go_ret
  have hb2 : Below W.heap.size W (W.drewN nq) := below_drewN (Below.refl _ W) nq
  exact ⟨rfl, HS1.out.lift hb2, grown_trans hg (below_grown_some hb2 b)⟩
theorem rdAtoms_any (b : Nat) (ts : List Tok) (i : St) (w : World) (h : RdX w b ts i) : Calls Try.prog 73 #[.pointer (some ⟨b, 0, none⟩)] w fun e w' => e = .returned (.bool (xK ts i 1 || xK ts i 2 || xI ts i ⟨#[40]⟩)) ∧ Below w.heap.size w w' := by
  have HR := Lib.hid h
  have H1 : Hid (∀ w, RdX w b ts i → Calls Try.prog 72 #[.pointer (some ⟨b, 0, none⟩), .int .i64 1] w fun e w' => e = .returned (.bool (xK ts i 1)) ∧ Below w.heap.size w w') := fun w h => rdKind_any 1 b ts i w h
  have H2 : Hid (∀ w, RdX w b ts i → Calls Try.prog 72 #[.pointer (some ⟨b, 0, none⟩), .int .i64 2] w fun e w' => e = .returned (.bool (xK ts i 2)) ∧ Below w.heap.size w w') := fun w h => rdKind_any 2 b ts i w h
  have H3 : Hid (∀ w, RdX w b ts i → Calls Try.prog 52 #[.pointer (some ⟨b, 0, none⟩), .string ⟨#[40]⟩] w fun e w' => e = .returned (.bool (xI ts i ⟨#[40]⟩)) ∧ Below w.heap.size w w') := fun w h => rdIs_any ⟨#[40]⟩ b ts i w h
  clear h
  generalize xK ts i 1 = q1 at *
  generalize xK ts i 2 = q2 at *
  generalize xI ts i ⟨#[40]⟩ = q3 at *
  cases q1 with
  | true =>
    go_enter Try.func73, Try.ntmps73
    go_wp2_with (go_at_call 72; refine (H1.out _ HR.out).mono ?_; rintro e w1 ⟨rfl, hb1⟩)
    go_ret
    exact ⟨rfl, hb1⟩
  | false =>
    cases q2 with
    | true =>
      go_enter Try.func73, Try.ntmps73
      go_wp2_with fail
      go_at_call 72
      refine (H1.out _ HR.out).mono ?_
      rintro e w1 ⟨rfl, hb1⟩
      have HR1 := Lib.hid (HR.out.lift hb1)
      go_wp2_with (go_at_call 72; refine (H2.out _ HR1.out).mono ?_; rintro e w2 ⟨rfl, hb2⟩)
      go_ret
      exact ⟨rfl, hb1.trans (hb2.mono hb1.size)⟩
    | false =>
      go_enter Try.func73, Try.ntmps73
      go_wp2_with fail
      go_at_call 72
      refine (H1.out _ HR.out).mono ?_
      rintro e w1 ⟨rfl, hb1⟩
      have HR1 := Lib.hid (HR.out.lift hb1)
      go_wp2_with fail
      go_at_call 72
      refine (H2.out _ HR1.out).mono ?_
      rintro e w2 ⟨rfl, hb2⟩
      have HR2 := Lib.hid (HR1.out.lift hb2)
      go_wp2_with (go_at_call 52; refine (H3.out _ HR2.out).mono ?_; rintro e w3 ⟨rfl, hb3⟩)
      go_ret
      exact ⟨rfl, (hb1.trans (hb2.mono hb1.size)).trans (hb3.mono (Nat.le_trans hb1.size hb2.size))⟩
end Go.Proofs.Ytljgpgmaceackaa

/- The contract of the reader's Atom in any state, out of the one of its Type. -/
namespace Go.Proofs.Ytljgpgmaceackaa
open Go.RowKit Go.Maps Mth

mutual
def xAtom : Nat → List Tok → St → Option (Ty × St)
  | 0, _, _ => none
  | f + 1, ts, s =>
    if xK ts s 1 then some (.mk 5 (txt ts s.i) 0 0 [], xStep s)
    else if xK ts s 2 then some (.mk 4 (txt ts s.i) 0 0 [], xStep s)
    else if (xNeed ts s ⟨#[40]⟩).bad then some (.mk 0 ⟨#[]⟩ 0 0 [], xNeed ts s ⟨#[40]⟩)
    else
      match xType f ts (xNeed ts s ⟨#[40]⟩) with
      | some (t, s2) => some (t, xNeed ts s2 ⟨#[41]⟩)
      | none => none
def xType : Nat → List Tok → St → Option (Ty × St)
  | 0, _, _ => none
  | f + 1, ts, s =>
    if xK ts s 2 then
      match xArgs f ts (xStep s) [] with
      | some (l, s') => xArrow f ts s' (.mk 4 (txt ts s.i) 0 0 l)
      | none => none
    else
      match xAtom f ts s with
      | some (t, s') => xArrow f ts s' t
      | none => none
def xArrow : Nat → List Tok → St → Ty → Option (Ty × St)
  | 0, _, _, _ => none
  | f + 1, ts, s, a =>
    if xI ts s ⟨#[45, 62]⟩ then
      match xType f ts (xSkip ts s ⟨#[45, 62]⟩) with
      | some (t, s') => some (con arrN [a, t], s')
      | none => none
    else some (a, s)
def xArgs : Nat → List Tok → St → List Ty → Option (List Ty × St)
  | 0, _, _, _ => none
  | f + 1, ts, s, acc =>
    if xK ts s 1 || xK ts s 2 || xI ts s ⟨#[40]⟩ then
      match xAtom f ts s with
      | some (t, s') => xArgs f ts s' (acc ++ [t])
      | none => none
    else some (acc, s)
end
/-- What the contract of a reading of a type says. -/
def XAt (fid : Nat) (ts : List Tok) (s : St) (r : Option (Ty × St)) : Prop :=
  ∀ (T : Ty) (s' : St), r = some (T, s') → ∀ (b base : Nat) (w : World), b < base → base ≤ w.heap.size → RdX w b ts s →
    Calls Try.prog fid #[.pointer (some ⟨b, 0, none⟩)] w fun e w' => ∃ u, e = .returned u ∧ Rep w' (fun c => base ≤ c) T u ∧ RdX w' b ts s' ∧ w.grownBy w' (some b)

theorem Box.grown {w w' : World} {B : Nat} {c0 c1 c2 c3 c4 : Value} {row : Option Nat} (h : Box w B c0 c1 c2 c3 c4) (hg : w.grownBy w' row) (hne : some B ≠ row) : Box w' B c0 c1 c2 c3 c4 := h.kept (hg.block _ h.lt hne)

set_option maxHeartbeats 3200000 in
theorem xAtom_of (ts : List Tok) (hok : TkOk ts) (s : St) (f : Nat) (H : XAt 75 ts (xNeed ts s ⟨#[40]⟩) (xType f ts (xNeed ts s ⟨#[40]⟩))) : XAt 74 ts s (xAtom (f + 1) ts s) := by
  intro T j hr b base w hbb hbase h
  have HR := Lib.hid h
  have hblt := h.lt
  have hb0 : ∀ X, Below w.heap.size w (w.alloc (.cells X 34)) := fun X => (Below.refl _ w).alloc (Nat.le_refl _) _
  have HZ : Hid (Zero (w.alloc (.cells #[.int .i64 0, .string ⟨#[]⟩, .int .i64 0, .int .i64 0, .slice none 0 0] 34)) w.heap.size) := Box.made _ _ _ _ _ _
  have HRA := Lib.hid (fun X => h.lift (hb0 X))
  have HK1 : Hid (∀ w, RdX w b ts s → Calls Try.prog 72 #[.pointer (some ⟨b, 0, none⟩), .int .i64 1] w fun e w' => e = .returned (.bool (xK ts s 1)) ∧ Below w.heap.size w w') := fun w h => rdKind_any 1 b ts s w h
  have HK2 : Hid (∀ w, RdX w b ts s → Calls Try.prog 72 #[.pointer (some ⟨b, 0, none⟩), .int .i64 2] w fun e w' => e = .returned (.bool (xK ts s 2)) ∧ Below w.heap.size w w') := fun w h => rdKind_any 2 b ts s w h
  have HS := Lib.hid (txt_size hok s.i)
  clear h
  unfold xAtom at hr
  cases h1 : xK ts s 1 with
  | true =>
    rw [h1] at hr HK1
    simp only [if_true, Option.some.injEq, Prod.mk.injEq] at hr
    obtain ⟨rfl, rfl⟩ := hr
    have HW : Hid (∀ w, RdX w b ts s → Calls Try.prog 64 #[.pointer (some ⟨b, 0, none⟩), .int .i64 1] w (XEnd w b ts (xStep s) (.string (txt ts s.i)))) := fun w h => rdWord_yes 1 b ts s w h h1
    clear h1 HK2
    generalize txt ts s.i = tx at *
    go_enter Try.func74, Try.ntmps74
    go_wp2_with fail
    go_at_call 72
    refine (HK1.out _ (HRA.out _)).mono ?_
    rintro e w1 ⟨rfl, hb1⟩
    have HZ1 := Lib.hid (Box.lift HZ.out hb1)
    have HR1 := Lib.hid ((HRA.out _).lift hb1)
    have hg1 := (hb0 _).trans (hb1.mono (hb0 _).size)
    clear hb1
    go_wp2_with fail
    go_at_call 64
    refine (HW.out _ HR1.out).mono ?_
    rintro e w2 ⟨rfl, hr2, hg2⟩
    have HR2 := Lib.hid hr2
    have HZ2 := Lib.hid (Box.grown HZ1.out hg2 (by intro e; cases e; omega))
    clear hr2
    go_wp2_with fail
    go_at_call 91
    refine (refNamed_any _ _).mono ?_
    rintro e w3 ⟨rfl, hb3⟩
    have HR3 := Lib.hid (HR2.out.lift hb3)
    have HZ3 := Lib.hid (Box.lift HZ2.out hb3)
    have hg3 := grown_trans (grown_trans (grown_of_below hg1 (some b)) hg2) (grown_of_below hb3 (some b))
    unfold leafV
    go_wp2_with (refine wpList_store5 rfl _ _ rfl _ _ _ _ _ _ HZ3.out rfl _ _ _ _ _ _ _ rfl ?_; intro w4 hB4 hg4 hs4)
    obtain ⟨c0, c1, c2, c3, c4⟩ := hB4.cells
    refine bodyPost_ret (by simp [results, Try.results74, go_sem, c0, c1, c2, c3, c4]; try rfl) rfl ?_
    exact ⟨_, rfl, rep_leaf _ _ _ _ _ _ HS.out, HR3.out.other hblt hg4, grown_fresh hg3 hg4 fun k e => by cases e; exact Nat.le_refl _⟩
  | false =>
    rw [h1] at hr HK1
    simp only [Bool.false_eq_true, if_false] at hr
    cases h2 : xK ts s 2 with
    | true =>
      rw [h2] at hr HK2
      simp only [if_true, Option.some.injEq, Prod.mk.injEq] at hr
      obtain ⟨rfl, rfl⟩ := hr
      have HW : Hid (∀ w, RdX w b ts s → Calls Try.prog 64 #[.pointer (some ⟨b, 0, none⟩), .int .i64 2] w (XEnd w b ts (xStep s) (.string (txt ts s.i)))) := fun w h => rdWord_yes 2 b ts s w h h2
      clear h1 h2
      generalize txt ts s.i = tx at *
      go_enter Try.func74, Try.ntmps74
      go_wp2_with fail
      go_at_call 72
      refine (HK1.out _ (HRA.out _)).mono ?_
      rintro e w0 ⟨rfl, hb0'⟩
      have HZ0 := Lib.hid (Box.lift HZ.out hb0')
      have HR0 := Lib.hid ((HRA.out _).lift hb0')
      have hg0 := (hb0 _).trans (hb0'.mono (hb0 _).size)
      clear hb0'
      go_wp2_with fail
      go_at_call 72
      refine (HK2.out _ HR0.out).mono ?_
      rintro e w1 ⟨rfl, hb1⟩
      have HZ1 := Lib.hid (Box.lift HZ0.out hb1)
      have HR1 := Lib.hid (HR0.out.lift hb1)
      have hg1 := hg0.trans (hb1.mono hg0.size)
      clear hb1
      go_wp2_with fail
      go_at_call 64
      refine (HW.out _ HR1.out).mono ?_
      rintro e w2 ⟨rfl, hr2, hg2⟩
      have HR2 := Lib.hid hr2
      have HZ2 := Lib.hid (Box.grown HZ1.out hg2 (by intro e; cases e; omega))
      clear hr2
      go_wp2_with fail
      go_at_call 37
      refine (refCon_nil _ _).mono ?_
      rintro e w3 ⟨rfl, hb3⟩
      have HR3 := Lib.hid (HR2.out.lift hb3)
      have HZ3 := Lib.hid (Box.lift HZ2.out hb3)
      have hg3 := grown_trans (grown_trans (grown_of_below hg1 (some b)) hg2) (grown_of_below hb3 (some b))
      unfold leafV
      go_wp2_with (refine wpList_store5 rfl _ _ rfl _ _ _ _ _ _ HZ3.out rfl _ _ _ _ _ _ _ rfl ?_; intro w4 hB4 hg4 hs4)
      obtain ⟨c0, c1, c2, c3, c4⟩ := hB4.cells
      refine bodyPost_ret (by simp [results, Try.results74, go_sem, c0, c1, c2, c3, c4]; try rfl) rfl ?_
      exact ⟨_, rfl, rep_leaf _ _ _ _ _ _ HS.out, HR3.out.other hblt hg4, grown_fresh hg3 hg4 fun k e => by cases e; exact Nat.le_refl _⟩
    | false =>
      rw [h2] at hr HK2
      simp only [Bool.false_eq_true, if_false] at hr
      have HN1 : Hid (∀ w, RdX w b ts s → Calls Try.prog 65 #[.pointer (some ⟨b, 0, none⟩), .string ⟨#[40]⟩] w (XEnd w b ts (xNeed ts s ⟨#[40]⟩) (.tuple #[]))) := fun w h => rdNeed_any _ b ts s w h
      generalize xNeed ts s ⟨#[40]⟩ = s1 at *
      obtain ⟨i1, q1, p1⟩ := s1
      dsimp only at hr
      cases q1 with
      | true =>
        simp only [if_true, Option.some.injEq, Prod.mk.injEq] at hr
        obtain ⟨rfl, rfl⟩ := hr
        clear h1 h2 H
        go_enter Try.func74, Try.ntmps74
        go_wp2_with fail
        go_at_call 72
        refine (HK1.out _ (HRA.out _)).mono ?_
        rintro e w0 ⟨rfl, hb0'⟩
        have HZ0 := Lib.hid (Box.lift HZ.out hb0')
        have HR0 := Lib.hid ((HRA.out _).lift hb0')
        have hg0 := (hb0 _).trans (hb0'.mono (hb0 _).size)
        clear hb0'
        go_wp2_with fail
        go_at_call 72
        refine (HK2.out _ HR0.out).mono ?_
        rintro e w1 ⟨rfl, hb1⟩
        have HZ1 := Lib.hid (Box.lift HZ0.out hb1)
        have HR1 := Lib.hid (HR0.out.lift hb1)
        have hg1 := hg0.trans (hb1.mono hg0.size)
        clear hb1
        go_wp2_with fail
        go_at_call 65
        refine (HN1.out _ HR1.out).mono ?_
        rintro e w2 ⟨rfl, hr2, hg2⟩
        have HR2 := Lib.hid hr2
        have HZ2 := Lib.hid (Box.grown HZ1.out hg2 (by intro e; cases e; omega))
        have hg3 := grown_trans (grown_of_below hg1 (some b)) hg2
        obtain ⟨lv, hrd, -⟩ := hr2
        obtain ⟨r0, r1, r2, -⟩ := hrd.cells
        clear hrd
        go_wp2_with (refine wpList_store5 rfl _ _ rfl _ _ _ _ _ _ HZ2.out rfl _ _ _ _ _ _ _ rfl ?_; intro w4 hB4 hg4 hs4)
        obtain ⟨c0, c1, c2, c3, c4⟩ := hB4.cells
        refine bodyPost_ret (by simp [results, Try.results74, go_sem, c0, c1, c2, c3, c4]; try rfl) rfl ?_
        exact ⟨_, rfl, rep_leaf _ _ _ _ _ _ (Nat.zero_le _), HR2.out.other hblt hg4, grown_fresh hg3 hg4 fun k e => by cases e; exact Nat.le_refl _⟩
      | false =>
        simp only [Bool.false_eq_true, if_false] at hr
        cases h4 : xType f ts ⟨i1, false, p1⟩ with
        | none => rw [h4] at hr; simp at hr
        | some p =>
          obtain ⟨U, k⟩ := p
          rw [h4] at hr
          simp only [Option.some.injEq, Prod.mk.injEq] at hr
          obtain ⟨rfl, rfl⟩ := hr
          have HN2 : Hid (∀ w, RdX w b ts k → Calls Try.prog 65 #[.pointer (some ⟨b, 0, none⟩), .string ⟨#[41]⟩] w (XEnd w b ts (xNeed ts k ⟨#[41]⟩) (.tuple #[]))) := fun w h => rdNeed_any _ b ts k w h
          have HT := Lib.hid (H U k h4)
          clear h1 h2 h4 H
          go_enter Try.func74, Try.ntmps74
          go_wp2_with fail
          go_at_call 72
          refine (HK1.out _ (HRA.out _)).mono ?_
          rintro e w0 ⟨rfl, hb0'⟩
          have HZ0 := Lib.hid (Box.lift HZ.out hb0')
          have HR0 := Lib.hid ((HRA.out _).lift hb0')
          have hg0 := (hb0 _).trans (hb0'.mono (hb0 _).size)
          have hsz0 := hb0'.size
          simp at hsz0
          clear hb0'
          go_wp2_with fail
          go_at_call 72
          refine (HK2.out _ HR0.out).mono ?_
          rintro e w1 ⟨rfl, hb1⟩
          have HZ1 := Lib.hid (Box.lift HZ0.out hb1)
          have HR1 := Lib.hid (HR0.out.lift hb1)
          have hg1 := hg0.trans (hb1.mono hg0.size)
          have hsz1 := hb1.size
          clear hb1
          go_wp2_with fail
          go_at_call 65
          refine (HN1.out _ HR1.out).mono ?_
          rintro e w2 ⟨rfl, hr2, hg2⟩
          have HR2 := Lib.hid hr2
          have HZ2 := Lib.hid (Box.grown HZ1.out hg2 (by intro e; cases e; omega))
          have hsz2 := hg2.size
          obtain ⟨lv, hrd, -⟩ := hr2
          obtain ⟨r0, r1, r2, -⟩ := hrd.cells
          clear hrd
          go_wp2_with fail
          go_at_call 75
          refine (HT.out b (w.heap.size + 1) _ (by omega) (by omega) HR2.out).mono ?_
          rintro e w3 ⟨u, rfl, hrep, hr3, hg3⟩
          have HR3 := Lib.hid hr3
          have HZ3 := Lib.hid (Box.grown HZ2.out hg3 (by intro e; cases e; omega))
          have HRep := Lib.hid hrep
          have hsz3 := hg3.size
          obtain ⟨uk, un, ui, uh, us, -, rfl, -, hus⟩ := hrep.open
          obtain ⟨ua, uc, rfl, -⟩ := hus
          clear hr3 hrep r0 r1 r2
          generalize U.ts.length = un' at *
          go_wp2_with fail
          go_at_call 65
          have hb3 : Below w3.heap.size w3 (w3.alloc (.cells #[.int .i64 uk, .string un, .int .i64 ui, .int .i64 uh, .slice ua un' uc] 34)) := (Below.refl _ w3).alloc (Nat.le_refl _) _
          have HI3 : Hid (Box (w3.alloc (.cells #[.int .i64 uk, .string un, .int .i64 ui, .int .i64 uh, .slice ua un' uc] 34)) w3.heap.size (.int .i64 uk) (.string un) (.int .i64 ui) (.int .i64 uh) (.slice ua un' uc)) := Box.made _ _ _ _ _ _
          have HR3' := Lib.hid (HR3.out.lift hb3)
          have HZ3' := Lib.hid (Box.lift HZ3.out hb3)
          have hg3' := grown_of_below hb3 (some b)
          have hsz3' := hb3.size
          clear hb3
          generalize (w3.alloc (.cells #[.int .i64 uk, .string un, .int .i64 ui, .int .i64 uh, .slice ua un' uc] 34)) = w4 at *
          refine (HN2.out _ HR3'.out).mono ?_
          rintro e w5 ⟨rfl, hr5, hg5⟩
          have HR5 := Lib.hid hr5
          have HZ5 := Lib.hid (Box.grown HZ3'.out hg5 (by intro e; cases e; omega))
          have HI5 := Lib.hid (Box.grown HI3.out hg5 (by intro e; cases e; omega))
          have hg35 := grown_trans hg3' hg5
          have hgA := grown_trans (grown_trans (grown_of_below hg1 (some b)) hg2) (grown_trans hg3 hg35)
          obtain ⟨d0, d1, d2, d3, d4⟩ := HI5.out.cells
          clear hr5 HI3 HZ3' HR3' HZ3 HR3 HI5
          go_wp2_with (refine wpList_store5 rfl _ _ rfl _ _ _ _ _ _ HZ5.out rfl _ _ _ _ _ _ _ rfl ?_; intro w6 hB6 hg6 hs6)
          obtain ⟨c0, c1, c2, c3, c4⟩ := hB6.cells
          refine bodyPost_ret (by simp [results, Try.results74, go_sem, c0, c1, c2, c3, c4]; try rfl) rfl ?_
          refine ⟨_, rfl, ?_, HR5.out.other hblt hg6, grown_fresh hgA hg6 fun k e => by cases e; exact Nat.le_refl _⟩
          refine HRep.out.kept (fun b hb => Nat.le_trans hbase (Nat.le_trans (Nat.le_succ _) hb)) fun b' hb hlt => ?_
          have hb' : w.heap.size + 1 ≤ b' := hb
          rw [hg6.block _ (Nat.lt_of_lt_of_le hlt hg35.size) (by intro e; cases e; omega)]
          exact hg35.block _ hlt (by intro e; cases e; omega)
end Go.Proofs.Ytljgpgmaceackaa
