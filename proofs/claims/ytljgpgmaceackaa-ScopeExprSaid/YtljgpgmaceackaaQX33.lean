import Derived.Test.YtljgpgmaceackaaQX30
import Derived.Test.YtljgpgmaceackaaQX29
import Derived.Test.YtljgpgmaceackaaQX05
/- The reference's reader of expressions: its memory while it reads. -/
namespace Go.Proofs.Ytljgpgmaceackaa
open Go.RowKit Go.Maps Mth

/-- What holds while a method reads: its result's variable, and a variable of its own. -/
structure EX (w v : World) (b R0 R1 : Nat) (ts : List Tok) (s : St) (c : List Value) : Prop where
  rd : RdX v b ts s
  res : BoxC 36 v R0 zExC
  box : BoxC 36 v R1 c
  grown : w.grownBy v (some b)
  h0 : w.heap.size ≤ R0
  h1 : R0 < R1
  hb : b < w.heap.size
theorem EX.lt {w v : World} {b R0 R1 : Nat} {ts : List Tok} {s : St} {c : List Value} (h : EX w v b R0 R1 ts s c) : R1 < v.heap.size := h.box.lt
theorem EX.call {w v v' : World} {b R0 R1 : Nat} {ts : List Tok} {s s' : St} {c : List Value} (h : EX w v b R0 R1 ts s c) (hr : RdX v' b ts s') (hg : v.grownBy v' (some b)) : EX w v' b R0 R1 ts s' c :=
  ⟨hr, h.res.grown hg (by have := h.hb; have := h.h0; intro e; have := Option.some.inj e; omega), h.box.grown hg (by have := h.hb; have := h.h0; have := h.h1; intro e; have := Option.some.inj e; omega), grown_trans h.grown hg, h.h0, h.h1, h.hb⟩
theorem EX.lift {w v v' : World} {b R0 R1 : Nat} {ts : List Tok} {s : St} {c : List Value} (h : EX w v b R0 R1 ts s c) (hb : Below v.heap.size v v') : EX w v' b R0 R1 ts s c :=
  h.call (h.rd.lift hb) (below_grown_some hb b)
theorem EX.set {w v : World} {b R0 R1 : Nat} {ts : List Tok} {s : St} {c : List Value} (h : EX w v b R0 R1 ts s c) (m : Nat) (u : Value) : EX w (v.setCell ⟨R1, m, none⟩ u) b R0 R1 ts s (c.set m u) := by
  obtain ⟨h1, h2, -⟩ := h.box.set m u
  have := h.hb; have := h.h0; have h01 := h.h1
  exact ⟨h.rd.other (by omega) h2, h.res.grown h2 (by intro e; have := Option.some.inj e; omega), h1, grown_fresh h.grown h2 (fun k e => by have := Option.some.inj e; omega), h.h0, h01, h.hb⟩
theorem EX.row {w v v' : World} {b R0 R1 : Nat} {ts : List Tok} {s : St} {c c' : List Value} (h : EX w v b R0 R1 ts s c) (h1 : BoxC 36 v' R1 c') (h2 : v.grownBy v' (some R1)) : EX w v' b R0 R1 ts s c' := by
  have := h.hb; have := h.h0; have h01 := h.h1
  exact ⟨h.rd.other (by omega) h2, h.res.grown h2 (by intro e; have := Option.some.inj e; omega), h1, grown_fresh h.grown h2 (fun k e => by have := Option.some.inj e; omega), h.h0, h01, h.hb⟩
/-- The end: the result is stored. -/
theorem EX.fin {w v v' : World} {b R0 R1 : Nat} {ts : List Tok} {s : St} {c : List Value} (h : EX w v b R0 R1 ts s c) (hg : v.grownBy v' (some R0)) : RdX v' b ts s ∧ w.grownBy v' (some b) := by
  have := h.hb; have := h.h0; have h01 := h.h1
  exact ⟨h.rd.other (by omega) hg, grown_fresh h.grown hg (fun k e => by have := Option.some.inj e; omega)⟩
/-- What holds before the method's own variable is made. -/
structure PX (w v : World) (b R0 : Nat) (ts : List Tok) (s : St) : Prop where
  rd : RdX v b ts s
  res : BoxC 36 v R0 zExC
  grown : w.grownBy v (some b)
  h0 : w.heap.size ≤ R0
  hb : b < w.heap.size
theorem PX.start {w : World} {b : Nat} {ts : List Tok} {s : St} (h : RdX w b ts s) : PX w (w.alloc (.cells #[.int .i64 0, .int .i64 0, .string ⟨#[]⟩, .int .i64 0, .slice none 0 0, .slice none 0 0, .int .i64 0, .string ⟨#[]⟩, .int .i64 0, .int .i64 0, .slice none 0 0] 36)) b w.heap.size ts s := by
  have hb : Below w.heap.size w (w.alloc (.cells #[.int .i64 0, .int .i64 0, .string ⟨#[]⟩, .int .i64 0, .slice none 0 0, .slice none 0 0, .int .i64 0, .string ⟨#[]⟩, .int .i64 0, .int .i64 0, .slice none 0 0] 36)) := (Below.refl _ w).alloc (Nat.le_refl _) _
  exact ⟨h.lift hb, BoxC.made _ w zExC, below_grown_some hb b, Nat.le_refl _, h.lt⟩
theorem PX.call {w v v' : World} {b R0 : Nat} {ts : List Tok} {s s' : St} (h : PX w v b R0 ts s) (hr : RdX v' b ts s') (hg : v.grownBy v' (some b)) : PX w v' b R0 ts s' :=
  ⟨hr, h.res.grown hg (by have := h.hb; have := h.h0; intro e; have := Option.some.inj e; omega), grown_trans h.grown hg, h.h0, h.hb⟩
theorem PX.lift {w v v' : World} {b R0 : Nat} {ts : List Tok} {s : St} (h : PX w v b R0 ts s) (hb : Below v.heap.size v v') : PX w v' b R0 ts s := h.call (h.rd.lift hb) (below_grown_some hb b)
theorem PX.mk' {w v : World} {b R0 : Nat} {ts : List Tok} {s : St} (h : PX w v b R0 ts s) (c : List Value) : EX w (v.alloc (.cells c.toArray 36)) b R0 v.heap.size ts s c := by
  have h1 := h.lift ((Below.refl _ v).alloc (Nat.le_refl _) (.cells c.toArray 36))
  exact ⟨h1.rd, h1.res, BoxC.made _ v c, h1.grown, h.h0, h.res.lt, h.hb⟩
theorem PX.fin {w v v' : World} {b R0 : Nat} {ts : List Tok} {s : St} (h : PX w v b R0 ts s) (hg : v.grownBy v' (some R0)) : RdX v' b ts s ∧ w.grownBy v' (some b) := by
  have := h.hb; have := h.h0
  exact ⟨h.rd.other (by omega) hg, grown_fresh h.grown hg (fun k e => by have := Option.some.inj e; omega)⟩
theorem EX.pb {w v : World} {b R0 R1 : Nat} {ts : List Tok} {s : St} {c : List Value} (h : EX w v b R0 R1 ts s c) : PX w v b R0 ts s := ⟨h.rd, h.res, h.grown, h.h0, h.hb⟩
/-- What a method returns: its own variable, stored into the result. -/
theorem EX.ret {w v v' : World} {b R0 R1 base : Nat} {ts : List Tok} {s : St} {c c' : List Value} {T : Ex} (h : EX w v b R0 R1 ts s c) (hr : RepE v (fun g => R1 < g) T c') (hbase : base ≤ w.heap.size) (hg : v.grownBy v' (some R0)) :
    RepE v' (fun g => base ≤ g) T c' ∧ RdX v' b ts s ∧ w.grownBy v' (some b) := by
  have h0 := h.h0
  have h1 := h.h1
  exact ⟨repE_far hr (by omega) fun g h2 h3 => hg.block g h3 (by intro e; have := Option.some.inj e; omega), h.fin hg⟩
theorem PX.ret {w v v' : World} {b R0 base : Nat} {ts : List Tok} {s : St} {c' : List Value} {T : Ex} (h : PX w v b R0 ts s) (hr : RepE v (fun g => R0 < g) T c') (hbase : base ≤ w.heap.size) (hg : v.grownBy v' (some R0)) :
    RepE v' (fun g => base ≤ g) T c' ∧ RdX v' b ts s ∧ w.grownBy v' (some b) := by
  have h0 := h.h0
  exact ⟨repE_far hr (by omega) fun g h2 h3 => hg.block g h3 (by intro e; have := Option.some.inj e; omega), h.fin hg⟩
theorem PX.far {w v v' : World} {b R0 : Nat} {ts : List Tok} {s : St} {c : List Value} {T : Ex} (h : PX w v b R0 ts s) (hr : RepE v (fun g => R0 < g) T c) (hg : v.grownBy v' (some b)) : RepE v' (fun g => R0 < g) T c := by
  have h0 := h.h0
  have hb := h.hb
  exact hr.kept (fun _ h => h) fun g h1 h2 => hg.block g h2 (by intro e; have := Option.some.inj e; omega)

/-- What holds between two atoms. -/
structure AX (w v : World) (b R0 R1 : Nat) (ts : List Tok) (s : St) (c : List Value) (e : Ex) : Prop where
  eb : EX w v b R0 R1 ts s c
  rep : RepE v (fun g => R0 < g ∧ g ≠ R1) e c
theorem AX.call {w v v' : World} {b R0 R1 : Nat} {ts : List Tok} {s s' : St} {c : List Value} {e : Ex} (h : AX w v b R0 R1 ts s c e) (hr : RdX v' b ts s') (hg : v.grownBy v' (some b)) : AX w v' b R0 R1 ts s' c e := by
  have h0 := h.eb.h0
  have hb := h.eb.hb
  exact ⟨h.eb.call hr hg, h.rep.kept (fun _ h => h) (fun g h1 hl => hg.block g hl (by intro e; have := Option.some.inj e; have := h1.1; omega))⟩
theorem AX.lift {w v v' : World} {b R0 R1 : Nat} {ts : List Tok} {s : St} {c : List Value} {e : Ex} (h : AX w v b R0 R1 ts s c e) (hb : Below v.heap.size v v') : AX w v' b R0 R1 ts s c e := h.call (h.eb.rd.lift hb) (below_grown_some hb b)
theorem AX.mk' {w v : World} {b R0 : Nat} {ts : List Tok} {s : St} (h : PX w v b R0 ts s) {e : Ex} {c : List Value} (hr : RepE v (fun g => R0 < g) e c) : AX w (v.alloc (.cells c.toArray 36)) b R0 v.heap.size ts s c e :=
  ⟨h.mk' c, (hr.bound.lift ((Below.refl _ v).alloc (Nat.le_refl _) _)).imp fun _ hg => ⟨hg.1, Nat.ne_of_lt hg.2⟩⟩
theorem AX.ret {w v v' : World} {b R0 R1 base : Nat} {ts : List Tok} {s : St} {c : List Value} {e : Ex} (h : AX w v b R0 R1 ts s c e) (hbase : base ≤ w.heap.size) (hg : v.grownBy v' (some R0)) :
    RepE v' (fun g => base ≤ g) e c ∧ RdX v' b ts s ∧ w.grownBy v' (some b) := h.eb.pb.ret (h.rep.imp fun _ h => h.1) hbase hg
end Go.Proofs.Ytljgpgmaceackaa

/- The reference's reader of expressions: the next token's place, a number. -/
namespace Go.Proofs.Ytljgpgmaceackaa
open Go.RowKit Go.Maps Mth

set_option maxHeartbeats 1600000 in
theorem rdPos_any (b : Nat) (ts : List Tok) (s : St) (w : World) (h : RdX w b ts s) : Calls Try.prog 62 #[.pointer (some ⟨b, 0, none⟩)] w fun e w' => e = .returned (.int .i64 (tkP ts s.i)) ∧ Below w.heap.size w w' := by
  obtain ⟨i, q, p⟩ := s
  obtain ⟨lv, hr, ⟨a, cap, rfl, hcap, hc⟩, hi, hp, hl⟩ := h
  obtain ⟨c0, c1, c2, c3, f1, f2, f3⟩ := hr.cells
  have hl1 := hl.1
  have HC := Lib.hid hc
  clear hc hr hp hl
  dsimp only at hi
  by_cases hlt : i < ts.length
  · obtain ⟨t, ht⟩ : ∃ x, ts[i]? = some x := ⟨_, List.getElem?_eq_getElem hlt⟩
    obtain ⟨g, rfl, hg, d0, d1, d2⟩ := HC.out i t ht
    have HE : Hid (tkP ts i = t.pos) := by show _ = _; unfold tkP; rw [ht]
    clear ht
    have hli : ((i : Int) < (ts.length : Int)) := by omega
    go_enter Try.func62, Try.ntmps62
    go_wp2
    go_quiet (fail)
    go_wp2
    go_quiet (fail)
    go_wp2
    go_ret
    exact ⟨ret_int HE.out.symm, by first | exact below_drewN (below_drewN (Below.refl _ w) _) _ | exact below_drewN (Below.refl _ w) _⟩
  · have HE : Hid (tkP ts i = 0) := by show _ = _; unfold tkP; rw [List.getElem?_eq_none (by omega)]
    have hli : decide ((i : Int) < (ts.length : Int)) = false := by simpa using hlt
    go_enter Try.func62, Try.ntmps62
    go_wp2
    go_quiet (fail)
    go_wp2
    go_ret
    exact ⟨ret_int HE.out.symm, by first | exact below_drewN (below_drewN (Below.refl _ w) _) _ | exact below_drewN (Below.refl _ w) _⟩

theorem dec_bound : ∀ (l : List UInt8) (acc n : Nat), Lib.decFrom acc l = some n → acc ≤ n := by
  intro l
  induction l with
  | nil => intro acc n h; simp [Lib.decFrom] at h; omega
  | cons c l ih =>
    intro acc n h
    unfold Lib.decFrom at h
    cases hd : Lib.digitVal c with
    | none => rw [hd] at h; simp at h
    | some d =>
      rw [hd] at h
      have := ih _ n h
      omega
theorem dec_step {c : UInt8} {l : List UInt8} {acc n : Nat} (h : Lib.decFrom acc (c :: l) = some n) : 48 ≤ c.toNat ∧ c.toNat ≤ 57 ∧ Lib.decFrom (acc * 10 + (c.toNat - 48)) l = some n := by
  unfold Lib.decFrom at h
  cases hd : Lib.digitVal c with
  | none => rw [hd] at h; simp at h
  | some d =>
    rw [hd] at h
    unfold Lib.digitVal at hd
    split at hd
    · rename_i hq
      simp at hd hq
      subst hd
      have h48 : (48 : UInt8).toNat = 48 := rfl
      have h57 : (57 : UInt8).toNat = 57 := rfl
      refine ⟨by simpa using hq.1, by simpa using hq.2, ?_⟩
      simpa using h
    · simp at hd
theorem dec_lt : ∀ (l : List UInt8) (acc n k : Nat), acc < 10 ^ k → Lib.decFrom acc l = some n → n < 10 ^ (k + l.length) := by
  intro l
  induction l with
  | nil => intro acc n k hk h; simp [Lib.decFrom] at h; subst h; simpa using hk
  | cons c l ih =>
    intro acc n k hk h
    obtain ⟨h1, h2, h3⟩ := dec_step h
    have := ih _ n (k + 1) (by rw [Nat.pow_succ]; omega) h3
    rw [List.length_cons, show k + (l.length + 1) = k + 1 + l.length by omega]
    exact this
theorem numB_dec {x : ByteArray} (h : rkind (bl x) = 3) : ∃ n : Nat, Lib.decFrom 0 (bl x) = some n ∧ numB x = n ∧ n < 1000000000 := by
  obtain ⟨h1, h2, h3⟩ := rkind_int h
  obtain ⟨n, hn⟩ := dec_some (bl x) 0 h3
  refine ⟨n, hn, ?_, ?_⟩
  · unfold numB
    show (match Lib.atoi (bl x) with | some n => n | none => 0) = _
    generalize bl x = l at *
    cases l with
    | nil => exact absurd rfl h1
    | cons c l =>
      have hc : dig c = true := by simp at h3; exact h3.1
      have hn' : Lib.decNat (c :: l) = some n := by unfold Lib.decNat; simpa using hn
      have n1 : (c == 45) = false := by
        rw [beq_eq_false_iff_ne]
        rintro rfl
        revert hc; decide
      have n2 : (c == 43) = false := by
        rw [beq_eq_false_iff_ne]
        rintro rfl
        revert hc; decide
      simp only [Lib.atoi, n1, n2, hn', Bool.false_eq_true, if_false]
      rfl
  · have := dec_lt (bl x) 0 n 0 (by decide) hn
    have h10 : 10 ^ (0 + (bl x).length) ≤ 10 ^ 9 := Nat.pow_le_pow_right (by decide) (by omega)
    have e : (10 : Nat) ^ 9 = 1000000000 := by decide
    omega
set_option maxHeartbeats 1600000 in
theorem rNum_any (x : ByteArray) (w : World) (h : rkind (bl x) = 3) : Calls Try.prog 90 #[.string x] w fun e w' => e = .returned (.int .i64 (numB x)) ∧ w = w' := by
  obtain ⟨n, hn, he, hlt⟩ := numB_dec h
  have hsz : x.size ≤ 9 := by rw [← bl_len]; exact (rkind_int h).2.1
  have HE := Lib.hid he
  have HN := Lib.hid hn
  clear h hn he
  go_enter Try.func90, Try.ntmps90
  go_wp2
  go_loop [3, 4] (fun m i => ∃ k acc : Nat, k ≤ x.size ∧ i = .int .i64 k ∧ m = .int .i64 acc ∧ Hid (Lib.decFrom acc ((bl x).drop k) = some n)) (fun _ i => x.size - (intOf i).toNat)
  case atStart => exact ⟨0, 0, Nat.zero_le _, rfl, rfl, HN⟩
  case round =>
    obtain ⟨k, acc, hk, rfl, rfl, HD⟩ := hrel
    have hb := dec_bound _ _ _ HD.out
    by_cases hlt2 : k < x.size
    · have hl : k < (bl x).length := by rw [bl_len]; exact hlt2
      have hd := HD.out
      rw [List.drop_eq_getElem_cons hl, bl_get x k hlt2] at hd
      obtain ⟨g1, g2, g3⟩ := dec_step hd
      have HG := Lib.hid g3
      have hb3 := dec_bound _ _ _ g3
      have w1 : IntKind.u8.wrap ((x[k].toNat : Int) - 48) = (x[k].toNat : Int) - 48 := by rw [IntKind.wrap_u8]; omega
      have w2 : IntKind.i64.wrap (10 * (acc : Int)) = 10 * (acc : Int) := by rw [IntKind.wrap_i64]; omega
      have w3 : IntKind.i64.wrap (10 * (acc : Int) + ((x[k].toNat : Int) - 48)) = ((acc * 10 + (x[k].toNat - 48) : Nat) : Int) := by rw [IntKind.wrap_i64]; omega
      clear hd g3
      go_wp2
      go_round
      case rel => exact ⟨k + 1, acc * 10 + (x[k].toNat - 48), by omega, by go_num, by first | rfl | (congr 1; omega) | simp_all, HG⟩
      case measure => simp [intOf]; omega
    · have hd := HD.out
      rw [List.drop_eq_nil_of_le (by rw [bl_len]; omega)] at hd
      simp [Lib.decFrom] at hd
      go_wp2
      go_ret
      exact ⟨ret_int (by first | (rw [HE.out, hd]; done) | (rw [HE.out])), rfl⟩
end Go.Proofs.Ytljgpgmaceackaa

/- The package's Expr and Atom: what they return. -/
namespace Go.Proofs.Ytljgpgmaceackaa
open Go.RowKit Go.Maps Mth

/-- The two variables of the results: an expression, an error. -/
structure OutE (w : World) (V : World) : Prop where
  typ : BoxC 36 V w.heap.size zExC
  flt : BoxC 45 V (w.heap.size + 1) [.int .i64 0, .int .i64 0]
  low : Below w.heap.size w V
  size : w.heap.size + 2 ≤ V.heap.size
theorem outE_new (w : World) : OutE w ((w.alloc (.cells #[.int .i64 0, .int .i64 0, .string ⟨#[]⟩, .int .i64 0, .slice none 0 0, .slice none 0 0, .int .i64 0, .string ⟨#[]⟩, .int .i64 0, .int .i64 0, .slice none 0 0] 36)).alloc (.cells #[.int .i64 0, .int .i64 0] 45)) := by
  refine ⟨?_, ?_, ((Below.refl _ w).alloc (Nat.le_refl _) _).alloc (by simp) _, by simp⟩
  · show (_ : Array _)[_]? = _
    rw [heap_at, if_neg (by simp), heap_at, if_pos rfl]; rfl
  · show (_ : Array _)[_]? = _
    rw [heap_at, if_pos (by simp)]
theorem OutE.lift {w V V' : World} (h : OutE w V) (hb : Below V.heap.size V V') : OutE w V' :=
  ⟨h.typ.lift hb, h.flt.lift hb, h.low.trans (hb.mono h.low.size), Nat.le_trans h.size hb.size⟩
theorem OutE.grown {w V V' : World} {b : Nat} (h : OutE w V) (hb : w.heap.size + 2 ≤ b) (hg : V.grownBy V' (some b)) : OutE w V' :=
  ⟨h.typ.grown hg (by intro e; have := Option.some.inj e; omega), h.flt.grown hg (by intro e; have := Option.some.inj e; omega), Below.grown h.low hg h.low.size (fun k hk => by have := Option.some.inj hk; omega), Nat.le_trans h.size hg.size⟩
/-- The results, stored. -/
theorem OutE.fin {w V : World} (h : OutE w V) (v0 v1 v2 v3 v4 v5 v6 v7 v8 v9 v10 e0 e1 : Value) :
    BoxC 36 (((((((((((((V.setCell ⟨w.heap.size, 0, none⟩ v0).setCell ⟨w.heap.size, 1, none⟩ v1).setCell ⟨w.heap.size, 2, none⟩ v2).setCell ⟨w.heap.size, 3, none⟩ v3).setCell ⟨w.heap.size, 4, none⟩ v4).setCell ⟨w.heap.size, 5, none⟩ v5).setCell ⟨w.heap.size, 6, none⟩ v6).setCell ⟨w.heap.size, 7, none⟩ v7).setCell ⟨w.heap.size, 8, none⟩ v8).setCell ⟨w.heap.size, 9, none⟩ v9).setCell ⟨w.heap.size, 10, none⟩ v10).setCell ⟨w.heap.size + 1, 0, none⟩ e0).setCell ⟨w.heap.size + 1, 1, none⟩ e1) w.heap.size [v0, v1, v2, v3, v4, v5, v6, v7, v8, v9, v10] ∧
    BoxC 45 (((((((((((((V.setCell ⟨w.heap.size, 0, none⟩ v0).setCell ⟨w.heap.size, 1, none⟩ v1).setCell ⟨w.heap.size, 2, none⟩ v2).setCell ⟨w.heap.size, 3, none⟩ v3).setCell ⟨w.heap.size, 4, none⟩ v4).setCell ⟨w.heap.size, 5, none⟩ v5).setCell ⟨w.heap.size, 6, none⟩ v6).setCell ⟨w.heap.size, 7, none⟩ v7).setCell ⟨w.heap.size, 8, none⟩ v8).setCell ⟨w.heap.size, 9, none⟩ v9).setCell ⟨w.heap.size, 10, none⟩ v10).setCell ⟨w.heap.size + 1, 0, none⟩ e0).setCell ⟨w.heap.size + 1, 1, none⟩ e1) (w.heap.size + 1) [e0, e1] ∧
    Below w.heap.size w (((((((((((((V.setCell ⟨w.heap.size, 0, none⟩ v0).setCell ⟨w.heap.size, 1, none⟩ v1).setCell ⟨w.heap.size, 2, none⟩ v2).setCell ⟨w.heap.size, 3, none⟩ v3).setCell ⟨w.heap.size, 4, none⟩ v4).setCell ⟨w.heap.size, 5, none⟩ v5).setCell ⟨w.heap.size, 6, none⟩ v6).setCell ⟨w.heap.size, 7, none⟩ v7).setCell ⟨w.heap.size, 8, none⟩ v8).setCell ⟨w.heap.size, 9, none⟩ v9).setCell ⟨w.heap.size, 10, none⟩ v10).setCell ⟨w.heap.size + 1, 0, none⟩ e0).setCell ⟨w.heap.size + 1, 1, none⟩ e1) ∧
    ∀ c, w.heap.size + 2 ≤ c → c < V.heap.size → (((((((((((((V.setCell ⟨w.heap.size, 0, none⟩ v0).setCell ⟨w.heap.size, 1, none⟩ v1).setCell ⟨w.heap.size, 2, none⟩ v2).setCell ⟨w.heap.size, 3, none⟩ v3).setCell ⟨w.heap.size, 4, none⟩ v4).setCell ⟨w.heap.size, 5, none⟩ v5).setCell ⟨w.heap.size, 6, none⟩ v6).setCell ⟨w.heap.size, 7, none⟩ v7).setCell ⟨w.heap.size, 8, none⟩ v8).setCell ⟨w.heap.size, 9, none⟩ v9).setCell ⟨w.heap.size, 10, none⟩ v10).setCell ⟨w.heap.size + 1, 0, none⟩ e0).setCell ⟨w.heap.size + 1, 1, none⟩ e1).heap[c]? = V.heap[c]? := by
  obtain ⟨hB, hG⟩ := h.typ.set11 v0 v1 v2 v3 v4 v5 v6 v7 v8 v9 v10
  have hF := h.flt.grown hG (by intro e; have := Option.some.inj e; omega)
  have hL := Below.grown h.low hG h.low.size (fun k hk => by have := Option.some.inj hk; omega)
  generalize (((((((((((V.setCell ⟨w.heap.size, 0, none⟩ v0).setCell ⟨w.heap.size, 1, none⟩ v1).setCell ⟨w.heap.size, 2, none⟩ v2).setCell ⟨w.heap.size, 3, none⟩ v3).setCell ⟨w.heap.size, 4, none⟩ v4).setCell ⟨w.heap.size, 5, none⟩ v5).setCell ⟨w.heap.size, 6, none⟩ v6).setCell ⟨w.heap.size, 7, none⟩ v7).setCell ⟨w.heap.size, 8, none⟩ v8).setCell ⟨w.heap.size, 9, none⟩ v9).setCell ⟨w.heap.size, 10, none⟩ v10) = V1 at *
  obtain ⟨a0, g0, -⟩ := hF.set 0 e0
  obtain ⟨a1, g1, -⟩ := a0.set 1 e1
  have g01 := grown_trans g0 g1
  refine ⟨hB.grown g01 (by intro e; have := Option.some.inj e; omega), a1, Below.grown hL g01 hL.size (fun k hk => by have := Option.some.inj hk; omega), fun c hc hlt => ?_⟩
  rw [g01.block c (Nat.lt_of_lt_of_le hlt hG.size) (by intro e; have := Option.some.inj e; omega), hG.block c hlt (by intro e; have := Option.some.inj e; omega)]
theorem BoxC.all2 {t : TypeId} {w : World} {B : Nat} {c0 c1 : Value} (h : BoxC t w B [c0, c1]) : (w.cell? ⟨B, 0, none⟩ = some c0 ∧ w.cell? ⟨B, 1, none⟩ = some c1) ∧ w.frozen? ⟨B, 0, none⟩ = false ∧ w.frozen? ⟨B, 1, none⟩ = false :=
  ⟨⟨h.cell 0 _ rfl, h.cell 1 _ rfl⟩, h.free 0, h.free 1⟩
end Go.Proofs.Ytljgpgmaceackaa
