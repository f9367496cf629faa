/- What the laws on texts of types share: a made type in its variable, a reading's results in theirs. -/
import Derived.Test.YthphnacfidofbaaGreatDoorRtSw
import Derived.Test.YthphnacfidofbaaGreatDoorRtTs
import Derived.Test.YthphnacfidofbaaGreatDoorTyMk
import Derived.Test.YthphnacfidofbaaGreatDoorTyTaMa
import Derived.Test.YthphnacfidofbaaGreatDoorTyMkMa
import Derived.Test.YthphnacfidofbaaGreatDoorTyFst
import Derived.Test.YthphnacfidofbaaGreatDoorTySwMa
import Derived.Deep.CutBlock
import Derived.Deep.LoopGhost
namespace Go.Proofs.YthphnacfidofbaaGreatDoor
open Go.RowKit Go.Maps Mth

theorem teqL_refl : ∀ l : List Ty, (∀ U ∈ l, teq U U = true) → teqL l l = true := by
  intro l
  induction l with
  | nil => intro _; rfl
  | cons x l ihl => intro hl; simp [teqL, hl x (by simp), ihl fun U hU => hl U (by simp [hU])]
theorem teq_refl : ∀ (m : Nat) (T : Ty), nodes T ≤ m → teq T T = true := by
  intro m
  induction m with
  | zero => intro T h; have := nodes_pos T; omega
  | succ m ih =>
    intro T hm
    cases T with
    | mk k n i h ts =>
      have : teqL ts ts = true := teqL_refl ts fun U hU => ih U (by have := nodesL_mem hU; simp only [nodes] at hm; omega)
      simp [teq, this]
theorem same_eq (T : Ty) (v u : Value) (V : World) (h : Rep V (fun _ => True) T v) (h' : Rep V (fun _ => True) T u) : Calls Tryz.prog 17 #[v, u] V fun e w' => e = .returned (.bool true) ∧ Below V.heap.size V w' := by
  have := refEqual_any _ T (Nat.le_refl _) T v u _ _ V h h'
  rwa [teq_refl _ T (Nat.le_refl _)] at this
/-- A result of a reading in its two variables. -/
structure Two (n : Nat) (T : Ty) (c0 c1 c2 c3 c4 : Value) (e p : Int) (V : World) : Prop where
  box : Box V n c0 c1 c2 c3 c4
  flt : V.heap[n + 1]? = some (.cells #[.int .i64 e, .int .i64 p] 40 (0, 0))
  rep : Rep V (fun _ => True) T (.agg #[c0, c1, c2, c3, c4])
theorem Two.lift {n : Nat} {T : Ty} {c0 c1 c2 c3 c4 : Value} {e p : Int} {V V' : World} (h : Two n T c0 c1 c2 c3 c4 e p V) (hb : Below V.heap.size V V') : Two n T c0 c1 c2 c3 c4 e p V' :=
  ⟨Box.lift h.box hb, by rw [hb.block _ (Array.getElem?_eq_some_iff.1 h.flt).1]; exact h.flt, h.rep.lift hb⟩
theorem two_made {w : World} {T : Ty} {c0 c1 c2 c3 c4 : Value} {e p : Int} (hr : Rep w (fun _ => True) T (.agg #[c0, c1, c2, c3, c4])) : Two w.heap.size T c0 c1 c2 c3 c4 e p ((w.alloc (.cells #[c0, c1, c2, c3, c4] 30)).alloc (.cells #[.int .i64 e, .int .i64 p] 40)) := by
  refine ⟨?_, ?_, hr.lift (((Below.refl _ w).alloc (Nat.le_refl _) _).alloc (by simp) _)⟩
  · unfold Box; rw [heap_at, if_neg (by simp), heap_at, if_pos rfl]
  · rw [heap_at, if_pos (by simp)]
theorem two_below (w : World) (c0 c1 c2 c3 c4 : Value) (e p : Int) : Below w.heap.size w ((w.alloc (.cells #[c0, c1, c2, c3, c4] 30)).alloc (.cells #[.int .i64 e, .int .i64 p] 40)) := ((Below.refl _ w).alloc (Nat.le_refl _) _).alloc (by simp) _
/-- A reading, from any world. -/
def RdC (f : FuncId) (w : World) (v : Value) (k : Int) (r : Res) : Prop := ∀ V, Below w.heap.size w V → Calls Tryz.prog f #[v, .int .i64 k] V fun e w' => ∃ uk un ui uh ua um uc, e = .returned (.tuple #[.agg #[.int .i64 uk, .string un, .int .i64 ui, .int .i64 uh, .slice ua um uc], .int .i64 r.n, .agg #[.int .i64 r.e, .int .i64 r.p]]) ∧ Rep w' (fun _ => True) r.T (.agg #[.int .i64 uk, .string un, .int .i64 ui, .int .i64 uh, .slice ua um uc]) ∧ Below V.heap.size V w'
theorem rdC_of {f : FuncId} {w : World} {v : Value} {k : Int} {r : Res} (h : ∀ V, Below w.heap.size w V → Calls Tryz.prog f #[v, .int .i64 k] V fun e w' => ∃ x, e = .returned x ∧ ResAt w' (fun c => V.heap.size ≤ c) r x ∧ Below V.heap.size V w') : RdC f w v k r := fun V hb => by
  refine (h V hb).mono ?_
  rintro e w' ⟨x, rfl, ⟨u, rfl, hr⟩, hb'⟩
  obtain ⟨uk, un, ui, uh, ua, um, uc, rfl⟩ := hr.form
  exact ⟨uk, un, ui, uh, ua, um, uc, rfl, hr.imp fun _ _ => trivial, hb'⟩
theorem named_leaf : S3.LeafL [S3.namTy 97, S3.namTy 98, S3.namTy 99] := by
  refine ⟨by decide, fun T hT => ?_⟩
  simp at hT
  rcases hT with rfl | rfl | rfl <;> exact ⟨⟨by decide +kernel, by decide +kernel⟩, rfl⟩
/-- A new tape. -/
theorem tape_new {w w1 : World} {zs : List Int} {a : Option Addr} {cap n : Nat} (hn : n = zs.length) (hz : zs.length ≤ 1000) (h : Ints w (.slice a n cap) zs) (hb : Below w.heap.size w w1) :
    S3.Tq (w1.alloc (.cells #[.slice a n cap, .int .i64 0] 27)) w1.heap.size := by
  subst hn
  obtain ⟨a', cap', e, -, -, hj⟩ := h
  cases e
  refine ⟨zs, a, cap, 0, ?_, Nat.zero_le _, hz, fun j x hx => ?_⟩
  · unfold S3.TapeAt; rw [heap_at, if_pos rfl]; rfl
  · obtain ⟨ad, rfl, hc⟩ := hj j x hx
    have hl := World.block_lt_of_cell? _ _ hc
    have hl1 := Nat.lt_of_lt_of_le hl hb.size
    refine ⟨ad, rfl, by rw [add_block] at hl1; exact hl1, ?_⟩
    rw [((Below.refl _ w1).alloc (Nat.le_refl _) _).cell hl1, hb.cell hl]
    exact hc
/-- A made type in its variable. -/
structure Md (w : World) (B d : Nat) (T : Ty) (c0 c1 c2 c3 c4 : Value) (V : World) : Prop where
  box : Box V B c0 c1 c2 c3 c4
  rep : Rep V (fun _ => True) T (.agg #[c0, c1, c2, c3, c4])
  ok : S3.Ok d T
  low : Below w.heap.size w V
theorem Md.lift {w V V' : World} {B d : Nat} {T : Ty} {c0 c1 c2 c3 c4 : Value} (h : Md w B d T c0 c1 c2 c3 c4 V) (hb : Below V.heap.size V V') : Md w B d T c0 c1 c2 c3 c4 V' :=
  ⟨Box.lift h.box hb, h.rep.lift hb, h.ok, h.low.trans (hb.mono h.low.size)⟩
theorem md_new {w w3 w4 : World} {base b d : Nat} {T : Ty} {c0 c1 c2 c3 c4 : Value} (hl : Below w.heap.size w w3) (hb : w.heap.size ≤ b) (hr : Rep w4 (fun c => base ≤ c) T (.agg #[c0, c1, c2, c3, c4])) (ho : S3.Ok d T) (hg : w3.grownBy w4 (some b)) :
    Md w w4.heap.size d T c0 c1 c2 c3 c4 (w4.alloc (.cells #[c0, c1, c2, c3, c4] 30)) := by
  have h1 : Below w.heap.size w w4 := Below.grown hl hg hl.size (fun k hk => by have := Option.some.inj hk; omega)
  have h2 : Below w4.heap.size w4 (w4.alloc (.cells #[c0, c1, c2, c3, c4] 30)) := (Below.refl _ w4).alloc (Nat.le_refl _) _
  exact ⟨Box.made _ _ _ _ _ _, (hr.imp fun _ _ => trivial).lift h2, ho, h1.trans (h2.mono h1.size)⟩
/-- What a made type gives. -/
theorem ok_src {d : Nat} {T : Ty} (hd : d ≤ 4) (h : S3.Ok d T) : src T = true ∧ nodes T ≤ 31 := by
  refine ⟨src_of_valid T h.1.1 h.1.2, ?_⟩
  have h2 := h.2
  have : S3.capN d ≤ 31 := by
    have hc : d = 0 ∨ d = 1 ∨ d = 2 ∨ d = 3 ∨ d = 4 := by omega
    rcases hc with rfl | rfl | rfl | rfl | rfl <;> decide
  omega
theorem Md.show {w V : World} {B d : Nat} {T : Ty} {c0 c1 c2 c3 c4 : Value} (h : Md w B d T c0 c1 c2 c3 c4 V) (hd : d ≤ 4) : Calls Tryz.prog 14 #[.agg #[c0, c1, c2, c3, c4]] V (ShEnd V (shT T)) := by
  obtain ⟨h1, h2⟩ := ok_src hd h.ok
  exact showT_any T h1 (by omega) _ _ V h.rep
theorem Md.len {w V : World} {B d : Nat} {T : Ty} {c0 c1 c2 c3 c4 : Value} (h : Md w B d T c0 c1 c2 c3 c4 V) (hd : d ≤ 4) : (shT T).length ≤ 713 := by
  obtain ⟨h1, h2⟩ := ok_src hd h.ok
  have := shT_len2 T h1
  omega
end Go.Proofs.YthphnacfidofbaaGreatDoor
