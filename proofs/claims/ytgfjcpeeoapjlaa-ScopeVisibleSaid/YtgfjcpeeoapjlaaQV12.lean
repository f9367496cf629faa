import Derived.Test.YtgfjcpeeoapjlaaQV07
import Derived.Lib.QuietBelow
import Derived.Test.YtgfjcpeeoapjlaaQV03
import Derived.Deep.RegionHeld3
import Derived.Deep.CutBlock
/- The law's scan, the reference's Valid, both Starts. -/
namespace Go.Proofs.Ytgfjcpeeoapjlaa
open Go.RowKit Go.Maps Mth

theorem row3_flat (l : List Tok) : row3 l = (l.map cells3).flatten := by unfold row3; rw [List.flatMap_def]
theorem row3_get (l : List Tok) (j m : Nat) (t : Tok) (u : Value) (ht : l[j]? = some t) (hu : (cells3 t)[m]? = some u) : (row3 l)[j * 3 + m]? = some u := by
  rw [row3_flat]
  exact flat_get 3 _ (fun c hc => by simp at hc; obtain ⟨t, _, rfl⟩ := hc; rfl) j m _ u (by rw [List.getElem?_map, ht]; rfl) hu
theorem tokAt_of_row {w : World} {base : Nat} {v : Value} {ts : List Tok} (h : w.ownsRow base 117 3 v ts.length (row3 ts)) : TokAt w (fun g => base ≤ g) v ts := by
  have hc := fun g (hv : v.ownBlock = some g) => h.cells (g := g) hv
  obtain ⟨-, hh⟩ := h
  rcases hh with ⟨rfl, h0⟩ | ⟨g, cap, cur, rfl, hg, hb, hn, hm, _⟩
  · have : ts = [] := List.eq_nil_of_length_eq_zero h0
    subst this
    exact ⟨none, 0, rfl, ⟨Nat.le_refl _, Nat.zero_le _⟩, fun j t h => by simp at h⟩
  · refine ⟨some ⟨g, 0, none⟩, cap, rfl, ⟨hn, hm⟩, fun j t ht => ⟨g, rfl, hg, ?_, ?_, ?_⟩⟩
    · have := hc g rfl _ _ (row3_get ts j 0 t _ ht rfl)
      rw [add_zero] at this; simpa using this
    · have := hc g rfl _ _ (row3_get ts j 1 t _ ht rfl)
      rw [add_zero] at this; simpa using this
    · have := hc g rfl _ _ (row3_get ts j 2 t _ ht rfl)
      rw [add_zero] at this; simpa using this
/-- What scan hands back. -/
def ScanEnd (w : World) (ts : List Tok) (e : Ending) (w' : World) : Prop := ∃ v, e = .returned v ∧ w'.ownsRow w.heap.size 117 3 v ts.length (row3 ts) ∧ Below w.heap.size w w'
theorem ownsRow_base {w : World} {base base' : Nat} {e : TypeId} {size : Nat} {v : Value} {n : Nat} {xs : List Value} (h : w.ownsRow base e size v n xs) (hb : base' ≤ base) : w.ownsRow base' e size v n xs := by
  refine ⟨h.1, ?_⟩
  rcases h.2 with h | ⟨g, cap, cur, hv, hg, rest⟩
  · exact .inl h
  · exact .inr ⟨g, cap, cur, hv, Nat.le_trans hb hg, rest⟩
/-- The tokens that are valid. -/
def valB (k : Int) (x : ByteArray) (p : Int) : Bool := decide (1 ≤ k) && decide (k ≤ 5) && (rkind (bl x) == k) && decide (0 ≤ p) && decide (p < 4000)
end Go.Proofs.Ytgfjcpeeoapjlaa

/- The law's words: tokens of a text that it makes. -/
namespace Go.Proofs.Ytgfjcpeeoapjlaa
open Go.RowKit Go.Maps Mth

def wordL : List ByteArray := [⟨#[97]⟩, ⟨#[98]⟩, ⟨#[73, 110, 116]⟩, ⟨#[76, 105, 115, 116]⟩, ⟨#[80, 97, 105, 114]⟩, ⟨#[40]⟩, ⟨#[41]⟩, ⟨#[45, 62]⟩, ⟨#[45, 62]⟩, ⟨#[40]⟩, ⟨#[41]⟩, ⟨#[108, 101, 116]⟩, ⟨#[46]⟩, ⟨#[58]⟩, ⟨#[49, 50]⟩, ⟨#[61]⟩, ⟨#[59]⟩]
theorem wordL_at {V : World} {B : Nat} {Z : TypeId} (h : V.heap[B]? = some (.cells #[.string ⟨#[97]⟩, .string ⟨#[98]⟩, .string ⟨#[73, 110, 116]⟩, .string ⟨#[76, 105, 115, 116]⟩, .string ⟨#[80, 97, 105, 114]⟩, .string ⟨#[40]⟩, .string ⟨#[41]⟩, .string ⟨#[45, 62]⟩, .string ⟨#[45, 62]⟩, .string ⟨#[40]⟩, .string ⟨#[41]⟩, .string ⟨#[108, 101, 116]⟩, .string ⟨#[46]⟩, .string ⟨#[58]⟩, .string ⟨#[49, 50]⟩, .string ⟨#[61]⟩, .string ⟨#[59]⟩] Z (0, 0))) (m : Nat) (hm : m < 17) :
    ∃ x : ByteArray, x.size ≤ 4 ∧ V.cell? ⟨B, m, none⟩ = some (.string x) := by
  have hc : m = 0 ∨ m = 1 ∨ m = 2 ∨ m = 3 ∨ m = 4 ∨ m = 5 ∨ m = 6 ∨ m = 7 ∨ m = 8 ∨ m = 9 ∨ m = 10 ∨ m = 11 ∨ m = 12 ∨ m = 13 ∨ m = 14 ∨ m = 15 ∨ m = 16 := by omega
  rcases hc with rfl | rfl | rfl | rfl | rfl | rfl | rfl | rfl | rfl | rfl | rfl | rfl | rfl | rfl | rfl | rfl | rfl
  all_goals
    refine ⟨_, ?_, (by simp only [World.cell?, h]; rfl)⟩
    decide
/-- No text has more tokens than bytes. -/
theorem ftoks_len (l : List UInt8) : (ftoks l).length ≤ 4000 := by
  unfold ftoks
  split
  · simp
  · rename_i hl
    split
    · have := sc_len _ l 0 (Nat.le_refl _); omega
    · simp
end Go.Proofs.Ytgfjcpeeoapjlaa

/- The law's own sanity check is true. -/
namespace Go.Proofs.Ytgfjcpeeoapjlaa
open Go.RowKit Go.Maps Mth

def src1 : ByteArray := ⟨#[76, 105, 115, 116, 32, 97, 32, 45, 62, 32, 73, 110, 116]⟩
def src2 : ByteArray := ⟨#[40, 32, 97, 32, 45, 62]⟩
def listN : ByteArray := ⟨#[76, 105, 115, 116]⟩
def nameA : Ty := .mk 5 ⟨#[97]⟩ 0 0 []
def tyOne : Ty := con arrN [con listN [nameA], con intN []]
theorem r1n : (rdT (ftoks (bl src1)) 0).n = 4 := by decide +kernel
theorem r1e : (rdT (ftoks (bl src1)) 0).e = 0 := by decide +kernel
theorem r1p : (rdT (ftoks (bl src1)) 0).p = 0 := by decide +kernel
theorem r1T : teq (rdT (ftoks (bl src1)) 0).T tyOne = true := by decide +kernel
theorem r2e : (rdT (ftoks (bl src2)) 0).e = 3 := by decide +kernel
theorem r2p : (rdT (ftoks (bl src2)) 0).p = 6 := by decide +kernel
theorem keepCall {W a b : World} (h1 : Below W.heap.size W a) (h2 : Below a.heap.size a b) : Below W.heap.size W b := h1.trans (h2.mono h1.size)
theorem keepAlloc {W a : World} (o : Obj) (h1 : Below W.heap.size W a) : Below W.heap.size W (a.alloc o) := h1.alloc h1.size o
theorem listN_ok : listN.size ≤ maxLen := by unfold maxLen; decide +kernel
theorem repL_one {x v : World} (hb : Below (x.alloc (.cells #[.int .i64 5, .string ⟨#[97]⟩, .int .i64 0, .int .i64 0, .slice none 0 0] 34)).heap.size (x.alloc (.cells #[.int .i64 5, .string ⟨#[97]⟩, .int .i64 0, .int .i64 0, .slice none 0 0] 34)) v) : RepL v (fun _ => True) [nameA] (.slice (some ⟨x.heap.size, 0, none⟩) 1 1) := by
  refine RepL.lift ?_ hb
  refine ⟨some ⟨x.heap.size, 0, none⟩, 1, rfl, ⟨Nat.le_refl _, by simp [maxLen]⟩, fun j T hj => ?_⟩
  rcases j with _ | j
  · simp at hj; subst hj
    exact ⟨_, _, rfl, trivial, one_new _ _ rfl, rep_leaf _ _ 5 ⟨#[97]⟩ 0 0 (by unfold maxLen; decide +kernel)⟩
  · simp at hj
theorem con1_any (ad : Addr) (w : World) (h : RepL w (fun _ => True) [nameA] (.slice (some ad) 1 1)) :
    Calls Try.prog 41 #[.string ⟨#[76, 105, 115, 116]⟩, .slice (some ad) 1 1] w fun e w' => ∃ a c, e = .returned (.agg #[.int .i64 4, .string ⟨#[76, 105, 115, 116]⟩, .int .i64 0, .int .i64 0, .slice a 1 c]) ∧ Rep w' (fun _ => True) (con listN [nameA]) (.agg #[.int .i64 4, .string ⟨#[76, 105, 115, 116]⟩, .int .i64 0, .int .i64 0, .slice a 1 c]) ∧ Below w.heap.size w w' := by
  refine (refCon_any listN [nameA] (by simp) ad 1 (fun _ => True) w (fun _ _ => trivial) h).mono ?_
  rintro e w' ⟨a, c, rfl, hr, hb⟩
  exact ⟨a, c, rfl, Rep.close listN_ok hr, hb⟩
theorem arr1_any (v u : Value) (w : World) (h : Rep w (fun _ => True) (con listN [nameA]) v) (h' : Rep w (fun _ => True) (con intN []) u) :
    Calls Try.prog 42 #[v, u] w fun e w' => ∃ a c, e = .returned (.agg #[.int .i64 4, .string arrN, .int .i64 0, .int .i64 0, .slice a 2 c]) ∧ Rep w' (fun _ => True) tyOne (.agg #[.int .i64 4, .string arrN, .int .i64 0, .int .i64 0, .slice a 2 c]) ∧ Below w.heap.size w w' := by
  refine (refArrow_any _ _ v u (fun _ => True) w (fun _ _ => trivial) h h').mono ?_
  rintro e w' ⟨a, c, rfl, hr, hb⟩
  exact ⟨a, c, rfl, Rep.close arrN_ok' hr, hb⟩
theorem int1 (w : World) : Rep w (fun _ => True) (con intN []) (.agg #[.int .i64 4, .string intN, .int .i64 0, .int .i64 0, .slice none 0 0]) := rep_leaf _ _ 4 intN 0 0 (by unfold maxLen; decide +kernel)
theorem flt_cells {V : World} {n : Nat} {e p : Value} (h : V.heap[n]? = some (.cells #[e, p] 45 (0, 0))) : V.cell? ⟨n, 0, none⟩ = some e ∧ V.cell? ⟨n, 1, none⟩ = some p := by simp [World.cell?, h]
end Go.Proofs.Ytgfjcpeeoapjlaa

/- Slices of tokens of any make. -/
namespace Go.Proofs.Ytgfjcpeeoapjlaa
open Go.RowKit Go.Maps Mth

/-- A token of any make. -/
structure Raw where
  k : Int
  x : ByteArray
  p : Int
def rawC (r : Raw) : List Value := [.int .i64 r.k, .string r.x, .int .i64 r.p]
def rawRow (l : List Raw) : List Value := (l.map rawC).flatten
def tokRaw (t : Tok) : Raw := ⟨t.kind, ⟨t.text.toArray⟩, t.pos⟩
theorem row3_raw (ts : List Tok) : row3 ts = rawRow (ts.map tokRaw) := by
  rw [row3_flat]
  unfold rawRow
  rw [List.map_map]
  rfl
theorem rawRow_append (l m : List Raw) : rawRow (l ++ m) = rawRow l ++ rawRow m := by simp [rawRow]
theorem rawRow_len (l : List Raw) : (rawRow l).length = l.length * 3 := by
  induction l with
  | nil => rfl
  | cons r l ih => rw [show r :: l = [r] ++ l from rfl, rawRow_append, List.length_append, ih]; simp [rawRow, rawC]; omega
theorem rawRow_get (l : List Raw) (j m : Nat) (r : Raw) (u : Value) (ht : l[j]? = some r) (hu : (rawC r)[m]? = some u) : (rawRow l)[j * 3 + m]? = some u :=
  flat_get 3 _ (fun c hc => by simp at hc; obtain ⟨t, _, rfl⟩ := hc; rfl) j m _ u (by rw [List.getElem?_map, ht]; rfl) hu
/-- The tokens of a slice, cell by cell. -/
def RawAt (w : World) (v : Value) (rs : List Raw) : Prop :=
  ∃ a cap, v = .slice a rs.length cap ∧ (rs.length ≤ cap ∧ cap ≤ maxLen) ∧ ∀ (j : Nat) (r : Raw), rs[j]? = some r → ∃ ad, a = some ad ∧
    w.cell? (ad.add (j * 3)) = some (.int .i64 r.k) ∧ w.cell? ⟨(ad.add (j * 3)).block, (ad.add (j * 3)).off + 1, none⟩ = some (.string r.x) ∧ w.cell? ⟨(ad.add (j * 3)).block, (ad.add (j * 3)).off + 2, none⟩ = some (.int .i64 r.p)
theorem RawAt.lift {w w' : World} {v : Value} {rs : List Raw} (h : RawAt w v rs) (hb : Below w.heap.size w w') : RawAt w' v rs := by
  obtain ⟨a, cap, hv, hcap, hc⟩ := h
  refine ⟨a, cap, hv, hcap, fun j r hr => ?_⟩
  obtain ⟨ad, ha, h1, h2, h3⟩ := hc j r hr
  have k : ∀ p v, w.cell? p = some v → w'.cell? p = some v := fun p v h => by rw [hb.cell (World.block_lt_of_cell? _ _ h)]; exact h
  exact ⟨ad, ha, k _ _ h1, k _ _ h2, k _ _ h3⟩
theorem rawAt_of_row {w : World} {base : Nat} {v : Value} {rs : List Raw} (h : w.ownsRow base 117 3 v rs.length (rawRow rs)) : RawAt w v rs := by
  have hc := fun g (hv : v.ownBlock = some g) => h.cells (g := g) hv
  obtain ⟨-, hh⟩ := h
  rcases hh with ⟨rfl, h0⟩ | ⟨g, cap, cur, rfl, hg, hb, hn, hm, _⟩
  · have : rs = [] := List.eq_nil_of_length_eq_zero h0
    subst this
    exact ⟨none, 0, rfl, ⟨Nat.le_refl _, Nat.zero_le _⟩, fun j t h => by simp at h⟩
  · refine ⟨some ⟨g, 0, none⟩, cap, rfl, ⟨hn, hm⟩, fun j r hr => ⟨_, rfl, ?_, ?_, ?_⟩⟩
    · exact hc g rfl _ _ (rawRow_get rs j 0 r _ hr rfl)
    · rw [add_add' _ _ _ (by omega)]; exact hc g rfl _ _ (rawRow_get rs j 1 r _ hr rfl)
    · rw [add_add' _ _ _ (by omega)]; exact hc g rfl _ _ (rawRow_get rs j 2 r _ hr rfl)
theorem six_new {w : World} {Z : TypeId} {n : Nat} (hn : n = w.heap.size) (r s : Raw) : ∀ (j : Nat) (u : Value), (rawRow [r, s])[j]? = some u → (w.alloc (.cells #[.int .i64 r.k, .string r.x, .int .i64 r.p, .int .i64 s.k, .string s.x, .int .i64 s.p] Z)).cell? ((⟨n, 0, none⟩ : Addr).add j) = some u := by
  subst hn
  intro j u hj
  have hl := (List.getElem?_eq_some_iff.1 hj).1
  rw [rawRow_len] at hl
  have hc : j = 0 ∨ j = 1 ∨ j = 2 ∨ j = 3 ∨ j = 4 ∨ j = 5 := by simp at hl; omega
  rcases hc with rfl | rfl | rfl | rfl | rfl | rfl
  all_goals
    simp [rawRow, rawC] at hj
    subst hj
    simp [Addr.add]
theorem six_one (r s : Raw) : ∀ u ∈ rawRow [r, s], u.oneCell' = true := by
  intro u hu
  simp [rawRow, rawC] at hu
  rcases hu with h | h | h | h | h | h <;> subst h <;> rfl
theorem ints_one {w : World} {Z : TypeId} {n : Nat} (hn : n = w.heap.size) (z : Int) : Ints (w.alloc (.cells #[.int .i64 z] Z)) (.slice (some ⟨n, 0, none⟩) 1 1) [z] := by
  subst hn
  refine ⟨_, 1, rfl, Nat.le_refl _, by simp [maxLen], fun i x hx => ⟨_, rfl, ?_⟩⟩
  rcases i with _ | i
  · simp at hx; subst hx; simp [Addr.add]
  · simp at hx
def RawOk (R : List Raw) : Prop := R.length ≤ 200000 ∧ ∀ r ∈ R, r.x.size ≤ maxLen
theorem row_raw {w : World} {base : Nat} {v : Value} {ts : List Tok} (r s : Raw) (h : w.ownsRow base 117 3 v (ts.length + 2) (row3 ts ++ rawRow [r, s])) (hok : TkOk ts) (hr : r.x.size ≤ maxLen) (hs : s.x.size ≤ maxLen) : ∃ (R : List Raw) (a : Option Addr) (cap : Nat), v = .slice a R.length cap ∧ RawAt w (.slice a R.length cap) R ∧ RawOk R := by
  have e : (ts.map tokRaw ++ [r, s]).length = ts.length + 2 := by simp
  rw [row3_raw, ← rawRow_append, ← e] at h
  have h' := rawAt_of_row h
  obtain ⟨a, cap, hv, rest⟩ := h'
  refine ⟨_, a, cap, hv, ⟨a, cap, rfl, rest⟩, by rw [e]; have := hok.1; omega, fun q hq => ?_⟩
  rcases List.mem_append.1 hq with hq | hq
  · obtain ⟨t, ht, rfl⟩ := List.mem_map.1 hq
    have := (hok.2 t ht).1
    show (⟨t.text.toArray⟩ : ByteArray).size ≤ maxLen
    have e2 : (⟨t.text.toArray⟩ : ByteArray).size = t.text.length := by rw [← bl_len, bl_mk]
    rw [e2]; unfold maxLen; omega
  · simp at hq
    rcases hq with rfl | rfl
    · exact hr
    · exact hs
end Go.Proofs.Ytgfjcpeeoapjlaa
