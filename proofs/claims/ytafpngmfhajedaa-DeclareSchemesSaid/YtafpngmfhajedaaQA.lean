import Derived.Test.YtafpngmfhajedaaTyEls
import Derived.Laws.Tables
import Derived.Test.YtafpngmfhajedaaTyCon
import Derived.Test.YtafpngmfhajedaaTyFill
import Derived.Test.YtafpngmfhajedaaTyMake
import Derived.Deep.CutBlock
import Derived.Test.YtafpngmfhajedaaTyVars
import Derived.StringKeys
import Derived.Maps.OwnSet
import Derived.Deep.LoopGhost
import Derived.Test.YtafpngmfhajedaaTyDatas
/- A struct of any number of cells in a block of its own. -/
namespace Go.Proofs.Ytafpngmfhajedaa
open Go.RowKit Go.Maps Mth

def BoxC (t : TypeId) (w : World) (B : Nat) (c : List Value) : Prop := w.heap[B]? = some (.cells c.toArray t (0, 0))
theorem BoxC.kept {t : TypeId} {w w' : World} {B : Nat} {c : List Value} (h : BoxC t w B c) (hb : w'.heap[B]? = w.heap[B]?) : BoxC t w' B c := by unfold BoxC at *; rw [hb, h]
theorem BoxC.lt {t : TypeId} {w : World} {B : Nat} {c : List Value} (h : BoxC t w B c) : B < w.heap.size := (Array.getElem?_eq_some_iff.1 h).1
theorem BoxC.lift {t : TypeId} {w w' : World} {B : Nat} {c : List Value} (h : BoxC t w B c) (hb : Below w.heap.size w w') : BoxC t w' B c := h.kept (hb.block _ h.lt)
theorem BoxC.grown {t : TypeId} {w w' : World} {B : Nat} {c : List Value} {row : Option Nat} (h : BoxC t w B c) (hg : w.grownBy w' row) (hne : some B ≠ row) : BoxC t w' B c := h.kept (hg.block _ h.lt hne)
theorem BoxC.made (t : TypeId) (w : World) (c : List Value) : BoxC t (w.alloc (.cells c.toArray t)) w.heap.size c := heap_alloc_new w _
theorem BoxC.cell {t : TypeId} {w : World} {B : Nat} {c : List Value} (h : BoxC t w B c) (m : Nat) (u : Value) (hu : c[m]? = some u) : w.cell? ⟨B, m, none⟩ = some u := by
  unfold BoxC at h
  simp [World.cell?, h, hu]
theorem BoxC.free {t : TypeId} {w : World} {B : Nat} {c : List Value} (h : BoxC t w B c) (m : Nat) : w.frozen? ⟨B, m, none⟩ = false := by
  unfold BoxC at h
  simp [World.frozen?, h]
theorem BoxC.set {t : TypeId} {w : World} {B : Nat} {c : List Value} (h : BoxC t w B c) (m : Nat) (v : Value) :
    BoxC t (w.setCell ⟨B, m, none⟩ v) B (c.set m v) ∧ w.grownBy (w.setCell ⟨B, m, none⟩ v) (some B) ∧ (w.setCell ⟨B, m, none⟩ v).heap.size = w.heap.size := by
  obtain ⟨h1, h2⟩ := set1 h m v
  refine ⟨?_, h2⟩
  unfold BoxC
  rw [h1]
  simp
theorem BoxC.row {t : TypeId} {w : World} {B : Nat} {c : List Value} (h : BoxC t w B c) (c' : List Value) :
    BoxC t (w.setRow B c'.toArray) B c' ∧ w.grownBy (w.setRow B c'.toArray) (some B) ∧ (w.setRow B c'.toArray).heap.size = w.heap.size := by
  refine ⟨?_, ⟨rfl, rfl, rfl, by simp [World.setRow], fun k _ hk => ?_⟩, by simp [World.setRow]⟩
  · unfold BoxC at *
    simp [World.setRow, Array.getElem?_modify, h]
  · have hne : ¬ B = k := fun e => hk (by rw [e])
    simp [World.setRow, Array.getElem?_modify, hne]
/-- A whole struct is stored into its block. -/
theorem wpList_storeC {t : TypeId} {w : World} {ops : Array Oper} {rest : List Oper} {o : Oper} {a : Act} {Q : Exit → Act → World → Prop} (hgd : o.guard = none) (p x : Operand) (ho : o.op = Op.store t p x)
    (B : Nat) (c c' : List Value) (hB : BoxC t w B c) (hp : a.eval p = .pointer (some ⟨B, 0, none⟩)) (hx : a.eval x = .agg c'.toArray) (hi : (Try.prog.info? t).map (·.size) = some c'.length) (hl : c.length = c'.length) (h1 : ∀ u ∈ c', u.oneCell' = true)
    (hK : ∀ w', BoxC t w' B c' → w.grownBy w' (some B) → w'.heap.size = w.heap.size → wpList Try.prog ops Q rest (a.put o.dst undef) w') :
    wpList Try.prog ops Q (o :: rest) a w := by
  refine wpList_store_row hgd t p x ho B c'.toArray hp hx t c.toArray hB (by simpa using hi) (by simpa using hl) (Array.all_eq_true_iff_forall_mem.2 fun v hv => h1 v (by simpa using hv)) ?_
  obtain ⟨h1, h2, h3⟩ := hB.row c'
  exact hK _ h1 h2 h3
end Go.Proofs.Ytafpngmfhajedaa

/- types.Con and types.Arrow at this seat. -/
namespace Go.Proofs.Ytafpngmfhajedaa
open Go.RowKit Go.Maps Mth

theorem rowT_empty {w : World} {n : Nat} {Z : TypeId} (hZ : Z = 39) (hn : n = w.heap.size) (base : Nat) (hb : base ≤ n) (S : Nat → Prop) : RowT (w.alloc (.cells #[] Z)) base S (.slice (some ⟨n, 0, none⟩) 0 0) [] := by
  subst hn hZ
  exact ⟨[], ⟨rfl, .inr ⟨w.heap.size, 0, #[], rfl, hb, heap_alloc_new w _, Nat.le_refl _, Nat.zero_le _, rfl, rfl⟩⟩, rfl, fun j T h => by simp at h⟩
set_option maxRecDepth 100000 in
set_option maxHeartbeats 1600000 in
theorem clone_any (ts : List Ty) (hl : ts.length ≤ 1000000) (v : Value) (S : Nat → Prop) (w : World) (hS : ∀ b, w.heap.size ≤ b → S b) (h : RepL w S ts v) :
    Calls Try.prog 74 #[v] w fun e w' => ∃ a c, e = .returned (.slice a ts.length c) ∧ RepL w' S ts (.slice a ts.length c) ∧ Below w.heap.size w w' := by
  have HR := Lib.hid h
  obtain ⟨a, cap, rfl, hcap, hj⟩ := h
  clear hj
  cases a with
  | none =>
    obtain ⟨rfl, h0⟩ := repL_none HR.out
    clear h0
    have hq : ∀ w, (binOp .eql 37 (.slice none 0 cap) (.slice none 0 0)).run Try.prog w = .ok (.bool true) w := fun w => Lib.run_eql_slice_nil w 37 39 none 0 cap 0 0 Try.underlying37
    go_enter Try.func74, Try.ntmps74
    go_wp2
    go_ret
    exact ⟨none, 0, rfl, repL_nil _ _, Below.refl _ w⟩
  | some ad =>
    obtain ⟨m, hm⟩ : ∃ m, m = ts.length := ⟨_, rfl⟩
    rw [← hm] at hl hcap ⊢
    have HM := Lib.hid hm
    clear hm
    have hb0 : Below w.heap.size w (w.alloc (.cells #[] 39)) := (Below.refl _ w).alloc (Nat.le_refl _) _
    have hnews : ∀ j T, ts[j]? = some T → ∃ y, Five (w.alloc (.cells #[] 39)) ad j y ∧ Rep (w.alloc (.cells #[] 39)) (fun b => (b < w.heap.size ∧ S b) ∧ some b ≠ (Value.slice (some ⟨w.heap.size, 0, none⟩) 0 0).ownBlock) T y := by
      intro j T hj
      obtain ⟨a', c', hv', _, hr'⟩ := HR.out
      simp at hv'
      obtain ⟨rfl, rfl⟩ := hv'
      obtain ⟨ad', y, e, _, h5, hrep⟩ := hr' j T hj
      cases e
      exact ⟨y, h5.kept (hb0.block _ h5.lt), (hrep.bound.lift hb0).imp fun b hb => ⟨⟨hb.2, hb.1⟩, by simp [Value.ownBlock]; have := hb.2; omega⟩⟩
    have HN := Lib.hid hnews
    have HB0 := Lib.hid hb0
    have HRw : Hid (RowT (w.alloc (.cells #[] 39)) w.heap.size (fun b => b < w.heap.size ∧ S b) (.slice (some ⟨w.heap.size, 0, none⟩) 0 0) []) := rowT_empty rfl rfl _ (Nat.le_refl _) _
    have hsz : w.heap.size ≤ (w.alloc (.cells #[] 39)).heap.size := hb0.size
    clear hnews hb0
    have hq : ∀ w, (binOp .eql 37 (.slice (some ad) m cap) (.slice none 0 0)).run Try.prog w = .ok (.bool false) w := fun w => Lib.run_eql_slice_nil w 37 39 (some ad) m cap 0 0 Try.underlying37
    go_enter Try.func74, Try.ntmps74
    go_wp2_with (at_builtin; refine wpList_pushT rfl _ _ rfl w.heap.size (fun b => b < w.heap.size ∧ S b) (.slice (some ⟨w.heap.size, 0, none⟩) 0 0) [] rfl HRw.out _ _ _ rfl ts HM.out.symm HN.out m (by simp) hl hsz ?_; intro a1 c1 w1 hrow hg hloc)
    go_ret
    exact ⟨a1, c1, rfl, hrow.repL (fun b hb => hb.2) (fun b hb => hS b hb), Below.grown HB0.out hg HB0.out.size (fun k hk => by simp [Value.ownBlock] at hk; omega)⟩
set_option maxHeartbeats 1600000 in
theorem con_any (n : ByteArray) (ts : List Ty) (hl : ts.length ≤ 1000000) (a : Option Addr) (cap : Nat) (S : Nat → Prop) (w : World) (hS : ∀ b, w.heap.size ≤ b → S b) (h : RepL w S ts (.slice a ts.length cap)) :
    Calls Try.prog 43 #[.string n, .slice a ts.length cap] w fun e w' => ∃ a c, e = .returned (.agg #[.int .i64 4, .string n, .int .i64 0, .int .i64 0, .slice a ts.length c]) ∧ RepL w' S ts (.slice a ts.length c) ∧ Below w.heap.size w w' := by
  have hb0 : Below w.heap.size w (w.alloc (.cells #[.int .i64 0, .string ⟨#[]⟩, .int .i64 0, .int .i64 0, .slice none 0 0] 39)) := (Below.refl _ w).alloc (Nat.le_refl _) _
  have HZ : Hid (Zero (w.alloc (.cells #[.int .i64 0, .string ⟨#[]⟩, .int .i64 0, .int .i64 0, .slice none 0 0] 39)) w.heap.size) := Box.made _ _ _ _ _ _
  have hsz : (w.alloc (.cells #[.int .i64 0, .string ⟨#[]⟩, .int .i64 0, .int .i64 0, .slice none 0 0] 39)).heap.size = w.heap.size + 1 := by simp
  have HC : Hid (Calls Try.prog 74 #[.slice a ts.length cap] (w.alloc (.cells #[.int .i64 0, .string ⟨#[]⟩, .int .i64 0, .int .i64 0, .slice none 0 0] 39)) fun e w' => ∃ a c, e = .returned (.slice a ts.length c) ∧ RepL w' (fun b => S b ∧ b ≠ w.heap.size) ts (.slice a ts.length c) ∧ Below (w.alloc (.cells #[.int .i64 0, .string ⟨#[]⟩, .int .i64 0, .int .i64 0, .slice none 0 0] 39)).heap.size (w.alloc (.cells #[.int .i64 0, .string ⟨#[]⟩, .int .i64 0, .int .i64 0, .slice none 0 0] 39)) w') :=
    clone_any ts hl _ (fun b => S b ∧ b ≠ w.heap.size) _ (fun b hb => by rw [hsz] at hb; exact ⟨hS b (by omega), by omega⟩) (by
      obtain ⟨a', cap', hv, hcap, hj⟩ := h
      refine ⟨a', cap', hv, hcap, fun j T hT => ?_⟩
      obtain ⟨ad, x, h1, h2, h3, h4⟩ := hj j T hT
      exact ⟨ad, x, h1, ⟨h2, by have := h3.lt; omega⟩, h3.kept (hb0.block _ h3.lt), (h4.bound.lift hb0).imp fun b hb => ⟨hb.1, by have := hb.2; omega⟩⟩)
  have HB0 := Lib.hid hb0
  clear h hb0 hsz
  generalize ts.length = m at *
  go_enter Try.func43, Try.ntmps43
  go_upto_region 1 with fail
  generalize (w.alloc (.cells #[.int .i64 0, .string ⟨#[]⟩, .int .i64 0, .int .i64 0, .slice none 0 0] 39)) = V at *
  go_wp2_with fail
  go_at_call 74
  refine HC.out.mono ?_
  rintro e w1 ⟨a1, c1, rfl, hrep, hb1⟩
  have HZ1 := Lib.hid (Box.lift HZ.out hb1)
  have HR1 := Lib.hid hrep
  have HB1 := Lib.hid (HB0.out.trans (hb1.mono HB0.out.size))
  clear hrep hb1 HZ HC
  go_wp2_with (refine wpList_store5 rfl _ _ rfl _ _ _ _ _ _ HZ1.out rfl _ _ _ _ _ _ _ rfl ?_; intro w2 hB2 hg2 hs2)
  obtain ⟨c0, c1', c2, c3, c4⟩ := hB2.cells
  refine bodyPost_ret (by simp [results, Try.results43, go_sem, c0, c1', c2, c3, c4]; try rfl) rfl ?_
  exact ⟨a1, c1, rfl, HR1.out.kept (fun b hb => hb.1) (fun b hb hlt => hg2.block b hlt (by intro e; have := Option.some.inj e; exact hb.2 this)), Below.grown HB1.out hg2 HB1.out.size (fun k hk => by have := Option.some.inj hk; omega)⟩
set_option maxHeartbeats 1600000 in
theorem pkArr_any (T U : Ty) (v u : Value) (S : Nat → Prop) (w : World) (hS : ∀ b, w.heap.size ≤ b → S b) (h : Rep w S T v) (h' : Rep w S U u) :
    Calls Try.prog 45 #[v, u] w fun e w' => ∃ a c, e = .returned (.agg #[.int .i64 4, .string arrN, .int .i64 0, .int .i64 0, .slice a 2 c]) ∧ RepL w' S [T, U] (.slice a 2 c) ∧ Below w.heap.size w w' := by
  obtain ⟨k, n, i, hm, s, eT, rfl, hn, hs⟩ := h.open
  obtain ⟨k', n', i', hm', s', eU, rfl, hn', hs'⟩ := h'.open
  obtain ⟨sa, sc, rfl, -⟩ := hs
  obtain ⟨sa', sc', rfl, -⟩ := hs'
  have HR := Lib.hid h
  have HR' := Lib.hid h'
  clear h h' eT eU hn hn'
  generalize T.ts.length = sn at *
  generalize U.ts.length = sn' at *
  go_enter Try.func45, Try.ntmps45
  go_wp2_with fail
  go_at_call 43
  have hb3 : ∀ A B C, Below w.heap.size w (((w.alloc (.cells A 39)).alloc (.cells B 39)).alloc (.cells C 39)) := fun A B C => (((Below.refl _ w).alloc (Nat.le_refl _) _).alloc (by simp) _).alloc (by simp; omega) _
  refine (con_any arrN [T, U] (by simp) (some ⟨w.heap.size + 1 + 1 + 1, 0, none⟩) 2 (fun b => S b ∧ b ≠ w.heap.size + 1 + 1) _ (fun b hb => ⟨hS b (by simp at hb; omega), by simp at hb; omega⟩)
    (two_new (hb3 _ _ _) (HR.out.bound.imp fun b hb => ⟨hb.1, by omega⟩) (HR'.out.bound.imp fun b hb => ⟨hb.1, by omega⟩) _ _ (by simp) ⟨hS _ (by omega), by omega⟩)).mono ?_
  rintro e w1 ⟨a, c, rfl, hrep, hb1⟩
  have hbw := (((hb3 _ _ _).alloc (hb3 _ _ _).size _)).trans (hb1.mono (by simp; omega))
  have HB : Hid (Zero w1 (w.heap.size + 1 + 1)) := Box.lift (by unfold Box; rw [heap_at, if_neg (by simp), heap_at, if_pos (by simp)]) hb1
  have hsz := hb1.size
  clear hb1
  go_wp2_with (refine wpList_store5 rfl _ _ rfl _ _ _ _ _ _ HB.out rfl _ _ _ _ _ _ _ rfl ?_; intro w2 hB2 hg2 hs2)
  obtain ⟨c0, c1, c2, c3, c4⟩ := hB2.cells
  refine bodyPost_ret (by simp [results, Try.results45, go_sem, c0, c1, c2, c3, c4]; try rfl) rfl ?_
  exact ⟨a, c, rfl, hrep.kept (fun b hb => hb.1) (fun b hb hlt => hg2.block b hlt (by intro e; cases e; exact hb.2 rfl)), Below.grown hbw hg2 hbw.size (fun j hj => by cases hj; omega)⟩
theorem con_any' (n : ByteArray) (ts : List Ty) (hl : ts.length ≤ 1000000) (hn : n.size ≤ maxLen) (v : Value) (S : Nat → Prop) (w : World) (hS : ∀ b, w.heap.size ≤ b → S b) (h : RepL w S ts v) :
    Calls Try.prog 43 #[.string n, v] w fun e w' => ∃ u, e = .returned u ∧ Rep w' S (con n ts) u ∧ Below w.heap.size w w' := by
  obtain ⟨a, cap, rfl, -⟩ := id h
  exact (con_any n ts hl a cap S w hS h).mono fun _ _ ⟨_, _, h1, h2, h3⟩ => ⟨_, h1, Rep.close hn h2, h3⟩
theorem arrN_fits : arrN.size ≤ maxLen := by unfold maxLen; decide +kernel
theorem pkArr_any' (T U : Ty) (v u : Value) (S : Nat → Prop) (w : World) (hS : ∀ b, w.heap.size ≤ b → S b) (h : Rep w S T v) (h' : Rep w S U u) :
    Calls Try.prog 45 #[v, u] w fun e w' => ∃ x, e = .returned x ∧ Rep w' S (con arrN [T, U]) x ∧ Below w.heap.size w w' :=
  (pkArr_any T U v u S w hS h h').mono fun _ _ ⟨_, _, h1, h2, h3⟩ => ⟨_, h1, Rep.close arrN_fits h2, h3⟩
end Go.Proofs.Ytafpngmfhajedaa

/- Maps by names: how many arguments a known constructor takes; which names were seen. -/
namespace Go.Proofs.Ytafpngmfhajedaa
open Go.RowKit Go.Sort Go.Shelf Go.Maps Go.WideMaps Mth

/-- The first entry of a name. -/
def kf : List (List UInt8 × Int) → List UInt8 → Option Int
  | [], _ => none
  | p :: l, s => if p.1 == s then some p.2 else kf l s
theorem kf_snoc (s t : List UInt8) (n : Int) : ∀ ks, kf ks s = none → kf (ks ++ [(s, n)]) t = if s = t then some n else kf ks t := by
  intro ks
  induction ks with
  | nil =>
    intro _
    by_cases h : s = t
    · subst h; simp [kf]
    · simp [kf, h]
  | cons p l ih =>
    intro h
    simp only [kf] at h
    split at h
    · cases h
    · rename_i hp
      simp only [List.cons_append, kf]
      rw [ih h]
      by_cases hst : s = t
      · subst hst; rw [if_pos rfl, if_pos rfl, if_neg hp]
      · rw [if_neg hst]; simp [hst]
structure KD (D : DataW Unit) (ks : List (List UInt8 × Int)) : Prop where
  isMap : IsMap D
  has : ∀ s, Maps.has D (.string s) = (kf ks s).isSome
  look : ∀ s, D.atKey (.string s) (.lit (.int .i64 0)) = .lit (.int .i64 ((kf ks s).getD 0))
theorem KD.nil : KD (.map []) [] := ⟨isMap_empty, fun _ => rfl, fun _ => rfl⟩
theorem strLit_ne {s t : List UInt8} (h : ¬ s = t) : (Lit.string t : Lit) ≠ .string s := fun e => h (by cases e; rfl)
theorem KD.put {D : DataW Unit} {ks : List (List UInt8 × Int)} (h : KD D ks) {s : List UInt8} (hs : kf ks s = none) (n : Int) : KD (D.put (.string s) (.lit (.int .i64 n))) (ks ++ [(s, n)]) := by
  refine ⟨h.isMap.put _ _, fun t => ?_, fun t => ?_⟩
  · rw [kf_snoc s t n ks hs]
    by_cases hst : s = t
    · subst hst; rw [has_put_same h.isMap (by simp [WideAt.IsKeyLit]), if_pos rfl]; rfl
    · rw [has_put_other (strLit_ne hst), if_neg hst, h.has]
  · rw [kf_snoc s t n ks hs]
    by_cases hst : s = t
    · subst hst; rw [atKey_put_same h.isMap (by simp [WideAt.IsKeyLit]), if_pos rfl]; rfl
    · rw [atKey_put_other (strLit_ne hst), if_neg hst, h.look]
/-- The block b holds the known constructors. -/
def KM (w : World) (b n : Nat) (ks : List (List UInt8 × Int)) : Prop := ∃ D : DataW Unit, w.ownsMap Try.prog 9 (plainElem Try.prog 3) b n D ∧ KD D ks
theorem KM.lt {w : World} {b n : Nat} {ks : List (List UInt8 × Int)} (h : KM w b n ks) : b < w.heap.size := by
  obtain ⟨D, h, -⟩ := h
  exact h.lt
theorem KM.kept {w w' : World} {b n : Nat} {ks : List (List UInt8 × Int)} {row : Option Nat} (h : KM w b n ks) (hg : w.grownBy w' row) (hne : some b ≠ row) : KM w' b n ks := by
  obtain ⟨D, h, k⟩ := h
  exact ⟨D, h.kept hg hne, k⟩
theorem KM.lift {w w' : World} {b n : Nat} {ks : List (List UInt8 × Int)} (h : KM w b n ks) (hb : Below w.heap.size w w') : KM w' b n ks := h.kept (grown_of_below hb none) (by simp)
theorem KM.alloc {w : World} {b n : Nat} {ks : List (List UInt8 × Int)} (h : KM w b n ks) (o : Obj) : KM (w.alloc o) b n ks := h.kept (World.grownBy_alloc w o none) (by simp)
theorem KM.mono {w : World} {b n m : Nat} {ks : List (List UInt8 × Int)} (h : KM w b n ks) (hn : n ≤ m) : KM w b m ks := by
  obtain ⟨D, h, k⟩ := h
  exact ⟨D, h.mono hn, k⟩
theorem KM.made (w : World) : KM (w.alloc (.map #[] 0)) w.heap.size 0 [] := ⟨_, World.ownsMap_made w Try.prog 9 _, KD.nil⟩
theorem Try.strKey : Keyed Try.prog 9 := string_keyed Try.underlying9
theorem Try.zeroInt (w : World) : (zeroValue 3).run Try.prog w = .ok (.int .i64 0) w := by kernel_rfl
section
variable (w : World) {ops : Array Oper} {rest : List Oper} {o : Oper} {a : Act} {Q : Exit → Act → World → Prop}
theorem wpList_kLook (hgd : o.guard = none) (m x : Operand) (hop : o.op = Op.lookup 112 m x true) (b n : Nat) (ks : List (List UInt8 × Int)) (hm : a.eval m = .map (some b)) (hK : KM w b n ks) (s : ByteArray) (hx : a.eval x = .string s) (hs : s.size ≤ maxLen)
    (hN : wpList Try.prog ops Q rest (a.put o.dst (.tuple #[.int .i64 ((kf ks (bl s)).getD 0), .bool (kf ks (bl s)).isSome])) w) : wpList Try.prog ops Q (o :: rest) a w := by
  obtain ⟨D, hown, hD⟩ := hK
  refine wpList_lookup_own_ok_int w hgd m x _ hop _ _ .i64 Try.strKey Try.underlying112 Try.underlying3 (Try.zeroInt _) b n D hm hown _ _ hx (keyOf_string_mk Try.underlying9 hs) fun c hc _ => ?_
  have h1 := hD.look (bl s)
  have h2 := hD.has (bl s)
  rw [show Lit.string s.data.toList = .string (bl s) from rfl] at hc ⊢
  rw [hc] at h1
  cases h1
  rw [h2]
  exact hN
theorem wpList_kPut (hgd : o.guard = none) (m x v : Operand) (hop : o.op = Op.mapUpdate 112 m x v) (b n : Nat) (ks : List (List UInt8 × Int)) (hm : a.eval m = .map (some b)) (hK : KM w b n ks) (hn : n < maxLen) (s : ByteArray) (hx : a.eval x = .string s) (hs : s.size ≤ maxLen)
    (hno : kf ks (bl s) = none) (c : Int) (hv : a.eval v = .int .i64 c) (hc : (Lit.int .i64 c).wf = true) (hN : ∀ w', KM w' b (n + 1) (ks ++ [(bl s, c)]) → w.grownBy w' (some b) → wpList Try.prog ops Q rest (a.put o.dst undef) w') : wpList Try.prog ops Q (o :: rest) a w := by
  obtain ⟨D, hown, hD⟩ := hK
  refine wpList_mapUpdate_own (H := Unit) w hgd m x v _ hop _ _ Try.strKey Try.underlying112 (plainElem Try.prog 3) b n D hm hown hn _ _ _ hx hv (keyOf_string_mk Try.underlying9 hs) _ [] (plainElem_int Try.underlying3 hc) fun w' h1 h2 => hN w' ⟨_, h1, ?_⟩ h2
  exact hD.put hno c
theorem wpList_kLay (hgd : o.guard = none) (m x v : Operand) (hop : o.op = Op.insert 112 m x v) (b n : Nat) (ks : List (List UInt8 × Int)) (hm : a.eval m = .map (some b)) (hK : KM w b n ks) (hn : n < maxLen) (s : ByteArray) (hx : a.eval x = .string s) (hs : s.size ≤ maxLen)
    (hno : kf ks (bl s) = none) (c : Int) (hv : a.eval v = .int .i64 c) (hc : (Lit.int .i64 c).wf = true) (hN : ∀ w', KM w' b (n + 1) (ks ++ [(bl s, c)]) → w.grownBy w' (some b) → wpList Try.prog ops Q rest (a.put o.dst undef) w') : wpList Try.prog ops Q (o :: rest) a w := by
  obtain ⟨D, hown, hD⟩ := hK
  refine wpList_plain hgd fun K' hK' => ?_
  obtain ⟨w', hrun, r1, r2⟩ := hown.update Try.strKey Try.underlying112 hn (keyOf_string_mk Try.underlying9 hs) (plainElem_int (H := Unit) Try.underlying3 hc)
  unfold Oper.wp
  simp [execOp, hop, hm, hx, hv, hrun, Result.andThen]
  exact hK' _ _ (hN w' ⟨_, r1, hD.put hno c⟩ r2)
end

/-! Names that were seen. -/
structure SD (D : DataW Unit) (ns : List (List UInt8)) : Prop where
  isMap : IsMap D
  look : ∀ s, D.atKey (.string s) (.lit (.bool false)) = .lit (.bool (ns.contains s))
theorem SD.nil : SD (.map []) [] := ⟨isMap_empty, fun _ => rfl⟩
theorem SD.put {D : DataW Unit} {ns : List (List UInt8)} (h : SD D ns) (s : List UInt8) : SD (D.put (.string s) (.lit (.bool true))) (ns ++ [s]) := by
  refine ⟨h.isMap.put _ _, fun t => ?_⟩
  by_cases hst : s = t
  · subst hst; rw [atKey_put_same h.isMap (by simp [WideAt.IsKeyLit])]; simp
  · rw [atKey_put_other (strLit_ne hst), h.look]
    have : (ns ++ [s]).contains t = ns.contains t := by
      have h1 : ¬ t = s := fun e => hst e.symm
      simp [h1]
    rw [this]
def SM (w : World) (b n : Nat) (ns : List (List UInt8)) : Prop := ∃ D : DataW Unit, w.ownsMap Try.prog 9 (plainElem Try.prog 4) b n D ∧ SD D ns
theorem SM.lt {w : World} {b n : Nat} {ns : List (List UInt8)} (h : SM w b n ns) : b < w.heap.size := by
  obtain ⟨D, h, -⟩ := h
  exact h.lt
theorem SM.kept {w w' : World} {b n : Nat} {ns : List (List UInt8)} {row : Option Nat} (h : SM w b n ns) (hg : w.grownBy w' row) (hne : some b ≠ row) : SM w' b n ns := by
  obtain ⟨D, h, k⟩ := h
  exact ⟨D, h.kept hg hne, k⟩
theorem SM.lift {w w' : World} {b n : Nat} {ns : List (List UInt8)} (h : SM w b n ns) (hb : Below w.heap.size w w') : SM w' b n ns := h.kept (grown_of_below hb none) (by simp)
theorem SM.alloc {w : World} {b n : Nat} {ns : List (List UInt8)} (h : SM w b n ns) (o : Obj) : SM (w.alloc o) b n ns := h.kept (World.grownBy_alloc w o none) (by simp)
theorem SM.mono {w : World} {b n m : Nat} {ns : List (List UInt8)} (h : SM w b n ns) (hn : n ≤ m) : SM w b m ns := by
  obtain ⟨D, h, k⟩ := h
  exact ⟨D, h.mono hn, k⟩
theorem SM.made (w : World) : SM (w.alloc (.map #[] 0)) w.heap.size 0 [] := ⟨_, World.ownsMap_made w Try.prog 9 _, SD.nil⟩
section
variable (w : World) {ops : Array Oper} {rest : List Oper} {o : Oper} {a : Act} {Q : Exit → Act → World → Prop}
theorem wpList_sLook (hgd : o.guard = none) (m x : Operand) (hop : o.op = Op.lookup 109 m x false) (b n : Nat) (ns : List (List UInt8)) (hm : a.eval m = .map (some b)) (hK : SM w b n ns) (s : ByteArray) (hx : a.eval x = .string s) (hs : s.size ≤ maxLen)
    (hN : wpList Try.prog ops Q rest (a.put o.dst (.bool (ns.contains (bl s)))) w) : wpList Try.prog ops Q (o :: rest) a w := by
  obtain ⟨D, hown, hD⟩ := hK
  exact wpList_lookup_bool w hgd m x _ hop _ _ Try.strKey Try.underlying109 Try.underlying4 (Try.zeroBool _) b n D hm hown _ _ hx (keyOf_string_mk Try.underlying9 hs) _ (hD.look (bl s)) hN
theorem wpList_sPut (hgd : o.guard = none) (m x v : Operand) (hop : o.op = Op.mapUpdate 109 m x v) (b n : Nat) (ns : List (List UInt8)) (hm : a.eval m = .map (some b)) (hK : SM w b n ns) (hn : n < maxLen) (s : ByteArray) (hx : a.eval x = .string s) (hs : s.size ≤ maxLen)
    (hv : a.eval v = .bool true) (hN : ∀ w', SM w' b (n + 1) (ns ++ [bl s]) → w.grownBy w' (some b) → wpList Try.prog ops Q rest (a.put o.dst undef) w') : wpList Try.prog ops Q (o :: rest) a w := by
  obtain ⟨D, hown, hD⟩ := hK
  exact wpList_mapUpdate_own (H := Unit) w hgd m x v _ hop _ _ Try.strKey Try.underlying109 (plainElem Try.prog 4) b n D hm hown hn _ _ _ hx hv (keyOf_string_mk Try.underlying9 hs) _ [] (plainElem_bool Try.underlying4 true) fun w' h1 h2 => hN w' ⟨_, h1, hD.put (bl s)⟩ h2
theorem wpList_sLay (hgd : o.guard = none) (m x v : Operand) (hop : o.op = Op.insert 109 m x v) (b n : Nat) (ns : List (List UInt8)) (hm : a.eval m = .map (some b)) (hK : SM w b n ns) (hn : n < maxLen) (s : ByteArray) (hx : a.eval x = .string s) (hs : s.size ≤ maxLen)
    (hv : a.eval v = .bool true) (hN : ∀ w', SM w' b (n + 1) (ns ++ [bl s]) → w.grownBy w' (some b) → wpList Try.prog ops Q rest (a.put o.dst undef) w') : wpList Try.prog ops Q (o :: rest) a w := by
  obtain ⟨D, hown, hD⟩ := hK
  refine wpList_plain hgd fun K' hK' => ?_
  obtain ⟨w', hrun, r1, r2⟩ := hown.update Try.strKey Try.underlying109 hn (keyOf_string_mk Try.underlying9 hs) (plainElem_bool (H := Unit) Try.underlying4 true)
  unfold Oper.wp
  simp [execOp, hop, hm, hx, hv, hrun, Result.andThen]
  exact hK' _ _ (hN w' ⟨_, r1, hD.put (bl s)⟩ r2)
end
/-- A name more that was seen. -/
def addN (ns : List (List UInt8)) (s : List UInt8) : List (List UInt8) := if ns.contains s then ns else ns ++ [s]
theorem isNew_any (b n : Nat) (ns : List (List UInt8)) (s : ByteArray) (w : World) (hs : s.size ≤ maxLen) (hn : n < maxLen) (h : SM w b n ns) :
    Calls Try.prog 69 #[.map (some b), .string s] w fun e w' => e = .returned (.bool (!ns.contains (bl s))) ∧ SM w' b (n + 1) (addN ns (bl s)) ∧ w.grownBy w' (some b) := by
  have HS := Lib.hid h
  unfold addN
  clear h
  cases hc : ns.contains (bl s) with
  | true =>
    go_enter Try.func69, Try.ntmps69
    go_wp2_with (at_lookup; refine wpList_sLook _ rfl _ _ rfl b n ns rfl HS.out s rfl hs ?_; rw [hc])
    go_ret
    exact ⟨rfl, HS.out.mono (Nat.le_succ _), ⟨rfl, rfl, rfl, Nat.le_refl _, fun _ _ _ => rfl⟩⟩
  | false =>
    go_enter Try.func69, Try.ntmps69
    go_wp2_with (first
      | (at_lookup; refine wpList_sLook _ rfl _ _ rfl b n ns rfl HS.out s rfl hs ?_; rw [hc])
      | (at_mapUpdate; refine wpList_sPut _ rfl _ _ _ rfl b n ns rfl HS.out hn s rfl hs rfl ?_; intro w2 hs2 hg2))
    go_ret
    exact ⟨rfl, hs2, hg2⟩
end Go.Proofs.Ytafpngmfhajedaa

/- The place of a name in a list: the library's Index and Contains, the reference's index. -/
namespace Go.Proofs.Ytafpngmfhajedaa
open Go.RowKit Go.Sort Go.Shelf Go.Maps Mth

def ixF (s : ByteArray) : List ByteArray → Nat → Int
  | [], _ => -1
  | t :: l, j => if t.toList == s.toList then (j : Int) else ixF s l (j + 1)
/-- The first place of a name. -/
def ix (l : List ByteArray) (s : ByteArray) : Int := ixF s l 0
theorem ixF_step {s t : ByteArray} {l : List ByteArray} {j : Nat} (h : l[j]? = some t) : ixF s (l.drop j) j = if t.toList == s.toList then (j : Int) else ixF s (l.drop (j + 1)) (j + 1) := by
  obtain ⟨hl, e⟩ := List.getElem?_eq_some_iff.1 h
  rw [List.drop_eq_getElem_cons hl, e]
  rfl
theorem ixF_range (s : ByteArray) : ∀ (l : List ByteArray) (j : Nat), ixF s l j = -1 ∨ ((j : Int) ≤ ixF s l j ∧ ixF s l j < j + l.length) := by
  intro l
  induction l with
  | nil => intro j; left; rfl
  | cons t l ih =>
    intro j
    simp only [ixF]
    split
    · right; simp; omega
    · rcases ih (j + 1) with h | h
      · left; exact h
      · right; simp; omega
theorem ix_range (l : List ByteArray) (s : ByteArray) : ix l s = -1 ∨ (0 ≤ ix l s ∧ ix l s < l.length) := by
  have := ixF_range s l 0
  simpa [ix] using this
theorem str_at {w : World} {S : Nat → Prop} {ns : List ByteArray} {a : Option Addr} {n c : Nat} (h : SlG StrE w S ns (.slice a n c)) : ∀ (j : Nat) (x : ByteArray), ns[j]? = some x → ∃ ad, a = some ad ∧ w.cell? (ad.add j) = some (.string x) := by
  obtain ⟨a', c', e, -, hj⟩ := h
  cases e
  intro j x hx
  obtain ⟨ad, cs, h1, -, h3, h4⟩ := hj j x hx
  have h4' : cs = [.string x] := h4
  subst h4'
  exact ⟨ad, h1, by have := h3 0 (.string x) rfl; simpa [StrE] using this⟩
theorem beq_flip (s t : ByteArray) (q : Bool) (h : (t.toList == s.toList) = q) : (s.toList == t.toList) = q := by rw [← h, Bool.eq_iff_iff]; simp; exact ⟨fun h => h.symm, fun h => h.symm⟩
theorem slice_form {α : Type} {E : El α} {w : World} {S : Nat → Prop} {xs : List α} {v : Value} (h : SlG E w S xs v) : ∃ a c, v = .slice a xs.length c ∧ xs.length ≤ maxLen := by
  obtain ⟨a, c, rfl, ⟨h1, h2⟩, -⟩ := h
  exact ⟨a, c, rfl, by omega⟩
set_option maxHeartbeats 1600000 in
theorem index_any (ns : List ByteArray) (s : ByteArray) (v : Value) (S : Nat → Prop) (w : World) (h : SlG StrE w S ns v) :
    Calls Try.prog 76 #[v, .string s] w fun e w' => e = .returned (.int .i64 (ix ns s)) ∧ w = w' := by
  obtain ⟨a, c, rfl, hle⟩ := slice_form h
  have HJ := Lib.hid (str_at h)
  clear h
  unfold maxLen at hle
  obtain ⟨m, hm⟩ : ∃ m, m = ns.length := ⟨_, rfl⟩
  rw [← hm] at hle ⊢
  have HM := Lib.hid hm
  clear hm
  have HE : Hid (ix ns s = ixF s (ns.drop 0) 0) := rfl
  go_enter Try.func76, Try.ntmps76
  go_wp2
  go_loop [8] (fun i => ∃ j : Nat, j ≤ m ∧ i = .int .i64 j ∧ Hid (ix ns s = ixF s (ns.drop j) j)) (fun i => m - (intOf i).toNat)
  case atStart => exact ⟨0, Nat.zero_le _, rfl, HE⟩
  case round =>
    obtain ⟨j, hj, rfl, HT⟩ := hrel
    by_cases hlt : j < m
    · obtain ⟨t, ht⟩ : ∃ x, ns[j]? = some x := ⟨_, List.getElem?_eq_getElem (by rw [← HM.out]; exact hlt)⟩
      obtain ⟨ad, rfl, hc⟩ := HJ.out j t ht
      have HS := Lib.hid (ixF_step (s := s) ht)
      have hji : (j : Int) < (m : Int) := by omega
      clear ht
      cases hq : (t.toList == s.toList) with
      | true =>
        have HR : Hid (ix ns s = (j : Int)) := by show _ = _; rw [HT.out, HS.out, hq]; rfl
        have hq' := beq_flip s t _ hq
        clear hq
        go_wp2
        go_ret
        exact ⟨by rw [HR.out]; rfl, rfl⟩
      | false =>
        have HR : Hid (ix ns s = ixF s (ns.drop (j + 1)) (j + 1)) := by show _ = _; rw [HT.out, HS.out, hq]; rfl
        have hq' := beq_flip s t _ hq
        clear hq
        go_wp2
        go_round
        case rel => exact ⟨j + 1, hlt, by go_num, HR⟩
        case measure => simp [intOf]; omega
    · have HR : Hid (ix ns s = -1) := by
        show _ = _
        rw [HT.out, List.drop_eq_nil_of_le (by rw [← HM.out]; omega)]; rfl
      go_wp2
      go_ret
      exact ⟨by rw [HR.out]; rfl, rfl⟩
theorem contains_any (ns : List ByteArray) (s : ByteArray) (v : Value) (S : Nat → Prop) (w : World) (h : SlG StrE w S ns v) :
    Calls Try.prog 101 #[v, .string s] w fun e w' => e = .returned (.bool (decide (0 ≤ ix ns s))) ∧ w = w' := by
  have HC := Lib.hid (index_any ns s v S w h)
  clear h
  generalize ix ns s = q at *
  go_enter Try.func101, Try.ntmps101
  go_wp2_with (go_at_call 76; refine HC.out.mono ?_; rintro e w1 ⟨rfl, rfl⟩)
  go_ret
  exact ⟨rfl, rfl⟩
set_option maxHeartbeats 1600000 in
theorem refIndex_any (ns : List ByteArray) (s : ByteArray) (v : Value) (S : Nat → Prop) (w : World) (h : SlG StrE w S ns v) :
    Calls Try.prog 38 #[v, .string s] w fun e w' => e = .returned (.int .i64 (ix ns s)) ∧ w = w' := by
  obtain ⟨a, c, rfl, hle⟩ := slice_form h
  have HJ := Lib.hid (str_at h)
  clear h
  unfold maxLen at hle
  obtain ⟨m, hm⟩ : ∃ m, m = ns.length := ⟨_, rfl⟩
  rw [← hm] at hle ⊢
  have HM := Lib.hid hm
  clear hm
  have HE : Hid (ix ns s = ixF s (ns.drop 0) 0) := rfl
  go_enter Try.func38, Try.ntmps38
  go_wp2
  go_loop [5] (fun i => ∃ j : Nat, j ≤ m ∧ i = .int .i64 j ∧ Hid (ix ns s = ixF s (ns.drop j) j)) (fun i => m - (intOf i).toNat)
  case atStart => exact ⟨0, Nat.zero_le _, rfl, HE⟩
  case round =>
    obtain ⟨j, hj, rfl, HT⟩ := hrel
    by_cases hlt : j < m
    · obtain ⟨t, ht⟩ : ∃ x, ns[j]? = some x := ⟨_, List.getElem?_eq_getElem (by rw [← HM.out]; exact hlt)⟩
      obtain ⟨ad, rfl, hc⟩ := HJ.out j t ht
      have HS := Lib.hid (ixF_step (s := s) ht)
      have hji : (j : Int) < (m : Int) := by omega
      clear ht
      cases hq : (t.toList == s.toList) with
      | true =>
        have HR : Hid (ix ns s = (j : Int)) := by show _ = _; rw [HT.out, HS.out, hq]; rfl
        go_wp2
        go_ret
        exact ⟨by rw [HR.out]; rfl, rfl⟩
      | false =>
        have HR : Hid (ix ns s = ixF s (ns.drop (j + 1)) (j + 1)) := by show _ = _; rw [HT.out, HS.out, hq]; rfl
        go_wp2
        go_round
        case rel => exact ⟨j + 1, hlt, by go_num, HR⟩
        case measure => simp [intOf]; omega
    · have HR : Hid (ix ns s = -1) := by
        show _ = _
        rw [HT.out, List.drop_eq_nil_of_le (by rw [← HM.out]; omega)]; rfl
      go_wp2
      go_ret
      exact ⟨by rw [HR.out]; rfl, rfl⟩
end Go.Proofs.Ytafpngmfhajedaa

/- The package's errors of a type: of a node alone, of all nodes. -/
namespace Go.Proofs.Ytafpngmfhajedaa
open Go.RowKit Go.Sort Go.Shelf Go.Maps Mth

section
variable (w : World) {ops : Array Oper} {rest : List Oper} {o : Oper} {a : Act} {Q : Exit → Act → World → Prop}
theorem wpList_kLookN (hgd : o.guard = none) (m x : Operand) (hop : o.op = Op.lookup 112 m x true) (b n : Nat) (ks : List (List UInt8 × Int)) (hm : a.eval m = .map (some b)) (hK : KM w b n ks) (s : ByteArray) (hx : a.eval x = .string s) (hs : s.size ≤ maxLen) (hr : kf ks (bl s) = none)
    (hN : wpList Try.prog ops Q rest (a.put o.dst (.tuple #[.int .i64 0, .bool false])) w) : wpList Try.prog ops Q (o :: rest) a w :=
  wpList_kLook w hgd m x hop b n ks hm hK s hx hs (by rw [hr]; exact hN)
theorem wpList_kLookS (hgd : o.guard = none) (m x : Operand) (hop : o.op = Op.lookup 112 m x true) (b n : Nat) (ks : List (List UInt8 × Int)) (hm : a.eval m = .map (some b)) (hK : KM w b n ks) (s : ByteArray) (hx : a.eval x = .string s) (hs : s.size ≤ maxLen) (c : Int) (hr : kf ks (bl s) = some c)
    (hN : wpList Try.prog ops Q rest (a.put o.dst (.tuple #[.int .i64 c, .bool true])) w) : wpList Try.prog ops Q (o :: rest) a w :=
  wpList_kLook w hgd m x hop b n ks hm hK s hx hs (by rw [hr]; exact hN)
end
/-- The error of a node alone. -/
def ndK (ks : List (List UInt8 × Int)) (n : ByteArray) (m : Int) : Int :=
  match kf ks (bl n) with
  | none => 7
  | some c => if c == m then 0 else 8
def ndE (ks : List (List UInt8 × Int)) (ns : List ByteArray) (k : Int) (n : ByteArray) (m : Int) : Int :=
  if k == 5 then (if decide (0 ≤ ix ns n) then 0 else 7) else if k == 4 then ndK ks n m else 0
mutual
/-- The first error among the nodes. -/
def frm (ks : List (List UInt8 × Int)) (ns : List ByteArray) : Ty → Int
  | .mk k n _ _ ts => if ndE ks ns k n ts.length == 0 then frmL ks ns ts else ndE ks ns k n ts.length
def frmL (ks : List (List UInt8 × Int)) (ns : List ByteArray) : List Ty → Int
  | [] => 0
  | t :: l => if frm ks ns t == 0 then frmL ks ns l else frm ks ns t
end
set_option maxHeartbeats 1600000 in
theorem nodeErr_any (T : Ty) (ks : List (List UInt8 × Int)) (ns : List ByteArray) (b m : Nat) (v nv : Value) (S S' : Nat → Prop) (w : World) (hK : KM w b m ks) (hN : SlG StrE w S' ns nv) (h : Rep w S T v) :
    Calls Try.prog 95 #[.map (some b), v, nv] w fun e w' => e = .returned (.int .i64 (ndE ks ns T.k T.n T.ts.length)) ∧ Below w.heap.size w w' := by
  obtain ⟨k, n, i, hm, s, eT, rfl, hn, hs⟩ := h.open
  obtain ⟨sa, sc, rfl, ⟨hl1, hl2⟩, -⟩ := hs
  obtain ⟨na, nc, rfl, hle⟩ := slice_form hN
  have hTk : T.k = k := by rw [eT]; rfl
  have hTn : T.n = n := by rw [eT]; rfl
  rw [hTk, hTn]
  have hba : ∀ o, Below w.heap.size w (w.alloc o) := fun o => (Below.refl _ w).alloc (Nat.le_refl _) o
  have HK := Lib.hid (fun o => hK.alloc o)
  have HC : Hid (∀ o, Calls Try.prog 101 #[.slice na ns.length nc, .string n] (w.alloc o) fun e w' => e = .returned (.bool (decide (0 ≤ ix ns n))) ∧ w.alloc o = w') := fun o => contains_any ns n _ S' (w.alloc o) (hN.kept (fun _ h => h) (fun g _ hl => (hba o).block g hl))
  have hlt : T.ts.length ≤ maxLen := by omega
  clear hK hN h eT hTk hTn hl1 hl2
  generalize T.ts.length = tn at *
  generalize ns.length = nn at *
  unfold maxLen at hlt hle
  have hnm : n.size ≤ maxLen := hn
  have HNm := Lib.hid hnm
  unfold ndE
  cases h5 : (k == 5) with
  | true =>
    cases hq : decide (0 ≤ ix ns n) with
    | true =>
      rw [hq] at HC
      clear hq
      go_enter Try.func95, Try.ntmps95
      go_wp2_with (go_at_call 101; refine (HC.out _).mono ?_; rintro e w1 ⟨rfl, rfl⟩)
      go_ret
      exact ⟨rfl, hba _⟩
    | false =>
      rw [hq] at HC
      clear hq
      go_enter Try.func95, Try.ntmps95
      go_wp2_with (go_at_call 101; refine (HC.out _).mono ?_; rintro e w1 ⟨rfl, rfl⟩)
      go_ret
      exact ⟨rfl, hba _⟩
  | false =>
    clear HC
    cases h4 : (k == 4) with
    | false =>
      go_enter Try.func95, Try.ntmps95
      go_wp2
      go_ret
      exact ⟨rfl, hba _⟩
    | true =>
      simp only [Bool.false_eq_true, if_false, if_true]
      unfold ndK
      cases hf : kf ks (bl n) with
      | none =>
        have HF := Lib.hid hf
        clear hf
        go_enter Try.func95, Try.ntmps95
        go_wp2_with (at_lookup; refine wpList_kLookN _ rfl _ _ rfl b m ks rfl (HK.out _) n rfl HNm.out HF.out ?_)
        go_ret
        exact ⟨rfl, hba _⟩
      | some c =>
        have HF := Lib.hid hf
        clear hf
        cases hc : (c == (tn : Int)) with
        | true =>
          have hc' : (c != (tn : Int)) = false := by rw [bne, hc]; rfl
          go_enter Try.func95, Try.ntmps95
          go_wp2_with (at_lookup; refine wpList_kLookS _ rfl _ _ rfl b m ks rfl (HK.out _) n rfl HNm.out c HF.out ?_)
          go_ret
          exact ⟨rfl, hba _⟩
        | false =>
          have hc' : (c != (tn : Int)) = true := by rw [bne, hc]; rfl
          go_enter Try.func95, Try.ntmps95
          go_wp2_with (at_lookup; refine wpList_kLookS _ rfl _ _ rfl b m ks rfl (HK.out _) n rfl HNm.out c HF.out ?_)
          go_ret
          exact ⟨rfl, hba _⟩
end Go.Proofs.Ytafpngmfhajedaa

/- The package's errors of a type: all nodes. -/
namespace Go.Proofs.Ytafpngmfhajedaa
open Go.RowKit Go.Sort Go.Shelf Go.Maps Mth

def FrmAt (ks : List (List UInt8 × Int)) (ns : List ByteArray) (T : Ty) : Prop := ∀ (b m : Nat) (v nv : Value) (S S' : Nat → Prop) (w : World), KM w b m ks → SlG StrE w S' ns nv → Rep w S T v →
  Calls Try.prog 72 #[.map (some b), v, nv] w fun e w' => e = .returned (.int .i64 (frm ks ns T)) ∧ Below w.heap.size w w'
theorem frmL_drop {ks : List (List UInt8 × Int)} {ns : List ByteArray} {l : List Ty} {j : Nat} {T : Ty} (h : l[j]? = some T) : frmL ks ns (l.drop j) = if frm ks ns T == 0 then frmL ks ns (l.drop (j + 1)) else frm ks ns T := by
  obtain ⟨hl, e⟩ := List.getElem?_eq_some_iff.1 h
  rw [List.drop_eq_getElem_cons hl, e]
  rfl
theorem SlG.lift' {α : Type} {E : El α} {w w' : World} {S : Nat → Prop} {xs : List α} {v : Value} (h : SlG E w S xs v) (hb : Below w.heap.size w w') : SlG E w' S xs v := h.kept (fun _ h => h) (fun g _ hl => hb.block g hl)
set_option maxRecDepth 100000 in
set_option maxHeartbeats 3200000 in
theorem formed_of (ks : List (List UInt8 × Int)) (ns : List ByteArray) (T : Ty) (H : ∀ U ∈ T.ts, FrmAt ks ns U) : FrmAt ks ns T := by
  intro b m v nv S S' w hK hN h
  have HE : Hid (∀ V u, Below w.heap.size w V → Rep V S T u → Calls Try.prog 95 #[.map (some b), u, nv] V fun e w' => e = .returned (.int .i64 (ndE ks ns T.k T.n T.ts.length)) ∧ Below V.heap.size V w') := fun V u hb hu => nodeErr_any T ks ns b m u nv S S' V (hK.lift hb) (hN.lift' hb) hu
  have HF : Hid (frm ks ns T = if ndE ks ns T.k T.n T.ts.length == 0 then frmL ks ns T.ts else ndE ks ns T.k T.n T.ts.length) := by cases T; rfl
  have HH := Lib.hid H
  have HK := Lib.hid hK
  have HN := Lib.hid hN
  obtain ⟨k, n, i, hm, s, eT, rfl, hn, hs⟩ := h.open
  have HR := Lib.hid h
  obtain ⟨sa, sc, rfl, ⟨hl1, hl2⟩, hj⟩ := hs
  have HJ := Lib.hid hj
  obtain ⟨na, nc, rfl, hle⟩ := slice_form hN
  have hlt : T.ts.length ≤ maxLen := by omega
  clear hK hN h H hj eT hl1 hl2
  generalize ndE ks ns T.k T.n T.ts.length = ev at *
  obtain ⟨tn, htn⟩ : ∃ n, n = T.ts.length := ⟨_, rfl⟩
  rw [← htn] at HR hlt ⊢
  have HTn := Lib.hid htn
  clear htn
  generalize ns.length = nn at *
  unfold maxLen at hlt hle
  have hal : Below w.heap.size w (w.alloc (.cells #[.int .i64 k, .string n, .int .i64 i, .int .i64 hm, .slice sa tn sc] 39)) := (Below.refl _ w).alloc (Nat.le_refl _) _
  have HBx : Hid (Box (w.alloc (.cells #[.int .i64 k, .string n, .int .i64 i, .int .i64 hm, .slice sa tn sc] 39)) w.heap.size (.int .i64 k) (.string n) (.int .i64 i) (.int .i64 hm) (.slice sa tn sc)) := Box.made _ _ _ _ _ _
  have HRV := Lib.hid (HR.out.lift hal)
  have HB := Lib.hid hal
  clear hal
  cases hq : (ev == 0) with
  | false =>
    have hq' : (ev != 0) = true := by rw [bne, hq]; rfl
    rw [hq] at HF
    clear hq
    go_enter Try.func72, Try.ntmps72
    go_upto_region 1 with fail
    generalize (w.alloc (.cells #[.int .i64 k, .string n, .int .i64 i, .int .i64 hm, .slice sa tn sc] 39)) = V at *
    obtain ⟨b0, b1, b2, b3, b4⟩ := HBx.out.cells
    go_wp2_with (go_at_call 95; refine (HE.out V _ HB.out HRV.out).mono ?_; rintro e w1 ⟨rfl, hb1⟩)
    go_ret
    exact ⟨by rw [HF.out]; rfl, HB.out.trans (hb1.mono HB.out.size)⟩
  | true =>
    have hq' : (ev != 0) = false := by rw [bne, hq]; rfl
    have HF2 : Hid (frm ks ns T = frmL ks ns T.ts) := by show _ = _; rw [HF.out, hq]; simp
    clear hq HF
    have HL : Hid (frmL ks ns T.ts = frmL ks ns (T.ts.drop 0)) := by show _ = _; simp
    go_enter Try.func72, Try.ntmps72
    go_upto_region 1 with fail
    generalize (w.alloc (.cells #[.int .i64 k, .string n, .int .i64 i, .int .i64 hm, .slice sa tn sc] 39)) = V at *
    obtain ⟨b0, b1, b2, b3, b4⟩ := HBx.out.cells
    go_wp2_with (go_at_call 95; refine (HE.out V _ HB.out HRV.out).mono ?_; rintro e w1 ⟨rfl, hb1⟩; have c4 := (HBx.out.lift hb1).cells.2.2.2.2; have HB1 := Lib.hid (HB.out.trans (hb1.mono HB.out.size)); clear hb1)
    clear b0 b1 b2 b3 b4 c4 HE HBx HRV HB
    go_loopw [21] (fun x wr => ∃ j : Nat, j ≤ tn ∧ x = .int .i64 j ∧ Hid (frmL ks ns T.ts = frmL ks ns (T.ts.drop j)) ∧ Hid (Below w.heap.size w wr)) (fun x _ => tn - (intOf x).toNat)
    case atStart => exact ⟨0, Nat.zero_le _, rfl, HL, HB1⟩
    case round =>
      obtain ⟨j, hj, rfl, HT, HBr⟩ := hrel
      by_cases hjt : j < tn
      · obtain ⟨U, hU⟩ : ∃ x, T.ts[j]? = some x := ⟨_, List.getElem?_eq_getElem (by rw [← HTn.out]; exact hjt)⟩
        have HS := Lib.hid (frmL_drop (ks := ks) (ns := ns) hU)
        obtain ⟨ad, x, rfl, hS, h5, hx⟩ := HJ.out j U hU
        have hx' := hx.lift HBr.out
        have g5 := h5.kept (HBr.out.block _ h5.lt)
        have HUm := Lib.hid (List.mem_of_getElem? hU)
        obtain ⟨k', n', i', h', s', -, rfl, hn', hs'⟩ := hx'.open
        obtain ⟨q0, q1, q2, q3, q4⟩ := five_at g5
        obtain ⟨ua, uc, rfl, -⟩ := hs'
        have hal : Below wr.heap.size wr (wr.alloc (.cells #[.int .i64 k', .string n', .int .i64 i', .int .i64 h', .slice ua U.ts.length uc] 39)) := (Below.refl _ wr).alloc (Nat.le_refl _) _
        have HBU : Hid (Box (wr.alloc (.cells #[.int .i64 k', .string n', .int .i64 i', .int .i64 h', .slice ua U.ts.length uc] 39)) wr.heap.size (.int .i64 k') (.string n') (.int .i64 i') (.int .i64 h') (.slice ua U.ts.length uc)) := Box.made _ _ _ _ _ _
        have HBa := Lib.hid (HBr.out.trans (hal.mono HBr.out.size))
        have HC := Lib.hid (HH.out U HUm.out b m _ _ S S' _ (HK.out.lift HBa.out) (HN.out.lift' HBa.out) (hx'.lift hal))
        have hji : (j : Int) < (tn : Int) := by omega
        clear hU hx hx' g5 h5 hS hn' hal
        generalize U.ts.length = un at *
        go_upto_region 7 with fail
        generalize (wr.alloc (.cells #[.int .i64 k', .string n', .int .i64 i', .int .i64 h', .slice ua un uc] 39)) = V at *
        generalize wr.heap.size = R at *
        clear q0 q1 q2 q3 q4
        obtain ⟨q0, q1, q2, q3, q4⟩ := HBU.out.cells
        generalize frm ks ns U = eu at *
        cases hq : (eu == 0) with
        | true =>
          have hqn : (eu != 0) = false := by rw [bne, hq]; rfl
          have HT2 : Hid (frmL ks ns T.ts = frmL ks ns (T.ts.drop (j + 1))) := by show _ = _; rw [HT.out, HS.out, hq]; rfl
          clear hq
          go_wp2_with (go_at_call 72; refine HC.out.mono ?_; rintro e w1 ⟨rfl, hb1⟩; have HB2 := Lib.hid (HBa.out.trans (hb1.mono HBa.out.size)); clear hb1)
          go_roundw
          case rel => exact ⟨j + 1, hjt, by go_num, HT2, HB2⟩
          case measure => simp [intOf]; omega
        | false =>
          have hqn : (eu != 0) = true := by rw [bne, hq]; rfl
          have HT2 : Hid (frmL ks ns T.ts = eu) := by show _ = _; rw [HT.out, HS.out, hq]; rfl
          clear hq
          go_wp2_with (go_at_call 72; refine HC.out.mono ?_; rintro e w1 ⟨rfl, hb1⟩; have HB2 := Lib.hid (HBa.out.trans (hb1.mono HBa.out.size)); clear hb1)
          go_ret
          exact ⟨by rw [HF2.out, HT2.out]; rfl, HB2.out⟩
      · have HT2 : Hid (frmL ks ns T.ts = 0) := by
          show _ = _
          rw [HT.out, List.drop_eq_nil_of_le (by rw [← HTn.out]; omega)]; rfl
        go_wp2
        go_ret
        exact ⟨by rw [HF2.out, HT2.out]; rfl, HBr.out⟩
theorem formed_any (ks : List (List UInt8 × Int)) (ns : List ByteArray) (T : Ty) : FrmAt ks ns T := Ty.induct (formed_of ks ns) T
end Go.Proofs.Ytafpngmfhajedaa

/- How many arguments a known constructor takes: the package's map, the reference's search. -/
namespace Go.Proofs.Ytafpngmfhajedaa
open Go.RowKit Go.Sort Go.Shelf Go.Maps Mth

def kstep (ks : List (List UInt8 × Int)) (d : Dat) : List (List UInt8 × Int) := if (kf ks (bl d.name)).isSome then ks else ks ++ [(bl d.name, (d.params.length : Int))]
def k0 : List (List UInt8 × Int) := [([73, 110, 116], 0), ([45, 62], 2)]
/-- The known constructors of a list of declarations. -/
def kn (ds : List Dat) : List (List UInt8 × Int) := ds.foldl kstep k0
def ff : List Dat → List UInt8 → Option Int
  | [], _ => none
  | d :: l, s => if bl d.name == s then some (d.params.length : Int) else ff l s
def prm (ds : List Dat) (s : List UInt8) : Option Int := if s == [73, 110, 116] then some 0 else if s == [45, 62] then some 2 else ff ds s
theorem kf_fold (s : List UInt8) : ∀ (ds : List Dat) (ks : List (List UInt8 × Int)), kf (ds.foldl kstep ks) s = match kf ks s with | some x => some x | none => ff ds s := by
  intro ds
  induction ds with
  | nil => intro ks; simp only [List.foldl_nil, ff]; cases kf ks s <;> rfl
  | cons d l ih =>
    intro ks
    rw [List.foldl_cons, ih]
    unfold kstep
    cases hk : kf ks (bl d.name) with
    | some c =>
      simp only [Option.isSome_some, if_true, ff]
      cases hs : kf ks s with
      | some x => rfl
      | none =>
        have : ¬ (bl d.name == s) = true := fun e => by rw [beq_iff_eq.1 e, hs] at hk; cases hk
        rw [if_neg this]
    | none =>
      simp only [Option.isSome_none, Bool.false_eq_true, if_false, ff]
      rw [kf_snoc _ _ _ _ hk]
      by_cases hs : bl d.name = s
      · rw [if_pos hs]
        subst hs
        rw [hk]
        simp
      · rw [if_neg hs]
        have : ¬ (bl d.name == s) = true := fun e => hs (beq_iff_eq.1 e)
        cases kf ks s with
        | some x => rfl
        | none => simp only; rw [if_neg this]
theorem kf_kn (ds : List Dat) (s : List UInt8) : kf (kn ds) s = prm ds s := by
  unfold kn prm
  rw [kf_fold]
  unfold k0
  simp only [kf]
  by_cases h1 : s = [73, 110, 116]
  · subst h1; simp
  · have e1 : ¬ (([73, 110, 116] : List UInt8) == s) = true := fun e => h1 (beq_iff_eq.1 e).symm
    have e2 : ¬ (s == [73, 110, 116]) = true := fun e => h1 (beq_iff_eq.1 e)
    rw [if_neg e1, if_neg e2]
    by_cases h3 : s = [45, 62]
    · subst h3; simp
    · have e3 : ¬ (([45, 62] : List UInt8) == s) = true := fun e => h3 (beq_iff_eq.1 e).symm
      have e4 : ¬ (s == [45, 62]) = true := fun e => h3 (beq_iff_eq.1 e)
      rw [if_neg e3, if_neg e4]
theorem kn_take {ds : List Dat} {j : Nat} {d : Dat} (h : ds[j]? = some d) : (ds.take (j + 1)).foldl kstep k0 = if (kf ((ds.take j).foldl kstep k0) (bl d.name)).isSome then (ds.take j).foldl kstep k0 else (ds.take j).foldl kstep k0 ++ [(bl d.name, (d.params.length : Int))] := by
  rw [List.take_add_one, h, Option.toList, List.foldl_append]
  rfl
/-- Names that fit into memory. -/
def Sized (ds : List Dat) : Prop := ds.length ≤ 1000 ∧ ∀ d ∈ ds, d.name.size ≤ maxLen
theorem size_lit (l : Array UInt8) (h : l.size ≤ 100) : (⟨l⟩ : ByteArray).size ≤ maxLen := by unfold maxLen; show l.size ≤ _; omega
set_option maxRecDepth 100000 in
set_option maxHeartbeats 3200000 in
theorem params_any (ds : List Dat) (hds : Sized ds) (v : Value) (S : Nat → Prop) (w : World) (h : SlG DatE w S ds v) :
    Calls Try.prog 71 #[v] w fun e w' => ∃ b m, e = .returned (.map (some b)) ∧ KM w' b m (kn ds) ∧ m ≤ 2000 ∧ Below w.heap.size w w' := by
  have hmm := @run_makeMap Try.prog
  have HD := Lib.hid h
  have HZ := Lib.hid hds.2
  have hl := hds.1
  obtain ⟨da, dc, rfl, -⟩ := slice_form h
  obtain ⟨dn, hdn⟩ : ∃ n, n = ds.length := ⟨_, rfl⟩
  rw [← hdn] at HD hl ⊢
  have HDn := Lib.hid hdn
  clear hdn h hds
  have HM0 := Lib.hid (KM.made w)
  have HB0 : Hid (Below w.heap.size w (w.alloc (.map #[] 0))) := (Below.refl _ w).alloc (Nat.le_refl _) _
  go_enter Try.func71, Try.ntmps71
  go_wp2_with (first
    | (refine wpList_kLay _ rfl _ _ _ rfl w.heap.size 0 [] rfl HM0.out (by unfold maxLen; omega) ⟨#[73, 110, 116]⟩ rfl (size_lit _ (by decide)) rfl 0 rfl (by decide) ?_; intro w1 hk1 hg1; have HK1 := Lib.hid hk1; have HB1 := Lib.hid (Below.grown HB0.out hg1 HB0.out.size (fun k hk => by cases hk; exact Nat.le_refl _)); clear hk1 hg1)
    | (refine wpList_kLay _ rfl _ _ _ rfl w.heap.size 1 _ rfl HK1.out (by unfold maxLen; omega) ⟨#[45, 62]⟩ rfl (size_lit _ (by decide)) (by decide) 2 rfl (by decide) ?_; intro w2 hk2 hg2; have HK2 := Lib.hid hk2; have HB2 := Lib.hid (Below.grown HB1.out hg2 HB1.out.size (fun k hk => by cases hk; exact Nat.le_refl _)); clear hk2 hg2))
  have HK3 : Hid (KM w2 w.heap.size (0 + 2) ((ds.take 0).foldl kstep k0)) := HK2.out
  clear HK2 HK1 HM0 hmm
  go_loopw [12] (fun x wr => ∃ j : Nat, j ≤ dn ∧ x = .int .i64 j ∧ Hid (KM wr w.heap.size (j + 2) ((ds.take j).foldl kstep k0)) ∧ Hid (Below w.heap.size w wr)) (fun x _ => dn - (intOf x).toNat)
  case atStart => exact ⟨0, Nat.zero_le _, rfl, HK3, HB2⟩
  case round =>
    obtain ⟨j, hj, rfl, HKj, HBj⟩ := hrel
    by_cases hjt : j < dn
    · obtain ⟨d, hd⟩ : ∃ x, ds[j]? = some x := ⟨_, List.getElem?_eq_getElem (by rw [← HDn.out]; exact hjt)⟩
      have HS := Lib.hid (kn_take hd)
      have hdz := HZ.out d (List.mem_of_getElem? hd)
      have HDz := Lib.hid hdz
      obtain ⟨ad, cl, had, -, ⟨pv, cv, rfl, hp, hc⟩, hc0, hcm⟩ := slG_get (HD.out.lift' HBj.out) hd
      cases had
      have q0 := hc0 _ rfl
      have q1 := hcm 1 _ (by decide) rfl
      have q2 := hcm 2 _ (by decide) rfl
      have q3 := hcm 3 _ (by decide) rfl
      simp only [show DatE.k = 4 from rfl] at q0 q1 q2 q3
      obtain ⟨pa, pc, rfl, hpl⟩ := slice_form hp
      obtain ⟨ca, cc, rfl, -⟩ := slice_form hc
      have HKa := Lib.hid (fun o => HKj.out.alloc o)
      have HBa : Hid (∀ o, Below w.heap.size w (wr.alloc o)) := fun o => HBj.out.alloc HBj.out.size o
      have hji : (j : Int) < (dn : Int) := by omega
      have hwf : (Lit.int .i64 (d.params.length : Int)).wf = true := WalkArith.wf_i64 (by unfold maxLen at hpl; omega)
      clear hc0 hcm hp hc hd hpl hdz
      obtain ⟨kk, hkk⟩ : ∃ kk, kk = (ds.take j).foldl kstep k0 := ⟨_, rfl⟩
      rw [← hkk] at HKa HS
      clear hkk HKj
      generalize d.params.length = pl at *
      cases hf : kf kk (bl d.name) with
      | some c =>
        rw [hf] at HS
        have HK4 : Hid (∀ o, KM (wr.alloc o) w.heap.size (j + 1 + 2) ((ds.take (j + 1)).foldl kstep k0)) := fun o => by
          rw [HS.out]
          exact (HKa.out o).mono (Nat.le_succ _)
        have HF := Lib.hid hf
        clear hf
        go_wp2_with (at_lookup; refine wpList_kLookS _ rfl _ _ rfl w.heap.size (j + 2) kk rfl (HKa.out _) d.name rfl HDz.out c HF.out ?_)
        go_roundw
        case rel => exact ⟨j + 1, hjt, by go_num, HK4.out _, HBa.out _⟩
        case measure => simp [intOf]; omega
      | none =>
        rw [hf] at HS
        have HF := Lib.hid hf
        clear hf
        go_wp2_with (first
          | (at_lookup; refine wpList_kLookN _ rfl _ _ rfl w.heap.size (j + 2) kk rfl (HKa.out _) d.name rfl HDz.out HF.out ?_)
          | (at_mapUpdate; refine wpList_kPut _ rfl _ _ _ rfl w.heap.size (j + 2) kk rfl (HKa.out _) (by unfold maxLen; omega) d.name rfl HDz.out HF.out (pl : Int) rfl hwf ?_; intro w4 hk4 hg4; have HK4 := Lib.hid hk4; have HB4 := Lib.hid (Below.grown (HBa.out _) hg4 (HBa.out _).size (fun k hk => by cases hk; exact Nat.le_refl _)); clear hk4 hg4))
        have HK5 : Hid (KM w4 w.heap.size (j + 1 + 2) ((ds.take (j + 1)).foldl kstep k0)) := by
          show KM _ _ _ _
          rw [HS.out]
          exact HK4.out
        go_roundw
        case rel => exact ⟨j + 1, hjt, by go_num, HK5, HB4⟩
        case measure => simp [intOf]; omega
    · have HKf : Hid (KM wr w.heap.size (j + 2) (kn ds)) := by
        have h := HKj.out
        rwa [List.take_of_length_le (by rw [← HDn.out]; omega)] at h
      go_wp2
      go_ret
      exact ⟨_, _, rfl, HKf.out, by omega, HBj.out⟩
end Go.Proofs.Ytafpngmfhajedaa

/- The package's Bind: written variables become quantified ones. -/
namespace Go.Proofs.Ytafpngmfhajedaa
open Go.RowKit Go.Sort Go.Shelf Go.Maps Mth

mutual
def bnd (ns : List ByteArray) : Ty → Ty
  | .mk k n i h ts => if k == 5 && decide (0 ≤ ix ns n) then .mk 2 ⟨#[]⟩ (ix ns n) 0 [] else .mk k n i h (bndL ns ts)
def bndL (ns : List ByteArray) : List Ty → List Ty
  | [] => []
  | t :: l => bnd ns t :: bndL ns l
end
theorem bndL_map (ns : List ByteArray) : ∀ l : List Ty, bndL ns l = l.map (bnd ns) := by
  intro l
  induction l with
  | nil => rfl
  | cons t l ih => simp [bndL, ih]
/-- Written variables have no arguments. -/
def nm0 : Ty → Bool
  | .mk k _ _ _ ts => (k != 5 || ts.length == 0) && nm0L ts
where nm0L : List Ty → Bool
  | [] => true
  | t :: l => nm0 t && nm0L l
theorem nm0_kid : ∀ {ts : List Ty}, nm0.nm0L ts = true → ∀ {U : Ty}, U ∈ ts → nm0 U = true := by
  intro ts
  induction ts with
  | nil => intro _ U hU; simp at hU
  | cons t l ih =>
    intro h U hU
    simp only [nm0.nm0L, Bool.and_eq_true] at h
    rcases List.mem_cons.1 hU with rfl | hU
    · exact h.1
    · exact ih h.2 hU
def BindAt (f : FuncId) (ns : List ByteArray) (T : Ty) : Prop := ∀ (v nv : Value) (S S' : Nat → Prop) (w : World), nodes T ≤ 1000000 ∧ nm0 T = true → SlG StrE w S' ns nv → (∀ b, w.heap.size ≤ b → S b) → Rep w S T v →
  Calls Try.prog f #[v, nv] w fun e w' => ∃ u, e = .returned u ∧ Rep w' S (bnd ns T) u ∧ Below w.heap.size w w'
theorem bound_any (i : Int) (w : World) : Calls Try.prog 42 #[.int .i64 i] w fun e w' => e = .returned (leafV 2 ⟨#[]⟩ i 0) ∧ Below w.heap.size w w' := by
  go_enter Try.func42, Try.ntmps42
  go_wp2
  go_returns
  exact ⟨rfl, (Below.refl _ w).alloc (Nat.le_refl _) _⟩
set_option maxRecDepth 100000 in
set_option maxHeartbeats 6400000 in
theorem bind_of (ns : List ByteArray) (T : Ty) (H : ∀ U ∈ T.ts, BindAt 46 ns U) : BindAt 46 ns T := by
  intro v nv S S' w ⟨hnT, hmT⟩ hN hf h
  have HN := Lib.hid hN
  have HIx : Hid (∀ V, Below w.heap.size w V → Calls Try.prog 76 #[nv, .string T.n] V fun e w' => e = .returned (.int .i64 (ix ns T.n)) ∧ V = w') := fun V hb => index_any ns T.n nv S' V (hN.lift' hb)
  obtain ⟨na, nc, rfl, hle⟩ := slice_form hN
  obtain ⟨k, n, i, hm, s, eT, rfl, hn, hs⟩ := h.open
  have HR := Lib.hid h
  have HH := Lib.hid H
  have HS := Lib.hid hs
  obtain ⟨sa, sc, rfl, ⟨hc1, hc2⟩, hj⟩ := hs
  have HJ := Lib.hid hj
  have hTk : T.k = k := by rw [eT]; rfl
  have hTn : T.n = n := by rw [eT]; rfl
  have hTb : bnd ns T = if k == 5 && decide (0 ≤ ix ns n) then .mk 2 ⟨#[]⟩ (ix ns n) 0 [] else .mk k n i hm (T.ts.map (bnd ns)) := by
    conv => lhs; rw [eT]
    unfold bnd
    rw [bndL_map]
  rw [hTn] at HIx
  have hnN := ts_nodes T
  have HNd : Hid (∀ U ∈ T.ts, nodes U ≤ 1000000 ∧ nm0 U = true) := fun U hU => ⟨by have := mem_nodes hU; omega, by rw [eT] at hmT; simp only [nm0, Bool.and_eq_true] at hmT; exact nm0_kid hmT.2 hU⟩
  have hl : T.ts.length ≤ 1000000 := by omega
  have HAA : Hid (∀ X Y, Below w.heap.size w ((w.alloc (.cells X 39)).alloc (.cells Y 39))) := fun X Y => ((Below.refl _ w).alloc (Nat.le_refl _) _).alloc (by simp) _
  have hn' := hn
  clear h H hj eT hn hTk hTn hN hmT hnT hnN
  obtain ⟨l, hl'⟩ : ∃ l, l = T.ts := ⟨_, rfl⟩
  rw [← hl'] at HJ HH HS hc1 hl hTb HNd ⊢
  clear hl'
  generalize ns.length = nn at *
  by_cases hfd : (k == 5 && decide (0 ≤ ix ns n)) = true
  · have HT : Hid (bnd ns T = .mk 2 ⟨#[]⟩ (ix ns n) 0 []) := by show _ = _; rw [hTb, if_pos hfd]
    simp only [Bool.and_eq_true, decide_eq_true_eq] at hfd
    obtain ⟨h5, hq0⟩ := hfd
    have HBd := Lib.hid (fun V => bound_any (ix ns n) V)
    clear hTb HS HJ HH HNd
    generalize ix ns n = q at *
    generalize l.length = ln at *
    have HBZ : Hid (∀ X, Zero ((w.alloc (.cells X 39)).alloc (.cells #[.int .i64 0, .string ⟨#[]⟩, .int .i64 0, .int .i64 0, .slice none 0 0] 39)) (w.heap.size + 1)) := fun X => by
      show Box _ _ _ _ _ _ _
      unfold Box; rw [heap_at, if_pos (by simp)]
    go_enter Try.func46, Try.ntmps46
    go_wp2_with (first
      | (go_at_call 76; refine (HIx.out _ (HAA.out _ _)).mono ?_; rintro e w1 ⟨rfl, rfl⟩)
      | (go_at_call 42; refine (HBd.out _).mono ?_; rintro e w1 ⟨rfl, hb1⟩; have hbw := (HAA.out _ _).trans (hb1.mono (HAA.out _ _).size); have HB : Hid (Zero w1 (w.heap.size + 1)) := Box.lift (HBZ.out _) hb1; clear hb1; unfold leafV)
      | (refine wpList_store5 rfl _ _ rfl _ _ _ _ _ _ HB.out rfl _ _ _ _ _ _ _ rfl ?_; intro w2 hB2 hg2 hs2))
    obtain ⟨c0, c1, c2, c3, c4⟩ := hB2.cells
    refine bodyPost_ret (by simp [results, Try.results46, go_sem, c0, c1, c2, c3, c4]; try rfl) rfl ?_
    refine ⟨_, rfl, ?_, Below.grown hbw hg2 hbw.size (fun j hj => by cases hj; omega)⟩
    rw [HT.out]
    exact rep_leaf _ _ _ _ _ _ (Nat.zero_le _)
  · have HT : Hid (bnd ns T = .mk k n i hm (l.map (bnd ns))) := by show _ = _; rw [hTb, if_neg hfd]
    have hno : (k == 5) = false ∨ ((k == 5) = true ∧ ix ns n < 0) := by
      cases h5 : (k == 5) with
      | false => exact .inl rfl
      | true => exact .inr ⟨rfl, by rw [h5] at hfd; simpa using hfd⟩
    clear hfd hTb
    generalize ix ns n = q at *
    cases hz : ((l.length : Int) == 0) with
    | true =>
      have hl0 : l = [] := by simp at hz; exact hz
      subst hl0
      clear hz
      rcases hno with h5 | ⟨h5, hq⟩
      all_goals
        go_enter Try.func46, Try.ntmps46
        go_wp2_with (go_at_call 76; refine (HIx.out _ (HAA.out _ _)).mono ?_; rintro e w1 ⟨rfl, rfl⟩)
        go_returns
        refine ⟨_, rfl, ?_, HAA.out _ _⟩
        rw [HT.out]; exact Rep.close hn' (HS.out.lift (HAA.out _ _))
    | false =>
      obtain ⟨m, hmm⟩ : ∃ m, m = l.length := ⟨_, rfl⟩
      rw [← hmm] at hc1 hl hz HS ⊢
      have HM := Lib.hid hmm
      clear hmm
      obtain ⟨i0, hi, hz0, hz1, hz2⟩ := info_parts Try.info39
      rcases hno with h5 | ⟨h5, hq⟩
      all_goals
       go_enter Try.func46, Try.ntmps46
       go_wp2_with (first
         | (go_at_call 76; refine (HIx.out _ (HAA.out _ _)).mono ?_; rintro e w1 ⟨rfl, rfl⟩)
         | (at_make; go_loud (refine wpList_make_full _ rfl _ _ 37 rfl (w.heap.size + 1 + 1) 39 i0 _ 5 Try.underlying37 hi hz0 hz1 _ _ _ _ m rfl rfl rfl rfl (by rw [hz2]; omega) (by unfold maxLen; omega) (by simp) ?_; intro w1 hown hg; obtain ⟨hrow, hbx, HA, hB, hw1⟩ := with_start S hown hg; obtain ⟨a0, a1, a2, a3, a4⟩ := HA.out.cells; clear hown hz0 hz1 hz2 hi hg)))
       go_loopw [32] (fun x wr => ∃ j : Nat, j ≤ m ∧ x = .int .i64 j ∧ Hid (RowT wr (w.heap.size + 1 + 1) (fun b => S b ∧ b ≠ w.heap.size ∧ b ≠ w.heap.size + 1) (.slice (some ⟨w.heap.size + 1 + 1, 0, none⟩) j m) ((l.take j).map (bnd ns))) ∧
         Hid (Box wr w.heap.size (.int .i64 k) (.string n) (.int .i64 i) (.int .i64 hm) (.slice sa m sc)) ∧ Hid (Zero wr (w.heap.size + 1)) ∧ Below w.heap.size w wr ∧ w.heap.size + 1 + 1 < wr.heap.size) (fun x _ => m - (intOf x).toNat)
       case atStart => exact ⟨0, Nat.zero_le _, rfl, by simpa using hrow, HA, hB, hbx, hw1⟩
       case round =>
         obtain ⟨j, hj, rfl, HRow, HBA, HBZ, hb, hlw⟩ := hrel
         by_cases hlt : j < m
         · obtain ⟨U, hU⟩ : ∃ x, l[j]? = some x := ⟨_, List.getElem?_eq_getElem (by rw [← HM.out]; exact hlt)⟩
           have HUm : Hid (U ∈ l) := List.mem_of_getElem? hU
           have HTk : Hid ((l.take (j + 1)).map (bnd ns) = (l.take j).map (bnd ns) ++ [bnd ns U]) := by show _ = _; rw [List.take_add_one, hU]; simp
           obtain ⟨ad, x, rfl, hS, h5, hx⟩ := HJ.out j U hU
           clear hU
           have hxr := hx.bound
           have g5 := h5.kept (hb.block _ h5.lt)
           obtain ⟨k', n', i', h', s', eU, rfl, hn2, hs2⟩ := hx.open
           obtain ⟨q0, q1, q2, q3, q4⟩ := five_at g5
           obtain ⟨sa', sc', rfl, -⟩ := hs2
           have HX := Lib.hid hxr
           clear h5 hx g5 eU hn2 hS hxr
           have hji : (j : Int) < (m : Int) := by omega
           generalize U.ts.length = sn' at *
           have hbA : ∀ o, Below w.heap.size w (wr.alloc o) := fun o => hb.alloc hb.size o
           have HC := Lib.hid (fun o => HH.out U HUm.out _ (.slice na nn nc) (fun b => (S b ∧ b ≠ w.heap.size ∧ b ≠ w.heap.size + 1) ∧ b ≠ w.heap.size + 1 + 1) S' (wr.alloc o) (HNd.out U HUm.out) (HN.out.lift' (hbA o))
             (fun b hb => by simp at hb; exact ⟨⟨hf b (by omega), by omega, by omega⟩, by omega⟩) ((HX.out.lift (hbA o)).imp fun b hb => ⟨⟨hb.1, by omega, by omega⟩, by omega⟩))
           have hbr : ∀ o, Below wr.heap.size wr (wr.alloc o) := fun o => (Below.refl _ wr).alloc (Nat.le_refl _) o
           have hlen : ((l.take j).map (bnd ns)).length = j := by rw [List.length_map, List.length_take, ← HM.out]; omega
           have HLen := Lib.hid hlen
           clear hlen
           go_wp2_with (first
             | (go_at_call 46; refine (HC.out _).mono ?_; rintro e w2 ⟨u, rfl, hrep, hb2⟩; have hbb := (hbr _).trans (hb2.mono (hbr _).size); have HRow2 := Lib.hid (HRow.out.lift hbb); have HBA2 := Lib.hid (HBA.out.lift hbb); have HBZ2 := Lib.hid (Box.lift HBZ.out hbb); have hbw2 := hb.trans (hbb.mono hb.size); have hlw2 := Nat.lt_of_lt_of_le hlw hbb.size; have HRep := Lib.hid hrep; obtain ⟨k2, n2, i2, h2, s2, -, rfl, -, hs3⟩ := hrep.open; obtain ⟨sa2, sc2, rfl, -⟩ := hs3; clear hrep hb2 hbb; generalize (bnd ns U).ts.length = sn2 at *)
             | (refine wpList_fillT rfl _ _ rfl (w.heap.size + 1 + 1) (w.heap.size + 1 + 1) j m _ _ HLen.out HRow2.out hlt rfl _ _ _ _ _ _ _ rfl (bnd ns U) HRep.out ?_; intro w3 hrow3 hg3 hs3'))
           have hbw3 : Below w.heap.size w w3 := Below.grown hbw2 hg3 hbw2.size (fun j hj => by cases hj; omega)
           have HRow3 : Hid (RowT w3 (w.heap.size + 1 + 1) (fun b => S b ∧ b ≠ w.heap.size ∧ b ≠ w.heap.size + 1) (.slice (some ⟨w.heap.size + 1 + 1, 0, none⟩) (j + 1) m) ((l.take (j + 1)).map (bnd ns))) := by
             show RowT _ _ _ _ _
             rw [HTk.out]; exact hrow3
           have HBA3 := Lib.hid (HBA2.out.kept (hg3.block _ HBA2.out.lt (by simp; omega)))
           have HBZ3 := Lib.hid (Box.kept HBZ2.out (hg3.block _ (Box.lt HBZ2.out) (by simp)))
           go_roundw
           case rel => exact ⟨j + 1, hlt, by go_num, HRow3, HBA3, HBZ3, hbw3, by omega⟩
           case measure => simp [intOf]; omega
         · obtain rfl : j = m := by omega
           have HRow2 : Hid (RowT wr (w.heap.size + 1 + 1) (fun b => S b ∧ b ≠ w.heap.size ∧ b ≠ w.heap.size + 1) (.slice (some ⟨w.heap.size + 1 + 1, 0, none⟩) j j) (l.map (bnd ns))) := by
             show RowT _ _ _ _ _
             have := HRow.out
             rwa [List.take_of_length_le (by rw [← HM.out]; exact Nat.le_refl _)] at this
           obtain ⟨b0, b1, b2, b3, b4⟩ := HBA.out.cells
           obtain ⟨f0, f1, f2, f3, f4⟩ := HBA.out.frozen
           have HZ2 : Hid (∀ v, Zero (wr.setCell ⟨w.heap.size, 4, none⟩ v) (w.heap.size + 1)) := fun v => Box.kept HBZ.out (Below.heap_setCell _ _ _ _ (by simp))
           go_wp2_with (refine wpList_store5 rfl _ _ rfl _ _ _ _ _ _ (HZ2.out _) rfl _ _ _ _ _ _ _ rfl ?_; intro w2 hB2 hg2 hs2)
           obtain ⟨c0, c1, c2, c3, c4⟩ := hB2.cells
           have hset := hb.setCell (p := ⟨w.heap.size, 4, none⟩) (Nat.le_refl _) (Value.slice (some ⟨w.heap.size + 1 + 1, 0, none⟩) j j)
           have hrow3 := (HRow2.out.kept (setCell_grown wr ⟨w.heap.size, 4, none⟩ (Value.slice (some ⟨w.heap.size + 1 + 1, 0, none⟩) j j)) (HRow2.out.off (by simp; omega)) (fun b hb => by intro e; cases e; exact hb.2.1 rfl)).kept hg2 (RowT.off (HRow2.out.kept (setCell_grown wr ⟨w.heap.size, 4, none⟩ (Value.slice (some ⟨w.heap.size + 1 + 1, 0, none⟩) j j)) (HRow2.out.off (by simp; omega)) (fun b hb => by intro e; cases e; exact hb.2.1 rfl)) (by omega)) (fun b hb => by intro e; cases e; exact hb.2.2 rfl)
           refine bodyPost_ret (by simp [results, Try.results46, go_sem, c0, c1, c2, c3, c4]; try rfl) rfl ?_
           refine ⟨_, rfl, ?_, Below.grown hset hg2 hset.size (fun j hj => by cases hj; omega)⟩
           rw [HT.out]
           exact Rep.close hn' (hrow3.repL (fun b hb => hb.1) (fun b hb => hf b (by omega)))

theorem bind_any (ns : List ByteArray) (T : Ty) : BindAt 46 ns T := Ty.induct (bind_of ns) T
end Go.Proofs.Ytafpngmfhajedaa
