import Derived.Test.YtfkbifbodpelmaaQB
import Derived.Test.YtfkbifbodpelmaaQF
import Derived.Test.YtfkbifbodpelmaaQT
/- The names of a type: the package's Names and the reference's. -/
namespace Go.Proofs.Ytfkbifbodpelmaa
open Go.RowKit Go.Sort Go.Shelf Go.Maps Mth

/-- A name more, if it is new. -/
def nmA (out : List ByteArray) (n : ByteArray) : List ByteArray := if (out.map bl).contains (bl n) then out else out ++ [n]
mutual
/-- The names of a type behind others, in the order of their first places. -/
def nms (out : List ByteArray) : Ty → List ByteArray
  | .mk k n _ _ ts => nmsL (if k == 5 then nmA out n else out) ts
def nmsL (out : List ByteArray) : List Ty → List ByteArray
  | [] => out
  | t :: l => nmsL (nms out t) l
end
theorem nms_open (out : List ByteArray) (T : Ty) : nms out T = nmsL (if T.k == 5 then nmA out T.n else out) T.ts := by cases T; simp only [nms]; rfl
theorem nmsL_drop {out : List ByteArray} {l : List Ty} {j : Nat} {T : Ty} (h : l[j]? = some T) : nmsL out (l.drop j) = nmsL (nms out T) (l.drop (j + 1)) := by
  obtain ⟨hl, e⟩ := List.getElem?_eq_some_iff.1 h
  rw [List.drop_eq_getElem_cons hl, e, nmsL]
theorem nodesL_drop {l : List Ty} {j : Nat} {T : Ty} (h : l[j]? = some T) : nodesL (l.drop j) = nodes T + nodesL (l.drop (j + 1)) := by
  obtain ⟨hl, e⟩ := List.getElem?_eq_some_iff.1 h
  rw [List.drop_eq_getElem_cons hl, e]; simp only [nodesL]
theorem nodes_open (T : Ty) : nodes T = nodesL T.ts + 1 := by cases T; rfl
theorem nmA_addN (out : List ByteArray) (n : ByteArray) : (nmA out n).map bl = addN (out.map bl) (bl n) := by
  unfold nmA addN
  split
  · rfl
  · simp
theorem nmA_len (out : List ByteArray) (n : ByteArray) : (nmA out n).length ≤ out.length + 1 := by
  unfold nmA
  split
  · omega
  · simp
theorem grown_two {w w1 w2 : World} {r0 r1 : Option Nat} (h1 : w.grownBy w1 r0) (h2 : w1.grownBy w2 r1) (h : ∀ g, r1 = some g → r0 = some g ∨ w.heap.size ≤ g) : w.grownBy w2 r0 :=
  ⟨h2.os.trans h1.os, h2.tape.trans h1.tape, h2.output.trans h1.output, Nat.le_trans h1.size h2.size, fun k hk hne => by
    rw [h2.block k (Nat.lt_of_lt_of_le hk h1.size) (fun e => by
      rcases h k e.symm with h3 | h3
      · exact hne h3.symm
      · omega)]
    exact h1.block k hk hne⟩
/-- An append, with the place of the new row. -/
theorem wpList_pushH {α : Type} {w : World} {ops : Array Oper} {rest : List Oper} {o : Oper} {a : Act} {Q : Exit → Act → World → Prop} (E : El α) (hgd : o.guard = none) (s x : Operand)
    (ho : o.op = .call { callee := .builtin .append, args := #[s, x], argTypes := #[E.t, E.t] })
    (base : Nat) (S : Nat → Prop) (v : Value) (xs : List α) (hs : a.eval s = v) (hrow : RowG E w base S v xs)
    (B : Nat) (Z : TypeId) (c : List Value) (hB : w.heap[B]? = some (.cells c.toArray Z (0, 0))) (hx : a.eval x = .slice (some ⟨B, 0, none⟩) 1 1) (y : α) (hy : E.rep w (fun b => S b ∧ some b ≠ v.ownBlock) y c)
    (N : Nat) (hN : N = xs.length + 1) (hb : N ≤ 1000000) (hbase : base ≤ w.heap.size)
    (hK : ∀ (a' : Option Addr) (c' : Nat) (w' : World), RowG E w' base S (.slice a' N c') (xs ++ [y]) → w.grownBy w' v.ownBlock → ((Value.slice a' N c').ownBlock = v.ownBlock ∨ (Value.slice a' N c').ownBlock = some w.heap.size) → wpList Try.prog ops Q rest (a.put o.dst (.slice a' N c')) w') :
    wpList Try.prog ops Q (o :: rest) a w := by
  obtain ⟨i, z, hi, hz, hk, hby, hzs⟩ := E.info
  obtain ⟨L, hown, hl, hr⟩ := hrow
  have hc := E.len hy
  have hE := E.hby
  refine wpList_append_own_at w hgd s x E.t ho base E.e i z E.k E.by_ E.und hi hz hk hby hzs E.hk v xs.length L.flatten hs hown ⟨B, 0, none⟩ 1 1 c hx (by omega) (World.news_of_block hB) hc.2 (by unfold maxLen; omega) ?_ hbase ?_
  · have := Nat.mul_le_mul (show xs.length + 1 ≤ 1000000 by omega) hE
    omega
  intro v' w' hown' hg _ hloc
  have hrow' : RowG E w' base S v' (xs ++ [y]) := push_after hl hr hy hown' hg hloc
  obtain ⟨a', c', rfl, _⟩ := hrow'.slice
  have e : (xs ++ [y]).length = N := by rw [List.length_append, hN]; rfl
  rw [e] at hrow' hloc ⊢
  exact hK a' c' w' hrow' hg hloc

def NwAt (T : Ty) : Prop := ∀ (out : List ByteArray) (n mb : Nat) (v nv : Value) (w : World), Rep w (fun c => c < mb) T v → RowG StrE w (mb + 1) (fun _ => False) nv out → SM w mb n (out.map bl) → out.length ≤ n → n + nodes T ≤ 100000 →
  Calls Try.prog 60 #[v, nv, .map (some mb)] w fun e w' => ∃ nv', e = .returned nv' ∧ RowG StrE w' (mb + 1) (fun _ => False) nv' (nms out T) ∧ SM w' mb (n + nodes T) ((nms out T).map bl) ∧ (nms out T).length ≤ n + nodes T ∧ Below mb w w'
structure NwSt (w : World) (mb N : Nat) (ts : List Ty) (o : List ByteArray) (y : Value) (wr : World) : Prop where
  row : RowG StrE wr (mb + 1) (fun _ => False) y o
  sm : ∃ m, SM wr mb m (o.map bl) ∧ o.length ≤ m ∧ m + nodesL ts ≤ N
  low : Below mb w wr
theorem NwSt.lift {w wr wr' : World} {mb N : Nat} {ts : List Ty} {o : List ByteArray} {y : Value} (h : NwSt w mb N ts o y wr) (hb : Below wr.heap.size wr wr') : NwSt w mb N ts o y wr' := by
  obtain ⟨m, h1, h2, h3⟩ := h.sm
  exact ⟨h.row.lift hb, ⟨m, h1.lift hb, h2, h3⟩, h.low.trans (hb.mono (Nat.le_of_lt (Nat.lt_of_lt_of_le h1.lt (Nat.le_refl _))))⟩
set_option maxRecDepth 100000 in
set_option maxHeartbeats 6400000 in
theorem newNames_of (T : Ty) (H : ∀ U ∈ T.ts, NwAt U) : NwAt T := by
  intro out n mb v nv w h hrow hsm hol hN
  have hno := nodes_open T
  have hop := nms_open out T
  have HH := Lib.hid H
  obtain ⟨k, nm, i, hm, s, eT, rfl, hn, hs⟩ := h.open
  obtain ⟨sa, sc, rfl, ⟨hl1, hl2⟩, hj⟩ := hs
  have HJ := Lib.hid hj
  obtain ⟨ya, yc, rfl, -, -⟩ := hrow.slice
  have hTk : T.k = k := by rw [eT]; rfl
  have hTn : T.n = nm := by rw [eT]; rfl
  rw [hTk, hTn] at hop
  have hmb := hsm.lt
  have hlt : T.ts.length ≤ maxLen := by omega
  have hyl := fun g e => RowG.lt hrow g e
  have HYl := Lib.hid hyl
  have hal : Below w.heap.size w (w.alloc (.cells #[.int .i64 k, .string nm, .int .i64 i, .int .i64 hm, .slice sa T.ts.length sc] 32)) := (Below.refl _ w).alloc (Nat.le_refl _) _
  have HBx : Hid (Box (w.alloc (.cells #[.int .i64 k, .string nm, .int .i64 i, .int .i64 hm, .slice sa T.ts.length sc] 32)) w.heap.size (.int .i64 k) (.string nm) (.int .i64 i) (.int .i64 hm) (.slice sa T.ts.length sc)) := Box.made _ _ _ _ _ _
  have HB : Hid (Below mb w (w.alloc (.cells #[.int .i64 k, .string nm, .int .i64 i, .int .i64 hm, .slice sa T.ts.length sc] 32))) := hal.mono (Nat.le_of_lt hmb)
  have HRw := Lib.hid (hrow.lift hal)
  have HSm := Lib.hid (hsm.lift hal)
  have hVs : mb < (w.alloc (.cells #[.int .i64 k, .string nm, .int .i64 i, .int .i64 hm, .slice sa T.ts.length sc] 32)).heap.size := Nat.lt_of_lt_of_le hmb hal.size
  have HIs : Hid (∀ V, SM V mb n (out.map bl) → Calls Try.prog 68 #[.map (some mb), .string nm] V fun e w' => e = .returned (.bool (!(out.map bl).contains (bl nm))) ∧ SM w' mb (n + 1) (addN (out.map bl) (bl nm)) ∧ V.grownBy w' (some mb)) := fun V hV => isNew_any mb n _ nm V hn (by unfold maxLen; omega) hV
  obtain ⟨tn, htn⟩ : ∃ n, n = T.ts.length := ⟨_, rfl⟩
  rw [← htn] at hlt HBx HB HRw HSm hVs ⊢
  have HTn := Lib.hid htn
  have hon : out.length ≤ 100000 := by omega
  have HOl := Lib.hid hol
  have hnN : n + 1 + nodesL T.ts = n + nodes T := by omega
  have HNN := Lib.hid hnN
  have HNB := Lib.hid hN
  have hn1 : n ≤ 99999 := by omega
  unfold maxLen at hlt
  clear h hrow hsm H hj eT hl1 hl2 htn hTk hTn hyl hal hnN hN hol hno
  generalize nodes T = NT at *
  obtain ⟨on, hone⟩ : ∃ n, n = out.length := ⟨_, rfl⟩
  rw [← hone] at hon HYl HRw ⊢
  have HOn := Lib.hid hone
  clear hone
  cases h5 : (k == 5) with
  | false =>
    have HT0 : Hid (nms out T = nmsL out (T.ts.drop 0)) := by show _ = _; rw [hop, h5]; simp
    clear hop
    go_enter Try.func60, Try.ntmps60
    go_upto_region 1 with fail
    generalize (w.alloc (.cells #[.int .i64 k, .string nm, .int .i64 i, .int .i64 hm, .slice sa tn sc] 32)) = V at *
    obtain ⟨b0, b1, b2, b3, b4⟩ := HBx.out.cells
    have HW : Hid (NwSt w mb (n + NT) (T.ts.drop 0) out (.slice ya on yc) V) := ⟨HRw.out, ⟨n, HSm.out, HOl.out, by have := HNN.out; simp; omega⟩, HB.out⟩
    go_wp2_with fail
    go_loopw [1, 26] (fun y x wr => ∃ (j : Nat) (o : List ByteArray), j ≤ tn ∧ x = .int .i64 j ∧ Hid (nms out T = nmsL o (T.ts.drop j)) ∧ Hid (NwSt w mb (n + NT) (T.ts.drop j) o y wr)) (fun _ x _ => tn - (intOf x).toNat)
    case atStart => exact ⟨0, _, Nat.zero_le _, rfl, HT0, HW⟩
    case round =>
      obtain ⟨j, o, hj, rfl, HT, HS⟩ := hrel
      clear HW
      by_cases hjt : j < tn
      · obtain ⟨U, hU⟩ : ∃ x, T.ts[j]? = some x := ⟨_, List.getElem?_eq_getElem (by rw [← HTn.out]; exact hjt)⟩
        have HD := Lib.hid (nmsL_drop (out := o) hU)
        have hnd := nodesL_drop hU
        obtain ⟨ad, x, rfl, hSb, hF, hx⟩ := HJ.out j U hU
        have hx' := hx.kept (fun _ h => h) (fun c hc _ => HS.out.low.block c hc)
        have g5 := hF.kept (HS.out.low.block _ hSb)
        have HUm := Lib.hid (List.mem_of_getElem? hU)
        obtain ⟨k', n', i', h', s', -, rfl, hn', hs'⟩ := hx'.open
        obtain ⟨q0, q1, q2, q3, q4⟩ := five_at g5
        obtain ⟨ua, uc, rfl, -⟩ := hs'
        have hal : Below wr.heap.size wr (wr.alloc (.cells #[.int .i64 k', .string n', .int .i64 i', .int .i64 h', .slice ua U.ts.length uc] 32)) := (Below.refl _ wr).alloc (Nat.le_refl _) _
        have HBU : Hid (Box (wr.alloc (.cells #[.int .i64 k', .string n', .int .i64 i', .int .i64 h', .slice ua U.ts.length uc] 32)) wr.heap.size (.int .i64 k') (.string n') (.int .i64 i') (.int .i64 h') (.slice ua U.ts.length uc)) := Box.made _ _ _ _ _ _
        obtain ⟨m, hm1, hm2, hm3⟩ := HS.out.sm
        have HSl := Lib.hid (HS.out.lift hal)
        have HC := Lib.hid (HH.out U HUm.out o m mb _ u1 _ (hx'.kept (fun _ h => h) (fun c _ hl => hal.block c hl)) HSl.out.row (hm1.lift hal) hm2 (by have := HNB.out; omega))
        have HMl : Hid (m + nodes U + nodesL (T.ts.drop (j + 1)) ≤ n + NT) := by show _ ≤ _; omega
        have hji : (j : Int) < (tn : Int) := by omega
        clear hU hx hx' g5 hF hSb hn' hal hnd hm1 hm2 hm3
        generalize U.ts.length = un at *
        go_upto_region 6 with fail
        generalize (wr.alloc (.cells #[.int .i64 k', .string n', .int .i64 i', .int .i64 h', .slice ua un uc] 32)) = V2 at *
        generalize wr.heap.size = R at *
        clear q0 q1 q2 q3 q4
        obtain ⟨q0, q1, q2, q3, q4⟩ := HBU.out.cells
        have HT2 : Hid (nms out T = nmsL (nms o U) (T.ts.drop (j + 1))) := by show _ = _; rw [HT.out, HD.out]
        go_wp2_with (go_at_call 60; refine HC.out.mono ?_; rintro e w3 ⟨nv3, rfl, hr3, hs3, hl3, hb3⟩; have HW3 : Hid (NwSt w mb (n + NT) (T.ts.drop (j + 1)) (nms o U) nv3 w3) := ⟨hr3, ⟨_, hs3, hl3, HMl.out⟩, HSl.out.low.trans hb3⟩; clear hr3 hs3 hl3 hb3)
        go_roundw
        case rel => exact ⟨j + 1, _, hjt, by go_num, HT2, HW3⟩
        case measure => simp [intOf]; omega
      · have hj' : T.ts.drop j = [] := List.drop_eq_nil_of_le (by rw [← HTn.out]; omega)
        have HT2 : Hid (nms out T = o) := by show _ = _; rw [HT.out, hj']; rfl
        obtain ⟨m, hm1, hm2, hm3⟩ := HS.out.sm
        go_wp2
        go_ret
        have e2 : nms out T = o := HT2.out
        rw [e2]
        exact ⟨_, rfl, HS.out.row, hm1.mono (by simpa [hj', nodesL] using hm3), by (have hm4 : m ≤ n + NT := by simpa [hj', nodesL] using hm3); omega, HS.out.low⟩
  | true =>
    have hd0 : T.ts.drop 0 = T.ts := rfl
    have HAd := Lib.hid (nmA_addN out nm)
    have hal2 := nmA_len out nm
    have HT0 : Hid (nms out T = nmsL (nmA out nm) (T.ts.drop 0)) := by show _ = _; rw [hop, h5]; simp
    clear hop
    cases hc : (out.map bl).contains (bl nm) with
    | true =>
      have hnA : nmA out nm = out := by unfold nmA; rw [hc]; rfl
      rw [hnA] at HAd HT0
      rw [hc, ← HAd.out] at HIs
      clear hc hnA hal2
      go_enter Try.func60, Try.ntmps60
      go_upto_region 1 with fail
      generalize (w.alloc (.cells #[.int .i64 k, .string nm, .int .i64 i, .int .i64 hm, .slice sa tn sc] 32)) = V at *
      obtain ⟨b0, b1, b2, b3, b4⟩ := HBx.out.cells
      have HI := Lib.hid (HIs.out V HSm.out)
      go_wp2_with (go_at_call 68; refine HI.out.mono ?_; rintro e w1 ⟨rfl, hs1, hg1⟩; have HB1 := Lib.hid (HBx.out.grown hg1 (by intro e; have := Option.some.inj e; omega)); obtain ⟨b0, b1, b2, b3, b4⟩ := HB1.out.cells; have HW : Hid (NwSt w mb (n + NT) (T.ts.drop 0) out (.slice ya on yc) w1) := ⟨HRw.out.kept hg1 (HRw.out.off (Nat.lt_succ_self _)) (fun _ h => h.elim), ⟨n + 1, hs1, by have := HOl.out; omega, by have := HNN.out; simp; omega⟩, Below.grown HB.out hg1 (Nat.le_of_lt hVs) (fun k hk => by cases hk; exact Nat.le_refl _)⟩; clear hs1 hg1)
      go_loopw [1, 26] (fun y x wr => ∃ (j : Nat) (o : List ByteArray), j ≤ tn ∧ x = .int .i64 j ∧ Hid (nms out T = nmsL o (T.ts.drop j)) ∧ Hid (NwSt w mb (n + NT) (T.ts.drop j) o y wr)) (fun _ x _ => tn - (intOf x).toNat)
      case atStart => exact ⟨0, _, Nat.zero_le _, rfl, HT0, HW⟩
      case round =>
        obtain ⟨j, o, hj, rfl, HT, HS⟩ := hrel
        clear HW
        by_cases hjt : j < tn
        · obtain ⟨U, hU⟩ : ∃ x, T.ts[j]? = some x := ⟨_, List.getElem?_eq_getElem (by rw [← HTn.out]; exact hjt)⟩
          have HD := Lib.hid (nmsL_drop (out := o) hU)
          have hnd := nodesL_drop hU
          obtain ⟨ad, x, rfl, hSb, hF, hx⟩ := HJ.out j U hU
          have hx' := hx.kept (fun _ h => h) (fun c hc _ => HS.out.low.block c hc)
          have g5 := hF.kept (HS.out.low.block _ hSb)
          have HUm := Lib.hid (List.mem_of_getElem? hU)
          obtain ⟨k', n', i', h', s', -, rfl, hn', hs'⟩ := hx'.open
          obtain ⟨q0, q1, q2, q3, q4⟩ := five_at g5
          obtain ⟨ua, uc, rfl, -⟩ := hs'
          have hal : Below wr.heap.size wr (wr.alloc (.cells #[.int .i64 k', .string n', .int .i64 i', .int .i64 h', .slice ua U.ts.length uc] 32)) := (Below.refl _ wr).alloc (Nat.le_refl _) _
          have HBU : Hid (Box (wr.alloc (.cells #[.int .i64 k', .string n', .int .i64 i', .int .i64 h', .slice ua U.ts.length uc] 32)) wr.heap.size (.int .i64 k') (.string n') (.int .i64 i') (.int .i64 h') (.slice ua U.ts.length uc)) := Box.made _ _ _ _ _ _
          obtain ⟨m, hm1, hm2, hm3⟩ := HS.out.sm
          have HSl := Lib.hid (HS.out.lift hal)
          have HC := Lib.hid (HH.out U HUm.out o m mb _ u1 _ (hx'.kept (fun _ h => h) (fun c _ hl => hal.block c hl)) HSl.out.row (hm1.lift hal) hm2 (by have := HNB.out; omega))
          have HMl : Hid (m + nodes U + nodesL (T.ts.drop (j + 1)) ≤ n + NT) := by show _ ≤ _; omega
          have hji : (j : Int) < (tn : Int) := by omega
          clear hU hx hx' g5 hF hSb hn' hal hnd hm1 hm2 hm3
          generalize U.ts.length = un at *
          go_upto_region 6 with fail
          generalize (wr.alloc (.cells #[.int .i64 k', .string n', .int .i64 i', .int .i64 h', .slice ua un uc] 32)) = V2 at *
          generalize wr.heap.size = R at *
          clear q0 q1 q2 q3 q4
          obtain ⟨q0, q1, q2, q3, q4⟩ := HBU.out.cells
          have HT2 : Hid (nms out T = nmsL (nms o U) (T.ts.drop (j + 1))) := by show _ = _; rw [HT.out, HD.out]
          go_wp2_with (go_at_call 60; refine HC.out.mono ?_; rintro e w3 ⟨nv3, rfl, hr3, hs3, hl3, hb3⟩; have HW3 : Hid (NwSt w mb (n + NT) (T.ts.drop (j + 1)) (nms o U) nv3 w3) := ⟨hr3, ⟨_, hs3, hl3, HMl.out⟩, HSl.out.low.trans hb3⟩; clear hr3 hs3 hl3 hb3)
          go_roundw
          case rel => exact ⟨j + 1, _, hjt, by go_num, HT2, HW3⟩
          case measure => simp [intOf]; omega
        · have hj' : T.ts.drop j = [] := List.drop_eq_nil_of_le (by rw [← HTn.out]; omega)
          have HT2 : Hid (nms out T = o) := by show _ = _; rw [HT.out, hj']; rfl
          obtain ⟨m, hm1, hm2, hm3⟩ := HS.out.sm
          go_wp2
          go_ret
          have e2 : nms out T = o := HT2.out
          rw [e2]
          exact ⟨_, rfl, HS.out.row, hm1.mono (by simpa [hj', nodesL] using hm3), by (have hm4 : m ≤ n + NT := by simpa [hj', nodesL] using hm3); omega, HS.out.low⟩
    | false =>
      have hnA : nmA out nm = out ++ [nm] := by unfold nmA; rw [hc]; rfl
      rw [hnA] at HAd HT0
      rw [hc, ← HAd.out] at HIs
      clear hc hnA hal2
      go_enter Try.func60, Try.ntmps60
      go_upto_region 1 with fail
      generalize (w.alloc (.cells #[.int .i64 k, .string nm, .int .i64 i, .int .i64 hm, .slice sa tn sc] 32)) = V at *
      obtain ⟨b0, b1, b2, b3, b4⟩ := HBx.out.cells
      have HI := Lib.hid (HIs.out V HSm.out)
      have HRn : Hid (∀ V1, V.grownBy V1 (some mb) → RowG StrE V1 (mb + 1) (fun _ => False) (.slice ya on yc) out) := fun V1 hg => HRw.out.kept hg (HRw.out.off (Nat.lt_succ_self _)) (fun _ h => h.elim)
      have HSt : Hid (∀ V S, StrE.rep V S nm [.string nm]) := fun _ _ => rfl
      go_wp2_with (first
        | (go_at_call 68; refine HI.out.mono ?_; rintro e w1 ⟨rfl, hs1, hg1⟩; have HB1 := Lib.hid (HBx.out.grown hg1 (by intro e; have := Option.some.inj e; omega)); obtain ⟨b0, b1, b2, b3, b4⟩ := HB1.out.cells; have HS1 := Lib.hid hs1; have HR1 := Lib.hid (HRn.out w1 hg1); have HG1 := Lib.hid hg1; have HN1 : Hid (∀ X Z, (w1.alloc (.cells X Z)).heap[w1.heap.size]? = some (.cells X Z (0, 0))) := fun X Z => heap_alloc_new w1 _; have HA1 : Hid (∀ X, Below w1.heap.size w1 (w1.alloc X)) := fun X => (Below.refl _ w1).alloc (Nat.le_refl _) X; have HB1' := Lib.hid (Below.grown HB.out hg1 (Nat.le_of_lt hVs) (fun k hk => by cases hk; exact Nat.le_refl _)); have HV1 := Lib.hid (Nat.lt_of_lt_of_le hVs hg1.size); have HRA := Lib.hid (fun X => HR1.out.lift (HA1.out X)); clear hs1 hg1)
        | (at_builtin; refine wpList_pushG StrE rfl _ _ rfl (mb + 1) (fun _ => False) (.slice ya on yc) out rfl (HRA.out _) w1.heap.size _ [.string nm] (HN1.out _ _) rfl nm (HSt.out _ _) (on + 1) (by rw [HOn.out]) (by omega) (Nat.le_trans HV1.out (HA1.out _).size) ?_; intro a3 c3 w3 hrow3 hg3; have HB3 := Lib.hid ((HB1.out.lift (HA1.out _)).grown hg3 (by intro e; have := (HYl.out _ e.symm).2; omega)); obtain ⟨b0, b1, b2, b3, b4⟩ := HB3.out.cells; have HW : Hid (NwSt w mb (n + NT) (T.ts.drop 0) (out ++ [nm]) (.slice a3 (on + 1) c3) w3) := ⟨hrow3, ⟨n + 1, (HS1.out.lift (HA1.out _)).kept hg3 (by intro e; have := (HYl.out _ e.symm).1; omega), by have := HOl.out; simp; omega, by have := HNN.out; simp; omega⟩, Below.grown (HB1'.out.trans ((HA1.out _).mono (Nat.le_of_lt HV1.out))) hg3 (Nat.le_trans (Nat.le_of_lt HV1.out) (HA1.out _).size) (fun k hk => by have := (HYl.out k hk).1; omega)⟩; clear hrow3 hg3))
      go_loopw [1, 26] (fun y x wr => ∃ (j : Nat) (o : List ByteArray), j ≤ tn ∧ x = .int .i64 j ∧ Hid (nms out T = nmsL o (T.ts.drop j)) ∧ Hid (NwSt w mb (n + NT) (T.ts.drop j) o y wr)) (fun _ x _ => tn - (intOf x).toNat)
      case atStart => exact ⟨0, _, Nat.zero_le _, rfl, HT0, HW⟩
      case round =>
        obtain ⟨j, o, hj, rfl, HT, HS⟩ := hrel
        clear HW
        by_cases hjt : j < tn
        · obtain ⟨U, hU⟩ : ∃ x, T.ts[j]? = some x := ⟨_, List.getElem?_eq_getElem (by rw [← HTn.out]; exact hjt)⟩
          have HD := Lib.hid (nmsL_drop (out := o) hU)
          have hnd := nodesL_drop hU
          obtain ⟨ad, x, rfl, hSb, hF, hx⟩ := HJ.out j U hU
          have hx' := hx.kept (fun _ h => h) (fun c hc _ => HS.out.low.block c hc)
          have g5 := hF.kept (HS.out.low.block _ hSb)
          have HUm := Lib.hid (List.mem_of_getElem? hU)
          obtain ⟨k', n', i', h', s', -, rfl, hn', hs'⟩ := hx'.open
          obtain ⟨q0, q1, q2, q3, q4⟩ := five_at g5
          obtain ⟨ua, uc, rfl, -⟩ := hs'
          have hal : Below wr.heap.size wr (wr.alloc (.cells #[.int .i64 k', .string n', .int .i64 i', .int .i64 h', .slice ua U.ts.length uc] 32)) := (Below.refl _ wr).alloc (Nat.le_refl _) _
          have HBU : Hid (Box (wr.alloc (.cells #[.int .i64 k', .string n', .int .i64 i', .int .i64 h', .slice ua U.ts.length uc] 32)) wr.heap.size (.int .i64 k') (.string n') (.int .i64 i') (.int .i64 h') (.slice ua U.ts.length uc)) := Box.made _ _ _ _ _ _
          obtain ⟨m, hm1, hm2, hm3⟩ := HS.out.sm
          have HSl := Lib.hid (HS.out.lift hal)
          have HC := Lib.hid (HH.out U HUm.out o m mb _ u1 _ (hx'.kept (fun _ h => h) (fun c _ hl => hal.block c hl)) HSl.out.row (hm1.lift hal) hm2 (by have := HNB.out; omega))
          have HMl : Hid (m + nodes U + nodesL (T.ts.drop (j + 1)) ≤ n + NT) := by show _ ≤ _; omega
          have hji : (j : Int) < (tn : Int) := by omega
          clear hU hx hx' g5 hF hSb hn' hal hnd hm1 hm2 hm3
          generalize U.ts.length = un at *
          go_upto_region 6 with fail
          generalize (wr.alloc (.cells #[.int .i64 k', .string n', .int .i64 i', .int .i64 h', .slice ua un uc] 32)) = V2 at *
          generalize wr.heap.size = R at *
          clear q0 q1 q2 q3 q4
          obtain ⟨q0, q1, q2, q3, q4⟩ := HBU.out.cells
          have HT2 : Hid (nms out T = nmsL (nms o U) (T.ts.drop (j + 1))) := by show _ = _; rw [HT.out, HD.out]
          go_wp2_with (go_at_call 60; refine HC.out.mono ?_; rintro e w3 ⟨nv3, rfl, hr3, hs3, hl3, hb3⟩; have HW3 : Hid (NwSt w mb (n + NT) (T.ts.drop (j + 1)) (nms o U) nv3 w3) := ⟨hr3, ⟨_, hs3, hl3, HMl.out⟩, HSl.out.low.trans hb3⟩; clear hr3 hs3 hl3 hb3)
          go_roundw
          case rel => exact ⟨j + 1, _, hjt, by go_num, HT2, HW3⟩
          case measure => simp [intOf]; omega
        · have hj' : T.ts.drop j = [] := List.drop_eq_nil_of_le (by rw [← HTn.out]; omega)
          have HT2 : Hid (nms out T = o) := by show _ = _; rw [HT.out, hj']; rfl
          obtain ⟨m, hm1, hm2, hm3⟩ := HS.out.sm
          go_wp2
          go_ret
          have e2 : nms out T = o := HT2.out
          rw [e2]
          exact ⟨_, rfl, HS.out.row, hm1.mono (by simpa [hj', nodesL] using hm3), by (have hm4 : m ≤ n + NT := by simpa [hj', nodesL] using hm3); omega, HS.out.low⟩
theorem newNames_any (T : Ty) : NwAt T := Ty.induct newNames_of T
end Go.Proofs.Ytfkbifbodpelmaa

/- The names of a type: the reference's; both from nothing. -/
namespace Go.Proofs.Ytfkbifbodpelmaa
open Go.RowKit Go.Sort Go.Shelf Go.Maps Mth

theorem ixF_neg (s : ByteArray) : ∀ (l : List ByteArray) (j : Nat), decide (ixF s l j < 0) = !((l.map bl).contains (bl s)) := by
  intro l
  induction l with
  | nil => intro j; simp [ixF]
  | cons t l ih =>
    intro j
    rw [List.map_cons, List.contains_cons, bl_beq]
    show decide ((if t.toList == s.toList then (j : Int) else ixF s l (j + 1)) < 0) = _
    by_cases h : t.toList = s.toList
    · have h1 : (t.toList == s.toList) = true := by simpa using h
      have h2 : (s.toList == t.toList) = true := by simpa using h.symm
      simp only [if_pos h1, h2]
      simp
    · have h1 : ¬ (t.toList == s.toList) = true := by simpa using h
      have h2 : (s.toList == t.toList) = false := by simpa using fun e => h e.symm
      simp only [if_neg h1, h2, Bool.false_or]
      exact ih (j + 1)
theorem ix_neg (l : List ByteArray) (s : ByteArray) : decide (ix l s < 0) = !((l.map bl).contains (bl s)) := ixF_neg s l 0
def RnAt (T : Ty) : Prop := ∀ (out : List ByteArray) (base : Nat) (v nv : Value) (w : World), Rep w (fun c => c < base) T v → base ≤ w.heap.size → RowG StrE w base (fun _ => False) nv out → out.length + nodes T ≤ 100000 →
  Calls Try.prog 61 #[nv, v] w fun e w' => ∃ nv', e = .returned nv' ∧ RowG StrE w' base (fun _ => False) nv' (nms out T) ∧ w.grownBy w' nv.ownBlock ∧ (∀ g, nv'.ownBlock = some g → nv.ownBlock = some g ∨ w.heap.size ≤ g) ∧ (nms out T).length ≤ out.length + nodes T
structure RnSt (V : World) (base : Nat) (y0 : Option Nat) (N : Nat) (ts : List Ty) (o : List ByteArray) (y : Value) (wr : World) : Prop where
  row : RowG StrE wr base (fun _ => False) y o
  fr : V.grownBy wr y0
  own : ∀ g, y.ownBlock = some g → y0 = some g ∨ V.heap.size ≤ g
  len : o.length + nodesL ts ≤ N
set_option maxRecDepth 100000 in
set_option maxHeartbeats 1600000 in
theorem refNames_of (T : Ty) (H : ∀ U ∈ T.ts, RnAt U) : RnAt T := by
  intro out base v nv w h hbase hrow hN
  have hno := nodes_open T
  have hop := nms_open out T
  have HH := Lib.hid H
  obtain ⟨k, nm, i, hm, s, eT, rfl, hn, hs⟩ := h.open
  obtain ⟨sa, sc, rfl, ⟨hl1, hl2⟩, hj⟩ := hs
  have HJ := Lib.hid hj
  obtain ⟨ya, yc, rfl, -, -⟩ := hrow.slice
  have hTk : T.k = k := by rw [eT]; rfl
  have hTn : T.n = nm := by rw [eT]; rfl
  rw [hTk, hTn] at hop
  have hlt : T.ts.length ≤ maxLen := by omega
  have hyl := fun g e => RowG.lt hrow g e
  have HYl := Lib.hid hyl
  have hal : Below w.heap.size w (w.alloc (.cells #[.int .i64 k, .string nm, .int .i64 i, .int .i64 hm, .slice sa T.ts.length sc] 32)) := (Below.refl _ w).alloc (Nat.le_refl _) _
  have HBx : Hid (Box (w.alloc (.cells #[.int .i64 k, .string nm, .int .i64 i, .int .i64 hm, .slice sa T.ts.length sc] 32)) w.heap.size (.int .i64 k) (.string nm) (.int .i64 i) (.int .i64 hm) (.slice sa T.ts.length sc)) := Box.made _ _ _ _ _ _
  have HRw := Lib.hid (hrow.lift hal)
  have HAl := Lib.hid hal
  have HVb : Hid (base ≤ (w.alloc (.cells #[.int .i64 k, .string nm, .int .i64 i, .int .i64 hm, .slice sa T.ts.length sc] 32)).heap.size) := Nat.le_trans hbase hal.size
  have HBn : Hid (some w.heap.size ≠ (Value.slice ya out.length yc).ownBlock) := fun e => by have := (hyl _ e.symm).2; omega
  have HIs : Hid (∀ V, RowG StrE V base (fun _ => False) (.slice ya out.length yc) out → Calls Try.prog 48 #[.slice ya out.length yc, .string nm] V fun e w' => e = .returned (.int .i64 (ix out nm)) ∧ V = w') := fun V hV => refIndex_any out nm _ (fun _ => True) V (hV.slG (fun _ _ => trivial) (fun _ _ => trivial))
  have HNg := Lib.hid (ix_neg out nm)
  obtain ⟨tn, htn⟩ : ∃ n, n = T.ts.length := ⟨_, rfl⟩
  rw [← htn] at hlt HBx HAl HRw HVb ⊢
  have HTn := Lib.hid htn
  have hon : out.length ≤ 99999 := by omega
  have hnN : out.length + 1 + nodesL T.ts = out.length + nodes T := by omega
  unfold maxLen at hlt
  clear h hrow H hj eT hl1 hl2 htn hTk hTn hyl hal hno hbase
  obtain ⟨on, hone⟩ : ∃ n, n = out.length := ⟨_, rfl⟩
  rw [← hone] at hon HYl HRw HIs HBn hnN hN ⊢
  have HOn := Lib.hid hone
  have HNB := Lib.hid hN
  have HNN := Lib.hid hnN
  generalize nodes T = NT at *
  clear hone hN hnN
  cases h5 : (k == 5) with
  | false =>
    have HT0 : Hid (nms out T = nmsL out (T.ts.drop 0)) := by show _ = _; rw [hop, h5]; simp
    clear hop
    go_enter Try.func61, Try.ntmps61
    go_upto_region 1 with fail
    generalize (w.alloc (.cells #[.int .i64 k, .string nm, .int .i64 i, .int .i64 hm, .slice sa tn sc] 32)) = V at *
    obtain ⟨b0, b1, b2, b3, b4⟩ := HBx.out.cells
    have HW : Hid (RnSt V base (Value.slice ya on yc).ownBlock (on + NT) (T.ts.drop 0) out (.slice ya on yc) V) := ⟨HRw.out, ⟨rfl, rfl, rfl, Nat.le_refl _, fun _ _ _ => rfl⟩, fun g e => .inl e, by have := HNN.out; have := HOn.out; simp; omega⟩
    go_wp2_with fail
    go_loopw [0, 5] (fun y x wr => ∃ (j : Nat) (o : List ByteArray), j ≤ tn ∧ x = .int .i64 j ∧ Hid (nms out T = nmsL o (T.ts.drop j)) ∧ Hid (RnSt V base (Value.slice ya on yc).ownBlock (on + NT) (T.ts.drop j) o y wr)) (fun _ x _ => tn - (intOf x).toNat)
    case atStart => exact ⟨0, _, Nat.zero_le _, rfl, HT0, HW⟩
    case round =>
      obtain ⟨j, o, hj, rfl, HT, HS⟩ := hrel
      clear HW
      clear b0 b1 b2 b3 b4
      have hbx := HBx.out.grown HS.out.fr HBn.out
      have b4 := hbx.cells.2.2.2.2
      by_cases hjt : j < tn
      · obtain ⟨U, hU⟩ : ∃ x, T.ts[j]? = some x := ⟨_, List.getElem?_eq_getElem (by rw [← HTn.out]; exact hjt)⟩
        have HD := Lib.hid (nmsL_drop (out := o) hU)
        have hnd := nodesL_drop hU
        obtain ⟨ad, x, rfl, hSb, hF, hx⟩ := HJ.out j U hU
        have hne : ∀ c, c < base → some c ≠ (Value.slice ya on yc).ownBlock := fun c hc e => by have := (HYl.out c e.symm).1; omega
        have hx' := (hx.lift HAl.out).kept (fun _ h => h) (fun c hc hl => HS.out.fr.block c hl (hne c hc))
        have g5 := (hF.kept (HAl.out.block _ hF.lt)).kept (HS.out.fr.block _ (Nat.lt_of_lt_of_le hF.lt HAl.out.size) (hne _ hSb))
        have HUm := Lib.hid (List.mem_of_getElem? hU)
        obtain ⟨k', n', i', h', s', -, rfl, hn', hs'⟩ := hx'.open
        obtain ⟨q0, q1, q2, q3, q4⟩ := five_at g5
        obtain ⟨ua, uc, rfl, -⟩ := hs'
        have hlen := HS.out.len
        have HC := Lib.hid (HH.out U HUm.out o base _ u0 _ hx' (Nat.le_trans HVb.out HS.out.fr.size) HS.out.row (by have := HNB.out; omega))
        have HML : Hid (o.length + nodes U + nodesL (T.ts.drop (j + 1)) ≤ on + NT) := by show _ ≤ _; omega
        have hji : (j : Int) < (tn : Int) := by omega
        clear hU hx hx' g5 hF hSb hn' hnd hlen hne hbx
        generalize U.ts.length = un at *
        have HT2 : Hid (nms out T = nmsL (nms o U) (T.ts.drop (j + 1))) := by show _ = _; rw [HT.out, HD.out]
        go_wp2_with (go_at_call 61; refine HC.out.mono ?_; rintro e w3 ⟨nv3, rfl, hr3, hg3, ho3, hl3⟩; have HW3 : Hid (RnSt V base (Value.slice ya on yc).ownBlock (on + NT) (T.ts.drop (j + 1)) (nms o U) nv3 w3) := ⟨hr3, grown_two HS.out.fr hg3 HS.out.own, fun g e => by
            rcases ho3 g e with h | h
            · exact HS.out.own g h
            · exact .inr (Nat.le_trans HS.out.fr.size h), by have := HML.out; omega⟩; clear hr3 hg3 ho3 hl3)
        go_roundw
        case rel => exact ⟨j + 1, _, hjt, by go_num, HT2, HW3⟩
        case measure => simp [intOf]; omega
      · have hj' : T.ts.drop j = [] := List.drop_eq_nil_of_le (by rw [← HTn.out]; omega)
        have HT2 : Hid (nms out T = o) := by show _ = _; rw [HT.out, hj']; rfl
        have hlen := HS.out.len
        go_wp2
        go_ret
        have e2 : nms out T = o := HT2.out
        rw [e2]
        exact ⟨_, rfl, HS.out.row, grown_two (grown_of_below HAl.out _) HS.out.fr (fun g e => .inl e), fun g e => by
          rcases HS.out.own g e with h | h
          · exact .inl h
          · exact .inr (Nat.le_trans HAl.out.size h), by rw [← HOn.out] at *; omega⟩
  | true =>
    have hal2 := nmA_len out nm
    have HT0 : Hid (nms out T = nmsL (nmA out nm) (T.ts.drop 0)) := by show _ = _; rw [hop, h5]; simp
    clear hop
    cases hc : (out.map bl).contains (bl nm) with
    | true =>
      have hnA : nmA out nm = out := by unfold nmA; rw [hc]; rfl
      rw [hnA] at HT0
      rw [hc] at HNg
      have hng : decide (ix out nm < 0) = false := HNg.out
      generalize ix out nm = q at *
      clear hc hnA hal2
      go_enter Try.func61, Try.ntmps61
      go_upto_region 1 with fail
      generalize (w.alloc (.cells #[.int .i64 k, .string nm, .int .i64 i, .int .i64 hm, .slice sa tn sc] 32)) = V at *
      obtain ⟨b0, b1, b2, b3, b4⟩ := HBx.out.cells
      have HI := Lib.hid (HIs.out V HRw.out)
      have HW : Hid (RnSt V base (Value.slice ya on yc).ownBlock (on + NT) (T.ts.drop 0) out (.slice ya on yc) V) := ⟨HRw.out, ⟨rfl, rfl, rfl, Nat.le_refl _, fun _ _ _ => rfl⟩, fun g e => .inl e, by have := HNN.out; have := HOn.out; simp; omega⟩
      go_wp2_with (go_at_call 48; refine HI.out.mono ?_; rintro e w1 ⟨rfl, rfl⟩)
      go_loopw [0, 5] (fun y x wr => ∃ (j : Nat) (o : List ByteArray), j ≤ tn ∧ x = .int .i64 j ∧ Hid (nms out T = nmsL o (T.ts.drop j)) ∧ Hid (RnSt V base (Value.slice ya on yc).ownBlock (on + NT) (T.ts.drop j) o y wr)) (fun _ x _ => tn - (intOf x).toNat)
      case atStart => exact ⟨0, _, Nat.zero_le _, rfl, HT0, HW⟩
      case round =>
        obtain ⟨j, o, hj, rfl, HT, HS⟩ := hrel
        clear HW
        clear b0 b1 b2 b3 b4
        have hbx := HBx.out.grown HS.out.fr HBn.out
        have b4 := hbx.cells.2.2.2.2
        by_cases hjt : j < tn
        · obtain ⟨U, hU⟩ : ∃ x, T.ts[j]? = some x := ⟨_, List.getElem?_eq_getElem (by rw [← HTn.out]; exact hjt)⟩
          have HD := Lib.hid (nmsL_drop (out := o) hU)
          have hnd := nodesL_drop hU
          obtain ⟨ad, x, rfl, hSb, hF, hx⟩ := HJ.out j U hU
          have hne : ∀ c, c < base → some c ≠ (Value.slice ya on yc).ownBlock := fun c hc e => by have := (HYl.out c e.symm).1; omega
          have hx' := (hx.lift HAl.out).kept (fun _ h => h) (fun c hc hl => HS.out.fr.block c hl (hne c hc))
          have g5 := (hF.kept (HAl.out.block _ hF.lt)).kept (HS.out.fr.block _ (Nat.lt_of_lt_of_le hF.lt HAl.out.size) (hne _ hSb))
          have HUm := Lib.hid (List.mem_of_getElem? hU)
          obtain ⟨k', n', i', h', s', -, rfl, hn', hs'⟩ := hx'.open
          obtain ⟨q0, q1, q2, q3, q4⟩ := five_at g5
          obtain ⟨ua, uc, rfl, -⟩ := hs'
          have hlen := HS.out.len
          have HC := Lib.hid (HH.out U HUm.out o base _ u0 _ hx' (Nat.le_trans HVb.out HS.out.fr.size) HS.out.row (by have := HNB.out; omega))
          have HML : Hid (o.length + nodes U + nodesL (T.ts.drop (j + 1)) ≤ on + NT) := by show _ ≤ _; omega
          have hji : (j : Int) < (tn : Int) := by omega
          clear hU hx hx' g5 hF hSb hn' hnd hlen hne hbx
          generalize U.ts.length = un at *
          have HT2 : Hid (nms out T = nmsL (nms o U) (T.ts.drop (j + 1))) := by show _ = _; rw [HT.out, HD.out]
          go_wp2_with (go_at_call 61; refine HC.out.mono ?_; rintro e w3 ⟨nv3, rfl, hr3, hg3, ho3, hl3⟩; have HW3 : Hid (RnSt V base (Value.slice ya on yc).ownBlock (on + NT) (T.ts.drop (j + 1)) (nms o U) nv3 w3) := ⟨hr3, grown_two HS.out.fr hg3 HS.out.own, fun g e => by
              rcases ho3 g e with h | h
              · exact HS.out.own g h
              · exact .inr (Nat.le_trans HS.out.fr.size h), by have := HML.out; omega⟩; clear hr3 hg3 ho3 hl3)
          go_roundw
          case rel => exact ⟨j + 1, _, hjt, by go_num, HT2, HW3⟩
          case measure => simp [intOf]; omega
        · have hj' : T.ts.drop j = [] := List.drop_eq_nil_of_le (by rw [← HTn.out]; omega)
          have HT2 : Hid (nms out T = o) := by show _ = _; rw [HT.out, hj']; rfl
          have hlen := HS.out.len
          go_wp2
          go_ret
          have e2 : nms out T = o := HT2.out
          rw [e2]
          exact ⟨_, rfl, HS.out.row, grown_two (grown_of_below HAl.out _) HS.out.fr (fun g e => .inl e), fun g e => by
            rcases HS.out.own g e with h | h
            · exact .inl h
            · exact .inr (Nat.le_trans HAl.out.size h), by rw [← HOn.out] at *; omega⟩
    | false =>
      have hnA : nmA out nm = out ++ [nm] := by unfold nmA; rw [hc]; rfl
      rw [hnA] at HT0
      rw [hc] at HNg
      have hng : decide (ix out nm < 0) = true := HNg.out
      generalize ix out nm = q at *
      clear hc hnA hal2
      go_enter Try.func61, Try.ntmps61
      go_upto_region 1 with fail
      generalize (w.alloc (.cells #[.int .i64 k, .string nm, .int .i64 i, .int .i64 hm, .slice sa tn sc] 32)) = V at *
      obtain ⟨b0, b1, b2, b3, b4⟩ := HBx.out.cells
      have HI := Lib.hid (HIs.out V HRw.out)
      have HSt : Hid (∀ V S, StrE.rep V S nm [.string nm]) := fun _ _ => rfl
      have HN1 : Hid (∀ X Z, (V.alloc (.cells X Z)).heap[V.heap.size]? = some (.cells X Z (0, 0))) := fun X Z => heap_alloc_new V _
      have HA1 : Hid (∀ X, Below V.heap.size V (V.alloc X)) := fun X => (Below.refl _ V).alloc (Nat.le_refl _) X
      have HRA := Lib.hid (fun X => HRw.out.lift (HA1.out X))
      go_wp2_with (first
        | (go_at_call 48; refine HI.out.mono ?_; rintro e w1 ⟨rfl, rfl⟩)
        | (at_builtin; refine wpList_pushH StrE rfl _ _ rfl base (fun _ => False) (.slice ya on yc) out rfl (HRA.out _) V.heap.size _ [.string nm] (HN1.out _ _) rfl nm (HSt.out _ _) (on + 1) (by rw [HOn.out]) (by omega) (Nat.le_trans HVb.out (HA1.out _).size) ?_; intro a3 c3 w3 hrow3 hg3 ho3; have HB3 := Lib.hid ((HBx.out.lift (HA1.out _)).grown hg3 HBn.out); obtain ⟨b0, b1, b2, b3, b4⟩ := HB3.out.cells; have HW : Hid (RnSt V base (Value.slice ya on yc).ownBlock (on + NT) (T.ts.drop 0) (out ++ [nm]) (.slice a3 (on + 1) c3) w3) := ⟨hrow3, grown_two (grown_of_below (HA1.out _) _) hg3 (fun g e => .inl e), fun g e => by
            rcases ho3 with h | h
            · exact .inl (h ▸ e)
            · rw [h] at e; have := Option.some.inj e; have := (HA1.out (.cells #[.string nm] 9)).size; right; omega, by have := HNN.out; have := HOn.out; simp; omega⟩; clear hrow3 hg3 ho3))
      go_loopw [0, 5] (fun y x wr => ∃ (j : Nat) (o : List ByteArray), j ≤ tn ∧ x = .int .i64 j ∧ Hid (nms out T = nmsL o (T.ts.drop j)) ∧ Hid (RnSt V base (Value.slice ya on yc).ownBlock (on + NT) (T.ts.drop j) o y wr)) (fun _ x _ => tn - (intOf x).toNat)
      case atStart => exact ⟨0, _, Nat.zero_le _, rfl, HT0, HW⟩
      case round =>
        obtain ⟨j, o, hj, rfl, HT, HS⟩ := hrel
        clear HW
        clear b0 b1 b2 b3 b4
        have hbx := HBx.out.grown HS.out.fr HBn.out
        have b4 := hbx.cells.2.2.2.2
        by_cases hjt : j < tn
        · obtain ⟨U, hU⟩ : ∃ x, T.ts[j]? = some x := ⟨_, List.getElem?_eq_getElem (by rw [← HTn.out]; exact hjt)⟩
          have HD := Lib.hid (nmsL_drop (out := o) hU)
          have hnd := nodesL_drop hU
          obtain ⟨ad, x, rfl, hSb, hF, hx⟩ := HJ.out j U hU
          have hne : ∀ c, c < base → some c ≠ (Value.slice ya on yc).ownBlock := fun c hc e => by have := (HYl.out c e.symm).1; omega
          have hx' := (hx.lift HAl.out).kept (fun _ h => h) (fun c hc hl => HS.out.fr.block c hl (hne c hc))
          have g5 := (hF.kept (HAl.out.block _ hF.lt)).kept (HS.out.fr.block _ (Nat.lt_of_lt_of_le hF.lt HAl.out.size) (hne _ hSb))
          have HUm := Lib.hid (List.mem_of_getElem? hU)
          obtain ⟨k', n', i', h', s', -, rfl, hn', hs'⟩ := hx'.open
          obtain ⟨q0, q1, q2, q3, q4⟩ := five_at g5
          obtain ⟨ua, uc, rfl, -⟩ := hs'
          have hlen := HS.out.len
          have HC := Lib.hid (HH.out U HUm.out o base _ u0 _ hx' (Nat.le_trans HVb.out HS.out.fr.size) HS.out.row (by have := HNB.out; omega))
          have HML : Hid (o.length + nodes U + nodesL (T.ts.drop (j + 1)) ≤ on + NT) := by show _ ≤ _; omega
          have hji : (j : Int) < (tn : Int) := by omega
          clear hU hx hx' g5 hF hSb hn' hnd hlen hne hbx
          generalize U.ts.length = un at *
          have HT2 : Hid (nms out T = nmsL (nms o U) (T.ts.drop (j + 1))) := by show _ = _; rw [HT.out, HD.out]
          go_wp2_with (go_at_call 61; refine HC.out.mono ?_; rintro e w3 ⟨nv3, rfl, hr3, hg3, ho3, hl3⟩; have HW3 : Hid (RnSt V base (Value.slice ya on yc).ownBlock (on + NT) (T.ts.drop (j + 1)) (nms o U) nv3 w3) := ⟨hr3, grown_two HS.out.fr hg3 HS.out.own, fun g e => by
              rcases ho3 g e with h | h
              · exact HS.out.own g h
              · exact .inr (Nat.le_trans HS.out.fr.size h), by have := HML.out; omega⟩; clear hr3 hg3 ho3 hl3)
          go_roundw
          case rel => exact ⟨j + 1, _, hjt, by go_num, HT2, HW3⟩
          case measure => simp [intOf]; omega
        · have hj' : T.ts.drop j = [] := List.drop_eq_nil_of_le (by rw [← HTn.out]; omega)
          have HT2 : Hid (nms out T = o) := by show _ = _; rw [HT.out, hj']; rfl
          have hlen := HS.out.len
          go_wp2
          go_ret
          have e2 : nms out T = o := HT2.out
          rw [e2]
          exact ⟨_, rfl, HS.out.row, grown_two (grown_of_below HAl.out _) HS.out.fr (fun g e => .inl e), fun g e => by
            rcases HS.out.own g e with h | h
            · exact .inl h
            · exact .inr (Nat.le_trans HAl.out.size h), by rw [← HOn.out] at *; omega⟩
theorem refNms_any (T : Ty) : RnAt T := Ty.induct refNames_of T
end Go.Proofs.Ytfkbifbodpelmaa

/- The law DeclareBinds returns true at every input. -/
namespace Go.Proofs.Ytfkbifbodpelmaa
open Go.RowKit Go.Sort Go.Shelf Go.Maps Mth

theorem pkNames_any (T : Ty) (hT : nodes T ≤ 90000) (v : Value) (S : Nat → Prop) (w : World) (h : Rep w S T v) :
    Calls Try.prog 29 #[v] w fun e w' => ∃ nv, e = .returned nv ∧ SlG StrE w' (fun _ => True) (nms [] T) nv ∧ Below w.heap.size w w' := by
  have hmm := @run_makeMap Try.prog
  obtain ⟨k, n, i, hm, s, -, e, hn, hs⟩ := h.open
  obtain ⟨sa, sc, rfl, -⟩ := hs
  subst e
  have hb2 : Below w.heap.size w ((w.alloc (.cells #[.int .i64 k, .string n, .int .i64 i, .int .i64 hm, .slice sa T.ts.length sc] 32)).alloc (.map #[] 0)) := ((Below.refl _ w).alloc (Nat.le_refl _) _).alloc (by simp) _
  have HSm : Hid (SM ((w.alloc (.cells #[.int .i64 k, .string n, .int .i64 i, .int .i64 hm, .slice sa T.ts.length sc] 32)).alloc (.map #[] 0)) (w.heap.size + 1) 0 ([] : List (List UInt8))) := by
    have := SM.made (w.alloc (.cells #[.int .i64 k, .string n, .int .i64 i, .int .i64 hm, .slice sa T.ts.length sc] 32))
    have e : (w.alloc (.cells #[.int .i64 k, .string n, .int .i64 i, .int .i64 hm, .slice sa T.ts.length sc] 32)).heap.size = w.heap.size + 1 := by simp
    rw [e] at this
    exact this
  have HC := Lib.hid (newNames_any T [] 0 (w.heap.size + 1) _ (.slice none 0 0) _ (h.bound.kept (S' := fun c => c < w.heap.size + 1) (fun c hc => Nat.lt_succ_of_lt hc.2) (fun c hc _ => hb2.block c hc.2)) (rowG_nil _ _ _ _) HSm.out (Nat.le_refl _) (by omega))
  have HB := Lib.hid (hb2.mono (Nat.le_refl _))
  have HL := Lib.hid hb2
  clear h hb2 HSm
  generalize T.ts.length = tn at *
  go_enter Try.func29, Try.ntmps29
  go_wp2_with (go_at_call 60; refine HC.out.mono ?_; rintro e w1 ⟨nv, rfl, hr, -, -, hb⟩)
  go_ret
  exact ⟨nv, rfl, hr.slG (fun _ _ => trivial) (fun _ _ => trivial), HL.out.trans (hb.mono (Nat.le_succ _))⟩
theorem refNames_any (T : Ty) (hT : nodes T ≤ 90000) (v : Value) (S : Nat → Prop) (w : World) (h : Rep w S T v) :
    Calls Try.prog 30 #[v] w fun e w' => ∃ nv, e = .returned nv ∧ SlG StrE w' (fun _ => True) (nms [] T) nv ∧ Below w.heap.size w w' := by
  obtain ⟨k, n, i, hm, s, -, e, hn, hs⟩ := h.open
  obtain ⟨sa, sc, rfl, -⟩ := hs
  subst e
  have hb2 : Below w.heap.size w (w.alloc (.cells #[.int .i64 k, .string n, .int .i64 i, .int .i64 hm, .slice sa T.ts.length sc] 32)) := (Below.refl _ w).alloc (Nat.le_refl _) _
  have HC := Lib.hid (refNms_any T [] w.heap.size _ (.slice none 0 0) _ (h.bound.kept (S' := fun c => c < w.heap.size) (fun c hc => hc.2) (fun c hc _ => hb2.block c hc.2)) hb2.size (rowG_nil _ _ _ _) (by simp; omega))
  have HL := Lib.hid hb2
  clear h hb2
  generalize T.ts.length = tn at *
  go_enter Try.func30, Try.ntmps30
  go_wp2_with (go_at_call 61; refine HC.out.mono ?_; rintro e w1 ⟨nv, rfl, hr, hg, -, -⟩)
  go_ret
  exact ⟨nv, rfl, hr.slG (fun _ _ => trivial) (fun _ _ => trivial), Below.grown HL.out hg HL.out.size (fun k hk => by simp [Value.ownBlock] at hk)⟩
theorem teq_refl (T : Ty) : teq T T = true := by
  refine Ty.induct (p := fun T => teq T T = true) (fun T ih => ?_) T
  cases T with
  | mk k n i h ts =>
    have : teqL ts ts = true := by
      have key : ∀ l : List Ty, (∀ U ∈ l, teq U U = true) → teqL l l = true := by
        intro l
        induction l with
        | nil => intro _; rfl
        | cons x l ihl => intro hl; simp [teqL, hl x (by simp), ihl fun U hU => hl U (by simp [hU])]
      exact key ts ih
    simp [teq, this]
theorem nms_len' (T : Ty) : ∀ out : List ByteArray, (nms out T).length ≤ out.length + nodes T := by
  refine Ty.induct (p := fun T => ∀ out : List ByteArray, (nms out T).length ≤ out.length + nodes T) (fun T ih out => ?_) T
  have key : ∀ l : List Ty, (∀ U ∈ l, ∀ out : List ByteArray, (nms out U).length ≤ out.length + nodes U) → ∀ out : List ByteArray, (nmsL out l).length ≤ out.length + nodesL l := by
    intro l
    induction l with
    | nil => intro _ out; simp [nmsL]
    | cons t l ihl =>
      intro h out
      have h1 := h t (by simp) out
      have h2 := ihl (fun U hU => h U (by simp [hU])) (nms out t)
      simp only [nmsL, nodesL]; omega
  rw [nms_open, nodes_open]
  have h1 := key T.ts ih (if T.k == 5 then nmA out T.n else out)
  have h2 := nmA_len out T.n
  have h3 : (if T.k == 5 then nmA out T.n else out).length ≤ out.length + 1 := by
    split
    · exact h2
    · omega
  omega
theorem nms_len (T : Ty) (h : nodes T ≤ 1000) : (nms [] T).length ≤ 90000 := by
  have := nms_len' T []
  simp at this; omega
/-- Both ways to bind names give the same type. -/
def BndE (w : World) (T : Ty) (e : Ending) : Prop := ∃ (k : Int) (n : ByteArray) (i h : Int) (a : Option Addr) (m c : Nat), e = .returned (.agg #[.int .i64 k, .string n, .int .i64 i, .int .i64 h, .slice a m c]) ∧ Rep w (fun _ => True) T (.agg #[.int .i64 k, .string n, .int .i64 i, .int .i64 h, .slice a m c])

set_option maxRecDepth 100000 in
set_option maxHeartbeats 16000000 in
theorem declareBinds_any (bits : Int) (cv : Value) (zs : List Int) (nv : Value) (ids : List Int) (w : World) (hz : Ints w cv zs) (hi : Ints w nv ids) :
    Calls Try.prog 7 #[.int .i64 bits, cv, nv] w fun e w' => e = .returned (.bool true) ∧ Below w.heap.size w w' := by
  have HFi := Lib.hid (fun w => first9_any w)
  have HFw : Hid (∀ w', Below w.heap.size w w' → Calls Try.prog 10 #[cv] w' fun e w'' => e = .returned (.bool (decide (zs.length ≤ 60))) ∧ w' = w'') := fun w' hb => few_any cv zs w' (hz.lift hb)
  have HZ := Lib.hid hz
  have HCi : Hid (∀ (i : Nat) (x : Int), ids[i]? = some x → ∃ ad, (∃ c, nv = .slice (some ad) ids.length c) ∧ w.cell? (ad.add i) = some (.int .i64 x)) := fun i x hx => by
    obtain ⟨a, c, e, -, -, hj⟩ := hi
    obtain ⟨ad, rfl, h⟩ := hj i x hx
    exact ⟨ad, ⟨c, e⟩, h⟩
  obtain ⟨ca, cc, rfl, -, -, -⟩ := hz
  obtain ⟨na, nc, rfl, -, -, -⟩ := hi
  obtain ⟨zn, hzn⟩ : ∃ n, n = zs.length := ⟨_, rfl⟩
  obtain ⟨m, hm⟩ : ∃ n, n = ids.length := ⟨_, rfl⟩
  rw [← hzn] at HFw ⊢
  rw [← hm] at HCi ⊢
  have HZn := Lib.hid hzn
  have HM := Lib.hid hm
  rw [← hzn] at HZ
  clear hzn hm
  cases hfw : decide (zn ≤ 60) <;> by_cases h4 : (4 : Int) < (m : Int)
  all_goals
    rw [hfw] at HFw
    have HFwp := Lib.hid hfw
    clear hfw
    go_enter Try.func7, Try.ntmps7
    go_wp2_with fail
    go_at_call 9
    refine (HFi.out _).mono ?_
    rintro e w1 ⟨rfl, hb1, hs1⟩
    go_wp2_with (go_at_call 10; refine (HFw.out _ hb1).mono ?_; rintro e w2 ⟨rfl, rfl⟩)
  any_goals (go_ret; exact ⟨rfl, hb1⟩)
  have hm4 : m ≤ 4 := by omega
  have HB1 := Lib.hid hb1
  have HS1 := Lib.hid hs1
  clear h4 HFi HFw hb1 hs1
  go_loopw [7, 8] (fun y x wr => ∃ (j : Nat) (ns : List ByteArray), j ≤ m ∧ x = .int .i64 j ∧ Hid (RowG StrE wr w1.heap.size (fun c => w1.heap.size ≤ c) y ns) ∧ Hid (ns.length = j ∧ ∀ s ∈ ns, s.size ≤ 1) ∧ Below w1.heap.size w1 wr) (fun _ x _ => m - (intOf x).toNat)
  case atStart => exact ⟨0, [], Nat.zero_le _, rfl, rowG_nil _ _ _ _, ⟨rfl, fun s h => by simp at h⟩, Below.refl _ _⟩
  case round =>
    obtain ⟨j, ns, hj, rfl, HRow, HNs, hb⟩ := hrel
    by_cases hlt : j < m
    · obtain ⟨z, hzj⟩ : ∃ x, ids[j]? = some x := ⟨_, List.getElem?_eq_getElem (by rw [← HM.out]; exact hlt)⟩
      obtain ⟨iad, ⟨c', e'⟩, hzc⟩ := HCi.out j z hzj
      have e1 := (Value.slice.injEq _ _ _ _ _ _).mp e'
      obtain ⟨rfl, -, -⟩ := e1
      obtain ⟨q, s, hq, hs, hsz⟩ := nm4_at (Int.emod_nonneg z (b := 4) (by omega)) (Int.emod_lt_of_pos z (b := 4) (by omega))
      have HMod : Hid (∀ W, Calls Try.prog 11 #[.int .i64 z, .int .i64 4] W fun e W' => e = .returned (.int .i64 (q : Int)) ∧ W = W') := fun W => by
        have := mod_any z 4 W (by decide) (by decide)
        rwa [hq] at this
      have hbr : Below wr.heap.size wr (wr.alloc (.cells #[.string ⟨#[97]⟩, .string ⟨#[98]⟩, .string ⟨#[99]⟩, .string ⟨#[120]⟩] 9)) := (Below.refl _ wr).alloc (Nat.le_refl _) _
      have hzc' : (wr.alloc (.cells #[.string ⟨#[97]⟩, .string ⟨#[98]⟩, .string ⟨#[99]⟩, .string ⟨#[120]⟩] 9)).cell? (iad.add j) = some (.int .i64 z) := by
        have l1 := World.block_lt_of_cell? _ _ hzc
        have k1 := (HB1.out.trans (hb.mono HB1.out.size))
        rw [hbr.cell (Nat.lt_of_lt_of_le l1 k1.size), k1.cell l1]; exact hzc
      have hq4 : q < 4 := by have := (List.getElem?_eq_some_iff.1 hs).1; simpa [nm4] using this
      have hqi : (q : Int) < 4 := by omega
      have hsc := nm4_cell wr 9 hs
      have hji : (j : Int) < (m : Int) := by omega
      have HN : Hid (∀ X Z, ((wr.alloc (.cells #[.string ⟨#[97]⟩, .string ⟨#[98]⟩, .string ⟨#[99]⟩, .string ⟨#[120]⟩] 9)).alloc (.cells X Z)).heap[wr.heap.size + 1]? = some (.cells X Z (0, 0))) := fun X Z => by
        have := heap_alloc_new (wr.alloc (.cells #[.string ⟨#[97]⟩, .string ⟨#[98]⟩, .string ⟨#[99]⟩, .string ⟨#[120]⟩] 9)) (.cells X Z)
        simpa using this
      have HBw : Hid (∀ X, Below wr.heap.size wr ((wr.alloc (.cells #[.string ⟨#[97]⟩, .string ⟨#[98]⟩, .string ⟨#[99]⟩, .string ⟨#[120]⟩] 9)).alloc X)) := fun X => hbr.trans (((Below.refl _ _).alloc (Nat.le_refl _) X).mono hbr.size)
      have hnl := HNs.out.1
      have hwr := hb.size
      have HLow : Hid (∀ k, u7.ownBlock = some k → w1.heap.size ≤ k) := fun k hk => (RowG.lt HRow.out k hk).1
      have HRowA := Lib.hid (fun X => HRow.out.lift (HBw.out X))
      have HSt : Hid (∀ V S, StrE.rep V S s [.string s]) := fun _ _ => rfl
      have HNl := Lib.hid hnl
      have HWr := Lib.hid hwr
      have HBr := Lib.hid hb
      clear hs hzc hzj e' hq hnl hwr hbr hb HRow
      go_wp2_with (first
        | (go_at_call 11; refine (HMod.out _).mono ?_; rintro e w' ⟨rfl, rfl⟩)
        | (at_builtin; refine wpList_pushG StrE rfl _ _ rfl w1.heap.size (fun c => w1.heap.size ≤ c) u7 ns rfl (HRowA.out _) (wr.heap.size + 1) _ [.string s] (HN.out _ _) rfl s (HSt.out _ _) (j + 1) (by rw [HNl.out]) (by omega) (Nat.le_trans HWr.out (HBw.out _).size) ?_; intro a3 c3 w3 hrow3 hg3; have HRow3 := Lib.hid hrow3; have hb3 := Below.grown (HBr.out.trans ((HBw.out _).mono HWr.out)) hg3 (Nat.le_trans HWr.out (HBw.out _).size) HLow.out; clear hrow3 hg3))
      go_roundw
      case rel => exact ⟨j + 1, ns ++ [s], hlt, by go_num, HRow3, ⟨by rw [List.length_append, HNl.out]; rfl, fun x hx => by
        rcases List.mem_append.1 hx with h | h
        · exact HNs.out.2 x h
        · simp at h; subst h; exact hsz⟩, hb3⟩
      case measure => simp [intOf]; omega
    · obtain rfl : m = j := by omega
      obtain ⟨sa, sc, hsv, -, -⟩ := HRow.out.slice
      subst hsv
      rw [HNs.out.1] at HRow ⊢
      have hnm : ns.length ≤ 4 := by rw [HNs.out.1]; exact hm4
      have HNS := Lib.hid (HRow.out.slG (S' := fun _ => True) (fun _ _ => trivial) (fun _ _ => trivial))
      clear HRow
      have HBw : Hid (Below w.heap.size w wr) := HB1.out.trans (hb.mono HB1.out.size)
      have HSw : Hid (w.heap.size < wr.heap.size) := Nat.lt_of_lt_of_le HS1.out hb.size
      have hz60 : zn ≤ 60 := of_decide_eq_true HFwp.out
      have HT0 : Hid (Tq (wr.alloc (.cells #[.slice ca zn cc, .int .i64 0] 29)) wr.heap.size) := tape_new HZn.out (by rw [← HZn.out]; omega) HZ.out HBw.out HSw.out
      have hal : Below wr.heap.size wr (wr.alloc (.cells #[.slice ca zn cc, .int .i64 0] 29)) := (Below.refl _ wr).alloc (Nat.le_refl _) _
      have HNSl : Hid (∀ V, Below wr.heap.size wr V → SlG StrE V (fun _ => True) ns (.slice sa m sc)) := fun V hV => HNS.out.lift' hV
      have HAl0 := Lib.hid hal
      have HB0 := Lib.hid (HBw.out.trans (hal.mono HBw.out.size))
      have hsz0 : (wr.alloc (.cells #[.slice ca zn cc, .int .i64 0] 29)).heap.size = wr.heap.size + 1 := by simp
      have HSz0 := Lib.hid hsz0
      have hbw : w.heap.size ≤ wr.heap.size := HBw.out.size
      have HD := Lib.hid (fun w => datasB_any bits w)
      have HNm := Lib.hid (fun w => mkNamed_any w)
      have HMk := Lib.hid (mkType_any 4)
      have HSg := Lib.hid (dsOf_some bits).g
      clear hal hsz0 HZ HCi HM HNs HNS hb HB1 HS1 HBw HSw HFwp hj hlt hm4
      go_wp2_with fail
      go_at_call 13
      generalize (wr.alloc (.cells #[.slice ca zn cc, .int .i64 0] 29)) = w0 at *
      generalize wr.heap.size = b at *
      refine (HD.out w0).mono ?_
      rintro e w1 ⟨dv, rfl, ho, hb1⟩
      generalize dsOf bits = ds at *
      obtain ⟨da, dc, rfl, -⟩ := slice_form ho.slG
      have HSd := Lib.hid ho.slG.bound
      clear ho HD
      generalize ds.length = dn at *
      go_wp2_with fail
      go_at_call 15
      refine (HNm.out _).mono ?_
      rintro e w4 ⟨nv, rfl, hsl, hb4⟩
      obtain ⟨na4, nc4, rfl⟩ := slG_some hsl
      have HNl := Lib.hid hsl
      have hb04 : Below w0.heap.size w0 w4 := hb1.trans (hb4.mono hb1.size)
      have HD4 : Hid (SlG DatE w4 (fun c => w0.heap.size ≤ c) ds (.slice da dn dc)) := HSd.out.kept (fun c hc => hc.1) (fun c hc _ => hb4.block c hc.2)
      have h01 := hb1.size
      clear hsl HNm HSd
      go_wp2_with fail
      go_at_call 12
      have hs0 : w0.heap.size = b + 1 := HSz0.out
      have hd5 : SlG DatE w4 (fun c => b < c) ds (.slice da dn dc) := HD4.out.kept (fun c hc => by omega) (fun _ _ _ => rfl)
      have hl5 : SlG TyE w4 (fun c => b < c) namedL (.slice (some na4) 3 nc4) := SlG.kept (fun c hc => by omega) (fun _ _ _ => rfl) HNl.out
      refine (HMk.out 4 ds _ namedL _ (fun c => b < c) b w4.heap.size w4 rfl (Nat.le_refl _) HSg.out namedL_ok hd5 hl5 (fun c hc => Nat.ne_of_gt hc) (HT0.out.lift hb04) (Nat.le_refl _)).mono ?_
      rintro e w6 ⟨u, rfl, T, hrep, hok, htq, hg6⟩
      obtain ⟨uk, un, ui, uh, ua, um, uc, rfl⟩ := hrep.form
      have HX := Lib.hid (md_new (HB0.out.trans (hb04.mono HB0.out.size)) hbw hrep hok hg6)
      have hb06 : Below b w0 w6 := Below.grown (hb04.mono (by omega)) hg6 (by have := hb04.size; omega) (fun k hk => by cases hk; exact Nat.le_refl _)
      clear hrep hok htq hg6 hd5 hl5 hb04 hb1 hb4 HD4 HNl HMk HT0 hs0 h01
      have HNSw := Lib.hid (HNSl.out w6 (HAl0.out.trans hb06))
      have hal : Below w6.heap.size w6 (w6.alloc (.cells #[.int .i64 uk, .string un, .int .i64 ui, .int .i64 uh, .slice ua um uc] 32)) := (Below.refl _ w6).alloc (Nat.le_refl _) _
      have HNS := Lib.hid (HNSw.out.lift' hal)
      clear HNSw hal hb06 HNSl HAl0
      go_upto_region 12 with fail
      generalize (w6.alloc (.cells #[.int .i64 uk, .string un, .int .i64 ui, .int .i64 uh, .slice ua um uc] 32)) = W at *
      generalize w6.heap.size = A at *
      have hnd : nodes T ≤ 1000 := Nat.le_trans HX.out.ok.2 (by decide)
      have hvf := valid_flat T HX.out.ok.1
      have HN1 : Hid (∀ V, Below W.heap.size W V → Calls Try.prog 29 #[.agg #[.int .i64 uk, .string un, .int .i64 ui, .int .i64 uh, .slice ua um uc]] V fun e w' => ∃ a c, e = .returned (.slice a (nms [] T).length c) ∧ SlG StrE w' (fun _ => True) (nms [] T) (.slice a (nms [] T).length c) ∧ Below V.heap.size V w') := fun V hV => (pkNames_any T (by omega) _ _ V (HX.out.rep.lift hV)).mono fun e w' ⟨nv, h1, h2, h3⟩ => by
        obtain ⟨a, c, rfl, -⟩ := slice_form h2
        exact ⟨a, c, h1, h2, h3⟩
      have HN2 : Hid (∀ V, Below W.heap.size W V → Calls Try.prog 30 #[.agg #[.int .i64 uk, .string un, .int .i64 ui, .int .i64 uh, .slice ua um uc]] V fun e w' => ∃ a c, e = .returned (.slice a (nms [] T).length c) ∧ SlG StrE w' (fun _ => True) (nms [] T) (.slice a (nms [] T).length c) ∧ Below V.heap.size V w') := fun V hV => (refNames_any T (by omega) _ _ V (HX.out.rep.lift hV)).mono fun e w' ⟨nv, h1, h2, h3⟩ => by
        obtain ⟨a, c, rfl, -⟩ := slice_form h2
        exact ⟨a, c, h1, h2, h3⟩
      have hbf : ∀ (f : FuncId), BindAt f ns T → ∀ V, Below W.heap.size W V → Calls Try.prog f #[.agg #[.int .i64 uk, .string un, .int .i64 ui, .int .i64 uh, .slice ua um uc], .slice sa m sc] V fun e w' => BndE w' (bnd ns T) e ∧ Below V.heap.size V w' := fun f hf V hV => (hf _ _ (fun _ => True) (fun _ => True) V ⟨by omega, hvf.2⟩ (HNS.out.lift' hV) (fun _ _ => trivial) (HX.out.rep.lift hV)).mono fun e w' ⟨u, h1, h2, h3⟩ => by
        obtain ⟨k, n, i, h, a, m, c, rfl⟩ := h2.form
        exact ⟨⟨k, n, i, h, a, m, c, h1, h2⟩, h3⟩
      have HBa := Lib.hid (hbf _ (bind_any ns T))
      have HBb := Lib.hid (hbf _ (refBind_any ns T))
      have HEq : Hid (∀ V v1 v2, Rep V (fun _ => True) (bnd ns T) v1 → Rep V (fun _ => True) (bnd ns T) v2 → Calls Try.prog 31 #[v1, v2] V fun e w' => e = .returned (.bool true) ∧ Below V.heap.size V w') := fun V v1 v2 h1 h2 => by
        have := refEqual_any _ (bnd ns T) (Nat.le_refl _) (bnd ns T) _ _ _ _ V h1 h2
        rwa [teq_refl] at this
      have hnl : (nms [] T).length ≤ 90000 := nms_len T (by omega)
      have HK : Hid (∀ V, Below W.heap.size W V → V.cell? ⟨A, 0, none⟩ = some (.int .i64 uk) ∧ V.cell? ⟨A, 1, none⟩ = some (.string un) ∧ V.cell? ⟨A, 2, none⟩ = some (.int .i64 ui) ∧ V.cell? ⟨A, 3, none⟩ = some (.int .i64 uh) ∧ V.cell? ⟨A, 4, none⟩ = some (.slice ua um uc) ∧ Below W.heap.size W V) := fun V hV => by
        obtain ⟨l0, l1, l2, l3, l4⟩ := (HX.out.box.lift hV).cells
        exact ⟨l0, l1, l2, l3, l4, hV⟩
      have HLow := Lib.hid HX.out.low
      generalize bnd ns T = BT at *
      generalize nms [] T = xs at *
      obtain ⟨xn, hxn⟩ : ∃ n, n = xs.length := ⟨_, rfl⟩
      rw [← hxn] at HN1 HN2 hnl
      have HXn := Lib.hid hxn
      have hdr : Below W.heap.size W W.drew := (Below.refl _ W).drew
      clear HX hvf HNS hbf hxn hnd
      go_region_held3 (fun V => V.cell? ⟨A, 0, none⟩ = some (.int .i64 uk) ∧ V.cell? ⟨A, 1, none⟩ = some (.string un) ∧ V.cell? ⟨A, 2, none⟩ = some (.int .i64 ui) ∧ V.cell? ⟨A, 3, none⟩ = some (.int .i64 uh) ∧ V.cell? ⟨A, 4, none⟩ = some (.slice ua um uc) ∧ Below W.heap.size W V)
        (with_reducible exact HK.out _ (by assumption))
        (first
          | (go_at_call 29; (with_reducible refine (HN1.out _ (by assumption)).mono ?_); rintro e w' ⟨xa, xc, rfl, ho, hb⟩; have HO1 := Lib.hid ho; have hk := keepCall' (W := W) (by assumption) hb; clear ho)
          | (go_at_call 30; (with_reducible refine (HN2.out _ (by assumption)).mono ?_); rintro e w' ⟨ya, yc, rfl, ho, hb⟩; have HO2 := Lib.hid ho; have HO3 := Lib.hid (HO1.out.lift' hb); have hk := keepCall' (W := W) (by assumption) hb; clear ho))
      all_goals
        generalize w' = W2 at *
        have HLow2 := Lib.hid (HLow.out.trans (hk.mono HLow.out.size))
        have HK2 : Hid (∀ V, Below W2.heap.size W2 V → V.cell? ⟨A, 0, none⟩ = some (.int .i64 uk) ∧ V.cell? ⟨A, 1, none⟩ = some (.string un) ∧ V.cell? ⟨A, 2, none⟩ = some (.int .i64 ui) ∧ V.cell? ⟨A, 3, none⟩ = some (.int .i64 uh) ∧ V.cell? ⟨A, 4, none⟩ = some (.slice ua um uc) ∧ Below W2.heap.size W2 V) := fun V hV => by
          obtain ⟨l0, l1, l2, l3, l4, -⟩ := HK.out V (hk.trans (hV.mono hk.size))
          exact ⟨l0, l1, l2, l3, l4, hV⟩
        have HBa2 : Hid (∀ V, Below W2.heap.size W2 V → Calls Try.prog 32 #[.agg #[.int .i64 uk, .string un, .int .i64 ui, .int .i64 uh, .slice ua um uc], .slice sa m sc] V fun e w' => BndE w' BT e ∧ Below V.heap.size V w') := fun V hV => HBa.out V (hk.trans (hV.mono hk.size))
        have HBb2 : Hid (∀ V, Below W2.heap.size W2 V → Calls Try.prog 33 #[.agg #[.int .i64 uk, .string un, .int .i64 ui, .int .i64 uh, .slice ua um uc], .slice sa m sc] V fun e w' => BndE w' BT e ∧ Below V.heap.size V w') := fun V hV => HBb.out V (hk.trans (hV.mono hk.size))
        clear hk hdr HN1 HN2 HBa HBb HK HLow
        go_upto_region 13 with fail
        have hdr : Below W2.heap.size W2 W2.drew := (Below.refl _ W2).drew
        go_region_held3 (fun V => V.cell? ⟨A, 0, none⟩ = some (.int .i64 uk) ∧ V.cell? ⟨A, 1, none⟩ = some (.string un) ∧ V.cell? ⟨A, 2, none⟩ = some (.int .i64 ui) ∧ V.cell? ⟨A, 3, none⟩ = some (.int .i64 uh) ∧ V.cell? ⟨A, 4, none⟩ = some (.slice ua um uc) ∧ Below W2.heap.size W2 V)
          (with_reducible exact HK2.out _ (by assumption))
          (first
            | (go_at_call 32; (with_reducible refine (HBa2.out _ (by assumption)).mono ?_); rintro e w' ⟨⟨k1, n1, i1, h1, a1, m1, c1, rfl, hr1⟩, hb⟩; have HR1 := Lib.hid hr1; have hk := keepCall' (W := W2) (by assumption) hb; clear hr1)
            | (go_at_call 33; (with_reducible refine (HBb2.out _ (by assumption)).mono ?_); rintro e w' ⟨⟨k2, n2, i2, h2, a2, m2, c2, rfl, hr2⟩, hb⟩; have HR2 := Lib.hid hr2; have HR3 := Lib.hid (HR1.out.lift hb); have hk := keepCall' (W := W2) (by assumption) hb; clear hr2)
            | (go_at_call 31; (with_reducible refine (HEq.out _ _ _ HR3.out HR2.out).mono ?_); rintro e w' ⟨rfl, hb⟩; have hk := keepCall' (W := W2) (by assumption) hb))
        all_goals
          generalize w' = W3 at *
          have HP1 := Lib.hid (HO3.out.lift' hk)
          have HP2 := Lib.hid (HO2.out.lift' hk)
          have HLow3 := Lib.hid (HLow2.out.trans (hk.mono HLow2.out.size))
          have HR0 : Hid (Below W3.heap.size W3 W3) := Below.refl _ W3
          clear HO2 HO3 HLow2 HR1 HR2 HR3 hk hdr HK2 HBa2 HBb2 HEq
          go_wp2_with fail
          go_loopw [13] (fun x wr => ∃ j : Nat, j ≤ xn ∧ x = .int .i64 j ∧ Below W3.heap.size W3 wr) (fun x _ => xn - (intOf x).toNat)
          case atStart => exact ⟨0, Nat.zero_le _, rfl, HR0.out⟩
          case round =>
            obtain ⟨j, hj, rfl, hB⟩ := hrel
            by_cases hlt : j < xn
            · obtain ⟨s, hs⟩ : ∃ x, xs[j]? = some x := ⟨_, List.getElem?_eq_getElem (by rw [← HXn.out]; exact hlt)⟩
              obtain ⟨ad1, rfl, q1⟩ := str_at (HP1.out.lift' hB) j s hs
              obtain ⟨ad2, rfl, q2⟩ := str_at (HP2.out.lift' hB) j s hs
              have hji : (j : Int) < (xn : Int) := by omega
              clear hs
              go_wp2_with fail
              go_quiet (fail)
              have hB2 := below_drewN hB nq
              go_wp2_with fail
              go_roundw
              case rel => exact ⟨j + 1, hlt, by go_num, hB2⟩
              case measure => simp [intOf]; omega
            · go_wp2
              go_ret
              exact ⟨rfl, HLow3.out.trans (hB.mono HLow3.out.size)⟩
end Go.Proofs.Ytfkbifbodpelmaa

/- The law DeclareBinds returns true at every input, and every argument reads behind the call as it read before. No condition. -/
namespace Go.Proofs.Ytfkbifbodpelmaa.declareBinds
open Go.ChangeShapes Go.WideShapes Go.ChangeAt Go.ChangeMaps Go.RowKit

set_option maxRecDepth 100000 in
/-- What the walk gives for every argument and every world. -/
theorem contract (H : Type) (enc : TypeId × Value → H) (W : World) (base : Nat) (args : Array Value) (ds gs : List (DataW H)) (before : List MemPlace)
    (hval : ∀ (j : Nat) t v, Try.f7.params[j]? = some t → args[j]? = some v → Value.okWide Try.prog W .any base t v)
    (hW : DataW.Whole enc Try.prog Try.f7.params.toList Rows.declareBindsSpec.vars false W args.toList ds gs before) :
    Calls Try.prog 7 args W fun e W' => ∃ v, e = .returned v ∧ Rows.declareBindsSpec.post enc Try.prog Try.f7 false true false false W args v W' := by
  have hW' := hW
  obtain ⟨p, q, hA0, hV, rfl, hfz, hnd⟩ := hW
  have hA : DataW.TrodAll enc Try.prog W 0 (fun _ => true) true Try.f7.params.toList args.toList ds p := hA0
  rw [Try.params7] at hA hval
  obtain ⟨v0, vs0, d0, ds0, p0, q0, hargs, rfl, rfl, h0, r0⟩ := trodAll_cons hA
  obtain ⟨v1, vs1, d1, ds1, p1, q1, rfl, rfl, rfl, h1, r1⟩ := trodAll_cons r0
  obtain ⟨v2, vs2, d2, ds2, p2, q2, rfl, rfl, rfl, h2, r2⟩ := trodAll_cons r1
  obtain ⟨rfl, rfl, rfl⟩ := trodAll_nil r2
  obtain rfl : args = #[v0, v1, v2] := by cases args; simp_all
  obtain ⟨rfl, rfl⟩ := trodVars_none hV
  obtain ⟨bits, rfl, rfl, rfl, wbits⟩ := open_int Try.underlying3 (hval 0 3 v0 rfl rfl) h0
  obtain ⟨zs, wzs⟩ := ints_open (hval 1 22 v1 rfl rfl) h1
  obtain ⟨ids, wids⟩ := ints_open (hval 2 22 v2 rfl rfl) h2
  refine (declareBinds_any bits v1 zs v2 ids W wzs wids).mono fun e W' ⟨he, hb⟩ => ?_
  subst he
  exact law_post rfl (by kernel_rfl) rfl hW' rfl rfl rfl hb

set_option maxRecDepth 100000 in
theorem lifted (os : Os) (started : os.Started) (H : Type) (enc : TypeId × Value → H) :
    ReturnsInHanded {} Try.checked os 7 .any (Rows.declareBindsSpec.pre6 enc Try.prog Try.f7 Rows.declareBindsRow.domain false) (Rows.declareBindsSpec.post enc Try.prog Try.f7 false true false false) := by
  refine returnsInHanded_of_change (C := Try.checked) Try.own started (by kernel_rfl) Try.func7
    (ChangeSpec.witness6 (enc := enc) (C := Try.checked) false ⟨#[], #[.int .i64 0, .slice none 0 0, .slice none 0 0], []⟩ 8 (by kernel_rfl) (by kernel_rfl) (by kernel_rfl) (by kernel_rfl)) ?_
  intro W base args ds gs before hval hW _ _
  exact contract H enc W base args ds gs before hval hW

theorem said : Rows.DeclareBindsSaid :=
  OpenClaim.holds_of_wide 7 Try.f7 rfl rfl rfl rfl rfl rfl rfl ⟨rfl, rfl, rfl, rfl, rfl⟩ rfl rfl rfl rfl rfl (by kernel_rfl) Try.func7 (by kernel_rfl)
    (of_decide_eq_true (by kernel_rfl)) (by unfold Func.isWrapper; first | (rw [if_pos (by decide +kernel)]; kernel_rfl) | (rw [if_neg (by decide +kernel)]; exact ⟨rfl, rfl⟩))
    (fun os started H enc _ => lifted os started H enc)

#print axioms said
end Go.Proofs.Ytfkbifbodpelmaa.declareBinds
