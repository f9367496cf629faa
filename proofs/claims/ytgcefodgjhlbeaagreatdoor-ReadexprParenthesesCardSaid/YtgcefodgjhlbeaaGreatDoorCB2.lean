import Derived.Shelf.Strconv.Atoi
import Derived.Test.YtgcefodgjhlbeaaGreatDoorProg
import Derived.Below
import Derived.Test.YtgcefodgjhlbeaaGreatDoorCB1
import Derived.Test.YtgcefodgjhlbeaaGreatDoorCA5
/- strconv.Atoi from the shelf. -/
namespace Go.Proofs
open Go.Shelf
open Go.RowKit in
def Tryz.lays172_ren : Go.Shelf.Ren := ⟨fun | 172 => 93 | 244 => 102 | 245 => 103 | 247 => 108 | 279 => 109 | 280 => 110 | 281 => 111 | 282 => 112 | 287 => 115 | 316 => 116 | 171 => 118 | 205 => 117 | 321 => 124 | 322 => 125 | 243 => 126 | 246 => 134 | 283 => 140 | 284 => 141 | 285 => 142 | 286 => 143 | 129 => 146 | 317 => 145 | 318 => 147 | 319 => 148 | 320 => 149 | 337 => 150 | 338 => 151 | n => n, fun | 9 => 9 | 3 => 3 | 75 => 98 | 76 => 126 | 4 => 4 | 5 => 5 | 167 => 148 | 37 => 149 | 0 => 0 | 85 => 150 | 2 => 2 | 168 => 152 | 53 => 159 | 175 => 160 | 46 => 63 | 210 => 164 | 127 => 173 | 145 => 176 | 143 => 174 | 21 => 21 | 171 => 194 | 173 => 197 | 212 => 203 | 51 => 204 | 20 => 20 | 213 => 205 | 232 => 208 | 233 => 209 | 80 => 52 | n => n, fun | 15 => 1 | 16 => 2 | 17 => 4 | 18 => 5 | 19 => 6 | n => n⟩
theorem Tryz.lays172 : Go.Proofs.Lays.n172 Tryz.prog Tryz.lays172_ren := {
  mixed := by kernel_rfl
  f129 := Tryz.func146.trans (congrArg some (by kernel_rfl))
  f171 := Tryz.func118.trans (congrArg some (by kernel_rfl))
  f172 := Tryz.func93.trans (congrArg some (by kernel_rfl))
  f205 := Tryz.func117.trans (congrArg some (by kernel_rfl))
  f243 := Tryz.func126.trans (congrArg some (by kernel_rfl))
  f244 := Tryz.func102.trans (congrArg some (by kernel_rfl))
  f245 := Tryz.func103.trans (congrArg some (by kernel_rfl))
  f246 := Tryz.func134.trans (congrArg some (by kernel_rfl))
  f247 := Tryz.func108.trans (congrArg some (by kernel_rfl))
  f279 := Tryz.func109.trans (congrArg some (by kernel_rfl))
  f280 := Tryz.func110.trans (congrArg some (by kernel_rfl))
  f281 := Tryz.func111.trans (congrArg some (by kernel_rfl))
  f282 := Tryz.func112.trans (congrArg some (by kernel_rfl))
  f283 := Tryz.func140.trans (congrArg some (by kernel_rfl))
  f284 := Tryz.func141.trans (congrArg some (by kernel_rfl))
  f285 := Tryz.func142.trans (congrArg some (by kernel_rfl))
  f286 := Tryz.func143.trans (congrArg some (by kernel_rfl))
  f287 := Tryz.func115.trans (congrArg some (by kernel_rfl))
  f316 := Tryz.func116.trans (congrArg some (by kernel_rfl))
  f317 := Tryz.func145.trans (congrArg some (by kernel_rfl))
  f318 := Tryz.func147.trans (congrArg some (by kernel_rfl))
  f319 := Tryz.func148.trans (congrArg some (by kernel_rfl))
  f320 := Tryz.func149.trans (congrArg some (by kernel_rfl))
  f321 := Tryz.func124.trans (congrArg some (by kernel_rfl))
  f322 := Tryz.func125.trans (congrArg some (by kernel_rfl))
  f337 := Tryz.func150.trans (congrArg some (by kernel_rfl))
  f338 := Tryz.func151.trans (congrArg some (by kernel_rfl))
  t0 := Tryz.underlying0
  a0 := Tryz.isAgg0
  z0 := Tryz.sizeOf0
  v0 := Tryz.zeroValue0
  t2 := Tryz.underlying2
  a2 := Tryz.isAgg2
  z2 := Tryz.sizeOf2
  v2 := Tryz.zeroValue2
  t3 := Tryz.underlying3
  a3 := Tryz.isAgg3
  z3 := Tryz.sizeOf3
  v3 := Tryz.zeroValue3
  t4 := Tryz.underlying4
  a4 := Tryz.isAgg4
  z4 := Tryz.sizeOf4
  v4 := Tryz.zeroValue4
  t5 := Tryz.underlying5
  a5 := Tryz.isAgg5
  z5 := Tryz.sizeOf5
  v5 := Tryz.zeroValue5
  t9 := Tryz.underlying9
  a9 := Tryz.isAgg9
  z9 := Tryz.sizeOf9
  v9 := Tryz.zeroValue9
  t20 := Tryz.underlying20
  a20 := Tryz.isAgg20
  z20 := Tryz.sizeOf20
  v20 := Tryz.zeroValue20
  t21 := Tryz.underlying21
  a21 := Tryz.isAgg21
  z21 := Tryz.sizeOf21
  v21 := Tryz.zeroValue21
  t37 := Tryz.underlying149
  a37 := Tryz.isAgg149
  z37 := Tryz.sizeOf149
  v37 := Tryz.zeroValue149
  t46 := Tryz.underlying63
  a46 := Tryz.isAgg63
  z46 := Tryz.sizeOf63
  v46 := Tryz.zeroValue63
  t51 := Tryz.underlying204
  a51 := Tryz.isAgg204
  z51 := Tryz.sizeOf204
  v51 := Tryz.zeroValue204
  t53 := Tryz.underlying159
  a53 := Tryz.isAgg159
  z53 := Tryz.sizeOf159
  v53 := Tryz.zeroValue159
  t75 := Tryz.underlying98
  a75 := Tryz.isAgg98
  z75 := Tryz.sizeOf98
  v75 := Tryz.zeroValue98
  t76 := Tryz.underlying126
  a76 := Tryz.isAgg126
  z76 := Tryz.sizeOf126
  v76 := Tryz.zeroValue126
  t85 := Tryz.underlying150
  a85 := Tryz.isAgg150
  z85 := Tryz.sizeOf150
  v85 := Tryz.zeroValue150
  t127 := Tryz.underlying173
  a127 := Tryz.isAgg173
  z127 := Tryz.sizeOf173
  v127 := Tryz.zeroValue173
  t143 := Tryz.underlying174
  a143 := Tryz.isAgg174
  z143 := Tryz.sizeOf174
  v143 := Tryz.zeroValue174
  t145 := Tryz.underlying176
  a145 := Tryz.isAgg176
  z145 := Tryz.sizeOf176
  v145 := Tryz.zeroValue176
  t167 := Tryz.underlying148
  a167 := Tryz.isAgg148
  z167 := Tryz.sizeOf148
  v167 := Tryz.zeroValue148
  t168 := Tryz.underlying152
  a168 := Tryz.isAgg152
  z168 := Tryz.sizeOf152
  v168 := Tryz.zeroValue152
  t171 := Tryz.underlying194
  a171 := Tryz.isAgg194
  z171 := Tryz.sizeOf194
  v171 := Tryz.zeroValue194
  t173 := Tryz.underlying197
  a173 := Tryz.isAgg197
  z173 := Tryz.sizeOf197
  v173 := Tryz.zeroValue197
  t175 := Tryz.underlying160
  a175 := Tryz.isAgg160
  z175 := Tryz.sizeOf160
  v175 := Tryz.zeroValue160
  t210 := Tryz.underlying164
  a210 := Tryz.isAgg164
  z210 := Tryz.sizeOf164
  v210 := Tryz.zeroValue164
  t212 := Tryz.underlying203
  a212 := Tryz.isAgg203
  z212 := Tryz.sizeOf203
  v212 := Tryz.zeroValue203
  t213 := Tryz.underlying205
  a213 := Tryz.isAgg205
  z213 := Tryz.sizeOf205
  t232 := Tryz.underlying208
  a232 := Tryz.isAgg208
  z232 := Tryz.sizeOf208
  v232 := Tryz.zeroValue208
  t233 := Tryz.underlying209
  a233 := Tryz.isAgg209
  z233 := Tryz.sizeOf209
  v233 := Tryz.zeroValue209
  g15 := by kernel_rfl
  g16 := by kernel_rfl
  g17 := by kernel_rfl
  g18 := by kernel_rfl
  g19 := by kernel_rfl }
open Go.RowKit in
theorem Tryz.strconv_Atoi (s : ByteArray) (n : Int) (hl : s.size ≤ 18) (h : Lib.atoi s.data.toList = some n) (w : World) :
    Calls Tryz.prog 93 #[.string s] w fun e w' => e = .returned (.tuple #[.int .i64 n, .nilIface]) ∧ ∃ t, w' = Lib.bytesWorld w 5 t := Any.strconv_Atoi Tryz.lays172 s n hl h w
end Go.Proofs

/- strconv.Atoi, as the reader calls it. -/
namespace Go.Proofs.YtgcefodgjhlbeaaGreatDoor
open Go.RowKit

theorem below_bytes (B : Nat) (w : World) (e : TypeId) (s : ByteArray) (h : B ≤ w.heap.size) : Below B w (Lib.bytesWorld w e s) :=
  ⟨by unfold Lib.bytesWorld World.freeze; split <;> rfl, by unfold Lib.bytesWorld World.freeze; split <;> rfl, by unfold Lib.bytesWorld World.freeze; split <;> rfl, by rw [Lib.bytesWorld_size]; omega, fun k hk => Lib.bytesWorld_at_old w e s k (by omega)⟩
theorem shelf_atoi (s : ByteArray) (n : Int) (hl : s.size ≤ 18) (h : Lib.atoi s.data.toList = some n) (w : World) :
    Calls Tryz.prog 93 #[.string s] w fun e w' => e = .returned (.tuple #[.int .i64 n, .nilIface]) ∧ Below w.heap.size w w' := by
  refine (Tryz.strconv_Atoi s n hl h w).mono ?_
  rintro e w' ⟨rfl, t, rfl⟩
  exact ⟨rfl, below_bytes _ w 5 t (Nat.le_refl _)⟩
end Go.Proofs.YtgcefodgjhlbeaaGreatDoor

/- The package's reader of expressions: expect, name, mark, word, number. -/
namespace Go.Proofs.YtgcefodgjhlbeaaGreatDoor
open Go.RowKit Go.Maps Mth

set_option maxHeartbeats 1600000 in
theorem yExp_any (ea : Addr) (b : Nat) (ts : List Tok) (s : St) (fits : Bool) (w : World) (h : RdY ea w b ts s) (hf : fits = true → s.i < ts.length) :
    Calls Tryz.prog 101 #[.pointer (some ⟨b, 0, none⟩), .bool fits] w (YEnd ea w b ts (yExp ts s fits) (.tuple #[])) := by
  cases fits with
  | true =>
    have hlt := hf rfl
    obtain ⟨hi, hl⟩ := h.le
    obtain ⟨hs1, hs2⟩ := h.set (s.i + 1) hlt
    have e1 : ((s.i + 1 : Nat) : Int) = (s.i : Int) + 1 := by omega
    rw [e1] at hs1 hs2
    have HS1 := Lib.hid hs1
    have HS2 := Lib.hid hs2
    have HX : Hid (yExp ts s true = ⟨s.i + 1, s.bad, s.p⟩) := rfl
    obtain ⟨a, cap, ⟨c0, c1, -, -⟩, ⟨f1, -, -⟩, -⟩ := h.cells
    clear hs1 hs2 h hf
    obtain ⟨i, q, p⟩ := s
    dsimp only at *
    have hw1 : IntKind.i64.wrap ((i : Int) + 1) = (i : Int) + 1 := by rw [IntKind.wrap_i64]; omega
    go_enter Tryz.func101, Tryz.ntmps101
    go_wp2
    go_end0
    exact ⟨rfl, by rw [HX.out]; exact HS1.out, HS2.out⟩
  | false =>
    have HU := Lib.hid (yUnexp_any ea b ts s w h)
    have HX : Hid (yExp ts s false = xFail ts s) := rfl
    clear h hf
    go_enter Tryz.func101, Tryz.ntmps101
    go_wp2_with (go_at_call 64; refine HU.out.mono ?_; rintro e w1 ⟨rfl, hr1, hg1⟩)
    go_end0
    exact ⟨rfl, by rw [HX.out]; exact hr1, hg1⟩
set_option maxHeartbeats 1600000 in
theorem yName_any (k : Int) (hk : k ≠ 0) (ea : Addr) (b : Nat) (ts : List Tok) (s : St) (w : World) (h : RdY ea w b ts s) :
    Calls Tryz.prog 83 #[.pointer (some ⟨b, 0, none⟩), .int .i64 k] w (YEnd ea w b ts (yExp ts s (yK ts s == k)) (.string (yT ts s))) := by
  have HP := Lib.hid h
  have HT := Lib.hid (yTok_any ea b ts s w h)
  have HX : Hid (∀ V, RdY ea V b ts s → Calls Tryz.prog 101 #[.pointer (some ⟨b, 0, none⟩), .bool (yK ts s == k)] V (YEnd ea V b ts (yExp ts s (yK ts s == k)) (.tuple #[]))) := fun V hV => yExp_any ea b ts s _ V hV (fun e => (yK_lt (by
    have : yK ts s = k := by simpa using e
    rw [this]; exact hk)).2)
  have hbl := h.lt
  clear h
  generalize yExp ts s (yK ts s == k) = s' at *
  generalize yK ts s = tk at *
  generalize yT ts s = tx at *
  generalize yP ts s = tp at *
  cases hq : (tk == k)
  all_goals
    rw [hq] at HX
    go_enter Tryz.func83, Tryz.ntmps83
    go_upto_region 1 with fail
    go_wp2_with fail
    go_at_call 48
    refine HT.out.mono ?_
    rintro e w1 ⟨rfl, hb1⟩
    have hal : Below w1.heap.size w1 (w1.alloc (.cells #[.int .i64 tk, .string tx, .int .i64 tp] 76)) := (Below.refl _ w1).alloc (Nat.le_refl _) _
    have HP2 := Lib.hid ((HP.out.lift hb1).lift hal)
    have HG2 := Lib.hid (below_grown_some (hb1.trans (hal.mono hb1.size)) b)
    have HN : Hid ((w1.alloc (.cells #[.int .i64 tk, .string tx, .int .i64 tp] 76)).heap[w1.heap.size]? = some (.cells #[.int .i64 tk, .string tx, .int .i64 tp] 76 (0, 0))) := heap_alloc_new w1 _
    have hne : b ≠ w1.heap.size := by have := hb1.size; omega
    have HNE := Lib.hid hne
    clear hb1 hal hne
    go_upto_region 2 with fail
    generalize (w1.alloc (.cells #[.int .i64 tk, .string tx, .int .i64 tp] 76)) = V at *
    obtain ⟨⟨n0, n1, n2⟩, -⟩ := tok_cells HN.out
    go_wp2_with fail
    go_at_call 101
    refine (HX.out _ HP2.out).mono ?_
    rintro e w2 ⟨rfl, hr2, hg2⟩
    have HR2 := Lib.hid hr2
    have HN2 : Hid (w2.heap[w1.heap.size]? = some (.cells #[.int .i64 tk, .string tx, .int .i64 tp] 76 (0, 0))) := by show _ = _; rw [hg2.block _ (Array.getElem?_eq_some_iff.1 HN.out).1 (by intro e; exact HNE.out (Option.some.inj e).symm)]; exact HN.out
    have HG3 := Lib.hid (grown_trans HG2.out hg2)
    clear n0 n1 n2 hr2 hg2 HN HP2 HG2
    obtain ⟨⟨n0, n1, n2⟩, -⟩ := tok_cells HN2.out
    go_wp2
    go_ret
    exact ⟨rfl, HR2.out, HG3.out⟩
theorem yMark_any (t : ByteArray) (ea : Addr) (b : Nat) (ts : List Tok) (s : St) (w : World) (h : RdY ea w b ts s) :
    Calls Tryz.prog 84 #[.pointer (some ⟨b, 0, none⟩), .string t] w (YEnd ea w b ts (yExp ts s (yM ts s t)) (.tuple #[])) := by
  have HP := Lib.hid h
  have HT := Lib.hid (yTok_any ea b ts s w h)
  have HX : Hid (∀ V, RdY ea V b ts s → Calls Tryz.prog 101 #[.pointer (some ⟨b, 0, none⟩), .bool (yM ts s t)] V (YEnd ea V b ts (yExp ts s (yM ts s t)) (.tuple #[]))) := fun V hV => yExp_any ea b ts s _ V hV (fun e => (yM_lt e).2)
  have HM : Hid (∀ V, Calls Tryz.prog 49 #[.agg #[.int .i64 (yK ts s), .string (yT ts s), .int .i64 (yP ts s)], .string t] V fun e w' => e = .returned (.bool (yM ts s t)) ∧ Below V.heap.size V w') := fun V => xMark_any _ _ _ t V
  clear h
  generalize yExp ts s (yM ts s t) = s' at *
  generalize yM ts s t = q at *
  generalize yK ts s = tk at *
  generalize yT ts s = tx at *
  generalize yP ts s = tp at *
  go_enter Tryz.func84, Tryz.ntmps84
  go_wp2_with fail
  go_at_call 48
  refine HT.out.mono ?_
  rintro e w1 ⟨rfl, hb1⟩
  have HP1 := Lib.hid (HP.out.lift hb1)
  have HG1 := Lib.hid (below_grown_some hb1 b)
  clear hb1
  go_wp2_with fail
  go_at_call 49
  refine (HM.out _).mono ?_
  rintro e w2 ⟨rfl, hb2⟩
  have HP2 := Lib.hid (HP1.out.lift hb2)
  have HG2 := Lib.hid (grown_trans HG1.out (below_grown_some hb2 b))
  clear hb2
  go_wp2_with (go_at_call 101; refine (HX.out _ HP2.out).mono ?_; rintro e w3 ⟨rfl, hr3, hg3⟩)
  go_end0
  exact ⟨rfl, hr3, grown_trans HG2.out hg3⟩
theorem yWord_any (t : ByteArray) (ea : Addr) (b : Nat) (ts : List Tok) (s : St) (w : World) (h : RdY ea w b ts s) :
    Calls Tryz.prog 85 #[.pointer (some ⟨b, 0, none⟩), .string t] w (YEnd ea w b ts (yExp ts s (yW ts s t)) (.tuple #[])) := by
  have HP := Lib.hid h
  have HT := Lib.hid (yTok_any ea b ts s w h)
  have HX : Hid (∀ V, RdY ea V b ts s → Calls Tryz.prog 101 #[.pointer (some ⟨b, 0, none⟩), .bool (yW ts s t)] V (YEnd ea V b ts (yExp ts s (yW ts s t)) (.tuple #[]))) := fun V hV => yExp_any ea b ts s _ V hV (fun e => (yW_lt e).2)
  have HM : Hid (∀ V, Calls Tryz.prog 51 #[.agg #[.int .i64 (yK ts s), .string (yT ts s), .int .i64 (yP ts s)], .string t] V fun e w' => e = .returned (.bool (yW ts s t)) ∧ Below V.heap.size V w') := fun V => xWord_any _ _ _ t V
  clear h
  generalize yExp ts s (yW ts s t) = s' at *
  generalize yW ts s t = q at *
  generalize yK ts s = tk at *
  generalize yT ts s = tx at *
  generalize yP ts s = tp at *
  go_enter Tryz.func85, Tryz.ntmps85
  go_wp2_with fail
  go_at_call 48
  refine HT.out.mono ?_
  rintro e w1 ⟨rfl, hb1⟩
  have HP1 := Lib.hid (HP.out.lift hb1)
  have HG1 := Lib.hid (below_grown_some hb1 b)
  clear hb1
  go_wp2_with fail
  go_at_call 51
  refine (HM.out _).mono ?_
  rintro e w2 ⟨rfl, hb2⟩
  have HP2 := Lib.hid (HP1.out.lift hb2)
  have HG2 := Lib.hid (grown_trans HG1.out (below_grown_some hb2 b))
  clear hb2
  go_wp2_with (go_at_call 101; refine (HX.out _ HP2.out).mono ?_; rintro e w3 ⟨rfl, hr3, hg3⟩)
  go_end0
  exact ⟨rfl, hr3, grown_trans HG2.out hg3⟩
/-- The number that an integer's text stands for. -/
def numB (x : ByteArray) : Int := match Lib.atoi x.data.toList with | some n => n | none => 0
theorem dec_some : ∀ (l : List UInt8) (acc : Nat), l.all dig = true → ∃ n, Lib.decFrom acc l = some n := by
  intro l
  induction l with
  | nil => intro acc _; exact ⟨acc, rfl⟩
  | cons c l ih =>
    intro acc h
    simp only [List.all_cons, Bool.and_eq_true] at h
    obtain ⟨n, hn⟩ := ih (acc * 10 + (c.toNat - 48)) h.2
    refine ⟨n, ?_⟩
    have hd := h.1
    unfold dig at hd
    have : Lib.digitVal c = some (c.toNat - 48) := by
      unfold Lib.digitVal
      rw [if_pos]
      simp at hd
      omega
    unfold Lib.decFrom
    rw [this]
    exact hn
theorem rkind_int {l : List UInt8} (h : rkind l = 3) : l ≠ [] ∧ l.length ≤ 9 ∧ l.all dig = true := by
  unfold rkind at h
  split at h
  · cases h
  split at h
  · cases h
  split at h
  · cases h
  split at h
  · rename_i h3
    unfold isInt at h3
    simp at h3
    exact ⟨by simpa using h3.1, by omega, by simpa using h3.2.2⟩
  · split at h <;> cases h
theorem atoi_some {x : ByteArray} (h : rkind (bl x) = 3) : x.size ≤ 18 ∧ ∃ n : Nat, Lib.atoi x.data.toList = some (n : Int) := by
  obtain ⟨h1, h2, h3⟩ := rkind_int h
  refine ⟨by rw [← bl_len]; omega, ?_⟩
  show ∃ n : Nat, Lib.atoi (bl x) = some (n : Int)
  generalize bl x = l at *
  obtain ⟨n, hn⟩ := dec_some l 0 h3
  cases l with
  | nil => exact absurd rfl h1
  | cons c l =>
    have hc : dig c = true := by simp at h3; exact h3.1
    have hn' : Lib.decNat (c :: l) = some n := by unfold Lib.decNat; simpa using hn
    refine ⟨n, ?_⟩
    have n1 : (c == 45) = false := by
      rw [beq_eq_false_iff_ne]
      rintro rfl
      revert hc; decide
    have n2 : (c == 43) = false := by
      rw [beq_eq_false_iff_ne]
      rintro rfl
      revert hc; decide
    simp only [Lib.atoi, n1, n2, hn', Bool.false_eq_true, if_false]
    rfl
set_option maxHeartbeats 1600000 in
theorem yNum_any (x : ByteArray) (w : World) (h : rkind (bl x) = 3) :
    Calls Tryz.prog 66 #[.string x] w fun e w' => e = .returned (.int .i64 (numB x)) ∧ Below w.heap.size w w' := by
  obtain ⟨h1, n, h2⟩ := atoi_some h
  have HA : Hid (Calls Tryz.prog 93 #[.string x] w fun e w' => e = .returned (.tuple #[.int .i64 (n : Int), .nilIface]) ∧ Below w.heap.size w w') := by
    refine (shelf_atoi x (n : Int) h1 h2 w).mono ?_
    rintro e w' ⟨rfl, hb⟩
    exact ⟨rfl, hb⟩
  have HE : Hid (numB x = n) := by show _ = _; unfold numB; rw [h2]
  clear h h1 h2
  go_enter Tryz.func66, Tryz.ntmps66
  go_wp2_with (go_at_call 93; refine HA.out.mono ?_; rintro e w1 ⟨rfl, hb1⟩)
  go_ret
  exact ⟨ret_int HE.out.symm, hb1⟩
end Go.Proofs.YtgcefodgjhlbeaaGreatDoor

/- The package's reader of expressions: what it reads, and what holds while it reads. -/
namespace Go.Proofs.YtgcefodgjhlbeaaGreatDoor
open Go.RowKit Go.Maps Mth

/-- A type behind a colon. -/
def yTyR (ts : List Tok) (s : St) : Ty × St :=
  if (rdT ts s.i).e == 0 then ((rdT ts s.i).T, ⟨(rdT ts s.i).n.toNat, s.bad, s.p⟩) else (zeroT, yFl s (rdT ts s.i).p)
def yVars : Nat → List Tok → St → List ByteArray → Option (List ByteArray × St)
  | 0, _, _, _ => none
  | f + 1, ts, s, acc => if yK ts s == 1 then yVars f ts (xStep s) (acc ++ [yT ts s]) else some (acc, s)
mutual
def yExpr : Nat → List Tok → St → Option (Ex × St)
  | 0, _, _ => none
  | f + 1, ts, s =>
    if yM ts s ⟨#[92]⟩ then yFun f ts s
    else if yW ts s ⟨#[108, 101, 116]⟩ then yLoc f ts s
    else if yW ts s ⟨#[99, 97, 115, 101]⟩ then yCas f ts s
    else yApp f ts s
def yFun : Nat → List Tok → St → Option (Ex × St)
  | 0, _, _ => none
  | f + 1, ts, s =>
    match yExpr f ts (yExp ts (yExp ts (xStep s) (yK ts (xStep s) == 1)) (yM ts (yExp ts (xStep s) (yK ts (xStep s) == 1)) ⟨#[46]⟩)) with
    | some (a, s') => some (.mk 4 (tkP ts s.i) (yT ts (xStep s)) 0 zTy [a] [], s')
    | none => none
def yLoc : Nat → List Tok → St → Option (Ex × St)
  | 0, _, _ => none
  | f + 1, ts, s =>
    yLoc2 f ts (if yW ts (xStep s) ⟨#[114, 101, 99]⟩ then 7 else 6) (tkP ts s.i) (if yW ts (xStep s) ⟨#[114, 101, 99]⟩ then xStep (xStep s) else xStep s)
def yLoc2 : Nat → List Tok → Int → Int → St → Option (Ex × St)
  | 0, _, _, _, _ => none
  | f + 1, ts, k, p, s =>
    match yExpr f ts (yExp ts (yExp ts s (yK ts s == 1)) (yM ts (yExp ts s (yK ts s == 1)) ⟨#[61]⟩)) with
    | some (a, s1) =>
      match yExpr f ts (yExp ts s1 (yW ts s1 ⟨#[105, 110]⟩)) with
      | some (c, s2) => some (.mk k p (yT ts s) 0 zTy [a, c] [], s2)
      | none => none
    | none => none
def yCas : Nat → List Tok → St → Option (Ex × St)
  | 0, _, _ => none
  | f + 1, ts, s =>
    match yExpr f ts (xStep s) with
    | some (a, s1) =>
      match yArm f ts (yExp ts s1 (yW ts s1 ⟨#[111, 102]⟩)) with
      | some (A, s2) =>
        match yArms f ts s2 [A] with
        | some (l, s3) => some (.mk 8 (tkP ts s.i) ⟨#[]⟩ 0 zTy [a] l, yExp ts s3 (yW ts s3 ⟨#[101, 110, 100]⟩))
        | none => none
      | none => none
    | none => none
def yArms : Nat → List Tok → St → List (AH × Ex) → Option (List (AH × Ex) × St)
  | 0, _, _, _ => none
  | f + 1, ts, s, acc =>
    if yM ts s ⟨#[124]⟩ then
      match yArm f ts (xStep s) with
      | some (A, s') => yArms f ts s' (acc ++ [A])
      | none => none
    else some (acc, s)
def yArm : Nat → List Tok → St → Option ((AH × Ex) × St)
  | 0, _, _ => none
  | f + 1, ts, s =>
    match yVars f ts (yExp ts s (yK ts s == 2)) [] with
    | some (vs, s1) =>
      match yExpr f ts (yExp ts s1 (yM ts s1 ⟨#[46]⟩)) with
      | some (c, s2) => some ((⟨yP ts s, yT ts s, vs⟩, c), s2)
      | none => none
    | none => none
def yApp : Nat → List Tok → St → Option (Ex × St)
  | 0, _, _ => none
  | f + 1, ts, s =>
    match yAtom f ts s with
    | some (e, s') => yApps f ts s' e
    | none => none
def yApps : Nat → List Tok → St → Ex → Option (Ex × St)
  | 0, _, _, _ => none
  | f + 1, ts, s, e =>
    if stB (yK ts s) (yT ts s) then
      match yAtom f ts s with
      | some (a, s') => yApps f ts s' (.mk 5 e.p ⟨#[]⟩ 0 zTy [e, a] [])
      | none => none
    else some (e, s)
def yAtom : Nat → List Tok → St → Option (Ex × St)
  | 0, _, _ => none
  | f + 1, ts, s =>
    if stB (yK ts s) (yT ts s) then
      if yK ts s == 1 then some (.mk 1 (yP ts s) (yT ts s) 0 zTy [] [], xStep s)
      else if yK ts s == 2 then some (.mk 2 (yP ts s) (yT ts s) 0 zTy [] [], xStep s)
      else if yK ts s == 3 then some (.mk 3 (yP ts s) ⟨#[]⟩ (numB (yT ts s)) zTy [] [], xStep s)
      else if (yT ts s).toList == (⟨#[40]⟩ : ByteArray).toList then yEnc f ts (xStep s) (yP ts s)
      else if (yT ts s).toList == (⟨#[123]⟩ : ByteArray).toList then yHeld f ts (xStep s) (yP ts s)
      else some (.mk 10 (yP ts s) ⟨#[]⟩ 0 zTy [] [], xStep s)
    else some (zEx, xFail ts s)
def yEnc : Nat → List Tok → St → Int → Option (Ex × St)
  | 0, _, _, _ => none
  | f + 1, ts, s, p =>
    match yExpr f ts s with
    | some (e, s1) =>
      if yM ts s1 ⟨#[58]⟩ then some (.mk 9 p ⟨#[]⟩ 0 (yTyR ts (xStep s1)).1 [e] [], yExp ts (yTyR ts (xStep s1)).2 (yM ts (yTyR ts (xStep s1)).2 ⟨#[41]⟩))
      else some (e, yExp ts s1 (yM ts s1 ⟨#[41]⟩))
    | none => none
def yHeld : Nat → List Tok → St → Int → Option (Ex × St)
  | 0, _, _, _ => none
  | f + 1, ts, s, p =>
    match yExpr f ts s with
    | some (e, s1) => some (.mk 11 p ⟨#[]⟩ 0 zTy [e] [], yExp ts s1 (yM ts s1 ⟨#[125]⟩))
    | none => none
end
/-- What the contract of a reading of an expression says. -/
def YAt (fid : Nat) (more : Array Value) (ts : List Tok) (s : St) (r : Option (Ex × St)) : Prop :=
  ∀ (T : Ex) (s' : St), r = some (T, s') → ∀ (ea : Addr) (b base : Nat) (w : World), b < base → base ≤ w.heap.size → RdY ea w b ts s →
    Calls Tryz.prog fid (#[.pointer (some ⟨b, 0, none⟩)] ++ more) w fun e w' => ∃ c, e = .returned (.agg (List.toArray c)) ∧ RepE w' (fun g => base ≤ g) T c ∧ RdY ea w' b ts s' ∧ w.grownBy w' (some b)
/-- The same for an arm: its cells. -/
def YAtA (fid : Nat) (ts : List Tok) (s : St) (r : Option ((AH × Ex) × St)) : Prop :=
  ∀ (A : AH × Ex) (s' : St), r = some (A, s') → ∀ (ea : Addr) (b base : Nat) (w : World), b < base → base ≤ w.heap.size → RdY ea w b ts s →
    Calls Tryz.prog fid #[.pointer (some ⟨b, 0, none⟩)] w fun e w' => ∃ c, e = .returned (.agg (List.toArray c)) ∧ AmE.rep w' (fun g => base ≤ g) A c ∧ RdY ea w' b ts s' ∧ w.grownBy w' (some b)
/-- What holds while a method reads: its result's variable, and a variable of its own. -/
structure EB (ea : Addr) (w v : World) (b R0 R1 : Nat) (ts : List Tok) (s : St) (c : List Value) : Prop where
  rd : RdY ea v b ts s
  res : BoxC 34 v R0 zExC
  box : BoxC 34 v R1 c
  grown : w.grownBy v (some b)
  h0 : w.heap.size ≤ R0
  h1 : R0 < R1
  hb : b < w.heap.size
theorem EB.lt {ea : Addr} {w v : World} {b R0 R1 : Nat} {ts : List Tok} {s : St} {c : List Value} (h : EB ea w v b R0 R1 ts s c) : R1 < v.heap.size := h.box.lt
theorem EB.call {ea : Addr} {w v v' : World} {b R0 R1 : Nat} {ts : List Tok} {s s' : St} {c : List Value} (h : EB ea w v b R0 R1 ts s c) (hr : RdY ea v' b ts s') (hg : v.grownBy v' (some b)) : EB ea w v' b R0 R1 ts s' c :=
  ⟨hr, h.res.grown hg (by have := h.hb; have := h.h0; intro e; have := Option.some.inj e; omega), h.box.grown hg (by have := h.hb; have := h.h0; have := h.h1; intro e; have := Option.some.inj e; omega), grown_trans h.grown hg, h.h0, h.h1, h.hb⟩
theorem EB.lift {ea : Addr} {w v v' : World} {b R0 R1 : Nat} {ts : List Tok} {s : St} {c : List Value} (h : EB ea w v b R0 R1 ts s c) (hb : Below v.heap.size v v') : EB ea w v' b R0 R1 ts s c :=
  h.call (h.rd.lift hb) (below_grown_some hb b)
theorem EB.set {ea : Addr} {w v : World} {b R0 R1 : Nat} {ts : List Tok} {s : St} {c : List Value} (h : EB ea w v b R0 R1 ts s c) (m : Nat) (u : Value) : EB ea w (v.setCell ⟨R1, m, none⟩ u) b R0 R1 ts s (c.set m u) := by
  obtain ⟨h1, h2, -⟩ := h.box.set m u
  have := h.hb; have := h.h0; have h01 := h.h1
  exact ⟨h.rd.other (by omega) h2, h.res.grown h2 (by intro e; have := Option.some.inj e; omega), h1, grown_fresh h.grown h2 (fun k e => by have := Option.some.inj e; omega), h.h0, h01, h.hb⟩
theorem EB.row {ea : Addr} {w v v' : World} {b R0 R1 : Nat} {ts : List Tok} {s : St} {c c' : List Value} (h : EB ea w v b R0 R1 ts s c) (h1 : BoxC 34 v' R1 c') (h2 : v.grownBy v' (some R1)) : EB ea w v' b R0 R1 ts s c' := by
  have := h.hb; have := h.h0; have h01 := h.h1
  exact ⟨h.rd.other (by omega) h2, h.res.grown h2 (by intro e; have := Option.some.inj e; omega), h1, grown_fresh h.grown h2 (fun k e => by have := Option.some.inj e; omega), h.h0, h01, h.hb⟩
/-- The end: the result is stored. -/
theorem EB.fin {ea : Addr} {w v v' : World} {b R0 R1 : Nat} {ts : List Tok} {s : St} {c : List Value} (h : EB ea w v b R0 R1 ts s c) (hg : v.grownBy v' (some R0)) : RdY ea v' b ts s ∧ w.grownBy v' (some b) := by
  have := h.hb; have := h.h0; have h01 := h.h1
  exact ⟨h.rd.other (by omega) hg, grown_fresh h.grown hg (fun k e => by have := Option.some.inj e; omega)⟩
/-- The eleven cells of a struct, ts a walk meets them. -/
theorem BoxC.all11 {t : TypeId} {w : World} {B : Nat} {c0 c1 c2 c3 c4 c5 c6 c7 c8 c9 c10 : Value} (h : BoxC t w B [c0, c1, c2, c3, c4, c5, c6, c7, c8, c9, c10]) :
    w.cell? ⟨B, 0, none⟩ = some c0 ∧ w.cell? ⟨B, 1, none⟩ = some c1 ∧ w.cell? ⟨B, 2, none⟩ = some c2 ∧ w.cell? ⟨B, 3, none⟩ = some c3 ∧ w.cell? ⟨B, 4, none⟩ = some c4 ∧ w.cell? ⟨B, 5, none⟩ = some c5 ∧ w.cell? ⟨B, 6, none⟩ = some c6 ∧ w.cell? ⟨B, 7, none⟩ = some c7 ∧ w.cell? ⟨B, 8, none⟩ = some c8 ∧ w.cell? ⟨B, 9, none⟩ = some c9 ∧ w.cell? ⟨B, 10, none⟩ = some c10 :=
  ⟨h.cell 0 _ rfl, h.cell 1 _ rfl, h.cell 2 _ rfl, h.cell 3 _ rfl, h.cell 4 _ rfl, h.cell 5 _ rfl, h.cell 6 _ rfl, h.cell 7 _ rfl, h.cell 8 _ rfl, h.cell 9 _ rfl, h.cell 10 _ rfl⟩
/-- One expression, laid in a row of its own. -/
theorem one_newE {w : World} {S S' : Nat → Prop} {T : Ex} {c : List Value} (h : RepE w S T c) (Z : TypeId) (n : Nat) (hn : n = w.heap.size) (hS : ∀ g, S g → S' g) (hn' : S' n) : SlG ExE (w.alloc (.cells c.toArray Z)) S' [T] (.slice (some ⟨n, 0, none⟩) 1 1) := by
  subst hn
  refine ⟨_, 1, rfl, ⟨Nat.le_refl _, by simp [maxLen]⟩, fun j x hx => ?_⟩
  cases j with
  | zero =>
    simp at hx; subst hx
    refine ⟨_, c, rfl, hn', fun m u hu => ?_, (h.lift ((Below.refl _ w).alloc (Nat.le_refl _) _)).imp hS⟩
    rw [add_zero]
    refine (World.cell?_alloc_at _ _ _ _ rfl).trans ?_
    show c.toArray[0 + (0 * 11 + m)]? = some u
    simpa using hu
  | succ j => simp at hx
/-- Two expressions, laid in a row of their own. -/
theorem two_newE {w : World} {S S' : Nat → Prop} {T U : Ex} {c d : List Value} (h : RepE w S T c) (k : RepE w S U d) (Z : TypeId) (n : Nat) (hn : n = w.heap.size) (hS : ∀ g, S g → S' g) (hn' : S' n) : SlG ExE (w.alloc (.cells (c ++ d).toArray Z)) S' [T, U] (.slice (some ⟨n, 0, none⟩) 2 2) := by
  subst hn
  have hc := h.len.1
  refine ⟨_, 2, rfl, ⟨Nat.le_refl _, by simp [maxLen]⟩, fun j x hx => ?_⟩
  rcases j with _ | _ | j
  · simp at hx; subst hx
    refine ⟨_, c, rfl, hn', fun m u hu => ?_, (h.lift ((Below.refl _ w).alloc (Nat.le_refl _) _)).imp hS⟩
    rw [add_zero]
    refine (World.cell?_alloc_at _ _ _ _ rfl).trans ?_
    have := (List.getElem?_eq_some_iff.1 hu).1
    show (c ++ d).toArray[0 + (0 * 11 + m)]? = some u
    simp only [Nat.zero_mul, Nat.zero_add, List.getElem?_toArray]
    rw [List.getElem?_append_left this]; exact hu
  · simp at hx; subst hx
    refine ⟨_, d, rfl, hn', fun m u hu => ?_, (k.lift ((Below.refl _ w).alloc (Nat.le_refl _) _)).imp hS⟩
    rw [add_zero]
    refine (World.cell?_alloc_at _ _ _ _ rfl).trans ?_
    show (c ++ d).toArray[0 + ((0 + 1) * 11 + m)]? = some u
    have e : 0 + ((0 + 1) * 11 + m) = c.length + m := by rw [hc]; omega
    rw [e, List.getElem?_toArray, List.getElem?_append_right (by omega), Nat.add_sub_cancel_left]; exact hu
  · simp at hx
/-- An expression whose kids are given, its type none. -/
theorem repE_kids {w : World} {S : Nat → Prop} (k p : Int) (n : ByteArray) (m : Int) {kids : List Ex} {kv : Value} (hn : n.size ≤ maxLen) (h : SlG ExE w S kids kv) :
    RepE w S (.mk k p n m zTy kids []) [.int .i64 k, .int .i64 p, .string n, .int .i64 m, kv, .slice none 0 0, .int .i64 0, .string ⟨#[]⟩, .int .i64 0, .int .i64 0, .slice none 0 0] :=
  RepE.close hn h (slG_nil AmE w S) (rep_zTy w S)
theorem yT_size {ts : List Tok} (hok : TkOk ts) (s : St) : (yT ts s).size ≤ maxLen := by
  unfold yT
  split
  · exact Nat.zero_le _
  · exact txt_size hok _
/-- What holds before the method's own variable is made. -/
structure PB (ea : Addr) (w v : World) (b R0 : Nat) (ts : List Tok) (s : St) : Prop where
  rd : RdY ea v b ts s
  res : BoxC 34 v R0 zExC
  grown : w.grownBy v (some b)
  h0 : w.heap.size ≤ R0
  hb : b < w.heap.size
theorem PB.start {ea : Addr} {w : World} {b : Nat} {ts : List Tok} {s : St} (h : RdY ea w b ts s) : PB ea w (w.alloc (.cells #[.int .i64 0, .int .i64 0, .string ⟨#[]⟩, .int .i64 0, .slice none 0 0, .slice none 0 0, .int .i64 0, .string ⟨#[]⟩, .int .i64 0, .int .i64 0, .slice none 0 0] 34)) b w.heap.size ts s := by
  have hb : Below w.heap.size w (w.alloc (.cells #[.int .i64 0, .int .i64 0, .string ⟨#[]⟩, .int .i64 0, .slice none 0 0, .slice none 0 0, .int .i64 0, .string ⟨#[]⟩, .int .i64 0, .int .i64 0, .slice none 0 0] 34)) := (Below.refl _ w).alloc (Nat.le_refl _) _
  exact ⟨h.lift hb, BoxC.made _ w zExC, below_grown_some hb b, Nat.le_refl _, h.lt⟩
theorem PB.call {ea : Addr} {w v v' : World} {b R0 : Nat} {ts : List Tok} {s s' : St} (h : PB ea w v b R0 ts s) (hr : RdY ea v' b ts s') (hg : v.grownBy v' (some b)) : PB ea w v' b R0 ts s' :=
  ⟨hr, h.res.grown hg (by have := h.hb; have := h.h0; intro e; have := Option.some.inj e; omega), grown_trans h.grown hg, h.h0, h.hb⟩
theorem PB.lift {ea : Addr} {w v v' : World} {b R0 : Nat} {ts : List Tok} {s : St} (h : PB ea w v b R0 ts s) (hb : Below v.heap.size v v') : PB ea w v' b R0 ts s := h.call (h.rd.lift hb) (below_grown_some hb b)
theorem PB.mk' {ea : Addr} {w v : World} {b R0 : Nat} {ts : List Tok} {s : St} (h : PB ea w v b R0 ts s) (c : List Value) : EB ea w (v.alloc (.cells c.toArray 34)) b R0 v.heap.size ts s c := by
  have h1 := h.lift ((Below.refl _ v).alloc (Nat.le_refl _) (.cells c.toArray 34))
  exact ⟨h1.rd, h1.res, BoxC.made _ v c, h1.grown, h.h0, h.res.lt, h.hb⟩
theorem PB.fin {ea : Addr} {w v v' : World} {b R0 : Nat} {ts : List Tok} {s : St} (h : PB ea w v b R0 ts s) (hg : v.grownBy v' (some R0)) : RdY ea v' b ts s ∧ w.grownBy v' (some b) := by
  have := h.hb; have := h.h0
  exact ⟨h.rd.other (by omega) hg, grown_fresh h.grown hg (fun k e => by have := Option.some.inj e; omega)⟩
theorem EB.pb {ea : Addr} {w v : World} {b R0 R1 : Nat} {ts : List Tok} {s : St} {c : List Value} (h : EB ea w v b R0 R1 ts s c) : PB ea w v b R0 ts s := ⟨h.rd, h.res, h.grown, h.h0, h.hb⟩
theorem repE_far {w w' : World} {base R : Nat} {T : Ex} {c : List Value} (h : RepE w (fun g => R < g) T c) (hb : base ≤ R) (hw : ∀ g, R < g → g < w.heap.size → w'.heap[g]? = w.heap[g]?) : RepE w' (fun g => base ≤ g) T c :=
  h.kept (fun _ hg => Nat.le_of_lt (Nat.lt_of_le_of_lt hb hg)) hw
/-- What a method returns: its own variable, stored into the result. -/
theorem EB.ret {ea : Addr} {w v v' : World} {b R0 R1 base : Nat} {ts : List Tok} {s : St} {c c' : List Value} {T : Ex} (h : EB ea w v b R0 R1 ts s c) (hr : RepE v (fun g => R1 < g) T c') (hbase : base ≤ w.heap.size) (hg : v.grownBy v' (some R0)) :
    RepE v' (fun g => base ≤ g) T c' ∧ RdY ea v' b ts s ∧ w.grownBy v' (some b) := by
  have h0 := h.h0
  have h1 := h.h1
  exact ⟨repE_far hr (by omega) fun g h2 h3 => hg.block g h3 (by intro e; have := Option.some.inj e; omega), h.fin hg⟩
theorem RepE.len0 {w : World} {S : Nat → Prop} {T : Ex} {c : List Value} (h : RepE w S T c) : zExC.length = c.length := h.len.1.symm
theorem RepE.size {w : World} {S : Nat → Prop} {T : Ex} {c : List Value} (h : RepE w S T c) : (Tryz.prog.info? 34).map (·.size) = some c.length := by rw [h.len.1]; exact sizeEx
end Go.Proofs.YtgcefodgjhlbeaaGreatDoor
