import Derived.Test.YtgfjcpeeoapjlaaQV39
import Derived.Test.YtgfjcpeeoapjlaaQV37
import Derived.Test.YtgfjcpeeoapjlaaQV40
import Derived.Test.YtgfjcpeeoapjlaaQV41
import Derived.Test.YtgfjcpeeoapjlaaQV42
/- The contract of the maker's Raw. -/
namespace Go.Proofs.Ytgfjcpeeoapjlaa.MR
open Go.RowKit Go.Maps Mth

theorem dat_kept {w v : World} {b : Nat} {S : Nat → Prop} {ds : List Dat} {x : Value} (h : SlG DatE w S ds x) (hg : w.grownBy v (some b)) (hS : ∀ g, S g → g ≠ b) : SlG DatE v S ds x :=
  SlG.kept (fun _ h => h) (fun g hs hl => hg.block g hl (by intro e; exact hS g hs (Option.some.inj e))) h
theorem raw_of (d : Nat) (H : ∀ d', d = d' + 1 → RawAt d') : RawAt d := by
  intro z ds dv S b base w hz hd5 hds hD hSb ht hbase
  obtain ⟨r, h0, h1, hn⟩ := nx_made ht
  obtain ⟨da, dc, rfl⟩ := S3.slG_form hD
  obtain ⟨dn, hdn⟩ : ∃ n, n = ds.length := ⟨_, rfl⟩
  rw [← hdn] at hD ⊢
  have h8 : dn ≤ 8 := by rw [hdn]; exact hds.1
  by_cases hd : d = 0
  · have hz1 : z < 1 := by omega
    have hc : (r = 0 ∨ r = 1 ∨ r = 5 ∨ r = 6 ∨ r = 10 ∨ r = 11) ∨ (r = 2 ∨ r = 7 ∨ r = 12) ∨ (r = 3 ∨ r = 8 ∨ r = 13) ∨ (r = 4 ∨ r = 9) := by omega
    rcases hc with hc | hc | hc | hc
    · exact raw_var d b base z r w _ (.inl ⟨hz1, hc⟩) ht hbase hn
    · exact raw_int d b base z r w _ (.inl ⟨hz1, hc⟩) ht hbase hn
    · by_cases hd0 : dn = 0
      · subst hd0
        exact raw_gone d b base z r w da dc (.inl ⟨hz1, hc⟩) ht hbase hn
      · exact raw_con d b base z r w ds da dn dc S hdn (by omega) h8 hds hD hSb (.inl ⟨hz1, hc⟩) ht hbase hn
    · exact raw_hole d b base z r w _ (.inl ⟨hz1, hc⟩) ht hbase hn
  · obtain ⟨d, rfl⟩ : ∃ d', d = d' + 1 := ⟨d - 1, by omega⟩
    have hz1 : 1 ≤ z := by omega
    have hz5 : z ≤ 5 := by omega
    have hS : Sub d b z (.slice da dn dc) w := fun v htv hg => H d rfl (z - 1) ds _ S b v.heap.size v (by omega) (by omega) hds (dat_kept hD hg hSb) hSb htv (Nat.le_refl _)
    have hc : (r = 0 ∨ r = 1) ∨ r = 2 ∨ r = 3 ∨ r = 4 ∨ (r = 5 ∨ r = 6) ∨ (r = 7 ∨ r = 8 ∨ r = 9) ∨ r = 10 ∨ r = 11 ∨ r = 12 ∨ r = 13 := by omega
    rcases hc with hc | hc | hc | hc | hc | hc | hc | hc | hc | hc
    · exact raw_var _ b base z r w _ (.inr ⟨hz1, hc⟩) ht hbase hn
    · exact raw_int _ b base z r w _ (.inr ⟨hz1, hc⟩) ht hbase hn
    · by_cases hd0 : dn = 0
      · subst hd0
        exact raw_gone _ b base z r w da dc (.inr ⟨hz1, hc⟩) ht hbase hn
      · exact raw_con _ b base z r w ds da dn dc S hdn (by omega) h8 hds hD hSb (.inr ⟨hz1, hc⟩) ht hbase hn
    · exact raw_hole _ b base z r w _ (.inr ⟨hz1, hc⟩) ht hbase hn
    · exact raw_lam d b base z r _ w hz1 hz5 hc ht hbase hn hS
    · rcases hc with hc | hc | hc
      · exact raw_app7 d b base z r _ w hz1 hz5 hc ht hbase hn hS
      · exact raw_app8 d b base z r _ w hz1 hz5 hc ht hbase hn hS
      · exact raw_app9 d b base z r _ w hz1 hz5 hc ht hbase hn hS
    · exact raw_let d b base z r _ w hz1 hz5 hc ht hbase hn hS
    · exact raw_ann d b base z r _ w hz1 hz5 hc ht hbase hn hS fun v htv hg => S3.mkType_any 2 2 ds _ [] _ S b v.heap.size v rfl (by omega) hds ⟨by simp, fun T hT => by simp at hT⟩ (dat_kept hD hg hSb) (slG_nil _ _ _) hSb htv (Nat.le_refl _)
    · exact raw_held d b base z r _ w hz1 hz5 hc ht hbase hn hS
    · by_cases hd0 : dn = 0
      · subst hd0
        exact raw_again d b base z r da dc w hz1 hz5 hc ht hbase hn hS
      · exact raw_case d b base z r w ds da dn dc S hdn (by omega) h8 hds hD hSb hz1 hz5 hc ht hbase hn hS
theorem raw_any : ∀ d, RawAt d := by
  intro d
  induction d with
  | zero => exact raw_of 0 fun d' h => by omega
  | succ d ih => exact raw_of (d + 1) fun d' h => by obtain rfl : d = d' := by omega
                                                     exact ih
end Go.Proofs.Ytgfjcpeeoapjlaa.MR
