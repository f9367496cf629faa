import Derived.Test.YtljgpgmaceackaaQX05
import Derived.LaidEql
import Derived.Stop.Asserts
import Derived.RowKitTokens
import Derived.Test.YtljgpgmaceackaaQX02
/- Plain facts: types that can be written, with short names. -/
namespace Go.Proofs.Ytljgpgmaceackaa
open Go.RowKit Mth

/-! Every part is a constructor or a name, and every name is short. -/
mutual
def wr : Ty → Bool
  | .mk k n _ _ ts => (k == 4 || k == 5) && decide (n.size ≤ 6) && wrL ts
def wrL : List Ty → Bool
  | [] => true
  | t :: l => wr t && wrL l
end
theorem wrL_of : ∀ {l : List Ty}, (∀ T ∈ l, wr T = true) → wrL l = true := by
  intro l
  induction l with
  | nil => intro _; rfl
  | cons t l ih => intro h; simp [wrL, h t (by simp), ih fun T hT => h T (by simp [hT])]
theorem wrL_mem : ∀ {l : List Ty}, wrL l = true → ∀ {T : Ty}, T ∈ l → wr T = true := by
  intro l
  induction l with
  | nil => intro _ T h; simp at h
  | cons t l ih =>
    intro h T hT
    simp only [wrL, Bool.and_eq_true] at h
    rcases List.mem_cons.1 hT with rfl | hT
    · exact h.1
    · exact ih h.2 hT
theorem wr_con {n : ByteArray} {ts : List Ty} (hn : n.size ≤ 6) (h : ∀ T ∈ ts, wr T = true) : wr (con n ts) = true := by
  unfold con
  simp [wr, wrL_of h, hn]
end Go.Proofs.Ytljgpgmaceackaa
