/- The law SumParts over the contracts. No statement is proved here. -/
import Derived.Test.YtlpnhfceblbllaaDoorSLaw2
namespace Go.Proofs.YtlpnhfceblbllaaDoor
open Go.RowKit
set_option maxRecDepth 100000

theorem moreP_is (l : List Int) : moreP 0 l = ((moreN 0 (natL l) : Nat) : Int) := rfl
theorem moreP_may {l : List Int} (h : isB l) : mayB (moreP 0 l) = true := decide_eq_true (moreP_rng h)
theorem moreP_app {a b : List Int} (ha : isB a) : moreP (moreP 0 a) b = moreP 0 (a ++ b) ∧ moreE (moreP 0 a) = 0 := by
  constructor
  · have h := moreP_may ha
    rw [moreP_is] at h ⊢
    rw [moreP_is, natL_append, moreN_append]
    generalize moreN 0 (natL a) = A at *
    unfold moreP
    rw [h, if_pos rfl, Int.toNat_natCast]
  · unfold moreE
    rw [moreP_may ha]; rfl
theorem joinP_app {a b : List Int} (ha : isB a) (hb : isB b) {n : Nat} (hn : b.length = n) : joinP (moreP 0 a) (moreP 0 b) n = moreP 0 (a ++ b) ∧ joinE (moreP 0 a) (moreP 0 b) n = 0 := by
  have hk : okJ (moreP 0 a) (moreP 0 b) n = true := by
    unfold okJ
    rw [moreP_may ha, moreP_may hb]
    simp
  constructor
  · unfold joinP
    rw [hk, if_pos rfl, moreP_is, moreP_is, moreP_is, Int.toNat_natCast, Int.toNat_natCast, Int.toNat_natCast, natL_append, moreN_join, natL_len, hn]
  · unfold joinE
    rw [hk]; rfl
end Go.Proofs.YtlpnhfceblbllaaDoor
