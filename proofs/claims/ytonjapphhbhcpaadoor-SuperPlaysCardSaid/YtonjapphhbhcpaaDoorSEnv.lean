/- What layer 11's statements need of the program: its five calls' contracts, in one; and the document's examples. No statement is proved here. -/
import Derived.Test.YtonjapphhbhcpaaDoorJ2
import Derived.Test.YtonjapphhbhcpaaDoorJ20
import Derived.Lib.SlBytesConst
namespace Go.Proofs.YtonjapphhbhcpaaDoor
open Go.RowKit
set_option maxRecDepth 100000

theorem InB.lit (w : World) (bs : List Int) : InB (w.alloc (.cells (btV bs).toArray 5)) (some ⟨w.heap.size, 0, none⟩) bs := fun i x hx => by
  refine ⟨w.heap.size, 0, rfl, ?_⟩
  have h := news_at w (btV bs).toArray 5 _ rfl i (.int .u8 x) (by simp [btV, hx])
  rw [show (⟨w.heap.size, 0, none⟩ : Addr).add i = ⟨w.heap.size, 0 + i, none⟩ by unfold Addr.add; split <;> simp_all] at h
  exact h
theorem InB.litF (w : World) (bs : List Int) (fr : Nat × Nat) : InB (w.alloc (.cells (btV bs).toArray 5 fr)) (some ⟨w.heap.size, 0, none⟩) bs := fun i x hx => by
  refine ⟨w.heap.size, 0, rfl, ?_⟩
  rw [World.cell?_alloc_mark]
  simp [btV, hx]
def exA : List Int := [49, 50, 51, 52, 53, 54, 55, 56, 57]
def exB : List Int := [49, 50, 51, 52]
def exC : List Int := [53, 54, 55, 56, 57]
theorem exA_is : moreP 0 exA = 3421780262 := by kernel_rfl
theorem exJ_is : joinP (moreP 0 exB) (moreP 0 exC) 5 = 3421780262 := by kernel_rfl
theorem exE_is : joinE (moreP 0 exB) (moreP 0 exC) 5 = 0 := by kernel_rfl
theorem moreP_rng {s : Int} {l : List Int} (h : isB l) : 0 ≤ moreP s l ∧ moreP s l ≤ 4294967295 := by
  unfold moreP
  cases hm : mayB s
  · exact ⟨by simp, by simp⟩
  · have hs : 0 ≤ s ∧ s ≤ 4294967295 := of_decide_eq_true hm
    have := moreN_lt (s := s.toNat) (natL l) (by omega) (natL_byte h)
    simp
    omega
theorem moreP_ok {s : Int} {l : List Int} (h : isB l) : okInt (moreP s l) := by
  have := moreP_rng (s := s) h
  unfold okInt
  omega
theorem isB_of {l : List Int} (h : l.all (fun b => decide (0 ≤ b ∧ b ≤ 255)) = true) : isB l := fun b hb => by
  have := List.all_eq_true.1 h b hb
  exact of_decide_eq_true this
theorem exA_b : isB exA := isB_of (by decide)
theorem exB_b : isB exB := isB_of (by decide)
theorem exC_b : isB exC := isB_of (by decide)
def exD : List Int := [2, 1, 7]
theorem exD_b : isB exD := isB_of (by decide)
theorem num_ok : numL 258 2 = [2, 1] ∧ numE 258 2 = 0 ∧ numE 258 1 = 1 ∧ readP exD 0 2 = 258 ∧ readE exD 0 2 = 0 := by decide
end Go.Proofs.YtonjapphhbhcpaaDoor
