/- What layer 11's statements need of the program: its five calls' contracts, in one; and the document's examples. The laws SumAdds and SumJoins over the contracts. The law SumNumbers over the contracts. No statement is proved here. -/
import Derived.Test.YtophhnolnlbecaaDoorQ5
import Derived.Test.YtophhnolnlbecaaDoorQ4
import Derived.Test.YtophhnolnlbecaaDoorQ6
import Derived.Lib.SlBytesConst
namespace Go.Proofs.YtophhnolnlbecaaDoor
open Go.RowKit
set_option maxRecDepth 100000

theorem InB.lit (w : World) (bs : List Int) : InB (w.alloc (.cells (btV bs).toArray 5)) (some ⟨w.heap.size, 0, none⟩) bs := fun i x hx => by
  refine ⟨w.heap.size, 0, rfl, ?_⟩
  have h := news_at w (btV bs).toArray 5 _ rfl i (.int .u8 x) (by simp [btV, hx])
  rw [show (⟨w.heap.size, 0, none⟩ : Addr).add i = ⟨w.heap.size, 0 + i, none⟩ by unfold Addr.add; split <;> simp_all] at h
  exact h
theorem InB.litF (w : World) (bs : List Int) (fr : Nat × Nat) : InB (w.alloc (.cells (btV bs).toArray 5 fr)) (some ⟨w.heap.size, 0, none⟩) bs := fun i x hx => by
  refine ⟨w.heap.size, 0, rfl, ?_⟩
  rw [World.cell?_alloc_mark]
  simp [btV, hx]
def exA : List Int := [49, 50, 51, 52, 53, 54, 55, 56, 57]
def exB : List Int := [49, 50, 51, 52]
def exC : List Int := [53, 54, 55, 56, 57]
theorem exA_is : moreP 0 exA = 3421780262 := by kernel_rfl
theorem exJ_is : joinP (moreP 0 exB) (moreP 0 exC) 5 = 3421780262 := by kernel_rfl
theorem exE_is : joinE (moreP 0 exB) (moreP 0 exC) 5 = 0 := by kernel_rfl
theorem moreP_rng {s : Int} {l : List Int} (h : isB l) : 0 ≤ moreP s l ∧ moreP s l ≤ 4294967295 := by
  unfold moreP
  cases hm : mayB s
  · exact ⟨by simp, by simp⟩
  · have hs : 0 ≤ s ∧ s ≤ 4294967295 := of_decide_eq_true hm
    have := moreN_lt (s := s.toNat) (natL l) (by omega) (natL_byte h)
    simp
    omega
theorem moreP_ok {s : Int} {l : List Int} (h : isB l) : okInt (moreP s l) := by
  have := moreP_rng (s := s) h
  unfold okInt
  omega
theorem isB_of {l : List Int} (h : l.all (fun b => decide (0 ≤ b ∧ b ≤ 255)) = true) : isB l := fun b hb => by
  have := List.all_eq_true.1 h b hb
  exact of_decide_eq_true this
theorem exA_b : isB exA := isB_of (by decide)
theorem exB_b : isB exB := isB_of (by decide)
theorem exC_b : isB exC := isB_of (by decide)
def exD : List Int := [2, 1, 7]
theorem exD_b : isB exD := isB_of (by decide)
theorem num_ok : numL 258 2 = [2, 1] ∧ numE 258 2 = 0 ∧ numE 258 1 = 1 ∧ readP exD 0 2 = 258 ∧ readE exD 0 2 = 0 := by decide
end Go.Proofs.YtophhnolnlbecaaDoor
namespace Go.Proofs.YtophhnolnlbecaaDoor
open Go.RowKit
set_option maxRecDepth 100000

theorem InB.lowB {w : World} {a : Option Addr} {l : List Int} (h : InB w a l) : ∀ b o, a = some (⟨b, o, none⟩ : Addr) → 1 ≤ l.length → b < w.heap.size := by
  intro b o e hl
  obtain ⟨b', o', x, e', -, hc⟩ := h.one (i := 0) (by omega)
  rw [e] at e'
  injection e' with e'
  injection e' with e1 e2
  subst e1
  exact cell_lt hc
end Go.Proofs.YtophhnolnlbecaaDoor
namespace Go.Proofs.YtophhnolnlbecaaDoor
open Go.RowKit
set_option maxRecDepth 100000

theorem rows_two {w : World} {B : Nat} {v1 v2 : Value} {l1 l2 : List Int} (h1 : OwnB w B v1 l1) (h2 : OwnB w B v2 l2) (hd : ∀ g, v1.ownBlock = some g → v2.ownBlock ≠ some g) (t : TypeId) : RowsAt (w.alloc (.cells #[v1, v2] t)) B w.heap.size 0 [(v1, l1), (v2, l2)] := by
  have new : ∀ (i : Nat) (u : Value), [v1, v2][i]? = some u → (w.alloc (.cells #[v1, v2] t)).cell? ⟨w.heap.size, 0 + i, none⟩ = some u := fun i u hu => by
    have h := news_at w #[v1, v2] t _ rfl i u hu
    rw [show (⟨w.heap.size, 0, none⟩ : Addr).add i = ⟨w.heap.size, 0 + i, none⟩ by unfold Addr.add; split <;> simp_all] at h
    exact h
  have two : ∀ (i : Nat) (v : Value) (l : List Int), [(v1, l1), (v2, l2)][i]? = some (v, l) → (i = 0 ∧ v = v1 ∧ l = l1) ∨ (i = 1 ∧ v = v2 ∧ l = l2) := fun i v l hi => by
    have := lt_of_get hi
    simp at this
    rcases (by omega : i = 0 ∨ i = 1) with rfl | rfl
    · left; injection hi with hi; injection hi with e1 e2; exact ⟨rfl, e1.symm, e2.symm⟩
    · right; injection hi with hi; injection hi with e1 e2; exact ⟨rfl, e1.symm, e2.symm⟩
  refine ⟨fun i v l hi => ?_, fun i v l hi => ?_, fun i v l hi e => ?_, fun i j v l v' l' hi hj hij g hg hg' => ?_⟩
  · rcases two i v l hi with ⟨rfl, rfl, rfl⟩ | ⟨rfl, rfl, rfl⟩
    · exact new 0 _ rfl
    · exact new 1 _ rfl
  · rcases two i v l hi with ⟨rfl, rfl, rfl⟩ | ⟨rfl, rfl, rfl⟩
    · exact h1.alloc _
    · exact h2.alloc _
  · rcases two i v l hi with ⟨rfl, rfl, rfl⟩ | ⟨rfl, rfl, rfl⟩
    · have := (h1.block _ e).2; omega
    · have := (h2.block _ e).2; omega
  · rcases two i v l hi with ⟨rfl, rfl, rfl⟩ | ⟨rfl, rfl, rfl⟩ <;> rcases two j v' l' hj with ⟨rfl, rfl, rfl⟩ | ⟨rfl, rfl, rfl⟩
    · omega
    · exact hd g hg hg'
    · exact hd g hg' hg
    · omega
theorem numL_len (n size : Int) : (numL n size).length ≤ 8 := by
  unfold numL
  cases h : okN n size
  · simp
  · have := of_decide_eq_true h
    simp [leB_len]
    omega
theorem OwnB.isNil {w : World} {B n c : Nat} {a : Option Addr} {l : List Int} (h : OwnB w B (.slice a n c) l) : a = none → l = [] := fun e => by
  obtain ⟨a', c', e', -, h0, -⟩ := h.shape
  injection e' with e1
  subst e1
  exact (h0 e).2
end Go.Proofs.YtophhnolnlbecaaDoor
