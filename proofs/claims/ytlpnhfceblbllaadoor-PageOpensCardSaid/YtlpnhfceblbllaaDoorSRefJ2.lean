/- The document's own Join: its contract. No statement is proved here. -/
import Derived.Test.YtlpnhfceblbllaaDoorSRefJ
namespace Go.Proofs.YtlpnhfceblbllaaDoor
open Go.RowKit
set_option maxRecDepth 100000

def okJ (x y n : Int) : Bool := mayB x && (mayB y && decide (0 ≤ n))
def joinP (x y n : Int) : Int := if okJ x y n then ((joinN x.toNat y.toNat n.toNat : Nat) : Int) else 0
def joinE (x y n : Int) : Int := if okJ x y n then 0 else 1
theorem OwnW.then_ {w w' : World} {B : Nat} {v : Value} {l : List Nat} (h : OwnW w B v l) (hb : Below w.heap.size w w') : OwnW w' B v l := row_keep h hb
theorem OwnW.keep {w w' : World} {B : Nat} {v : Value} {l : List Nat} (h : OwnW w B v l) (hb : ∀ g, v.ownBlock = some g → w'.heap[g]? = w.heap[g]?) : OwnW w' B v l := by
  obtain ⟨h1, h2⟩ := h
  refine ⟨h1, ?_⟩
  rcases h2 with h2 | ⟨g, cap, cur, hv, hB, hg, hrest⟩
  · exact .inl h2
  · refine .inr ⟨g, cap, cur, hv, hB, ?_, hrest⟩
    rw [hb g (by rw [hv]; rfl)]
    exact hg
theorem OwnW.block {w : World} {B : Nat} {v : Value} {l : List Nat} (h : OwnW w B v l) : ∀ g, v.ownBlock = some g → B ≤ g ∧ g < w.heap.size := World.ownsRow.lt h
theorem OwnW.nil (w : World) (B : Nat) : OwnW w B (.slice none 0 0) [] := World.ownsRow_nil _ _ _ _
theorem shl_bit {k : Nat} (hk : k < 32) : (2 : Int) ^ k % 4294967296 = ((2 ^ k : Nat) : Int) := by
  have := pow_lt32 hk
  have e : ((2 : Int) ^ k) = ((2 ^ k : Nat) : Int) := by rw [Int.natCast_pow]; rfl
  rw [e]
  generalize 2 ^ k = p at *
  omega
end Go.Proofs.YtlpnhfceblbllaaDoor
