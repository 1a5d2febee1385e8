/- A rune appended to a row of bytes, by the library's contract. No statement is proved here. -/
import Derived.Test.YtgcbcmhdlgklgaaWPure
import Derived.Test.YtgcbcmhdlgklgaaShelf
namespace Go.Proofs.Ytgcbcmhdlgklgaa
open Go.RowKit Go.Lib
set_option maxRecDepth 100000

theorem apRune_any (B : Nat) (v : Value) (l : List Int) (r : Int) (hr0 : 0 ≤ r) (hr1 : r ≤ 2147483647) (w : World) (h : OwnB w B v l) (hl : l.length + 4 ≤ 140737488355328) (hB : B ≤ w.heap.size) :
    Calls Try.prog 28 #[v, .int .i32 r] w fun e w' => ∃ v', e = .returned v' ∧ OwnB w' B v' (l ++ encodeRuneZ r) ∧ ∃ o, (w.alloc o).grownBy w' v.ownBlock := by
  refine (Any.utf8_AppendRune_plain Try.laysAppend info_byte B v l.length (btV l) r (by omega) hr1 w h hl hB).mono ?_
  rintro e w' ⟨v', rfl, h1, h2⟩
  refine ⟨v', rfl, ?_, h2⟩
  unfold OwnB
  have e1 : runeCells r = btV (encodeRuneZ r) := rfl
  rw [List.length_append, btV_append, ← e1]
  have e2 : (encodeRuneZ r).length = (runeCells r).length := by rw [e1, btV_len]
  rw [e2]
  exact h1
end Go.Proofs.Ytgcbcmhdlgklgaa
