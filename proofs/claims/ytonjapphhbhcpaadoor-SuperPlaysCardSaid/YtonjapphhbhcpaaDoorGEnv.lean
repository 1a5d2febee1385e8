/- What layer 12's statements of bytes need of the program: its two calls' contracts, in one; and the document's examples. No statement is proved here. -/
import Derived.Test.YtonjapphhbhcpaaDoorJ1
namespace Go.Proofs.YtonjapphhbhcpaaDoor
open Go.RowKit
set_option maxRecDepth 100000

/-- What Make tells. -/
def MakeTo (number kind : Int) (l : List Int) (w : World) (e : Ending) (w' : World) : Prop := ∃ v, e = .returned (.tuple #[v, .int .i64 (makeE number kind l.length)]) ∧ OwnB w' w.heap.size v (makeL number kind l) ∧ Below w.heap.size w w'
/-- The program's calls answer so, in every world that has grown out of W. -/
structure P12 (W : World) : Prop where
  make : ∀ (number kind : Int) (a : Option Addr) (n c : Nat) (l : List Int) (w : World), Below W.heap.size W w → okInt number → okInt kind → InB w a l → isB l → l.length = n → n ≤ c → c ≤ maxLen → (a = none → c = 0 ∧ l = []) →
    Calls Tryd.prog 32 #[.int .i64 number, .int .i64 kind, .slice a n c] w (MakeTo number kind l w)
  opens : ∀ (number : Int) (a : Option Addr) (n c : Nat) (l : List Int) (w : World), Below W.heap.size W w → okInt number → InB w a l → isB l → l.length = n → n ≤ c → c ≤ maxLen → (a = none → c = 0 ∧ l = []) →
    Calls Tryd.prog 38 #[.slice a n c, .int .i64 number] w (OpenTo l number w)
def exG : List Int := [7, 8]
theorem exG_b : isB exG := isB_of (by decide)
theorem exG_ok : okG 3 2 exG.length = true := by decide
theorem exG_make : makeE 3 2 2 = 0 ∧ makeL 3 2 exG = pageL 3 2 exG := ⟨by decide, by unfold makeL; rw [if_pos exG_ok]⟩
theorem exG_open : openE (pageL 3 2 exG) 3 = 0 ∧ openK (pageL 3 2 exG) 3 = 2 ∧ openL (pageL 3 2 exG) 3 = [7, 8] ∧ openE (pageL 3 2 exG) 4 = 121 := by
  have h := open_made exG_ok exG_b 3
  have h4 := open_made exG_ok exG_b 4
  exact ⟨by rw [h.1]; rfl, h.2.1, h.2.2, by rw [h4.1]; rfl⟩
theorem exG_at : (pageL 3 2 exG)[4]? = some 3 ∧ (pageL 3 2 exG)[11]? = some 7 ∧ (pageL 3 2 exG).length = 4096 := by
  refine ⟨?_, ?_, pageL_len (by decide)⟩
  · unfold pageL; rw [List.getElem?_append_right (by rw [leB_len]; omega), leB_len]; rfl
  · unfold pageL; rw [List.getElem?_append_right (by rw [leB_len]; omega), leB_len]; rfl
theorem exG_nil : openE [] 3 = 122 := by unfold openE; rw [if_neg (by decide)]
theorem exG_byte : isB (pageL 3 2 exG) := pageL_byte exG_b
end Go.Proofs.YtonjapphhbhcpaaDoor
