/- A page's bytes, as plain words. No statement is proved here. -/
import Derived.Test.YtonjapphhbhcpaaDoorJ15
namespace Go.Proofs.YtonjapphhbhcpaaDoor
open Go.RowKit
set_option maxRecDepth 100000

/-- What follows a page's sum. -/
def restL (number kind : Int) (body : List Int) : List Int := leB 4 number ++ (leB 1 kind ++ (leB 2 (body.length : Int) ++ (body ++ List.replicate (4085 - body.length) 0)))
def okG (number kind : Int) (n : Nat) : Bool := decide (0 ≤ number ∧ number < 65536) && (decide (1 ≤ kind ∧ kind ≤ 255) && decide (n ≤ 4085))
def pageL (number kind : Int) (body : List Int) : List Int := leB 4 (moreP 0 (restL number kind body)) ++ restL number kind body
def makeL (number kind : Int) (body : List Int) : List Int := if okG number kind body.length then pageL number kind body else []
def makeE (number kind : Int) (n : Nat) : Int := if okG number kind n then 0 else 1
theorem restL_len {number kind : Int} {body : List Int} (h : body.length ≤ 4085) : (restL number kind body).length = 4092 := by
  unfold restL
  simp only [List.length_append, leB_len, List.length_replicate]
  omega
theorem pageL_len {number kind : Int} {body : List Int} (h : body.length ≤ 4085) : (pageL number kind body).length = 4096 := by
  unfold pageL
  rw [List.length_append, leB_len, restL_len h]
theorem okG_yes {number kind : Int} {n : Nat} (h : okG number kind n = true) : 0 ≤ number ∧ number < 65536 ∧ 1 ≤ kind ∧ kind ≤ 255 ∧ n ≤ 4085 := by
  unfold okG at h
  simp at h
  omega
theorem okG_no {number kind : Int} {n : Nat} (h : okG number kind n = false) : number < 0 ∨ 65536 ≤ number ∨ kind < 1 ∨ 255 < kind ∨ 4085 < n := by
  unfold okG at h
  simp at h
  omega
theorem leB_byte (k : Nat) (n : Int) : isB (leB k n) := by
  induction k generalizing n with
  | zero => exact fun b hb => by cases hb
  | succ k ih =>
    intro b hb
    rw [leB] at hb
    rcases List.mem_cons.1 hb with rfl | hb
    · omega
    · exact ih _ b hb
theorem isB.append2 {a b : List Int} (ha : isB a) (hb : isB b) : isB (a ++ b) := fun x hx => by
  rcases List.mem_append.1 hx with h | h
  · exact ha x h
  · exact hb x h
theorem isB_zeros (n : Nat) : isB (List.replicate n 0) := fun b hb => by have := List.eq_of_mem_replicate hb; omega
theorem restL_byte {number kind : Int} {body : List Int} (h : isB body) : isB (restL number kind body) := by
  unfold restL
  exact (leB_byte _ _).append2 ((leB_byte _ _).append2 ((leB_byte _ _).append2 (h.append2 (isB_zeros _))))
theorem pageL_byte {number kind : Int} {body : List Int} (h : isB body) : isB (pageL number kind body) := (leB_byte _ _).append2 (restL_byte h)
theorem numL_ok {n : Int} {s : Nat} (h1 : 1 ≤ s) (h8 : s ≤ 8) (h0 : 0 ≤ n) (hn : n < 256 ^ s) : numL n s = leB s n := by
  have hk : okN n s = true := decide_eq_true ⟨by omega, by omega, h0, by rw [Int.toNat_natCast]; exact Int.ediv_eq_zero_of_lt h0 hn⟩
  rw [numL, hk]
  rfl
end Go.Proofs.YtonjapphhbhcpaaDoor
