/- The document's own Read: its contract. No statement is proved here. -/
import Derived.Test.YtlpnhfceblbllaaDoorSNum
namespace Go.Proofs.YtlpnhfceblbllaaDoor
open Go.RowKit
set_option maxRecDepth 100000

/-- Bytes from a place on, so many. -/
def cutB (l : List Int) (at_ size : Int) : List Int := (l.drop at_.toNat).take size.toNat
def argR (l : List Int) (at_ size : Int) : Bool := decide (1 ≤ size ∧ size ≤ 8 ∧ 0 ≤ at_ ∧ at_ ≤ l.length)
def lenR (l : List Int) (at_ size : Int) : Bool := decide (size ≤ l.length - at_)
def topR (l : List Int) (at_ size : Int) : Bool := decide (valB (cutB l at_ size) ≤ 9223372036854775807)
def readE (l : List Int) (at_ size : Int) : Int := if argR l at_ size then (if lenR l at_ size then (if topR l at_ size then 0 else 111) else 110) else 1
def readP (l : List Int) (at_ size : Int) : Int := if readE l at_ size = 0 then valB (cutB l at_ size) else 0
/-- The part from index i on. -/
theorem cut_next {l : List Int} {a i s : Nat} {x : Int} (hx : l[a + i]? = some x) (hi : i < s) : (l.drop (a + i)).take (s - i) = x :: (l.drop (a + (i + 1))).take (s - (i + 1)) := by
  have hl := lt_of_get hx
  have e : x = l[a + i] := by rw [List.getElem?_eq_getElem hl] at hx; injection hx with hx; exact hx.symm
  rw [List.drop_eq_getElem_cons hl, show s - i = (s - (i + 1)) + 1 by omega, List.take_succ_cons, e]
  rfl
theorem isB.drop {l : List Int} (h : isB l) (k : Nat) : isB (l.drop k) := fun b hb => h b (List.mem_of_mem_drop hb)
theorem isB.take' {l : List Int} (h : isB l) (k : Nat) : isB (l.take k) := fun b hb => h b (List.mem_of_mem_take hb)
theorem isB.at' {l : List Int} (h : isB l) {k : Nat} {x : Int} (hx : l[k]? = some x) : 0 ≤ x ∧ x ≤ 255 := h x (List.mem_of_getElem? hx)
theorem valB_small {l : List Int} (h : isB l) {m : Nat} (hl : l.length ≤ m) : valB l < 256 ^ m := by
  have := (valB_le h).2
  have h2 : (256 : Int) ^ l.length ≤ 256 ^ m := by
    have := Nat.pow_le_pow_right (n := 256) (by decide) hl
    have e1 : ((256 ^ l.length : Nat) : Int) = 256 ^ l.length := by rw [Int.natCast_pow]; rfl
    have e2 : ((256 ^ m : Nat) : Int) = 256 ^ m := by rw [Int.natCast_pow]; rfl
    rw [← e1, ← e2]
    omega
  omega
/-- Where the number fits, what stands above an index is small. -/
theorem read_small {l : List Int} (h : isB l) {a i s : Nat} (hs : s ≤ 8) (hi : 1 ≤ i) (his : i ≤ s) (hl : a + s ≤ l.length) (ht : valB ((l.drop a).take s) ≤ 9223372036854775807) : 0 ≤ valB ((l.drop (a + i)).take (s - i)) ∧ valB ((l.drop (a + i)).take (s - i)) ≤ 36028797018963967 := by
  have hb : isB ((l.drop (a + i)).take (s - i)) := (h.drop _).take' _
  refine ⟨(valB_le hb).1, ?_⟩
  have e : (l.drop a).take s = (l.drop a).take i ++ (l.drop (a + i)).take (s - i) := by
    have e1 : s = i + (s - i) := by omega
    conv => lhs; rw [e1]
    rw [List.take_add, List.drop_drop]
  rw [e, valB_append, List.length_take, List.length_drop, Nat.min_eq_left (by omega)] at ht
  have h0 := (valB_le ((h.drop a).take' i)).1
  have h1 := (valB_le hb).1
  have hp : (256 : Int) ≤ 256 ^ i := by
    have := Nat.pow_le_pow_right (n := 256) (by decide) hi
    have e1 : ((256 ^ i : Nat) : Int) = 256 ^ i := by rw [Int.natCast_pow]; rfl
    rw [← e1]; omega
  have h2 : 256 * valB ((l.drop (a + i)).take (s - i)) ≤ 256 ^ i * valB ((l.drop (a + i)).take (s - i)) := Int.mul_le_mul_of_nonneg_right hp h1
  omega
theorem top_read {l : List Int} (h : isB l) {a : Nat} {x : Int} (hx : l[a + 7]? = some x) : valB ((l.drop a).take 8) ≤ 9223372036854775807 ↔ x < 128 := by
  have hl := lt_of_get hx
  have hxb := h.at' hx
  have e : (l.drop a).take 8 = (l.drop a).take 7 ++ [x] := by
    rw [List.take_add_one, List.getElem?_drop, hx]; rfl
  have h1 := valB_le ((h.drop a).take' 7)
  rw [e, valB_append, List.length_take, List.length_drop, Nat.min_eq_left (by omega)]
  rw [List.length_take, List.length_drop, Nat.min_eq_left (by omega)] at h1
  simp only [valB]
  have e7 : (256 : Int) ^ 7 = 72057594037927936 := by decide
  rw [e7] at h1 ⊢
  omega
theorem top_free {l : List Int} (h : isB l) {a s : Nat} (hs : s ≤ 7) : valB ((l.drop a).take s) ≤ 9223372036854775807 := by
  have := valB_small ((h.drop a).take' s) (m := 7) (by rw [List.length_take]; omega)
  have e7 : (256 : Int) ^ 7 = 72057594037927936 := by decide
  rw [e7] at this
  omega
end Go.Proofs.YtlpnhfceblbllaaDoor
