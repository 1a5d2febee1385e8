/- The law SumTells over the contracts. No statement is proved here. -/
import Derived.Test.YtlpnhfceblbllaaDoorSLaw4
namespace Go.Proofs.YtlpnhfceblbllaaDoor
open Go.RowKit
set_option maxRecDepth 100000

theorem natL_inj : ∀ {a b : List Int}, isB a → isB b → natL a = natL b → a = b
  | [], [], _, _, _ => rfl
  | [], _ :: _, _, _, h => by simp [natL] at h
  | _ :: _, [], _, _, h => by simp [natL] at h
  | x :: a, y :: b, ha, hb, h => by
    simp only [natL, List.map_cons, List.cons.injEq] at h
    have h1 := ha x (by simp)
    have h2 := hb y (by simp)
    rw [show x = y by omega, natL_inj (fun z hz => ha z (by simp [hz])) (fun z hz => hb z (by simp [hz])) h.2]
theorem tells_is {a d e c : List Int} (hd : isB d) (he : isB e) (hl : d.length = e.length) (h4 : d.length ≤ 4) : (moreP 0 (a ++ (d ++ c)) = moreP 0 (a ++ (e ++ c))) ↔ d = e := by
  rw [moreP_is, moreP_is, natL_append, natL_append, natL_append, natL_append]
  have h := moreN_tells (natL a) (natL d) (natL e) (natL c) (by rw [natL_len, natL_len, hl]) (by rw [natL_len]; exact h4) (natL_byte hd) (natL_byte he)
  constructor
  · intro q
    exact natL_inj hd he (h.1 (by omega))
  · rintro rfl; rfl
theorem xor_byte {z y : Int} (hz : 0 ≤ z ∧ z ≤ 255) (hy : 0 ≤ y ∧ y ≤ 255) : (0 ≤ bits .xor .u8 z y ∧ bits .xor .u8 z y ≤ 255) ∧ (bits .xor .u8 z y = z ↔ y = 0) := by
  have e := u8_xor z y (by omega) (by omega) (by omega) (by omega)
  have hl := Nat.xor_lt_two_pow (n := 8) (show z.toNat < 2 ^ 8 by omega) (show y.toNat < 2 ^ 8 by omega)
  rw [e]
  refine ⟨by omega, fun h => ?_, fun h => ?_⟩
  · have h1 : z.toNat ^^^ y.toNat = z.toNat := by omega
    have h2 := congrArg (z.toNat ^^^ ·) h1
    simp only [xor_self_left, Nat.xor_self] at h2
    omega
  · subst h
    simp
    omega
/-- The part that was turned so far. -/
structure Turned (la : List Int) (k i : Nat) (d : List Int) (same : Bool) : Prop where
  len : d.length = i
  byte : isB d
  same_ : same = decide (d = (la.drop k).take i)
  fits : k + i ≤ la.length
theorem Turned.next {la : List Int} {k i : Nat} {d : List Int} {same : Bool} (h : Turned la k i d same) {z y : Int} (hz : la[k + i]? = some z) (hzb : 0 ≤ z ∧ z ≤ 255) (hy : 0 ≤ y ∧ y ≤ 255) :
    Turned la k (i + 1) (d ++ [bits .xor .u8 z y]) (same && decide (y = 0)) ∧ (la.take k ++ (d ++ la.drop (k + i))).set (k + i) (bits .xor .u8 z y) = la.take k ++ ((d ++ [bits .xor .u8 z y]) ++ la.drop (k + (i + 1))) ∧ (la.take k ++ (d ++ la.drop (k + i)))[k + i]? = some z := by
  have hi := lt_of_get hz
  have hx := xor_byte hzb hy
  have e1 : (la.drop k).take (i + 1) = (la.drop k).take i ++ [z] := by rw [List.take_add_one, List.getElem?_drop, hz]; rfl
  have hg : la[k + i] = z := by rw [List.getElem?_eq_getElem hi] at hz; injection hz
  have e2 : la.drop (k + i) = z :: la.drop (k + (i + 1)) := by rw [List.drop_eq_getElem_cons hi, hg]; rfl
  have hlt : (la.take k).length = k := by rw [List.length_take]; have := h.fits; omega
  refine ⟨⟨by rw [List.length_append, h.len]; rfl, h.byte.append (fun q hq => by simp at hq; subst hq; exact hx.1), ?_, by omega⟩, ?_, ?_⟩
  · rw [h.same_, e1, Bool.eq_iff_iff, Bool.and_eq_true, decide_eq_true_eq, decide_eq_true_eq, decide_eq_true_eq, ← hx.2]
    constructor
    · rintro ⟨h1, h2⟩; rw [← h1, h2]
    · intro h1
      have := List.append_inj h1 (by rw [h.len, List.length_take, List.length_drop]; omega)
      exact ⟨this.1, by have := this.2; injection this⟩
  · rw [List.set_append_right _ _ (by omega), hlt, List.set_append_right _ _ (by rw [h.len]; omega), h.len, e2, show k + i - k - i = 0 by omega, List.set_cons_zero]
    simp
  · rw [List.getElem?_append_right (by omega), hlt, List.getElem?_append_right (by rw [h.len]; omega), h.len, e2, show k + i - k - i = 0 by omega]
    rfl
theorem turned_end {l : List Int} {K i : Nat} {d : List Int} {b : Bool} (h : Turned l K i d b) (hB : isB l) (h4 : i ≤ 4) : (moreP 0 l == moreP 0 (l.take K ++ (d ++ l.drop (K + i)))) = b := by
  have hl : l = l.take K ++ ((l.drop K).take i ++ l.drop (K + i)) := by
    rw [show l.drop (K + i) = (l.drop K).drop i by rw [List.drop_drop], List.take_append_drop, List.take_append_drop]
  have he : d.length = ((l.drop K).take i).length := by rw [h.len, List.length_take, List.length_drop]; have := h.fits; omega
  have ht := tells_is (a := l.take K) (c := l.drop (K + i)) h.byte ((hB.drop K).take' i) he (by rw [h.len]; exact h4)
  rw [← hl] at ht
  rw [h.same_, Bool.eq_iff_iff, beq_iff_eq, decide_eq_true_eq, ← ht]
  exact eq_comm
end Go.Proofs.YtlpnhfceblbllaaDoor
