/- The document's own Join where it joins: its contract. No statement is proved here. -/
import Derived.Test.YtlpnhfceblbllaaDoorSRefJ2
namespace Go.Proofs.YtlpnhfceblbllaaDoor
open Go.RowKit
set_option maxRecDepth 100000

theorem rowN_snoc (n : Nat) {k : Nat} (hk : k < 32) : (rowN n).take (k + 1) = (rowN n).take k ++ [t8N n (2 ^ k)] := by
  rw [List.take_add_one, rowN_get n hk]; rfl
theorem take32 (n : Nat) : (rowN n).take 32 = rowN n := List.take_of_length_le (by rw [rowN_len]; omega)
theorem rowN_word (n : Nat) {k : Nat} (hk : k < 32) : t8N n (2 ^ k) < 4294967296 := t8N_lt n (pow_lt32 hk)
theorem OwnW.form {w : World} {B : Nat} {v : Value} {l : List Nat} (h : OwnW w B v l) (hl : 1 ≤ l.length) : ∃ g c, v = .slice (some ⟨g, 0, none⟩) l.length c ∧ B ≤ g ∧ g < w.heap.size ∧ ∀ i x, l[i]? = some x → w.cell? ⟨g, i, none⟩ = some (.int .u32 (x : Nat)) := by
  have h0 := h
  obtain ⟨h1, h2⟩ := h
  rcases h2 with ⟨hv, hz⟩ | ⟨g, cap, cur, hv, hb, hg, hle, hcm, hrest⟩
  · omega
  · subst hv
    refine ⟨g, cap, rfl, hb, (h0.block g rfl).2, fun i x hx => ?_⟩
    have hi := lt_of_get hx
    rw [World.ownsRow.cellAt h0 i (by omega), wdV, List.getElem?_map, hx]
    rfl
theorem OwnW.base {w : World} {B B' : Nat} {v : Value} {l : List Nat} (h : OwnW w B v l) (hB : B' ≤ B) : OwnW w B' v l := by
  obtain ⟨h1, h2⟩ := h
  refine ⟨h1, ?_⟩
  rcases h2 with h2 | ⟨g, cap, cur, hv, hb, hrest⟩
  · exact .inl h2
  · exact .inr ⟨g, cap, cur, hv, by omega, hrest⟩
theorem xorW (a b : Nat) (ha : a < 4294967296) (hb : b < 4294967296) : wrap64 (bits .xor .u32 (a : Int) (b : Int)) = ((a ^^^ b : Nat) : Int) := by
  have := Nat.xor_lt_two_pow (n := 32) ha hb
  rw [xor32 a b ha hb]
  generalize a ^^^ b = c at *
  simp only [wrap64]
  omega
theorem rowN_sq {n k : Nat} (hk : k < 32) : timesN (rowN n) (t8N n (2 ^ k)) = t8N (n + n) (2 ^ k) := by rw [rowN_times n (rowN_word n hk), t8N_add]
end Go.Proofs.YtlpnhfceblbllaaDoor
