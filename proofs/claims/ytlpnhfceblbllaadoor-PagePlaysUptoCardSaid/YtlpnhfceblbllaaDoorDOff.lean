/- A disk whose rows lie off a block: that block may turn. No statement is proved here. -/
import Derived.Test.YtlpnhfceblbllaaDoorJ3
namespace Go.Proofs.YtlpnhfceblbllaaDoor
open Go.RowKit
set_option maxRecDepth 100000

theorem MapIs.rebase {w w' : World} {B B' : Base} {D : DataW Unit} {f : Secs} (h : MapIs w B D f) (hk : ∀ v r, RowAt w B v r → RowAt w' B' v r) : MapIs w' B' D f :=
  ⟨h.tidy, h.keys, fun k r e => by obtain ⟨v, g, n, c, h1, h2⟩ := h.rows k r e; exact ⟨v, g, n, c, hk v r h1, h2⟩, h.none_⟩
section
variable {w w' : World} {B : Base} {g N : Nat} {d : Dk}
/-- A block that there is not yet: all rows lie off it. -/
theorem BoxAt.off (h : BoxAt w B g d N) (x : Option Nat) (hx : ∀ y, x = some y → w.heap.size ≤ y) : BoxAt w ⟨B.lo, x⟩ g d N := by
  obtain ⟨k, s, h⟩ := h
  have hr : ∀ v r, RowAt w B v r → RowAt w ⟨B.lo, x⟩ v r := fun v r hr => ⟨hr.1, hr.2.1, fun b hb e => by
    have h1 := (hr.block b hb).choose_spec.2.2
    have h2 := hx b e
    omega⟩
  exact ⟨k, s, { box := h.box, gB := h.gB, sB := h.sB, nB := h.nB, ne := h.ne, mapS := h.mapS, mapN := h.mapN, isS := h.isS.rebase hr, isN := h.isN.rebase hr, wlen := h.wlen, wait := h.wait, rows := fun i p v a b => hr v p.2 (h.rows i p v a b), numS := h.numS, numN := h.numN, many := h.many, acts := h.acts }⟩
/-- Such a block turned. -/
theorem BoxAt.only {y : Nat} (h : BoxAt w ⟨B.lo, some y⟩ g d N) (ho : ∀ k, k < w.heap.size → k ≠ y → w'.heap[k]? = w.heap[k]?) (hy : ∃ cur, w.heap[y]? = some (.cells cur 5)) : BoxAt w' ⟨B.lo, none⟩ g d N := by
  obtain ⟨k, s, h⟩ := h
  obtain ⟨cy, hy⟩ := hy
  have hr : ∀ v r, RowAt w ⟨B.lo, some y⟩ v r → RowAt w' ⟨B.lo, none⟩ v r := fun v r hr => by
    have h1 := hr.keep (w' := w') fun b hb => ho b (hr.block b hb).choose_spec.2.2 (fun e => hr.2.2 b hb (by rw [e]))
    exact ⟨h1.1, h1.2.1, fun b hb e => by cases e⟩
  have ng : g ≠ y := by
    rintro rfl
    have e := h.box
    rw [hy] at e
    injection e with e
    injection e with _ e
    exact box_not_byte e.symm
  have ns : s.sb ≠ y := by
    rintro rfl
    obtain ⟨es, c, e⟩ := h.sbObj
    rw [hy] at e
    injection e with e
    cases e
  have nn : s.nb ≠ y := by
    rintro rfl
    obtain ⟨es, c, e⟩ := h.nbObj
    rw [hy] at e
    injection e with e
    cases e
  have nw : ∀ b, s.wv.ownBlock = some b → b ≠ y := by
    rintro b hb rfl
    obtain ⟨cur, e, -⟩ := h.wvObj b hb
    rw [hy] at e
    injection e with e
    injection e with _ e
    exact write_not_byte e.symm
  exact ⟨k, s, { box := (ho g h.lt ng).trans h.box, gB := h.gB, sB := h.sB, nB := h.nB, ne := h.ne, mapS := owns_keep h.mapS (ho _ h.sbLt ns), mapN := owns_keep h.mapN (ho _ h.nbLt nn), isS := h.isS.rebase hr, isN := h.isN.rebase hr, wlen := h.wlen, wait := row_keepW h.wait fun b hb => ho b (h.wvObj b hb).choose_spec.2.2 (nw b hb), rows := fun i p v a b => hr v p.2 (h.rows i p v a b), numS := h.numS, numN := h.numN, many := h.many, acts := h.acts }⟩
end
end Go.Proofs.YtlpnhfceblbllaaDoor
