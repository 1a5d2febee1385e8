/- A map from numbers to rows of bytes, as a call's own: which row stands at each number. No statement is proved here. -/
import Derived.Test.YtlpnhfceblbllaaDoorY
import Derived.Test.YtlpnhfceblbllaaDoorDPure
import Derived.Maps.OwnSet
import Derived.Maps.OwnOps
import Derived.Maps.RangeWalk
import Derived.Maps.Views
namespace Go.Proofs.YtlpnhfceblbllaaDoor
open Go.RowKit
open Go.Maps (Keyed IsMap Tidy)
set_option maxRecDepth 100000

/-- What a row of bytes is known by in such a map. -/
def encS (g n c : Nat) : DataW Unit := .agg [.lit (.int .i64 (g : Int)), .lit (.int .i64 (n : Int)), .lit (.int .i64 (c : Int))]
def RowR (v : Value) : Option (DataW Unit × List MemPlace) :=
  match v with
  | .slice none 0 0 => some (.nil, [])
  | .slice (some ⟨g, 0, none⟩) n c => some (encS g n c, [])
  | _ => none
theorem rowR_nil : RowR (.slice none 0 0) = some (.nil, []) := rfl
theorem rowR_mk (g n c : Nat) : RowR (.slice (some ⟨g, 0, none⟩) n c) = some (encS g n c, []) := by unfold RowR; rfl
theorem encS_inj {g n c g' n' c' : Nat} (h : encS g n c = encS g' n' c') : g = g' ∧ n = n' ∧ c = c' := by
  unfold encS at h
  injection h with h
  injection h with h1 h
  injection h with h2 h
  injection h with h3 h
  injection h1 with h1; injection h1 with _ h1
  injection h2 with h2; injection h2 with _ h2
  injection h3 with h3; injection h3 with _ h3
  omega
theorem rowR_inv {v : Value} {y : DataW Unit × List MemPlace} (h : RowR v = some y) : (v = .slice none 0 0 ∧ y = (.nil, [])) ∨ ∃ g n c, v = .slice (some ⟨g, 0, none⟩) n c ∧ y = (encS g n c, []) := by
  unfold RowR at h
  split at h
  · injection h with h; exact .inl ⟨rfl, h.symm⟩
  · rename_i g n c
    injection h with h; exact .inr ⟨g, n, c, rfl, h.symm⟩
  · cases h
theorem rowR_at {v : Value} {g n c : Nat} {ps : List MemPlace} (h : RowR v = some (encS g n c, ps)) : v = .slice (some ⟨g, 0, none⟩) n c := by
  rcases rowR_inv h with ⟨-, e⟩ | ⟨g', n', c', rfl, e⟩
  · unfold encS at e; injection e with e; cases e
  · injection e with e
    obtain ⟨rfl, rfl, rfl⟩ := encS_inj e
    rfl
theorem rowR_none {v : Value} {ps : List MemPlace} (h : RowR v = some (.nil, ps)) : v = .slice none 0 0 := by
  rcases rowR_inv h with ⟨e, -⟩ | ⟨g', n', c', rfl, e⟩
  · exact e
  · unfold encS at e; injection e with e; cases e
theorem keyK : Keyed Tryd.prog 3 := Maps.int_keyed Tryd.underlying3
theorem key_wf {k : Int} (h : okInt k) : (Lit.int .i64 k).wf = true := by
  unfold okInt at h
  simp [Lit.wf, IntKind.min, IntKind.max, IntKind.signed, IntKind.bits]
  omega
theorem key_at {k : Int} (h : okInt k) : keyOf Tryd.prog 3 (.int .i64 k) = some (.int .i64 k) := Maps.keyOf_int_mk Tryd.underlying3 (key_wf h)
theorem key_lit (k : Int) : WideAt.IsKeyLit (.int .i64 k) := trivial
/-- A row of bytes of a call's own, that is not empty. -/
def RowAt (w : World) (B : Nat) (v : Value) (r : List Int) : Prop := OwnB w B v r ∧ 1 ≤ r.length
theorem RowAt.form {w : World} {B : Nat} {v : Value} {r : List Int} (h : RowAt w B v r) : ∃ g c, v = .slice (some ⟨g, 0, none⟩) r.length c ∧ B ≤ g ∧ g < w.heap.size := by
  obtain ⟨⟨h1, h2⟩, h3⟩ := h
  rcases h2 with ⟨hv, hz⟩ | ⟨g, cap, cur, hv, hb, hg, hrest⟩
  · omega
  · exact ⟨g, cap, hv, hb, lt_of_block hg⟩
/-- A map's entries as rows: the row at each place, or none. -/
structure MapIs (w : World) (B : Nat) (D : DataW Unit) (f : Secs) : Prop where
  tidy : Tidy D
  keys : ∀ k : Int, Maps.has D (.int .i64 k) = true → 0 ≤ k
  rows : ∀ (k : Nat) (r : List Int), f k = some r → ∃ v g n c, RowAt w B v r ∧ v = .slice (some ⟨g, 0, none⟩) n c ∧ ∀ z, D.atKey (.int .i64 (k : Int)) z = encS g n c
  none_ : ∀ k : Nat, f k = none → Maps.has D (.int .i64 (k : Int)) = false
theorem MapIs.start (w : World) (B : Nat) : MapIs w B (.map []) noSecs := ⟨Maps.tidy_empty, fun k h => absurd (show false = true from h) (by simp), fun k r h => (by cases h), fun k _ => rfl⟩
theorem MapIs.keep {w w' : World} {B : Nat} {D : DataW Unit} {f : Secs} (h : MapIs w B D f) (hk : ∀ v r, RowAt w B v r → RowAt w' B v r) : MapIs w' B D f :=
  ⟨h.tidy, h.keys, fun k r e => by obtain ⟨v, g, n, c, h1, h2⟩ := h.rows k r e; exact ⟨v, g, n, c, hk v r h1, h2⟩, h.none_⟩
theorem lit_ne {a b : Int} (h : a ≠ b) : Lit.int .i64 a ≠ Lit.int .i64 b := fun e => h (by injection e)
theorem MapIs.put {w : World} {B : Nat} {D : DataW Unit} {f : Secs} (h : MapIs w B D f) (k : Nat) {v : Value} {r : List Int} (hr : RowAt w B v r) {g n c : Nat} (hv : v = .slice (some ⟨g, 0, none⟩) n c) : MapIs w B (D.put (.int .i64 (k : Int)) (encS g n c)) (upd f k r) := by
  refine ⟨h.tidy.put (key_lit _) _, fun j hj => ?_, fun j x e => ?_, fun j e => ?_⟩
  · by_cases e : j = (k : Int)
    · omega
    · rw [Maps.has_put_other (lit_ne e)] at hj; exact h.keys j hj
  · by_cases ej : j = k
    · subst ej
      rw [upd_same] at e
      injection e with e
      subst e
      exact ⟨v, g, n, c, hr, hv, fun z => Maps.atKey_put_same h.tidy.isMap (key_lit _) _ _⟩
    · rw [upd_other _ _ ej] at e
      obtain ⟨v', g', n', c', h1, h2, h3⟩ := h.rows j x e
      exact ⟨v', g', n', c', h1, h2, fun z => by rw [Maps.atKey_put_other (lit_ne (by omega))]; exact h3 z⟩
  · by_cases ej : j = k
    · subst ej; rw [upd_same] at e; cases e
    · rw [upd_other _ _ ej] at e
      rw [Maps.has_put_other (lit_ne (by omega))]
      exact h.none_ j e
/-- What a look-up gives. -/
theorem MapIs.look {w : World} {B : Nat} {D : DataW Unit} {f : Secs} (h : MapIs w B D f) (k : Nat) {v : Value} {ps : List MemPlace} (hv : RowR v = some (D.atKey (.int .i64 (k : Int)) .nil, ps)) : (f k = none ∧ v = .slice none 0 0) ∨ ∃ r, f k = some r ∧ RowAt w B v r := by
  cases e : f k with
  | none =>
    rw [Maps.atKey_of_not_has (h.none_ k e)] at hv
    exact .inl ⟨rfl, rowR_none hv⟩
  | some r =>
    obtain ⟨v', g, n, c, h1, h2, h3⟩ := h.rows k r e
    rw [h3] at hv
    have := rowR_at hv
    subst h2
    subst this
    exact .inr ⟨r, rfl, h1⟩
end Go.Proofs.YtlpnhfceblbllaaDoor
