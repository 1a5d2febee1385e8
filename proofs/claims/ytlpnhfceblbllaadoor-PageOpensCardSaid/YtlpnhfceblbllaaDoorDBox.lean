/- A disk of package block as it lies: the relation. No statement is proved here. -/
import Derived.Test.YtlpnhfceblbllaaDoorDMap
namespace Go.Proofs.YtlpnhfceblbllaaDoor
open Go.RowKit
open Go.Maps (Keyed IsMap Tidy)
set_option maxRecDepth 100000

/-- The cells of the writes that wait. -/
def waitC : List (Nat × List Int) → List Value → List Value
  | p :: l, v :: vs => .int .i64 (p.1 : Int) :: v :: waitC l vs
  | _, _ => []
theorem waitC_len : ∀ (l : List (Nat × List Int)) (vs : List Value), vs.length = l.length → (waitC l vs).length = 2 * l.length
  | [], _, _ => rfl
  | _ :: l, [], h => by cases h
  | p :: l, v :: vs, h => by
    rw [waitC, List.length_cons, List.length_cons, waitC_len l vs (by simpa using h), List.length_cons]; omega
theorem waitC_snoc : ∀ (l : List (Nat × List Int)) (vs : List Value), vs.length = l.length → ∀ (p : Nat × List Int) (v : Value), waitC (l ++ [p]) (vs ++ [v]) = waitC l vs ++ [.int .i64 (p.1 : Int), v]
  | [], [], _, _, _ => rfl
  | [], _ :: _, h, _, _ => by cases h
  | _ :: _, [], h, _, _ => by cases h
  | q :: l, u :: vs, h, p, v => by
    rw [List.cons_append, List.cons_append, waitC, waitC, waitC_snoc l vs (by simpa using h) p v]; rfl
theorem waitC_get : ∀ (l : List (Nat × List Int)) (vs : List Value), vs.length = l.length → ∀ (i : Nat) (p : Nat × List Int) (v : Value), l[i]? = some p → vs[i]? = some v → (waitC l vs)[2 * i]? = some (.int .i64 (p.1 : Int)) ∧ (waitC l vs)[2 * i + 1]? = some v
  | [], _, _, i, p, v, h, _ => by simp at h
  | _ :: _, [], h, _, _, _, _, _ => by cases h
  | q :: l, u :: vs, h, 0, p, v, h1, h2 => by
    simp at h1 h2
    subst h1 h2
    exact ⟨rfl, rfl⟩
  | q :: l, u :: vs, h, i + 1, p, v, h1, h2 => by
    have := waitC_get l vs (by simpa using h) i p v (by simpa using h1) (by simpa using h2)
    rw [show 2 * (i + 1) = 2 * i + 1 + 1 by omega, show 2 * i + 1 + 1 + 1 = (2 * i + 1) + 1 + 1 by omega]
    simpa [waitC] using this
def boxC (d : Dk) (sb nb : Nat) (wv : Value) : Array Value := #[.int .i64 (d.many : Int), .map (some sb), .map (some nb), wv, .bool d.armed, .int .i64 (d.acts : Int), .bool d.done, .bool d.down]
/-- The places of a disk. -/
structure Spot where
  sb : Nat
  nb : Nat
  wv : Value
  nS : Nat
  nN : Nat
  DS : DataW Unit
  DN : DataW Unit
  vs : List Value
/-- A disk lies there: its box at g, all else from block B on; N bounds how much was ever done. -/
structure BoxOf (w : World) (B g : Nat) (d : Dk) (N : Nat) (s : Spot) : Prop where
  box : w.heap[g]? = some (.cells (boxC d s.sb s.nb s.wv) 72)
  gB : B ≤ g
  sB : B ≤ s.sb
  nB : B ≤ s.nb
  ne : s.sb ≠ s.nb
  mapS : w.ownsMap Tryd.prog 3 RowR s.sb s.nS s.DS
  mapN : w.ownsMap Tryd.prog 3 RowR s.nb s.nN s.DN
  isS : MapIs w B s.DS d.safe
  isN : MapIs w B s.DN d.now
  wlen : s.vs.length = d.wait.length
  wait : w.ownsRow B 95 2 s.wv d.wait.length (waitC d.wait s.vs)
  rows : ∀ (i : Nat) (p : Nat × List Int) (v : Value), d.wait[i]? = some p → s.vs[i]? = some v → RowAt w B v p.2
  numS : s.nS + d.wait.length ≤ N
  numN : s.nN ≤ N
  many : d.many ≤ 9223372036854775807
  acts : d.acts ≤ 9223372036854775807
/-- .. somewhere. -/
def BoxAt (w : World) (B g : Nat) (d : Dk) (N : Nat) : Prop := d.ok ∧ ∃ s, BoxOf w B g d N s
/-- A row stays where only other blocks have turned. -/
theorem RowAt.keep {w w' : World} {B : Nat} {v : Value} {r : List Int} (h : RowAt w B v r) (hb : ∀ g, v.ownBlock = some g → w'.heap[g]? = w.heap[g]?) : RowAt w' B v r := ⟨h.1.keep hb, h.2⟩
theorem RowAt.then_ {w w' : World} {B : Nat} {v : Value} {r : List Int} (h : RowAt w B v r) (hb : Below w.heap.size w w') : RowAt w' B v r := ⟨h.1.then_ hb, h.2⟩
theorem RowAt.base {w : World} {B B' : Nat} {v : Value} {r : List Int} (h : RowAt w B v r) (hB : B' ≤ B) : RowAt w B' v r := ⟨h.1.base hB, h.2⟩
/-- The block of a row holds bytes. -/
theorem RowAt.block {w : World} {B : Nat} {v : Value} {r : List Int} (h : RowAt w B v r) : ∀ g, v.ownBlock = some g → ∃ cur, w.heap[g]? = some (.cells cur 5) ∧ B ≤ g ∧ g < w.heap.size := by
  obtain ⟨⟨h1, h2⟩, h3⟩ := h
  rcases h2 with ⟨hv, hz⟩ | ⟨g, cap, cur, hv, hb, hg, hrest⟩
  · omega
  · intro g' hg'
    rw [hv] at hg'
    injection hg' with hg'
    subst hg'
    exact ⟨cur, hg, hb, lt_of_block hg⟩
/-- A block that holds no bytes may turn: the rows stay. -/
theorem RowAt.off {w w' : World} {B : Nat} {v : Value} {r : List Int} (h : RowAt w B v r) {x : Nat} (hx : ∀ cur, w.heap[x]? ≠ some (.cells cur 5)) (hb : ∀ g, g < w.heap.size → g ≠ x → w'.heap[g]? = w.heap[g]?) : RowAt w' B v r :=
  h.keep fun g hg => by
    obtain ⟨cur, h1, -, h2⟩ := h.block g hg
    exact hb g h2 (fun e => hx cur (by rw [← e]; exact h1))
end Go.Proofs.YtlpnhfceblbllaaDoor
