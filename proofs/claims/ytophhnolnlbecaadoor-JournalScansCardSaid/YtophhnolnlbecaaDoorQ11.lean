/- Pages on a disk, as plain words: no program here. A map from numbers to rows of bytes, as a call's own: which row stands at each number. A disk of package block as it lies: the relation. No statement is proved here. -/
import Derived.Test.YtophhnolnlbecaaDoorQ10
import Derived.Test.YtophhnolnlbecaaDoorQ4
import Derived.Test.YtophhnolnlbecaaDoorQ1
import Derived.Maps.OwnSet
import Derived.Maps.OwnOps
import Derived.Maps.RangeWalk
import Derived.Maps.Views
namespace Go.Proofs.YtophhnolnlbecaaDoor
/-- A page's sector. -/
def rowK (b : List Int) (i : Nat) : List Int := (b.drop (512 * i)).take 512
/-- n sectors from the i-th on, written one behind another till one is refused: the error, the disk. -/
def wrs (number : Int) (b : List Int) : Nat → Nat → Dk → Int × Dk
  | 0, _, d => (0, d)
  | n + 1, i, d => if d.writeE (number * 8 + i) (rowK b i) = 0 then wrs number b n (i + 1) (d.write (number * 8 + i) (rowK b i)) else (d.writeE (number * 8 + i) (rowK b i), d.write (number * 8 + i) (rowK b i))
def Dk.pages (d : Dk) : Int := (d.many : Int) / 8
/-- A page written: the error, the disk. -/
def Dk.pwr (d : Dk) (number kind : Int) (l : List Int) : Int × Dk := if makeE number kind l.length = 0 then if number < d.pages then wrs number (pageL number kind l) 8 0 d else (1, d) else (makeE number kind l.length, d)
theorem rowK_len {b : List Int} (h : b.length = 4096) {i : Nat} (hi : i < 8) : (rowK b i).length = 512 := by
  unfold rowK
  rw [List.length_take, List.length_drop]
  omega
theorem wrs_ok (number : Int) (b : List Int) : ∀ (n i : Nat) (d : Dk), d.ok → (wrs number b n i d).2.ok
  | 0, _, _, h => h
  | n + 1, i, d, h => by
    unfold wrs
    split
    · exact wrs_ok number b n (i + 1) _ (Dk.write_ok h _ _)
    · exact Dk.write_ok h _ _
theorem wrs_good {number : Int} {b : List Int} {n i : Nat} {d : Dk} (h : d.writeE (number * 8 + i) (rowK b i) = 0) : wrs number b (n + 1) i d = wrs number b n (i + 1) (d.write (number * 8 + i) (rowK b i)) := by rw [wrs, if_pos h]
theorem wrs_bad {number : Int} {b : List Int} {n i : Nat} {d : Dk} (h : d.writeE (number * 8 + i) (rowK b i) ≠ 0) : wrs number b (n + 1) i d = (d.writeE (number * 8 + i) (rowK b i), d.write (number * 8 + i) (rowK b i)) := by rw [wrs, if_neg h]
theorem okG_of {number kind : Int} {n : Nat} (h : makeE number kind n = 0) : okG number kind n = true := by
  cases hk : okG number kind n
  · unfold makeE at h
    rw [hk] at h
    exact absurd h (by decide)
  · rfl
theorem Dk.write_many (d : Dk) (at_ : Int) (l : List Int) : (d.write at_ l).many = d.many := by
  unfold Dk.write
  split
  · rfl
  · split
    · rfl
    · split
      · exact d.acted_many
      · exact d.acted_many
/-- The bytes of a page's first sectors; of the page. -/
def preB (d : Dk) (number : Nat) : Nat → List Int
  | 0 => []
  | k + 1 => preB d number k ++ d.look (number * 8 + k)
def pgB (d : Dk) (number : Nat) : List Int := preB d number 8
theorem preB_len {d : Dk} (h : d.ok) (number : Nat) : ∀ k, (preB d number k).length = 512 * k
  | 0 => rfl
  | k + 1 => by
    show (preB d number k ++ d.look (number * 8 + k)).length = _
    rw [List.length_append, preB_len h number k, h.look_len]
    omega
theorem pgB_len {d : Dk} (h : d.ok) (number : Nat) : (pgB d number).length = 4096 := preB_len h number 8
/-- A page read: the error, the kind, the body. -/
def Dk.prE (d : Dk) (number : Int) : Int := if 0 ≤ number ∧ number < d.pages then if d.down then 5 else openE (pgB d number.toNat) number else 1
def Dk.prK (d : Dk) (number : Int) : Int := if d.prE number = 0 then openK (pgB d number.toNat) number else 0
def Dk.prL (d : Dk) (number : Int) : List Int := if d.prE number = 0 then openL (pgB d number.toNat) number else []
end Go.Proofs.YtophhnolnlbecaaDoor
namespace Go.Proofs.YtophhnolnlbecaaDoor
open Go.RowKit
open Go.Maps (Keyed IsMap Tidy)
set_option maxRecDepth 100000

/-- What a row of bytes is known by in such a map. -/
def encS (g n c : Nat) : DataW Unit := .agg [.lit (.int .i64 (g : Int)), .lit (.int .i64 (n : Int)), .lit (.int .i64 (c : Int))]
def RowR (v : Value) : Option (DataW Unit × List MemPlace) :=
  match v with
  | .slice none 0 0 => some (.nil, [])
  | .slice (some ⟨g, 0, none⟩) n c => some (encS g n c, [])
  | _ => none
theorem rowR_nil : RowR (.slice none 0 0) = some (.nil, []) := rfl
theorem rowR_mk (g n c : Nat) : RowR (.slice (some ⟨g, 0, none⟩) n c) = some (encS g n c, []) := by unfold RowR; rfl
theorem encS_inj {g n c g' n' c' : Nat} (h : encS g n c = encS g' n' c') : g = g' ∧ n = n' ∧ c = c' := by
  unfold encS at h
  injection h with h
  injection h with h1 h
  injection h with h2 h
  injection h with h3 h
  injection h1 with h1; injection h1 with _ h1
  injection h2 with h2; injection h2 with _ h2
  injection h3 with h3; injection h3 with _ h3
  omega
theorem rowR_inv {v : Value} {y : DataW Unit × List MemPlace} (h : RowR v = some y) : (v = .slice none 0 0 ∧ y = (.nil, [])) ∨ ∃ g n c, v = .slice (some ⟨g, 0, none⟩) n c ∧ y = (encS g n c, []) := by
  unfold RowR at h
  split at h
  · injection h with h; exact .inl ⟨rfl, h.symm⟩
  · rename_i g n c
    injection h with h; exact .inr ⟨g, n, c, rfl, h.symm⟩
  · cases h
theorem rowR_at {v : Value} {g n c : Nat} {ps : List MemPlace} (h : RowR v = some (encS g n c, ps)) : v = .slice (some ⟨g, 0, none⟩) n c := by
  rcases rowR_inv h with ⟨-, e⟩ | ⟨g', n', c', rfl, e⟩
  · unfold encS at e; injection e with e; cases e
  · injection e with e
    obtain ⟨rfl, rfl, rfl⟩ := encS_inj e
    rfl
theorem rowR_none {v : Value} {ps : List MemPlace} (h : RowR v = some (.nil, ps)) : v = .slice none 0 0 := by
  rcases rowR_inv h with ⟨e, -⟩ | ⟨g', n', c', rfl, e⟩
  · exact e
  · unfold encS at e; injection e with e; cases e
theorem keyK : Keyed Tryd.prog 3 := Maps.int_keyed Tryd.underlying3
theorem key_wf {k : Int} (h : okInt k) : (Lit.int .i64 k).wf = true := by
  unfold okInt at h
  simp [Lit.wf, IntKind.min, IntKind.max, IntKind.signed, IntKind.bits]
  omega
theorem key_at {k : Int} (h : okInt k) : keyOf Tryd.prog 3 (.int .i64 k) = some (.int .i64 k) := Maps.keyOf_int_mk Tryd.underlying3 (key_wf h)
theorem key_lit (k : Int) : WideAt.IsKeyLit (.int .i64 k) := trivial
/-- Where what a disk is made of lies: from a block on, and not in one of them. -/
structure Base where
  lo : Nat
  off : Nat → Prop
instance : Coe Nat Base := ⟨fun n => ⟨n, fun _ => False⟩⟩
/-- A row of bytes of a call's own, that is not empty. -/
def RowAt (w : World) (B : Base) (v : Value) (r : List Int) : Prop := OwnB w B.lo v r ∧ 1 ≤ r.length ∧ ∀ b, v.ownBlock = some b → ¬ B.off b
theorem RowAt.form {w : World} {B : Base} {v : Value} {r : List Int} (h : RowAt w B v r) : ∃ g c, v = .slice (some ⟨g, 0, none⟩) r.length c ∧ B.lo ≤ g ∧ g < w.heap.size := by
  obtain ⟨⟨h1, h2⟩, h3, -⟩ := h
  rcases h2 with ⟨hv, hz⟩ | ⟨g, cap, cur, hv, hb, hg, hrest⟩
  · omega
  · exact ⟨g, cap, hv, hb, lt_of_block hg⟩
/-- A map's entries as rows: the row at each place, or none. -/
structure MapIs (w : World) (B : Base) (D : DataW Unit) (f : Secs) : Prop where
  tidy : Tidy D
  keys : ∀ k : Int, Maps.has D (.int .i64 k) = true → 0 ≤ k
  rows : ∀ (k : Nat) (r : List Int), f k = some r → ∃ v g n c, RowAt w B v r ∧ v = .slice (some ⟨g, 0, none⟩) n c ∧ ∀ z, D.atKey (.int .i64 (k : Int)) z = encS g n c
  none_ : ∀ k : Nat, f k = none → Maps.has D (.int .i64 (k : Int)) = false
theorem MapIs.start (w : World) (B : Base) : MapIs w B (.map []) noSecs := ⟨Maps.tidy_empty, fun k h => absurd (show false = true from h) (by simp), fun k r h => (by cases h), fun k _ => rfl⟩
theorem MapIs.keep {w w' : World} {B : Base} {D : DataW Unit} {f : Secs} (h : MapIs w B D f) (hk : ∀ v r, RowAt w B v r → RowAt w' B v r) : MapIs w' B D f :=
  ⟨h.tidy, h.keys, fun k r e => by obtain ⟨v, g, n, c, h1, h2⟩ := h.rows k r e; exact ⟨v, g, n, c, hk v r h1, h2⟩, h.none_⟩
theorem lit_ne {a b : Int} (h : a ≠ b) : Lit.int .i64 a ≠ Lit.int .i64 b := fun e => h (by injection e)
theorem MapIs.put {w : World} {B : Base} {D : DataW Unit} {f : Secs} (h : MapIs w B D f) (k : Nat) {v : Value} {r : List Int} (hr : RowAt w B v r) {g n c : Nat} (hv : v = .slice (some ⟨g, 0, none⟩) n c) : MapIs w B (D.put (.int .i64 (k : Int)) (encS g n c)) (upd f k r) := by
  refine ⟨h.tidy.put (key_lit _) _, fun j hj => ?_, fun j x e => ?_, fun j e => ?_⟩
  · by_cases e : j = (k : Int)
    · omega
    · rw [Maps.has_put_other (lit_ne e)] at hj; exact h.keys j hj
  · by_cases ej : j = k
    · subst ej
      rw [upd_same] at e
      injection e with e
      subst e
      exact ⟨v, g, n, c, hr, hv, fun z => Maps.atKey_put_same h.tidy.isMap (key_lit _) _ _⟩
    · rw [upd_other _ _ ej] at e
      obtain ⟨v', g', n', c', h1, h2, h3⟩ := h.rows j x e
      exact ⟨v', g', n', c', h1, h2, fun z => by rw [Maps.atKey_put_other (lit_ne (by omega))]; exact h3 z⟩
  · by_cases ej : j = k
    · subst ej; rw [upd_same] at e; cases e
    · rw [upd_other _ _ ej] at e
      rw [Maps.has_put_other (lit_ne (by omega))]
      exact h.none_ j e
/-- What a look-up gives. -/
theorem MapIs.look {w : World} {B : Base} {D : DataW Unit} {f : Secs} (h : MapIs w B D f) (k : Nat) {v : Value} {ps : List MemPlace} (hv : RowR v = some (D.atKey (.int .i64 (k : Int)) .nil, ps)) : (f k = none ∧ v = .slice none 0 0) ∨ ∃ r, f k = some r ∧ RowAt w B v r := by
  cases e : f k with
  | none =>
    rw [Maps.atKey_of_not_has (h.none_ k e)] at hv
    exact .inl ⟨rfl, rowR_none hv⟩
  | some r =>
    obtain ⟨v', g, n, c, h1, h2, h3⟩ := h.rows k r e
    rw [h3] at hv
    have := rowR_at hv
    subst h2
    subst this
    exact .inr ⟨r, rfl, h1⟩
end Go.Proofs.YtophhnolnlbecaaDoor
namespace Go.Proofs.YtophhnolnlbecaaDoor
open Go.RowKit
open Go.Maps (Keyed IsMap Tidy)
set_option maxRecDepth 100000

/-- The cells of the writes that wait. -/
def waitC : List (Nat × List Int) → List Value → List Value
  | p :: l, v :: vs => .int .i64 (p.1 : Int) :: v :: waitC l vs
  | _, _ => []
theorem waitC_len : ∀ (l : List (Nat × List Int)) (vs : List Value), vs.length = l.length → (waitC l vs).length = 2 * l.length
  | [], _, _ => rfl
  | _ :: l, [], h => by cases h
  | p :: l, v :: vs, h => by
    rw [waitC, List.length_cons, List.length_cons, waitC_len l vs (by simpa using h), List.length_cons]; omega
theorem waitC_snoc : ∀ (l : List (Nat × List Int)) (vs : List Value), vs.length = l.length → ∀ (p : Nat × List Int) (v : Value), waitC (l ++ [p]) (vs ++ [v]) = waitC l vs ++ [.int .i64 (p.1 : Int), v]
  | [], [], _, _, _ => rfl
  | [], _ :: _, h, _, _ => by cases h
  | _ :: _, [], h, _, _ => by cases h
  | q :: l, u :: vs, h, p, v => by
    rw [List.cons_append, List.cons_append, waitC, waitC, waitC_snoc l vs (by simpa using h) p v]; rfl
theorem waitC_get : ∀ (l : List (Nat × List Int)) (vs : List Value), vs.length = l.length → ∀ (i : Nat) (p : Nat × List Int) (v : Value), l[i]? = some p → vs[i]? = some v → (waitC l vs)[2 * i]? = some (.int .i64 (p.1 : Int)) ∧ (waitC l vs)[2 * i + 1]? = some v
  | [], _, _, i, p, v, h, _ => by simp at h
  | _ :: _, [], h, _, _, _, _, _ => by cases h
  | q :: l, u :: vs, h, 0, p, v, h1, h2 => by
    simp at h1 h2
    subst h1 h2
    exact ⟨rfl, rfl⟩
  | q :: l, u :: vs, h, i + 1, p, v, h1, h2 => by
    have := waitC_get l vs (by simpa using h) i p v (by simpa using h1) (by simpa using h2)
    rw [show 2 * (i + 1) = 2 * i + 1 + 1 by omega, show 2 * i + 1 + 1 + 1 = (2 * i + 1) + 1 + 1 by omega]
    simpa [waitC] using this
def boxC (d : Dk) (sb nb : Nat) (wv : Value) : Array Value := #[.int .i64 (d.many : Int), .map (some sb), .map (some nb), wv, .bool d.armed, .int .i64 (d.acts : Int), .bool d.done, .bool d.down]
/-- The places of a disk. -/
structure Spot where
  sb : Nat
  nb : Nat
  wv : Value
  nS : Nat
  nN : Nat
  DS : DataW Unit
  DN : DataW Unit
  vs : List Value
/-- A disk lies there: its box at g, all else from block B on; N bounds how much was ever done. -/
structure BoxOf (w : World) (B : Base) (g : Nat) (d : Dk) (N : Nat) (s : Spot) : Prop where
  box : w.heap[g]? = some (.cells (boxC d s.sb s.nb s.wv) 77)
  gB : B.lo ≤ g
  sB : B.lo ≤ s.sb
  nB : B.lo ≤ s.nb
  ne : s.sb ≠ s.nb
  mapS : w.ownsMap Tryd.prog 3 RowR s.sb s.nS s.DS
  mapN : w.ownsMap Tryd.prog 3 RowR s.nb s.nN s.DN
  isS : MapIs w B s.DS d.safe
  isN : MapIs w B s.DN d.now
  wlen : s.vs.length = d.wait.length
  wait : w.ownsRow B.lo 100 2 s.wv d.wait.length (waitC d.wait s.vs)
  rows : ∀ (i : Nat) (p : Nat × List Int) (v : Value), d.wait[i]? = some p → s.vs[i]? = some v → RowAt w B v p.2
  numS : s.nS + d.wait.length ≤ N
  numN : s.nN ≤ N
  many : d.many ≤ 9223372036854775807
  acts : d.acts ≤ 9223372036854775807
/-- .. somewhere. -/
def BoxAt (w : World) (B : Base) (g : Nat) (d : Dk) (N : Nat) : Prop := d.ok ∧ ∃ s, BoxOf w B g d N s
/-- A row stays where only other blocks have turned. -/
theorem RowAt.keep {w w' : World} {B : Base} {v : Value} {r : List Int} (h : RowAt w B v r) (hb : ∀ g, v.ownBlock = some g → w'.heap[g]? = w.heap[g]?) : RowAt w' B v r := ⟨h.1.keep hb, h.2⟩
theorem RowAt.then_ {w w' : World} {B : Base} {v : Value} {r : List Int} (h : RowAt w B v r) (hb : Below w.heap.size w w') : RowAt w' B v r := ⟨h.1.then_ hb, h.2⟩
theorem RowAt.base {w : World} {B B' : Base} {v : Value} {r : List Int} (h : RowAt w B v r) (hB : B'.lo ≤ B.lo) (hX : ∀ b, v.ownBlock = some b → ¬ B'.off b) : RowAt w B' v r := ⟨h.1.base hB, h.2.1, hX⟩
/-- The block of a row holds bytes. -/
theorem RowAt.block {w : World} {B : Base} {v : Value} {r : List Int} (h : RowAt w B v r) : ∀ g, v.ownBlock = some g → ∃ cur, w.heap[g]? = some (.cells cur 5) ∧ B.lo ≤ g ∧ g < w.heap.size := by
  obtain ⟨⟨h1, h2⟩, h3, -⟩ := h
  rcases h2 with ⟨hv, hz⟩ | ⟨g, cap, cur, hv, hb, hg, hrest⟩
  · omega
  · intro g' hg'
    rw [hv] at hg'
    injection hg' with hg'
    subst hg'
    exact ⟨cur, hg, hb, lt_of_block hg⟩
/-- A block that holds no bytes may turn: the rows stay. -/
theorem RowAt.off {w w' : World} {B : Base} {v : Value} {r : List Int} (h : RowAt w B v r) {x : Nat} (hx : ∀ cur, w.heap[x]? ≠ some (.cells cur 5)) (hb : ∀ g, g < w.heap.size → g ≠ x → w'.heap[g]? = w.heap[g]?) : RowAt w' B v r :=
  h.keep fun g hg => by
    obtain ⟨cur, h1, -, h2⟩ := h.block g hg
    exact hb g h2 (fun e => hx cur (by rw [← e]; exact h1))
end Go.Proofs.YtophhnolnlbecaaDoor
