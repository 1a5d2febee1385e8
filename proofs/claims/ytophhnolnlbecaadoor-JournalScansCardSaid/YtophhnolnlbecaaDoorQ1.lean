/- Rows of bytes: how they lie, how they grow, as steps of a walk. Numbers in bytes, the document's own Number and Read: contracts. Sums of bytes as mathematics: turns, rows gone through, sums joined; bursts are told. No statement is proved here. -/
import Derived.Test.YtophhnolnlbecaaDoorProg
import Derived.Below
import Derived.WalkKit
import Derived.WalkSpells
import Derived.WalkLawsBesides
import Derived.BigQuiet
import Derived.Deep.QuietTactic
import Derived.Deep.RegionHeld3
import Derived.StillTailTactics
import Derived.Deep.DeepCutAuto
import Derived.Deep.DeepFit
import Derived.Outline
import Derived.Lib.Hide
import Derived.Deep.Light
import Derived.IntWalk
import Derived.KernelRfl
import Derived.Laws.OwnMore
import Derived.OwnWalk
import Derived.OneCell
import Derived.Maps.AppendAt
import Derived.Laws.Rows
import Derived.Laws.NewBlocks
import Derived.Laws.BytesArg
import Derived.Deep.AppendLies
import Derived.Deep.RegionLaw
import Derived.Lib.AppendStr
import Derived.Laws.AppendOwnNone
import Derived.Laws.BitsAllLaws
namespace Go.Proofs.YtophhnolnlbecaaDoor
open Go.RowKit
set_option maxRecDepth 100000

theorem ret_int {k : IntKind} {a b : Int} (h : a = b) : Ending.returned (.int k a) = .returned (.int k b) := by rw [h]
theorem ret_bool {a b : Bool} (h : a = b) : Ending.returned (.bool a) = .returned (.bool b) := by rw [h]
theorem cell_lt {w : World} {a : Addr} {v : Value} (h : w.cell? a = some v) : a.block < w.heap.size := by
  rcases Nat.lt_or_ge a.block w.heap.size with hlt | hge
  · exact hlt
  · unfold World.cell? at h; rw [Array.getElem?_eq_none hge] at h; cases h
theorem below1 (w : World) (x : Obj) : Below w.heap.size w (w.alloc x) := (Below.refl _ _).alloc (Nat.le_refl _) _
theorem below2 (w : World) (x y : Obj) : Below w.heap.size w ((w.alloc x).alloc y) := (below1 w x).alloc (by simp) _
theorem below3 (w : World) (x y z : Obj) : Below w.heap.size w (((w.alloc x).alloc y).alloc z) := (below2 w x y).alloc (by simp; omega) _
theorem below_then {w w0 w' : World} (g : Below w.heap.size w w0) (h : Below w0.heap.size w0 w') : Below w.heap.size w w' := g.trans (h.mono g.size)
/-- The bounds that each reading of the arguments gives. -/
def okInt (n : Int) : Prop := -9223372036854775808 ≤ n ∧ n ≤ 9223372036854775807
def okLen (n : Nat) : Prop := n ≤ 140737488351232
def okFar (n : Nat) : Prop := n ≤ 140737488355328
theorem okLen.far {n : Nat} (h : okLen n) : okFar n := by unfold okLen at h; unfold okFar; omega
/-- A row of cells that a value lies in. -/
structure Row where
  e : TypeId
  size : Nat
  v : Value
  n : Nat
  xs : List Value
/-- The blocks of rows. -/
def blocksOf (l : List Row) : List Nat := l.filterMap fun r => r.v.ownBlock
/-- A call owns rows from block B on. -/
def Owns (w : World) (B : Nat) (l : List Row) : Prop := ∀ r ∈ l, w.ownsRow B r.e r.size r.v r.n r.xs
/-- Of what was there only the blocks of S may have turned. -/
structure Only (S : List Nat) (w w' : World) : Prop where
  os : w'.os = w.os
  tape : w'.tape = w.tape
  output : w'.output = w.output
  size : w.heap.size ≤ w'.heap.size
  block : ∀ k, k < w.heap.size → k ∉ S → w'.heap[k]? = w.heap[k]?
theorem Only.refl (S : List Nat) (w : World) : Only S w w := ⟨rfl, rfl, rfl, Nat.le_refl _, fun _ _ _ => rfl⟩
theorem Only.trans {S : List Nat} {a b c : World} (h : Only S a b) (k : Only S b c) : Only S a c :=
  ⟨k.os.trans h.os, k.tape.trans h.tape, k.output.trans h.output, Nat.le_trans h.size k.size, fun i hi hn => (k.block i (Nat.lt_of_lt_of_le hi h.size) hn).trans (h.block i hi hn)⟩
theorem Only.of_below {S : List Nat} {a b : World} (h : Below a.heap.size a b) : Only S a b := ⟨h.os, h.tape, h.output, h.size, fun k hk _ => h.block k hk⟩
theorem Only.below {a b : World} (h : Only [] a b) : Below a.heap.size a b := ⟨h.os, h.tape, h.output, h.size, fun k hk => h.block k hk (by simp)⟩
/-- What is new may turn, and S may grow. -/
theorem Only.mono {S S' : List Nat} {a b : World} (h : Only S a b) (hs : ∀ k ∈ S, k ∈ S' ∨ a.heap.size ≤ k) : Only S' a b :=
  ⟨h.os, h.tape, h.output, h.size, fun k hk hn => h.block k hk fun hk' => by rcases hs k hk' with h1 | h1; exact hn h1; omega⟩
theorem Only.drew {S : List Nat} {a b : World} (h : Only S a b) : Only S a b.drew := ⟨h.os, h.tape, h.output, h.size, h.block⟩
/-- A step that turns S' behind one that turns S: S' lies in S, or is new. -/
theorem Only.then_ {S S' : List Nat} {a b c : World} (h : Only S a b) (k : Only S' b c) (hs : ∀ i ∈ S', i ∈ S ∨ a.heap.size ≤ i) : Only S a c :=
  ⟨k.os.trans h.os, k.tape.trans h.tape, k.output.trans h.output, Nat.le_trans h.size k.size, fun i hi hn =>
    (k.block i (Nat.lt_of_lt_of_le hi h.size) (fun hi' => by rcases hs i hi' with h1 | h1; exact hn h1; omega)).trans (h.block i hi hn)⟩
theorem Only.setCell {S : List Nat} {a b : World} (h : Only S a b) {p : Addr} (hp : p.block ∈ S ∨ a.heap.size ≤ p.block) (u : Value) : Only S a (b.setCell p u) :=
  ⟨h.os, h.tape, h.output, by simpa [World.setCell] using h.size, fun i hi hn => (Below.heap_setCell b p u i (by rintro rfl; rcases hp with hp | hp; exact hn hp; omega)).trans (h.block i hi hn)⟩
theorem Only.alloc {S : List Nat} {a b : World} (h : Only S a b) (o : Obj) : Only S a (b.alloc o) :=
  ⟨h.os, h.tape, h.output, Nat.le_trans h.size (by simp), fun i hi hn => (Below.heap_alloc b o i (Nat.lt_of_lt_of_le hi h.size)).trans (h.block i hi hn)⟩
theorem owns_lt {w : World} {B : Nat} {l : List Row} (h : Owns w B l) : ∀ b ∈ blocksOf l, B ≤ b ∧ b < w.heap.size := by
  intro b hb
  obtain ⟨r, hr, hb⟩ := List.mem_filterMap.1 hb
  exact (h r hr).lt b hb
theorem Owns.keep {w w' : World} {B : Nat} {l : List Row} (h : Owns w B l) (hk : ∀ b ∈ blocksOf l, w'.heap[b]? = w.heap[b]?) : Owns w' B l := by
  intro r hr
  obtain ⟨h1, h2⟩ := h r hr
  refine ⟨h1, ?_⟩
  rcases h2 with h2 | ⟨g, cap, cur, hv, hb, hg, hrest⟩
  · exact .inl h2
  · exact .inr ⟨g, cap, cur, hv, hb, by rw [hk g (List.mem_filterMap.2 ⟨r, hr, by simp [hv, Value.ownBlock]⟩)]; exact hg, hrest⟩
theorem Owns.below {w w' : World} {B : Nat} {l : List Row} (h : Owns w B l) (hb : Below w.heap.size w w') : Owns w' B l := h.keep fun b hb' => hb.block b (owns_lt h b hb').2
theorem Owns.only {w w' : World} {B : Nat} {S : List Nat} {l : List Row} (h : Owns w B l) (ho : Only S w w') (hd : ∀ b ∈ blocksOf l, b ∉ S) : Owns w' B l := h.keep fun b hb' => ho.block b (owns_lt h b hb').2 (hd b hb')
theorem Owns.base {w : World} {B B' : Nat} {l : List Row} (h : Owns w B l) (hB : B' ≤ B) : Owns w B' l := by
  intro r hr
  obtain ⟨h1, h2⟩ := h r hr
  refine ⟨h1, ?_⟩
  rcases h2 with h2 | ⟨g, cap, cur, hv, hb, hrest⟩
  · exact .inl h2
  · exact .inr ⟨g, cap, cur, hv, by omega, hrest⟩
theorem lt_of_get {α : Type} {l : List α} {j : Nat} {c : α} (h : l[j]? = some c) : j < l.length := (List.getElem?_eq_some_iff.1 h).1
/-- A row that was made, with no element in it so far. -/
theorem own_start {w : World} {B : Nat} {e : TypeId} {c cap : Nat} (cur : Array Value) (hB : B ≤ w.heap.size) (hm : cap ≤ maxLen) (hs : cur.size = cap * c) :
    (w.alloc (.cells cur e)).ownsRow B e c (.slice (some ⟨w.heap.size, 0, none⟩) 0 cap) 0 [] :=
  ⟨by simp, .inr ⟨w.heap.size, cap, cur, rfl, hB, heap_alloc_new w _, by omega, hm, hs, by simp⟩⟩
theorem row_keep {w w' : World} {B : Nat} {e : TypeId} {c n : Nat} {v : Value} {xs : List Value} (h : w.ownsRow B e c v n xs) (hb : Below w.heap.size w w') : w'.ownsRow B e c v n xs := by
  have h1 : Owns w B [⟨e, c, v, n, xs⟩] := by intro r hr; simp at hr; subst hr; exact h
  exact h1.below hb ⟨e, c, v, n, xs⟩ (by simp)
theorem Owns.append {w : World} {B : Nat} {a b : List Row} (h : Owns w B a) (k : Owns w B b) : Owns w B (a ++ b) := fun r hr => (List.mem_append.1 hr).elim (h r) (k r)
theorem Owns.left {w : World} {B : Nat} {a b : List Row} (h : Owns w B (a ++ b)) : Owns w B a := fun r hr => h r (List.mem_append.2 (.inl hr))
theorem Owns.right {w : World} {B : Nat} {a b : List Row} (h : Owns w B (a ++ b)) : Owns w B b := fun r hr => h r (List.mem_append.2 (.inr hr))
theorem Owns.tail {w : World} {B : Nat} {a : Row} {b : List Row} (h : Owns w B (a :: b)) : Owns w B b := fun r hr => h r (List.mem_cons_of_mem _ hr)
theorem Owns.head {w : World} {B : Nat} {a : Row} {b : List Row} (h : Owns w B (a :: b)) : w.ownsRow B a.e a.size a.v a.n a.xs := h a (List.mem_cons_self ..)
theorem heap_alloc_at (w : World) (o : Obj) (g : Nat) (h : g = w.heap.size) : (w.alloc o).heap[g]? = some o := by subst h; exact heap_alloc_new w o
theorem row_then {w w' : World} {g : Nat} {cs : Array Value} {t : TypeId} {f : Nat × Nat} (h : w.heap[g]? = some (.cells cs t f)) (hb : Below w.heap.size w w') : w'.heap[g]? = some (.cells cs t f) :=
  (hb.block g (lt_of_block h)).trans h
theorem row_cells {w : World} {g : Nat} {cs : Array Value} {t : TypeId} {f : Nat × Nat} (h : w.heap[g]? = some (.cells cs t f)) : ∀ o, w.cell? ⟨g, o, none⟩ = cs[o]? := fun o => cell_of_row w g o cs t f h
/-- A row of bytes stands at that place: its elements, as numbers. -/
def InB (w : World) (a : Option Addr) (l : List Int) : Prop := ∀ i x, l[i]? = some x → ∃ b o, a = some ⟨b, o, none⟩ ∧ w.cell? ⟨b, o + i, none⟩ = some (.int .u8 x)
theorem InB.then_ {w w' : World} {a : Option Addr} {l : List Int} (h : InB w a l) (hb : Below w.heap.size w w') : InB w' a l := fun i x hx => by
  obtain ⟨b, o, ha, hc⟩ := h i x hx
  exact ⟨b, o, ha, (hb.cell (cell_lt hc)).trans hc⟩
theorem InB.one {w : World} {a : Option Addr} {l : List Int} (h : InB w a l) {i : Nat} (hi : i < l.length) : ∃ b o x, a = some ⟨b, o, none⟩ ∧ l[i]? = some x ∧ w.cell? ⟨b, o + i, none⟩ = some (.int .u8 x) := by
  obtain ⟨b, o, ha, hc⟩ := h i _ (List.getElem?_eq_getElem hi)
  exact ⟨b, o, _, ha, List.getElem?_eq_getElem hi, hc⟩
theorem InB.nil (w : World) (a : Option Addr) : InB w a [] := fun i x h => by simp at h
theorem take_eq_snoc {α : Type} {a b : List α} {k : Nat} {x : α} (h : a.take k = b.take k) (hx : a[k]? = some x) (hy : b[k]? = some x) : a.take (k + 1) = b.take (k + 1) := by
  rw [List.take_add_one, List.take_add_one, h, hx, hy]
/-- A number of so many bytes, the lowest one first. -/
def leB : Nat → Int → List Int
  | 0, _ => []
  | k + 1, n => n % 256 :: leB k (n / 256)
theorem leB_len (k : Nat) (n : Int) : (leB k n).length = k := by
  induction k generalizing n with
  | zero => rfl
  | succ k ih => simp [leB, ih]
theorem leB_snoc (k : Nat) (n : Int) : leB (k + 1) n = leB k n ++ [n / 256 ^ k % 256] := by
  induction k generalizing n with
  | zero => simp [leB]
  | succ k ih =>
    rw [leB, ih, leB, List.cons_append, Int.ediv_ediv_of_nonneg (by omega), Int.pow_succ, Int.mul_comm]
/-- Bytes as what stands in their cells. -/
def btV (l : List Int) : List Value := l.map (Value.int .u8)
theorem info_byte : (Tryd.prog.info? 5).map (fun i => (i.zero, i.size, i.bytes)) = some (some (.int .u8 0), 1, 1) := by kernel_rfl
theorem leB_add (k : Nat) (n m : Int) : leB k (n + 256 ^ k * m) = leB k n := by
  induction k generalizing n with
  | zero => rfl
  | succ k ih =>
    have e : n + 256 ^ (k + 1) * m = n + 256 * (256 ^ k * m) := by rw [Int.pow_succ]; simp only [Int.mul_comm, Int.mul_left_comm]
    have h1 : (n + 256 * (256 ^ k * m)) % 256 = n % 256 := by omega
    have h2 : (n + 256 * (256 ^ k * m)) / 256 = n / 256 + 256 ^ k * m := by omega
    rw [e, leB, leB, h1, h2, ih]
theorem make_any {P : Program} (t e : TypeId) (z : Value) (size bytes : Nat) (ht : P.underlying t = some (.slice e)) (hi : (P.info? e).map (fun i => (i.zero, i.size, i.bytes)) = some (some z, size, bytes)) (n c : Nat) (hnc : n ≤ c) (hb : bytes * c ≤ 281474976710656) (hc : c ≤ 9223372036854775807) :
    ∃ cur : Array Value, cur.size = c * size ∧ ∀ w : World, (Instr.makeSlice t (.int .i64 (n : Int)) (.int .i64 (c : Int))).run P w = .ok (.slice (some ⟨w.heap.size, 0, none⟩) n c) (w.alloc (.cells cur e)) := by
  obtain ⟨i, h1, h2, h3, h4⟩ := info_parts hi
  refine ⟨madeCells z.cells (c * i.size), by rw [size_madeCells, h3], fun w => ?_⟩
  have hb2 : (i.bytes : Int) * (c : Int) ≤ 281474976710656 := by
    rw [h4, ← Int.natCast_mul]; omega
  have := run_make (P := P) w t e i z ht h1 h2 .i64 .i64 n c (by omega) (by omega) hb2 (by omega)
  simpa using this
theorem make_lent {P : Program} (t e : TypeId) (z : Value) (size bytes : Nat) (ht : P.underlying t = some (.slice e)) (hi : (P.info? e).map (fun i => (i.zero, i.size, i.bytes)) = some (some z, size, bytes)) (n : Nat) (hb : bytes * (n + 1) ≤ 281474976710656) (hc : n + 1 ≤ 9223372036854775807) :
    ∃ cur : Array Value, cur.size = (n + 1) * size ∧ ∀ w : World, (Instr.makeSlice t (.int .i64 0) (.int .i64 ((n : Int) + 1))).run P w = .ok (.slice (some ⟨w.heap.size, 0, none⟩) 0 (n + 1)) (w.alloc (.cells cur e)) := by
  obtain ⟨cur, h1, h2⟩ := make_any t e z size bytes ht hi 0 (n + 1) (by omega) hb hc
  exact ⟨cur, h1, fun w => by have := h2 w; simpa using this⟩
theorem news_at (w : World) (cs : Array Value) (t : TypeId) (g : Nat) (hg : g = w.heap.size) : ∀ j u, cs.toList[j]? = some u → (w.alloc (.cells cs t)).cell? ((⟨g, 0, none⟩ : Addr).add j) = some u := by
  subst hg
  exact World.news_of_block (heap_alloc_new w _)
theorem Only.of_grown {w w' : World} {g : Nat} (h : w.grownBy w' (some g)) : Only [g] w w' := ⟨h.os, h.tape, h.output, h.size, fun k hk hn => h.block k hk (fun e => hn (by injection e with e; simp [e]))⟩
theorem keep_row {w w' : World} {S : List Nat} (h : Only S w w') {g : Nat} {o : Obj} (hg : w.heap[g]? = some o) (hn : g ∉ S) : w'.heap[g]? = some o := (h.block g (lt_of_block hg) hn).trans hg
/-- A text's bytes, as numbers. -/
def bsI (s : ByteArray) : List Int := s.data.toList.map fun b => (b.toNat : Int)
theorem bsI_len (s : ByteArray) : (bsI s).length = s.size := by simp [bsI]
theorem btV_append (a b : List Int) : btV (a ++ b) = btV a ++ btV b := List.map_append
theorem btV_len (a : List Int) : (btV a).length = a.length := List.length_map _
theorem btV_one (a : List Int) : ∀ u ∈ btV a, u.oneCell' = true := by
  intro u hu
  obtain ⟨x, _, rfl⟩ := List.mem_map.1 hu
  rfl
theorem strCells_bs (s : ByteArray) : Lib.strCells s = btV (bsI s) := by simp [Lib.strCells, btV, bsI]
/-- A row of bytes that a call owns: from block B on, so many. -/
def OwnB (w : World) (B : Nat) (v : Value) (l : List Int) : Prop := w.ownsRow B 5 1 v l.length (btV l)
theorem OwnB.nil (w : World) (B : Nat) : OwnB w B (.slice none 0 0) [] := World.ownsRow_nil _ _ _ _
theorem OwnB.alloc {w : World} {B : Nat} {v : Value} {l : List Int} (h : OwnB w B v l) (o : Obj) : OwnB (w.alloc o) B v l := World.ownsRow.alloc h o
theorem OwnB.drew {w : World} {B : Nat} {v : Value} {l : List Int} (h : OwnB w B v l) : OwnB w.drew B v l := h
theorem OwnB.block {w : World} {B : Nat} {v : Value} {l : List Int} (h : OwnB w B v l) : ∀ g, v.ownBlock = some g → B ≤ g ∧ g < w.heap.size := World.ownsRow.lt h
theorem OwnB.keep {w w' : World} {B : Nat} {v : Value} {l : List Int} (h : OwnB w B v l) (hb : ∀ g, v.ownBlock = some g → w'.heap[g]? = w.heap[g]?) : OwnB w' B v l := by
  obtain ⟨h1, h2⟩ := h
  refine ⟨h1, ?_⟩
  rcases h2 with h2 | ⟨g, cap, cur, hv, hB, hg, hrest⟩
  · exact .inl h2
  · refine .inr ⟨g, cap, cur, hv, hB, ?_, hrest⟩
    rw [hb g (by rw [hv]; rfl)]
    exact hg
theorem OwnB.then_ {w w' : World} {B : Nat} {v : Value} {l : List Int} (h : OwnB w B v l) (hb : Below w.heap.size w w') : OwnB w' B v l := h.keep fun g hg => hb.block g (h.block g hg).2
theorem OwnB.base {w : World} {B B' : Nat} {v : Value} {l : List Int} (h : OwnB w B v l) (hB : B' ≤ B) : OwnB w B' v l := by
  obtain ⟨h1, h2⟩ := h
  refine ⟨h1, ?_⟩
  rcases h2 with h2 | ⟨g, cap, cur, hv, hb, hrest⟩
  · exact .inl h2
  · exact .inr ⟨g, cap, cur, hv, by omega, hrest⟩
/-- Its shape. -/
theorem OwnB.shape {w : World} {B : Nat} {v : Value} {l : List Int} (h : OwnB w B v l) : ∃ a c, v = .slice a l.length c ∧ InB w a l ∧ (a = none → c = 0 ∧ l = []) ∧ l.length ≤ c ∧ c ≤ maxLen := by
  have h0 := h
  obtain ⟨h1, h2⟩ := h
  rcases h2 with ⟨hv, h2⟩ | ⟨g, cap, cur, hv, hb, hg, hle, hcm, hrest⟩
  · have : l = [] := List.eq_nil_of_length_eq_zero h2
    subst this
    exact ⟨none, 0, hv, InB.nil _ _, fun _ => ⟨rfl, rfl⟩, by simp, by simp⟩
  · refine ⟨some ⟨g, 0, none⟩, cap, hv, fun i x hx => ⟨g, 0, rfl, ?_⟩, fun h => (by cases h), hle, hcm⟩
    subst hv
    have hi : i < l.length := lt_of_get hx
    have h3 := World.ownsRow.cellAt h0 i (by omega)
    rw [Nat.zero_add, h3, btV, List.getElem?_map, hx]
    rfl
theorem OwnB.lit (w : World) (bs : List Int) (hm : bs.length ≤ maxLen) : OwnB (w.alloc (.cells (btV bs).toArray 5)) w.heap.size (.slice (some ⟨w.heap.size, 0, none⟩) bs.length bs.length) bs := by
  have h := World.ownsRow_lit (base := w.heap.size) (size := 1) (e := 5) w (btV bs).toArray bs.length (Nat.le_refl _) hm (by simp [btV])
  simpa [OwnB] using h
/-- A row that was appended to: only it, and what is new, has turned. -/
structure Grew (B : Nat) (w w' : World) (v v' : Value) (l' : List Int) : Prop where
  own : OwnB w' B v' l'
  grow : w.grownBy w' v.ownBlock
  at_ : v'.ownBlock = v.ownBlock ∨ ∃ g, v'.ownBlock = some g ∧ w.heap.size ≤ g
theorem Grew.refl {B : Nat} {w : World} {v : Value} {l : List Int} (h : OwnB w B v l) : Grew B w w v v l := ⟨h, World.grownBy.refl _ _, .inl rfl⟩
theorem Grew.trans {B B' : Nat} {w w1 w2 : World} {v v1 v2 : Value} {l1 l2 : List Int} (h : Grew B' w w1 v v1 l1) (k : Grew B w1 w2 v1 v2 l2) : Grew B w w2 v v2 l2 := by
  refine ⟨k.own, ⟨k.grow.os.trans h.grow.os, k.grow.tape.trans h.grow.tape, k.grow.output.trans h.grow.output, Nat.le_trans h.grow.size k.grow.size, fun i hi hn => ?_⟩, ?_⟩
  · refine (k.grow.block i (Nat.lt_of_lt_of_le hi h.grow.size) fun e => ?_).trans (h.grow.block i hi hn)
    rcases h.at_ with h1 | ⟨g, h1, h2⟩
    · exact hn (e.trans h1)
    · rw [h1] at e; injection e with e; omega
  · rcases k.at_ with k1 | ⟨g, k1, k2⟩
    · rcases h.at_ with h1 | ⟨g, h1, h2⟩
      · exact .inl (k1.trans h1)
      · exact .inr ⟨g, k1.trans h1, h2⟩
    · exact .inr ⟨g, k1, Nat.le_trans h.grow.size k2⟩
theorem Grew.pre {B : Nat} {w w1 w2 : World} {v v2 : Value} {l2 : List Int} (h : Below w.heap.size w w1) (k : Grew B w1 w2 v v2 l2) : Grew B w w2 v v2 l2 := by
  refine ⟨k.own, ⟨k.grow.os.trans h.os, k.grow.tape.trans h.tape, k.grow.output.trans h.output, Nat.le_trans h.size k.grow.size, fun i hi hn => (k.grow.block i (Nat.lt_of_lt_of_le hi h.size) hn).trans (h.block i hi)⟩, ?_⟩
  rcases k.at_ with k1 | ⟨g, k1, k2⟩
  · exact .inl k1
  · exact .inr ⟨g, k1, Nat.le_trans h.size k2⟩
theorem Grew.post {B : Nat} {w w1 w2 : World} {v v1 : Value} {l1 : List Int} (h : Grew B w w1 v v1 l1) (k : Below w1.heap.size w1 w2) : Grew B w w2 v v1 l1 :=
  ⟨h.own.then_ k, ⟨k.os.trans h.grow.os, k.tape.trans h.grow.tape, k.output.trans h.grow.output, Nat.le_trans h.grow.size k.size, fun i hi hn => (k.block i (Nat.lt_of_lt_of_le hi h.grow.size)).trans (h.grow.block i hi hn)⟩, h.at_⟩
theorem Grew.below {B C : Nat} {a w w' : World} {v v' : Value} {l l' : List Int} (h : Grew B w w' v v' l') (hv : OwnB w B v l) (ha : Below C a w) (hC : C ≤ B) (hB : B ≤ w.heap.size) : Below C a w' :=
  ha.grown h.grow (Nat.le_trans hC hB) (fun g hg => Nat.le_trans hC (hv.block g hg).1)
theorem Grew.size {B : Nat} {w w' : World} {v v' : Value} {l' : List Int} (h : Grew B w w' v v' l') : w.heap.size ≤ w'.heap.size := h.grow.size
/-- Another block is as it was. -/
theorem Grew.row {B : Nat} {w w' : World} {v v' : Value} {l' : List Int} (h : Grew B w w' v v' l') {g : Nat} {o : Obj} (hg : w.heap[g]? = some o) (hn : ∀ b, v.ownBlock = some b → b ≠ g) : w'.heap[g]? = some o := by
  have hlt : g < w.heap.size := by
    rcases Nat.lt_or_ge g w.heap.size with h | h
    · exact h
    · rw [Array.getElem?_eq_none h] at hg; cases hg
  rw [h.grow.block g hlt (fun e => hn g e.symm rfl)]
  exact hg
theorem Grew.off {B : Nat} {w w' : World} {v v' : Value} {l' : List Int} (h : Grew B w w' v v' l') {g : Nat} (hg : g < w.heap.size) (hn : ∀ b, v.ownBlock = some b → b ≠ g) : ∀ b, v'.ownBlock = some b → b ≠ g := by
  intro b hb
  rcases h.at_ with h1 | ⟨k, h1, h2⟩
  · exact hn b (h1 ▸ hb)
  · rw [h1] at hb; injection hb with hb; omega
/-- A box that was made behind the row, and what is then appended. -/
theorem OwnB.behind {B : Nat} {w : World} {v : Value} {l : List Int} (h : OwnB w B v l) : ∀ b, v.ownBlock = some b → b ≠ w.heap.size := fun b hb e => by have := (h.block b hb).2; omega
/-- The runs. -/
theorem run_apB (w : World) (ty : TypeId) (B : Nat) (v : Value) (l : List Int) (hown : OwnB w B v l) (ad : Addr) (n c : Nat) (bs : List Int) (hn : bs.length = n) (hg : ∀ j u, (btV bs)[j]? = some u → w.cell? (ad.add j) = some u) (hl : l.length + n ≤ 140737488355328) (hB : B ≤ w.heap.size) :
    ∃ v' w', (Builtin.append_ #[22, 22] ty #[v, .slice (some ad) n c]).run Tryd.prog w = .ok v' w' ∧ Grew B w w' v v' (l ++ bs) := by
  subst hn
  obtain ⟨i0, hi0, hz0, hz1, hz2⟩ := info_parts info_byte
  obtain ⟨v', w', hr, h1, h2, -, h4⟩ := run_append_own_at (P := Tryd.prog) w B 22 ty 5 i0 _ 1 1 Tryd.underlying22 hi0 hz0 hz1 hz2 rfl (by decide) v l.length (btV l) hown ad bs.length c (btV bs) (by rw [btV_len]; omega) hg (btV_one bs) (by unfold maxLen; omega) (by omega) hB
  refine ⟨v', w', hr, ?_, h2, ?_⟩
  · unfold OwnB
    rw [List.length_append, btV_append]
    exact h1
  · rcases h4 with h4 | h4
    · exact .inl h4
    · exact .inr ⟨_, h4, Nat.le_refl _⟩
theorem run_apR (w : World) (ty : TypeId) (B : Nat) (v : Value) (l : List Int) (hown : OwnB w B v l) (b : Option Addr) (n c : Nat) (bs : List Int) (hn : bs.length = n) (hb : InB w b bs) (h0 : b = none → c = 0 ∧ bs = []) (hl : l.length + n ≤ 140737488355328) (hB : B ≤ w.heap.size) :
    ∃ v' w', (Builtin.append_ #[22, 22] ty #[v, .slice b n c]).run Tryd.prog w = .ok v' w' ∧ Grew B w w' v v' (l ++ bs) := by
  cases b with
  | none =>
    obtain ⟨rfl, rfl⟩ := h0 rfl
    subst hn
    obtain ⟨i0, hi0, hz0, hz1, hz2⟩ := info_parts info_byte
    exact ⟨v, w, run_append_owned_none (P := Tryd.prog) (w := w) B 22 ty 5 i0 1 Tryd.underlying22 hi0 v l.length (btV l) hown, by simpa using Grew.refl hown⟩
  | some ad =>
    refine run_apB w ty B v l hown ad n c bs hn (fun j u hj => ?_) hl hB
    rw [btV, List.getElem?_map, Option.map_eq_some_iff] at hj
    obtain ⟨y, hy, rfl⟩ := hj
    obtain ⟨bb, oo, e, hc⟩ := hb j y hy
    injection e with e
    subst e
    rw [show (⟨bb, oo, none⟩ : Addr).add j = ⟨bb, oo + j, none⟩ by unfold Addr.add; split <;> simp_all]
    exact hc
theorem run_apS (w : World) (ty : TypeId) (B : Nat) (v : Value) (l : List Int) (hown : OwnB w B v l) (t : ByteArray) (hl : l.length + t.size ≤ 140737488355328) (hB : B ≤ w.heap.size) :
    ∃ v' w', (Builtin.append_ #[22, 9] ty #[v, .string t]).run Tryd.prog w = .ok v' w' ∧ Grew B w w' v v' (l ++ bsI t) := by
  obtain ⟨i0, hi0, hz0, hz1, hz2⟩ := info_parts info_byte
  obtain ⟨v', w', hr, h1, h2, h3⟩ := Lib.run_append_own_string (P := Tryd.prog) w B 22 9 ty 5 i0 Tryd.underlying22 Tryd.underlying9 hi0 hz0 hz1 hz2 v l.length (btV l) hown t (by unfold maxLen; omega) hl hB
  refine ⟨v', w', hr, ?_, h2, ?_⟩
  · unfold OwnB
    rw [List.length_append, bsI_len, btV_append, ← strCells_bs]
    exact h1
  · have hown' := hown
    rcases hown.2 with ⟨rfl, hn⟩ | ⟨g, cap, cur, rfl, hbg, hg, hnc, hcm, hcs, htake⟩
    · by_cases hm : t.size = 0
      · rw [h3.2 ⟨rfl, hm⟩]; exact .inl rfl
      · have hq := run_append_nil_string (P := Tryd.prog) w 22 9 ty 5 i0 (.int .u8 0) Tryd.underlying22 Tryd.underlying9 hi0 hz0 t (by omega) (by omega) (by rw [hz2]; omega)
        rw [hr] at hq
        injection hq with hq _
        rw [hq]
        exact .inr ⟨_, rfl, Nat.le_refl _⟩
    · by_cases hroom : l.length + t.size ≤ cap
      · have hq := Lib.run_append_room_string (P := Tryd.prog) w 22 9 ty 5 i0 Tryd.underlying22 Tryd.underlying9 hi0 hz1 g l.length cap cur hg t hroom (by rw [hcs]; omega)
        rw [hr] at hq
        injection hq with hq _
        rw [hq]
        exact .inl rfl
      · have holds : ∀ j u, (btV l)[j]? = some u → w.cell? ((⟨g, 0, none⟩ : Addr).add j) = some u := World.ownsRow.cells hown' (g := g) rfl
        have hq := Lib.run_append_grow_string (P := Tryd.prog) w 22 9 ty 5 i0 (.int .u8 0) Tryd.underlying22 Tryd.underlying9 hi0 hz0 ⟨g, 0, none⟩ l.length cap (btV l) (by rw [hz1, btV_len]; omega) holds t (by omega) (by omega) (by rw [hz2]; exact growslice_fits (by omega) (by omega))
        rw [hr] at hq
        injection hq with hq _
        rw [hq]
        exact .inr ⟨_, rfl, Nat.le_refl _⟩
/-- The steps: at a list of operations, and in a region that draws. -/
theorem wpList_ap {ops : Array Oper} {rest : List Oper} {o : Oper} {a : Act} {w : World} {Q : Exit → Act → World → Prop} (hgd : o.guard = none) (s x : Operand) (t u : TypeId)
    (ho : o.op = .call { callee := .builtin .append, args := #[s, x], argTypes := #[t, u] }) (y y' v' : Value) (w' : World) (hs : a.eval s = y) (hx : a.eval x = y') (hr : (Builtin.append_ #[t, u] o.type #[y, y']).run Tryd.prog w = .ok v' w')
    (h : wpList Tryd.prog ops Q rest (a.put o.dst v') w') : wpList Tryd.prog ops Q (o :: rest) a w := by
  refine wpList_plain hgd fun K hK => ?_
  unfold Oper.wp execOp
  simp only [ho, resolve, invoke, builtin, Sem.run_bind, Sem.run_pure, Result.andThen_ok, List.map_toArray, List.map_cons, List.map_nil, hs, hx, hr]
  exact hK _ _ h
theorem step_ap {ops : Array Oper} {o : Oper} {a : Act} {w : World} {K : Act → World → Prop} {Q : Exit → Act → World → Prop} {E : Prop} (hgd : o.guard = none) (s x : Operand) (t u : TypeId)
    (ho : o.op = .call { callee := .builtin .append, args := #[s, x], argTypes := #[t, u] }) (y y' v' : Value) (w' : World) (hs : a.eval s = y) (hx : a.eval x = y') (hr : (Builtin.append_ #[t, u] o.type #[y, y']).run Tryd.prog w = .ok v' w')
    (h : K (a.put o.dst v') w') : if Region.wanted o (yielded ops a.tmps) = true then Oper.wp Tryd.prog o a w K Q else E := by
  have hw : Region.wanted o (yielded ops a.tmps) = true := by simp [Region.wanted, hgd]
  rw [if_pos hw]
  unfold Oper.wp execOp
  simp only [ho, resolve, invoke, builtin, Sem.run_bind, Sem.run_pure, Result.andThen_ok, List.map_toArray, List.map_cons, List.map_nil, hs, hx, hr]
  exact h
/-- 'append(b, x, y ..)': the bytes lie in a block just made. -/
theorem apL {ops : Array Oper} {rest : List Oper} {o : Oper} {a : Act} {w : World} {Q : Exit → Act → World → Prop} (cs : Array Value) (hgd : o.guard = none) (s x : Operand)
    (ho : o.op = .call { callee := .builtin .append, args := #[s, x], argTypes := #[22, 22] }) (B : Nat) (v : Value) (l : List Int) (hs : a.eval s = v) (hown : OwnB w B v l)
    (bs : List Int) (g n c : Nat) (hx : a.eval x = .slice (some ⟨g, 0, none⟩) n c) (hg : g = w.heap.size) (hc : cs = (btV bs).toArray) (hn : bs.length = n) (hl : l.length + n ≤ 140737488355328) (hB : B ≤ w.heap.size)
    (h : ∀ v' w', Grew B w w' v v' (l ++ bs) → wpList Tryd.prog ops Q rest (a.put o.dst v') w') : wpList Tryd.prog ops Q (o :: rest) a (w.alloc (.cells cs 5)) := by
  subst hc hg
  obtain ⟨v', w', hr, h1⟩ := run_apB (w.alloc (.cells (btV bs).toArray 5)) o.type B v l (hown.alloc _) ⟨w.heap.size, 0, none⟩ n c bs hn (news_at w _ _ _ rfl) hl (Nat.le_trans hB (below1 _ _).size)
  exact wpList_ap hgd s x _ _ ho _ _ v' w' hs hx hr (h v' w' (h1.pre (below1 _ _)))
theorem stL {ops : Array Oper} {o : Oper} {a : Act} {w : World} {K : Act → World → Prop} {Q : Exit → Act → World → Prop} {E : Prop} (cs : Array Value) (hgd : o.guard = none) (s x : Operand)
    (ho : o.op = .call { callee := .builtin .append, args := #[s, x], argTypes := #[22, 22] }) (B : Nat) (v : Value) (l : List Int) (hs : a.eval s = v) (hown : OwnB w B v l)
    (bs : List Int) (g n c : Nat) (hx : a.eval x = .slice (some ⟨g, 0, none⟩) n c) (hg : g = w.heap.size) (hc : cs = (btV bs).toArray) (hn : bs.length = n) (hl : l.length + n ≤ 140737488355328) (hB : B ≤ w.heap.size)
    (h : ∀ v' w', Grew B w w' v v' (l ++ bs) → K (a.put o.dst v') w') : if Region.wanted o (yielded ops a.tmps) = true then Oper.wp Tryd.prog o a (w.alloc (.cells cs 5)) K Q else E := by
  subst hc hg
  obtain ⟨v', w', hr, h1⟩ := run_apB (w.alloc (.cells (btV bs).toArray 5)) o.type B v l (hown.alloc _) ⟨w.heap.size, 0, none⟩ n c bs hn (news_at w _ _ _ rfl) hl (Nat.le_trans hB (below1 _ _).size)
  exact step_ap hgd s x _ _ ho _ _ v' w' hs hx hr (h v' w' (h1.pre (below1 _ _)))
theorem wpList_apB {ops : Array Oper} {rest : List Oper} {o : Oper} {a : Act} {w : World} {Q : Exit → Act → World → Prop} (hgd : o.guard = none) (s x : Operand)
    (ho : o.op = .call { callee := .builtin .append, args := #[s, x], argTypes := #[22, 22] }) (B : Nat) (v : Value) (l : List Int) (hs : a.eval s = v) (hown : OwnB w B v l)
    (ad : Addr) (n c : Nat) (bs : List Int) (hx : a.eval x = .slice (some ad) n c) (hn : bs.length = n) (hg : ∀ j u, (btV bs)[j]? = some u → w.cell? (ad.add j) = some u) (hl : l.length + n ≤ 140737488355328) (hB : B ≤ w.heap.size)
    (h : ∀ v' w', Grew B w w' v v' (l ++ bs) → wpList Tryd.prog ops Q rest (a.put o.dst v') w') : wpList Tryd.prog ops Q (o :: rest) a w := by
  obtain ⟨v', w', hr, h1⟩ := run_apB w o.type B v l hown ad n c bs hn hg hl hB
  exact wpList_ap hgd s x _ _ ho _ _ v' w' hs hx hr (h v' w' h1)
/-- 'append(b, x...)', of a row that lies there, or of none. -/
theorem apR {ops : Array Oper} {rest : List Oper} {o : Oper} {a : Act} {w : World} {Q : Exit → Act → World → Prop} (hgd : o.guard = none) (s x : Operand)
    (ho : o.op = .call { callee := .builtin .append, args := #[s, x], argTypes := #[22, 22] }) (B : Nat) (v : Value) (l : List Int) (hs : a.eval s = v) (hown : OwnB w B v l)
    (b : Option Addr) (n c : Nat) (bs : List Int) (hx : a.eval x = .slice b n c) (hn : bs.length = n) (hb : InB w b bs) (h0 : b = none → c = 0 ∧ bs = []) (hl : l.length + n ≤ 140737488355328) (hB : B ≤ w.heap.size)
    (h : ∀ v' w', Grew B w w' v v' (l ++ bs) → wpList Tryd.prog ops Q rest (a.put o.dst v') w') : wpList Tryd.prog ops Q (o :: rest) a w := by
  obtain ⟨v', w', hr, h1⟩ := run_apR w o.type B v l hown b n c bs hn hb h0 hl hB
  exact wpList_ap hgd s x _ _ ho _ _ v' w' hs hx hr (h v' w' h1)
theorem stR {ops : Array Oper} {o : Oper} {a : Act} {w : World} {K : Act → World → Prop} {Q : Exit → Act → World → Prop} {E : Prop} (hgd : o.guard = none) (s x : Operand)
    (ho : o.op = .call { callee := .builtin .append, args := #[s, x], argTypes := #[22, 22] }) (B : Nat) (v : Value) (l : List Int) (hs : a.eval s = v) (hown : OwnB w B v l)
    (b : Option Addr) (n c : Nat) (bs : List Int) (hx : a.eval x = .slice b n c) (hn : bs.length = n) (hb : InB w b bs) (h0 : b = none → c = 0 ∧ bs = []) (hl : l.length + n ≤ 140737488355328) (hB : B ≤ w.heap.size)
    (h : ∀ v' w', Grew B w w' v v' (l ++ bs) → K (a.put o.dst v') w') : if Region.wanted o (yielded ops a.tmps) = true then Oper.wp Tryd.prog o a w K Q else E := by
  obtain ⟨v', w', hr, h1⟩ := run_apR w o.type B v l hown b n c bs hn hb h0 hl hB
  exact step_ap hgd s x _ _ ho _ _ v' w' hs hx hr (h v' w' h1)
/-- 'append(b, s...)', of a text. -/
theorem apS {ops : Array Oper} {rest : List Oper} {o : Oper} {a : Act} {w : World} {Q : Exit → Act → World → Prop} (hgd : o.guard = none) (s x : Operand)
    (ho : o.op = .call { callee := .builtin .append, args := #[s, x], argTypes := #[22, 9] }) (B : Nat) (v : Value) (l : List Int) (hs : a.eval s = v) (hown : OwnB w B v l)
    (t : ByteArray) (hx : a.eval x = .string t) (hl : l.length + t.size ≤ 140737488355328) (hB : B ≤ w.heap.size)
    (h : ∀ v' w', Grew B w w' v v' (l ++ bsI t) → wpList Tryd.prog ops Q rest (a.put o.dst v') w') : wpList Tryd.prog ops Q (o :: rest) a w := by
  obtain ⟨v', w', hr, h1⟩ := run_apS w o.type B v l hown t hl hB
  exact wpList_ap hgd s x _ _ ho _ _ v' w' hs hx hr (h v' w' h1)
theorem stS {ops : Array Oper} {o : Oper} {a : Act} {w : World} {K : Act → World → Prop} {Q : Exit → Act → World → Prop} {E : Prop} (hgd : o.guard = none) (s x : Operand)
    (ho : o.op = .call { callee := .builtin .append, args := #[s, x], argTypes := #[22, 9] }) (B : Nat) (v : Value) (l : List Int) (hs : a.eval s = v) (hown : OwnB w B v l)
    (t : ByteArray) (hx : a.eval x = .string t) (hl : l.length + t.size ≤ 140737488355328) (hB : B ≤ w.heap.size)
    (h : ∀ v' w', Grew B w w' v v' (l ++ bsI t) → K (a.put o.dst v') w') : if Region.wanted o (yielded ops a.tmps) = true then Oper.wp Tryd.prog o a w K Q else E := by
  obtain ⟨v', w', hr, h1⟩ := run_apS w o.type B v l hown t hl hB
  exact step_ap hgd s x _ _ ho _ _ v' w' hs hx hr (h v' w' h1)
/-- Bytes are bytes. -/
def isB (l : List Int) : Prop := ∀ b ∈ l, 0 ≤ b ∧ b ≤ 255
theorem isB.append {a b : List Int} (h : isB a) (k : isB b) : isB (a ++ b) := fun x hx => (List.mem_append.1 hx).elim (h x) (k x)
theorem isB.cons {x : Int} {b : List Int} (h : 0 ≤ x ∧ x ≤ 255) (k : isB b) : isB (x :: b) := fun y hy => (List.mem_cons.1 hy).elim (fun e => e ▸ h) (k y)
theorem isB.nil : isB [] := fun x hx => by cases hx
theorem isB_bsI (s : ByteArray) : isB (bsI s) := fun b hb => by
  obtain ⟨x, _, rfl⟩ := List.mem_map.1 hb
  have := x.toNat_lt
  omega
theorem isB_leB (k : Nat) (n : Int) : isB (leB k n) := by
  induction k generalizing n with
  | zero => exact isB.nil
  | succ k ih => exact isB.cons (by omega) (ih _)
theorem bsI_str {l : List Int} (h : isB l) : bsI (strOfNums l) = l := by
  rw [bsI, strOfNums_data, List.map_map]
  conv => rhs; rw [← List.map_id l]
  apply List.map_congr_left
  intro x hx
  have := h x hx
  show ((UInt8.ofNat x.toNat).toNat : Int) = x
  rw [UInt8.toNat_ofNat']
  omega
theorem run_str (w : World) (a : Option Addr) (n c : Nat) (l : List Int) (hn : l.length = n) (ha : InB w a l) (h0 : a = none → l = []) :
    (convert 22 9 (.slice a n c)).run Tryd.prog w = .ok (.string (strOfNums l)) w := by
  cases a with
  | none =>
    rw [h0 rfl]
    exact run_convert_bytes_nil (P := Tryd.prog) w 22 5 Tryd.underlying22 Tryd.underlying5 n c 9 Tryd.underlying9
  | some ad =>
    by_cases hl : l = []
    · subst hl
      simp at hn
      subst hn
      obtain ⟨b, o, s⟩ := ad
      have hld : (loadCells ⟨b, o, s⟩ 0).run Tryd.prog w = .ok #[] w := by simp [loadCells, loadCellsFrom]
      rw [run_convert_bytes_string w 22 9 5 _ 0 c Tryd.underlying22 Tryd.underlying5 Tryd.underlying9]
      have := run_bytesToString (P := Tryd.prog) w ⟨b, o, s⟩ 0 c [] (by simpa using hld)
      rw [this]
      rfl
    · obtain ⟨b, o, e, -⟩ := ha 0 _ (List.getElem?_eq_getElem (List.length_pos_iff.2 hl))
      injection e with e
      subst e
      refine run_convert_bytes_arg (P := Tryd.prog) w 22 5 Tryd.underlying22 Tryd.underlying5 b o n c l hn (fun i hi => ?_) 9 Tryd.underlying9
      obtain ⟨b', o', e, hc⟩ := ha i _ (List.getElem?_eq_getElem (by omega))
      injection e with e
      injection e with e1 e2
      subst e1 e2
      rw [hc]
      simp [List.getD, List.getElem?_eq_getElem (show i < l.length by omega)]
theorem only_grow {w w' : World} {row : Option Nat} (h : w.grownBy w' row) : Only row.toList w w' := ⟨h.os, h.tape, h.output, h.size, fun k hk hn => h.block k hk (by rintro rfl; exact hn (by simp))⟩
theorem OwnB.only {w w' : World} {B : Nat} {v : Value} {l : List Int} {S : List Nat} (h : OwnB w B v l) (ho : Only S w w') (hS : ∀ b ∈ S, b < B) : OwnB w' B v l := h.keep fun g hg => ho.block g (h.block g hg).2 (fun hc => by have := hS _ hc; have := (h.block g hg).1; omega)
theorem OwnB.form {w : World} {B : Nat} {v : Value} {l : List Int} (h : OwnB w B v l) (hl : 1 ≤ l.length) : ∃ g c, v = .slice (some ⟨g, 0, none⟩) l.length c ∧ l.length ≤ c := by
  obtain ⟨g, c, rfl, -, -⟩ := World.ownsRow.form h hl
  refine ⟨g, c, rfl, ?_⟩
  obtain ⟨h1, h2⟩ := h
  rcases h2 with ⟨hv, _⟩ | ⟨g', cap, cur, hv, _, _, hle, _⟩
  · cases hv
  · injection hv with _ _ e; omega
theorem OwnB.set {w : World} {B g n c : Nat} {l : List Int} (h : OwnB w B (.slice (some ⟨g, 0, none⟩) n c) l) (j : Nat) (x : Int) : OwnB (w.setCell ⟨g, j, none⟩ (.int .u8 x)) B (.slice (some ⟨g, 0, none⟩) n c) (l.set j x) ∧ w.grownBy (w.setCell ⟨g, j, none⟩ (.int .u8 x)) (some g) := by
  have hn : n = l.length := by
    obtain ⟨h1, h2⟩ := h
    rcases h2 with ⟨hv, _⟩ | ⟨g', cap, cur, hv, _⟩
    · cases hv
    · injection hv
  subst hn
  obtain ⟨h1, h2⟩ := World.ownsRow.stored h j (.int .u8 x)
  refine ⟨?_, h2⟩
  unfold OwnB
  rw [List.length_set, btV, List.map_set]
  exact h1
theorem OwnB.at_ {w : World} {B g n c : Nat} {l : List Int} (h : OwnB w B (.slice (some ⟨g, 0, none⟩) n c) l) {j : Nat} {x : Int} (hx : l[j]? = some x) : w.cell? ⟨g, j, none⟩ = some (.int .u8 x) ∧ w.frozen? ⟨g, j, none⟩ = false := by
  have hn : n = l.length := by
    obtain ⟨h1, h2⟩ := h
    rcases h2 with ⟨hv, _⟩ | ⟨g', cap, cur, hv, _⟩
    · cases hv
    · injection hv
  subst hn
  refine ⟨?_, World.ownsRow.frozenAt h j⟩
  rw [World.ownsRow.cellAt h j (by have := lt_of_get hx; omega), btV, List.getElem?_map, hx]
  rfl
/-- A row that was written over so far. -/
theorem fill_set {l : List Int} {k : Nat} (hk : k < l.length) (x : Int) : (List.replicate k x ++ l.drop k).set k x = List.replicate (k + 1) x ++ l.drop (k + 1) := by
  rw [List.set_append_right _ _ (by simp), List.length_replicate, Nat.sub_self, List.drop_eq_getElem_cons hk, List.set_cons_zero, List.replicate_succ', List.append_assoc]
  rfl
theorem fill_len {l : List Int} {k : Nat} (hk : k ≤ l.length) (x : Int) : (List.replicate k x ++ l.drop k).length = l.length := by simp; omega
theorem OwnB.slice {w : World} {B n c : Nat} {a : Option Addr} {l : List Int} (h : OwnB w B (.slice a n c) l) : n = l.length := by
  obtain ⟨a', c', e, -⟩ := h.shape
  injection e
theorem OwnB.grown {w w' : World} {B : Nat} {v : Value} {l : List Int} {row : Option Nat} (h : OwnB w B v l) (hg : w.grownBy w' row) (hn : ∀ g, v.ownBlock = some g → row ≠ some g) : OwnB w' B v l :=
  h.keep fun g hg' => hg.block g (h.block g hg').2 (fun e => hn g hg' e.symm)
theorem OwnB.inB {w : World} {B g n c : Nat} {l : List Int} (h : OwnB w B (.slice (some ⟨g, 0, none⟩) n c) l) : InB w (some ⟨g, 0, none⟩) l := fun i x hx => ⟨g, 0, rfl, by rw [Nat.zero_add]; exact (h.at_ hx).1⟩
theorem InB.prefix_ {w : World} {a : Option Addr} {l m : List Int} (h : InB w a (l ++ m)) : InB w a l := fun i x hx => h i x (by rw [List.getElem?_append_left (lt_of_get hx)]; exact hx)
end Go.Proofs.YtophhnolnlbecaaDoor
namespace Go.Proofs.YtophhnolnlbecaaDoor
open Go.RowKit
set_option maxRecDepth 100000

/-- The number that bytes are, the lowest first. -/
def valB : List Int → Int
  | [] => 0
  | b :: r => b + 256 * valB r
theorem valB_append (a b : List Int) : valB (a ++ b) = valB a + 256 ^ a.length * valB b := by
  induction a with
  | nil => simp [valB]
  | cons x a ih =>
    rw [List.cons_append, valB, valB, ih, List.length_cons, Int.pow_succ, Int.mul_add, Int.add_assoc, Int.mul_comm (256 ^ a.length) 256, Int.mul_assoc]
theorem valB_le {l : List Int} (h : isB l) : 0 ≤ valB l ∧ valB l < 256 ^ l.length := by
  induction l with
  | nil => simp [valB]
  | cons b r ih =>
    have h1 := h b (by simp)
    have h2 := ih fun x hx => h x (by simp [hx])
    rw [valB, List.length_cons, Int.pow_succ]
    omega
theorem valB_leB (k : Nat) (n : Int) (h0 : 0 ≤ n) : valB (leB k n) = n % 256 ^ k := by
  induction k generalizing n with
  | zero => simp [leB, valB]
  | succ k ih =>
    rw [leB, valB, ih (n / 256) (by omega), Int.pow_succ, Int.mul_comm (256 ^ k) 256]
    have hp : (0 : Int) < 256 ^ k := Int.pow_pos (by omega)
    rw [Int.emod_def n (256 * 256 ^ k), Int.emod_def (n / 256) (256 ^ k), ← Int.ediv_ediv_of_nonneg (by omega), Int.mul_assoc]
    generalize 256 ^ k * (n / 256 / 256 ^ k) = q
    omega
theorem leB_valB (l : List Int) (h : isB l) : leB l.length (valB l) = l := by
  induction l with
  | nil => rfl
  | cons b r ih =>
    have h1 := h b (by simp)
    rw [List.length_cons, leB, valB]
    have e1 : (b + 256 * valB r) % 256 = b := by omega
    have e2 : (b + 256 * valB r) / 256 = valB r := by omega
    rw [e1, e2, ih fun x hx => h x (by simp [hx])]

def okN (n size : Int) : Bool := decide (1 ≤ size ∧ size ≤ 8 ∧ 0 ≤ n ∧ n / 256 ^ size.toNat = 0)
def numL (n size : Int) : List Int := if okN n size then leB size.toNat n else []
def numE (n size : Int) : Int := if okN n size then 0 else 1
/-- What Number tells. -/
def NumTo (n size : Int) (w : World) (e : Ending) (w' : World) : Prop := ∃ v, e = .returned (.tuple #[v, .int .i64 (numE n size)]) ∧ OwnB w' w.heap.size v (numL n size) ∧ Below w.heap.size w w'
set_option maxHeartbeats 2000000 in
theorem refNumber_any (n size : Int) (hn : okInt n) (w : World) : Calls Tryd.prog 58 #[.int .i64 n, .int .i64 size] w (NumTo n size w) := by
  obtain ⟨i0, hi0, hz0, hz1, hz2⟩ := info_parts info_byte
  have I0 := Lib.hid (And.intro hi0 (And.intro hz0 (And.intro hz1 hz2)))
  clear hi0 hz0 hz1 hz2
  unfold okInt at hn
  by_cases h1 : size < 1
  · have hk : okN n size = false := decide_eq_false (by omega)
    have HE : NumTo n size w (.returned (.tuple #[.slice none 0 0, .int .i64 1])) w := ⟨_, by rw [numE, hk]; rfl, by rw [numL, hk]; exact OwnB.nil _ _, Below.refl _ _⟩
    clear hk
    have HE := Lib.hid HE
    go_enter Tryd.func58, Tryd.ntmps58
    go_wp2
    go_ret2
    exact HE.out
  by_cases h2 : size > 8
  · have hk : okN n size = false := decide_eq_false (by omega)
    have HE : NumTo n size w (.returned (.tuple #[.slice none 0 0, .int .i64 1])) w := ⟨_, by rw [numE, hk]; rfl, by rw [numL, hk]; exact OwnB.nil _ _, Below.refl _ _⟩
    clear hk
    have HE := Lib.hid HE
    go_enter Tryd.func58, Tryd.ntmps58
    go_wp2
    go_ret2
    exact HE.out
  by_cases h3 : n < 0
  · have hk : okN n size = false := decide_eq_false (by omega)
    have HE : NumTo n size w (.returned (.tuple #[.slice none 0 0, .int .i64 1])) w := ⟨_, by rw [numE, hk]; rfl, by rw [numL, hk]; exact OwnB.nil _ _, Below.refl _ _⟩
    clear hk
    have HE := Lib.hid HE
    go_enter Tryd.func58, Tryd.ntmps58
    go_wp2
    go_ret2
    exact HE.out
  obtain ⟨s, rfl⟩ := Int.eq_ofNat_of_zero_le (show 0 ≤ size by omega)
  have hs8 : s ≤ 8 := by omega
  have hn0 : 0 ≤ n := by omega
  go_enter Tryd.func58, Tryd.ntmps58
  go_wp2
  go_loopw [0, 6, 7] (fun u v i wr => ∃ (k : Nat) (x : Int), k ≤ s ∧ i = .int .i64 k ∧ u = .int .i64 x ∧ 0 ≤ x ∧ x ≤ n ∧ Hid (x = n / 256 ^ k ∧ OwnB wr w.heap.size v (leB k n)) ∧ Below w.heap.size w wr) (fun _ _ i _ => s - (intOf i).toNat)
  case atStart => exact ⟨0, n, by omega, rfl, rfl, by omega, by omega, ⟨by simp, OwnB.nil _ _⟩, Below.refl _ _⟩
  case round =>
    obtain ⟨k, x, hk, rfl, rfl, hx0, hx1, HK, hbel⟩ := hrel
    have hz := hbel.size
    by_cases hlt : k < s
    · go_wp2_with (at_builtin; refine apL _ rfl (.tmp 23) (.tmp 27) rfl w.heap.size _ _ rfl HK.2 [x % 256] _ 1 1 rfl rfl rfl rfl (by rw [leB_len]; omega) hz ?_; intro v' w1 hg; have G1 := Lib.hid hg; clear hg)
      go_roundw
      case rel =>
        refine ⟨k + 1, x / 256, by omega, by go_num, by go_num, by omega, by omega, ⟨?_, ?_⟩, G1.out.below HK.2 hbel (Nat.le_refl _) hz⟩
        · rw [HK.1, Int.ediv_ediv_of_nonneg (Int.pow_nonneg (by omega)), Int.pow_succ]
        · rw [leB_snoc, ← HK.1]; exact G1.out.own
      case measure => simp [intOf]; omega
    · have hks : k = s := by omega
      rw [hks] at HK
      by_cases hp : 0 < x
      · have hkk : okN n s = false := decide_eq_false (by rw [Int.toNat_natCast, ← HK.1]; omega)
        have HE : NumTo n s w (.returned (.tuple #[.slice none 0 0, .int .i64 1])) wr := ⟨_, by rw [numE, hkk]; rfl, by rw [numL, hkk]; exact OwnB.nil _ _, hbel⟩
        clear hkk HK
        have HE := Lib.hid HE
        go_wp2
        go_ret2
        exact HE.out
      · have hkk : okN n s = true := decide_eq_true (by rw [Int.toNat_natCast, ← HK.1]; omega)
        have HE : NumTo n s w (.returned (.tuple #[u6, .int .i64 0])) wr := ⟨_, by rw [numE, hkk]; rfl, by rw [numL, hkk]; exact HK.2, hbel⟩
        clear hkk HK
        have HE := Lib.hid HE
        go_wp2
        go_ret2
        exact HE.out
end Go.Proofs.YtophhnolnlbecaaDoor
namespace Go.Proofs.YtophhnolnlbecaaDoor
/-- A turn of a number. -/
def turn (r : Nat) : Nat := if r % 2 = 1 then r / 2 ^^^ 3988292384 else r / 2
def turnsN : Nat → Nat → Nat
  | 0, r => r
  | n + 1, r => turnsN n (turn r)
theorem turnsN_add (m n r : Nat) : turnsN (m + n) r = turnsN n (turnsN m r) := by
  induction m generalizing r with
  | zero => simp [turnsN]
  | succ m ih => rw [Nat.succ_add, turnsN, turnsN, ih]
theorem turnsN_succ (n r : Nat) : turnsN (n + 1) r = turn (turnsN n r) := by rw [turnsN_add]; rfl
theorem turn_zero : turn 0 = 0 := rfl
theorem turnsN_zero (n : Nat) : turnsN n 0 = 0 := by
  induction n with
  | zero => rfl
  | succ n ih => rw [turnsN, turn_zero, ih]
theorem xor_self_left (a b : Nat) : a ^^^ (a ^^^ b) = b := by rw [← Nat.xor_assoc, Nat.xor_self, Nat.zero_xor]
theorem xor_left_comm (a b c : Nat) : a ^^^ (b ^^^ c) = b ^^^ (a ^^^ c) := by rw [← Nat.xor_assoc, Nat.xor_comm a b, Nat.xor_assoc]
theorem turn_xor (a b : Nat) : turn (a ^^^ b) = turn a ^^^ turn b := by
  unfold turn
  have h := @Nat.xor_mod_two_eq_one a b
  have e := @Nat.xor_div_two a b
  generalize 3988292384 = P
  by_cases ha : a % 2 = 1 <;> by_cases hb : b % 2 = 1
  · rw [if_neg (by rw [h]; simp [ha, hb]), if_pos ha, if_pos hb, e, Nat.xor_assoc, xor_left_comm P, Nat.xor_self, Nat.xor_zero]
  · rw [if_pos (by rw [h]; simp [ha, hb]), if_pos ha, if_neg hb, e, Nat.xor_assoc, Nat.xor_assoc, Nat.xor_comm P]
  · rw [if_pos (by rw [h]; simp [ha, hb]), if_neg ha, if_pos hb, e, Nat.xor_assoc]
  · rw [if_neg (by rw [h]; simp [ha, hb]), if_neg ha, if_neg hb, e]
theorem turnsN_xor (n a b : Nat) : turnsN n (a ^^^ b) = turnsN n a ^^^ turnsN n b := by
  induction n generalizing a b with
  | zero => rfl
  | succ n ih => rw [turnsN, turn_xor, ih]; rfl
theorem turn_lt {r : Nat} (h : r < 4294967296) : turn r < 4294967296 := by
  unfold turn
  split
  · exact Nat.xor_lt_two_pow (n := 32) (by omega) (by omega)
  · omega
theorem turnsN_lt (n : Nat) {r : Nat} (h : r < 4294967296) : turnsN n r < 4294967296 := by
  induction n generalizing r with
  | zero => exact h
  | succ n ih => exact ih (turn_lt h)
theorem turn_inj {r : Nat} (h : r < 4294967296) (e : turn r = 0) : r = 0 := by
  unfold turn at e
  split at e
  · have h2 : r / 2 = 3988292384 := by
      have := congrArg (· ^^^ 3988292384) e
      simpa [Nat.xor_assoc] using this
    omega
  · omega
theorem turnsN_inj (n : Nat) {r : Nat} (h : r < 4294967296) (e : turnsN n r = 0) : r = 0 := by
  induction n generalizing r with
  | zero => exact e
  | succ n ih => exact turn_inj h (ih (turn_lt h) e)
/-- Eight turns. -/
def t8 (r : Nat) : Nat := turnsN 8 r
theorem t8_xor (a b : Nat) : t8 (a ^^^ b) = t8 a ^^^ t8 b := turnsN_xor 8 a b
theorem t8_lt {r : Nat} (h : r < 4294967296) : t8 r < 4294967296 := turnsN_lt 8 h
theorem t8_inj {r : Nat} (h : r < 4294967296) (e : t8 r = 0) : r = 0 := turnsN_inj 8 h e
theorem t8_zero : t8 0 = 0 := turnsN_zero 8
theorem turn_double (n : Nat) : turn (2 * n) = n := by unfold turn; rw [if_neg (by omega)]; omega
theorem t8_up (n : Nat) : t8 (256 * n) = n := by
  have e : 256 * n = 2 * (2 * (2 * (2 * (2 * (2 * (2 * (2 * n))))))) := by omega
  rw [e, t8]
  simp only [turnsN, turn_double]
theorem turn_def (r : Nat) : turn r = if r % 2 = 1 then r / 2 ^^^ 3988292384 else r / 2 := rfl
theorem t8_def (r : Nat) : t8 r = turnsN 8 r := rfl
attribute [irreducible] t8 turn
/-- Eight turns, so often. -/
def t8N : Nat → Nat → Nat
  | 0, r => r
  | n + 1, r => t8N n (t8 r)
theorem t8N_add (m n r : Nat) : t8N (m + n) r = t8N n (t8N m r) := by
  induction m generalizing r with
  | zero => simp [t8N]
  | succ m ih => rw [Nat.succ_add, t8N, t8N, ih]
theorem t8N_xor (n a b : Nat) : t8N n (a ^^^ b) = t8N n a ^^^ t8N n b := by
  induction n generalizing a b with
  | zero => rfl
  | succ n ih => rw [t8N, t8_xor, ih]; rfl
theorem t8N_zero (n : Nat) : t8N n 0 = 0 := by
  induction n with
  | zero => rfl
  | succ n ih => rw [t8N, t8_zero, ih]
theorem t8N_lt (n : Nat) {r : Nat} (h : r < 4294967296) : t8N n r < 4294967296 := by
  induction n generalizing r with
  | zero => exact h
  | succ n ih => exact ih (t8_lt h)
theorem t8N_inj (n : Nat) {r : Nat} (h : r < 4294967296) (e : t8N n r = 0) : r = 0 := by
  induction n generalizing r with
  | zero => exact e
  | succ n ih => exact t8_inj h (ih (t8_lt h) e)
/-- Numbers gone through. -/
def crc (r : Nat) : List Nat → Nat
  | [] => r
  | b :: l => crc (t8 (r ^^^ b)) l
theorem crc_append (r : Nat) (a b : List Nat) : crc r (a ++ b) = crc (crc r a) b := by
  induction a generalizing r with
  | nil => rfl
  | cons x a ih => rw [List.cons_append, crc, crc, ih]
theorem crc_snoc (r : Nat) (a : List Nat) (b : Nat) : crc r (a ++ [b]) = t8 (crc r a ^^^ b) := by rw [crc_append]; rfl
theorem crc_lt {r : Nat} (l : List Nat) (h : r < 4294967296) (hl : ∀ b ∈ l, b < 256) : crc r l < 4294967296 := by
  induction l generalizing r with
  | nil => exact h
  | cons b l ih =>
    refine ih (t8_lt (Nat.xor_lt_two_pow (n := 32) h ?_)) fun x hx => hl x (by simp [hx])
    have := hl b (by simp); omega
/-- Two rows exchanged. -/
def xorL : List Nat → List Nat → List Nat
  | a :: l, b :: m => (a ^^^ b) :: xorL l m
  | _, _ => []
theorem xorL_len : ∀ (a b : List Nat), a.length = b.length → (xorL a b).length = a.length
  | [], [], _ => rfl
  | a :: l, b :: m, h => by simp [xorL]; exact xorL_len l m (by simpa using h)
theorem crc_xor (a b : List Nat) (h : a.length = b.length) (r s : Nat) : crc (r ^^^ s) (xorL a b) = crc r a ^^^ crc s b := by
  induction a generalizing b r s with
  | nil => cases b with
    | nil => rfl
    | cons => cases h
  | cons x a ih => cases b with
    | nil => cases h
    | cons y b =>
      rw [xorL, crc, crc, crc, ← ih b (by simpa using h), ← t8_xor]
      congr 2
      rw [Nat.xor_assoc, Nat.xor_assoc, xor_left_comm s]
theorem xorL_zeros (b : List Nat) : xorL b (List.replicate b.length 0) = b := by
  induction b with
  | nil => rfl
  | cons x b ih => simp [List.replicate_succ, xorL, ih]
theorem crc_zeros (n r : Nat) : crc r (List.replicate n 0) = t8N n r := by
  induction n generalizing r with
  | zero => rfl
  | succ n ih => rw [List.replicate_succ, crc, ih, Nat.xor_zero]; rfl
theorem crc_shift (r s : Nat) (b : List Nat) : crc (r ^^^ s) b = crc r b ^^^ t8N b.length s := by
  rw [← crc_zeros b.length s, ← crc_xor b (List.replicate b.length 0) (by simp), xorL_zeros]
/-- The sum, behind a sum. -/
def moreN (s : Nat) (l : List Nat) : Nat := crc (s ^^^ 4294967295) l ^^^ 4294967295
theorem moreN_lt {s : Nat} (l : List Nat) (h : s < 4294967296) (hl : ∀ b ∈ l, b < 256) : moreN s l < 4294967296 :=
  Nat.xor_lt_two_pow (n := 32) (crc_lt l (Nat.xor_lt_two_pow (n := 32) h (by omega)) hl) (by omega)
theorem moreN_append (s : Nat) (a b : List Nat) : moreN s (a ++ b) = moreN (moreN s a) b := by
  unfold moreN
  rw [crc_append, Nat.xor_assoc, Nat.xor_self, Nat.xor_zero]
/-- Sums joined. -/
def joinN (x y n : Nat) : Nat := t8N n x ^^^ y
theorem moreN_join (s : Nat) (a b : List Nat) : moreN s (a ++ b) = joinN (moreN s a) (moreN 0 b) b.length := by
  rw [moreN_append]
  unfold joinN
  generalize moreN s a = A
  unfold moreN
  rw [Nat.xor_comm A, crc_shift, Nat.zero_xor, Nat.xor_comm (crc _ _), Nat.xor_assoc]
theorem joinN_join (x y z m n : Nat) : joinN x (joinN y z n) (m + n) = joinN (joinN x y m) z n := by
  unfold joinN
  rw [t8N_add, t8N_xor, Nat.xor_assoc]
theorem joinN_lt {x y : Nat} (n : Nat) (hx : x < 4294967296) (hy : y < 4294967296) : joinN x y n < 4294967296 := Nat.xor_lt_two_pow (n := 32) (t8N_lt n hx) hy
theorem moreN_affine (a b c : List Nat) (h1 : a.length = b.length) (h2 : b.length = c.length) : moreN 0 (xorL (xorL a b) c) = moreN 0 a ^^^ moreN 0 b ^^^ moreN 0 c := by
  unfold moreN
  simp only [Nat.zero_xor]
  have e : (4294967295 : Nat) = 4294967295 ^^^ 4294967295 ^^^ 4294967295 := by decide
  conv => lhs; rw [show crc 4294967295 = crc (4294967295 ^^^ 4294967295 ^^^ 4294967295) from by rw [← e]]
  rw [crc_xor _ _ (by rw [xorL_len _ _ h1]; omega), crc_xor _ _ h1]
  generalize crc 4294967295 a = A
  generalize crc 4294967295 b = B
  generalize crc 4294967295 c = C
  generalize 4294967295 = F
  have e1 : A ^^^ F ^^^ (B ^^^ F) ^^^ (C ^^^ F) = (A ^^^ B ^^^ C ^^^ F) ^^^ (F ^^^ F) := by
    simp only [Nat.xor_assoc]
    congr 1
    rw [xor_left_comm F B]
    congr 1
    rw [xor_left_comm F C]
    rw [xor_left_comm F C]
  rw [e1, Nat.xor_self, Nat.xor_zero]
/-- The number that some bytes are, the lowest first. -/
def numN : List Nat → Nat
  | [] => 0
  | b :: l => b ^^^ 256 * numN l
theorem crc_num (l : List Nat) (r : Nat) : crc r l = t8N l.length (r ^^^ numN l) := by
  induction l generalizing r with
  | nil => simp [crc, numN, t8N]
  | cons b l ih =>
    rw [crc, ih, List.length_cons, t8N, numN]
    congr 1
    rw [← Nat.xor_assoc, t8_xor (r ^^^ b), t8_up]
theorem numN_lt (l : List Nat) (hl : ∀ b ∈ l, b < 256) : numN l < 256 ^ l.length := by
  induction l with
  | nil => simp [numN]
  | cons b l ih =>
    have h1 := hl b (by simp)
    have h2 := ih fun x hx => hl x (by simp [hx])
    rw [numN, List.length_cons, Nat.pow_succ]
    have e : (256 : Nat) ^ l.length * 256 = 2 ^ (8 * l.length + 8) := by rw [Nat.pow_add, Nat.pow_mul]
    rw [e]
    have h3 : 256 * numN l < 2 ^ (8 * l.length + 8) := by rw [← e]; omega
    have h4 : b < 2 ^ (8 * l.length + 8) := by
      have : 256 ^ 1 ≤ (256 : Nat) ^ l.length * 256 := by rw [← Nat.pow_succ]; exact Nat.pow_le_pow_right (by decide) (by omega)
      rw [← e]; omega
    exact Nat.xor_lt_two_pow h4 h3
theorem numN_zero (l : List Nat) (hl : ∀ b ∈ l, b < 256) (h : numN l = 0) : ∀ b ∈ l, b = 0 := by
  induction l with
  | nil => simp
  | cons b l ih =>
    rw [numN] at h
    have h1 := hl b (by simp)
    have h2 : b = 256 * numN l := by
      have := congrArg (b ^^^ ·) h
      simp only [xor_self_left, Nat.xor_zero] at this
      exact this.symm
    have h3 : numN l = 0 := by omega
    intro x hx
    rcases List.mem_cons.1 hx with rfl | hx
    · omega
    · exact ih (fun x hx => hl x (by simp [hx])) h3 x hx
/-- Bytes that differ within four neighbouring ones alone have unlike sums. -/
theorem moreN_tells (a d e c : List Nat) (hl : d.length = e.length) (h4 : d.length ≤ 4) (hd : ∀ b ∈ d, b < 256) (he : ∀ b ∈ e, b < 256) :
    moreN 0 (a ++ (d ++ c)) = moreN 0 (a ++ (e ++ c)) ↔ d = e := by
  constructor
  · intro h
    unfold moreN at h
    have h1 : crc (0 ^^^ 4294967295) (a ++ (d ++ c)) = crc (0 ^^^ 4294967295) (a ++ (e ++ c)) := by
      have := congrArg (· ^^^ 4294967295) h
      simpa only [Nat.xor_assoc, Nat.xor_self, Nat.xor_zero] using this
    rw [crc_append, crc_append, crc_append, crc_append] at h1
    generalize crc (0 ^^^ 4294967295) a = A at h1
    have hx : ∀ b ∈ xorL d e, b < 256 := by
      clear h1 h h4
      induction d generalizing e with
      | nil => cases e <;> simp [xorL]
      | cons x d ih => cases e with
        | nil => cases hl
        | cons y e =>
          intro b hb
          rw [xorL] at hb
          rcases List.mem_cons.1 hb with rfl | hb
          · exact Nat.xor_lt_two_pow (n := 8) (hd x (by simp)) (he y (by simp))
          · exact ih e (by simpa using hl) (fun b hb => hd b (by simp [hb])) (fun b hb => he b (by simp [hb])) b hb
    have h3 : t8N c.length (crc A d ^^^ crc A e) = 0 := by
      have e1 := crc_shift (crc A d) (crc A d ^^^ crc A e) c
      rw [xor_self_left, ← h1] at e1
      have := congrArg (crc (crc A d) c ^^^ ·) e1
      simp only [xor_self_left, Nat.xor_self] at this
      exact this.symm
    rw [← crc_xor d e hl, Nat.xor_self, crc_num, Nat.zero_xor] at h3
    have h5 : numN (xorL d e) < 4294967296 := by
      have := numN_lt _ hx
      rw [xorL_len _ _ hl] at this
      exact Nat.lt_of_lt_of_le this (Nat.le_trans (Nat.pow_le_pow_right (by decide) h4) (by decide))
    have h6 := t8N_inj _ h5 (t8N_inj _ (t8N_lt _ h5) h3)
    have h7 := numN_zero _ hx h6
    clear h1 h h3 h5 h6 h4 hx hd he
    induction d generalizing e with
    | nil => cases e with
      | nil => rfl
      | cons => cases hl
    | cons x d ih => cases e with
      | nil => cases hl
      | cons y e =>
        rw [xorL] at h7
        have h8 := h7 (x ^^^ y) (by simp)
        have h9 : x = y := by
          have := congrArg (x ^^^ ·) h8
          simp only [xor_self_left, Nat.xor_zero] at this
          exact this.symm
        rw [h9, ih e (by simpa using hl) fun b hb => h7 b (by simp [hb])]
  · rintro rfl; rfl
end Go.Proofs.YtophhnolnlbecaaDoor
