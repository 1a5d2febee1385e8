/- Rows of bytes: how they lie, how they grow, as steps of a walk. No statement is proved here. -/
import Derived.Test.YteoekfmjlmpmgaaProg
import Derived.Below
import Derived.WalkKit
import Derived.WalkSpells
import Derived.WalkLawsBesides
import Derived.BigQuiet
import Derived.Deep.QuietTactic
import Derived.Deep.RegionHeld3
import Derived.StillTailTactics
import Derived.Deep.DeepCutAuto
import Derived.Deep.DeepFit
import Derived.Outline
import Derived.Lib.Hide
import Derived.Deep.Light
import Derived.IntWalk
import Derived.KernelRfl
import Derived.Laws.OwnMore
import Derived.OwnWalk
import Derived.OneCell
import Derived.Maps.AppendAt
import Derived.Laws.Rows
import Derived.Laws.NewBlocks
import Derived.Laws.BytesArg
import Derived.Deep.AppendLies
import Derived.Deep.RegionLaw
import Derived.Lib.AppendStr
import Derived.Laws.AppendOwnNone
import Derived.Laws.BitsAllLaws
namespace Go.Proofs.Yteoekfmjlmpmgaa
open Go.RowKit
set_option maxRecDepth 100000

theorem ret_int {k : IntKind} {a b : Int} (h : a = b) : Ending.returned (.int k a) = .returned (.int k b) := by rw [h]
theorem ret_bool {a b : Bool} (h : a = b) : Ending.returned (.bool a) = .returned (.bool b) := by rw [h]
theorem cell_lt {w : World} {a : Addr} {v : Value} (h : w.cell? a = some v) : a.block < w.heap.size := by
  rcases Nat.lt_or_ge a.block w.heap.size with hlt | hge
  · exact hlt
  · unfold World.cell? at h; rw [Array.getElem?_eq_none hge] at h; cases h
theorem below1 (w : World) (x : Obj) : Below w.heap.size w (w.alloc x) := (Below.refl _ _).alloc (Nat.le_refl _) _
theorem below2 (w : World) (x y : Obj) : Below w.heap.size w ((w.alloc x).alloc y) := (below1 w x).alloc (by simp) _
theorem below3 (w : World) (x y z : Obj) : Below w.heap.size w (((w.alloc x).alloc y).alloc z) := (below2 w x y).alloc (by simp; omega) _
theorem below_then {w w0 w' : World} (g : Below w.heap.size w w0) (h : Below w0.heap.size w0 w') : Below w.heap.size w w' := g.trans (h.mono g.size)
/-- The bounds that each reading of the arguments gives. -/
def okInt (n : Int) : Prop := -9223372036854775808 ≤ n ∧ n ≤ 9223372036854775807
def okLen (n : Nat) : Prop := n ≤ 140737488351232
def okFar (n : Nat) : Prop := n ≤ 140737488355328
theorem okLen.far {n : Nat} (h : okLen n) : okFar n := by unfold okLen at h; unfold okFar; omega
/-- A row of cells that a value lies in. -/
structure Row where
  e : TypeId
  size : Nat
  v : Value
  n : Nat
  xs : List Value
/-- The blocks of rows. -/
def blocksOf (l : List Row) : List Nat := l.filterMap fun r => r.v.ownBlock
/-- A call owns rows from block B on. -/
def Owns (w : World) (B : Nat) (l : List Row) : Prop := ∀ r ∈ l, w.ownsRow B r.e r.size r.v r.n r.xs
/-- Of what was there only the blocks of S may have turned. -/
structure Only (S : List Nat) (w w' : World) : Prop where
  os : w'.os = w.os
  tape : w'.tape = w.tape
  output : w'.output = w.output
  size : w.heap.size ≤ w'.heap.size
  block : ∀ k, k < w.heap.size → k ∉ S → w'.heap[k]? = w.heap[k]?
theorem Only.refl (S : List Nat) (w : World) : Only S w w := ⟨rfl, rfl, rfl, Nat.le_refl _, fun _ _ _ => rfl⟩
theorem Only.trans {S : List Nat} {a b c : World} (h : Only S a b) (k : Only S b c) : Only S a c :=
  ⟨k.os.trans h.os, k.tape.trans h.tape, k.output.trans h.output, Nat.le_trans h.size k.size, fun i hi hn => (k.block i (Nat.lt_of_lt_of_le hi h.size) hn).trans (h.block i hi hn)⟩
theorem Only.of_below {S : List Nat} {a b : World} (h : Below a.heap.size a b) : Only S a b := ⟨h.os, h.tape, h.output, h.size, fun k hk _ => h.block k hk⟩
theorem Only.below {a b : World} (h : Only [] a b) : Below a.heap.size a b := ⟨h.os, h.tape, h.output, h.size, fun k hk => h.block k hk (by simp)⟩
/-- What is new may turn, and S may grow. -/
theorem Only.mono {S S' : List Nat} {a b : World} (h : Only S a b) (hs : ∀ k ∈ S, k ∈ S' ∨ a.heap.size ≤ k) : Only S' a b :=
  ⟨h.os, h.tape, h.output, h.size, fun k hk hn => h.block k hk fun hk' => by rcases hs k hk' with h1 | h1; exact hn h1; omega⟩
theorem Only.drew {S : List Nat} {a b : World} (h : Only S a b) : Only S a b.drew := ⟨h.os, h.tape, h.output, h.size, h.block⟩
/-- A step that turns S' behind one that turns S: S' lies in S, or is new. -/
theorem Only.then_ {S S' : List Nat} {a b c : World} (h : Only S a b) (k : Only S' b c) (hs : ∀ i ∈ S', i ∈ S ∨ a.heap.size ≤ i) : Only S a c :=
  ⟨k.os.trans h.os, k.tape.trans h.tape, k.output.trans h.output, Nat.le_trans h.size k.size, fun i hi hn =>
    (k.block i (Nat.lt_of_lt_of_le hi h.size) (fun hi' => by rcases hs i hi' with h1 | h1; exact hn h1; omega)).trans (h.block i hi hn)⟩
theorem Only.setCell {S : List Nat} {a b : World} (h : Only S a b) {p : Addr} (hp : p.block ∈ S ∨ a.heap.size ≤ p.block) (u : Value) : Only S a (b.setCell p u) :=
  ⟨h.os, h.tape, h.output, by simpa [World.setCell] using h.size, fun i hi hn => (Below.heap_setCell b p u i (by rintro rfl; rcases hp with hp | hp; exact hn hp; omega)).trans (h.block i hi hn)⟩
theorem Only.alloc {S : List Nat} {a b : World} (h : Only S a b) (o : Obj) : Only S a (b.alloc o) :=
  ⟨h.os, h.tape, h.output, Nat.le_trans h.size (by simp), fun i hi hn => (Below.heap_alloc b o i (Nat.lt_of_lt_of_le hi h.size)).trans (h.block i hi hn)⟩
theorem owns_lt {w : World} {B : Nat} {l : List Row} (h : Owns w B l) : ∀ b ∈ blocksOf l, B ≤ b ∧ b < w.heap.size := by
  intro b hb
  obtain ⟨r, hr, hb⟩ := List.mem_filterMap.1 hb
  exact (h r hr).lt b hb
theorem Owns.keep {w w' : World} {B : Nat} {l : List Row} (h : Owns w B l) (hk : ∀ b ∈ blocksOf l, w'.heap[b]? = w.heap[b]?) : Owns w' B l := by
  intro r hr
  obtain ⟨h1, h2⟩ := h r hr
  refine ⟨h1, ?_⟩
  rcases h2 with h2 | ⟨g, cap, cur, hv, hb, hg, hrest⟩
  · exact .inl h2
  · exact .inr ⟨g, cap, cur, hv, hb, by rw [hk g (List.mem_filterMap.2 ⟨r, hr, by simp [hv, Value.ownBlock]⟩)]; exact hg, hrest⟩
theorem Owns.below {w w' : World} {B : Nat} {l : List Row} (h : Owns w B l) (hb : Below w.heap.size w w') : Owns w' B l := h.keep fun b hb' => hb.block b (owns_lt h b hb').2
theorem Owns.only {w w' : World} {B : Nat} {S : List Nat} {l : List Row} (h : Owns w B l) (ho : Only S w w') (hd : ∀ b ∈ blocksOf l, b ∉ S) : Owns w' B l := h.keep fun b hb' => ho.block b (owns_lt h b hb').2 (hd b hb')
theorem Owns.base {w : World} {B B' : Nat} {l : List Row} (h : Owns w B l) (hB : B' ≤ B) : Owns w B' l := by
  intro r hr
  obtain ⟨h1, h2⟩ := h r hr
  refine ⟨h1, ?_⟩
  rcases h2 with h2 | ⟨g, cap, cur, hv, hb, hrest⟩
  · exact .inl h2
  · exact .inr ⟨g, cap, cur, hv, by omega, hrest⟩
theorem lt_of_get {α : Type} {l : List α} {j : Nat} {c : α} (h : l[j]? = some c) : j < l.length := (List.getElem?_eq_some_iff.1 h).1
/-- A row that was made, with no element in it so far. -/
theorem own_start {w : World} {B : Nat} {e : TypeId} {c cap : Nat} (cur : Array Value) (hB : B ≤ w.heap.size) (hm : cap ≤ maxLen) (hs : cur.size = cap * c) :
    (w.alloc (.cells cur e)).ownsRow B e c (.slice (some ⟨w.heap.size, 0, none⟩) 0 cap) 0 [] :=
  ⟨by simp, .inr ⟨w.heap.size, cap, cur, rfl, hB, heap_alloc_new w _, by omega, hm, hs, by simp⟩⟩
theorem row_keep {w w' : World} {B : Nat} {e : TypeId} {c n : Nat} {v : Value} {xs : List Value} (h : w.ownsRow B e c v n xs) (hb : Below w.heap.size w w') : w'.ownsRow B e c v n xs := by
  have h1 : Owns w B [⟨e, c, v, n, xs⟩] := by intro r hr; simp at hr; subst hr; exact h
  exact h1.below hb ⟨e, c, v, n, xs⟩ (by simp)
theorem Owns.append {w : World} {B : Nat} {a b : List Row} (h : Owns w B a) (k : Owns w B b) : Owns w B (a ++ b) := fun r hr => (List.mem_append.1 hr).elim (h r) (k r)
theorem Owns.left {w : World} {B : Nat} {a b : List Row} (h : Owns w B (a ++ b)) : Owns w B a := fun r hr => h r (List.mem_append.2 (.inl hr))
theorem Owns.right {w : World} {B : Nat} {a b : List Row} (h : Owns w B (a ++ b)) : Owns w B b := fun r hr => h r (List.mem_append.2 (.inr hr))
theorem Owns.tail {w : World} {B : Nat} {a : Row} {b : List Row} (h : Owns w B (a :: b)) : Owns w B b := fun r hr => h r (List.mem_cons_of_mem _ hr)
theorem Owns.head {w : World} {B : Nat} {a : Row} {b : List Row} (h : Owns w B (a :: b)) : w.ownsRow B a.e a.size a.v a.n a.xs := h a (List.mem_cons_self ..)
theorem heap_alloc_at (w : World) (o : Obj) (g : Nat) (h : g = w.heap.size) : (w.alloc o).heap[g]? = some o := by subst h; exact heap_alloc_new w o
theorem row_then {w w' : World} {g : Nat} {cs : Array Value} {t : TypeId} {f : Nat × Nat} (h : w.heap[g]? = some (.cells cs t f)) (hb : Below w.heap.size w w') : w'.heap[g]? = some (.cells cs t f) :=
  (hb.block g (lt_of_block h)).trans h
theorem row_cells {w : World} {g : Nat} {cs : Array Value} {t : TypeId} {f : Nat × Nat} (h : w.heap[g]? = some (.cells cs t f)) : ∀ o, w.cell? ⟨g, o, none⟩ = cs[o]? := fun o => cell_of_row w g o cs t f h
/-- A row of bytes stands at that place: its elements, as numbers. -/
def InB (w : World) (a : Option Addr) (l : List Int) : Prop := ∀ i x, l[i]? = some x → ∃ b o, a = some ⟨b, o, none⟩ ∧ w.cell? ⟨b, o + i, none⟩ = some (.int .u8 x)
theorem InB.then_ {w w' : World} {a : Option Addr} {l : List Int} (h : InB w a l) (hb : Below w.heap.size w w') : InB w' a l := fun i x hx => by
  obtain ⟨b, o, ha, hc⟩ := h i x hx
  exact ⟨b, o, ha, (hb.cell (cell_lt hc)).trans hc⟩
theorem InB.one {w : World} {a : Option Addr} {l : List Int} (h : InB w a l) {i : Nat} (hi : i < l.length) : ∃ b o x, a = some ⟨b, o, none⟩ ∧ l[i]? = some x ∧ w.cell? ⟨b, o + i, none⟩ = some (.int .u8 x) := by
  obtain ⟨b, o, ha, hc⟩ := h i _ (List.getElem?_eq_getElem hi)
  exact ⟨b, o, _, ha, List.getElem?_eq_getElem hi, hc⟩
theorem InB.nil (w : World) (a : Option Addr) : InB w a [] := fun i x h => by simp at h
theorem take_eq_snoc {α : Type} {a b : List α} {k : Nat} {x : α} (h : a.take k = b.take k) (hx : a[k]? = some x) (hy : b[k]? = some x) : a.take (k + 1) = b.take (k + 1) := by
  rw [List.take_add_one, List.take_add_one, h, hx, hy]
/-- A number of so many bytes, the lowest one first. -/
def leB : Nat → Int → List Int
  | 0, _ => []
  | k + 1, n => n % 256 :: leB k (n / 256)
theorem leB_len (k : Nat) (n : Int) : (leB k n).length = k := by
  induction k generalizing n with
  | zero => rfl
  | succ k ih => simp [leB, ih]
theorem leB_snoc (k : Nat) (n : Int) : leB (k + 1) n = leB k n ++ [n / 256 ^ k % 256] := by
  induction k generalizing n with
  | zero => simp [leB]
  | succ k ih =>
    rw [leB, ih, leB, List.cons_append, Int.ediv_ediv_of_nonneg (by omega), Int.pow_succ, Int.mul_comm]
/-- Bytes as what stands in their cells. -/
def btV (l : List Int) : List Value := l.map (Value.int .u8)
theorem info_byte : (Try.prog.info? 5).map (fun i => (i.zero, i.size, i.bytes)) = some (some (.int .u8 0), 1, 1) := by kernel_rfl
theorem leB_add (k : Nat) (n m : Int) : leB k (n + 256 ^ k * m) = leB k n := by
  induction k generalizing n with
  | zero => rfl
  | succ k ih =>
    have e : n + 256 ^ (k + 1) * m = n + 256 * (256 ^ k * m) := by rw [Int.pow_succ]; simp only [Int.mul_comm, Int.mul_left_comm]
    have h1 : (n + 256 * (256 ^ k * m)) % 256 = n % 256 := by omega
    have h2 : (n + 256 * (256 ^ k * m)) / 256 = n / 256 + 256 ^ k * m := by omega
    rw [e, leB, leB, h1, h2, ih]
theorem make_any {P : Program} (t e : TypeId) (z : Value) (size bytes : Nat) (ht : P.underlying t = some (.slice e)) (hi : (P.info? e).map (fun i => (i.zero, i.size, i.bytes)) = some (some z, size, bytes)) (n c : Nat) (hnc : n ≤ c) (hb : bytes * c ≤ 281474976710656) (hc : c ≤ 9223372036854775807) :
    ∃ cur : Array Value, cur.size = c * size ∧ ∀ w : World, (Instr.makeSlice t (.int .i64 (n : Int)) (.int .i64 (c : Int))).run P w = .ok (.slice (some ⟨w.heap.size, 0, none⟩) n c) (w.alloc (.cells cur e)) := by
  obtain ⟨i, h1, h2, h3, h4⟩ := info_parts hi
  refine ⟨madeCells z.cells (c * i.size), by rw [size_madeCells, h3], fun w => ?_⟩
  have hb2 : (i.bytes : Int) * (c : Int) ≤ 281474976710656 := by
    rw [h4, ← Int.natCast_mul]; omega
  have := run_make (P := P) w t e i z ht h1 h2 .i64 .i64 n c (by omega) (by omega) hb2 (by omega)
  simpa using this
theorem make_lent {P : Program} (t e : TypeId) (z : Value) (size bytes : Nat) (ht : P.underlying t = some (.slice e)) (hi : (P.info? e).map (fun i => (i.zero, i.size, i.bytes)) = some (some z, size, bytes)) (n : Nat) (hb : bytes * (n + 1) ≤ 281474976710656) (hc : n + 1 ≤ 9223372036854775807) :
    ∃ cur : Array Value, cur.size = (n + 1) * size ∧ ∀ w : World, (Instr.makeSlice t (.int .i64 0) (.int .i64 ((n : Int) + 1))).run P w = .ok (.slice (some ⟨w.heap.size, 0, none⟩) 0 (n + 1)) (w.alloc (.cells cur e)) := by
  obtain ⟨cur, h1, h2⟩ := make_any t e z size bytes ht hi 0 (n + 1) (by omega) hb hc
  exact ⟨cur, h1, fun w => by have := h2 w; simpa using this⟩
theorem news_at (w : World) (cs : Array Value) (t : TypeId) (g : Nat) (hg : g = w.heap.size) : ∀ j u, cs.toList[j]? = some u → (w.alloc (.cells cs t)).cell? ((⟨g, 0, none⟩ : Addr).add j) = some u := by
  subst hg
  exact World.news_of_block (heap_alloc_new w _)
theorem Only.of_grown {w w' : World} {g : Nat} (h : w.grownBy w' (some g)) : Only [g] w w' := ⟨h.os, h.tape, h.output, h.size, fun k hk hn => h.block k hk (fun e => hn (by injection e with e; simp [e]))⟩
theorem keep_row {w w' : World} {S : List Nat} (h : Only S w w') {g : Nat} {o : Obj} (hg : w.heap[g]? = some o) (hn : g ∉ S) : w'.heap[g]? = some o := (h.block g (lt_of_block hg) hn).trans hg
/-- A text's bytes, as numbers. -/
def bsI (s : ByteArray) : List Int := s.data.toList.map fun b => (b.toNat : Int)
theorem bsI_len (s : ByteArray) : (bsI s).length = s.size := by simp [bsI]
theorem btV_append (a b : List Int) : btV (a ++ b) = btV a ++ btV b := List.map_append
theorem btV_len (a : List Int) : (btV a).length = a.length := List.length_map _
theorem btV_one (a : List Int) : ∀ u ∈ btV a, u.oneCell' = true := by
  intro u hu
  obtain ⟨x, _, rfl⟩ := List.mem_map.1 hu
  rfl
theorem strCells_bs (s : ByteArray) : Lib.strCells s = btV (bsI s) := by simp [Lib.strCells, btV, bsI]
/-- A row of bytes that a call owns: from block B on, so many. -/
def OwnB (w : World) (B : Nat) (v : Value) (l : List Int) : Prop := w.ownsRow B 5 1 v l.length (btV l)
theorem OwnB.nil (w : World) (B : Nat) : OwnB w B (.slice none 0 0) [] := World.ownsRow_nil _ _ _ _
theorem OwnB.alloc {w : World} {B : Nat} {v : Value} {l : List Int} (h : OwnB w B v l) (o : Obj) : OwnB (w.alloc o) B v l := World.ownsRow.alloc h o
theorem OwnB.drew {w : World} {B : Nat} {v : Value} {l : List Int} (h : OwnB w B v l) : OwnB w.drew B v l := h
theorem OwnB.block {w : World} {B : Nat} {v : Value} {l : List Int} (h : OwnB w B v l) : ∀ g, v.ownBlock = some g → B ≤ g ∧ g < w.heap.size := World.ownsRow.lt h
theorem OwnB.keep {w w' : World} {B : Nat} {v : Value} {l : List Int} (h : OwnB w B v l) (hb : ∀ g, v.ownBlock = some g → w'.heap[g]? = w.heap[g]?) : OwnB w' B v l := by
  obtain ⟨h1, h2⟩ := h
  refine ⟨h1, ?_⟩
  rcases h2 with h2 | ⟨g, cap, cur, hv, hB, hg, hrest⟩
  · exact .inl h2
  · refine .inr ⟨g, cap, cur, hv, hB, ?_, hrest⟩
    rw [hb g (by rw [hv]; rfl)]
    exact hg
theorem OwnB.then_ {w w' : World} {B : Nat} {v : Value} {l : List Int} (h : OwnB w B v l) (hb : Below w.heap.size w w') : OwnB w' B v l := h.keep fun g hg => hb.block g (h.block g hg).2
theorem OwnB.base {w : World} {B B' : Nat} {v : Value} {l : List Int} (h : OwnB w B v l) (hB : B' ≤ B) : OwnB w B' v l := by
  obtain ⟨h1, h2⟩ := h
  refine ⟨h1, ?_⟩
  rcases h2 with h2 | ⟨g, cap, cur, hv, hb, hrest⟩
  · exact .inl h2
  · exact .inr ⟨g, cap, cur, hv, by omega, hrest⟩
/-- Its shape. -/
theorem OwnB.shape {w : World} {B : Nat} {v : Value} {l : List Int} (h : OwnB w B v l) : ∃ a c, v = .slice a l.length c ∧ InB w a l ∧ (a = none → c = 0 ∧ l = []) ∧ l.length ≤ c ∧ c ≤ maxLen := by
  have h0 := h
  obtain ⟨h1, h2⟩ := h
  rcases h2 with ⟨hv, h2⟩ | ⟨g, cap, cur, hv, hb, hg, hle, hcm, hrest⟩
  · have : l = [] := List.eq_nil_of_length_eq_zero h2
    subst this
    exact ⟨none, 0, hv, InB.nil _ _, fun _ => ⟨rfl, rfl⟩, by simp, by simp⟩
  · refine ⟨some ⟨g, 0, none⟩, cap, hv, fun i x hx => ⟨g, 0, rfl, ?_⟩, fun h => (by cases h), hle, hcm⟩
    subst hv
    have hi : i < l.length := lt_of_get hx
    have h3 := World.ownsRow.cellAt h0 i (by omega)
    rw [Nat.zero_add, h3, btV, List.getElem?_map, hx]
    rfl
theorem OwnB.lit (w : World) (bs : List Int) (hm : bs.length ≤ maxLen) : OwnB (w.alloc (.cells (btV bs).toArray 5)) w.heap.size (.slice (some ⟨w.heap.size, 0, none⟩) bs.length bs.length) bs := by
  have h := World.ownsRow_lit (base := w.heap.size) (size := 1) (e := 5) w (btV bs).toArray bs.length (Nat.le_refl _) hm (by simp [btV])
  simpa [OwnB] using h
/-- A row that was appended to: only it, and what is new, has turned. -/
structure Grew (B : Nat) (w w' : World) (v v' : Value) (l' : List Int) : Prop where
  own : OwnB w' B v' l'
  grow : w.grownBy w' v.ownBlock
  at_ : v'.ownBlock = v.ownBlock ∨ ∃ g, v'.ownBlock = some g ∧ w.heap.size ≤ g
theorem Grew.refl {B : Nat} {w : World} {v : Value} {l : List Int} (h : OwnB w B v l) : Grew B w w v v l := ⟨h, World.grownBy.refl _ _, .inl rfl⟩
theorem Grew.trans {B B' : Nat} {w w1 w2 : World} {v v1 v2 : Value} {l1 l2 : List Int} (h : Grew B' w w1 v v1 l1) (k : Grew B w1 w2 v1 v2 l2) : Grew B w w2 v v2 l2 := by
  refine ⟨k.own, ⟨k.grow.os.trans h.grow.os, k.grow.tape.trans h.grow.tape, k.grow.output.trans h.grow.output, Nat.le_trans h.grow.size k.grow.size, fun i hi hn => ?_⟩, ?_⟩
  · refine (k.grow.block i (Nat.lt_of_lt_of_le hi h.grow.size) fun e => ?_).trans (h.grow.block i hi hn)
    rcases h.at_ with h1 | ⟨g, h1, h2⟩
    · exact hn (e.trans h1)
    · rw [h1] at e; injection e with e; omega
  · rcases k.at_ with k1 | ⟨g, k1, k2⟩
    · rcases h.at_ with h1 | ⟨g, h1, h2⟩
      · exact .inl (k1.trans h1)
      · exact .inr ⟨g, k1.trans h1, h2⟩
    · exact .inr ⟨g, k1, Nat.le_trans h.grow.size k2⟩
theorem Grew.pre {B : Nat} {w w1 w2 : World} {v v2 : Value} {l2 : List Int} (h : Below w.heap.size w w1) (k : Grew B w1 w2 v v2 l2) : Grew B w w2 v v2 l2 := by
  refine ⟨k.own, ⟨k.grow.os.trans h.os, k.grow.tape.trans h.tape, k.grow.output.trans h.output, Nat.le_trans h.size k.grow.size, fun i hi hn => (k.grow.block i (Nat.lt_of_lt_of_le hi h.size) hn).trans (h.block i hi)⟩, ?_⟩
  rcases k.at_ with k1 | ⟨g, k1, k2⟩
  · exact .inl k1
  · exact .inr ⟨g, k1, Nat.le_trans h.size k2⟩
theorem Grew.post {B : Nat} {w w1 w2 : World} {v v1 : Value} {l1 : List Int} (h : Grew B w w1 v v1 l1) (k : Below w1.heap.size w1 w2) : Grew B w w2 v v1 l1 :=
  ⟨h.own.then_ k, ⟨k.os.trans h.grow.os, k.tape.trans h.grow.tape, k.output.trans h.grow.output, Nat.le_trans h.grow.size k.size, fun i hi hn => (k.block i (Nat.lt_of_lt_of_le hi h.grow.size)).trans (h.grow.block i hi hn)⟩, h.at_⟩
theorem Grew.below {B C : Nat} {a w w' : World} {v v' : Value} {l l' : List Int} (h : Grew B w w' v v' l') (hv : OwnB w B v l) (ha : Below C a w) (hC : C ≤ B) (hB : B ≤ w.heap.size) : Below C a w' :=
  ha.grown h.grow (Nat.le_trans hC hB) (fun g hg => Nat.le_trans hC (hv.block g hg).1)
theorem Grew.size {B : Nat} {w w' : World} {v v' : Value} {l' : List Int} (h : Grew B w w' v v' l') : w.heap.size ≤ w'.heap.size := h.grow.size
/-- Another block is as it was. -/
theorem Grew.row {B : Nat} {w w' : World} {v v' : Value} {l' : List Int} (h : Grew B w w' v v' l') {g : Nat} {o : Obj} (hg : w.heap[g]? = some o) (hn : ∀ b, v.ownBlock = some b → b ≠ g) : w'.heap[g]? = some o := by
  have hlt : g < w.heap.size := by
    rcases Nat.lt_or_ge g w.heap.size with h | h
    · exact h
    · rw [Array.getElem?_eq_none h] at hg; cases hg
  rw [h.grow.block g hlt (fun e => hn g e.symm rfl)]
  exact hg
theorem Grew.off {B : Nat} {w w' : World} {v v' : Value} {l' : List Int} (h : Grew B w w' v v' l') {g : Nat} (hg : g < w.heap.size) (hn : ∀ b, v.ownBlock = some b → b ≠ g) : ∀ b, v'.ownBlock = some b → b ≠ g := by
  intro b hb
  rcases h.at_ with h1 | ⟨k, h1, h2⟩
  · exact hn b (h1 ▸ hb)
  · rw [h1] at hb; injection hb with hb; omega
/-- A box that was made behind the row, and what is then appended. -/
theorem OwnB.behind {B : Nat} {w : World} {v : Value} {l : List Int} (h : OwnB w B v l) : ∀ b, v.ownBlock = some b → b ≠ w.heap.size := fun b hb e => by have := (h.block b hb).2; omega
/-- The steps: at a list of operations, and in a region that draws. -/
theorem wpList_ap {ops : Array Oper} {rest : List Oper} {o : Oper} {a : Act} {w : World} {Q : Exit → Act → World → Prop} (hgd : o.guard = none) (s x : Operand) (t u : TypeId)
    (ho : o.op = .call { callee := .builtin .append, args := #[s, x], argTypes := #[t, u] }) (y y' v' : Value) (w' : World) (hs : a.eval s = y) (hx : a.eval x = y') (hr : (Builtin.append_ #[t, u] o.type #[y, y']).run Try.prog w = .ok v' w')
    (h : wpList Try.prog ops Q rest (a.put o.dst v') w') : wpList Try.prog ops Q (o :: rest) a w := by
  refine wpList_plain hgd fun K hK => ?_
  unfold Oper.wp execOp
  simp only [ho, resolve, invoke, builtin, Sem.run_bind, Sem.run_pure, Result.andThen_ok, List.map_toArray, List.map_cons, List.map_nil, hs, hx, hr]
  exact hK _ _ h
theorem step_ap {ops : Array Oper} {o : Oper} {a : Act} {w : World} {K : Act → World → Prop} {Q : Exit → Act → World → Prop} {E : Prop} (hgd : o.guard = none) (s x : Operand) (t u : TypeId)
    (ho : o.op = .call { callee := .builtin .append, args := #[s, x], argTypes := #[t, u] }) (y y' v' : Value) (w' : World) (hs : a.eval s = y) (hx : a.eval x = y') (hr : (Builtin.append_ #[t, u] o.type #[y, y']).run Try.prog w = .ok v' w')
    (h : K (a.put o.dst v') w') : if Region.wanted o (yielded ops a.tmps) = true then Oper.wp Try.prog o a w K Q else E := by
  have hw : Region.wanted o (yielded ops a.tmps) = true := by simp [Region.wanted, hgd]
  rw [if_pos hw]
  unfold Oper.wp execOp
  simp only [ho, resolve, invoke, builtin, Sem.run_bind, Sem.run_pure, Result.andThen_ok, List.map_toArray, List.map_cons, List.map_nil, hs, hx, hr]
  exact h
/-- Bytes are bytes. -/
def isB (l : List Int) : Prop := ∀ b ∈ l, 0 ≤ b ∧ b ≤ 255
theorem isB.append {a b : List Int} (h : isB a) (k : isB b) : isB (a ++ b) := fun x hx => (List.mem_append.1 hx).elim (h x) (k x)
theorem isB.cons {x : Int} {b : List Int} (h : 0 ≤ x ∧ x ≤ 255) (k : isB b) : isB (x :: b) := fun y hy => (List.mem_cons.1 hy).elim (fun e => e ▸ h) (k y)
theorem isB.nil : isB [] := fun x hx => by cases hx
theorem isB_bsI (s : ByteArray) : isB (bsI s) := fun b hb => by
  obtain ⟨x, _, rfl⟩ := List.mem_map.1 hb
  have := x.toNat_lt
  omega
theorem isB_leB (k : Nat) (n : Int) : isB (leB k n) := by
  induction k generalizing n with
  | zero => exact isB.nil
  | succ k ih => exact isB.cons (by omega) (ih _)
theorem bsI_str {l : List Int} (h : isB l) : bsI (strOfNums l) = l := by
  rw [bsI, strOfNums_data, List.map_map]
  conv => rhs; rw [← List.map_id l]
  apply List.map_congr_left
  intro x hx
  have := h x hx
  show ((UInt8.ofNat x.toNat).toNat : Int) = x
  rw [UInt8.toNat_ofNat']
  omega
theorem only_grow {w w' : World} {row : Option Nat} (h : w.grownBy w' row) : Only row.toList w w' := ⟨h.os, h.tape, h.output, h.size, fun k hk hn => h.block k hk (by rintro rfl; exact hn (by simp))⟩
theorem OwnB.only {w w' : World} {B : Nat} {v : Value} {l : List Int} {S : List Nat} (h : OwnB w B v l) (ho : Only S w w') (hS : ∀ b ∈ S, b < B) : OwnB w' B v l := h.keep fun g hg => ho.block g (h.block g hg).2 (fun hc => by have := hS _ hc; have := (h.block g hg).1; omega)
theorem OwnB.form {w : World} {B : Nat} {v : Value} {l : List Int} (h : OwnB w B v l) (hl : 1 ≤ l.length) : ∃ g c, v = .slice (some ⟨g, 0, none⟩) l.length c ∧ l.length ≤ c := by
  obtain ⟨g, c, rfl, -, -⟩ := World.ownsRow.form h hl
  refine ⟨g, c, rfl, ?_⟩
  obtain ⟨h1, h2⟩ := h
  rcases h2 with ⟨hv, _⟩ | ⟨g', cap, cur, hv, _, _, hle, _⟩
  · cases hv
  · injection hv with _ _ e; omega
theorem OwnB.set {w : World} {B g n c : Nat} {l : List Int} (h : OwnB w B (.slice (some ⟨g, 0, none⟩) n c) l) (j : Nat) (x : Int) : OwnB (w.setCell ⟨g, j, none⟩ (.int .u8 x)) B (.slice (some ⟨g, 0, none⟩) n c) (l.set j x) ∧ w.grownBy (w.setCell ⟨g, j, none⟩ (.int .u8 x)) (some g) := by
  have hn : n = l.length := by
    obtain ⟨h1, h2⟩ := h
    rcases h2 with ⟨hv, _⟩ | ⟨g', cap, cur, hv, _⟩
    · cases hv
    · injection hv
  subst hn
  obtain ⟨h1, h2⟩ := World.ownsRow.stored h j (.int .u8 x)
  refine ⟨?_, h2⟩
  unfold OwnB
  rw [List.length_set, btV, List.map_set]
  exact h1
theorem OwnB.at_ {w : World} {B g n c : Nat} {l : List Int} (h : OwnB w B (.slice (some ⟨g, 0, none⟩) n c) l) {j : Nat} {x : Int} (hx : l[j]? = some x) : w.cell? ⟨g, j, none⟩ = some (.int .u8 x) ∧ w.frozen? ⟨g, j, none⟩ = false := by
  have hn : n = l.length := by
    obtain ⟨h1, h2⟩ := h
    rcases h2 with ⟨hv, _⟩ | ⟨g', cap, cur, hv, _⟩
    · cases hv
    · injection hv
  subst hn
  refine ⟨?_, World.ownsRow.frozenAt h j⟩
  rw [World.ownsRow.cellAt h j (by have := lt_of_get hx; omega), btV, List.getElem?_map, hx]
  rfl
/-- A row that was written over so far. -/
theorem fill_set {l : List Int} {k : Nat} (hk : k < l.length) (x : Int) : (List.replicate k x ++ l.drop k).set k x = List.replicate (k + 1) x ++ l.drop (k + 1) := by
  rw [List.set_append_right _ _ (by simp), List.length_replicate, Nat.sub_self, List.drop_eq_getElem_cons hk, List.set_cons_zero, List.replicate_succ', List.append_assoc]
  rfl
theorem fill_len {l : List Int} {k : Nat} (hk : k ≤ l.length) (x : Int) : (List.replicate k x ++ l.drop k).length = l.length := by simp; omega
theorem OwnB.slice {w : World} {B n c : Nat} {a : Option Addr} {l : List Int} (h : OwnB w B (.slice a n c) l) : n = l.length := by
  obtain ⟨a', c', e, -⟩ := h.shape
  injection e
theorem OwnB.grown {w w' : World} {B : Nat} {v : Value} {l : List Int} {row : Option Nat} (h : OwnB w B v l) (hg : w.grownBy w' row) (hn : ∀ g, v.ownBlock = some g → row ≠ some g) : OwnB w' B v l :=
  h.keep fun g hg' => hg.block g (h.block g hg').2 (fun e => hn g hg' e.symm)
theorem OwnB.inB {w : World} {B g n c : Nat} {l : List Int} (h : OwnB w B (.slice (some ⟨g, 0, none⟩) n c) l) : InB w (some ⟨g, 0, none⟩) l := fun i x hx => ⟨g, 0, rfl, by rw [Nat.zero_add]; exact (h.at_ hx).1⟩
theorem InB.prefix_ {w : World} {a : Option Addr} {l m : List Int} (h : InB w a (l ++ m)) : InB w a l := fun i x hx => h i x (by rw [List.getElem?_append_left (lt_of_get hx)]; exact hx)
end Go.Proofs.Yteoekfmjlmpmgaa
