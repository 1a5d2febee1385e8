/- A disk's box read, written, and left alone. No statement is proved here. -/
import Derived.Test.YtlpnhfceblbllaaDoorDBox
namespace Go.Proofs.YtlpnhfceblbllaaDoor
open Go.RowKit
open Go.Maps (Keyed IsMap Tidy)
set_option maxRecDepth 100000

theorem owns_keep {w w' : World} {b n : Nat} {D : DataW Unit} (h : w.ownsMap Tryd.prog 3 RowR b n D) (e : w'.heap[b]? = w.heap[b]?) : w'.ownsMap Tryd.prog 3 RowR b n D := by
  obtain ⟨es, clock, hb, hr⟩ := h
  exact ⟨es, clock, e.trans hb, hr⟩
theorem row_keepW {w w' : World} {B n : Nat} {v : Value} {xs : List Value} (h : w.ownsRow B 95 2 v n xs) (hb : ∀ g, v.ownBlock = some g → w'.heap[g]? = w.heap[g]?) : w'.ownsRow B 95 2 v n xs := by
  obtain ⟨h1, h2⟩ := h
  refine ⟨h1, ?_⟩
  rcases h2 with h2 | ⟨g, cap, cur, hv, hB, hg, hrest⟩
  · exact .inl h2
  · refine .inr ⟨g, cap, cur, hv, hB, ?_, hrest⟩
    rw [hb g (by rw [hv]; rfl)]
    exact hg
section
variable {w w' : World} {B g N : Nat} {d d' : Dk} {s : Spot}
theorem BoxOf.lt (h : BoxOf w B g d N s) : g < w.heap.size := lt_of_block h.box
theorem BoxOf.sbObj (h : BoxOf w B g d N s) : ∃ es c, w.heap[s.sb]? = some (.map es c) := by obtain ⟨es, c, hb, -⟩ := h.mapS; exact ⟨es, c, hb⟩
theorem BoxOf.nbObj (h : BoxOf w B g d N s) : ∃ es c, w.heap[s.nb]? = some (.map es c) := by obtain ⟨es, c, hb, -⟩ := h.mapN; exact ⟨es, c, hb⟩
theorem BoxOf.sbLt (h : BoxOf w B g d N s) : s.sb < w.heap.size := by obtain ⟨es, c, e⟩ := h.sbObj; exact lt_of_block e
theorem BoxOf.nbLt (h : BoxOf w B g d N s) : s.nb < w.heap.size := by obtain ⟨es, c, e⟩ := h.nbObj; exact lt_of_block e
theorem BoxOf.gsb (h : BoxOf w B g d N s) : g ≠ s.sb := by
  rintro rfl; obtain ⟨es, c, e⟩ := h.sbObj; rw [h.box] at e; injection e with e; cases e
theorem BoxOf.gnb (h : BoxOf w B g d N s) : g ≠ s.nb := by
  rintro rfl; obtain ⟨es, c, e⟩ := h.nbObj; rw [h.box] at e; injection e with e; cases e
/-- The writes' block: it holds writes. -/
theorem BoxOf.wvObj (h : BoxOf w B g d N s) : ∀ b, s.wv.ownBlock = some b → ∃ cur, w.heap[b]? = some (.cells cur 95) ∧ B ≤ b ∧ b < w.heap.size := by
  obtain ⟨h1, h2⟩ := h.wait
  rcases h2 with ⟨hv, -⟩ | ⟨g', cap, cur, hv, hB, hg, -⟩
  · intro b hb; rw [hv] at hb; cases hb
  · intro b hb
    rw [hv] at hb
    injection hb with hb
    subst hb
    exact ⟨cur, hg, hB, lt_of_block hg⟩
theorem box_not_write : (72 : Nat) ≠ 95 := by decide
theorem box_not_byte : (72 : Nat) ≠ 5 := by decide
theorem write_not_byte : (95 : Nat) ≠ 5 := by decide
theorem BoxOf.wvNe (h : BoxOf w B g d N s) : ∀ b, s.wv.ownBlock = some b → b ≠ g ∧ b ≠ s.sb ∧ b ≠ s.nb := by
  intro b hb
  obtain ⟨cur, e, -, -⟩ := h.wvObj b hb
  refine ⟨?_, ?_, ?_⟩
  · rintro rfl; rw [h.box] at e; injection e with e; injection e with _ e; exact box_not_write e
  · rintro rfl; obtain ⟨es, c, e2⟩ := h.sbObj; rw [e] at e2; injection e2 with e2; cases e2
  · rintro rfl; obtain ⟨es, c, e2⟩ := h.nbObj; rw [e] at e2; injection e2 with e2; cases e2
/-- A row of bytes lies apart from all of these. -/
theorem BoxOf.rowNe (h : BoxOf w B g d N s) {v : Value} {r : List Int} (hr : RowAt w B v r) : ∀ b, v.ownBlock = some b → b ≠ g ∧ b ≠ s.sb ∧ b ≠ s.nb ∧ ∀ x, s.wv.ownBlock = some x → b ≠ x := by
  intro b hb
  obtain ⟨cur, e, -, -⟩ := hr.block b hb
  refine ⟨?_, ?_, ?_, ?_⟩
  · rintro rfl; rw [h.box] at e; injection e with e; injection e with _ e; exact box_not_byte e
  · rintro rfl; obtain ⟨es, c, e2⟩ := h.sbObj; rw [e] at e2; injection e2 with e2; cases e2
  · rintro rfl; obtain ⟨es, c, e2⟩ := h.nbObj; rw [e] at e2; injection e2 with e2; cases e2
  · rintro x hx rfl; obtain ⟨cur2, e2, -⟩ := h.wvObj b hx; rw [e] at e2; injection e2 with e2; injection e2 with _ e2; exact write_not_byte e2.symm
theorem BoxOf.cells (h : BoxOf w B g d N s) (i : Nat) : w.cell? ⟨g, i, none⟩ = (boxC d s.sb s.nb s.wv)[i]? := row_cells h.box i
theorem BoxOf.frozen (h : BoxOf w B g d N s) (i : Nat) : w.frozen? ⟨g, i, none⟩ = false := by simp [World.frozen?, h.box]
/-- Where nothing of it has turned, it is the same disk. -/
theorem BoxOf.then_ (h : BoxOf w B g d N s) (hb : Below w.heap.size w w') : BoxOf w' B g d N s :=
  { h with
    box := (hb.block g h.lt).trans h.box
    mapS := owns_keep h.mapS (hb.block _ h.sbLt)
    mapN := owns_keep h.mapN (hb.block _ h.nbLt)
    isS := h.isS.keep fun v r hr => hr.then_ hb
    isN := h.isN.keep fun v r hr => hr.then_ hb
    wait := row_keepW h.wait fun b hb' => hb.block b (h.wvObj b hb').choose_spec.2.2
    rows := fun i p v h1 h2 => (h.rows i p v h1 h2).then_ hb }
theorem BoxAt.then_ (h : BoxAt w B g d N) (hb : Below w.heap.size w w') : BoxAt w' B g d N := by obtain ⟨k, s, h⟩ := h; exact ⟨k, s, h.then_ hb⟩
theorem BoxAt.lt (h : BoxAt w B g d N) : B ≤ g ∧ g < w.heap.size := by obtain ⟨-, s, h⟩ := h; exact ⟨h.gB, h.lt⟩
theorem BoxAt.ok (h : BoxAt w B g d N) : d.ok := h.1
theorem BoxAt.more (h : BoxAt w B g d N) {N' : Nat} (hN : N ≤ N') : BoxAt w B g d N' := by
  obtain ⟨k, s, h⟩ := h
  exact ⟨k, s, { h with numS := Nat.le_trans h.numS hN, numN := Nat.le_trans h.numN hN }⟩
/-- The box's own cells turn: the rest stays. -/
theorem BoxOf.turn (h : BoxOf w B g d N s) (hb : ∀ b, b < w.heap.size → b ≠ g → w'.heap[b]? = w.heap[b]?) (hg : w'.heap[g]? = some (.cells (boxC d' s.sb s.nb s.wv) 72))
    (e1 : d'.safe = d.safe) (e2 : d'.now = d.now) (e3 : d'.wait = d.wait) (e4 : d'.many = d.many) (ha : d'.acts ≤ 9223372036854775807) : BoxOf w' B g d' N s where
  box := hg
  gB := h.gB
  sB := h.sB
  nB := h.nB
  ne := h.ne
  mapS := owns_keep h.mapS (hb _ h.sbLt h.gsb.symm)
  mapN := owns_keep h.mapN (hb _ h.nbLt h.gnb.symm)
  isS := by rw [e1]; exact h.isS.keep fun v r hr => hr.keep fun b hb' => hb b (hr.block b hb').choose_spec.2.2 (h.rowNe hr b hb').1
  isN := by rw [e2]; exact h.isN.keep fun v r hr => hr.keep fun b hb' => hb b (hr.block b hb').choose_spec.2.2 (h.rowNe hr b hb').1
  wlen := by rw [e3]; exact h.wlen
  wait := by rw [e3]; exact row_keepW h.wait fun b hb' => hb b (h.wvObj b hb').choose_spec.2.2 (h.wvNe b hb').1
  rows := fun i p v h1 h2 => by
    rw [e3] at h1
    have hr := h.rows i p v h1 h2
    exact hr.keep fun b hb' => hb b (hr.block b hb').choose_spec.2.2 (h.rowNe hr b hb').1
  numS := by rw [e3]; exact h.numS
  numN := h.numN
  many := by rw [e4]; exact h.many
  acts := ha
theorem set_others (w : World) (a : Addr) (u : Value) (b : Nat) (h : b ≠ a.block) : (w.setCell a u).heap[b]? = w.heap[b]? := Below.heap_setCell w a u b h
end
/-- Of what was there only blocks of some make, from B on, may have turned. -/
structure Turns (T : Obj → Prop) (B : Nat) (w w' : World) : Prop where
  below : Below B w w'
  block : ∀ (b : Nat) (o : Obj), w.heap[b]? = some o → ¬ T o → w'.heap[b]? = some o
theorem Turns.refl (T : Obj → Prop) (B : Nat) (w : World) : Turns T B w w := ⟨Below.refl _ _, fun _ _ h _ => h⟩
theorem Turns.trans {T : Obj → Prop} {B : Nat} {a b c : World} (h : Turns T B a b) (k : Turns T B b c) : Turns T B a c :=
  ⟨h.below.trans k.below, fun i o e n => k.block i o (h.block i o e n) n⟩
theorem Turns.of_below {T : Obj → Prop} {B : Nat} {a b : World} (hB : B ≤ a.heap.size) (h : Below a.heap.size a b) : Turns T B a b :=
  ⟨h.mono hB, fun i o e _ => (h.block i (lt_of_block e)).trans e⟩
theorem Turns.size {T : Obj → Prop} {B : Nat} {a b : World} (h : Turns T B a b) : a.heap.size ≤ b.heap.size := h.below.size
theorem Turns.setCell {T : Obj → Prop} {B : Nat} {a b : World} (h : Turns T B a b) {p : Addr} {o : Obj} (hp : b.heap[p.block]? = some o) (ht : T o) (hB : B ≤ p.block) (u : Value) : Turns T B a (b.setCell p u) :=
  ⟨h.below.setCell hB u, fun i o' e n => by
    have h1 := h.block i o' e n
    refine (Below.heap_setCell b p u i ?_).trans h1
    rintro rfl
    rw [hp] at h1
    injection h1 with h1
    subst h1
    exact n ht⟩
theorem Turns.grown {T : Obj → Prop} {B : Nat} {a b c : World} (h : Turns T B a b) {row : Option Nat} (hg : b.grownBy c row) (hr : ∀ k, row = some k → B ≤ k ∧ ∃ o, b.heap[k]? = some o ∧ T o) (hB : B ≤ b.heap.size) : Turns T B a c :=
  ⟨h.below.grown hg hB fun k e => (hr k e).1, fun i o e n => by
    have h1 := h.block i o e n
    refine (hg.block i (lt_of_block h1) fun e2 => ?_).trans h1
    obtain ⟨-, o2, h2, h3⟩ := hr i e2.symm
    rw [h1] at h2
    injection h2 with h2
    subst h2
    exact n h3⟩
theorem Turns.mono {T : Obj → Prop} {B B' : Nat} {a b : World} (h : Turns T B a b) (hB : B' ≤ B) : Turns T B' a b := ⟨h.below.mono hB, h.block⟩
/-- What a disk of package block is made of. -/
def TB : Obj → Prop
  | .cells _ t _ => t = 72 ∨ t = 95
  | _ => True
theorem RowAt.turns {T : Obj → Prop} {w w' : World} {B B' : Nat} {v : Value} {r : List Int} (h : RowAt w B v r) (ht : Turns T B' w w') (hn : ∀ cur, ¬ T (.cells cur 5)) : RowAt w' B v r :=
  h.keep fun b hb => by
    obtain ⟨cur, h1, -, -⟩ := h.block b hb
    exact (ht.block b _ h1 (hn cur)).trans h1.symm
theorem TB_byte (cur : Array Value) (fr : Nat × Nat) : ¬ TB (.cells cur 5 fr) := by
  show ¬ ((5 : Nat) = 72 ∨ (5 : Nat) = 95)
  decide
theorem TB_box (cur : Array Value) (fr : Nat × Nat) : TB (.cells cur 72 fr) := .inl rfl
theorem TB_write (cur : Array Value) (fr : Nat × Nat) : TB (.cells cur 95 fr) := .inr rfl
end Go.Proofs.YtlpnhfceblbllaaDoor
