/- What layer 14's statements need of the program's superblocks on a disk. No statement is proved here. -/
import Derived.Test.YtonjapphhbhcpaaDoorUDk2
import Derived.Test.YtonjapphhbhcpaaDoorJ21
import Derived.Test.YtonjapphhbhcpaaDoorURef5
import Derived.Test.YtonjapphhbhcpaaDoorDBlkP
import Derived.Test.YtonjapphhbhcpaaDoorJ10
import Derived.Test.YtonjapphhbhcpaaDoorJ8
namespace Go.Proofs.YtonjapphhbhcpaaDoor
open Go.RowKit
set_option maxRecDepth 100000

/-- The program's calls on a disk answer so, in every world that has grown out of W. -/
structure P14D (W : World) : Prop where
  write : ∀ (h g : Nat) (s : Sup) (w : World) (B : Base) (N : Nat) (d : Dk), Below W.heap.size W w → s.In → w.heap[h]? = some (.cells #[.pointer (some ⟨g, 0, none⟩)] 93) → BoxAt w B g d N → N + 8 ≤ 1099511627776 → (∀ y, B.off = some y → y < w.heap.size) →
    Calls Tryd.prog 24 #[.pointer (some ⟨h, 0, none⟩), s.arg] w fun e w' => e = .returned (errV (d.swr s).1) ∧ BoxAt w' B g (d.swr s).2 (N + 8) ∧ Turns TB B.lo w w'
  read : ∀ (h g : Nat) (w : World) (B : Base) (N : Nat) (d : Dk), Below W.heap.size W w → w.heap[h]? = some (.cells #[.pointer (some ⟨g, 0, none⟩)] 93) → BoxAt w B g d N → d.byte →
    Calls Tryd.prog 28 #[.pointer (some ⟨h, 0, none⟩)] w fun e w' => e = .returned (.tuple #[d.srS.arg, errV d.srE]) ∧ Below w.heap.size w w'
theorem InK.up {w : World} {B B' : Nat} {a : Option Addr} {l : List Bool} (h : InK w B a l) (hB : B ≤ B') : InK w B' a l := fun i x hx => by
  obtain ⟨b, o, h1, h2, h3⟩ := h i x hx
  exact ⟨b, o, h1, by omega, h3⟩
theorem handS_TB {cur : Array Value} {fr : Nat × Nat} : ¬ TB (.cells cur 80 fr) := by
  show ¬ ((80 : Nat) = 78 ∨ (80 : Nat) = 95)
  decide
/-- Where a law stands: the disk, two superblocks in boxes. -/
structure USt (W w : World) (B h g bs bt : Nat) (s t : Sup) (d : Dk) (N : Nat) : Prop where
  box : BoxAt w B g d N
  hand : w.heap[h]? = some (.cells #[.pointer (some ⟨g, 0, none⟩)] 80)
  one : w.heap[bs]? = some (.cells #[.int .i64 s.ver, .int .i64 s.root, .int .i64 s.ep, .int .i64 s.pag] 23)
  two : w.heap[bt]? = some (.cells #[.int .i64 t.ver, .int .i64 t.root, .int .i64 t.ep, .int .i64 t.pag] 23)
  below : Below W.heap.size W w
section
variable {W w w' : World} {B h g bs bt N : Nat} {s t : Sup} {d : Dk}
theorem USt.then_ (u : USt W w B h g bs bt s t d N) (hb : Below w.heap.size w w') : USt W w' B h g bs bt s t d N :=
  { box := u.box.then_ hb
    hand := (hb.block _ (lt_of_block u.hand)).trans u.hand
    one := (hb.block _ (lt_of_block u.one)).trans u.one
    two := (hb.block _ (lt_of_block u.two)).trans u.two
    below := u.below.trans (hb.mono u.below.size) }
theorem USt.turn (u : USt W w B h g bs bt s t d N) {d' : Dk} {N' : Nat} (hW : W.heap.size ≤ B) (hb : BoxAt w' B g d' N') (ht : Turns TB B w w') : USt W w' B h g bs bt s t d' N' :=
  { box := hb
    hand := ht.block _ _ u.hand handS_TB
    one := ht.block _ _ u.one super_TB
    two := ht.block _ _ u.two super_TB
    below := u.below.trans (ht.below.mono hW) }
theorem USt.cells (u : USt W w B h g bs bt s t d N) : (w.cell? ⟨bs, 0, none⟩ = some (.int .i64 s.ver) ∧ w.cell? ⟨bs, 1, none⟩ = some (.int .i64 s.root) ∧ w.cell? ⟨bs, 2, none⟩ = some (.int .i64 s.ep) ∧ w.cell? ⟨bs, 3, none⟩ = some (.int .i64 s.pag)) ∧
    w.cell? ⟨bt, 0, none⟩ = some (.int .i64 t.ver) ∧ w.cell? ⟨bt, 1, none⟩ = some (.int .i64 t.root) ∧ w.cell? ⟨bt, 2, none⟩ = some (.int .i64 t.ep) ∧ w.cell? ⟨bt, 3, none⟩ = some (.int .i64 t.pag) :=
  ⟨box4_cells u.one, box4_cells u.two⟩
end
end Go.Proofs.YtonjapphhbhcpaaDoor
