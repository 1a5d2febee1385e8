/- Operators of layer 5: which operator stands at a name. No statement is proved here. -/
import Derived.Test.YtcpbdmgkeljkgaaGreatDoorOwn
namespace Go.Proofs.YtcpbdmgkeljkgaaGreatDoor
open Go.RowKit
set_option maxRecDepth 100000

/-- A strict operator: how many arguments, of which kinds, what makes of them what. -/
def sOp (least : Int) (more : Bool) (g n c : Nat) (made : Value) : Value := .iface 135 (.agg #[.int .i64 least, .bool more, .slice (some ⟨g, 0, none⟩) n c, .func (.func 116) #[made] #[]])
def fOf (n : FuncId) : Value := .func (.func n) #[] #[]
/-- An operator that takes what comes. -/
def eOp (least : Int) (more : Bool) (made : Value) : Value := .iface 138 (.agg #[.int .i64 least, .bool more, made])
inductive OpX | add | mul | sub | div | mod | max | gt | cond
def nameX : OpX → ByteArray
  | .add => ⟨#[36, 97, 100, 100]⟩
  | .mul => ⟨#[36, 109, 117, 108, 116, 105, 112, 108, 121]⟩
  | .sub => ⟨#[36, 115, 117, 98, 116, 114, 97, 99, 116]⟩
  | .div => ⟨#[36, 100, 105, 118, 105, 100, 101]⟩
  | .mod => ⟨#[36, 109, 111, 100]⟩
  | .max => ⟨#[36, 109, 97, 120]⟩
  | .gt => ⟨#[36, 103, 116]⟩
  | .cond => ⟨#[36, 99, 111, 110, 100]⟩
/-- The operator of a name, as it lies. -/
def OpAt (B : Nat) (W : World) : OpX → Value → Prop
  | .add, v => ∃ g, B ≤ g ∧ v = sOp 1 true g 1 1 (fOf 72) ∧ W.heap[g]? = some (.cells #[.int .i64 1032] 128 (0, 0))
  | .mul, v => ∃ g, B ≤ g ∧ v = sOp 1 true g 1 1 (fOf 73) ∧ W.heap[g]? = some (.cells #[.int .i64 8] 128 (0, 0))
  | .sub, v => ∃ g, B ≤ g ∧ v = sOp 2 false g 2 2 (fOf 75) ∧ W.heap[g]? = some (.cells #[.int .i64 1032, .int .i64 1032] 128 (0, 0))
  | .div, v => ∃ g, B ≤ g ∧ v = sOp 2 false g 2 2 (fOf 76) ∧ W.heap[g]? = some (.cells #[.int .i64 8, .int .i64 8] 128 (0, 0))
  | .mod, v => ∃ g, B ≤ g ∧ v = sOp 2 false g 2 2 (fOf 77) ∧ W.heap[g]? = some (.cells #[.int .i64 8, .int .i64 8] 128 (0, 0))
  | .max, v => v = eOp 1 true (fOf 97)
  | .gt, v => ∃ g, B ≤ g ∧ v = eOp 2 false (.func (.func 102) #[] #[.pointer (some ⟨g, 0, none⟩)]) ∧ W.heap[g]? = some (.cells #[fOf 149] 96 (0, 0))
  | .cond, v => v = .iface 142 (.agg #[.int .i64 3, .bool false])
theorem row_thenE {w w' : World} {g : Nat} {o : Obj} (h : w.heap[g]? = some o) (hb : Below w.heap.size w w') : w'.heap[g]? = some o := by
  have hg : g < w.heap.size := by
    rcases Nat.lt_or_ge g w.heap.size with h' | h'
    · exact h'
    · rw [Array.getElem?_eq_none h'] at h; cases h
  exact (hb.block g hg).trans h
theorem OpAt.then_ {B : Nat} {w w' : World} {o : OpX} {v : Value} (h : OpAt B w o v) (hb : Below w.heap.size w w') : OpAt B w' o v := by
  cases o <;> first
    | (obtain ⟨g, h0, h1, h2⟩ := h; exact ⟨g, h0, h1, row_thenE h2 hb⟩)
    | exact h
theorem OpAt.base {B B' : Nat} {w : World} {o : OpX} {v : Value} (h : OpAt B w o v) (hB : B' ≤ B) : OpAt B' w o v := by
  cases o <;> first
    | (obtain ⟨g, h0, h1, h2⟩ := h; exact ⟨g, Nat.le_trans hB h0, h1, h2⟩)
    | exact h
theorem OpAt.onlyS {B : Nat} {w w' : World} {S : List Nat} {o : OpX} {v : Value} (h : OpAt B w o v) (ho : Only S w w') (hS : ∀ b ∈ S, b < B) : OpAt B w' o v := by
  cases o <;> first
    | (obtain ⟨g, h0, h1, h2⟩ := h; exact ⟨g, h0, h1, (ho.block g (Array.getElem?_eq_some_iff.1 h2).1 (fun hc => by have := hS g hc; omega)).trans h2⟩)
    | exact h
theorem each_any (k : Int) (w : World) (m : Value) : Calls Tryz.prog 71 #[m, .int .i64 k] w fun e w' => e = .returned (sOp 1 true w.heap.size 1 1 m) ∧ w' = w.alloc (.cells #[.int .i64 k] 128) := by
  go_enter Tryz.func71, Tryz.ntmps71
  go_wp2_with fail
  go_ret
  exact ⟨rfl, rfl⟩
theorem just_any (g n c : Nat) (hn : n ≤ 1000) (w : World) (m : Value) : Calls Tryz.prog 74 #[m, .slice (some ⟨g, 0, none⟩) n c] w fun e w' => e = .returned (sOp n false g n c m) ∧ w' = w := by
  go_enter Tryz.func74, Tryz.ntmps74
  go_wp2_with fail
  go_ret
  exact ⟨rfl, rfl⟩
theorem nil_numberOperator_max (w : World) : Calls Tryz.prog 59 #[.string ⟨#[36, 109, 97, 120]⟩] w fun e w' => e = .returned .nilIface ∧ w' = w := by
  go_enter Tryz.func59, Tryz.ntmps59
  go_wp2_with fail
  go_ret
  exact ⟨rfl, rfl⟩
theorem nil_textOperator_max (w : World) : Calls Tryz.prog 60 #[.string ⟨#[36, 109, 97, 120]⟩] w fun e w' => e = .returned .nilIface ∧ w' = w := by
  go_enter Tryz.func60, Tryz.ntmps60
  go_wp2_with fail
  go_ret
  exact ⟨rfl, rfl⟩
theorem nil_listOperator_max (w : World) : Calls Tryz.prog 61 #[.string ⟨#[36, 109, 97, 120]⟩] w fun e w' => e = .returned .nilIface ∧ w' = w := by
  go_enter Tryz.func61, Tryz.ntmps61
  go_wp2_with fail
  go_ret
  exact ⟨rfl, rfl⟩
theorem nil_numberOperator_gt (w : World) : Calls Tryz.prog 59 #[.string ⟨#[36, 103, 116]⟩] w fun e w' => e = .returned .nilIface ∧ w' = w := by
  go_enter Tryz.func59, Tryz.ntmps59
  go_wp2_with fail
  go_ret
  exact ⟨rfl, rfl⟩
theorem nil_textOperator_gt (w : World) : Calls Tryz.prog 60 #[.string ⟨#[36, 103, 116]⟩] w fun e w' => e = .returned .nilIface ∧ w' = w := by
  go_enter Tryz.func60, Tryz.ntmps60
  go_wp2_with fail
  go_ret
  exact ⟨rfl, rfl⟩
theorem nil_listOperator_gt (w : World) : Calls Tryz.prog 61 #[.string ⟨#[36, 103, 116]⟩] w fun e w' => e = .returned .nilIface ∧ w' = w := by
  go_enter Tryz.func61, Tryz.ntmps61
  go_wp2_with fail
  go_ret
  exact ⟨rfl, rfl⟩
theorem nil_numberOperator_cond (w : World) : Calls Tryz.prog 59 #[.string ⟨#[36, 99, 111, 110, 100]⟩] w fun e w' => e = .returned .nilIface ∧ w' = w := by
  go_enter Tryz.func59, Tryz.ntmps59
  go_wp2_with fail
  go_ret
  exact ⟨rfl, rfl⟩
theorem nil_textOperator_cond (w : World) : Calls Tryz.prog 60 #[.string ⟨#[36, 99, 111, 110, 100]⟩] w fun e w' => e = .returned .nilIface ∧ w' = w := by
  go_enter Tryz.func60, Tryz.ntmps60
  go_wp2_with fail
  go_ret
  exact ⟨rfl, rfl⟩
theorem nil_listOperator_cond (w : World) : Calls Tryz.prog 61 #[.string ⟨#[36, 99, 111, 110, 100]⟩] w fun e w' => e = .returned .nilIface ∧ w' = w := by
  go_enter Tryz.func61, Tryz.ntmps61
  go_wp2_with fail
  go_ret
  exact ⟨rfl, rfl⟩
theorem nil_boolOperator_max (w : World) : Calls Tryz.prog 62 #[.string ⟨#[36, 109, 97, 120]⟩] w fun e w' => e = .returned .nilIface ∧ w' = w := by
  go_enter Tryz.func62, Tryz.ntmps62
  go_wp2_with fail
  go_ret
  exact ⟨rfl, rfl⟩
theorem nil_boolOperator_gt (w : World) : Calls Tryz.prog 62 #[.string ⟨#[36, 103, 116]⟩] w fun e w' => e = .returned .nilIface ∧ w' = w := by
  go_enter Tryz.func62, Tryz.ntmps62
  go_wp2_with fail
  go_ret
  exact ⟨rfl, rfl⟩
theorem num_add (w : World) : Calls Tryz.prog 59 #[.string ⟨#[36, 97, 100, 100]⟩] w fun e w' => Below w.heap.size w w' ∧ ∃ t x, e = .returned (.iface t x) ∧ OpAt w.heap.size w' .add (.iface t x) := by
  go_enter Tryz.func59, Tryz.ntmps59
  go_wp2_with fail
  refine (each_any 1032 w _).mono ?_
  rintro e w1 ⟨rfl, rfl⟩
  go_wp2_with fail
  go_ret
  exact ⟨below1 _ _, _, _, rfl, _, Nat.le_refl _, rfl, heap_alloc_new _ _⟩
theorem num_mul (w : World) : Calls Tryz.prog 59 #[.string ⟨#[36, 109, 117, 108, 116, 105, 112, 108, 121]⟩] w fun e w' => Below w.heap.size w w' ∧ ∃ t x, e = .returned (.iface t x) ∧ OpAt w.heap.size w' .mul (.iface t x) := by
  go_enter Tryz.func59, Tryz.ntmps59
  go_wp2_with fail
  refine (each_any 8 w _).mono ?_
  rintro e w1 ⟨rfl, rfl⟩
  go_wp2_with fail
  go_ret
  exact ⟨below1 _ _, _, _, rfl, _, Nat.le_refl _, rfl, heap_alloc_new _ _⟩
theorem num_sub (w : World) : Calls Tryz.prog 59 #[.string ⟨#[36, 115, 117, 98, 116, 114, 97, 99, 116]⟩] w fun e w' => Below w.heap.size w w' ∧ ∃ t x, e = .returned (.iface t x) ∧ OpAt w.heap.size w' .sub (.iface t x) := by
  go_enter Tryz.func59, Tryz.ntmps59
  go_wp2_with fail
  refine (just_any _ 2 2 (by decide) _ _).mono ?_
  rintro e w1 ⟨rfl, rfl⟩
  go_wp2_with fail
  go_ret
  exact ⟨below1 _ _, _, _, rfl, _, Nat.le_refl _, rfl, heap_alloc_new _ _⟩
theorem num_div (w : World) : Calls Tryz.prog 59 #[.string ⟨#[36, 100, 105, 118, 105, 100, 101]⟩] w fun e w' => Below w.heap.size w w' ∧ ∃ t x, e = .returned (.iface t x) ∧ OpAt w.heap.size w' .div (.iface t x) := by
  go_enter Tryz.func59, Tryz.ntmps59
  go_wp2_with fail
  refine (just_any _ 2 2 (by decide) _ _).mono ?_
  rintro e w1 ⟨rfl, rfl⟩
  go_wp2_with fail
  go_ret
  exact ⟨below1 _ _, _, _, rfl, _, Nat.le_refl _, rfl, heap_alloc_new _ _⟩
theorem num_mod (w : World) : Calls Tryz.prog 59 #[.string ⟨#[36, 109, 111, 100]⟩] w fun e w' => Below w.heap.size w w' ∧ ∃ t x, e = .returned (.iface t x) ∧ OpAt w.heap.size w' .mod (.iface t x) := by
  go_enter Tryz.func59, Tryz.ntmps59
  go_wp2_with fail
  refine (just_any _ 2 2 (by decide) _ _).mono ?_
  rintro e w1 ⟨rfl, rfl⟩
  go_wp2_with fail
  go_ret
  exact ⟨below1 _ _, _, _, rfl, _, Nat.le_refl _, rfl, heap_alloc_new _ _⟩
theorem bool_cond (w : World) : Calls Tryz.prog 62 #[.string ⟨#[36, 99, 111, 110, 100]⟩] w fun e w' => Below w.heap.size w w' ∧ ∃ t x, e = .returned (.iface t x) ∧ OpAt w.heap.size w' .cond (.iface t x) := by
  go_enter Tryz.func62, Tryz.ntmps62
  go_wp2_with fail
  go_ret
  exact ⟨Below.refl _ _, _, _, rfl, rfl⟩
theorem order_max (w : World) : Calls Tryz.prog 63 #[.string ⟨#[36, 109, 97, 120]⟩] w fun e w' => Below w.heap.size w w' ∧ ∃ t x, e = .returned (.iface t x) ∧ OpAt w.heap.size w' .max (.iface t x) := by
  go_enter Tryz.func63, Tryz.ntmps63
  go_wp2_with fail
  go_ret
  exact ⟨Below.refl _ _, _, _, rfl, rfl⟩
theorem test_gt (w : World) : Calls Tryz.prog 101 #[.string ⟨#[36, 103, 116]⟩] w fun e w' => e = .returned (fOf 149) ∧ w' = w := by
  go_enter Tryz.func101, Tryz.ntmps101
  go_wp2_with fail
  go_ret
  exact ⟨rfl, rfl⟩
theorem order_gt (w : World) : Calls Tryz.prog 63 #[.string ⟨#[36, 103, 116]⟩] w fun e w' => Below w.heap.size w w' ∧ ∃ t x, e = .returned (.iface t x) ∧ OpAt w.heap.size w' .gt (.iface t x) := by
  go_enter Tryz.func63, Tryz.ntmps63
  go_wp2_with fail
  refine (test_gt w).mono ?_
  rintro e w1 ⟨rfl, rfl⟩
  dsimp only [fOf]
  have hst := fun (a : Addr) (W : World) => run_store Tryz.prog W a (.func (.func 149) #[] #[]) .plain rfl
  have heq := fun (W : World) => (show (Sem.run Tryz.prog (binOp .eql 96 (.func (.func 149) #[] #[]) .nilFunc) W) = .ok (.bool false) W from rfl)
  go_wp2_with fail
  go_ret
  exact ⟨below1 _ _, _, _, rfl, _, Nat.le_refl _, rfl, heap_alloc_new _ _⟩
end Go.Proofs.YtcpbdmgkeljkgaaGreatDoor
