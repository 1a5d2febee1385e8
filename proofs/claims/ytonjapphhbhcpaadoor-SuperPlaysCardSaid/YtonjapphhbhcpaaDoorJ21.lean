/- Two superblocks held against each other. What layer 14's statements need of the program: its calls' contracts, in one; and the document's examples. No statement is proved here. -/
import Derived.Test.YtonjapphhbhcpaaDoorURef
import Derived.Laws.StructEq
import Derived.Test.YtonjapphhbhcpaaDoorURef3
import Derived.Test.YtonjapphhbhcpaaDoorURef4
namespace Go.Proofs.YtonjapphhbhcpaaDoor
open Go.RowKit
set_option maxRecDepth 100000

theorem sup_fields : Tryd.prog.underlying 23 = some (.struct (Tryd.prog.fieldsOf 23)) := by kernel_rfl
theorem sup_held : Tryd.prog.stoodInHeld 23 = false := by kernel_rfl
theorem sup_guard : Tryd.prog.eqGuardType Tryd.prog.depth 23 = false := by kernel_rfl
theorem sup_eqg (op : BinOp) (x y : Operand) (a b : Array Value) (w : World) : (eqGuard op 23 x y (.agg a) (.agg b)).run Tryd.prog w = .ok () w := run_eqGuard_agg w op _ x y a b sup_guard
theorem sup_eql (a0 a1 a2 a3 b0 b1 b2 b3 : Int) (w : World) : (binOp .eql 23 (.agg #[.int .i64 a0, .int .i64 a1, .int .i64 a2, .int .i64 a3]) (.agg #[.int .i64 b0, .int .i64 b1, .int .i64 b2, .int .i64 b3])).run Tryd.prog w = .ok (.bool (decide (a0 = b0 ∧ a1 = b1 ∧ a2 = b2 ∧ a3 = b3))) w := by
  rw [run_eql_struct]
  by_cases h0 : a0 = b0 <;> by_cases h1 : a1 = b1 <;> by_cases h2 : a2 = b2 <;> by_cases h3 : a3 = b3 <;> simp [go_sem, sup_fields, sup_held, Tryd.underlying23, Tryd.underlying3, h0, h1, h2, h3]
theorem sup_neq (a0 a1 a2 a3 b0 b1 b2 b3 : Int) (w : World) : (binOp .neq 23 (.agg #[.int .i64 a0, .int .i64 a1, .int .i64 a2, .int .i64 a3]) (.agg #[.int .i64 b0, .int .i64 b1, .int .i64 b2, .int .i64 b3])).run Tryd.prog w = .ok (.bool (!decide (a0 = b0 ∧ a1 = b1 ∧ a2 = b2 ∧ a3 = b3))) w := by
  rw [run_neq_struct]
  by_cases h0 : a0 = b0 <;> by_cases h1 : a1 = b1 <;> by_cases h2 : a2 = b2 <;> by_cases h3 : a3 = b3 <;> simp [go_sem, sup_fields, sup_held, Tryd.underlying23, Tryd.underlying3, h0, h1, h2, h3]
end Go.Proofs.YtonjapphhbhcpaaDoor
namespace Go.Proofs.YtonjapphhbhcpaaDoor
open Go.RowKit
set_option maxRecDepth 100000

/-- The program's calls on bytes answer so, in every world that has grown out of W. -/
structure P14 (W : World) : Prop where
  make : ∀ (s : Sup) (w : World), Below W.heap.size W w → s.In → Calls Tryd.prog 10 #[s.arg] w (SMakeTo s w)
  opens : ∀ (number : Int) (a : Option Addr) (n c : Nat) (l : List Int) (w : World), Below W.heap.size W w → okInt number → InB w a l → isB l → l.length = n → n ≤ c → c ≤ maxLen → n ≤ 140737488351232 → (a = none → c = 0 ∧ l = []) →
    Calls Tryd.prog 13 #[.slice a n c, .int .i64 number] w (SOpenTo l number w)
  choose : ∀ (la : Option Addr) (na ca : Nat) (a : List Int) (lb : Option Addr) (nb cb : Nat) (b : List Int) (w : World), Below W.heap.size W w → InB w la a → isB a → a.length = na → na ≤ ca → ca ≤ maxLen → na ≤ 140737488351232 → (la = none → ca = 0 ∧ a = []) →
    InB w lb b → isB b → b.length = nb → nb ≤ cb → cb ≤ maxLen → nb ≤ 140737488351232 → (lb = none → cb = 0 ∧ b = []) → Calls Tryd.prog 17 #[.slice la na ca, .slice lb nb cb] w (SChTo a b w)
def exU : Sup := ⟨3, 9, 2, 20⟩
theorem exU_ok : exU.ok = true := by decide
theorem exU_in : exU.In := by constructor <;> simp [exU, okInt]
theorem exU_open : sopE exU.make 1 = 0 ∧ sopS exU.make 1 = exU ∧ sopE exU.make 2 = 1 ∧ sopS exU.make 2 = Sup.zero := by
  have h1 := sop_made exU_ok 1
  have h2 := sop_made exU_ok 2
  refine ⟨by rw [h1.1]; decide, h1.2, by rw [h2.1]; decide, ?_⟩
  unfold sopS
  rw [h2.1, if_neg (by decide)]
theorem sopE_nil (n : Int) : sopE [] n = if n < 0 ∨ 1 < n then 1 else 122 := by
  have h : openE [] n = 122 := by unfold openE; rw [if_neg (by decide)]
  unfold sopE
  split
  · rfl
  · rw [h]; rfl
theorem exU_choose : chE [] exU.make = 0 ∧ chS [] exU.make = exU ∧ chE [] [] = 140 ∧ chS [] [] = Sup.zero := by
  have e0 : sopE [] 0 = 122 := by rw [sopE_nil, if_neg (by decide)]
  have e1 : sopE [] 1 = 122 := by rw [sopE_nil, if_neg (by decide)]
  refine ⟨?_, ?_, ?_, ?_⟩
  · unfold chE; rw [exU_open.1, if_neg (fun h => h.2 rfl)]
  · unfold chS; rw [e0, exU_open.1, if_pos (by decide), if_neg (fun h => h rfl)]; exact exU_open.2.1
  · unfold chE; rw [e0, e1, if_pos (by decide)]
  · unfold chS; rw [e0, e1, if_pos (by decide), if_pos (by decide)]
theorem exU_zero : Sup.zero.ok = false := by decide
theorem zero_make : Sup.zero.make = [] ∧ Sup.zero.makeE = 1 := by
  unfold Sup.make Sup.makeE
  rw [exU_zero]
  exact ⟨rfl, rfl⟩
theorem exU_make : exU.makeE = 0 ∧ exU.make.length = 4096 := ⟨by unfold Sup.makeE; rw [exU_ok]; rfl, Sup.make_len exU_ok⟩
theorem plain_any (w : World) : Calls Tryd.prog 30 #[] w fun e w' => e = .returned exU.arg ∧ Below w.heap.size w w' := by
  go_enter Tryd.func30, Tryd.ntmps30
  have HB := Lib.hid (below1 w (.cells #[.int .i64 3, .int .i64 9, .int .i64 2, .int .i64 20] 23))
  have c0 := row_cells (heap_alloc_new w (.cells #[.int .i64 3, .int .i64 9, .int .i64 2, .int .i64 20] 23))
  go_wp2_with fail
  simp [bodyPost, results, Tryd.results30, go_sem, c0]
  exact ⟨rfl, HB.out⟩
theorem exU_arg : exU.arg = .agg #[.int .i64 3, .int .i64 9, .int .i64 2, .int .i64 20] := rfl
theorem zero_arg : Sup.zero.arg = .agg #[.int .i64 0, .int .i64 0, .int .i64 0, .int .i64 0] := rfl
set_option maxHeartbeats 8000000 in
theorem awake14_any {W : World} (P : P14 W) (w : World) (hw : Below W.heap.size W w) : Calls Tryd.prog 9 #[] w fun e w' => e = .returned (.bool true) ∧ Below w.heap.size w w' := by
  have HP := Lib.hid P
  have HW := Lib.hid hw
  clear P hw
  go_enter Tryd.func9, Tryd.ntmps9
  go_wp2_with fail
  refine (plain_any _).mono ?_
  rintro e w0 ⟨rfl, b0⟩
  have B0 := Lib.hid b0
  have W0 := Lib.hid (HW.out.trans (b0.mono HW.out.size))
  clear b0
  go_wp2_with fail
  refine (HP.out.make exU _ W0.out exU_in).mono ?_
  rintro e w1 ⟨v1, rfl, o1, b1⟩
  rw [exU_make.1]
  obtain ⟨g, c, rfl, hc⟩ := o1.form (by rw [exU_make.2]; omega)
  have B1 := Lib.hid (below_then B0.out b1)
  have W1 := Lib.hid (HW.out.trans (B1.out.mono HW.out.size))
  have O1 := Lib.hid o1
  have hcm : c ≤ maxLen := by obtain ⟨a2, c2, e2, -, -, -, h2⟩ := o1.shape; injection e2 with _ _ e3; subst e3; exact h2
  rw [exU_make.2] at hc ⊢
  clear b1 o1
  go_wp2_with fail
  refine (HP.out.opens 1 _ 4096 c _ _ W1.out (by unfold okInt; omega) O1.out.inB exU.make_byte exU_make.2 hc hcm (by omega) (fun e => by cases e)).mono ?_
  rintro e w2 ⟨rfl, b2⟩
  rw [exU_open.2.1, exU_open.1]
  rw [exU_arg]
  have hs2 := below1 w2 (.cells #[.int .i64 3, .int .i64 9, .int .i64 2, .int .i64 20] 23)
  have X2 := Lib.hid (heap_alloc_new w2 (.cells #[.int .i64 3, .int .i64 9, .int .i64 2, .int .i64 20] 23))
  have O2 := Lib.hid (O1.out.then_ (below_then b2 hs2))
  have B2 := Lib.hid (below_then B1.out (below_then b2 hs2))
  have W2 := Lib.hid (HW.out.trans (B2.out.mono HW.out.size))
  clear b2 hs2 O1
  go_wp2_with fail
  refine (HP.out.opens 2 _ 4096 c _ _ W2.out (by unfold okInt; omega) O2.out.inB exU.make_byte exU_make.2 hc hcm (by omega) (fun e => by cases e)).mono ?_
  rintro e w3 ⟨rfl, b3⟩
  rw [exU_open.2.2.1, exU_open.2.2.2, zero_arg]
  have hs3 := below1 w3 (.cells #[.int .i64 0, .int .i64 0, .int .i64 0, .int .i64 0] 23)
  have X3 := Lib.hid (heap_alloc_new w3 (.cells #[.int .i64 0, .int .i64 0, .int .i64 0, .int .i64 0] 23))
  have O3 := Lib.hid (O2.out.then_ (below_then b3 hs3))
  have B3 := Lib.hid (below_then B2.out (below_then b3 hs3))
  have W3 := Lib.hid (HW.out.trans (B3.out.mono HW.out.size))
  have X23 := Lib.hid (row_then X2.out (below_then b3 hs3))
  clear b3 hs3 O2 X2
  go_wp2_with fail
  refine (HP.out.choose none 0 0 [] _ 4096 c _ _ W3.out (InB.nil _ _) isB.nil rfl (Nat.le_refl _) (by decide) (by omega) (fun _ => ⟨rfl, rfl⟩) O3.out.inB exU.make_byte exU_make.2 hc hcm (by omega) (fun e => by cases e)).mono ?_
  rintro e w4 ⟨rfl, b4⟩
  rw [exU_choose.1, exU_choose.2.1, exU_arg]
  have hs4 := below1 w4 (.cells #[.int .i64 3, .int .i64 9, .int .i64 2, .int .i64 20] 23)
  have X4 := Lib.hid (heap_alloc_new w4 (.cells #[.int .i64 3, .int .i64 9, .int .i64 2, .int .i64 20] 23))
  have O4 := Lib.hid (O3.out.then_ (below_then b4 hs4))
  have B4 := Lib.hid (below_then B3.out (below_then b4 hs4))
  have W4 := Lib.hid (HW.out.trans (B4.out.mono HW.out.size))
  have X24 := Lib.hid (row_then X23.out (below_then b4 hs4))
  clear b4 hs4 O3 X3 X23
  go_wp2_with fail
  refine (HP.out.choose none 0 0 [] none 0 0 [] _ W4.out (InB.nil _ _) isB.nil rfl (Nat.le_refl _) (by decide) (by omega) (fun _ => ⟨rfl, rfl⟩) (InB.nil _ _) isB.nil rfl (Nat.le_refl _) (by decide) (by omega) (fun _ => ⟨rfl, rfl⟩)).mono ?_
  rintro e w5 ⟨rfl, b5⟩
  rw [exU_choose.2.2.1, exU_choose.2.2.2, zero_arg]
  have hs5 := below1 w5 (.cells #[.int .i64 0, .int .i64 0, .int .i64 0, .int .i64 0] 23)
  have X5 := Lib.hid (heap_alloc_new w5 (.cells #[.int .i64 0, .int .i64 0, .int .i64 0, .int .i64 0] 23))
  have O5 := Lib.hid (O4.out.then_ (below_then b5 hs5))
  have B5 := Lib.hid (below_then B4.out (below_then b5 hs5))
  have W5 := Lib.hid (HW.out.trans (B5.out.mono HW.out.size))
  have X25 := Lib.hid (row_then X24.out (below_then b5 hs5))
  have X45 := Lib.hid (row_then X4.out (below_then b5 hs5))
  clear b5 hs5 O4 X4 X24 X5
  have HMZ := Lib.hid (HP.out.make Sup.zero _ W5.out Sup.In.zero)
  rw [zero_arg] at HMZ
  go_wp2_with fail
  refine HMZ.out.mono ?_
  rintro e w6 ⟨v6, rfl, o6, b6⟩
  rw [zero_make.2]
  have B6 := Lib.hid (below_then B5.out b6)
  have X26 := Lib.hid (row_then X25.out b6)
  have X46 := Lib.hid (row_then X45.out b6)
  have HPL := Lib.hid (fun W => plain_any W)
  rw [exU_arg] at HPL
  have HK := Lib.hid (fun W (hb : Below w6.heap.size w6 W) => (show W.cell? ⟨w2.heap.size, 0, none⟩ = some (.int .i64 3) ∧ W.cell? ⟨w2.heap.size, 1, none⟩ = some (.int .i64 9) ∧ W.cell? ⟨w2.heap.size, 2, none⟩ = some (.int .i64 2) ∧ W.cell? ⟨w2.heap.size, 3, none⟩ = some (.int .i64 20) ∧ W.cell? ⟨w4.heap.size, 0, none⟩ = some (.int .i64 3) ∧ W.cell? ⟨w4.heap.size, 1, none⟩ = some (.int .i64 9) ∧ W.cell? ⟨w4.heap.size, 2, none⟩ = some (.int .i64 2) ∧ W.cell? ⟨w4.heap.size, 3, none⟩ = some (.int .i64 20) from by
    obtain ⟨y0, y1, y2, y3⟩ := box4_cells (s := exU) (row_then X26.out hb)
    obtain ⟨z0, z1, z2, z3⟩ := box4_cells (s := exU) (row_then X46.out hb)
    exact ⟨y0, y1, y2, y3, z0, z1, z2, z3⟩))
  have k6 := HK.out w6 (Below.refl _ _)
  clear b6 o6 HMZ X25 X45
  have heq := fun W => sup_eql 3 9 2 20 3 9 2 20 W
  have hge := fun op x y a b W => sup_eqg op x y a b W
  simp only [and_self, decide_true] at heq
  clear X26 X46
  go_wp2_with fail
  go_region_held3 (fun w' => w'.cell? ⟨w2.heap.size, 0, none⟩ = some (.int .i64 3) ∧ w'.cell? ⟨w2.heap.size, 1, none⟩ = some (.int .i64 9) ∧ w'.cell? ⟨w2.heap.size, 2, none⟩ = some (.int .i64 2) ∧ w'.cell? ⟨w2.heap.size, 3, none⟩ = some (.int .i64 20) ∧ w'.cell? ⟨w4.heap.size, 0, none⟩ = some (.int .i64 3) ∧ w'.cell? ⟨w4.heap.size, 1, none⟩ = some (.int .i64 9) ∧ w'.cell? ⟨w4.heap.size, 2, none⟩ = some (.int .i64 2) ∧ w'.cell? ⟨w4.heap.size, 3, none⟩ = some (.int .i64 20))
    (first
      | exact k6
      | exact k7
      | exact k8
      | go_keep)
    (first
      | (go_at_call 30; refine (HPL.out _).mono ?_; rintro e w8 ⟨rfl, b8⟩; have b8' := below_then b7' b8; have k8 := HK.out _ b8')
      | (go_at_call 30; refine (HPL.out _).mono ?_; rintro e w7 ⟨rfl, b7⟩; have b7' := below_then (Below.refl w6.heap.size w6).drew b7; have k7 := HK.out _ b7'))
  clear k6 k7 k8 heq hge
  go_wp2_with fail
  go_ret
  exact ⟨rfl, below_then B6.out b8'⟩
end Go.Proofs.YtonjapphhbhcpaaDoor
