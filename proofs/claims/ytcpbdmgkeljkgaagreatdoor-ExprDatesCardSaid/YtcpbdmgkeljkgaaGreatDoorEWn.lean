/- whole: the number that a call of two numbers comes to. No statement is proved here. -/
import Derived.Test.YtcpbdmgkeljkgaaGreatDoorEWh
namespace Go.Proofs.YtcpbdmgkeljkgaaGreatDoor
open Go.RowKit
set_option maxRecDepth 100000

theorem two_in {w : World} {g : Nat} {a b : Int} (h : w.heap[g]? = some (.cells (two a b) 28 (0, 0))) : InL w (some ⟨g, 0, none⟩) [intT a, intT b] := by
  intro p hp
  obtain ⟨i, x, hx, hp⟩ := (T.mem_placesL _ _ _ _).1 hp
  rcases hp with hp | hp
  · obtain ⟨j, c, hc, rfl⟩ := mem_laid.1 hp
    have hj := lt_of_get hc
    rw [cells_len] at hj
    have hg := (flatMap_get T.cells 5 cells_len [intT a, intT b] i x hx j hj).trans hc
    have := row_cells h (i * 5 + j)
    simp only [at_, Nat.zero_add]
    rw [this, ← hg, show two a b = ([intT a, intT b].flatMap T.cells).toArray from rfl, List.getElem?_toArray]
  · exfalso
    match i, hx with
    | 0, hx => simp at hx; subst hx; rw [intT_places] at hp; simp at hp
    | 1, hx => simp at hx; subst hx; rw [intT_places] at hp; simp at hp
set_option maxHeartbeats 4000000 in
theorem whole_core {name : ByteArray} {a b : Int} (v : T) (err n : Int) (ok : Bool) (hcase : (err = 0 ∧ v = intT n ∧ ok = true) ∨ (err ≠ 0 ∧ v = voidT ∧ n = 0 ∧ ok = false))
    (hw : ∀ (g : Nat) (la : Option Addr) (lc : Nat), 2 ≤ lc ∧ lc ≤ 1000 → (la = none → lc = 0) → ∀ w : World, (callT name (some ⟨g, 0, none⟩) 1 la lc [intT a, intT b]).In w → EnvR w → Calls Tryz.prog 7 #[(callT name (some ⟨g, 0, none⟩) 1 la lc [intT a, intT b]).arg, voidT.arg] w fun e w' => e = .returned (.tuple #[v.arg, .int .i64 err]) ∧ Below w.heap.size w w') (w : World) (henv : EnvR w) :
    Calls Tryz.prog 6 #[.string name, .int .i64 a, .int .i64 b] w fun e w' => e = .returned (.tuple #[.int .i64 n, .bool ok]) ∧ Below w.heap.size w w' := by
  have HI := Lib.hid (fun n w => lint_any n w)
  unfold scal at HI
  have HC := Lib.hid (fun la lc w hin => lcall_any name la lc [intT a, intT b] w hin)
  have HW := Lib.hid hw
  have HE := Lib.hid henv
  clear henv hw
  rcases hcase with ⟨rfl, rfl, rfl⟩ | ⟨h0, rfl, rfl, rfl⟩
  · rw [show (intT n).arg = .agg #[.int .i64 3, .int .i64 n, .string ⟨#[]⟩, .slice none 0 0, .slice none 0 0] from rfl] at HW
    go_enter Tryz.func6, Tryz.ntmps6
    go_wp2_with fail
    refine (HI.out a _).mono ?_
    rintro e w1 ⟨rfl, b1⟩
    have HB1 := Lib.hid b1
    clear b1
    go_wp2_with fail
    refine (HI.out b _).mono ?_
    rintro e w2 ⟨rfl, b2⟩
    have HB2 := Lib.hid (And.intro (below_then HB1.out b2) (And.intro (heap_alloc_new w2 (.cells (two a b) 28)) (below1 w2 (.cells (two a b) 28))))
    unfold two at HB2
    clear b2
    go_wp2_with fail
    refine (HC.out _ 2 _ (two_in HB2.out.2.1)).mono ?_
    rintro e w3 ⟨b3, g, hg, rfl, hin⟩
    have HB3 := Lib.hid (And.intro (below_then (below_then HB2.out.1 HB2.out.2.2) b3) hin)
    clear b3 hin hg
    rw [show (callT name (some ⟨g, 0, none⟩) 1 (some ⟨w2.heap.size, 0, none⟩) 2 [intT a, intT b]).arg = .agg #[.int .i64 5, .int .i64 0, .string ⟨#[]⟩, .slice none 0 0, .slice (some ⟨g, 0, none⟩) 1 1] from rfl]
    have HWW := HW.out g (some ⟨w2.heap.size, 0, none⟩) 2 (by omega) (by simp) w3 HB3.out.2 (HE.out.then_ HB3.out.1)
    rw [show (callT name (some ⟨g, 0, none⟩) 1 (some ⟨w2.heap.size, 0, none⟩) 2 [intT a, intT b]).arg = .agg #[.int .i64 5, .int .i64 0, .string ⟨#[]⟩, .slice none 0 0, .slice (some ⟨g, 0, none⟩) 1 1] from rfl, show voidT.arg = .agg #[.int .i64 0, .int .i64 0, .string ⟨#[]⟩, .slice none 0 0, .slice none 0 0] from rfl] at HWW
    have HW2 := Lib.hid HWW
    clear HWW
    go_wp2_with fail
    refine HW2.out.mono ?_
    rintro e w4 ⟨rfl, b4⟩
    have HB4 := Lib.hid (below_then HB3.out.1 b4)
    clear b4
    go_wp2_with fail
    go_region
    go_wp2_with fail
    go_ret2
    exact ⟨by simp, (below_then HB4.out (below1 _ _)).drew⟩
  · have h3 : (err == 0) = false := by simpa using h0
    rw [show voidT.arg = .agg #[.int .i64 0, .int .i64 0, .string ⟨#[]⟩, .slice none 0 0, .slice none 0 0] from rfl] at HW
    clear h0
    go_enter Tryz.func6, Tryz.ntmps6
    go_wp2_with fail
    refine (HI.out a _).mono ?_
    rintro e w1 ⟨rfl, b1⟩
    have HB1 := Lib.hid b1
    clear b1
    go_wp2_with fail
    refine (HI.out b _).mono ?_
    rintro e w2 ⟨rfl, b2⟩
    have HB2 := Lib.hid (And.intro (below_then HB1.out b2) (And.intro (heap_alloc_new w2 (.cells (two a b) 28)) (below1 w2 (.cells (two a b) 28))))
    unfold two at HB2
    clear b2
    go_wp2_with fail
    refine (HC.out _ 2 _ (two_in HB2.out.2.1)).mono ?_
    rintro e w3 ⟨b3, g, hg, rfl, hin⟩
    have HB3 := Lib.hid (And.intro (below_then (below_then HB2.out.1 HB2.out.2.2) b3) hin)
    clear b3 hin hg
    rw [show (callT name (some ⟨g, 0, none⟩) 1 (some ⟨w2.heap.size, 0, none⟩) 2 [intT a, intT b]).arg = .agg #[.int .i64 5, .int .i64 0, .string ⟨#[]⟩, .slice none 0 0, .slice (some ⟨g, 0, none⟩) 1 1] from rfl]
    have HWW := HW.out g (some ⟨w2.heap.size, 0, none⟩) 2 (by omega) (by simp) w3 HB3.out.2 (HE.out.then_ HB3.out.1)
    rw [show (callT name (some ⟨g, 0, none⟩) 1 (some ⟨w2.heap.size, 0, none⟩) 2 [intT a, intT b]).arg = .agg #[.int .i64 5, .int .i64 0, .string ⟨#[]⟩, .slice none 0 0, .slice (some ⟨g, 0, none⟩) 1 1] from rfl, show (Value.agg #[.int .i64 0, .int .i64 0, .string ⟨#[]⟩, .slice none 0 0, .slice none 0 0]) = .agg #[.int .i64 0, .int .i64 0, .string ⟨#[]⟩, .slice none 0 0, .slice none 0 0] from rfl] at HWW
    have HW2 := Lib.hid HWW
    clear HWW
    go_wp2_with fail
    refine HW2.out.mono ?_
    rintro e w4 ⟨rfl, b4⟩
    have HB4 := Lib.hid (below_then HB3.out.1 b4)
    clear b4
    go_wp2_with fail
    go_region
    go_wp2_with fail
    go_ret2
    exact ⟨by simp, (below_then HB4.out (below1 _ _)).drew⟩
theorem whole_any {o : OpX} (ho : arith o = true) {a b : Int} (ha : in64 a) (hb : in64 b) {name : ByteArray} (hop : OpName o name) (hn : nameOk name = true) (hs : name.size ≤ 20) (w : World) (henv : EnvR w) :
    Calls Tryz.prog 6 #[.string name, .int .i64 a, .int .i64 b] w fun e w' => e = .returned (.tuple #[.int .i64 ((resO o a b).getD 0), .bool (resO o a b).isSome]) ∧ Below w.heap.size w w' := by
  refine whole_core (vO o a b) (eO o a b) _ _ ?_ (fun g la lc hlc hla w hin henv => work2_any voidT_ok ho ha hb hop hn hs g la lc hlc hla w hin (voidT_in w) henv) w henv
  rcases eO_zero o a b with ⟨h0, n, h1, h2⟩ | ⟨h0, h1, h2⟩
  · exact .inl ⟨h0, by rw [h2, h1]; rfl, by rw [h1]; rfl⟩
  · exact .inr ⟨h0, h2, by rw [h1]; rfl, by rw [h1]; rfl⟩
end Go.Proofs.YtcpbdmgkeljkgaaGreatDoor
