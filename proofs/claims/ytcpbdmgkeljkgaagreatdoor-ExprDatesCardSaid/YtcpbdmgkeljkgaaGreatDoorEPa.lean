/- Parse. No statement is proved here. -/
import Derived.Test.YtcpbdmgkeljkgaaGreatDoorERt
namespace Go.Proofs.YtcpbdmgkeljkgaaGreatDoor
open Go.RowKit
set_option maxRecDepth 100000

theorem row_cell0 {w : World} {g : Nat} {v : Value} {t : TypeId} (h : w.heap[g]? = some (.cells #[v] t (0, 0))) : w.cell? ⟨g, 0, none⟩ = some v := row_cells h 0
/-- An expression that was parsed. -/
def ParseTo (d : T) (k : Nat) (R : T → Prop) (err : Int) (w : World) (e : Ending) (w' : World) : Prop :=
  Below w.heap.size w w' ∧ ∃ g u x, e = .returned (.tuple #[.pointer (some ⟨g, 0, none⟩), .int .i64 0]) ∧ w'.heap[g]? = some (.cells #[.iface u x] 53 (0, 0)) ∧ Ev w' d u x k R err
set_option maxHeartbeats 4000000 in
theorem parse_any (d t : T) (ok : t.ok) (hr : rightOf t.val = 0) {k : Nat} {R : T → Prop} {err : Int} (H : ∀ t' : T, t'.val = t.val → t'.tidy → t'.ok → Reads d t' k R err) (w : World) (hin : t.In w) (henv : EnvR w) :
    Calls Tryz.prog 13 #[t.arg] w (ParseTo d k R err w) := by
  have HR := Lib.hid (fun (W : World) (hb : Below w.heap.size w W) => right_any t ok W (hin.then_ hb) (henv.1.then_ hb))
  have HC := Lib.hid (fun (W : World) (hb : Below w.heap.size w W) => cloneY_any t ok W (hin.then_ hb))
  rw [hr] at HR
  have HH := Lib.hid (And.intro H henv)
  obtain ⟨tk, tn, ts, tla, tlc, tl, tda, tdc, tf⟩ := t
  dsimp only [T.arg, T.cells] at HR HC ⊢
  clear H henv hin ok hr
  go_enter Tryz.func13, Tryz.ntmps13
  go_wp2_with fail
  refine (HR.out _ (below1 _ _)).mono ?_
  rintro e w1 ⟨rfl, b1⟩
  have HB1 := Lib.hid (below_then (below1 w _) b1)
  have cV := row_cells (row_then (heap_alloc_new w (.cells #[.int .i64 tk, .int .i64 tn, .string ts, .slice tla tl.length tlc, .slice tda tf.length tdc] 28 (0, 0))) b1)
  clear b1
  go_wp2_with fail
  refine (HC.out _ HB1.out).mono ?_
  rintro e w2 ⟨t', rfl, ⟨hv, htd⟩, hown, b2⟩
  have HRD := Lib.hid (fun (ob : Obj) (hs : ScopeAt (w2.alloc ob) w2.heap.size) => HH.out.1 t' hv htd hown.ok (w2.alloc ob) w2.heap.size ((HH.out.2.then_ (below_then HB1.out b2)).then_ (below1 _ _)) hs (hown.in_.then_ (below1 _ _)))
  have HB2 := Lib.hid (below_then HB1.out b2)
  obtain ⟨tk', tn', ts', tla', tlc', tl', tda', tdc', tf'⟩ := t'
  dsimp only [T.arg, T.cells] at HRD ⊢
  clear hv htd hown b2 cV HC HR
  go_wp2_with fail
  refine (HRD.out _ (by unfold ScopeAt; exact row_cell0 (heap_alloc_new _ _))).mono ?_
  rintro e w3 ⟨u, x, rfl, b3, hE⟩
  have HB3 := Lib.hid (And.intro (below_then (below_then HB2.out (below1 _ _)) b3) hE)
  clear b3 hE
  go_wp2_with fail
  go_ret2
  exact ⟨below_then HB3.out.1 (below1 _ _), w3.heap.size, u, x, rfl, heap_alloc_new _ _, HB3.out.2 [] _ (by simp) (Only.of_below (below1 _ _))⟩
set_option maxHeartbeats 4000000 in
theorem parse_nil (t : T) (ok : t.ok) (hr : rightOf t.val = 0) (H : ∀ t' : T, t'.val = t.val → t'.tidy → t'.ok → ∀ (w : World) (gs : Nat), EnvR w → ScopeAt w gs → t'.In w → Calls Tryz.prog 16 #[t'.arg, .slice (some ⟨gs, 0, none⟩) 1 1] w fun e w' => e = .returned .nilIface ∧ Below w.heap.size w w') (w : World) (hin : t.In w) (henv : EnvR w) :
    Calls Tryz.prog 13 #[t.arg] w fun e w' => e = .returned (.tuple #[.pointer none, .int .i64 50]) ∧ Below w.heap.size w w' := by
  have HR := Lib.hid (fun (W : World) (hb : Below w.heap.size w W) => right_any t ok W (hin.then_ hb) (henv.1.then_ hb))
  have HC := Lib.hid (fun (W : World) (hb : Below w.heap.size w W) => cloneY_any t ok W (hin.then_ hb))
  rw [hr] at HR
  have HH := Lib.hid (And.intro H henv)
  obtain ⟨tk, tn, ts, tla, tlc, tl, tda, tdc, tf⟩ := t
  dsimp only [T.arg, T.cells] at HR HC ⊢
  clear H henv hin ok hr
  go_enter Tryz.func13, Tryz.ntmps13
  go_wp2_with fail
  refine (HR.out _ (below1 _ _)).mono ?_
  rintro e w1 ⟨rfl, b1⟩
  have HB1 := Lib.hid (below_then (below1 w _) b1)
  have cV := row_cells (row_then (heap_alloc_new w (.cells #[.int .i64 tk, .int .i64 tn, .string ts, .slice tla tl.length tlc, .slice tda tf.length tdc] 28 (0, 0))) b1)
  clear b1
  go_wp2_with fail
  refine (HC.out _ HB1.out).mono ?_
  rintro e w2 ⟨t', rfl, ⟨hv, htd⟩, hown, b2⟩
  have HRD := Lib.hid (fun (ob : Obj) (hs : ScopeAt (w2.alloc ob) w2.heap.size) => HH.out.1 t' hv htd hown.ok (w2.alloc ob) w2.heap.size ((HH.out.2.then_ (below_then HB1.out b2)).then_ (below1 _ _)) hs (hown.in_.then_ (below1 _ _)))
  have HB2 := Lib.hid (below_then HB1.out b2)
  obtain ⟨tk', tn', ts', tla', tlc', tl', tda', tdc', tf'⟩ := t'
  dsimp only [T.arg, T.cells] at HRD ⊢
  clear hv htd hown b2 cV HC HR
  go_wp2_with fail
  refine (HRD.out _ (by unfold ScopeAt; exact row_cell0 (heap_alloc_new _ _))).mono ?_
  rintro e w3 ⟨rfl, b3⟩
  have HB3 := Lib.hid (below_then (below_then HB2.out (below1 _ _)) b3)
  clear b3
  go_wp2_with fail
  go_ret2
  exact ⟨rfl, HB3.out⟩
end Go.Proofs.YtcpbdmgkeljkgaaGreatDoor
