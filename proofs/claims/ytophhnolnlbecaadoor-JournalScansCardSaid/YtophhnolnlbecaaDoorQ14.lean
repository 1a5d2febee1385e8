/- A call in a region that draws. The program's Pages, and its Write of a page. The program's Write of a page. No statement is proved here. -/
import Derived.Test.YtophhnolnlbecaaDoorProg
import Derived.WalkKit
import Derived.Deep.RegionLaw
import Derived.Test.YtophhnolnlbecaaDoorQ11
import Derived.Test.YtophhnolnlbecaaDoorQ13
namespace Go.Proofs.YtophhnolnlbecaaDoor
open Go.RowKit
/-- A call in a region that draws, which may end by a panic. -/
theorem step_falls {P : Program} {ops : Array Oper} {o : Oper} {a : Act} {w : World} {K : Act → World → Prop} {Q : Exit → Act → World → Prop} {E : Prop} (hgd : o.guard = none) (f : FuncId) (args : Array Value)
    (hrun : (execOp a.eval o).run P w = .ok (.enter f args) w) (h : Calls P f args w fun e w' => (∃ v, e = .returned v ∧ K (a.put o.dst v) w') ∨ ∃ ch, e = .panicked ch ∧ Q (.panic ch) a w') :
    if Region.wanted o (yielded ops a.tmps) = true then Oper.wp P o a w K Q else E := by
  have hw : Region.wanted o (yielded ops a.tmps) = true := by simp [Region.wanted, hgd]
  rw [if_pos hw]
  unfold Oper.wp
  rw [hrun, Oper.upon_enter]
  refine h.mono ?_
  rintro e w' (⟨v, rfl, hk⟩ | ⟨ch, rfl, hk⟩)
  · exact hk
  · exact hk
theorem step_call {P : Program} {ops : Array Oper} {o : Oper} {a : Act} {w : World} {K : Act → World → Prop} {Q : Exit → Act → World → Prop} {E : Prop} (hgd : o.guard = none) (f : FuncId) (args : Array Value)
    (hrun : (execOp a.eval o).run P w = .ok (.enter f args) w) (h : Calls P f args w fun e w' => ∃ v, e = .returned v ∧ K (a.put o.dst v) w') :
    if Region.wanted o (yielded ops a.tmps) = true then Oper.wp P o a w K Q else E := step_falls hgd f args hrun (h.mono fun e w' h => .inl h)
end Go.Proofs.YtophhnolnlbecaaDoor
namespace Go.Proofs.YtophhnolnlbecaaDoor
open Go.RowKit
set_option maxRecDepth 100000

theorem OwnB.turns {T : Obj → Prop} {w w' : World} {B B' : Nat} {v : Value} {r : List Int} (h : OwnB w B v r) (h1 : 1 ≤ r.length) (ht : Turns T B' w w') (hn : ∀ cur, ¬ T (.cells cur 5)) : OwnB w' B v r := (RowAt.turns (w := w) (B := ⟨B, fun _ => False⟩) ⟨h, h1, fun _ _ e => by cases e⟩ ht hn).1
theorem pages_any (h g : Nat) (w : World) (B : Base) (N : Nat) (d : Dk) (hh : w.cell? ⟨h, 0, none⟩ = some (.pointer (some ⟨g, 0, none⟩))) (hb : BoxAt w B g d N) :
    Calls Tryd.prog 68 #[.pointer (some ⟨h, 0, none⟩)] w fun e w' => e = .returned (.int .i64 d.pages) ∧ w = w' := by
  have HS := Lib.hid (sectors_any h g w B N d hh hb)
  have hm : d.many ≤ 9223372036854775807 := by obtain ⟨-, s, h⟩ := hb; exact h.many
  unfold Dk.pages
  clear hb hh
  go_enter Tryd.func68, Tryd.ntmps68
  go_wp2_with fail
  refine HS.out.mono ?_
  rintro e w' ⟨rfl, rfl⟩
  go_wp2_with fail
  go_ret
  exact ⟨rfl, rfl⟩
end Go.Proofs.YtophhnolnlbecaaDoor
namespace Go.Proofs.YtophhnolnlbecaaDoor
open Go.RowKit
set_option maxRecDepth 100000

theorem disk_TB {cur : Array Value} {fr : Nat × Nat} : ¬ TB (.cells cur 86 fr) := by
  show ¬ ((86 : Nat) = 77 ∨ (86 : Nat) = 100)
  decide
theorem wrap_lo {k : Nat} (h : k < 8) : IntKind.i64.wrap ((k : Int) * 512) = ((512 * k : Nat) : Int) := by
  rw [IntWalk.i64_in _ (by omega)]
  omega
theorem wrap_hi {k : Nat} (h : k < 8) : IntKind.i64.wrap (IntKind.i64.wrap ((k : Int) + 1) * 512) = ((512 * k + 512 : Nat) : Int) := by
  rw [IntWalk.i64_in ((k : Int) + 1) (by omega), IntWalk.i64_in _ (by omega)]
  omega
end Go.Proofs.YtophhnolnlbecaaDoor
