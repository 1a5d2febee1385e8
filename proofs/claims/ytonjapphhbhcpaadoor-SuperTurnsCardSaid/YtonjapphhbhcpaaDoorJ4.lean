/- A call in a region that draws. A page's row, part by part. No statement is proved here. -/
import Derived.Test.YtonjapphhbhcpaaDoorProg
import Derived.WalkKit
import Derived.Deep.RegionLaw
import Derived.Test.YtonjapphhbhcpaaDoorGRow
import Derived.Test.YtonjapphhbhcpaaDoorJ16
namespace Go.Proofs.YtonjapphhbhcpaaDoor
open Go.RowKit
/-- A call in a region that draws, which may end by a panic. -/
theorem step_falls {P : Program} {ops : Array Oper} {o : Oper} {a : Act} {w : World} {K : Act → World → Prop} {Q : Exit → Act → World → Prop} {E : Prop} (hgd : o.guard = none) (f : FuncId) (args : Array Value)
    (hrun : (execOp a.eval o).run P w = .ok (.enter f args) w) (h : Calls P f args w fun e w' => (∃ v, e = .returned v ∧ K (a.put o.dst v) w') ∨ ∃ ch, e = .panicked ch ∧ Q (.panic ch) a w') :
    if Region.wanted o (yielded ops a.tmps) = true then Oper.wp P o a w K Q else E := by
  have hw : Region.wanted o (yielded ops a.tmps) = true := by simp [Region.wanted, hgd]
  rw [if_pos hw]
  unfold Oper.wp
  rw [hrun, Oper.upon_enter]
  refine h.mono ?_
  rintro e w' (⟨v, rfl, hk⟩ | ⟨ch, rfl, hk⟩)
  · exact hk
  · exact hk
theorem step_call {P : Program} {ops : Array Oper} {o : Oper} {a : Act} {w : World} {K : Act → World → Prop} {Q : Exit → Act → World → Prop} {E : Prop} (hgd : o.guard = none) (f : FuncId) (args : Array Value)
    (hrun : (execOp a.eval o).run P w = .ok (.enter f args) w) (h : Calls P f args w fun e w' => ∃ v, e = .returned v ∧ K (a.put o.dst v) w') :
    if Region.wanted o (yielded ops a.tmps) = true then Oper.wp P o a w K Q else E := step_falls hgd f args hrun (h.mono fun e w' h => .inl h)
end Go.Proofs.YtonjapphhbhcpaaDoor
namespace Go.Proofs.YtonjapphhbhcpaaDoor
open Go.RowKit
set_option maxRecDepth 100000

def zB (n : Nat) : List Int := List.replicate n 0
theorem zB_len (n : Nat) : (zB n).length = n := List.length_replicate
theorem zB_add (a b : Nat) : zB (a + b) = zB a ++ zB b := List.replicate_append_replicate.symm
/-- A page's parts: the sum, the number, the kind, the length, the rest. -/
def partsL (s nm kd ln bd : List Int) : List Int := s ++ (nm ++ (kd ++ (ln ++ bd)))
theorem parts_zero : zB 4096 = partsL (zB 4) (zB 4) (zB 1) (zB 2) (zB 4085) := by
  unfold partsL
  rw [← zB_add, ← zB_add, ← zB_add, ← zB_add]
section
variable {s nm kd ln bd x : List Int}
theorem parts_len (h1 : s.length = 4) (h2 : nm.length = 4) (h3 : kd.length = 1) (h4 : ln.length = 2) (h5 : bd.length = 4085) : (partsL s nm kd ln bd).length = 4096 := by
  unfold partsL
  simp only [List.length_append]
  omega
theorem parts_s (h1 : s.length = x.length) : spl (partsL s nm kd ln bd) 0 x = partsL x nm kd ln bd := spl_mid (a := []) h1 rfl
theorem parts_nm (h1 : s.length = 4) (h2 : nm.length = x.length) : spl (partsL s nm kd ln bd) 4 x = partsL s x kd ln bd := spl_mid h2 h1.symm
theorem parts_ln (h1 : s.length = 4) (h2 : nm.length = 4) (h3 : kd.length = 1) (h4 : ln.length = x.length) : spl (partsL s nm kd ln bd) 9 x = partsL s nm kd x bd := by
  have e : ∀ y : List Int, partsL s nm kd y bd = (s ++ nm ++ kd) ++ (y ++ bd) := fun y => by unfold partsL; simp only [List.append_assoc]
  rw [e, e]
  exact spl_mid h4 (by simp only [List.length_append]; omega)
theorem parts_bd {m r : List Int} (h1 : s.length = 4) (h2 : nm.length = 4) (h3 : kd.length = 1) (h4 : ln.length = 2) (h5 : m.length = x.length) : spl (partsL s nm kd ln (m ++ r)) 11 x = partsL s nm kd ln (x ++ r) := by
  have e : ∀ y : List Int, partsL s nm kd ln (y ++ r) = (s ++ nm ++ kd ++ ln) ++ (y ++ r) := fun y => by unfold partsL; simp only [List.append_assoc]
  rw [e, e]
  exact spl_mid h5 (by simp only [List.length_append]; omega)
theorem parts_kd {y z : Int} (h1 : s.length = 4) (h2 : nm.length = 4) : (partsL s nm [y] ln bd).set 8 z = partsL s nm [z] ln bd := by
  have e : ∀ y : Int, partsL s nm [y] ln bd = (s ++ nm) ++ (y :: (ln ++ bd)) := fun y => by unfold partsL; simp only [List.append_assoc]; rfl
  rw [e, e, List.set_append_right _ _ (by simp only [List.length_append]; omega)]
  simp only [List.length_append, h1, h2]
  rfl
theorem parts_drop (h1 : s.length = 4) : (partsL s nm kd ln bd).drop 4 = nm ++ (kd ++ (ln ++ bd)) := List.drop_left' h1
end
theorem parts_page (number kind : Int) (body : List Int) : partsL (leB 4 (moreP 0 (restL number kind body))) (leB 4 number) (leB 1 kind) (leB 2 (body.length : Int)) (body ++ zB (4085 - body.length)) = pageL number kind body := rfl
end Go.Proofs.YtonjapphhbhcpaaDoor
