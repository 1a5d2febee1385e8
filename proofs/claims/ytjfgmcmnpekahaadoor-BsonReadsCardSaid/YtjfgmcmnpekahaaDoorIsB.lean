/- Bytes are bytes; bytes as a text; what a call owns while others write. No statement is proved here. -/
import Derived.Test.YtjfgmcmnpekahaaDoorAp
import Derived.Laws.BytesArg
namespace Go.Proofs.YtjfgmcmnpekahaaDoor
open Go.RowKit
set_option maxRecDepth 100000

/-- Bytes are bytes. -/
def isB (l : List Int) : Prop := ∀ b ∈ l, 0 ≤ b ∧ b ≤ 255
theorem isB.append {a b : List Int} (h : isB a) (k : isB b) : isB (a ++ b) := fun x hx => (List.mem_append.1 hx).elim (h x) (k x)
theorem isB.cons {x : Int} {b : List Int} (h : 0 ≤ x ∧ x ≤ 255) (k : isB b) : isB (x :: b) := fun y hy => (List.mem_cons.1 hy).elim (fun e => e ▸ h) (k y)
theorem isB.nil : isB [] := fun x hx => by cases hx
theorem isB_bsI (s : ByteArray) : isB (bsI s) := fun b hb => by
  obtain ⟨x, _, rfl⟩ := List.mem_map.1 hb
  have := x.toNat_lt
  omega
theorem isB_leB (k : Nat) (n : Int) : isB (leB k n) := by
  induction k generalizing n with
  | zero => exact isB.nil
  | succ k ih => exact isB.cons (by omega) (ih _)
theorem bsI_str {l : List Int} (h : isB l) : bsI (strOfNums l) = l := by
  rw [bsI, strOfNums_data, List.map_map]
  conv => rhs; rw [← List.map_id l]
  apply List.map_congr_left
  intro x hx
  have := h x hx
  show ((UInt8.ofNat x.toNat).toNat : Int) = x
  rw [UInt8.toNat_ofNat']
  omega
theorem run_str (w : World) (a : Option Addr) (n c : Nat) (l : List Int) (hn : l.length = n) (ha : InB w a l) (h0 : a = none → l = []) :
    (convert 28 9 (.slice a n c)).run Tryd.prog w = .ok (.string (strOfNums l)) w := by
  cases a with
  | none =>
    rw [h0 rfl]
    exact run_convert_bytes_nil (P := Tryd.prog) w 28 5 Tryd.underlying28 Tryd.underlying5 n c 9 Tryd.underlying9
  | some ad =>
    by_cases hl : l = []
    · subst hl
      simp at hn
      subst hn
      obtain ⟨b, o, s⟩ := ad
      have hld : (loadCells ⟨b, o, s⟩ 0).run Tryd.prog w = .ok #[] w := by simp [loadCells, loadCellsFrom]
      rw [run_convert_bytes_string w 28 9 5 _ 0 c Tryd.underlying28 Tryd.underlying5 Tryd.underlying9]
      have := run_bytesToString (P := Tryd.prog) w ⟨b, o, s⟩ 0 c [] (by simpa using hld)
      rw [this]
      rfl
    · obtain ⟨b, o, e, -⟩ := ha 0 _ (List.getElem?_eq_getElem (List.length_pos_iff.2 hl))
      injection e with e
      subst e
      refine run_convert_bytes_arg (P := Tryd.prog) w 28 5 Tryd.underlying28 Tryd.underlying5 b o n c l hn (fun i hi => ?_) 9 Tryd.underlying9
      obtain ⟨b', o', e, hc⟩ := ha i _ (List.getElem?_eq_getElem (by omega))
      injection e with e
      injection e with e1 e2
      subst e1 e2
      rw [hc]
      simp [List.getD, List.getElem?_eq_getElem (show i < l.length by omega)]
theorem only_grow {w w' : World} {row : Option Nat} (h : w.grownBy w' row) : Only row.toList w w' := ⟨h.os, h.tape, h.output, h.size, fun k hk hn => h.block k hk (by rintro rfl; exact hn (by simp))⟩
theorem OwnB.only {w w' : World} {B : Nat} {v : Value} {l : List Int} {S : List Nat} (h : OwnB w B v l) (ho : Only S w w') (hS : ∀ b ∈ S, b < B) : OwnB w' B v l := h.keep fun g hg => ho.block g (h.block g hg).2 (fun hc => by have := hS _ hc; have := (h.block g hg).1; omega)
end Go.Proofs.YtjfgmcmnpekahaaDoor
