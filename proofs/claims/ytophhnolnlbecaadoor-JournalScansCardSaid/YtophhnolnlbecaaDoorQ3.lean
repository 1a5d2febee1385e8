/- The document's own Join and what it stands on: contracts. The document's own Make of a page: its contract. An append under a name. No statement is proved here. -/
import Derived.Test.YtophhnolnlbecaaDoorQ2
import Derived.Test.YtophhnolnlbecaaDoorProg
import Derived.WalkKit
namespace Go.Proofs.YtophhnolnlbecaaDoor
open Go.RowKit
set_option maxRecDepth 100000

theorem refSum_any (a : Option Addr) (c n : Nat) (l : List Int) (w : World) (ha : InB w a l) (hB : isB l) (hn : l.length = n) (hl : n ≤ 140737488351232) :
    Calls Tryd.prog 40 #[.slice a n c] w fun e w' => e = .returned (.int .i64 (moreP 0 l)) ∧ w = w' := by
  have HM := Lib.hid (refMore_any 0 a c n l w ha hB hn hl)
  clear ha hB hn
  go_enter Tryd.func40, Tryd.ntmps40
  go_wp2_with (go_at_call 64; refine HM.out.mono ?_; rintro e w' ⟨rfl, rfl⟩)
  go_ret
  exact ⟨rfl, rfl⟩
/-- Numbers of 32 bits as values, and where they lie. -/
def wdV (l : List Nat) : List Value := l.map fun (x : Nat) => Value.int .u32 (x : Int)
theorem wdV_len (l : List Nat) : (wdV l).length = l.length := List.length_map _
theorem wdV_append (a b : List Nat) : wdV (a ++ b) = wdV a ++ wdV b := List.map_append
/-- A row of such numbers of a call's own. -/
def OwnW (w : World) (B : Nat) (v : Value) (l : List Nat) : Prop := w.ownsRow B 117 1 v l.length (wdV l)
theorem info_word : (Tryd.prog.info? 117).map (fun i => (i.zero, i.size, i.bytes)) = some (some (.int .u32 0), 1, 4) := by kernel_rfl
theorem OwnW.cell {w : World} {B n c : Nat} {a : Option Addr} {l : List Nat} (h : OwnW w B (.slice a n c) l) {i x : Nat} (hx : l[i]? = some x) : ∃ g, a = some ⟨g, 0, none⟩ ∧ B ≤ g ∧ n = l.length ∧ w.cell? ⟨g, i, none⟩ = some (.int .u32 x) := by
  have h0 := h
  obtain ⟨h1, h2⟩ := h
  have hi := lt_of_get hx
  rcases h2 with ⟨hv, hz⟩ | ⟨g, cap, cur, hv, hb, hg, hle, hcm, hrest⟩
  · omega
  · injection hv with e1 e2 e3
    subst e1 e2 e3
    refine ⟨g, rfl, hb, rfl, ?_⟩
    rw [World.ownsRow.cellAt h0 i (by omega), wdV, List.getElem?_map, hx]
    rfl
end Go.Proofs.YtophhnolnlbecaaDoor
namespace Go.Proofs.YtophhnolnlbecaaDoor
open Go.RowKit
set_option maxRecDepth 100000

theorem moreP_rng0 {l : List Int} (h : isB l) : 0 ≤ moreP 0 l ∧ moreP 0 l ≤ 4294967295 := by
  unfold moreP
  have hm : mayB 0 = true := rfl
  rw [hm]
  have := moreN_lt (s := (0 : Int).toNat) (natL l) (by simp) (natL_byte h)
  simp at this ⊢
  omega
end Go.Proofs.YtophhnolnlbecaaDoor
namespace Go.Proofs.YtophhnolnlbecaaDoor
/-- An append under a name, so that the walk takes an equation on its run as it stands. -/
def appSem (ts : Array TypeId) (ty : TypeId) (args : Array Value) := Builtin.append_ ts ty args
theorem app_sem (ts : Array TypeId) (ty : TypeId) (args : Array Value) : Builtin.append_ ts ty args = appSem ts ty args := rfl
attribute [irreducible] appSem
end Go.Proofs.YtophhnolnlbecaaDoor
