/- Rows of superblocks that a call owns; where SuperTurns stands. No statement is proved here. -/
import Derived.Test.YtonjapphhbhcpaaDoorUEnvD
import Derived.Test.YtonjapphhbhcpaaDoorUTp
import Derived.Test.YtonjapphhbhcpaaDoorGOps
import Derived.Test.YtonjapphhbhcpaaDoorJ5
namespace Go.Proofs.YtonjapphhbhcpaaDoor
open Go.RowKit
set_option maxRecDepth 100000

def supC : List Sup → List Value
  | [] => []
  | s :: l => .int .i64 s.ver :: .int .i64 s.root :: .int .i64 s.ep :: .int .i64 s.pag :: supC l
theorem supC_len : ∀ l : List Sup, (supC l).length = l.length * 4
  | [] => rfl
  | s :: l => by
    rw [supC, List.length_cons, List.length_cons, List.length_cons, List.length_cons, supC_len l, List.length_cons]
    omega
theorem supC_snoc (s : Sup) : ∀ l : List Sup, supC (l ++ [s]) = supC l ++ [.int .i64 s.ver, .int .i64 s.root, .int .i64 s.ep, .int .i64 s.pag]
  | [] => rfl
  | t :: l => by
    rw [List.cons_append, supC, supC_snoc s l]
    rfl
theorem supC_get : ∀ (l : List Sup) (i : Nat) (s : Sup), l[i]? = some s → (supC l)[i * 4]? = some (.int .i64 s.ver) ∧ (supC l)[i * 4 + 1]? = some (.int .i64 s.root) ∧ (supC l)[i * 4 + 2]? = some (.int .i64 s.ep) ∧ (supC l)[i * 4 + 3]? = some (.int .i64 s.pag)
  | [], i, s, h => by simp at h
  | t :: l, 0, s, h => by
    simp at h
    subst h
    exact ⟨rfl, rfl, rfl, rfl⟩
  | t :: l, i + 1, s, h => by
    have ih := supC_get l i s (by simpa using h)
    rw [show (i + 1) * 4 = i * 4 + 1 + 1 + 1 + 1 by omega]
    exact ih
/-- A row of superblocks that the call owns: from block B on. -/
def OwnU (w : World) (B : Nat) (v : Value) (l : List Sup) : Prop := w.ownsRow B 23 4 v l.length (supC l)
theorem OwnU.nil (w : World) (B : Nat) : OwnU w B (.slice none 0 0) [] := World.ownsRow_nil _ _ _ _
theorem OwnU.block {w : World} {B : Nat} {v : Value} {l : List Sup} (h : OwnU w B v l) : ∀ g, v.ownBlock = some g → B ≤ g ∧ g < w.heap.size := World.ownsRow.lt h
theorem OwnU.obj {w : World} {B : Nat} {v : Value} {l : List Sup} (h : OwnU w B v l) : ∀ g, v.ownBlock = some g → ∃ cur, w.heap[g]? = some (.cells cur 23) := by
  obtain ⟨h1, h2⟩ := h
  intro g hg
  rcases h2 with ⟨hv, -⟩ | ⟨g', cap, cur, hv, hb, hg', hrest⟩
  · rw [hv] at hg
    cases hg
  · rw [hv] at hg
    injection hg with hg
    subst hg
    exact ⟨cur, hg'⟩
theorem OwnU.keep {w w' : World} {B : Nat} {v : Value} {l : List Sup} (h : OwnU w B v l) (hb : ∀ g, v.ownBlock = some g → w'.heap[g]? = w.heap[g]?) : OwnU w' B v l := by
  obtain ⟨h1, h2⟩ := h
  refine ⟨h1, ?_⟩
  rcases h2 with h2 | ⟨g, cap, cur, hv, hB, hg, hrest⟩
  · exact .inl h2
  · refine .inr ⟨g, cap, cur, hv, hB, ?_, hrest⟩
    rw [hb g (by rw [hv]; rfl)]
    exact hg
theorem OwnU.then_ {w w' : World} {B : Nat} {v : Value} {l : List Sup} (h : OwnU w B v l) (hb : Below w.heap.size w w') : OwnU w' B v l := h.keep fun g hg => hb.block g (h.block g hg).2
theorem OwnU.turned {T : Obj → Prop} {w w' : World} {B B' : Nat} {v : Value} {l : List Sup} (h : OwnU w B v l) (ht : Turns T B' w w') (hn : ∀ cur, ¬ T (.cells cur 23)) : OwnU w' B v l := h.keep fun b hb => by
  obtain ⟨cur, h1⟩ := h.obj b hb
  exact (ht.block b _ h1 (hn cur)).trans h1.symm
theorem OwnU.form {w : World} {B : Nat} {v : Value} {l : List Sup} (h : OwnU w B v l) : ∃ a c, v = .slice a l.length c := by
  obtain ⟨h1, h2⟩ := h
  rcases h2 with ⟨hv, hz⟩ | ⟨g, cap, cur, hv, hb, hrest⟩
  · exact ⟨none, 0, by rw [hv, hz]⟩
  · exact ⟨_, cap, hv⟩
/-- What stands in it. -/
theorem OwnU.at_ {w : World} {B : Nat} {v : Value} {l : List Sup} (h : OwnU w B v l) {i : Nat} {s : Sup} (hs : l[i]? = some s) : ∃ g c, v = .slice (some ⟨g, 0, none⟩) l.length c ∧ l.length ≤ c ∧ c ≤ maxLen ∧ w.cell? ⟨g, i * 4, none⟩ = some (.int .i64 s.ver) ∧ w.cell? ⟨g, i * 4 + 1, none⟩ = some (.int .i64 s.root) ∧ w.cell? ⟨g, i * 4 + 2, none⟩ = some (.int .i64 s.ep) ∧ w.cell? ⟨g, i * 4 + 3, none⟩ = some (.int .i64 s.pag) := by
  have h0 := h
  have hi := lt_of_get hs
  obtain ⟨h1, h2⟩ := h
  rcases h2 with ⟨-, h2⟩ | ⟨g, cap, cur, hv, hb, hg, hle, hcm, hrest⟩
  · omega
  · subst hv
    obtain ⟨g0, g1, g2, g3⟩ := supC_get l i s hs
    exact ⟨g, cap, rfl, hle, hcm, (World.ownsRow.cellAt h0 (i * 4) (by omega)).trans g0, (World.ownsRow.cellAt h0 (i * 4 + 1) (by omega)).trans g1, (World.ownsRow.cellAt h0 (i * 4 + 2) (by omega)).trans g2, (World.ownsRow.cellAt h0 (i * 4 + 3) (by omega)).trans g3⟩
/-- Blocks of superblocks alone have turned. -/
def TU : Obj → Prop
  | .cells _ t _ => t = 23
  | _ => False
theorem TU_no {t : TypeId} (h : t ≠ 23) (cur : Array Value) : ¬ TU (.cells cur t) := h
theorem BoxAt.turnsU {w w' : World} {B B' g N : Nat} {d : Dk} (h : BoxAt w B g d N) (ht : Turns TU B' w w') : BoxAt w' B g d N := h.turnsG ht (TU_no (by decide)) (TU_no (by decide)) (TU_no (by decide)) (fun _ _ h => h)
/-- Where the law stands. -/
structure TSt (W w : World) (B h g bs : Nat) (x : Sup) (pv : Value) (L : List Sup) (d : Dk) (N : Nat) : Prop where
  box : BoxAt w B g d N
  hand : w.heap[h]? = some (.cells #[.pointer (some ⟨g, 0, none⟩)] 80)
  one : w.heap[bs]? = some (.cells #[.int .i64 x.ver, .int .i64 x.root, .int .i64 x.ep, .int .i64 x.pag] 23)
  put : OwnU w (bs + 1) pv L
  below : Below W.heap.size W w
section
variable {W w w' : World} {B h g bs N : Nat} {x : Sup} {pv : Value} {L : List Sup} {d : Dk}
theorem TSt.then_ (u : TSt W w B h g bs x pv L d N) (hb : Below w.heap.size w w') : TSt W w' B h g bs x pv L d N :=
  { box := u.box.then_ hb
    hand := (hb.block _ (lt_of_block u.hand)).trans u.hand
    one := (hb.block _ (lt_of_block u.one)).trans u.one
    put := u.put.then_ hb
    below := u.below.trans (hb.mono u.below.size) }
theorem TSt.turn (u : TSt W w B h g bs x pv L d N) (hW : W.heap.size ≤ B) {d' : Dk} {N' : Nat} (hb : BoxAt w' B g d' N') (ht : Turns TB B w w') : TSt W w' B h g bs x pv L d' N' :=
  { box := hb
    hand := ht.block _ _ u.hand handS_TB
    one := ht.block _ _ u.one super_TB
    put := u.put.turned ht fun _ => super_TB
    below := u.below.trans (ht.below.mono hW) }
/-- Three of the four are set. -/
theorem TSt.set3 (u : TSt W w B h g bs x pv L d N) (hW : W.heap.size ≤ bs) (a b c : Int) :
    TSt W (((w.setCell ⟨bs, 0, none⟩ (.int .i64 a)).setCell ⟨bs, 1, none⟩ (.int .i64 b)).setCell ⟨bs, 2, none⟩ (.int .i64 c)) B h g bs ⟨a, b, c, x.pag⟩ pv L d N := by
  have r0 := u.one
  have r1 := set_heap r0 (i := 0) (.int .i64 a)
  have r2 := set_heap r1 (i := 1) (.int .i64 b)
  have r3 := set_heap r2 (i := 2) (.int .i64 c)
  have t1 : Turns TU bs w (w.setCell ⟨bs, 0, none⟩ (.int .i64 a)) := (Turns.refl TU bs w).setCell r0 (show TU (.cells _ _) from rfl) (Nat.le_refl _) _
  have t2 := t1.setCell (p := ⟨bs, 1, none⟩) r1 (show TU (.cells _ _) from rfl) (Nat.le_refl _) (.int .i64 b)
  have t3 := t2.setCell (p := ⟨bs, 2, none⟩) r2 (show TU (.cells _ _) from rfl) (Nat.le_refl _) (.int .i64 c)
  exact { box := u.box.turnsU t3
          hand := t3.block _ _ u.hand (TU_no (by decide) _)
          one := r3
          put := u.put.keep fun b' hb' => by
            have hne : b' ≠ bs := by have := (u.put.block b' hb').1; omega
            exact (set_off _ _ hne).trans ((set_off _ _ hne).trans (set_off _ _ hne))
          below := u.below.trans (t3.below.mono hW) }
/-- The row has grown. -/
theorem TSt.grow (u : TSt W w B h g bs x pv L d N) (hW : W.heap.size ≤ bs) {pv' : Value} {L' : List Sup} (own : OwnU w' (bs + 1) pv' L') (hg : w.grownBy w' pv.ownBlock) : TSt W w' B h g bs x pv' L' d N := by
  have hlt := lt_of_block u.one
  have t : Turns TU (bs + 1) w w' := (Turns.refl TU (bs + 1) w).grown hg (fun k hk => by
    obtain ⟨cur, hc⟩ := u.put.obj k hk
    exact ⟨(u.put.block k hk).1, _, hc, show TU (.cells _ _) from rfl⟩) hlt
  exact { box := u.box.turnsU t
          hand := t.block _ _ u.hand (TU_no (by decide) _)
          one := (t.below.block bs (by omega)).trans u.one
          put := own
          below := u.below.trans (t.below.mono (by omega)) }
end
end Go.Proofs.YtonjapphhbhcpaaDoor
