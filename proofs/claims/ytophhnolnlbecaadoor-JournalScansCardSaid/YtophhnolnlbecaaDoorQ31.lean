/- The program's Append: its end, when all has been written. The program's Append: what one of its rounds reads. No statement is proved here. -/
import Derived.Test.YtophhnolnlbecaaDoorQ30
namespace Go.Proofs.YtophhnolnlbecaaDoor
open Go.RowKit
set_option maxRecDepth 100000

def ApC.v4 (K : ApC) : Value := .int .i64 ((K.J.rs.length : Int) + 1)
def ApC.v5 (K : ApC) : Value := .int .i64 ((begins K.J.len : Int) + ((20 + K.l.length : Nat) : Int))
def ApC.A2 (K : ApC) (A : World) : World := (A.setCell ⟨K.a, 4, none⟩ K.v4).setCell ⟨K.a, 5, none⟩ K.v5
section
variable {K : ApC} {A w9 Z : World} {v' : Value}
theorem ApC.Ok.a_lt (O : K.Ok) : K.a < K.w.heap.size := O.less _ ((O.jat.mem K.a).2 (.inl rfl))
theorem a2_off (K : ApC) (A : World) {b : Nat} (h : b ≠ K.a) : (K.A2 A).heap[b]? = A.heap[b]? := by
  unfold ApC.A2
  rw [Below.heap_setCell _ _ _ _ h, Below.heap_setCell _ _ _ _ h]
theorem a2_size (K : ApC) (A : World) : (K.A2 A).heap.size = A.heap.size := by unfold ApC.A2; simp [World.setCell]
theorem ApI.a2 (O : K.Ok) (H : ApI K K.M A) : (K.A2 A).heap[K.a]? = some (.cells (((jCells K.J K.h K.db K.v).setIfInBounds 4 K.v4).setIfInBounds 5 K.v5) 84) :=
  set_heap (i := 5) (set_heap (i := 4) (H.jat O).obj K.v4) K.v5
theorem ApI.end_ (O : K.Ok) (H : ApI K K.M A) (b9 : Below (K.A2 A).drew.heap.size (K.A2 A).drew w9) (o9 : OwnB w9 (K.A2 A).drew.heap.size v' (lastL (strmR K.J.e K.J.rs K.l))) (hZ : Z = (w9.setCell ⟨K.a, 6, none⟩ v').setCell ⟨K.w.heap.size + 1, 0, none⟩ .nilIface) :
    (K.J.app K.l K.d).1 = 0 ∧ Z.heap[K.w.heap.size + 1]? = some (.cells #[.nilIface] 46) ∧ Keeps A Z ∧ ∀ Y, Turns TL K.U.heap.size Z Y → ∃ F', JnP K.W Y F' K.a (K.J.more K.l (K.J.app K.l K.d).1) ∧ (∀ b ∈ F', b ∈ K.F ∨ K.w.heap.size ≤ b) ∧ BoxAt Y ⟨K.lo, fun y => y ∈ F' ∨ K.X y⟩ K.J.g (K.J.app K.l K.d).2 (K.N + 8 * K.J.many) ∧ JTurns K.F K.W.heap.size K.w Y := by
  obtain ⟨di, hbx, hw⟩ := H.box
  rw [Nat.sub_self, wrX] at hw
  have HA := H.jat O
  have z2 := a2_size K A
  have z2' : (K.A2 A).drew.heap.size = A.heap.size := z2
  rw [z2'] at b9 o9
  have z9 := b9.size
  rw [z2'] at z9
  have hU := H.size
  have hwU := O.hU.size
  have hWw := O.hW.size
  have ha := O.a_lt
  have hecU := lt_of_block O.ec
  have hM := O.M_le
  have k9 : ∀ (b : Nat), b < A.heap.size → w9.heap[b]? = (K.A2 A).heap[b]? := fun b hb => b9.block b hb
  have zZ : Z.heap.size = w9.heap.size := by rw [hZ]; simp [World.setCell]
  have off : ∀ b, b ≠ K.a → b ≠ K.w.heap.size + 1 → Z.heap[b]? = w9.heap[b]? := fun b b1 b2 => by
    rw [hZ, Below.heap_setCell _ _ _ _ b2, Below.heap_setCell _ _ _ _ b1]
  have ec9 : w9.heap[K.w.heap.size + 1]? = some (.cells #[.nilIface] 46) := by
    rw [k9 _ (by omega), a2_off K A (by omega)]
    exact H.ec O
  have ecZ : Z.heap[K.w.heap.size + 1]? = some (.cells #[.nilIface] 46) := by
    rw [hZ]
    exact set_one ((Below.heap_setCell _ _ _ _ (by dsimp only; omega)).trans ec9) .nilIface
  have a9 : w9.heap[K.a]? = some (.cells (((jCells K.J K.h K.db K.v).setIfInBounds 4 K.v4).setIfInBounds 5 K.v5) 84) := by
    rw [k9 _ (by omega)]
    exact H.a2 O
  have aZ : Z.heap[K.a]? = some (.cells ((((jCells K.J K.h K.db K.v).setIfInBounds 4 K.v4).setIfInBounds 5 K.v5).setIfInBounds 6 v') 84) := by
    rw [hZ, Below.heap_setCell _ _ _ _ (by dsimp only; omega)]
    exact set_heap (i := 6) a9 v'
  have kA : ∀ b, b < A.heap.size → b ≠ K.a → b ≠ K.w.heap.size + 1 → Z.heap[b]? = A.heap[b]? := fun b b0 b1 b2 => by rw [off b b1 b2, k9 b b0, a2_off K A b1]
  have hne : ∀ {b : Nat} {cs : Array Value} {t : TypeId}, A.heap[b]? = some (.cells cs t) → t ≠ 84 → b ≠ K.a := fun hb ht e => by
    subst e
    rw [HA.obj] at hb
    injection hb with hb
    injection hb with _ hb
    exact ht hb.symm
  refine ⟨by rw [hw], ecZ, ⟨by omega, fun b o e t => ?_⟩, fun Y hY => ?_⟩
  · rw [kA b (lt_of_block e) (fun h => ?_) (fun h => ?_)]
    · exact e
    · subst h
      rw [HA.obj] at e
      cases e
      exact TL_cells _ _ _ t
    · subst h
      rw [H.ec O] at e
      cases e
      exact TL_cells _ _ _ t
  · have gO : ∀ g, v'.ownBlock = some g → A.heap.size ≤ g ∧ g < w9.heap.size := fun g hg => o9.block g hg
    have aY : ∀ (b : Nat) (cs : Array Value) (t : TypeId), Z.heap[b]? = some (.cells cs t) → Y.heap[b]? = some (.cells cs t) := fun b cs t e => hY.block b _ e (TL_cells _ _ _)
    have hmore : K.J.more K.l (K.J.app K.l K.d).1 = { K.J with rs := K.J.rs ++ [K.l] } := by
      unfold JS.more
      rw [hw, if_pos rfl]
    have hlen : ((JS.len { K.J with rs := K.J.rs ++ [K.l] } : Nat) : Int) = (begins K.J.len : Int) + ((20 + K.l.length : Nat) : Int) := by
      have h1 : JS.len { K.J with rs := K.J.rs ++ [K.l] } = (strmR K.J.e K.J.rs K.l).length := rfl
      have h2 : (strmR K.J.e K.J.rs K.l).length = begins K.J.len + 20 + K.l.length := strmR_len _ _ _
      rw [h1, h2]
      push_cast
      omega
    have hcs : (((jCells K.J K.h K.db K.v).setIfInBounds 4 K.v4).setIfInBounds 5 K.v5).setIfInBounds 6 v' = jCells { K.J with rs := K.J.rs ++ [K.l] } K.h K.db v' := by
      unfold jCells
      rw [hlen, List.length_append, List.length_singleton]
      rfl
    rw [hcs] at aZ
    have hJY : JAt K.W.heap.size Y (K.a :: K.h :: K.db :: v'.ownBlock.toList) K.a K.h K.db v' { K.J with rs := K.J.rs ++ [K.l] } := by
      have dh := lt_of_block HA.disk
      have dd := lt_of_block HA.box
      have fh := O.less _ ((O.jat.mem K.h).2 (.inr (.inl rfl)))
      have fd := O.less _ ((O.jat.mem K.db).2 (.inr (.inr (.inl rfl))))
      refine ⟨aY _ _ _ aZ, aY _ _ _ ((kA _ dh (hne HA.disk (by decide)) (by omega)).trans HA.disk), aY _ _ _ ((kA _ dd (hne HA.box (by decide)) (by omega)).trans HA.box), ?_, rfl, HA.low⟩
      refine (o9.base (B' := K.W.heap.size) (by omega)).keep fun g hg => ?_
      have h1 := gO g hg
      obtain ⟨cur, hc⟩ := own_obj o9 hg
      rw [hc]
      exact aY _ _ _ ((off g (by omega) (by omega)).trans hc)
    refine ⟨_, by rw [hmore]; exact ⟨K.h, K.db, v', hJY⟩, fun b hb => ?_, ?_, ⟨?_, fun b o e b1 b2 => ?_⟩⟩
    · rcases (hJY.mem b).1 hb with e | e | e | e
      · exact .inl ((O.jat.mem b).2 (.inl e))
      · exact .inl ((O.jat.mem b).2 (.inr (.inl e)))
      · exact .inl ((O.jat.mem b).2 (.inr (.inr (.inl e))))
      · exact .inr (by have := gO b e; omega)
    · rw [hw]
      have s1 := hbx.onlyT (w' := K.A2 A) (T := fun y => y = K.a) (S' := fun y => K.off y ∨ A.heap.size ≤ y) (fun y e => .inl ((O.jat.mem y).2 (.inl e))) (fun b _ e => a2_off K A e) (fun y e _ => by rw [e]; exact ⟨_, _, _, HA.obj, by decide, by decide⟩) (fun y e => e)
      have s2 := (s1.then_ (w' := (K.A2 A).drew) (Below.refl _ _).drew).then_ (w' := w9) (by rw [z2']; exact b9)
      have s3 := s2.onlyT (w' := Z) (T := fun y => y = K.a ∨ y = K.w.heap.size + 1) (S' := fun y => y ∈ (K.a :: K.h :: K.db :: v'.ownBlock.toList) ∨ K.X y) (fun y e => ?_) (fun b _ e => off b (fun h => e (.inl h)) (fun h => e (.inr h))) (fun y e _ => ?_) (fun y e => .inl ?_)
      · exact (s3.turnsG hY (fun _ => TL_cells _ _ _) (fun _ => TL_cells _ _ _) (fun _ => TL_cells _ _ _) (fun es c h => by rcases h with ⟨x, h⟩ | ⟨x, h⟩ <;> cases h)).more (by omega)
      · rcases e with rfl | rfl
        · exact .inl (.inl ((O.jat.mem K.a).2 (.inl rfl)))
        · exact .inl (.inr (.inr ⟨by omega, hecU⟩))
      · rcases e with rfl | rfl
        · exact ⟨_, _, _, a9, by decide, by decide⟩
        · exact ⟨_, _, _, ec9, by decide, by decide⟩
      · rcases e with e | e
        · rcases (hJY.mem y).1 e with e | e | e | e
          · exact .inl (.inl ((O.jat.mem y).2 (.inl e)))
          · exact .inl (.inl ((O.jat.mem y).2 (.inr (.inl e))))
          · exact .inl (.inl ((O.jat.mem y).2 (.inr (.inr (.inl e)))))
          · exact .inr (gO y e).1
        · exact .inl (.inr (.inl e))
    · have h1 := H.low
      have h2 := O.hW
      have hos : w9.os = A.os ∧ w9.tape = A.tape ∧ w9.output = A.output := ⟨b9.os, b9.tape, b9.output⟩
      have hoZ : Z.os = w9.os ∧ Z.tape = w9.tape ∧ Z.output = w9.output := by rw [hZ]; exact ⟨rfl, rfl, rfl⟩
      have hzY := hY.below.size
      refine ⟨hY.below.os.trans (hoZ.1.trans (hos.1.trans (h1.os.trans h2.os.symm))), hY.below.tape.trans (hoZ.2.1.trans (hos.2.1.trans (h1.tape.trans h2.tape.symm))), hY.below.output.trans (hoZ.2.2.trans (hos.2.2.trans (h1.output.trans h2.output.symm))), by omega, fun k hk => ?_⟩
      rw [hY.below.block k (by omega), kA k (by omega) (by have := O.jat.low.1; omega) (by omega)]
      exact (h1.block k hk).trans (h2.block k hk).symm
    · have hbl := lt_of_block e
      have hb1 : b ≠ K.a := fun h => b2 (by rw [h]; exact (O.jat.mem K.a).2 (.inl rfl))
      have hn := O.news
      rw [hY.below.block b (by omega), kA b (by omega) hb1 (by omega)]
      exact H.keep b o ((O.hU.block b hbl).trans e) b1 (by omega) (by omega)
theorem frozen_cells {w : World} {b : Nat} {cs : Array Value} {t : TypeId} (h : w.heap[b]? = some (.cells cs t)) (i : Nat) : w.frozen? ⟨b, i, none⟩ = false := by
  unfold World.frozen?
  simp [h]
theorem ApC.Ok.M_pos (_O : K.Ok) : 1 ≤ K.M := by
  have := jFst_lt K.J.e K.J.rs K.l
  unfold ApC.M
  omega
/-- The last part, to be kept. -/
theorem ApI.last (O : K.Ok) (H : ApI K K.M A) : ∃ ad n, K.lastV K.M = .slice (some ad) n n ∧ (lastL (strmR K.J.e K.J.rs K.l)).length = n ∧ n ≤ 504 ∧ InB (K.A2 A).drew (some ad) (lastL (strmR K.J.e K.J.rs K.l)) := by
  have hM := O.M_pos
  obtain ⟨m, hm⟩ : ∃ m, K.M = m + 1 := ⟨K.M - 1, by omega⟩
  have hl : lastL (strmR K.J.e K.J.rs K.l) = cutL 504 K.R m := by
    have h := row_last K.J.e K.J.rs K.l
    rw [show jEnd K.J.e K.J.rs K.l - jFst K.J.e K.J.rs - 1 = m by have : K.M = jEnd K.J.e K.J.rs K.l - jFst K.J.e K.J.rs := rfl; omega] at h
    exact h.symm
  have hg : K.g ≠ K.a := fun e => by
    obtain ⟨cur, hc⟩ := O.byteRow
    have h1 := O.atU.obj
    rw [← e, hc] at h1
    cases h1
  refine ⟨⟨K.g, 0 + 504 * m, none⟩, min 504 (K.rn - 504 * m), by rw [hm]; rfl, by rw [hl, cutL_len, O.rlen], Nat.min_le_left _ _, ?_⟩
  rw [hl]
  have hin : InB (K.A2 A).drew (some ⟨K.g, 0, none⟩) K.R := fun j x hx => by
    obtain ⟨b, o, e, hc⟩ := H.row O j x hx
    injection e with e
    injection e with e1 e2
    subst e1 e2
    refine ⟨K.g, 0, rfl, ?_⟩
    rw [← hc]
    have h2 : (K.A2 A).drew.heap[K.g]? = A.heap[K.g]? := a2_off K A hg
    unfold World.cell?
    rw [h2]
  exact adAt_in hin (504 * m) 504
/-- What the walk reads at its end. -/
structure ApW (K : ApC) (A : World) : Prop where
  jA : A.cell? ⟨K.w.heap.size, 0, none⟩ = some (.pointer (some ⟨K.a, 0, none⟩))
  c4 : A.cell? ⟨K.a, 4, none⟩ = some (.int .i64 (K.J.rs.length : Int))
  f4 : A.frozen? ⟨K.a, 4, none⟩ = false
  jA1 : (A.setCell ⟨K.a, 4, none⟩ K.v4).cell? ⟨K.w.heap.size, 0, none⟩ = some (.pointer (some ⟨K.a, 0, none⟩))
  c5 : (A.setCell ⟨K.a, 4, none⟩ K.v4).cell? ⟨K.a, 5, none⟩ = some (.int .i64 (K.J.len : Int))
  f5 : (A.setCell ⟨K.a, 4, none⟩ K.v4).frozen? ⟨K.a, 5, none⟩ = false
  jA2 : (K.A2 A).cell? ⟨K.w.heap.size, 0, none⟩ = some (.pointer (some ⟨K.a, 0, none⟩))
  lA2 : (K.A2 A).cell? ⟨K.lb, 0, none⟩ = some (K.lastV K.M)
theorem ApI.walk (O : K.Ok) (H : ApI K K.M A) : ApW K A := by
  have HA := H.jat O
  have ha := O.a_lt
  have hn := O.news
  have s1 := set_heap (i := 4) HA.obj K.v4
  have o1 : ∀ b, b ≠ K.a → (A.setCell ⟨K.a, 4, none⟩ K.v4).heap[b]? = A.heap[b]? := fun b hb => Below.heap_setCell _ _ _ _ hb
  refine ⟨(row_cellJ (H.jb O)).1, HA.c4, frozen_cells HA.obj 4, (row_cellJ ((o1 _ (by omega)).trans (H.jb O))).1, ?_, frozen_cells s1 5, (row_cellJ ((a2_off K A (by omega)).trans (H.jb O))).1, (row_cellJ ((a2_off K A (by omega)).trans H.las)).1⟩
  exact row_cells s1 5
/-- And behind the clone. -/
theorem ApI.walk9 (O : K.Ok) (H : ApI K K.M A) {w9 : World} (b9 : Below (K.A2 A).drew.heap.size (K.A2 A).drew w9) (v' : Value) :
    (∃ u, w9.cell? ⟨K.a, 6, none⟩ = some u) ∧ w9.frozen? ⟨K.a, 6, none⟩ = false ∧ w9.cell? ⟨K.w.heap.size, 0, none⟩ = some (.pointer (some ⟨K.a, 0, none⟩)) ∧ w9.cell? ⟨K.lb, 0, none⟩ = some (K.lastV K.M) ∧
    (w9.setCell ⟨K.a, 6, none⟩ v').cell? ⟨K.w.heap.size, 0, none⟩ = some (.pointer (some ⟨K.a, 0, none⟩)) ∧ (w9.setCell ⟨K.a, 6, none⟩ v').cell? ⟨K.lb, 0, none⟩ = some (K.lastV K.M) ∧
    (w9.setCell ⟨K.a, 6, none⟩ v').cell? ⟨K.w.heap.size + 1, 0, none⟩ = some .nilIface ∧ (w9.setCell ⟨K.a, 6, none⟩ v').frozen? ⟨K.w.heap.size + 1, 0, none⟩ = false := by
  have HA := H.jat O
  have ha := O.a_lt
  have hn := O.news
  have hU := H.size
  have hec := lt_of_block O.ec
  have z2' : (K.A2 A).drew.heap.size = A.heap.size := a2_size K A
  rw [z2'] at b9
  have k9 : ∀ b, b < A.heap.size → w9.heap[b]? = (K.A2 A).heap[b]? := fun b hb => b9.block b hb
  have a9 := (k9 _ (lt_of_block HA.obj)).trans (H.a2 O)
  have j9 := ((k9 _ (lt_of_block (H.jb O))).trans (a2_off K A (by omega))).trans (H.jb O)
  have l9 := ((k9 _ (lt_of_block H.las)).trans (a2_off K A (by omega))).trans H.las
  have e9 := ((k9 _ (lt_of_block (H.ec O))).trans (a2_off K A (by omega))).trans (H.ec O)
  have o9 : ∀ b, b ≠ K.a → (w9.setCell ⟨K.a, 6, none⟩ v').heap[b]? = w9.heap[b]? := fun b hb => Below.heap_setCell _ _ _ _ hb
  have e10 := row_cellJ ((o9 _ (by omega)).trans e9)
  exact ⟨⟨_, row_cells a9 6⟩, frozen_cells a9 6, (row_cellJ j9).1, (row_cellJ l9).1, (row_cellJ ((o9 _ (by omega)).trans j9)).1, (row_cellJ ((o9 _ (by omega)).trans l9)).1, e10.1, e10.2⟩
end
end Go.Proofs.YtophhnolnlbecaaDoor
namespace Go.Proofs.YtophhnolnlbecaaDoor
open Go.RowKit
set_option maxRecDepth 100000

def ApC.at_ (K : ApC) (i : Nat) : Int := ((8 * K.J.fr + (jFst K.J.e K.J.rs + i) : Nat) : Int)
/-- What a round's region reads. -/
def ApH (K : ApC) (i : Nat) (A : World) : Prop := A.cell? ⟨K.w.heap.size, 0, none⟩ = some (.pointer (some ⟨K.a, 0, none⟩)) ∧ A.cell? ⟨K.a, 7, none⟩ = some (.func (.func 69) #[] #[.pointer (some ⟨K.db, 0, none⟩)]) ∧ A.cell? ⟨K.a, 0, none⟩ = some (.pointer (some ⟨K.h, 0, none⟩)) ∧ A.cell? ⟨K.a, 3, none⟩ = some (.int .i64 K.J.e) ∧ A.cell? ⟨K.nb, 0, none⟩ = some (.int .i64 (K.at_ i))
theorem drewB {A B : World} (b : Below A.drew.heap.size A.drew B) : Below A.heap.size A B := ⟨b.os, b.tape, b.output, b.size, b.block⟩
section
variable {K : ApC} {i : Nat} {A B C : World}
theorem ApI.held (O : K.Ok) (H : ApI K i A) : ApH K i A.drew := ⟨(row_cellJ (H.jb O)).1, (H.jat O).c7, (H.jat O).c0, (H.jat O).c3, (row_cellJ H.num).1⟩
theorem ApI.heldB (O : K.Ok) (H : ApI K i A) (b1 : Below A.drew.heap.size A.drew B) : ApH K i B :=
  ⟨(row_cellJ (row_then (H.jb O) (drewB b1))).1, ((H.jat O).then_ (drewB b1)).c7, ((H.jat O).then_ (drewB b1)).c0, ((H.jat O).then_ (drewB b1)).c3, (row_cellJ (row_then H.num (drewB b1))).1⟩
theorem ApI.heldC (O : K.Ok) (H : ApI K i A) (b1 : Below A.drew.heap.size A.drew B) (ht : Turns TB K.lo B C) : ApH K i C :=
  ⟨(row_cellJ (ht.block _ _ (row_then (H.jb O) (drewB b1)) (TB_no (by decide) (by decide) _ _))).1, (((H.jat O).then_ (drewB b1)).turns ht).c7, (((H.jat O).then_ (drewB b1)).turns ht).c0, (((H.jat O).then_ (drewB b1)).turns ht).c3, (row_cellJ (ht.block _ _ (row_then H.num (drewB b1)) (TB_no (by decide) (by decide) _ _))).1⟩
theorem ApI.heldD (O : K.Ok) (H : ApI K i A) (b1 : Below A.drew.heap.size A.drew B) (ht : Turns TB K.lo B C) : ApH K i (C.setCell ⟨K.db, 0, none⟩ (.bool true)) := by
  have hd := O.less _ ((O.jat.mem K.db).2 (.inr (.inr (.inl rfl))))
  have hn := O.news
  have J := (((H.jat O).then_ (drewB b1)).turns ht).die
  have j2 := ht.block _ _ (row_then (H.jb O) (drewB b1)) (TB_no (by decide) (by decide) _ _)
  have n2 := ht.block _ _ (row_then H.num (drewB b1)) (TB_no (by decide) (by decide) _ _)
  exact ⟨(row_cellJ ((Below.heap_setCell _ _ _ _ (by dsimp only; omega)).trans j2)).1, J.c7, J.c0, J.c3, (row_cellJ ((Below.heap_setCell _ _ _ _ (by dsimp only; omega)).trans n2)).1⟩
/-- What the round writes behind a write that was done. -/
theorem ApI.cellsC (O : K.Ok) (H : ApI K i A) (b1 : Below A.drew.heap.size A.drew B) (ht : Turns TB K.lo B C) (x : Value) :
    C.frozen? ⟨K.nb, 0, none⟩ = false ∧ (∃ u, (C.setCell ⟨K.nb, 0, none⟩ x).cell? ⟨K.lb, 0, none⟩ = some u) ∧ (C.setCell ⟨K.nb, 0, none⟩ x).frozen? ⟨K.lb, 0, none⟩ = false := by
  have hn := O.news
  have n2 := ht.block _ _ (row_then H.num (drewB b1)) (TB_no (by decide) (by decide) _ _)
  have l2 := ht.block _ _ (row_then H.las (drewB b1)) (TB_no (by decide) (by decide) _ _)
  have l3 := row_cellJ ((Below.heap_setCell C ⟨K.nb, 0, none⟩ x K.lb (by dsimp only; omega)).trans l2)
  exact ⟨(row_cellJ n2).2, ⟨_, l3.1⟩, l3.2⟩
theorem ApI.cellsD (O : K.Ok) (H : ApI K i A) (b1 : Below A.drew.heap.size A.drew B) (ht : Turns TB K.lo B C) :
    (C.setCell ⟨K.db, 0, none⟩ (.bool true)).cell? ⟨K.w.heap.size + 1, 0, none⟩ = some .nilIface ∧ (C.setCell ⟨K.db, 0, none⟩ (.bool true)).frozen? ⟨K.w.heap.size + 1, 0, none⟩ = false := by
  have hd := O.less _ ((O.jat.mem K.db).2 (.inr (.inr (.inl rfl))))
  have e2 := ht.block _ _ (row_then (H.ec O) (drewB b1)) (TB_no (by decide) (by decide) _ _)
  exact row_cellJ ((Below.heap_setCell _ _ _ _ (by dsimp only; omega)).trans e2)
theorem ApC.Ok.at_ok (O : K.Ok) (hi : i < K.M) : okInt (K.at_ i) ∧ K.at_ i + 1 ≤ 9000000000 ∧ 0 ≤ K.at_ i := by
  have h1 := O.J_ok.fits
  have h2 := O.J_ok.small
  have h3 := JS.strm (d := K.d) (l := K.l) O.room
  have h4 : jFst K.J.e K.J.rs + i < jEnd K.J.e K.J.rs K.l := by unfold ApC.M at hi; omega
  unfold jEnd at h4
  unfold ApC.at_ okInt
  omega
/-- A round's calls: the sector made, and written. -/
theorem ApI.stamp (O : K.Ok) (H : ApI K i A) : Calls Tryd.prog 52 #[.int .i64 K.J.e, K.part i] A.drew fun en w' => en = .returned (.slice (some ⟨A.heap.size, 0, none⟩) 512 512) ∧ FullAt w' A.heap.size (K.sec i) ∧ Below A.drew.heap.size A.drew w' := by
  have hin : InB A.drew (adAt (some ⟨K.g, 0, none⟩) (504 * i)) (cutL 504 K.R i) := (adAt_in (H.row O) (504 * i) 504).then_ (Below.refl _ A).drew
  have h := pstamped_any K.J.e (adAt (some ⟨K.g, 0, none⟩) (504 * i)) (min 504 (K.rn - 504 * i)) (min 504 (K.rn - 504 * i)) (cutL 504 K.R i) A.drew O.J_ok.ep hin (by rw [cutL_len, O.rlen]) (Nat.min_le_left _ _)
  have e : stampL K.J.e (cutL 504 K.R i) = K.sec i := row_sec _ _ _ _
  rw [e] at h
  exact h
theorem ApC.Ok.sec_ok (O : K.Ok) : Go.Proofs.YtophhnolnlbecaaDoor.isB (K.sec i) ∧ (K.sec i).length = 512 := by
  refine ⟨?_, secL_len _ _ _⟩
  have hS : Go.Proofs.YtophhnolnlbecaaDoor.isB (strmR K.J.e K.J.rs K.l) := by
    have : ∀ (us : List (List Int)), (∀ r ∈ us, Go.Proofs.YtophhnolnlbecaaDoor.isB r) → ∀ k, Go.Proofs.YtophhnolnlbecaaDoor.isB (strmK K.J.e us k) := fun us hus k => by
      induction k with
      | zero => exact isB.nil
      | succ k ih =>
        unfold strmK
        refine ih.append2 ((zB_byte _).append2 (jFrame_byte ?_))
        cases hk : us[k]? with
        | none => exact isB.nil
        | some r => exact hus r (List.mem_of_getElem? hk)
    exact this _ (fun r hr' => by
      rcases List.mem_append.1 hr' with h' | h'
      · exact (O.J_ok.rows r h').1
      · rw [List.mem_singleton.1 h']; exact O.isB) _
  unfold ApC.sec secL
  exact (leB_byte _ _).append2 (((hS.drop _).take' _).append2 (zB_byte _))
theorem ApI.writes (O : K.Ok) (H : ApI K i A) (hi : i < K.M) {di : Dk} (hbx : BoxAt A ⟨K.lo, K.off⟩ K.J.g di (K.N + i)) (b1 : Below A.drew.heap.size A.drew B) (f1 : FullAt B A.heap.size (K.sec i)) :
    Calls Tryd.prog 51 #[.pointer (some ⟨K.h, 0, none⟩), .int .i64 (K.at_ i), .slice (some ⟨A.heap.size, 0, none⟩) 512 512] B fun e w' => e = .returned (errV (di.writeE (K.at_ i) (K.sec i))) ∧ BoxAt w' ⟨K.lo, K.off⟩ K.J.g (di.write (K.at_ i) (K.sec i)) (K.N + i + 1) ∧ Turns TB K.lo B w' := by
  have hs := O.sec_ok (i := i)
  have hMl := O.M_le
  have hmy := O.many
  have hU := H.size
  have hwU := O.hU.size
  have z1 : A.heap.size ≤ B.heap.size := b1.size
  refine dwrite_any K.h K.J.g (K.at_ i) (some ⟨A.heap.size, 0, none⟩) 512 512 (K.sec i) B ⟨K.lo, K.off⟩ (K.N + i) di (O.at_ok hi).1 ((H.jat O).then_ (drewB b1)).disk ((hbx.then_ (Below.refl _ A).drew).then_ b1) f1.inB hs.1 hs.2 (by omega) (fun y e => ?_)
  rcases e with e | e | e
  · have := O.less y e; omega
  · have := O.xs y e; omega
  · omega
end
end Go.Proofs.YtophhnolnlbecaaDoor
