/- slices.Clone of lists of values and of fields: no statement is proved here. -/
import Derived.Test.YtkklnfihjikilaaDoorPathBel
import Derived.Deep.AppendLies
namespace Go.Proofs.YtkklnfihjikilaaDoor
open Go.RowKit
set_option maxRecDepth 100000

theorem inL_flat {w : World} {b o : Nat} {l : List T} (h : InL w (some ⟨b, o, none⟩) l) : ∀ j u, (l.flatMap T.cells)[j]? = some u → w.cell? ((⟨b, o, none⟩ : Addr).add j) = some u := by
  intro j u hj
  have hlt := lt_of_get hj
  rw [flat_len] at hlt
  obtain ⟨x, hx⟩ : ∃ x, l[j / 5]? = some x := ⟨_, List.getElem?_eq_getElem (by omega)⟩
  obtain ⟨b', o', e, hc, -⟩ := h.elem hx
  cases e
  have h1 := flatMap_get T.cells 5 cells_len l (j / 5) x hx (j % 5) (by omega)
  rw [show j / 5 * 5 + j % 5 = j by omega, hj] at h1
  have h2 := hc (j % 5) u h1.symm
  rw [show o + j / 5 * 5 + j % 5 = o + j by omega] at h2
  rw [Addr.add_lit]
  exact h2
theorem flat_lenD (l : List (ByteArray × T)) : (l.flatMap fcells).length = l.length * 6 := by induction l with
  | nil => rfl
  | cons x r ih => rw [List.flatMap_cons, List.length_append, ih, fcells_len, List.length_cons]; omega
theorem inD_flat {w : World} {b o : Nat} {l : List (ByteArray × T)} (h : InD w (some ⟨b, o, none⟩) l) : ∀ j u, (l.flatMap fcells)[j]? = some u → w.cell? ((⟨b, o, none⟩ : Addr).add j) = some u := by
  intro j u hj
  have hlt := lt_of_get hj
  rw [flat_lenD] at hlt
  obtain ⟨x, hx⟩ : ∃ x, l[j / 6]? = some x := ⟨_, List.getElem?_eq_getElem (by omega)⟩
  obtain ⟨b', o', e, hc, -⟩ := h.elem hx
  cases e
  have h1 := flatMap_getD fcells 6 fcells_len l (j / 6) x hx (j % 6) (by omega)
  rw [show j / 6 * 6 + j % 6 = j by omega, hj] at h1
  have h2 := hc (j % 6) u h1.symm
  rw [show o + j / 6 * 6 + j % 6 = o + j by omega] at h2
  rw [Addr.add_lit]
  exact h2
theorem cells_one (l : List T) : ∀ u ∈ l.flatMap T.cells, u.oneCell' = true := by
  intro u hu
  obtain ⟨x, -, hx⟩ := List.mem_flatMap.1 hu
  cases x
  simp [T.cells] at hx
  rcases hx with rfl | rfl | rfl | rfl | rfl <;> rfl
theorem fcells_one (l : List (ByteArray × T)) : ∀ u ∈ l.flatMap fcells, u.oneCell' = true := by
  intro u hu
  obtain ⟨⟨f, x⟩, -, hx⟩ := List.mem_flatMap.1 hu
  cases x
  simp [fcells, T.cells] at hx
  rcases hx with rfl | rfl | rfl | rfl | rfl | rfl <;> rfl

theorem sclone_nil (w : World) (a : Option Addr) (n c : Nat) : (binOp BinOp.eql 28 (.slice a n c) (.slice none 0 0)).run Tryd.prog w = .ok (.bool a.isNone) w := by
  have h := run_equal_slice_nil (P := Tryd.prog) w 28 31 a n c Tryd.underlying28
  simp [binOp, go_sem, h]
set_option maxHeartbeats 1000000 in
theorem sclone_any (b o ca : Nat) (l : List T) (w : World) (ha : InL w (some ⟨b, o, none⟩) l) (h0 : 0 < l.length) (hl : l.length * 80 ≤ 140737488351232) :
    Calls Tryd.prog 75 #[.slice (some ⟨b, o, none⟩) l.length ca] w fun e w' => ∃ g cap, e = .returned (.slice (some ⟨g, 0, none⟩) l.length cap) ∧ w'.ownsRow w.heap.size 31 5 (.slice (some ⟨g, 0, none⟩) l.length cap) l.length (l.flatMap T.cells) ∧ Below w.heap.size w w' := by
  obtain ⟨i0, hi0, hz0, hz1, hz2⟩ := info_parts info_value
  have I0 := Lib.hid (And.intro hi0 (And.intro hz0 (And.intro hz1 hz2)))
  have HA := Lib.hid ha
  have kc := fun w => sclone_nil w (some ⟨b, o, none⟩) l.length ca
  simp only [Option.isNone_some] at kc
  clear hi0 hz0 hz1 hz2 ha
  go_enter Tryd.func75, Tryd.ntmps75
  go_wp2_with (at_builtin; go_loud (refine wpList_append_lies _ rfl (.tmp 5) (.tmp 6) 28 rfl w.heap.size 31 i0 _ 5 80 Tryd.underlying28 I0.out.1 I0.out.2.1 I0.out.2.2.1 I0.out.2.2.2 rfl (by decide) (.slice (some ⟨w.heap.size, 0, none⟩) 0 0) 0 [] rfl (own_start #[] (Nat.le_refl _) (by decide) rfl) ⟨b, o, none⟩ l.length ca (l.flatMap T.cells) rfl (flat_len l) (inL_flat (HA.out.then_ (below1 _ _))) (cells_one l) h0 (by unfold maxLen; omega) (by omega) (by simp) _ rfl ?_; intro g cap w3 hown3 hgrow3 hg3 hlt3))
  go_ret
  rw [List.nil_append, Nat.zero_add] at hown3
  refine ⟨g, cap, rfl, hown3, ?_⟩
  exact (below1 w _).grown hgrow3 (by simp) (fun k e => by simp [Value.ownBlock] at e; omega)
theorem sclonef_nil (w : World) (a : Option Addr) (n c : Nat) : (binOp BinOp.eql 29 (.slice a n c) (.slice none 0 0)).run Tryd.prog w = .ok (.bool a.isNone) w := by
  have h := run_equal_slice_nil (P := Tryd.prog) w 29 52 a n c Tryd.underlying29
  simp [binOp, go_sem, h]
set_option maxHeartbeats 1000000 in
theorem sclonef_any (b o ca : Nat) (l : List (ByteArray × T)) (w : World) (ha : InD w (some ⟨b, o, none⟩) l) (h0 : 0 < l.length) (hl : l.length * 96 ≤ 140737488355328) :
    Calls Tryd.prog 74 #[.slice (some ⟨b, o, none⟩) l.length ca] w fun e w' => ∃ g cap, e = .returned (.slice (some ⟨g, 0, none⟩) l.length cap) ∧ w'.ownsRow w.heap.size 52 6 (.slice (some ⟨g, 0, none⟩) l.length cap) l.length (l.flatMap fcells) ∧ Below w.heap.size w w' := by
  obtain ⟨i0, hi0, hz0, hz1, hz2⟩ := info_parts info_field
  have I0 := Lib.hid (And.intro hi0 (And.intro hz0 (And.intro hz1 hz2)))
  have HA := Lib.hid ha
  have kc := fun w => sclonef_nil w (some ⟨b, o, none⟩) l.length ca
  simp only [Option.isNone_some] at kc
  clear hi0 hz0 hz1 hz2 ha
  go_enter Tryd.func74, Tryd.ntmps74
  go_wp2_with (at_builtin; go_loud (refine wpList_append_lies _ rfl (.tmp 5) (.tmp 6) 29 rfl w.heap.size 52 i0 _ 6 96 Tryd.underlying29 I0.out.1 I0.out.2.1 I0.out.2.2.1 I0.out.2.2.2 rfl (by decide) (.slice (some ⟨w.heap.size, 0, none⟩) 0 0) 0 [] rfl (own_start #[] (Nat.le_refl _) (by decide) rfl) ⟨b, o, none⟩ l.length ca (l.flatMap fcells) rfl (flat_lenD l) (inD_flat (HA.out.then_ (below1 _ _))) (fcells_one l) h0 (by unfold maxLen; omega) (by omega) (by simp) _ rfl ?_; intro g cap w3 hown3 hgrow3 hg3 hlt3))
  go_ret
  rw [List.nil_append, Nat.zero_add] at hown3
  refine ⟨g, cap, rfl, hown3, ?_⟩
  exact (below1 w _).grown hgrow3 (by simp) (fun k e => by simp [Value.ownBlock] at e; omega)
end Go.Proofs.YtkklnfihjikilaaDoor
