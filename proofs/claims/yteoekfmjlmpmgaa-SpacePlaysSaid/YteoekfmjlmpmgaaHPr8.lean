/- The program's space: rows cloned; Turn. No statement is proved here. -/
import Derived.Test.YteoekfmjlmpmgaaHPr7
namespace Go.Proofs.Yteoekfmjlmpmgaa
open Go.RowKit
set_option maxRecDepth 100000

theorem nilZ (w : World) (a : Option Addr) (n c : Nat) : (binOp BinOp.eql 54 (.slice a n c) (.slice none 0 0)).run Try.prog w = .ok (.bool a.isNone) w := by
  have h := run_equal_slice_nil (P := Try.prog) w 54 60 a n c Try.underlying54
  simp [binOp, go_sem, h]
theorem nilI (w : World) (a : Option Addr) (n c : Nat) : (binOp BinOp.eql 22 (.slice a n c) (.slice none 0 0)).run Try.prog w = .ok (.bool a.isNone) w := by
  have h := run_equal_slice_nil (P := Try.prog) w 22 3 a n c Try.underlying22
  simp [binOp, go_sem, h]
set_option maxHeartbeats 4000000 in
theorem cloneZ_any (B g n c : Nat) (L : List Int) (w : World) (h : OwnZ w B (.slice (some ⟨g, 0, none⟩) n c) L) (hn : L.length = n) (h1 : 1 ≤ n) (hl : n ≤ 65536) :
    Calls Try.prog 25 #[.slice (some ⟨g, 0, none⟩) n c] w fun e w' => ∃ g2 c2, e = .returned (.slice (some ⟨g2, 0, none⟩) n c2) ∧ OwnZ w' w.heap.size (.slice (some ⟨g2, 0, none⟩) n c2) L ∧ Below w.heap.size w w' := by
  have kc := fun w => nilZ w (some ⟨g, 0, none⟩) n c
  simp only [Option.isNone_some] at kc
  have hin := h.inZ.then_ (below1 w (.cells #[] 60))
  have H := Lib.hid (And.intro hin (And.intro (OwnZ.lit w [] (by decide)) hn))
  clear hin h hn
  go_enter Try.func25, Try.ntmps25
  go_wp2_with (first
    | (at_builtin; go_loud (refine apZR rfl (.tmp 5) (.tmp 6) rfl w.heap.size _ _ rfl H.out.2.1 _ _ _ L rfl H.out.2.2 H.out.1 (fun e => by cases e) (by show 0 + n ≤ _; omega) (below1 _ _).size ?_); intro v' w2 hg; have G := Lib.hid (hg.pre (below1 w _)); obtain ⟨g2, c2, e, hc2⟩ := (show OwnZ w2 w.heap.size v' L from hg.own).form (by rw [H.out.2.2]; exact h1); rw [H.out.2.2] at e; subst e; clear hg))
  go_ret
  have hg := G.out
  rw [List.nil_append] at hg
  have hlt := hg.own.block g2 rfl
  refine ⟨g2, c2, rfl, hg.own, ⟨hg.grow.os, hg.grow.tape, hg.grow.output, hg.grow.size, fun k hk => hg.grow.block k hk (by intro e; have e : k = w.heap.size := Option.some.inj e; omega)⟩⟩
set_option maxHeartbeats 4000000 in
theorem cloneI_any (B : Nat) (v : Value) (l : List Int) (w : World) (h : OwnI w B v l) (hl : l.length ≤ 65536) :
    Calls Try.prog 27 #[v] w fun e w' => ∃ v', e = .returned v' ∧ OwnI w' w.heap.size v' l ∧ Below w.heap.size w w' := by
  obtain ⟨a, c, e, hin0, h0, hle, hcm⟩ := h.shape
  subst e
  cases a with
  | none =>
    obtain ⟨rfl, rfl⟩ := h0 rfl
    clear h hin0 h0
    have e0 : ([] : List Int).length = 0 := rfl
    rw [e0]
    have kc := fun w => nilI w none 0 0
    simp only [Option.isNone_none] at kc
    go_enter Try.func27, Try.ntmps27
    go_wp2_with fail
    go_ret
    exact ⟨_, rfl, OwnI.nil _ _, Below.refl _ _⟩
  | some ad =>
    have hin := hin0.then_ (below1 w (.cells #[] 3))
    have H := Lib.hid (And.intro hin (OwnI.lit w [] (by decide)))
    generalize hn : l.length = n at *
    have kc := fun w => nilI w (some ad) n c
    simp only [Option.isNone_some] at kc
    clear hin h hin0 h0
    go_enter Try.func27, Try.ntmps27
    go_wp2_with (first
      | (at_builtin; go_loud (refine apIR rfl (.tmp 5) (.tmp 6) rfl w.heap.size _ _ rfl H.out.2 _ _ _ l rfl hn H.out.1 (fun e => by cases e) (by show 0 + n ≤ _; omega) (below1 _ _).size ?_); intro v' w2 hg; have G := Lib.hid (hg.pre (below1 w _)); clear hg))
    go_ret
    have hg := G.out
    rw [List.nil_append] at hg
    refine ⟨v', rfl, hg.own, ⟨hg.grow.os, hg.grow.tape, hg.grow.output, hg.grow.size, fun k hk => hg.grow.block k hk (by intro e; have e : k = w.heap.size := Option.some.inj e; omega)⟩⟩
set_option maxHeartbeats 4000000 in
theorem hclone_any (B a : Nat) (vs vf vw : Value) (H : List Int) (w : World) (h : HeapAt w B a vs vf vw H) (hl : H.length ≤ 65536) :
    Calls Try.prog 26 #[.pointer (some ⟨a, 1, none⟩)] w fun e w' => ∃ v', e = .returned (.agg #[v']) ∧ OwnI w' w.heap.size v' H ∧ Below w.heap.size w w' := by
  have c1 : w.cell? ⟨a, 1, none⟩ = some vf := row_cells h.box 1
  have cw : ∀ o, (w.alloc o).cell? ⟨a, 1, none⟩ = some vf := fun o => row_cells (row_then h.box (below1 w o)) 1
  have HH := Lib.hid h
  go_enter Try.func26, Try.ntmps26
  go_wp2_with fail
  refine (cloneI_any B vf H _ (h.own.alloc _) hl).mono ?_
  rintro e w1 ⟨v', rfl, o1, b1⟩
  have hb := heap_alloc_new w (.cells #[.slice none 0 0] 56)
  have hb1 := row_then hb b1
  have f1 := box_frozen hb1 0
  have c2 := row_cells hb1 0
  have HR := Lib.hid (And.intro o1 (And.intro b1 hb1))
  obtain ⟨a', c', e, -⟩ := o1.shape
  subst e
  clear o1 b1 hb hb1
  go_wp2_with fail
  have hv := set_heap (i := 0) HR.out.2.2 (.slice a' H.length c')
  have q : ((w1.setCell ⟨w.heap.size, 0, none⟩ (.slice a' H.length c'))).cell? ⟨w.heap.size, 0, none⟩ = some (.slice a' H.length c') := row_cells hv 0
  have hsz : w.heap.size ≤ (w.alloc (.cells #[.slice none 0 0] 56)).heap.size := (below1 w _).size
  have HE : Hid (OwnI (w1.setCell ⟨w.heap.size, 0, none⟩ (.slice a' H.length c')) w.heap.size (.slice a' H.length c') H ∧ Below w.heap.size w (w1.setCell ⟨w.heap.size, 0, none⟩ (.slice a' H.length c'))) := Lib.hid ⟨(HR.out.1.keep fun b hb => set_off w1 _ (fun e => by have := (HR.out.1.block b hb).1; simp at this; omega)).base hsz, ((Only.of_below (S := []) (below_then (below1 w _) HR.out.2.1)).mono (S' := []) (fun k hk => .inl hk) |>.then_ ((Only.refl [w.heap.size] w1).setCell (p := ⟨w.heap.size, 0, none⟩) (.inl (List.mem_singleton.2 rfl)) _) (fun x hx => .inr (by rw [List.mem_singleton.1 hx]; exact Nat.le_refl _))).below⟩
  clear c2 f1 hv c1 cw hl h
  simp [bodyPost, results, Try.results26, go_sem, q]
  exact HE.out
end Go.Proofs.Yteoekfmjlmpmgaa
