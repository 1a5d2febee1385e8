/- The calls of the law's own: documents, numbers, texts. No statement is proved here. -/
import Derived.Test.YtcpbdmgkeljkgaaGreatDoorJ2
import Derived.Test.YtcpbdmgkeljkgaaGreatDoorEWo
namespace Go.Proofs.YtcpbdmgkeljkgaaGreatDoor
open Go.RowKit
set_option maxRecDepth 100000

theorem lint_any (n : Int) (w : World) : Calls Tryz.prog 9 #[.int .i64 n] w fun e w' => e = .returned (scal 3 n) ∧ Below w.heap.size w w' := by
  go_enter Tryz.func9, Tryz.ntmps9
  go_wp2_with fail
  refine bodyPost_ret (v := scal 3 n) (by simp [scal, results, Tryz.results9, go_sem]) rfl ⟨rfl, below1 _ _⟩
theorem ltext_any (s : ByteArray) (w : World) : Calls Tryz.prog 12 #[.string s] w fun e w' => e = .returned (txtT s).arg ∧ Below w.heap.size w w' := by
  rw [txtT_arg]
  go_enter Tryz.func12, Tryz.ntmps12
  go_wp2_with fail
  refine bodyPost_ret (v := .agg #[.int .i64 4, .int .i64 0, .string s, .slice none 0 0, .slice none 0 0]) (by simp [results, Tryz.results12, go_sem]) rfl ⟨rfl, below1 _ _⟩
theorem ldoc_any (s : ByteArray) (k n : Int) (sx : ByteArray) (la : Option Addr) (ln lc : Nat) (da : Option Addr) (dn dc : Nat) (w : World) : Calls Tryz.prog 11 #[.string s, .agg #[.int .i64 k, .int .i64 n, .string sx, .slice la ln lc, .slice da dn dc]] w fun e w' =>
    ∃ g, e = .returned (.agg #[.int .i64 5, .int .i64 0, .string ⟨#[]⟩, .slice none 0 0, .slice (some ⟨g, 0, none⟩) 1 1]) ∧ w.heap.size ≤ g ∧ w'.heap[g]? = some (.cells #[.string s, .int .i64 k, .int .i64 n, .string sx, .slice la ln lc, .slice da dn dc] 44 (0, 0)) ∧ Below w.heap.size w w' := by
  go_enter Tryz.func11, Tryz.ntmps11
  go_wp2_with fail
  refine bodyPost_ret (v := .agg #[.int .i64 5, .int .i64 0, .string ⟨#[]⟩, .slice none 0 0, .slice (some ⟨w.heap.size + 1 + 1, 0, none⟩) 1 1]) (by simp [results, Tryz.results11, go_sem]) rfl ⟨_, rfl, by omega, ?_, below3 _ _ _ _⟩
  exact heap_alloc_at _ _ _ (by simp)
/-- A call that was made of values. -/
def CallV (name : ByteArray) (la : Option Addr) (lc : Nat) (l : List T) (w : World) (e : Ending) (w' : World) : Prop :=
  Below w.heap.size w w' ∧ ∃ g, w.heap.size ≤ g ∧ e = .returned (callT name (some ⟨g, 0, none⟩) 1 la lc l).arg ∧ (callT name (some ⟨g, 0, none⟩) 1 la lc l).In w'
theorem callT_in {name : ByteArray} {g : Nat} {dc : Nat} {la : Option Addr} {lc : Nat} {l : List T} {w : World} (h : w.heap[g]? = some (.cells #[.string name, .int .i64 6, .int .i64 0, .string ⟨#[]⟩, .slice la l.length lc, .slice none 0 0] 44 (0, 0))) (hl : InL w la l) : (callT name (some ⟨g, 0, none⟩) dc la lc l).In w := by
  refine T.In.of_parts (by intro p hp; simp [T.placesL] at hp) ?_
  intro p hp
  obtain ⟨i, x, hx, hp⟩ := (T.mem_placesD _ _ _ _).1 hp
  have hi : i = 0 := by have := lt_of_get hx; simp at this; exact this
  subst hi
  simp at hx
  subst hx
  rcases hp with hp | hp
  · obtain ⟨j, c, hc, rfl⟩ := mem_laid.1 hp
    have := cell_of_row w g (0 * 6 + j) _ _ _ h
    simp only [at_, Nat.zero_add, Nat.zero_mul] at this ⊢
    rw [this, ← hc]
    simp [fcells, T.cells]
  · refine (T.In.of_parts (k := 6) (n := 0) (s := ⟨#[]⟩) (la := la) (lc := lc) (l := l) (da := none) (dc := 0) (d := []) hl (by intro p hp; simp [T.placesD] at hp)) p hp
set_option maxHeartbeats 2000000 in
theorem lcall_any (name : ByteArray) (la : Option Addr) (lc : Nat) (l : List T) (w : World) (hin : InL w la l) : Calls Tryz.prog 8 #[.string name, .slice la l.length lc] w (CallV name la lc l w) := by
  have HD := Lib.hid (fun w => ldoc_any name 6 0 ⟨#[]⟩ la l.length lc none 0 0 w)
  have HI := Lib.hid hin
  have HB := Lib.hid (And.intro (heap_alloc_new w (box 0 0)) (below1 w (box 0 0)))
  unfold box at HB
  clear hin
  go_enter Tryz.func8, Tryz.ntmps8
  go_wp2_with fail
  refine (HD.out _).mono ?_
  rintro e w1 ⟨g, rfl, hg, hrow, b1⟩
  have X := row_then HB.out.1 b1
  have cX := row_cells X
  have fX := rowf X
  have HX := Lib.hid (And.intro X (And.intro hg (And.intro hrow (below_then HB.out.2 b1))))
  clear X hg hrow b1
  go_wp2_with fail
  generalize hV : World.setCell _ _ _ = V'
  obtain ⟨t1, t2⟩ := put5V HX.out.1 hV
  have q := row_cells t2
  have hg := HX.out.2.1
  rw [World.size_alloc] at hg
  have hbel : Below w.heap.size w V' := ((Only.of_below (S := []) HX.out.2.2.2).then_ t1 (fun i hi => .inr (by simp at hi; omega))).below
  have hrow : V'.heap[g]? = _ := (t1.block g (lt_of_block HX.out.2.2.1) (by simp; omega)).trans HX.out.2.2.1
  have HRR := Lib.hid (show CallV name la lc l w (.returned (callT name (some ⟨g, 0, none⟩) 1 la lc l).arg) V' from ⟨hbel, g, by omega, rfl, callT_in hrow (HI.out.then_ hbel)⟩)
  rw [show (callT name (some ⟨g, 0, none⟩) 1 la lc l).arg = .agg #[.int .i64 5, .int .i64 0, .string ⟨#[]⟩, .slice none 0 0, .slice (some ⟨g, 0, none⟩) 1 1] from rfl] at HRR
  clear hV t1 t2 cX fX hbel hrow
  simp [bodyPost, results, Tryz.results8, go_sem, q]
  exact HRR.out
/-- What is worked out to a scalar. -/
def flatT (k n : Int) (s : ByteArray) : T := .mk k n s none 0 [] none 0 []
/-- A tidy call, out of what it reads as. -/
theorem callT_inv {t : T} {name : ByteArray} {da : Option Addr} {dc : Nat} {la : Option Addr} {lc : Nat} {l : List T} (hv : t.val = (callT name da dc la lc l).val) (htd : t.tidy) (ok : t.ok) : ∃ da' dc' la' lc' l', t = callT name da' dc' la' lc' l' ∧ l'.map T.val = l.map T.val ∧ (∀ x ∈ l', x.tidy) ∧ ∀ x ∈ l', x.ok := by
  obtain ⟨k, n, s, la1, lc1, l1, da1, dc1, d1⟩ := t
  unfold callT at hv
  rw [T.val_mk, T.val_mk] at hv
  injection hv with e1 e2 e3 e4 e5
  subst e1 e2 e3
  have l0 : l1 = [] := by simpa using e4
  subst l0
  obtain ⟨h1, -, -, h2⟩ := T.tidy_mk.1 htd
  obtain ⟨rfl, rfl⟩ := h1 rfl
  obtain ⟨-, -, -, -, -, -, -, -, -, -, okd⟩ := ok.parts
  obtain ⟨f1, rfl⟩ : ∃ f1, d1 = [f1] := List.length_eq_one_iff.1 (by simpa using congrArg List.length e5)
  obtain ⟨s1, k2, n2, s2, la2, lc2, l2, da2, dc2, d2⟩ := f1
  simp only [List.map_cons, List.map_nil, T.val_mk] at e5
  injection e5 with e5 _
  injection e5 with e6 e7
  injection e7 with a1 a2 a3 a4 a5
  subst e6 a1 a2 a3
  have d0 : d2 = [] := by simpa using a5
  subst d0
  have h3 := h2 _ (List.mem_singleton.2 rfl)
  obtain ⟨-, h4, h5, -⟩ := T.tidy_mk.1 h3
  obtain ⟨rfl, rfl⟩ := h5 rfl
  have o1 := (okd _ (List.mem_singleton.2 rfl)).2
  obtain ⟨-, -, -, -, -, -, -, -, -, okl, -⟩ := o1.parts
  exact ⟨da1, dc1, la2, lc2, l2, rfl, a4, h4, okl⟩
theorem callT_ok {name : ByteArray} {g : Nat} {la : Option Addr} {lc : Nat} {l : List T} (hn : okLen name.size) (hl : ∀ x ∈ l, x.ok) (h1 : l.length ≤ lc ∧ lc ≤ 1000) (h2 : la = none → lc = 0) : (callT name (some ⟨g, 0, none⟩) 1 la lc l).ok := by
  have h0 : (ByteArray.mk #[]).size = 0 := rfl
  simp only [callT, T.ok, T.okL, T.okD, T.okL_iff, okInt, okLen, okFar, h0, List.length_nil, List.length_cons] at hn ⊢
  refine ⟨by omega, by omega, by omega, by omega, by omega, by simp, by omega, by omega, by simp, trivial, hn, ⟨by omega, by omega, by omega, by omega, by omega, h2, by omega, by omega, by simp, hl, trivial⟩, trivial⟩
end Go.Proofs.YtcpbdmgkeljkgaaGreatDoor
