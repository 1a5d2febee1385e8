/- The contracts of keyenc's readField and readValue: no statement is proved here. -/
import Derived.Test.YtdlgngnibbaamaaDoorKRParts
import Derived.Test.YtdlgngnibbaamaaDoorKeyOrd
namespace Go.Proofs.YtdlgngnibbaamaaDoor
open Go.RowKit
set_option maxRecDepth 100000

theorem bsI_inj {s t : ByteArray} (h : bsI s = bsI t) : s = t := by
  apply bytes_eq
  rw [Lib.toList_data, Lib.toList_data]
  unfold bsI at h
  have hi : Function.Injective fun b : UInt8 => (b.toNat : Int) := fun a b hab => by
    have : a.toNat = b.toNat := Int.ofNat.inj hab
    exact UInt8.toNat_inj.1 this
  exact List.map_inj_right hi |>.1 h
theorem be8_inj {n m : Int} (hn : okInt n) (hm : okInt m) (h : beB 8 (n + 9223372036854775808) = beB 8 (m + 9223372036854775808)) : n = m := by
  rcases says_int hn hm with ⟨h1, -⟩ | ⟨-, h2⟩ | ⟨-, h2⟩
  · unfold cmpI at h1
    split at h1
    · cases h1
    · split at h1
      · cases h1
      · omega
  · exact absurd h.symm (by simpa using h2.not_prefix [])
  · exact absurd h (by simpa using h2.not_prefix [])
/-- What a right value's kind leaves out. -/
theorem alone_parts {k n : Int} {s : ByteArray} {l : List V} {d : List (ByteArray × V)} (h : aloneV (.mk k n s l d) = true) : (k ≠ 3 → k ≠ 9 → k ≠ 10 → n = 0) ∧ (k ≠ 4 → k ≠ 7 → k ≠ 8 → s = ⟨#[]⟩) ∧ (k ≠ 6 → l = []) ∧ (k ≠ 5 → d = []) := by
  simp [aloneV] at h
  obtain ⟨h1, h2, h3, h4⟩ := h
  refine ⟨fun a b c => ?_, fun a b c => ?_, fun a => ?_, fun a => ?_⟩
  · rcases h1 with h1 | h1
    · omega
    · exact h1
  · rcases h2 with h2 | h2
    · omega
    · apply bytes_eq; rw [h2, Lib.toList_data]
  · rcases h3 with h3 | h3
    · omega
    · exact h3
  · rcases h4 with h4 | h4
    · omega
    · exact h4
/-- What a right value's first byte says. -/
theorem key_head {v : V} {x : Int} {R1 Q : List Int} (hs : v.shape = true) (h : x :: R1 = keyV v ++ Q) : ∃ k n s l d, v = .mk k n s l d ∧ k = x ∧ 1 ≤ k ∧ k ≤ 11 ∧ aloneV (.mk k n s l d) = true ∧ fitsV (.mk k n s l d) = true ∧
    R1 = (if k = 3 ∨ k = 10 then beB 8 (n + 9223372036854775808) else if k = 9 then [n % 256] else if k = 4 ∨ k = 7 then keyT (bsI s) else if k = 8 then bsI s else if k = 6 then keyL l else if k = 5 then keyD d else []) ++ Q := by
  obtain ⟨k, n, s, l, d⟩ := v
  obtain ⟨⟨ha, hf⟩, -, -⟩ := (V.shape_mk ..).1 hs
  obtain ⟨k1, k2, -, -⟩ := fits_cases hf
  rw [keyV, List.cons_append] at h
  injection h with h1 h2
  exact ⟨k, n, s, l, d, rfl, by omega, k1, k2, ha, hf, h2⟩
theorem not_key_nil {v : V} {Q : List Int} : [] ≠ keyV v ++ Q := by cases v; rw [keyV]; simp

theorem putfive {w : World} {g : Nat} {t : TypeId} {a0 a1 a2 a3 a4 : Value} (h : w.heap[g]? = some (.cells #[a0, a1, a2, a3, a4] t (0, 0))) (b0 b1 b2 b3 b4 : Value) :
    (((((w.setCell ⟨g, 0, none⟩ b0).setCell ⟨g, 1, none⟩ b1).setCell ⟨g, 2, none⟩ b2).setCell ⟨g, 3, none⟩ b3).setCell ⟨g, 4, none⟩ b4).heap[g]? = some (.cells #[b0, b1, b2, b3, b4] t (0, 0)) := by
  have h0 := heap_setCell_same _ g 0 _ _ b0 h
  have h1 := heap_setCell_same _ g 1 _ _ b1 h0
  have h2 := heap_setCell_same _ g 2 _ _ b2 h1
  have h3 := heap_setCell_same _ g 3 _ _ b3 h2
  have h4 := heap_setCell_same _ g 4 _ _ b4 h3
  simpa using h4
theorem putsix {w : World} {g : Nat} {t : TypeId} {a0 a1 a2 a3 a4 a5 : Value} (h : w.heap[g]? = some (.cells #[a0, a1, a2, a3, a4, a5] t (0, 0))) (b0 b1 b2 b3 b4 b5 : Value) :
    ((((((w.setCell ⟨g, 0, none⟩ b0).setCell ⟨g, 1, none⟩ b1).setCell ⟨g, 2, none⟩ b2).setCell ⟨g, 3, none⟩ b3).setCell ⟨g, 4, none⟩ b4).setCell ⟨g, 5, none⟩ b5).heap[g]? = some (.cells #[b0, b1, b2, b3, b4, b5] t (0, 0)) := by
  have h0 := heap_setCell_same _ g 0 _ _ b0 h
  have h1 := heap_setCell_same _ g 1 _ _ b1 h0
  have h2 := heap_setCell_same _ g 2 _ _ b2 h1
  have h3 := heap_setCell_same _ g 3 _ _ b3 h2
  have h4 := heap_setCell_same _ g 4 _ _ b4 h3
  have h5 := heap_setCell_same _ g 5 _ _ b5 h4
  simpa using h5
theorem only_put5 (w : World) (g : Nat) (b0 b1 b2 b3 b4 : Value) : Only [g] w (((((w.setCell ⟨g, 0, none⟩ b0).setCell ⟨g, 1, none⟩ b1).setCell ⟨g, 2, none⟩ b2).setCell ⟨g, 3, none⟩ b3).setCell ⟨g, 4, none⟩ b4) :=
  (((((Only.refl [g] w).setCell (.inl (by simp)) _).setCell (.inl (by simp)) _).setCell (.inl (by simp)) _).setCell (.inl (by simp)) _).setCell (.inl (by simp)) _
theorem only_put6 (w : World) (g : Nat) (b0 b1 b2 b3 b4 b5 : Value) : Only [g] w ((((((w.setCell ⟨g, 0, none⟩ b0).setCell ⟨g, 1, none⟩ b1).setCell ⟨g, 2, none⟩ b2).setCell ⟨g, 3, none⟩ b3).setCell ⟨g, 4, none⟩ b4).setCell ⟨g, 5, none⟩ b5) :=
  (only_put5 w g b0 b1 b2 b3 b4).setCell (.inl (by simp)) _
def zeroO : T := .mk 0 0 ⟨#[]⟩ none 0 [] none 0 []
theorem zeroO_own (w : World) (B : Nat) : zeroO.Own w B := by
  refine ⟨by simp [zeroO, T.ok, T.okL, T.okD, okInt, okLen, okFar, ByteArray.size], fun r hr => ?_, by simp [zeroO, T.rows, T.rowsL, T.rowsD, blocksOf, Value.ownBlock]⟩
  simp [zeroO, T.rows, T.rowsL, T.rowsD] at hr
  rcases hr with rfl | rfl <;> exact World.ownsRow_nil _ _ _ _
/-- A value without parts. -/
theorem plain_own {k n : Int} {s : ByteArray} (w : World) (B : Nat) (hk : okInt k) (hn : okInt n) (hs : okLen s.size) : (T.mk k n s none 0 [] none 0 []).Own w B := by
  refine ⟨by simp [T.ok, T.okL, T.okD, okLen, okFar, hk, hn]; exact hs, fun r hr => ?_, by simp [T.rows, T.rowsL, T.rowsD, blocksOf, Value.ownBlock]⟩
  simp [T.rows, T.rowsL, T.rowsD] at hr
  rcases hr with rfl | rfl <;> exact World.ownsRow_nil _ _ _ _

theorem field_rel {R R1 R2 : List Int} {f : ByteArray} {v : V} {ok : Bool} (h : TextRel R f true R1) (k : VRel R1 v ok R2) : FRel R f v ok R2 := by
  refine ⟨fun h1 h2 => by rw [h.1 rfl, k.1 h1 h2], fun f' v' Q s1 s2 e => ?_, Nat.le_trans k.2.2 h.2.2.1⟩
  obtain ⟨-, h2, h3⟩ := h.2.1 _ _ e
  obtain ⟨q1, q2, q3⟩ := k.2.1 v' Q s1 s2 h3
  exact ⟨q1, bsI_inj h2, q2, q3⟩
theorem field_fail {R R1 : List Int} {f : ByteArray} (h : TextRel R f false R1) : FRel R ⟨#[]⟩ zeroO.val false R1 := by
  refine ⟨fun h => (by cases h), fun f' v' Q s1 s2 e => ?_, h.2.2.1⟩
  have := (h.2.1 _ _ e).1
  cases this

set_option maxHeartbeats 4000000 in
theorem readField_any (R : List Int) (ih : ∀ R1 : List Int, R1.length ≤ R.length → VAt R1) : FAt R := by
  intro w B K h
  show Calls _ _ #[.func (.func 84) #[] #[.pointer (some ⟨B + 1, 0, none⟩), .pointer (some ⟨B, 0, none⟩), .pointer (some ⟨B + 2, 0, none⟩)]] _ _
  have hr : R.length ≤ 1000 := by obtain ⟨i, h, rfl⟩ := h; have := h.room; rw [List.length_drop, tf_len]; omega
  have HS := Lib.hid h
  have IH := Lib.hid ih
  have hz := h.size
  clear h ih
  go_enter Tryd.func115, Tryd.ntmps115
  go_wp2_with (first
    | (go_at_call 111; refine (readText_any _ B K R (HS.out.then_ (below1 _ _))).mono ?_; rintro e w1 ⟨f, ok, R1, rfl, hs1, ho1, ht⟩; have z1 := keep_row ho1 (heap_alloc_new w (.cells #[.string ⟨#[]⟩, .int .i64 0, .int .i64 0, .string ⟨#[]⟩, .slice none 0 0, .slice none 0 0] 62)) (by simp; omega); have c1 := row_cells z1; have f1 := (fun o => frozen_of_row _ _ o _ _ z1); have S1 := Lib.hid (And.intro hs1 (And.intro ho1 (And.intro ht z1))); clear hs1 ho1 ht z1; rcases ok with _ | _)
    | (go_at_call 85; refine (IH.out R1 S1.out.2.2.1.2.2.1 w1 B K S1.out.1).mono ?_; rintro e w2 ⟨⟨ky, ny, sy, lay, lcy, ly, day, dcy, dy⟩, ok, R2, rfl, hy, hs2, ho2, hv⟩; dsimp only [T.arg, T.cells]; have z2 := keep_row ho2 S1.out.2.2.2 (by simp; omega); have c2 := (fun X => row_cells (row_then z2 (below1 w2 X))); have f2 := (fun X o => frozen_of_row _ _ o _ _ (row_then z2 (below1 w2 X))); have S2 := Lib.hid (And.intro hs2 (And.intro ho2 (And.intro hy (And.intro hv z2)))); clear hs2 ho2 hy hv z2 c1 f1))
  · have hp := putsix S1.out.2.2.2 (.string ⟨#[]⟩) (.int .i64 0) (.int .i64 0) (.string ⟨#[]⟩) (.slice none 0 0) (.slice none 0 0)
    have cp := row_cells hp
    have op := only_put6 w1 w.heap.size (.string ⟨#[]⟩) (.int .i64 0) (.int .i64 0) (.string ⟨#[]⟩) (.slice none 0 0) (.slice none 0 0)
    have o1 : Only [B + 1] w w1 := (Only.of_below (below1 w _)).then_ S1.out.2.1 (by simp)
    refine bodyPost_ret (v := .tuple #[.agg #[.string ⟨#[]⟩, .int .i64 0, .int .i64 0, .string ⟨#[]⟩, .slice none 0 0, .slice none 0 0], .bool false]) (by simp [results, Tryd.results115, go_sem, cp]) rfl ⟨⟨#[]⟩, zeroO, false, R1, rfl, by simp [okLen, ByteArray.size], zeroO_own _ _, S1.out.1.only op (by simp; omega), o1.then_ op (by simp), field_fail S1.out.2.2.1⟩
  · have z3 := row_then S2.out.2.2.2.2 (below1 w2 (.cells #[.int .i64 ky, .int .i64 ny, .string sy, .slice lay ly.length lcy, .slice day dy.length dcy] 25))
    have hp := putsix z3 (.string f) (.int .i64 ky) (.int .i64 ny) (.string sy) (.slice lay ly.length lcy) (.slice day dy.length dcy)
    have cp := row_cells hp
    have op := only_put6 (w2.alloc (.cells #[.int .i64 ky, .int .i64 ny, .string sy, .slice lay ly.length lcy, .slice day dy.length dcy] 25)) w.heap.size (.string f) (.int .i64 ky) (.int .i64 ny) (.string sy) (.slice lay ly.length lcy) (.slice day dy.length dcy)
    have hz1 := S1.out.2.1.size
    simp only [World.size_alloc] at hz1
    have oB : Below w2.heap.size w2 (w2.alloc (.cells #[.int .i64 ky, .int .i64 ny, .string sy, .slice lay ly.length lcy, .slice day dy.length dcy] 25)) := below1 _ _
    have o1 : Only [B + 1] w w1 := (Only.of_below (below1 w _)).then_ S1.out.2.1 (by simp)
    have ht := S1.out.2.2.1
    refine bodyPost_ret (v := .tuple #[.agg #[.string f, .int .i64 ky, .int .i64 ny, .string sy, .slice lay ly.length lcy, .slice day dy.length dcy], .bool ok]) (by simp [results, Tryd.results115, go_sem, cp]) rfl ⟨f, .mk ky ny sy lay lcy ly day dcy dy, ok, R2, rfl, by unfold okLen; have := ht.2.2.2; omega, ?_, (S2.out.1.then_ oB).only op (by simp; omega), ((o1.trans S2.out.2.1).trans (Only.of_below oB)).then_ op (by simp), field_rel ht S2.out.2.2.2.1⟩
    exact (S2.out.2.2.1.keep (Only.of_below (S := []) oB) (by simp) (Nat.le_refl _)).keep op (by simp; omega) (by omega)
end Go.Proofs.YtdlgngnibbaamaaDoor
