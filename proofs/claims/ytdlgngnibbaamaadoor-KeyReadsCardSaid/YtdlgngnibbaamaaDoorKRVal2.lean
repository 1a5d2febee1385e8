/- The contract of keyenc's readValue: no statement is proved here. -/
import Derived.Test.YtdlgngnibbaamaaDoorKRVal
namespace Go.Proofs.YtdlgngnibbaamaaDoor
open Go.RowKit
set_option maxRecDepth 100000

theorem vrel_nil : VRel [] (.mk (-1) 0 ⟨#[]⟩ [] []) true [] :=
  ⟨fun _ h => (by obtain ⟨⟨-, hf⟩, -, -⟩ := (V.shape_mk ..).1 h; have := fits_cases hf; omega), fun v' Q _ _ e => absurd e not_key_nil, by simp⟩
theorem vrel_other {x : Int} {R1 : List Int} (hx : ¬ (x = 3 ∨ x = 10) ∧ x ≠ 9 ∧ ¬ (x = 4 ∨ x = 7) ∧ x ≠ 8 ∧ x ≠ 6 ∧ x ≠ 5) : VRel (x :: R1) (.mk x 0 ⟨#[]⟩ [] []) true R1 := by
  obtain ⟨h3, h9, h4, h8, h6, h5⟩ := hx
  refine ⟨fun _ h => ?_, fun v' Q s f e => ?_, by simp⟩
  · obtain ⟨⟨-, hf⟩, -, -⟩ := (V.shape_mk ..).1 h
    have := fits_cases hf
    rw [keyV, if_neg h3, if_neg h9, if_neg h4, if_neg h8, if_neg h6, if_neg h5]
    simp; omega
  · obtain ⟨k, n, t, l, d, rfl, rfl, -, -, ha, -, hr⟩ := key_head s e
    rw [if_neg h3, if_neg h9, if_neg h4, if_neg h8, if_neg h6, if_neg h5] at hr
    obtain ⟨a1, a2, a3, a4⟩ := alone_parts ha
    exact ⟨rfl, by rw [a1 (by omega) h9 (by omega), a2 (by omega) (by omega) h8, a3 h6, a4 h5], by simpa using hr⟩
theorem vrel_num {x n : Int} {R1 R' : List Int} {ok : Bool} (hx : x = 3 ∨ x = 10) (h : NumRelR R1 n ok R') : VRel (x :: R1) (.mk x n ⟨#[]⟩ [] []) ok R' := by
  refine ⟨fun h1 _ => ?_, fun v' Q s f e => ?_, by have := h.2.2; simp; omega⟩
  · rw [keyV, if_pos hx, (h.1 h1).2]; simp; omega
  · obtain ⟨k, m, t, l, d, rfl, rfl, -, -, ha, -, hr⟩ := key_head s e
    rw [if_pos hx] at hr
    obtain ⟨a1, a2, a3, a4⟩ := alone_parts ha
    obtain ⟨⟨-, fm⟩, -, -⟩ := (V.fit_mk ..).1 f
    cases ok with
    | false => have := (h.2.1 rfl).2; rw [hr, List.length_append, beB_len] at this; omega
    | true =>
      obtain ⟨hn, e2⟩ := h.1 rfl
      rw [e2] at hr
      obtain ⟨e3, e4⟩ := List.append_inj hr (by rw [beB_len, beB_len])
      exact ⟨rfl, by rw [be8_inj hn fm e3, a2 (by omega) (by omega) (by omega), a3 (by omega), a4 (by omega)], e4⟩
theorem vrel_bool {R1 : List Int} : VRel (9 :: R1) (.mk 9 (R1.headD (-1)) ⟨#[]⟩ [] []) true R1.tail := by
  refine ⟨fun _ h => ?_, fun v' Q s f e => ?_, by simp; omega⟩
  · obtain ⟨⟨-, hf⟩, -, -⟩ := (V.shape_mk ..).1 h
    have := (fits_cases hf).2.2.2 rfl
    cases R1 with
    | nil => simp at this
    | cons y r =>
      rw [keyV]
      simp at this ⊢
      omega
  · obtain ⟨k, m, t, l, d, rfl, rfl, -, -, ha, hf, hr⟩ := key_head s e
    simp at hr
    have hm := (fits_cases hf).2.2.2 rfl
    obtain ⟨a1, a2, a3, a4⟩ := alone_parts ha
    subst hr
    have h1 : m % 256 = m := by omega
    exact ⟨rfl, by rw [List.headD_cons, h1, a2 (by omega) (by omega) (by omega), a3 (by omega), a4 (by omega)], rfl⟩
theorem vrel_text {x : Int} {s : ByteArray} {R1 R' : List Int} {ok : Bool} (hx : x = 4 ∨ x = 7) (h : TextRel R1 s ok R') : VRel (x :: R1) (.mk x 0 s [] []) ok R' := by
  have h3 : ¬ (x = 3 ∨ x = 10) := by omega
  have h9 : x ≠ 9 := by omega
  refine ⟨fun h1 _ => ?_, fun v' Q sh f e => ?_, by have := h.2.2.1; simp; omega⟩
  · rw [keyV, if_neg h3, if_neg h9, if_pos hx, h.1 h1]; simp; omega
  · obtain ⟨k, m, t, l, d, rfl, rfl, -, -, ha, -, hr⟩ := key_head sh e
    rw [if_neg h3, if_neg h9, if_pos hx] at hr
    obtain ⟨a1, a2, a3, a4⟩ := alone_parts ha
    obtain ⟨q1, q2, q3⟩ := h.2.1 _ _ hr
    exact ⟨q1, by rw [bsI_inj q2, a1 (by omega) h9 (by omega), a3 (by omega), a4 (by omega)], q3⟩
theorem vrel_id {s : ByteArray} {R1 R' : List Int} {ok : Bool} (h : IdRel R1 s ok R') : VRel (8 :: R1) (.mk 8 0 s [] []) ok R' := by
  refine ⟨fun h1 _ => ?_, fun v' Q sh f e => ?_, by have := h.2.2; simp; omega⟩
  · rw [keyV]; simp; exact (h.1 h1).2
  · obtain ⟨k, m, t, l, d, rfl, rfl, -, -, ha, hf, hr⟩ := key_head sh e
    simp at hr
    have ht := (fits_cases hf).2.2.1 rfl
    obtain ⟨a1, a2, a3, a4⟩ := alone_parts ha
    cases ok with
    | false => have := (h.2.1 rfl).2; rw [hr, List.length_append, bsI_len, ht] at this; omega
    | true =>
      obtain ⟨hs, e2⟩ := h.1 rfl
      rw [e2] at hr
      obtain ⟨e3, e4⟩ := List.append_inj hr (by rw [bsI_len, bsI_len, hs, ht])
      exact ⟨rfl, by rw [bsI_inj e3, a1 (by omega) (by omega) (by omega), a3 (by omega), a4 (by omega)], e4⟩
theorem vrel_list {l : List V} {R1 R' : List Int} {ok : Bool} (h : PRel R1 l ok R') : VRel (6 :: R1) (.mk 6 0 ⟨#[]⟩ l []) ok R' := by
  refine ⟨fun h1 sh => ?_, fun v' Q sh f e => ?_, by have := h.2.2; simp; omega⟩
  · rw [keyV]; simp; exact h.1 h1 ((V.shape_mk ..).1 sh).2.1
  · obtain ⟨k, m, t, l', d, rfl, rfl, -, -, ha, hf, hr⟩ := key_head sh e
    simp at hr
    obtain ⟨a1, a2, a3, a4⟩ := alone_parts ha
    obtain ⟨q1, q2, q3⟩ := h.2.1 l' Q (fun x hx => ⟨((V.shape_mk ..).1 sh).2.1 x hx, ((V.fit_mk ..).1 f).2.1 x hx⟩) hr
    exact ⟨q1, by rw [q2, a1 (by omega) (by omega) (by omega), a2 (by omega) (by omega) (by omega), a4 (by omega)], q3⟩
theorem vrel_doc {d : List (ByteArray × V)} {R1 R' : List Int} {ok : Bool} (h : DRel R1 d ok R') : VRel (5 :: R1) (.mk 5 0 ⟨#[]⟩ [] d) ok R' := by
  refine ⟨fun h1 sh => ?_, fun v' Q sh f e => ?_, by have := h.2.2; simp; omega⟩
  · rw [keyV]; simp; exact h.1 h1 ((V.shape_mk ..).1 sh).2.2
  · obtain ⟨k, m, t, l', d', rfl, rfl, -, -, ha, hf, hr⟩ := key_head sh e
    simp at hr
    obtain ⟨a1, a2, a3, a4⟩ := alone_parts ha
    obtain ⟨q1, q2, q3⟩ := h.2.1 d' Q (fun x hx => ⟨((V.shape_mk ..).1 sh).2.2 x hx, ((V.fit_mk ..).1 f).2.2 x hx⟩) hr
    exact ⟨q1, by rw [q2, a1 (by omega) (by omega) (by omega), a2 (by omega) (by omega) (by omega), a3 (by omega)], q3⟩

theorem vrel_bool' {R1 R' : List Int} {n : Int} (hn : R1.headD (-1) = n) (hr : R1.tail = R') : VRel (9 :: R1) (.mk 9 n ⟨#[]⟩ [] []) true R' := by subst hn hr; exact vrel_bool
theorem next_eq (w : World) (B : Nat) (K : Ctx) (R R' : List Int) (n : Int) (h : Src w B K R) (hn : R.headD (-1) = n) (hr : R.tail = R') :
    Calls Tryd.prog 84 #[.pointer (some ⟨B + 1, 0, none⟩), .pointer (some ⟨B, 0, none⟩), .pointer (some ⟨B + 2, 0, none⟩)] w fun e w' => e = .returned (.int .i64 n) ∧ Src w' B K R' ∧ Only [B + 1] w w' := by subst hn hr; exact next_any w B K R h
/-- What is at hand when the value's kind is read. -/
structure ValAt (w w1 : World) (B : Nat) (K : Ctx) (R1 : List Int) : Prop where
  src : Src w1 B K R1
  only : Only [B + 1] w w1
  zero : w1.heap[w.heap.size]? = some (.cells #[.int .i64 0, .int .i64 0, .string ⟨#[]⟩, .slice none 0 0, .slice none 0 0] 25 (0, 0))
  size : B + 3 ≤ w.heap.size
theorem ValAt.lt {w w1 : World} {B : Nat} {K : Ctx} {R1 : List Int} (h : ValAt w w1 B K R1) : w.heap.size < w1.heap.size := lt_of_block h.zero
/-- The end: the value's box was written, and the result's. -/
theorem ValAt.done {w w1 w2 W : World} {B b1 : Nat} {K : Ctx} {R R1 R' : List Int} {t : T} {ok : Bool} (h : ValAt w w1 B K R1) (hb : w1.heap.size = b1) (ho : Only [B + 1] w1 w2) (hs : Src w2 B K R') (hown : t.Own w2 (b1 + 1)) (hW : Only [w.heap.size, b1] w2 W) (hv : VRel R t.val ok R') :
    t.Own W w.heap.size ∧ Src W B K R' ∧ Only [B + 1] w W ∧ VRel R t.val ok R' := by
  have h1 := h.lt
  have h2 := h.size
  refine ⟨hown.keep hW (by simp; omega) (by omega), hs.only hW (by simp; omega), (h.only.trans ho).then_ hW ?_, hv⟩
  intro i hi
  simp at hi
  exact .inr (by omega)

set_option maxHeartbeats 4000000 in
theorem rv_other (x : Int) (R1 : List Int) (hx : ¬ (x = 3 ∨ x = 10) ∧ x ≠ 9 ∧ ¬ (x = 4 ∨ x = 7) ∧ x ≠ 8 ∧ x ≠ 6 ∧ x ≠ 5) : VAt (x :: R1) := by
  intro w B K h
  show Calls _ _ #[.func (.func 84) #[] #[.pointer (some ⟨B + 1, 0, none⟩), .pointer (some ⟨B, 0, none⟩), .pointer (some ⟨B + 2, 0, none⟩)]] _ _
  obtain ⟨x0, x1⟩ := h.isB x (by simp)
  have hz := h.size
  have HS := Lib.hid h
  have HX := Lib.hid hx
  have b3 : ((x : Int) == 3) = false := by simp; omega
  have b4 : ((x : Int) == 4) = false := by simp; omega
  have b5 : ((x : Int) == 5) = false := by simp; omega
  have b6 : ((x : Int) == 6) = false := by simp; omega
  have b7 : ((x : Int) == 7) = false := by simp; omega
  have b8 : ((x : Int) == 8) = false := by simp; omega
  have b9 : ((x : Int) == 9) = false := by simp; omega
  have b10 : ((x : Int) == 10) = false := by simp; omega
  clear h hx
  go_enter Tryd.func85, Tryd.ntmps85
  go_wp2_with (first
    | (go_at_call 84; refine (next_any _ B K _ (HS.out.then_ (below1 _ _))).mono ?_; rintro e w1 ⟨rfl, hs1, ho1⟩; have z1 := keep_row ho1 (heap_alloc_new w (.cells #[.int .i64 0, .int .i64 0, .string ⟨#[]⟩, .slice none 0 0, .slice none 0 0] 25)) (by simp; omega); have c1 := (fun X => row_cells (row_then z1 (below1 w1 X))); have f1 := (fun X o => frozen_of_row _ _ o _ _ (row_then z1 (below1 w1 X))); have S1 := Lib.hid (ValAt.mk hs1 ((Only.of_below (below1 w _)).then_ ho1 (by simp)) z1 hz); clear hs1 ho1 z1; simp only [List.headD_cons]))
  have z2 := row_then S1.out.zero (below1 w1 (.cells #[.int .i64 x, .int .i64 0, .string ⟨#[]⟩, .slice none 0 0, .slice none 0 0] 25))
  have cp := row_cells (putfive z2 (.int .i64 x) (.int .i64 0) (.string ⟨#[]⟩) (.slice none 0 0) (.slice none 0 0))
  refine bodyPost_ret (v := .tuple #[.agg #[.int .i64 x, .int .i64 0, .string ⟨#[]⟩, .slice none 0 0, .slice none 0 0], .bool true]) (by simp [results, Tryd.results85, go_sem, cp]) rfl ?_
  obtain ⟨q1, q2, q3, q4⟩ := S1.out.done (b1 := w1.heap.size) (t := .mk x 0 ⟨#[]⟩ none 0 [] none 0 []) rfl (Only.of_below (below1 _ _)) (S1.out.src.then_ (below1 w1 (.cells #[.int .i64 x, .int .i64 0, .string ⟨#[]⟩, .slice none 0 0, .slice none 0 0] 25))) (plain_own _ _ (by unfold okInt; omega) (by unfold okInt; omega) (by simp [okLen, ByteArray.size])) ((only_put5 _ w.heap.size (.int .i64 x) (.int .i64 0) (.string ⟨#[]⟩) (.slice none 0 0) (.slice none 0 0)).sub (by simp)) (vrel_other HX.out)
  exact ⟨.mk x 0 ⟨#[]⟩ none 0 [] none 0 [], true, _, rfl, q1, q2, q3, q4⟩
set_option maxHeartbeats 4000000 in
theorem rv_nil : VAt [] := by
  intro w B K h
  show Calls _ _ #[.func (.func 84) #[] #[.pointer (some ⟨B + 1, 0, none⟩), .pointer (some ⟨B, 0, none⟩), .pointer (some ⟨B + 2, 0, none⟩)]] _ _
  have hz := h.size
  have HS := Lib.hid h
  clear h
  go_enter Tryd.func85, Tryd.ntmps85
  go_wp2_with (first
    | (go_at_call 84; refine (next_any _ B K _ (HS.out.then_ (below1 _ _))).mono ?_; rintro e w1 ⟨rfl, hs1, ho1⟩; have z1 := keep_row ho1 (heap_alloc_new w (.cells #[.int .i64 0, .int .i64 0, .string ⟨#[]⟩, .slice none 0 0, .slice none 0 0] 25)) (by simp; omega); have c1 := (fun X => row_cells (row_then z1 (below1 w1 X))); have f1 := (fun X o => frozen_of_row _ _ o _ _ (row_then z1 (below1 w1 X))); have S1 := Lib.hid (ValAt.mk hs1 ((Only.of_below (below1 w _)).then_ ho1 (by simp)) z1 hz); clear hs1 ho1 z1; simp only [List.headD_nil]))
  have z2 := row_then S1.out.zero (below1 w1 (.cells #[.int .i64 (-1), .int .i64 0, .string ⟨#[]⟩, .slice none 0 0, .slice none 0 0] 25))
  have cp := row_cells (putfive z2 (.int .i64 (-1)) (.int .i64 0) (.string ⟨#[]⟩) (.slice none 0 0) (.slice none 0 0))
  refine bodyPost_ret (v := .tuple #[.agg #[.int .i64 (-1), .int .i64 0, .string ⟨#[]⟩, .slice none 0 0, .slice none 0 0], .bool true]) (by simp [results, Tryd.results85, go_sem, cp]) rfl ?_
  obtain ⟨q1, q2, q3, q4⟩ := S1.out.done (b1 := w1.heap.size) (t := .mk (-1) 0 ⟨#[]⟩ none 0 [] none 0 []) rfl (Only.of_below (below1 _ _)) (S1.out.src.then_ (below1 w1 (.cells #[.int .i64 (-1), .int .i64 0, .string ⟨#[]⟩, .slice none 0 0, .slice none 0 0] 25))) (plain_own _ _ (by unfold okInt; omega) (by unfold okInt; omega) (by simp [okLen, ByteArray.size])) ((only_put5 _ w.heap.size (.int .i64 (-1)) (.int .i64 0) (.string ⟨#[]⟩) (.slice none 0 0) (.slice none 0 0)).sub (by simp)) vrel_nil
  exact ⟨.mk (-1) 0 ⟨#[]⟩ none 0 [] none 0 [], true, _, rfl, q1, q2, q3, q4⟩
set_option maxHeartbeats 4000000 in
theorem rv_num3 (R1 : List Int) : VAt (3 :: R1) := by
  intro w B K h
  show Calls _ _ #[.func (.func 84) #[] #[.pointer (some ⟨B + 1, 0, none⟩), .pointer (some ⟨B, 0, none⟩), .pointer (some ⟨B + 2, 0, none⟩)]] _ _
  have hz := h.size
  have HS := Lib.hid h
  have HB := Lib.hid (And.intro (show isB R1 from fun b hb => h.isB b (by simp [hb])) (show R1.length ≤ 1000 by obtain ⟨i, h, e⟩ := h; have h2 := congrArg List.length e; have := h.room; rw [List.length_drop, tf_len, List.length_cons] at h2; omega))
  clear h
  go_enter Tryd.func85, Tryd.ntmps85
  go_wp2_with (first
    | (go_at_call 84; refine (next_any _ B K _ (HS.out.then_ (below1 _ _))).mono ?_; rintro e w1 ⟨rfl, hs1, ho1⟩; have z1 := keep_row ho1 (heap_alloc_new w (.cells #[.int .i64 0, .int .i64 0, .string ⟨#[]⟩, .slice none 0 0, .slice none 0 0] 25)) (by simp; omega); have c1 := (fun X => row_cells (row_then z1 (below1 w1 X))); have f1 := (fun X o => frozen_of_row _ _ o _ _ (row_then z1 (below1 w1 X))); have S1 := Lib.hid (ValAt.mk hs1 ((Only.of_below (below1 w _)).then_ ho1 (by simp)) z1 hz); clear hs1 ho1 z1; simp only [List.headD_cons])
    | (go_at_call 110; refine (readNumber_any _ B K _ (S1.out.src.then_ (below1 _ _))).mono ?_; rintro e w2 ⟨n, ok, R', rfl, hs2, ho2, hr⟩; have lt1 := S1.out.lt; have r2 := keep_row ho2 (heap_alloc_new w1 (.cells #[.int .i64 3, .int .i64 0, .string ⟨#[]⟩, .slice none 0 0, .slice none 0 0] 25)) (by simp; omega); have z2 := keep_row ho2 (row_then S1.out.zero (below1 w1 (.cells #[.int .i64 3, .int .i64 0, .string ⟨#[]⟩, .slice none 0 0, .slice none 0 0] 25))) (by simp; omega); have cb := row_cells r2; have fb := (fun o => frozen_of_row _ _ o _ _ r2); have cb2 : ∀ v o, (w2.setCell ⟨w1.heap.size, 1, none⟩ v).cell? ⟨w1.heap.size, o, none⟩ = (#[.int .i64 3, v, .string ⟨#[]⟩, .slice none 0 0, .slice none 0 0] : Array Value)[o]? := (fun v => row_cells (by rw [heap_setCell_same _ _ _ _ _ _ r2]; rfl)); have cz := (fun v => row_cells ((heap_setCell_other w2 ⟨w1.heap.size, 1, none⟩ w.heap.size v (by simp; omega)).trans z2)); have fz := (fun v o => frozen_of_row _ _ o _ _ ((heap_setCell_other w2 ⟨w1.heap.size, 1, none⟩ w.heap.size v (by simp; omega)).trans z2)); have S2 := Lib.hid (And.intro hs2 (And.intro ho2 (And.intro hr (And.intro r2 z2)))); clear hs2 ho2 hr r2 z2 c1 f1))
  have hzr := (heap_setCell_other w2 ⟨w1.heap.size, 1, none⟩ w.heap.size (.int .i64 n) (by simp; omega)).trans S2.out.2.2.2.2
  have cp := row_cells (putfive hzr (.int .i64 3) (.int .i64 n) (.string ⟨#[]⟩) (.slice none 0 0) (.slice none 0 0))
  refine bodyPost_ret (v := .tuple #[.agg #[.int .i64 3, .int .i64 n, .string ⟨#[]⟩, .slice none 0 0, .slice none 0 0], .bool ok]) (by simp [results, Tryd.results85, go_sem, cp]) rfl ?_
  obtain ⟨q1, q2, q3, q4⟩ := S1.out.done (b1 := w1.heap.size) (t := (.mk 3 n ⟨#[]⟩ none 0 [] none 0 [])) rfl ((Only.of_below (below1 _ _)).trans S2.out.2.1) S2.out.1 (plain_own _ _ (by unfold okInt; omega) (by have hr := S2.out.2.2.1; cases ok with | true => exact (hr.1 rfl).1 | false => rw [(hr.2.1 rfl).1]; unfold okInt; omega) (by simp [okLen, ByteArray.size])) (((Only.refl [w.heap.size, w1.heap.size] w2).setCell (p := ⟨w1.heap.size, 1, none⟩) (.inl (by simp)) (.int .i64 n)).trans ((only_put5 _ w.heap.size (.int .i64 3) (.int .i64 n) (.string ⟨#[]⟩) (.slice none 0 0) (.slice none 0 0)).sub (by simp))) (vrel_num (by omega) S2.out.2.2.1)
  exact ⟨(.mk 3 n ⟨#[]⟩ none 0 [] none 0 []), ok, _, rfl, q1, q2, q3, q4⟩
set_option maxHeartbeats 4000000 in
theorem rv_num10 (R1 : List Int) : VAt (10 :: R1) := by
  intro w B K h
  show Calls _ _ #[.func (.func 84) #[] #[.pointer (some ⟨B + 1, 0, none⟩), .pointer (some ⟨B, 0, none⟩), .pointer (some ⟨B + 2, 0, none⟩)]] _ _
  have hz := h.size
  have HS := Lib.hid h
  have HB := Lib.hid (And.intro (show isB R1 from fun b hb => h.isB b (by simp [hb])) (show R1.length ≤ 1000 by obtain ⟨i, h, e⟩ := h; have h2 := congrArg List.length e; have := h.room; rw [List.length_drop, tf_len, List.length_cons] at h2; omega))
  clear h
  go_enter Tryd.func85, Tryd.ntmps85
  go_wp2_with (first
    | (go_at_call 84; refine (next_any _ B K _ (HS.out.then_ (below1 _ _))).mono ?_; rintro e w1 ⟨rfl, hs1, ho1⟩; have z1 := keep_row ho1 (heap_alloc_new w (.cells #[.int .i64 0, .int .i64 0, .string ⟨#[]⟩, .slice none 0 0, .slice none 0 0] 25)) (by simp; omega); have c1 := (fun X => row_cells (row_then z1 (below1 w1 X))); have f1 := (fun X o => frozen_of_row _ _ o _ _ (row_then z1 (below1 w1 X))); have S1 := Lib.hid (ValAt.mk hs1 ((Only.of_below (below1 w _)).then_ ho1 (by simp)) z1 hz); clear hs1 ho1 z1; simp only [List.headD_cons])
    | (go_at_call 110; refine (readNumber_any _ B K _ (S1.out.src.then_ (below1 _ _))).mono ?_; rintro e w2 ⟨n, ok, R', rfl, hs2, ho2, hr⟩; have lt1 := S1.out.lt; have r2 := keep_row ho2 (heap_alloc_new w1 (.cells #[.int .i64 10, .int .i64 0, .string ⟨#[]⟩, .slice none 0 0, .slice none 0 0] 25)) (by simp; omega); have z2 := keep_row ho2 (row_then S1.out.zero (below1 w1 (.cells #[.int .i64 10, .int .i64 0, .string ⟨#[]⟩, .slice none 0 0, .slice none 0 0] 25))) (by simp; omega); have cb := row_cells r2; have fb := (fun o => frozen_of_row _ _ o _ _ r2); have cb2 : ∀ v o, (w2.setCell ⟨w1.heap.size, 1, none⟩ v).cell? ⟨w1.heap.size, o, none⟩ = (#[.int .i64 10, v, .string ⟨#[]⟩, .slice none 0 0, .slice none 0 0] : Array Value)[o]? := (fun v => row_cells (by rw [heap_setCell_same _ _ _ _ _ _ r2]; rfl)); have cz := (fun v => row_cells ((heap_setCell_other w2 ⟨w1.heap.size, 1, none⟩ w.heap.size v (by simp; omega)).trans z2)); have fz := (fun v o => frozen_of_row _ _ o _ _ ((heap_setCell_other w2 ⟨w1.heap.size, 1, none⟩ w.heap.size v (by simp; omega)).trans z2)); have S2 := Lib.hid (And.intro hs2 (And.intro ho2 (And.intro hr (And.intro r2 z2)))); clear hs2 ho2 hr r2 z2 c1 f1))
  have hzr := (heap_setCell_other w2 ⟨w1.heap.size, 1, none⟩ w.heap.size (.int .i64 n) (by simp; omega)).trans S2.out.2.2.2.2
  have cp := row_cells (putfive hzr (.int .i64 10) (.int .i64 n) (.string ⟨#[]⟩) (.slice none 0 0) (.slice none 0 0))
  refine bodyPost_ret (v := .tuple #[.agg #[.int .i64 10, .int .i64 n, .string ⟨#[]⟩, .slice none 0 0, .slice none 0 0], .bool ok]) (by simp [results, Tryd.results85, go_sem, cp]) rfl ?_
  obtain ⟨q1, q2, q3, q4⟩ := S1.out.done (b1 := w1.heap.size) (t := (.mk 10 n ⟨#[]⟩ none 0 [] none 0 [])) rfl ((Only.of_below (below1 _ _)).trans S2.out.2.1) S2.out.1 (plain_own _ _ (by unfold okInt; omega) (by have hr := S2.out.2.2.1; cases ok with | true => exact (hr.1 rfl).1 | false => rw [(hr.2.1 rfl).1]; unfold okInt; omega) (by simp [okLen, ByteArray.size])) (((Only.refl [w.heap.size, w1.heap.size] w2).setCell (p := ⟨w1.heap.size, 1, none⟩) (.inl (by simp)) (.int .i64 n)).trans ((only_put5 _ w.heap.size (.int .i64 10) (.int .i64 n) (.string ⟨#[]⟩) (.slice none 0 0) (.slice none 0 0)).sub (by simp))) (vrel_num (by omega) S2.out.2.2.1)
  exact ⟨(.mk 10 n ⟨#[]⟩ none 0 [] none 0 []), ok, _, rfl, q1, q2, q3, q4⟩
set_option maxHeartbeats 4000000 in
theorem rv_text4 (R1 : List Int) : VAt (4 :: R1) := by
  intro w B K h
  show Calls _ _ #[.func (.func 84) #[] #[.pointer (some ⟨B + 1, 0, none⟩), .pointer (some ⟨B, 0, none⟩), .pointer (some ⟨B + 2, 0, none⟩)]] _ _
  have hz := h.size
  have HS := Lib.hid h
  have HB := Lib.hid (And.intro (show isB R1 from fun b hb => h.isB b (by simp [hb])) (show R1.length ≤ 1000 by obtain ⟨i, h, e⟩ := h; have h2 := congrArg List.length e; have := h.room; rw [List.length_drop, tf_len, List.length_cons] at h2; omega))
  clear h
  go_enter Tryd.func85, Tryd.ntmps85
  go_wp2_with (first
    | (go_at_call 84; refine (next_any _ B K _ (HS.out.then_ (below1 _ _))).mono ?_; rintro e w1 ⟨rfl, hs1, ho1⟩; have z1 := keep_row ho1 (heap_alloc_new w (.cells #[.int .i64 0, .int .i64 0, .string ⟨#[]⟩, .slice none 0 0, .slice none 0 0] 25)) (by simp; omega); have c1 := (fun X => row_cells (row_then z1 (below1 w1 X))); have f1 := (fun X o => frozen_of_row _ _ o _ _ (row_then z1 (below1 w1 X))); have S1 := Lib.hid (ValAt.mk hs1 ((Only.of_below (below1 w _)).then_ ho1 (by simp)) z1 hz); clear hs1 ho1 z1; simp only [List.headD_cons])
    | (go_at_call 111; refine (readText_any _ B K _ (S1.out.src.then_ (below1 _ _))).mono ?_; rintro e w2 ⟨s, ok, R', rfl, hs2, ho2, hr⟩; have lt1 := S1.out.lt; have r2 := keep_row ho2 (heap_alloc_new w1 (.cells #[.int .i64 4, .int .i64 0, .string ⟨#[]⟩, .slice none 0 0, .slice none 0 0] 25)) (by simp; omega); have z2 := keep_row ho2 (row_then S1.out.zero (below1 w1 (.cells #[.int .i64 4, .int .i64 0, .string ⟨#[]⟩, .slice none 0 0, .slice none 0 0] 25))) (by simp; omega); have cb := row_cells r2; have fb := (fun o => frozen_of_row _ _ o _ _ r2); have cb2 : ∀ v o, (w2.setCell ⟨w1.heap.size, 2, none⟩ v).cell? ⟨w1.heap.size, o, none⟩ = (#[.int .i64 4, .int .i64 0, v, .slice none 0 0, .slice none 0 0] : Array Value)[o]? := (fun v => row_cells (by rw [heap_setCell_same _ _ _ _ _ _ r2]; rfl)); have cz := (fun v => row_cells ((heap_setCell_other w2 ⟨w1.heap.size, 2, none⟩ w.heap.size v (by simp; omega)).trans z2)); have fz := (fun v o => frozen_of_row _ _ o _ _ ((heap_setCell_other w2 ⟨w1.heap.size, 2, none⟩ w.heap.size v (by simp; omega)).trans z2)); have S2 := Lib.hid (And.intro hs2 (And.intro ho2 (And.intro hr (And.intro r2 z2)))); clear hs2 ho2 hr r2 z2 c1 f1))
  have hzr := (heap_setCell_other w2 ⟨w1.heap.size, 2, none⟩ w.heap.size (.string s) (by simp; omega)).trans S2.out.2.2.2.2
  have cp := row_cells (putfive hzr (.int .i64 4) (.int .i64 0) (.string s) (.slice none 0 0) (.slice none 0 0))
  refine bodyPost_ret (v := .tuple #[.agg #[.int .i64 4, .int .i64 0, .string s, .slice none 0 0, .slice none 0 0], .bool ok]) (by simp [results, Tryd.results85, go_sem, cp]) rfl ?_
  obtain ⟨q1, q2, q3, q4⟩ := S1.out.done (b1 := w1.heap.size) (t := (.mk 4 0 s none 0 [] none 0 [])) rfl ((Only.of_below (below1 _ _)).trans S2.out.2.1) S2.out.1 (plain_own _ _ (by unfold okInt; omega) (by unfold okInt; omega) (by have := S2.out.2.2.1.2.2.2; have := HB.out.2; unfold okLen; simp at *; omega)) (((Only.refl [w.heap.size, w1.heap.size] w2).setCell (p := ⟨w1.heap.size, 2, none⟩) (.inl (by simp)) (.string s)).trans ((only_put5 _ w.heap.size (.int .i64 4) (.int .i64 0) (.string s) (.slice none 0 0) (.slice none 0 0)).sub (by simp))) (vrel_text (by omega) S2.out.2.2.1)
  exact ⟨(.mk 4 0 s none 0 [] none 0 []), ok, _, rfl, q1, q2, q3, q4⟩
set_option maxHeartbeats 4000000 in
theorem rv_text7 (R1 : List Int) : VAt (7 :: R1) := by
  intro w B K h
  show Calls _ _ #[.func (.func 84) #[] #[.pointer (some ⟨B + 1, 0, none⟩), .pointer (some ⟨B, 0, none⟩), .pointer (some ⟨B + 2, 0, none⟩)]] _ _
  have hz := h.size
  have HS := Lib.hid h
  have HB := Lib.hid (And.intro (show isB R1 from fun b hb => h.isB b (by simp [hb])) (show R1.length ≤ 1000 by obtain ⟨i, h, e⟩ := h; have h2 := congrArg List.length e; have := h.room; rw [List.length_drop, tf_len, List.length_cons] at h2; omega))
  clear h
  go_enter Tryd.func85, Tryd.ntmps85
  go_wp2_with (first
    | (go_at_call 84; refine (next_any _ B K _ (HS.out.then_ (below1 _ _))).mono ?_; rintro e w1 ⟨rfl, hs1, ho1⟩; have z1 := keep_row ho1 (heap_alloc_new w (.cells #[.int .i64 0, .int .i64 0, .string ⟨#[]⟩, .slice none 0 0, .slice none 0 0] 25)) (by simp; omega); have c1 := (fun X => row_cells (row_then z1 (below1 w1 X))); have f1 := (fun X o => frozen_of_row _ _ o _ _ (row_then z1 (below1 w1 X))); have S1 := Lib.hid (ValAt.mk hs1 ((Only.of_below (below1 w _)).then_ ho1 (by simp)) z1 hz); clear hs1 ho1 z1; simp only [List.headD_cons])
    | (go_at_call 111; refine (readText_any _ B K _ (S1.out.src.then_ (below1 _ _))).mono ?_; rintro e w2 ⟨s, ok, R', rfl, hs2, ho2, hr⟩; have lt1 := S1.out.lt; have r2 := keep_row ho2 (heap_alloc_new w1 (.cells #[.int .i64 7, .int .i64 0, .string ⟨#[]⟩, .slice none 0 0, .slice none 0 0] 25)) (by simp; omega); have z2 := keep_row ho2 (row_then S1.out.zero (below1 w1 (.cells #[.int .i64 7, .int .i64 0, .string ⟨#[]⟩, .slice none 0 0, .slice none 0 0] 25))) (by simp; omega); have cb := row_cells r2; have fb := (fun o => frozen_of_row _ _ o _ _ r2); have cb2 : ∀ v o, (w2.setCell ⟨w1.heap.size, 2, none⟩ v).cell? ⟨w1.heap.size, o, none⟩ = (#[.int .i64 7, .int .i64 0, v, .slice none 0 0, .slice none 0 0] : Array Value)[o]? := (fun v => row_cells (by rw [heap_setCell_same _ _ _ _ _ _ r2]; rfl)); have cz := (fun v => row_cells ((heap_setCell_other w2 ⟨w1.heap.size, 2, none⟩ w.heap.size v (by simp; omega)).trans z2)); have fz := (fun v o => frozen_of_row _ _ o _ _ ((heap_setCell_other w2 ⟨w1.heap.size, 2, none⟩ w.heap.size v (by simp; omega)).trans z2)); have S2 := Lib.hid (And.intro hs2 (And.intro ho2 (And.intro hr (And.intro r2 z2)))); clear hs2 ho2 hr r2 z2 c1 f1))
  have hzr := (heap_setCell_other w2 ⟨w1.heap.size, 2, none⟩ w.heap.size (.string s) (by simp; omega)).trans S2.out.2.2.2.2
  have cp := row_cells (putfive hzr (.int .i64 7) (.int .i64 0) (.string s) (.slice none 0 0) (.slice none 0 0))
  refine bodyPost_ret (v := .tuple #[.agg #[.int .i64 7, .int .i64 0, .string s, .slice none 0 0, .slice none 0 0], .bool ok]) (by simp [results, Tryd.results85, go_sem, cp]) rfl ?_
  obtain ⟨q1, q2, q3, q4⟩ := S1.out.done (b1 := w1.heap.size) (t := (.mk 7 0 s none 0 [] none 0 [])) rfl ((Only.of_below (below1 _ _)).trans S2.out.2.1) S2.out.1 (plain_own _ _ (by unfold okInt; omega) (by unfold okInt; omega) (by have := S2.out.2.2.1.2.2.2; have := HB.out.2; unfold okLen; simp at *; omega)) (((Only.refl [w.heap.size, w1.heap.size] w2).setCell (p := ⟨w1.heap.size, 2, none⟩) (.inl (by simp)) (.string s)).trans ((only_put5 _ w.heap.size (.int .i64 7) (.int .i64 0) (.string s) (.slice none 0 0) (.slice none 0 0)).sub (by simp))) (vrel_text (by omega) S2.out.2.2.1)
  exact ⟨(.mk 7 0 s none 0 [] none 0 []), ok, _, rfl, q1, q2, q3, q4⟩
set_option maxHeartbeats 4000000 in
theorem rv_id (R1 : List Int) : VAt (8 :: R1) := by
  intro w B K h
  show Calls _ _ #[.func (.func 84) #[] #[.pointer (some ⟨B + 1, 0, none⟩), .pointer (some ⟨B, 0, none⟩), .pointer (some ⟨B + 2, 0, none⟩)]] _ _
  have hz := h.size
  have HS := Lib.hid h
  have HB := Lib.hid (And.intro (show isB R1 from fun b hb => h.isB b (by simp [hb])) (show R1.length ≤ 1000 by obtain ⟨i, h, e⟩ := h; have h2 := congrArg List.length e; have := h.room; rw [List.length_drop, tf_len, List.length_cons] at h2; omega))
  clear h
  go_enter Tryd.func85, Tryd.ntmps85
  go_wp2_with (first
    | (go_at_call 84; refine (next_any _ B K _ (HS.out.then_ (below1 _ _))).mono ?_; rintro e w1 ⟨rfl, hs1, ho1⟩; have z1 := keep_row ho1 (heap_alloc_new w (.cells #[.int .i64 0, .int .i64 0, .string ⟨#[]⟩, .slice none 0 0, .slice none 0 0] 25)) (by simp; omega); have c1 := (fun X => row_cells (row_then z1 (below1 w1 X))); have f1 := (fun X o => frozen_of_row _ _ o _ _ (row_then z1 (below1 w1 X))); have S1 := Lib.hid (ValAt.mk hs1 ((Only.of_below (below1 w _)).then_ ho1 (by simp)) z1 hz); clear hs1 ho1 z1; simp only [List.headD_cons])
    | (go_at_call 112; refine (readId_any _ B K _ (S1.out.src.then_ (below1 _ _))).mono ?_; rintro e w2 ⟨s, ok, R', rfl, hs2, ho2, hr⟩; have lt1 := S1.out.lt; have r2 := keep_row ho2 (heap_alloc_new w1 (.cells #[.int .i64 8, .int .i64 0, .string ⟨#[]⟩, .slice none 0 0, .slice none 0 0] 25)) (by simp; omega); have z2 := keep_row ho2 (row_then S1.out.zero (below1 w1 (.cells #[.int .i64 8, .int .i64 0, .string ⟨#[]⟩, .slice none 0 0, .slice none 0 0] 25))) (by simp; omega); have cb := row_cells r2; have fb := (fun o => frozen_of_row _ _ o _ _ r2); have cb2 : ∀ v o, (w2.setCell ⟨w1.heap.size, 2, none⟩ v).cell? ⟨w1.heap.size, o, none⟩ = (#[.int .i64 8, .int .i64 0, v, .slice none 0 0, .slice none 0 0] : Array Value)[o]? := (fun v => row_cells (by rw [heap_setCell_same _ _ _ _ _ _ r2]; rfl)); have cz := (fun v => row_cells ((heap_setCell_other w2 ⟨w1.heap.size, 2, none⟩ w.heap.size v (by simp; omega)).trans z2)); have fz := (fun v o => frozen_of_row _ _ o _ _ ((heap_setCell_other w2 ⟨w1.heap.size, 2, none⟩ w.heap.size v (by simp; omega)).trans z2)); have S2 := Lib.hid (And.intro hs2 (And.intro ho2 (And.intro hr (And.intro r2 z2)))); clear hs2 ho2 hr r2 z2 c1 f1))
  have hzr := (heap_setCell_other w2 ⟨w1.heap.size, 2, none⟩ w.heap.size (.string s) (by simp; omega)).trans S2.out.2.2.2.2
  have cp := row_cells (putfive hzr (.int .i64 8) (.int .i64 0) (.string s) (.slice none 0 0) (.slice none 0 0))
  refine bodyPost_ret (v := .tuple #[.agg #[.int .i64 8, .int .i64 0, .string s, .slice none 0 0, .slice none 0 0], .bool ok]) (by simp [results, Tryd.results85, go_sem, cp]) rfl ?_
  obtain ⟨q1, q2, q3, q4⟩ := S1.out.done (b1 := w1.heap.size) (t := (.mk 8 0 s none 0 [] none 0 [])) rfl ((Only.of_below (below1 _ _)).trans S2.out.2.1) S2.out.1 (plain_own _ _ (by unfold okInt; omega) (by unfold okInt; omega) (by have hr := S2.out.2.2.1; cases ok with | true => unfold okLen; rw [(hr.1 rfl).1]; omega | false => rw [(hr.2.1 rfl).1]; simp [okLen, ByteArray.size])) (((Only.refl [w.heap.size, w1.heap.size] w2).setCell (p := ⟨w1.heap.size, 2, none⟩) (.inl (by simp)) (.string s)).trans ((only_put5 _ w.heap.size (.int .i64 8) (.int .i64 0) (.string s) (.slice none 0 0) (.slice none 0 0)).sub (by simp))) (vrel_id S2.out.2.2.1)
  exact ⟨(.mk 8 0 s none 0 [] none 0 []), ok, _, rfl, q1, q2, q3, q4⟩
set_option maxHeartbeats 4000000 in
theorem rv_bool (R1 : List Int) : VAt (9 :: R1) := by
  intro w B K h
  show Calls _ _ #[.func (.func 84) #[] #[.pointer (some ⟨B + 1, 0, none⟩), .pointer (some ⟨B, 0, none⟩), .pointer (some ⟨B + 2, 0, none⟩)]] _ _
  have hz := h.size
  have HS := Lib.hid h
  have HB := Lib.hid (And.intro (show isB R1 from fun b hb => h.isB b (by simp [hb])) (show R1.length ≤ 1000 by obtain ⟨i, h, e⟩ := h; have h2 := congrArg List.length e; have := h.room; rw [List.length_drop, tf_len, List.length_cons] at h2; omega))
  obtain ⟨n, hn⟩ : ∃ n, R1.headD (-1) = n := ⟨_, rfl⟩
  obtain ⟨R2, hR2⟩ : ∃ R2, R1.tail = R2 := ⟨_, rfl⟩
  have HN := Lib.hid (And.intro hn hR2)
  clear h hn hR2
  go_enter Tryd.func85, Tryd.ntmps85
  go_wp2_with (first
    | (go_at_call 84; refine (next_any _ B K _ (HS.out.then_ (below1 _ _))).mono ?_; rintro e w1 ⟨rfl, hs1, ho1⟩; have z1 := keep_row ho1 (heap_alloc_new w (.cells #[.int .i64 0, .int .i64 0, .string ⟨#[]⟩, .slice none 0 0, .slice none 0 0] 25)) (by simp; omega); have c1 := (fun X => row_cells (row_then z1 (below1 w1 X))); have f1 := (fun X o => frozen_of_row _ _ o _ _ (row_then z1 (below1 w1 X))); have S1 := Lib.hid (ValAt.mk hs1 ((Only.of_below (below1 w _)).then_ ho1 (by simp)) z1 hz); clear hs1 ho1 z1; simp only [List.headD_cons])
    | (go_at_call 84; refine (next_eq _ B K _ R2 n (S1.out.src.then_ (below1 _ _)) HN.out.1 HN.out.2).mono ?_; rintro e w2 ⟨rfl, hs2, ho2⟩; have lt1 := S1.out.lt; have r2 := keep_row ho2 (heap_alloc_new w1 (.cells #[.int .i64 9, .int .i64 0, .string ⟨#[]⟩, .slice none 0 0, .slice none 0 0] 25)) (by simp; omega); have z2 := keep_row ho2 (row_then S1.out.zero (below1 w1 (.cells #[.int .i64 9, .int .i64 0, .string ⟨#[]⟩, .slice none 0 0, .slice none 0 0] 25))) (by simp; omega); have cb := row_cells r2; have fb := (fun o => frozen_of_row _ _ o _ _ r2); have cb2 : ∀ v o, (w2.setCell ⟨w1.heap.size, 1, none⟩ v).cell? ⟨w1.heap.size, o, none⟩ = (#[.int .i64 9, v, .string ⟨#[]⟩, .slice none 0 0, .slice none 0 0] : Array Value)[o]? := (fun v => row_cells (by rw [heap_setCell_same _ _ _ _ _ _ r2]; rfl)); have cz := (fun v => row_cells ((heap_setCell_other w2 ⟨w1.heap.size, 1, none⟩ w.heap.size v (by simp; omega)).trans z2)); have fz := (fun v o => frozen_of_row _ _ o _ _ ((heap_setCell_other w2 ⟨w1.heap.size, 1, none⟩ w.heap.size v (by simp; omega)).trans z2)); have S2 := Lib.hid (And.intro hs2 (And.intro ho2 (And.intro True.intro (And.intro r2 z2)))); clear hs2 ho2  r2 z2 c1 f1))
  have hzr := (heap_setCell_other w2 ⟨w1.heap.size, 1, none⟩ w.heap.size (.int .i64 n) (by simp; omega)).trans S2.out.2.2.2.2
  have cp := row_cells (putfive hzr (.int .i64 9) (.int .i64 n) (.string ⟨#[]⟩) (.slice none 0 0) (.slice none 0 0))
  refine bodyPost_ret (v := .tuple #[.agg #[.int .i64 9, .int .i64 n, .string ⟨#[]⟩, .slice none 0 0, .slice none 0 0], .bool true]) (by simp [results, Tryd.results85, go_sem, cp]) rfl ?_
  obtain ⟨q1, q2, q3, q4⟩ := S1.out.done (b1 := w1.heap.size) (t := (.mk 9 n ⟨#[]⟩ none 0 [] none 0 [])) rfl ((Only.of_below (below1 _ _)).trans S2.out.2.1) S2.out.1 (plain_own _ _ (by unfold okInt; omega) (by have h1 := HB.out.1; have h2 := HN.out.1; unfold okInt; cases R1 with | nil => simp at h2; omega | cons y r => have := h1 y (by simp); simp at h2; omega) (by simp [okLen, ByteArray.size])) (((Only.refl [w.heap.size, w1.heap.size] w2).setCell (p := ⟨w1.heap.size, 1, none⟩) (.inl (by simp)) (.int .i64 n)).trans ((only_put5 _ w.heap.size (.int .i64 9) (.int .i64 n) (.string ⟨#[]⟩) (.slice none 0 0) (.slice none 0 0)).sub (by simp))) (vrel_bool' HN.out.1 HN.out.2)
  exact ⟨(.mk 9 n ⟨#[]⟩ none 0 [] none 0 []), true, _, rfl, q1, q2, q3, q4⟩
set_option maxHeartbeats 4000000 in
theorem rv_list (R1 : List Int) (ih : ∀ R2 : List Int, R2.length < R1.length → VAt R2) : VAt (6 :: R1) := by
  intro w B K h
  show Calls _ _ #[.func (.func 84) #[] #[.pointer (some ⟨B + 1, 0, none⟩), .pointer (some ⟨B, 0, none⟩), .pointer (some ⟨B + 2, 0, none⟩)]] _ _
  have hz := h.size
  have HS := Lib.hid h
  have HB := Lib.hid (And.intro (show isB R1 from fun b hb => h.isB b (by simp [hb])) (show R1.length ≤ 1000 by obtain ⟨i, h, e⟩ := h; have h2 := congrArg List.length e; have := h.room; rw [List.length_drop, tf_len, List.length_cons] at h2; omega))
  have IH := Lib.hid ih
  clear h
  go_enter Tryd.func85, Tryd.ntmps85
  go_wp2_with (first
    | (go_at_call 84; refine (next_any _ B K _ (HS.out.then_ (below1 _ _))).mono ?_; rintro e w1 ⟨rfl, hs1, ho1⟩; have z1 := keep_row ho1 (heap_alloc_new w (.cells #[.int .i64 0, .int .i64 0, .string ⟨#[]⟩, .slice none 0 0, .slice none 0 0] 25)) (by simp; omega); have c1 := (fun X => row_cells (row_then z1 (below1 w1 X))); have f1 := (fun X o => frozen_of_row _ _ o _ _ (row_then z1 (below1 w1 X))); have S1 := Lib.hid (ValAt.mk hs1 ((Only.of_below (below1 w _)).then_ ho1 (by simp)) z1 hz); clear hs1 ho1 z1; simp only [List.headD_cons])
    | (go_at_call 113; refine (readParts_any R1 IH.out _ B K (S1.out.src.then_ (below1 _ _))).mono ?_; rintro e w2 ⟨a, c, ts, ok, R', rfl, hy, hs2, ho2, hr⟩; have lt1 := S1.out.lt; have r2 := keep_row ho2 (heap_alloc_new w1 (.cells #[.int .i64 6, .int .i64 0, .string ⟨#[]⟩, .slice none 0 0, .slice none 0 0] 25)) (by simp; omega); have z2 := keep_row ho2 (row_then S1.out.zero (below1 w1 (.cells #[.int .i64 6, .int .i64 0, .string ⟨#[]⟩, .slice none 0 0, .slice none 0 0] 25))) (by simp; omega); have cb := row_cells r2; have fb := (fun o => frozen_of_row _ _ o _ _ r2); have cb2 : ∀ v o, (w2.setCell ⟨w1.heap.size, 3, none⟩ v).cell? ⟨w1.heap.size, o, none⟩ = (#[.int .i64 6, .int .i64 0, .string ⟨#[]⟩, v, .slice none 0 0] : Array Value)[o]? := (fun v => row_cells (by rw [heap_setCell_same _ _ _ _ _ _ r2]; rfl)); have cz := (fun v => row_cells ((heap_setCell_other w2 ⟨w1.heap.size, 3, none⟩ w.heap.size v (by simp; omega)).trans z2)); have fz := (fun v o => frozen_of_row _ _ o _ _ ((heap_setCell_other w2 ⟨w1.heap.size, 3, none⟩ w.heap.size v (by simp; omega)).trans z2)); have S2 := Lib.hid (And.intro hs2 (And.intro ho2 (And.intro (And.intro hr hy) (And.intro r2 z2)))); clear hs2 ho2 hr hy r2 z2 c1 f1))
  have hzr := (heap_setCell_other w2 ⟨w1.heap.size, 3, none⟩ w.heap.size (.slice a ts.length c) (by simp; omega)).trans S2.out.2.2.2.2
  have cp := row_cells (putfive hzr (.int .i64 6) (.int .i64 0) (.string ⟨#[]⟩) (.slice a ts.length c) (.slice none 0 0))
  refine bodyPost_ret (v := .tuple #[.agg #[.int .i64 6, .int .i64 0, .string ⟨#[]⟩, .slice a ts.length c, .slice none 0 0], .bool ok]) (by simp [results, Tryd.results85, go_sem, cp]) rfl ?_
  obtain ⟨q1, q2, q3, q4⟩ := S1.out.done (b1 := w1.heap.size) (t := (.mk 6 0 ⟨#[]⟩ a c ts none 0 [])) rfl ((Only.of_below (below1 _ _)).trans S2.out.2.1) S2.out.1 (by have := S2.out.2.2.1.2; rw [World.size_alloc] at this; exact this) (((Only.refl [w.heap.size, w1.heap.size] w2).setCell (p := ⟨w1.heap.size, 3, none⟩) (.inl (by simp)) (.slice a ts.length c)).trans ((only_put5 _ w.heap.size (.int .i64 6) (.int .i64 0) (.string ⟨#[]⟩) (.slice a ts.length c) (.slice none 0 0)).sub (by simp))) (by rw [T.val_mk]; exact vrel_list S2.out.2.2.1.1)
  exact ⟨(.mk 6 0 ⟨#[]⟩ a c ts none 0 []), ok, _, rfl, q1, q2, q3, q4⟩
set_option maxHeartbeats 4000000 in
theorem rv_doc (R1 : List Int) (ih : ∀ R2 : List Int, R2.length < R1.length → FAt R2) : VAt (5 :: R1) := by
  intro w B K h
  show Calls _ _ #[.func (.func 84) #[] #[.pointer (some ⟨B + 1, 0, none⟩), .pointer (some ⟨B, 0, none⟩), .pointer (some ⟨B + 2, 0, none⟩)]] _ _
  have hz := h.size
  have HS := Lib.hid h
  have HB := Lib.hid (And.intro (show isB R1 from fun b hb => h.isB b (by simp [hb])) (show R1.length ≤ 1000 by obtain ⟨i, h, e⟩ := h; have h2 := congrArg List.length e; have := h.room; rw [List.length_drop, tf_len, List.length_cons] at h2; omega))
  have IH := Lib.hid ih
  clear h
  go_enter Tryd.func85, Tryd.ntmps85
  go_wp2_with (first
    | (go_at_call 84; refine (next_any _ B K _ (HS.out.then_ (below1 _ _))).mono ?_; rintro e w1 ⟨rfl, hs1, ho1⟩; have z1 := keep_row ho1 (heap_alloc_new w (.cells #[.int .i64 0, .int .i64 0, .string ⟨#[]⟩, .slice none 0 0, .slice none 0 0] 25)) (by simp; omega); have c1 := (fun X => row_cells (row_then z1 (below1 w1 X))); have f1 := (fun X o => frozen_of_row _ _ o _ _ (row_then z1 (below1 w1 X))); have S1 := Lib.hid (ValAt.mk hs1 ((Only.of_below (below1 w _)).then_ ho1 (by simp)) z1 hz); clear hs1 ho1 z1; simp only [List.headD_cons])
    | (go_at_call 114; refine (readDoc_any R1 IH.out _ B K (S1.out.src.then_ (below1 _ _))).mono ?_; rintro e w2 ⟨a, c, ts, ok, R', rfl, hy, hs2, ho2, hr⟩; have lt1 := S1.out.lt; have r2 := keep_row ho2 (heap_alloc_new w1 (.cells #[.int .i64 5, .int .i64 0, .string ⟨#[]⟩, .slice none 0 0, .slice none 0 0] 25)) (by simp; omega); have z2 := keep_row ho2 (row_then S1.out.zero (below1 w1 (.cells #[.int .i64 5, .int .i64 0, .string ⟨#[]⟩, .slice none 0 0, .slice none 0 0] 25))) (by simp; omega); have cb := row_cells r2; have fb := (fun o => frozen_of_row _ _ o _ _ r2); have cb2 : ∀ v o, (w2.setCell ⟨w1.heap.size, 4, none⟩ v).cell? ⟨w1.heap.size, o, none⟩ = (#[.int .i64 5, .int .i64 0, .string ⟨#[]⟩, .slice none 0 0, v] : Array Value)[o]? := (fun v => row_cells (by rw [heap_setCell_same _ _ _ _ _ _ r2]; rfl)); have cz := (fun v => row_cells ((heap_setCell_other w2 ⟨w1.heap.size, 4, none⟩ w.heap.size v (by simp; omega)).trans z2)); have fz := (fun v o => frozen_of_row _ _ o _ _ ((heap_setCell_other w2 ⟨w1.heap.size, 4, none⟩ w.heap.size v (by simp; omega)).trans z2)); have S2 := Lib.hid (And.intro hs2 (And.intro ho2 (And.intro (And.intro hr hy) (And.intro r2 z2)))); clear hs2 ho2 hr hy r2 z2 c1 f1))
  have hzr := (heap_setCell_other w2 ⟨w1.heap.size, 4, none⟩ w.heap.size (.slice a ts.length c) (by simp; omega)).trans S2.out.2.2.2.2
  have cp := row_cells (putfive hzr (.int .i64 5) (.int .i64 0) (.string ⟨#[]⟩) (.slice none 0 0) (.slice a ts.length c))
  refine bodyPost_ret (v := .tuple #[.agg #[.int .i64 5, .int .i64 0, .string ⟨#[]⟩, .slice none 0 0, .slice a ts.length c], .bool ok]) (by simp [results, Tryd.results85, go_sem, cp]) rfl ?_
  obtain ⟨q1, q2, q3, q4⟩ := S1.out.done (b1 := w1.heap.size) (t := (.mk 5 0 ⟨#[]⟩ none 0 [] a c ts)) rfl ((Only.of_below (below1 _ _)).trans S2.out.2.1) S2.out.1 (by have := S2.out.2.2.1.2; rw [World.size_alloc] at this; exact this) (((Only.refl [w.heap.size, w1.heap.size] w2).setCell (p := ⟨w1.heap.size, 4, none⟩) (.inl (by simp)) (.slice a ts.length c)).trans ((only_put5 _ w.heap.size (.int .i64 5) (.int .i64 0) (.string ⟨#[]⟩) (.slice none 0 0) (.slice a ts.length c)).sub (by simp))) (by rw [T.val_mk]; exact vrel_doc S2.out.2.2.1.1)
  exact ⟨(.mk 5 0 ⟨#[]⟩ none 0 [] a c ts), ok, _, rfl, q1, q2, q3, q4⟩

theorem readValue_any (n : Nat) : ∀ R : List Int, R.length ≤ n → VAt R := by
  induction n with
  | zero => intro R h; have := List.eq_nil_of_length_eq_zero (Nat.le_zero.1 h); subst this; exact rv_nil
  | succ n ih =>
    intro R h
    cases R with
    | nil => exact rv_nil
    | cons x R1 =>
      have h1 : R1.length ≤ n := by simpa using h
      by_cases h3 : x = 3
      · subst h3; exact rv_num3 R1
      by_cases h10 : x = 10
      · subst h10; exact rv_num10 R1
      by_cases h9 : x = 9
      · subst h9; exact rv_bool R1
      by_cases h4 : x = 4
      · subst h4; exact rv_text4 R1
      by_cases h7 : x = 7
      · subst h7; exact rv_text7 R1
      by_cases h8 : x = 8
      · subst h8; exact rv_id R1
      by_cases h6 : x = 6
      · subst h6; exact rv_list R1 fun R2 h2 => ih R2 (by omega)
      by_cases h5 : x = 5
      · subst h5; exact rv_doc R1 fun R2 h2 => readField_any R2 fun R3 h3 => ih R3 (by omega)
      · exact rv_other x R1 ⟨by omega, h9, by omega, h8, h6, h5⟩
#print axioms readValue_any
end Go.Proofs.YtdlgngnibbaamaaDoor
