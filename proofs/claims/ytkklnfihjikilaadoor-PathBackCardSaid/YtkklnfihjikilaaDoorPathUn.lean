/- The contract of unset: no statement is proved here. -/
import Derived.Test.YtkklnfihjikilaaDoorPathRoom
namespace Go.Proofs.YtkklnfihjikilaaDoor
open Go.RowKit
set_option maxRecDepth 100000

theorem unD_setD (p : ByteArray) (z : V) : ∀ (d : List (ByteArray × V)) (m j : Nat), idxD d p m = ((m + j : Nat) : Int) → putD d p z = setD d j z := by
  intro d
  induction d with
  | nil => intro m j h; simp [idxD] at h; omega
  | cons f r ih =>
    obtain ⟨f, x⟩ := f
    intro m j h
    rw [idxD] at h
    rw [putD]
    split at h
    · rename_i hf
      obtain rfl : j = 0 := by omega
      rw [if_pos hf]
      rfl
    · rename_i hf
      rw [if_neg hf]
      rcases idxD_find r p (m + 1) with ⟨h1, -⟩ | ⟨i, y, h1, h2, -⟩
      · omega
      · obtain rfl : j = i + 1 := by omega
        rw [ih (m + 1) i (by omega)]
        unfold setD
        rw [List.getElem?_cons_succ]
        cases r[i]? <;> rfl
theorem unset_none {t : T} {p : ByteArray} {r : List ByteArray} (h : childV t.val p = none) : unsetV t.val (p :: r) = t.val := by
  obtain ⟨k, n, s, la, lc, l, da, dc, d⟩ := t
  rw [T.val_mk] at h ⊢
  rw [unsetV, h]
theorem unset_deep {t y : T} {p : ByteArray} {j : Nat} (h1 : standV t.val p = (j : Int)) (h2 : childV t.val p = some y.val) {r : List ByteArray} (hr : r ≠ []) : unsetV t.val (p :: r) = replV t.val j (unsetV y.val r) := by
  obtain ⟨k, n, s, la, lc, l, da, dc, d⟩ := t
  rw [T.val_mk] at h1 h2 ⊢
  rw [unsetV, h2]
  rw [standV] at h1
  rw [replV]
  dsimp only
  by_cases h5 : k = 5
  · rw [if_pos h5] at h1
    rw [if_pos h5, if_neg hr, if_pos h5, unD_setD p _ _ 0 j (by rw [h1]; simp)]
  · rw [if_neg h5] at h1
    rw [if_neg h5, if_neg hr, if_neg h5]
    by_cases h6 : k = 6
    · rw [if_pos h6] at h1
      split at h1
      · rw [h1, Int.toNat_natCast]
      · omega
    · rw [if_neg h6] at h1
      omega
theorem unset_list {t y : T} {p : ByteArray} {j : Nat} (h1 : standV t.val p = (j : Int)) (h2 : childV t.val p = some y.val) (hk : kindV t.val ≠ 5) : unsetV t.val [p] = replV t.val j nullV := by
  obtain ⟨k, n, s, la, lc, l, da, dc, d⟩ := t
  rw [T.val_mk] at h1 h2 hk ⊢
  rw [unsetV, h2]
  rw [standV] at h1
  rw [kindV] at hk
  rw [replV]
  dsimp only
  rw [if_neg hk] at h1
  rw [if_neg hk, if_neg hk, if_pos rfl]
  by_cases h6 : k = 6
  · rw [if_pos h6] at h1
    split at h1
    · rw [h1, Int.toNat_natCast]
    · omega
  · rw [if_neg h6] at h1
    omega
theorem unset_doc {t y : T} {p : ByteArray} (h2 : childV t.val p = some y.val) (hk : kindV t.val = 5) : unsetV t.val [p] = withoutV t.val p := by
  obtain ⟨k, n, s, la, lc, l, da, dc, d⟩ := t
  rw [T.val_mk] at h2 hk ⊢
  rw [unsetV, h2]
  rw [kindV] at hk
  dsimp only
  rw [if_pos hk, if_pos rfl]

set_option maxHeartbeats 8000000 in
theorem unset_none_any (p : ByteArray) (r : List ByteArray) (t : T) (okt : t.ok) (b o pc : Nat) (w : World) (hin : t.In w) (hps : Parts w (some ⟨b, o, none⟩) pc (p :: r)) (s1 : standV t.val p = -1) (s2 : childV t.val p = none) :
    Calls Tryd.prog 33 #[t.arg, .slice (some ⟨b, o, none⟩) (r.length + 1) pc] w (MakesT [t] (unsetV t.val (p :: r)) w) := by
  rw [unset_none s2]
  have HS := stand_any t okt p
  rw [s1] at HS
  replace HS := Lib.hid HS
  obtain ⟨b', o', e0, hc0, hp0⟩ := hps.head
  cases e0
  have HI := Lib.hid hin
  have HO := Lib.hid okt
  have HPC := Lib.hid hc0
  have W2 := Lib.hid (fun X => below2 w X zeroObj)
  have hc1 : ∀ A B, ((w.alloc A).alloc B).cell? ⟨b, o, none⟩ = some (.string p) := fun A B => ((below2 w A B).cell (cell_lt hc0)).trans hc0
  clear hin okt s1 s2 hps hc0
  obtain ⟨kt, nt, st, lat, lct, lt, dat, dct, dt⟩ := t
  show Calls _ _ #[.agg #[.int .i64 kt, .int .i64 nt, .string st, .slice lat lt.length lct, .slice dat dt.length dct], .slice (some ⟨b, o, none⟩) (r.length + 1) pc] _ _
  have q0 := heap_alloc2_old w (.cells #[.int .i64 kt, .int .i64 nt, .string st, .slice lat lt.length lct, .slice dat dt.length dct] 31) zeroObj
  have q1 := heap_alloc2_new w (.cells #[.int .i64 kt, .int .i64 nt, .string st, .slice lat lt.length lct, .slice dat dt.length dct] 31) zeroObj
  have hq0 := hc1 (.cells #[.int .i64 kt, .int .i64 nt, .string st, .slice lat lt.length lct, .slice dat dt.length dct] 31) zeroObj
  have hb0 := Lib.hid (below2 w (.cells #[.int .i64 kt, .int .i64 nt, .string st, .slice lat lt.length lct, .slice dat dt.length dct] 31) zeroObj)
  clear hc1 W2
  unfold zeroObj at q0 q1 hq0 hb0
  go_enter Tryd.func33, Tryd.ntmps33
  go_wp2_with fail
  generalize ((w.alloc (.cells #[.int .i64 kt, .int .i64 nt, .string st, .slice lat lt.length lct, .slice dat dt.length dct] 31)).alloc (.cells #[.int .i64 0, .int .i64 0, .string ⟨#[]⟩, .slice none 0 0, .slice none 0 0] 31)) = W0 at q0 q1 hq0 hb0 ⊢
  have x0 := row_cells q0
  go_still_tail 4, (by kernel_rfl)
  change wpList _ _ _ _ _ W0.drew
  go_wp2_with (go_at_call 42; refine (HS.out W0.drew (HI.out.then_ hb0.out).drew').mono ?_; rintro e w1 ⟨rfl, hb1'⟩; have hb1 : Below W0.heap.size W0 w1 := ⟨hb1'.os, hb1'.tape, hb1'.output, hb1'.size, hb1'.block⟩; have r0 := row_then q0 hb1; have r1 := row_then q1 hb1; have X0 := row_cells r0; have X1 := row_cells r1; have Y1 := row_free r1)
  refine bodyPost_ret (v := .agg #[.int .i64 kt, .int .i64 nt, .string st, .slice lat lt.length lct, .slice dat dt.length dct]) (by simp [results, Tryd.results33, go_sem, X1]) rfl ?_
  have hB : Below w.heap.size w _ := ((Only.of_below (S := []) (below_then hb0.out hb1)).then_ (only_set5 w1 (w.heap.size + 1) (.int .i64 kt) (.int .i64 nt) (.string st) (.slice lat lt.length lct) (.slice dat dt.length dct)) (by simp)).below
  exact ⟨_, rfl, rfl, HI.out.then_ hB, HO.out, hB, fun _ _ _ h => h _ (by simp)⟩

theorem un_end {w w2 w3 w4 F : World} {t y t3 t4 : T} {v : V} {j : Nat} (s3 : kidT t j = some y) (hin : t.In w) (hs2 : w.heap.size + 2 ≤ w2.heap.size) (hs3 : w2.heap.size ≤ w3.heap.size) (b4 : Below w.heap.size w w4)
    (hou3 : ∀ B0 B1 : Nat, B1 ≤ w2.heap.size → (∀ t ∈ [y], t.Out B0 B1) → t3.Out B0 B1) (hou4 : ∀ B0 B1 : Nat, B1 ≤ w3.heap.size → (∀ u ∈ [t, t3], u.Out B0 B1) → t4.Out B0 B1)
    (hv : t4.val = v) (hi4 : t4.In w4) (ok4 : t4.ok) (o5 : Only [w.heap.size + 1] w4 F) : MakesT [t] v w (.returned t4.arg) F := by
  have hB : Below w.heap.size w F := ((Only.of_below (S := []) b4).then_ o5 (by simp)).below
  have hout : ∀ B0 B1, B1 ≤ w2.heap.size → t.Out B0 B1 → t4.Out B0 B1 := fun B0 B1 h1 ho => hou4 B0 B1 (Nat.le_trans h1 hs3) (by
    intro u hu
    simp only [List.mem_cons, List.not_mem_nil, or_false] at hu
    rcases hu with rfl | rfl
    · exact ho
    · exact hou3 B0 B1 h1 (fun z hz => by rw [List.mem_singleton.1 hz]; exact kid_out ho s3))
  refine ⟨t4, rfl, hv, ?_, ok4, hB, fun B0 B1 h1 ho => hout B0 B1 (by omega) (ho t (by simp))⟩
  exact hi4.only (hout w.heap.size (w.heap.size + 2) hs2 (hin.out (Nat.le_refl _) _)) o5 (by simp)
theorem drop_drew {w w' : World} (h : Below w.drew.heap.size w.drew w') : Below w.heap.size w w' := ⟨h.os, h.tape, h.output, h.size, h.block⟩
set_option maxHeartbeats 20000000 in
theorem unset_deep_any (p : ByteArray) (r : List ByteArray) (hr : r ≠ []) (ih : ∀ (t : T), t.ok → ∀ (pa : Option Addr) (pc : Nat) (w : World), t.In w → Parts w pa pc r → Calls Tryd.prog 33 #[t.arg, .slice pa r.length pc] w (MakesT [t] (unsetV t.val r) w))
    (t y : T) (okt : t.ok) (b o pc j : Nat) (w : World) (hin : t.In w) (hps : Parts w (some ⟨b, o, none⟩) pc (p :: r)) (s1 : standV t.val p = (j : Int)) (s2 : childV t.val p = some y.val) (s3 : kidT t j = some y) :
    Calls Tryd.prog 33 #[t.arg, .slice (some ⟨b, o, none⟩) (r.length + 1) pc] w (MakesT [t] (unsetV t.val (p :: r)) w) := by
  rw [unset_deep s1 s2 hr]
  have HS := stand_any t okt p
  rw [s1] at HS
  replace HS := Lib.hid HS
  obtain ⟨b', o', e0, hc0, hp0⟩ := hps.head
  cases e0
  have HI := Lib.hid hin
  have HO := Lib.hid okt
  have HPC := Lib.hid hc0
  have HB := Lib.hid (fun w h => below_any t y okt j w h s3)
  have HY := Lib.hid (ih y (kid_ok okt s3))
  have HYI := Lib.hid (kid_in hin s3)
  have HYO := Lib.hid (kid_ok okt s3)
  have HPT := Lib.hid hps.tail
  have HR := Lib.hid (fun x okx w h hx => replaced_any t x y okt okx j s3 w h hx)
  have HK := Lib.hid s3
  have hrl : 0 < r.length := List.length_pos_iff.2 hr
  have hcap : r.length + 1 ≤ pc := hps.cap.1
  have hcap2 := hps.cap.2
  have hj0 : ¬ ((j : Int) < 0) := by omega
  have hl1 : (1 : Int) < (r.length : Int) + 1 := by omega
  have hl2 : (1 : Int) ≤ (r.length : Int) + 1 := by omega
  have hpc1 : ¬ pc = 1 := by omega
  have hc1 : ∀ A B, ((w.alloc A).alloc B).cell? ⟨b, o, none⟩ = some (.string p) := fun A B => ((below2 w A B).cell (cell_lt hc0)).trans hc0
  clear hin okt s1 s2 s3 hps hc0 ih hr
  obtain ⟨kt, nt, st, lat, lct, lt, dat, dct, dt⟩ := t
  obtain ⟨ky, ny, sy, lay, lcy, ly, day, dcy, dy⟩ := y
  show Calls _ _ #[.agg #[.int .i64 kt, .int .i64 nt, .string st, .slice lat lt.length lct, .slice dat dt.length dct], .slice (some ⟨b, o, none⟩) (r.length + 1) pc] _ _
  have q0 := heap_alloc2_old w (.cells #[.int .i64 kt, .int .i64 nt, .string st, .slice lat lt.length lct, .slice dat dt.length dct] 31) zeroObj
  have q1 := heap_alloc2_new w (.cells #[.int .i64 kt, .int .i64 nt, .string st, .slice lat lt.length lct, .slice dat dt.length dct] 31) zeroObj
  have hq0 := hc1 (.cells #[.int .i64 kt, .int .i64 nt, .string st, .slice lat lt.length lct, .slice dat dt.length dct] 31) zeroObj
  have hb0 := Lib.hid (below2 w (.cells #[.int .i64 kt, .int .i64 nt, .string st, .slice lat lt.length lct, .slice dat dt.length dct] 31) zeroObj)
  clear hc1
  unfold zeroObj at q0 q1 hq0 hb0
  go_enter Tryd.func33, Tryd.ntmps33
  go_wp2_with fail
  generalize ((w.alloc (.cells #[.int .i64 kt, .int .i64 nt, .string st, .slice lat lt.length lct, .slice dat dt.length dct] 31)).alloc (.cells #[.int .i64 0, .int .i64 0, .string ⟨#[]⟩, .slice none 0 0, .slice none 0 0] 31)) = W0 at q0 q1 hq0 hb0 ⊢
  have x0 := row_cells q0
  go_still_tail 4, (by kernel_rfl)
  change wpList _ _ _ _ _ W0.drew
  go_wp2_with (go_at_call 42; refine (HS.out W0.drew (HI.out.then_ hb0.out).drew').mono ?_; rintro e w1 ⟨rfl, hb1'⟩; have hb1 := drop_drew hb1'; have r0 := row_then q0 hb1; have r1 := row_then q1 hb1; have X0 := row_cells r0; have X1 := row_cells r1; have B1 := Lib.hid (below_then hb0.out hb1); clear hb1 hb1' hb0 hq0 q0 q1 x0)
  go_region_law (first
    | (refine step_enter (o := { dst := some 21, op := _, type := _, pos := _, after := _, guard := none }) rfl 43 #[.agg #[.int .i64 kt, .int .i64 nt, .string st, .slice lat lt.length lct, .slice dat dt.length dct], .int .i64 j] (by go_simp) ((HB.out _ (HI.out.then_ B1.out).drew').mono ?_); rintro e w2 ⟨rfl, hb2'⟩; have hb2 := drop_drew hb2'; have B2 := Lib.hid (below_then B1.out hb2); have r02 := row_then r0 hb2; have r12 := row_then r1 hb2; have X02 := row_cells r02; refine ⟨_, rfl, ?_⟩; dsimp only [T.arg, T.cells])
    | (refine step_enter (o := { dst := some 24, op := _, type := _, pos := _, after := _, guard := none }) rfl 33 #[.agg #[.int .i64 ky, .int .i64 ny, .string sy, .slice lay ly.length lcy, .slice day dy.length dcy], .slice (some ⟨b, o + 1, none⟩) r.length (pc - 1)] (by go_simp) ((HY.out _ _ _ (HYI.out.then_ B2.out) (HPT.out.then_ B2.out)).mono ?_); rintro e w3 ⟨⟨k3, n3, s3, la3, lc3, l3, da3, dc3, d3⟩, rfl, hv3, hi3, ho3, hb3, hou3⟩; have B3 := Lib.hid (below_then B2.out hb3); have r03 := row_then r02 hb3; have r13 := row_then r12 hb3; have X03 := row_cells r03; have HV3 := Lib.hid hv3; have HI3 := Lib.hid hi3; have HO3 := Lib.hid ho3; have HU3 := Lib.hid hou3; have BS3 := Lib.hid hb3.size; clear hv3 hi3 ho3 hou3; refine ⟨_, rfl, ?_⟩; dsimp only [T.arg, T.cells])
    | (refine step_enter (o := { dst := some 25, op := _, type := _, pos := _, after := _, guard := none }) rfl 51 #[.agg #[.int .i64 kt, .int .i64 nt, .string st, .slice lat lt.length lct, .slice dat dt.length dct], .int .i64 j, .agg #[.int .i64 k3, .int .i64 n3, .string s3, .slice la3 l3.length lc3, .slice da3 d3.length dc3]] (by go_simp) ((HR.out _ HO3.out _ (HI.out.then_ B3.out) HI3.out).mono ?_); rintro e w4 ⟨⟨k4, n4, s4, la4, lc4, l4, da4, dc4, d4⟩, rfl, hv4, hi4, ho4, hb4, hou4⟩; have B4 := Lib.hid (below_then B3.out hb4); have r14 := row_then r13 hb4; have X14 := row_cells r14; have Y14 := row_free r14; have HV4 := Lib.hid hv4; have HI4 := Lib.hid hi4; have HO4 := Lib.hid ho4; have HU4 := Lib.hid hou4; clear hv4 hi4 ho4 hou4; refine ⟨_, rfl, ?_⟩; dsimp only [T.arg, T.cells]))
  all_goals
    clear HS HB HY HR X0 X1 X02 X03
    refine ‹∀ (a : Act) (w : World), _ → _› _ _ ?_
    go_wp2_with fail
    refine bodyPost_ret (v := .agg #[.int .i64 k4, .int .i64 n4, .string s4, .slice la4 l4.length lc4, .slice da4 d4.length dc4]) (by simp [results, Tryd.results33, go_sem, X14]) rfl ?_
    exact un_end HK.out HI.out (by have := lt_of_block r12; omega) BS3.out B4.out HU3.out HU4.out (HV4.out.trans (by rw [HV3.out])) HI4.out HO4.out (only_set5 w4 (w.heap.size + 1) _ _ _ _ _)
#print axioms unset_deep_any
end Go.Proofs.YtkklnfihjikilaaDoor
