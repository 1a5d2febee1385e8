/- The contract of set: no statement is proved here. -/
import Derived.Test.YtkklnfihjikilaaDoorPathWr
namespace Go.Proofs.YtkklnfihjikilaaDoor
open Go.RowKit
set_option maxRecDepth 100000

def RoomAt : T → List ByteArray → Prop
  | _, [] => True
  | t, _ :: r => (docLen t + 1) * 96 ≤ 140737488355328 ∧ ∀ (j : Nat) (y : T), kidT t j = some y → RoomAt y r
theorem roomAt_bare : ∀ r, RoomAt bareT r
  | [] => trivial
  | _ :: r => ⟨by decide, fun j y h => by simp [bareT, kidT] at h⟩
def SetTo (ins : List T) (o : Int × V) (w : World) (e : Ending) (w' : World) : Prop :=
  Below w.heap.size w w' ∧ ((o.1 ≠ 0 ∧ e = .returned (.tuple #[zeroT.arg, .int .i64 o.1])) ∨ (o.1 = 0 ∧ ∃ t' : T, e = .returned (.tuple #[t'.arg, .int .i64 0]) ∧ t'.val = o.2 ∧ t'.In w' ∧ t'.ok ∧ ∀ B0 B1 : Nat, B1 ≤ w.heap.size → (∀ t ∈ ins, t.Out B0 B1) → t'.Out B0 B1))
theorem set_uni {ins : List T} {o : Int × V} {w : World} {e : Ending} {w' : World} (h : SetTo ins o w e w') : ∃ (t' : T) (er : Int), e = .returned (.tuple #[t'.arg, .int .i64 er]) ∧ Below w.heap.size w w' ∧
    ((er ≠ 0 ∧ o.1 = er) ∨ (er = 0 ∧ o = (0, t'.val) ∧ t'.In w' ∧ t'.ok ∧ ∀ B0 B1 : Nat, B1 ≤ w.heap.size → (∀ t ∈ ins, t.Out B0 B1) → t'.Out B0 B1)) := by
  obtain ⟨hb, ⟨hne, rfl⟩ | ⟨h0, t', rfl, h1, h2, h3, h4⟩⟩ := h
  · exact ⟨zeroT, o.1, rfl, hb, .inl ⟨hne, rfl⟩⟩
  · obtain ⟨o1, o2⟩ := o
    simp only at h0 h1
    exact ⟨t', 0, rfl, hb, .inr ⟨rfl, by rw [h0, h1], h2, h3, h4⟩⟩
theorem setV_nil (v x : V) : setV v [] x = (0, x) := by obtain ⟨k, n, s, l, d⟩ := v; rw [setV]

theorem room_uni {t : T} {p : ByteArray} {w : World} {e : Ending} {w' : World} (h : RoomTo t p w e w') : ∃ (t' : T) (jj er : Int), e = .returned (.tuple #[t'.arg, .int .i64 jj, .int .i64 er]) ∧ Below w.heap.size w w' ∧
    ((er ≠ 0 ∧ ∀ r x, setV t.val (p :: r) x = (er, zeroV)) ∨ (er = 0 ∧ ∃ (j : Nat) (y : T), jj = (j : Int) ∧ kidT t' j = some y ∧ (y = bareT ∨ kidT t j = some y) ∧ t'.In w' ∧ t'.ok ∧ (∀ r x, setV t.val (p :: r) x = upV (setV y.val r x) t'.val j) ∧ ∀ B0 B1 : Nat, B1 ≤ w.heap.size → t.Out B0 B1 → t'.Out B0 B1)) := by
  obtain ⟨hb, ⟨er, hne, rfl, hsv⟩ | ⟨t', j, y, rfl, h1, h2, h3, h4, h5, h6⟩⟩ := h
  · exact ⟨zeroT, 0, er, rfl, hb, .inl ⟨hne, hsv⟩⟩
  · exact ⟨t', j, 0, rfl, hb, .inr ⟨rfl, j, y, rfl, h1, h2, h3, h4, h5, h6⟩⟩
theorem drop_drew2 {w w' : World} (h : Below w.drew.heap.size w.drew w') : Below w.heap.size w w' := ⟨h.os, h.tape, h.output, h.size, h.block⟩
theorem parts_tail {w : World} {b o pc : Nat} {p : ByteArray} {r : List ByteArray} (h : Parts w (some ⟨b, o, none⟩) pc (p :: r)) : Parts w (if pc = 1 then some ⟨b, o, none⟩ else some ⟨b, o + 1, none⟩) (pc - 1) r := by
  by_cases hc : pc = 1
  · rw [if_pos hc]
    subst hc
    exact (h.last _).2
  · rw [if_neg hc]
    exact h.tail
theorem set_done {tv tv' yv xv x4v : V} {p : ByteArray} {r : List ByteArray} {j : Nat} (hu : setV tv (p :: r) xv = upV (setV yv r xv) tv' j) (h4 : setV yv r xv = (0, x4v)) : setV tv (p :: r) xv = (0, replV tv' j x4v) := by
  rw [hu, h4, upV, if_pos rfl]
theorem set_err {w F : World} {ins : List T} {tv tv' yv xv : V} {p : ByteArray} {r : List ByteArray} {j : Nat} {er : Int} (hne : er ≠ 0) (h4 : (setV yv r xv).1 = er) (hu : setV tv (p :: r) xv = upV (setV yv r xv) tv' j) (hB : Below w.heap.size w F) :
    SetTo ins (setV tv (p :: r) xv) w (.returned (.tuple #[zeroT.arg, .int .i64 er])) F := by
  rw [hu, upV, if_neg (by rw [h4]; exact hne), h4]
  exact ⟨hB, .inl ⟨hne, rfl⟩⟩
theorem set_outs {w : World} {t x t' y x4 : T} {j A1 A6 : Nat} (hk : kidT t' j = some y) (hout' : ∀ B0 B1 : Nat, B1 ≤ A1 → t.Out B0 B1 → t'.Out B0 B1) (h1 : w.heap.size + 3 ≤ A1)
    (hout4 : ∀ B0 B1 : Nat, B1 ≤ A6 → (∀ u ∈ [y, x], u.Out B0 B1) → x4.Out B0 B1) (h6 : w.heap.size + 3 ≤ A6) : ∀ B0 B1 : Nat, B1 ≤ w.heap.size + 3 → t.Out B0 B1 → x.Out B0 B1 → x4.Out B0 B1 := by
  intro B0 B1 hB ht hx
  refine hout4 B0 B1 (by omega) fun u hu => ?_
  simp only [List.mem_cons, List.not_mem_nil, or_false] at hu
  rcases hu with rfl | rfl
  · exact kid_out (hout' B0 B1 (by omega) ht) hk
  · exact hx
theorem set_end {w w9 F : World} {t x t' x4 t9 : T} {o : Int × V} {v : V} {A1 A8 : Nat} (hin : t.In w) (hx : x.In w) (hs : o = (0, v)) (hv : t9.val = v) (hi : t9.In w9) (ok : t9.ok)
    (hou : ∀ B0 B1 : Nat, B1 ≤ w.heap.size + 3 → t.Out B0 B1 → x.Out B0 B1 → x4.Out B0 B1) (hout' : ∀ B0 B1 : Nat, B1 ≤ A1 → t.Out B0 B1 → t'.Out B0 B1) (h1 : w.heap.size + 3 ≤ A1)
    (hout9 : ∀ B0 B1 : Nat, B1 ≤ A8 → (∀ u ∈ [t', x4], u.Out B0 B1) → t9.Out B0 B1) (h8 : w.heap.size + 3 ≤ A8) (hB : Below w.heap.size w w9) (oF : Only [w.heap.size + 1 + 1] w9 F) :
    SetTo [t, x] o w (.returned (.tuple #[t9.arg, .int .i64 0])) F := by
  subst hs
  have hall : ∀ B0 B1 : Nat, B1 ≤ w.heap.size + 3 → t.Out B0 B1 → x.Out B0 B1 → t9.Out B0 B1 := by
    intro B0 B1 hb ht hx
    refine hout9 B0 B1 (by omega) fun u hu => ?_
    simp only [List.mem_cons, List.not_mem_nil, or_false] at hu
    rcases hu with rfl | rfl
    · exact hout' B0 B1 (by omega) ht
    · exact hou B0 B1 hb ht hx
  refine ⟨((Only.of_below (S := []) hB).then_ oF (by simp; omega)).below, .inr ⟨rfl, t9, rfl, hv, ?_, ok, fun B0 B1 hb ho => hall B0 B1 (by omega) (ho t (by simp)) (ho x (by simp))⟩⟩
  exact hi.only (hall w.heap.size (w.heap.size + 3) (Nat.le_refl _) (hin.out (Nat.le_refl _) _) (hx.out (Nat.le_refl _) _)) oF (by simp; omega)
set_option maxHeartbeats 4000000 in
theorem set_any : ∀ (ps : List ByteArray) (t x : T), t.ok → x.ok → RoomAt t ps → ∀ (pa : Option Addr) (pc : Nat) (w : World), t.In w → x.In w → Parts w pa pc ps → Calls Tryd.prog 31 #[t.arg, .slice pa ps.length pc, x.arg] w (SetTo [t, x] (setV t.val ps x.val) w) := by
  intro ps
  induction ps with
  | nil =>
    intro t x okt okx hr pa pc w hin hx hps
    rw [setV_nil]
    obtain ⟨kt, nt, st, lat, lct, lt, dat, dct, dt⟩ := t
    have HX := Lib.hid hx
    have HOX := Lib.hid okx
    clear hin hx okt okx hr hps
    obtain ⟨kx, nx, sx, lax, lcx, lx, dax, dcx, dx⟩ := x
    show Calls _ _ #[.agg #[.int .i64 kt, .int .i64 nt, .string st, .slice lat lt.length lct, .slice dat dt.length dct], .slice pa 0 pc, .agg #[.int .i64 kx, .int .i64 nx, .string sx, .slice lax lx.length lcx, .slice dax dx.length dcx]] _ _
    go_enter Tryd.func31, Tryd.ntmps31
    go_wp2_with fail
    refine bodyPost_ret (v := .tuple #[.agg #[.int .i64 kx, .int .i64 nx, .string sx, .slice lax lx.length lcx, .slice dax dx.length dcx], .int .i64 0]) (by simp [results, Tryd.results31, go_sem]) rfl ?_
    exact ⟨below3 _ _ _ _, .inr ⟨rfl, _, rfl, rfl, HX.out.then_ (below3 _ _ _ _), HOX.out, fun _ _ _ h => h _ (by simp)⟩⟩
  | cons p r ih =>
    intro t x okt okx hr pa pc w hin hx hps
    obtain ⟨b, o, rfl, hc0, hp0⟩ := hps.head
    have HI := Lib.hid hin
    have HX := Lib.hid hx
    have HOX := Lib.hid okx
    have HP := Lib.hid hps
    have HPC := Lib.hid hc0
    have HW := Lib.hid (withRoom_any t hr.1 okt p hp0)
    have HR := Lib.hid hr
    have HIH := Lib.hid ih
    clear hin hx okt okx hr hps hc0 ih
    obtain ⟨kt, nt, st, lat, lct, lt, dat, dct, dt⟩ := t
    obtain ⟨kx, nx, sx, lax, lcx, lx, dax, dcx, dx⟩ := x
    show Calls _ _ #[.agg #[.int .i64 kt, .int .i64 nt, .string st, .slice lat lt.length lct, .slice dat dt.length dct], .slice (some ⟨b, o, none⟩) (r.length + 1) pc, .agg #[.int .i64 kx, .int .i64 nx, .string sx, .slice lax lx.length lcx, .slice dax dx.length dcx]] _ _
    have hq : ∀ o1 o2 o3, (((w.alloc o1).alloc o2).alloc o3).cell? ⟨b, o, none⟩ = some (.string p) := fun o1 o2 o3 => ((below3 w o1 o2 o3).cell (cell_lt HPC.out)).trans HPC.out
    have q0 := rep_q0 w (.cells #[.int .i64 kt, .int .i64 nt, .string st, .slice lat lt.length lct, .slice dat dt.length dct] 31) (.cells #[.int .i64 kx, .int .i64 nx, .string sx, .slice lax lx.length lcx, .slice dax dx.length dcx] 31) zeroObj ⟨_, _, _, rfl⟩
    have q1 := rep_q1 w (.cells #[.int .i64 kt, .int .i64 nt, .string st, .slice lat lt.length lct, .slice dat dt.length dct] 31) (.cells #[.int .i64 kx, .int .i64 nx, .string sx, .slice lax lx.length lcx, .slice dax dx.length dcx] 31) zeroObj ⟨_, _, _, rfl⟩
    have q2 := rep_q2 w (.cells #[.int .i64 kt, .int .i64 nt, .string st, .slice lat lt.length lct, .slice dat dt.length dct] 31) (.cells #[.int .i64 kx, .int .i64 nx, .string sx, .slice lax lx.length lcx, .slice dax dx.length dcx] 31) zeroObj
    have hb0 := Lib.hid (below3 w (.cells #[.int .i64 kt, .int .i64 nt, .string st, .slice lat lt.length lct, .slice dat dt.length dct] 31) (.cells #[.int .i64 kx, .int .i64 nx, .string sx, .slice lax lx.length lcx, .slice dax dx.length dcx] 31) zeroObj)
    have hs0 := Lib.hid (show (((w.alloc (.cells #[.int .i64 kt, .int .i64 nt, .string st, .slice lat lt.length lct, .slice dat dt.length dct] 31)).alloc (.cells #[.int .i64 kx, .int .i64 nx, .string sx, .slice lax lx.length lcx, .slice dax dx.length dcx] 31)).alloc zeroObj).heap.size = w.heap.size + 1 + 1 + 1 by simp)
    have hq0 := hq (.cells #[.int .i64 kt, .int .i64 nt, .string st, .slice lat lt.length lct, .slice dat dt.length dct] 31) (.cells #[.int .i64 kx, .int .i64 nx, .string sx, .slice lax lx.length lcx, .slice dax dx.length dcx] 31) zeroObj
    clear hq
    unfold zeroObj at q0 q1 q2 hb0 hs0 hq0
    go_enter Tryd.func31, Tryd.ntmps31
    go_wp2_with fail
    generalize (((w.alloc (.cells #[.int .i64 kt, .int .i64 nt, .string st, .slice lat lt.length lct, .slice dat dt.length dct] 31)).alloc (.cells #[.int .i64 kx, .int .i64 nx, .string sx, .slice lax lx.length lcx, .slice dax dx.length dcx] 31)).alloc (.cells #[.int .i64 0, .int .i64 0, .string ⟨#[]⟩, .slice none 0 0, .slice none 0 0] 31)) = W0 at q0 q1 q2 hb0 hs0 hq0 ⊢
    have x0 := row_cells q0
    have y0 := row_free q0
    have l0 : w.heap.size + 1 + 1 < W0.heap.size := by have := hs0.out; omega
    go_region_law (first | (refine step_enter (o := { dst := some 19, op := _, type := _, pos := _, after := _, guard := none }) rfl 50 #[.agg #[.int .i64 kt, .int .i64 nt, .string st, .slice lat lt.length lct, .slice dat dt.length dct], .string p] (by go_simp) ((HW.out _ (HI.out.then_ hb0.out).drew').mono ?_); rintro e w1 hrt; obtain ⟨⟨k', n', s', la', lc', l', da', dc', d'⟩, jj, er, rfl, hb1', hor⟩ := room_uni hrt; have hb1 : Below W0.heap.size W0 w1 := ⟨hb1'.os, hb1'.tape, hb1'.output, hb1'.size, hb1'.block⟩; have r0 := row_then q0 hb1; have X0 := row_cells r0; have Y0 := row_free r0; have HOR := Lib.hid hor; clear hor hrt; refine ⟨_, rfl, ?_⟩; dsimp only [T.arg, T.cells]))
    all_goals
      refine ‹∀ (a : Act) (w : World), _ → _› _ _ ?_
      clear hb1' hq0 q0 x0 y0
      simp only [List.getElem_toArray, List.getElem_cons_succ, List.getElem_cons_zero, Act.put, List.setIfInBounds_toArray, List.set_cons_succ, List.set_cons_zero]
      have o5 := only_set5 w1 w.heap.size (.int .i64 k') (.int .i64 n') (.string s') (.slice la' l'.length lc') (.slice da' d'.length dc')
      have R0 := set5_row (.int .i64 k') (.int .i64 n') (.string s') (.slice la' l'.length lc') (.slice da' d'.length dc') r0
      have r1 := row_then q1 hb1
      have r2 := row_then q2 hb1
      have R1 := (o5.block _ (lt_of_block r1) (by simp)).trans r1
      have R2 := (o5.block _ (lt_of_block r2) (by simp; omega)).trans r2
      have B1 := Lib.hid (below_then hb0.out hb1)
      generalize ((((w1.setCell ⟨w.heap.size, 0, none⟩ (.int .i64 k')).setCell ⟨w.heap.size, 1, none⟩ (.int .i64 n')).setCell ⟨w.heap.size, 2, none⟩ (.string s')).setCell ⟨w.heap.size, 3, none⟩ (.slice la' l'.length lc')).setCell ⟨w.heap.size, 4, none⟩ (.slice da' d'.length dc') = w5 at o5 R0 R1 R2 ⊢
      have B5 := Lib.hid ((Only.of_below (S := []) B1.out).then_ o5 (by simp)).below
      have S1 := Lib.hid (show w.heap.size + 3 ≤ W0.heap.size by have := hs0.out; omega)
      have S5 := Lib.hid (show w.heap.size + 3 ≤ w5.heap.size by have := hs0.out; have := hb1.size; have := o5.size; omega)
      clear r0 r1 r2 q1 q2 X0 Y0 hb1 l0 hs0 hb0
      have X5 := row_cells R0
      have Y5 := row_free R0
      have X6 := row_cells R1
      have Y6 := row_free R1
      have X7 := row_cells R2
      have Y7 := row_free R2
      rcases HOR.out with ⟨hne, hsv⟩ | ⟨rfl, j, y, rfl, hk', hy', hi', ho', hu', hout'⟩
      · have hne2 : (er != 0) = true := by simpa using hne
        have HSV := Lib.hid hsv
        clear HIH HR HW HOR hsv
        go_wp2_with fail
        refine bodyPost_ret (v := .tuple #[zeroT.arg, .int .i64 er]) (by simp [results, Tryd.results31, go_sem, X7, zeroT, T.arg, T.cells]) rfl ?_
        rw [HSV.out]
        exact ⟨((Only.of_below (S := []) B5.out).then_ (only_set5 w5 (w.heap.size + 1 + 1) _ _ _ _ _) (by simp; omega)).below, .inl ⟨hne, rfl⟩⟩
      · have HT5 := Lib.hid (hi'.only (hout' w.heap.size (w.heap.size + 3) S1.out (HI.out.out (Nat.le_refl _) _)) o5 (by simp))
        have OT := Lib.hid (hout' w.heap.size (w.heap.size + 3) S1.out (HI.out.out (Nat.le_refl _) _))
        have HOT := Lib.hid ho'
        have HK := Lib.hid hk'
        have HYI := Lib.hid (kid_in HT5.out hk')
        have HYO := Lib.hid (kid_ok ho' hk')
        have HU := Lib.hid hu'
        have HOUT := Lib.hid hout'
        have HRY := Lib.hid (show RoomAt y r by rcases hy' with rfl | h; exact roomAt_bare r; exact HR.out.2 j y h)
        have HB := Lib.hid (fun w h => below_any _ y ho' j w h hk')
        have HPT := Lib.hid (fun w' (h : Below w.heap.size w w') => parts_tail (HP.out.then_ h))
        have hl2 : (1 : Int) ≤ (r.length : Int) + 1 := by omega
        clear hi' ho' hk' hu' hout' hy' HR HW HOR HPC o5
        obtain ⟨ky, ny, sy, lay, lcy, ly, day, dcy, dy⟩ := y
        go_wp2_with fail
        go_region_law (first
          | (refine step_enter (o := { dst := some 30, op := _, type := _, pos := _, after := _, guard := none }) rfl 43 #[.agg #[.int .i64 k', .int .i64 n', .string s', .slice la' l'.length lc', .slice da' d'.length dc'], .int .i64 j] (by go_simp) ((HB.out _ HT5.out.drew').mono ?_); rintro e w6 ⟨rfl, hb6'⟩; have hb6 := drop_drew2 hb6'; have B6 := Lib.hid (below_then B5.out hb6); have R06 := row_then R0 hb6; have R16 := row_then R1 hb6; have R26 := row_then R2 hb6; have X06 := row_cells R06; have X16 := row_cells R16; have T6 := Lib.hid (HT5.out.then_ hb6); have Y6i := Lib.hid (HYI.out.then_ hb6); have S6 := Lib.hid (Nat.le_trans S5.out hb6.size); refine ⟨_, rfl, ?_⟩; dsimp only [T.arg, T.cells])
          | (refine step_enter (o := { dst := some 34, op := _, type := _, pos := _, after := _, guard := none }) rfl 31 #[.agg #[.int .i64 ky, .int .i64 ny, .string sy, .slice lay ly.length lcy, .slice day dy.length dcy], .slice (if pc = 1 then some ⟨b, o, none⟩ else some ⟨b, o + 1, none⟩) r.length (pc - 1), .agg #[.int .i64 kx, .int .i64 nx, .string sx, .slice lax lx.length lcx, .slice dax dx.length dcx]] (by go_simp) ((HIH.out _ _ HYO.out HOX.out HRY.out _ _ _ Y6i.out (HX.out.then_ B6.out) (HPT.out _ B6.out)).mono ?_); rintro e w7 hst; obtain ⟨⟨k4, n4, s4, la4, lc4, l4, da4, dc4, d4⟩, er, rfl, hb7, hor⟩ := set_uni hst; have B7 := Lib.hid (below_then B6.out hb7); have R07 := row_then R06 hb7; have R17 := row_then R16 hb7; have R27 := row_then R26 hb7; have X17 := row_cells R17; have Y17 := row_free R17; have T7 := Lib.hid (T6.out.then_ hb7); have S7 := Lib.hid hb7.size; have HOR := Lib.hid hor; clear hor hst; refine ⟨_, rfl, ?_⟩; dsimp only [T.arg, T.cells]))
        all_goals
          refine ‹∀ (a : Act) (w : World), _ → _› _ _ ?_
          simp only [List.getElem_toArray, List.getElem_cons_succ, List.getElem_cons_zero, Act.put, List.setIfInBounds_toArray, List.set_cons_succ, List.set_cons_zero]
          have o8 := only_set5 w7 (w.heap.size + 1) (.int .i64 k4) (.int .i64 n4) (.string s4) (.slice la4 l4.length lc4) (.slice da4 d4.length dc4)
          have R18 := set5_row (.int .i64 k4) (.int .i64 n4) (.string s4) (.slice la4 l4.length lc4) (.slice da4 d4.length dc4) R17
          clear R0 R1 R2 R06 R16 R26 X06 X16 X17 Y17 R17 X5 Y5 X6 Y6 X7 Y7
          generalize ((((w7.setCell ⟨w.heap.size + 1, 0, none⟩ (.int .i64 k4)).setCell ⟨w.heap.size + 1, 1, none⟩ (.int .i64 n4)).setCell ⟨w.heap.size + 1, 2, none⟩ (.string s4)).setCell ⟨w.heap.size + 1, 3, none⟩ (.slice la4 l4.length lc4)).setCell ⟨w.heap.size + 1, 4, none⟩ (.slice da4 d4.length dc4) = w8 at o8 R18 ⊢
          have R08 := (o8.block _ (lt_of_block R07) (by simp)).trans R07
          have R28 := (o8.block _ (lt_of_block R27) (by simp)).trans R27
          have O8 := Lib.hid o8
          clear R07 R27 o8
          have X08 := row_cells R08
          have X18 := row_cells R18
          have X28 := row_cells R28
          have Y28 := row_free R28
          clear HB HIH HPT HYI HT5 HRY
          rcases HOR.out with ⟨hne, hsv⟩ | ⟨rfl, hsv, hi4, ho4, hout4⟩
          · have hne2 : (er != 0) = true := by simpa using hne
            have HSV := Lib.hid hsv
            clear hsv HOR
            go_wp2_with fail
            all_goals refine bodyPost_ret (v := .tuple #[zeroT.arg, .int .i64 er]) (by simp [results, Tryd.results31, go_sem, X28, zeroT, T.arg, T.cells]) rfl ?_
            all_goals exact set_err hne HSV.out (HU.out _ _) ((((Only.of_below (S := []) B7.out).then_ O8.out (by simp)).then_ (only_set5 w8 (w.heap.size + 1 + 1) _ _ _ _ _) (by simp; omega)).below)
          · have HSV := Lib.hid hsv
            have HO4 := Lib.hid ho4
            have HOU := Lib.hid (set_outs HK.out HOUT.out S1.out hout4 S6.out (t := .mk kt nt st lat lct lt dat dct dt))
            have HX4 := Lib.hid (hi4.only (HOU.out w.heap.size (w.heap.size + 3) (Nat.le_refl _) (HI.out.out (Nat.le_refl _) _) (HX.out.out (Nat.le_refl _) _)) O8.out (by simp))
            have HT8 := Lib.hid (T7.out.only OT.out O8.out (by simp))
            have HRP := Lib.hid (replaced_any _ _ _ HOT.out ho4 j HK.out w8 HT8.out HX4.out)
            clear hsv ho4 hout4 hi4 HOR
            go_wp2_with (go_at_call 51; refine HRP.out.mono ?_; rintro e w9 ⟨⟨k9, n9, s9, la9, lc9, l9, da9, dc9, d9⟩, rfl, hv9, hi9, ho9, hb9, hout9⟩; dsimp only [T.arg, T.cells]; have R29 := row_then R28 hb9; have X29 := row_cells R29; have Y29 := row_free R29; have HV9 := Lib.hid hv9; have HI9 := Lib.hid hi9; have HO9 := Lib.hid ho9; have HOU9 := Lib.hid hout9; clear hv9 hi9 ho9 hout9)
            all_goals refine bodyPost_ret (v := .tuple #[.agg #[.int .i64 k9, .int .i64 n9, .string s9, .slice la9 l9.length lc9, .slice da9 d9.length dc9], .int .i64 0]) (by simp [results, Tryd.results31, go_sem, X29]) rfl ?_
            all_goals exact set_end HI.out HX.out (set_done (HU.out _ _) HSV.out) HV9.out HI9.out HO9.out HOU.out HOUT.out S1.out HOU9.out (by have h1 := S6.out; have h2 := S7.out; have h3 := O8.out.size; omega) ((((Only.of_below (S := []) B7.out).then_ O8.out (by simp)).then_ (Only.of_below (S := []) hb9) (by simp)).below) (only_set5 w9 (w.heap.size + 1 + 1) _ _ _ _ _)
#print axioms set_any
end Go.Proofs.YtkklnfihjikilaaDoor
