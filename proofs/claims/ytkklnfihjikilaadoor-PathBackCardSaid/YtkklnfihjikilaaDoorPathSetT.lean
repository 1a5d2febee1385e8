/- The contract of Set: no statement is proved here. -/
import Derived.Test.YtkklnfihjikilaaDoorPathSet
namespace Go.Proofs.YtkklnfihjikilaaDoor
open Go.RowKit
set_option maxRecDepth 100000

/-- What Set yields, in memory of its own, or the fault. -/
def SetsTo (o : Int × V) (w : World) (e : Ending) (w' : World) : Prop :=
  Below w.heap.size w w' ∧ ((o.1 ≠ 0 ∧ e = .returned (.tuple #[zeroT.arg, .int .i64 o.1])) ∨ (o.1 = 0 ∧ ∃ t' : T, e = .returned (.tuple #[t'.arg, .int .i64 0]) ∧ t'.val = o.2 ∧ t'.Own w' w.heap.size))
def setO (v : V) (ps : List ByteArray) (x : V) : Int × V := if ps = [] ∨ 10 < ps.length then (40, zeroV) else setV v ps x
theorem set_fail {w w1 : World} {o : Int × V} {er : Int} {a b c d e : Value} {O : Obj} (hne : er ≠ 0) (h : o.1 = er) (hb : Below w.heap.size w w1) :
    SetsTo o w (.returned (.tuple #[zeroT.arg, .int .i64 er])) ((((((w1.setCell ⟨w.heap.size + 1 + 1, 0, none⟩ a).setCell ⟨w.heap.size + 1 + 1, 1, none⟩ b).setCell ⟨w.heap.size + 1 + 1, 2, none⟩ c).setCell ⟨w.heap.size + 1 + 1, 3, none⟩ d).setCell ⟨w.heap.size + 1 + 1, 4, none⟩ e).alloc O) := by
  subst h
  exact ⟨(((Only.of_below (S := []) hb).then_ (only_set5 w1 (w.heap.size + 1 + 1) a b c d e) (by simp; omega)).alloc O).below, .inl ⟨hne, rfl⟩⟩
theorem set_well {w w1 w2 : World} {o : Int × V} {v : V} {t5 : T} {a b c d e : Value} {O : Obj} (h : o = (0, v)) (hv : t5.val = v) (ho : t5.Own w2 (w1.alloc O).heap.size) (hb : Below w.heap.size w w1) (hs : w.heap.size + 1 + 1 + 1 ≤ w1.heap.size) (hb2 : Below (w1.alloc O).heap.size (w1.alloc O) w2) :
    SetsTo o w (.returned (.tuple #[t5.arg, .int .i64 0])) (((((w2.setCell ⟨w.heap.size + 1 + 1, 0, none⟩ a).setCell ⟨w.heap.size + 1 + 1, 1, none⟩ b).setCell ⟨w.heap.size + 1 + 1, 2, none⟩ c).setCell ⟨w.heap.size + 1 + 1, 3, none⟩ d).setCell ⟨w.heap.size + 1 + 1, 4, none⟩ e) := by
  subst h
  refine ⟨((Only.of_below (S := []) (below_then (below_then hb (below1 w1 O)) hb2)).then_ (only_set5 w2 (w.heap.size + 1 + 1) a b c d e) (by simp; omega)).below, .inr ⟨rfl, t5, rfl, hv, ?_⟩⟩
  exact ho.keep (only_set5 w2 (w.heap.size + 1 + 1) a b c d e) (by simp; omega) (by simp; omega)
set_option maxHeartbeats 4000000 in
theorem Set_any (t x : T) (okt : t.ok) (okx : x.ok) (pa : Option Addr) (pc : Nat) (ps : List ByteArray) (hr : RoomAt t ps) (w : World) (hin : t.In w) (hx : x.In w) (hps : Parts w pa pc ps) :
    Calls Tryd.prog 12 #[t.arg, .slice pa ps.length pc, x.arg] w (SetsTo (setO t.val ps x.val) w) := by
  have HS := Lib.hid (fun w hin hx hps => set_any ps t x okt okx hr pa pc w hin hx hps)
  have HI := Lib.hid hin
  have HX := Lib.hid hx
  have HP := Lib.hid hps
  unfold setO
  clear okt okx hr hin hx hps
  obtain ⟨kt, nt, st, lat, lct, lt, dat, dct, dt⟩ := t
  obtain ⟨kx, nx, sx, lax, lcx, lx, dax, dcx, dx⟩ := x
  show Calls _ _ #[.agg #[.int .i64 kt, .int .i64 nt, .string st, .slice lat lt.length lct, .slice dat dt.length dct], .slice pa ps.length pc, .agg #[.int .i64 kx, .int .i64 nx, .string sx, .slice lax lx.length lcx, .slice dax dx.length dcx]] _ _
  have q2 := rep_q2 w (.cells #[.int .i64 kt, .int .i64 nt, .string st, .slice lat lt.length lct, .slice dat dt.length dct] 31) (.cells #[.int .i64 kx, .int .i64 nx, .string sx, .slice lax lx.length lcx, .slice dax dx.length dcx] 31) zeroObj
  have hb0 := Lib.hid (below3 w (.cells #[.int .i64 kt, .int .i64 nt, .string st, .slice lat lt.length lct, .slice dat dt.length dct] 31) (.cells #[.int .i64 kx, .int .i64 nx, .string sx, .slice lax lx.length lcx, .slice dax dx.length dcx] 31) zeroObj)
  have hs0 := Lib.hid (show (((w.alloc (.cells #[.int .i64 kt, .int .i64 nt, .string st, .slice lat lt.length lct, .slice dat dt.length dct] 31)).alloc (.cells #[.int .i64 kx, .int .i64 nx, .string sx, .slice lax lx.length lcx, .slice dax dx.length dcx] 31)).alloc zeroObj).heap.size = w.heap.size + 1 + 1 + 1 by simp)
  unfold zeroObj at q2 hb0 hs0
  replace q2 := Lib.hid q2
  cases ps with
  | nil =>
    rw [if_pos (.inl rfl)]
    go_enter Tryd.func12, Tryd.ntmps12
    go_wp2_with fail
    refine bodyPost_ret (v := .tuple #[zeroT.arg, .int .i64 40]) (by simp [results, Tryd.results12, go_sem, zeroT, T.arg, T.cells]) rfl ?_
    exact ⟨hb0.out, .inl ⟨by decide, rfl⟩⟩
  | cons p r =>
    by_cases h10 : 10 < (p :: r).length
    · rw [if_pos (.inr h10)]
      have h10b : decide ((10 : Int) < ((r.length + 1 : Nat) : Int)) = true := decide_eq_true (by simp at h10; omega)
      simp only [List.length_cons]
      go_enter Tryd.func12, Tryd.ntmps12
      go_wp2_with (go_at_call 28; refine (tooMany_any _ _ _ _).mono ?_; rintro e w1 ⟨rfl, rfl⟩; rw [h10b])
      refine bodyPost_ret (v := .tuple #[zeroT.arg, .int .i64 40]) (by simp [results, Tryd.results12, go_sem, zeroT, T.arg, T.cells]) rfl ?_
      exact ⟨hb0.out, .inl ⟨by decide, rfl⟩⟩
    · rw [if_neg (by simp at h10 ⊢; omega)]
      have h10b : decide ((10 : Int) < ((r.length + 1 : Nat) : Int)) = false := decide_eq_false (by simp at h10; omega)
      simp only [List.length_cons] at HS ⊢
      clear h10
      go_enter Tryd.func12, Tryd.ntmps12
      go_wp2_with (go_at_call 28; refine (tooMany_any _ _ _ _).mono ?_; rintro e w1 ⟨rfl, rfl⟩; rw [h10b])
      refine (HS.out _ (HI.out.then_ hb0.out) (HX.out.then_ hb0.out) (HP.out.then_ hb0.out)).mono ?_
      rintro e w1 hst
      obtain ⟨⟨k4, n4, s4, la4, lc4, l4, da4, dc4, d4⟩, er, rfl, hb1, hor⟩ := set_uni hst
      have r2 := row_then q2.out hb1
      have S1 := Lib.hid (Nat.le_trans (Nat.le_of_eq hs0.out.symm) hb1.size)
      have B1 := Lib.hid (below_then hb0.out hb1)
      clear hst hb1 q2 hb0 hs0
      dsimp only [T.arg, T.cells]
      rcases hor with ⟨hne, hsv⟩ | ⟨rfl, hsv, hi4, ho4, -⟩
      · have hne2 : (er != 0) = true := by simpa using hne
        have HSV := Lib.hid hsv
        have l1 := lt_of_block r2
        have x2 := row_cells r2
        have y2 := row_free r2
        clear hsv
        go_wp2_with fail
        all_goals refine bodyPost_ret (v := .tuple #[zeroT.arg, .int .i64 er]) (by simp [results, Tryd.results12, go_sem, x2, l1, Nat.ne_of_lt l1, zeroT, T.arg, T.cells]) rfl ?_
        all_goals exact set_fail hne HSV.out B1.out
      · have HSV := Lib.hid hsv
        have HW := Lib.hid (hi4.then_ (below1 w1 (.cells #[.int .i64 k4, .int .i64 n4, .string s4, .slice la4 l4.length lc4, .slice da4 d4.length dc4] 31)))
        have HC := Lib.hid (clone_any _ ho4)
        have l1 := lt_of_block r2
        have r3 := row_then r2 (below1 w1 (.cells #[.int .i64 k4, .int .i64 n4, .string s4, .slice la4 l4.length lc4, .slice da4 d4.length dc4] 31))
        clear hsv hi4 ho4
        go_wp2_with (go_at_call 32; refine (HC.out _ HW.out).mono ?_; rintro e w2 ⟨⟨k5, n5, s5, la5, lc5, l5, da5, dc5, d5⟩, rfl, hv2, ho2, b2⟩; dsimp only [T.arg, T.cells]; have r4 := row_then r3 b2; have x4 := row_cells r4; have y4 := row_free r4; have HV2 := Lib.hid hv2; have HO2 := Lib.hid ho2; have HB2 := Lib.hid b2; clear hv2 ho2 b2)
        all_goals refine bodyPost_ret (v := .tuple #[.agg #[.int .i64 k5, .int .i64 n5, .string s5, .slice la5 l5.length lc5, .slice da5 d5.length dc5], .int .i64 0]) (by simp [results, Tryd.results12, go_sem, x4]) rfl ?_
        all_goals exact set_well HSV.out HV2.out HO2.out B1.out S1.out HB2.out
#print axioms Set_any
end Go.Proofs.YtkklnfihjikilaaDoor
