/- PathBack: for every two values and every two rows of texts that the arguments may read as (nothing else is asked) the law returns true, and each argument reads as it did; package utf8's two tables are as the program's text lays them. Ahead of it: the contracts of unset and starts, and that a right value has room. -/
import Derived.Test.YtkklnfihjikilaaDoorPathUn
import Derived.Test.YtkklnfihjikilaaDoorPathWr
import Derived.Test.YtkklnfihjikilaaDoorWithout
import Derived.Test.YtkklnfihjikilaaDoorPathSetT
import Derived.Test.YtkklnfihjikilaaDoorRight2
import Derived.Test.YtkklnfihjikilaaDoorPathStand
import Derived.Test.YtkklnfihjikilaaDoorPathAwake
import Derived.Test.YtkklnfihjikilaaDoorSame
import Derived.Test.YtkklnfihjikilaaDoorBase4
namespace Go.Proofs.YtkklnfihjikilaaDoor
open Go.RowKit
set_option maxRecDepth 100000

theorem un_own {w w1 w2 F : World} {ins : List T} {v : V} {t2 : T} (ho : t2.Own w2 w1.heap.size) (hs : w.heap.size + 2 ≤ w1.heap.size) (b2 : Below w.heap.size w w2) (hv : t2.val = v) (o5 : Only [w.heap.size + 1] w2 F) : MakesT ins v w (.returned t2.arg) F := by
  have hk := ho.keep o5 (by simp; omega) (Nat.le_refl _)
  exact ⟨t2, rfl, hv, owns_in _ hk.owns, hk.ok, ((Only.of_below (S := []) b2).then_ o5 (by simp)).below, fun B0 B1 h1 _ => ho.out (by omega)⟩
theorem un_put {w w1 w4 F : World} {t t4 : T} {v : V} (hin : t.In w) (hs : w.heap.size + 2 ≤ w1.heap.size) (b4 : Below w.heap.size w w4) (hou4 : ∀ B0 B1 : Nat, B1 ≤ w1.heap.size → (∀ u ∈ [t, nullT], u.Out B0 B1) → t4.Out B0 B1)
    (hv : t4.val = v) (hi4 : t4.In w4) (ok4 : t4.ok) (o5 : Only [w.heap.size + 1] w4 F) : MakesT [t] v w (.returned t4.arg) F := by
  have hout : ∀ B0 B1, B1 ≤ w1.heap.size → t.Out B0 B1 → t4.Out B0 B1 := fun B0 B1 h1 ho => hou4 B0 B1 h1 (by
    intro u hu
    simp only [List.mem_cons, List.not_mem_nil, or_false] at hu
    rcases hu with rfl | rfl
    · exact ho
    · exact none_out _ _ _)
  refine ⟨t4, rfl, hv, ?_, ok4, ((Only.of_below (S := []) b4).then_ o5 (by simp)).below, fun B0 B1 h1 ho => hout B0 B1 (by omega) (ho t (by simp))⟩
  exact hi4.only (hout w.heap.size (w.heap.size + 2) hs (hin.out (Nat.le_refl _) _)) o5 (by simp)

set_option maxHeartbeats 8000000 in
theorem unset_doc_any (p : ByteArray) (t y : T) (okt : t.ok) (b o pc j : Nat) (w : World) (hin : t.In w) (hps : Parts w (some ⟨b, o, none⟩) pc [p]) (hk : kindV t.val = 5) (s1 : standV t.val p = (j : Int)) (s2 : childV t.val p = some y.val) :
    Calls Tryd.prog 33 #[t.arg, .slice (some ⟨b, o, none⟩) 1 pc] w (MakesT [t] (unsetV t.val [p]) w) := by
  rw [unset_doc s2 hk]
  have HS := stand_any t okt p
  rw [s1] at HS
  replace HS := Lib.hid HS
  have HW := Lib.hid (fun w h => without_any t p w okt h)
  obtain ⟨b', o', e0, hc0, hp0⟩ := hps.head
  cases e0
  have HI := Lib.hid hin
  have hj0 : ¬ ((j : Int) < 0) := by omega
  have hc1 : ∀ A B, ((w.alloc A).alloc B).cell? ⟨b, o, none⟩ = some (.string p) := fun A B => ((below2 w A B).cell (cell_lt hc0)).trans hc0
  clear hin okt s1 s2 hps
  obtain ⟨kt, nt, st, lat, lct, lt, dat, dct, dt⟩ := t
  rw [T.val_mk, kindV] at hk
  subst hk
  show Calls _ _ #[.agg #[.int .i64 5, .int .i64 nt, .string st, .slice lat lt.length lct, .slice dat dt.length dct], .slice (some ⟨b, o, none⟩) 1 pc] _ _
  have q0 := heap_alloc2_old w (.cells #[.int .i64 5, .int .i64 nt, .string st, .slice lat lt.length lct, .slice dat dt.length dct] 31) zeroObj
  have q1 := heap_alloc2_new w (.cells #[.int .i64 5, .int .i64 nt, .string st, .slice lat lt.length lct, .slice dat dt.length dct] 31) zeroObj
  have hq0 := hc1 (.cells #[.int .i64 5, .int .i64 nt, .string st, .slice lat lt.length lct, .slice dat dt.length dct] 31) zeroObj
  have hb0 := Lib.hid (below2 w (.cells #[.int .i64 5, .int .i64 nt, .string st, .slice lat lt.length lct, .slice dat dt.length dct] 31) zeroObj)
  clear hc1
  unfold zeroObj at q0 q1 hq0 hb0
  have HC := Lib.hid hc0
  clear hc0
  go_enter Tryd.func33, Tryd.ntmps33
  go_wp2_with fail
  generalize ((w.alloc (.cells #[.int .i64 5, .int .i64 nt, .string st, .slice lat lt.length lct, .slice dat dt.length dct] 31)).alloc (.cells #[.int .i64 0, .int .i64 0, .string ⟨#[]⟩, .slice none 0 0, .slice none 0 0] 31)) = W0 at q0 q1 hq0 hb0 ⊢
  have x0 := row_cells q0
  go_still_tail 4, (by kernel_rfl)
  change wpList _ _ _ _ _ W0.drew
  go_wp2_with (go_at_call 42; refine (HS.out W0.drew (HI.out.then_ hb0.out).drew').mono ?_; rintro e w1 ⟨rfl, hb1'⟩; have hb1 := drop_drew hb1'; have r0 := row_then q0 hb1; have r1 := row_then q1 hb1; have X0 := row_cells r0; have B1 := Lib.hid (below_then hb0.out hb1); have XC := (B1.out.cell (cell_lt HC.out)).trans HC.out; clear hb1 hb1' hb0 hq0 q0 q1 x0)
  go_still_tail 4, (by kernel_rfl)
  change wpList _ _ _ _ _ w1.drew
  go_wp2_with (go_at_call 54; refine (HW.out w1.drew (HI.out.then_ B1.out).drew').mono ?_; rintro e w2 ⟨⟨k2, n2, s2, la2, lc2, l2, da2, dc2, d2⟩, rfl, hv2, ho2, b2'⟩; dsimp only [T.arg, T.cells]; have b2 := drop_drew b2'; have r12 := row_then r1 b2; have X12 := row_cells r12; have Y12 := row_free r12)
  refine bodyPost_ret (v := .agg #[.int .i64 k2, .int .i64 n2, .string s2, .slice la2 l2.length lc2, .slice da2 d2.length dc2]) (by simp [results, Tryd.results33, go_sem, X12]) rfl ?_
  exact un_own ho2 (by have := lt_of_block r1; show _ ≤ w1.heap.size; omega) (below_then B1.out b2) hv2 (only_set5 w2 (w.heap.size + 1) _ _ _ _ _)

set_option maxHeartbeats 8000000 in
theorem unset_list_any (p : ByteArray) (t y : T) (okt : t.ok) (b o pc j : Nat) (w : World) (hin : t.In w) (hps : Parts w (some ⟨b, o, none⟩) pc [p]) (hk : kindV t.val ≠ 5) (s1 : standV t.val p = (j : Int)) (s2 : childV t.val p = some y.val) (s3 : kidT t j = some y) :
    Calls Tryd.prog 33 #[t.arg, .slice (some ⟨b, o, none⟩) 1 pc] w (MakesT [t] (unsetV t.val [p]) w) := by
  rw [unset_list s1 s2 hk]
  have HS := stand_any t okt p
  rw [s1] at HS
  replace HS := Lib.hid HS
  have HR := Lib.hid (fun w h => replaced_any t nullT y okt null_ok j s3 w h (none_in w 2))
  obtain ⟨b', o', e0, hc0, hp0⟩ := hps.head
  cases e0
  have HI := Lib.hid hin
  have hj0 : ¬ ((j : Int) < 0) := by omega
  have hc1 : ∀ A B, ((w.alloc A).alloc B).cell? ⟨b, o, none⟩ = some (.string p) := fun A B => ((below2 w A B).cell (cell_lt hc0)).trans hc0
  clear hin okt s1 s2 s3 hps hc0
  obtain ⟨kt, nt, st, lat, lct, lt, dat, dct, dt⟩ := t
  rw [T.val_mk, kindV] at hk
  have k5b : (kt == 5) = false := by simpa using hk
  show Calls _ _ #[.agg #[.int .i64 kt, .int .i64 nt, .string st, .slice lat lt.length lct, .slice dat dt.length dct], .slice (some ⟨b, o, none⟩) 1 pc] _ _
  have q0 := heap_alloc2_old w (.cells #[.int .i64 kt, .int .i64 nt, .string st, .slice lat lt.length lct, .slice dat dt.length dct] 31) zeroObj
  have q1 := heap_alloc2_new w (.cells #[.int .i64 kt, .int .i64 nt, .string st, .slice lat lt.length lct, .slice dat dt.length dct] 31) zeroObj
  have hq0 := hc1 (.cells #[.int .i64 kt, .int .i64 nt, .string st, .slice lat lt.length lct, .slice dat dt.length dct] 31) zeroObj
  have hb0 := Lib.hid (below2 w (.cells #[.int .i64 kt, .int .i64 nt, .string st, .slice lat lt.length lct, .slice dat dt.length dct] 31) zeroObj)
  clear hc1
  unfold zeroObj at q0 q1 hq0 hb0
  go_enter Tryd.func33, Tryd.ntmps33
  go_wp2_with fail
  generalize ((w.alloc (.cells #[.int .i64 kt, .int .i64 nt, .string st, .slice lat lt.length lct, .slice dat dt.length dct] 31)).alloc (.cells #[.int .i64 0, .int .i64 0, .string ⟨#[]⟩, .slice none 0 0, .slice none 0 0] 31)) = W0 at q0 q1 hq0 hb0 ⊢
  have x0 := row_cells q0
  go_still_tail 4, (by kernel_rfl)
  change wpList _ _ _ _ _ W0.drew
  go_wp2_with (first
    | (go_at_call 42; refine (HS.out W0.drew (HI.out.then_ hb0.out).drew').mono ?_; rintro e w1 ⟨rfl, hb1'⟩; have hb1 := drop_drew hb1'; have r0 := row_then q0 hb1; have r1 := row_then q1 hb1; have X0 := row_cells r0; have B1 := Lib.hid (below_then hb0.out hb1); clear hb1 hb1' hb0 hq0 q0 q1 x0)
    | (go_at_call 51; refine (HR.out w1 (HI.out.then_ B1.out)).mono ?_; rintro e w4 ⟨⟨k4, n4, s4, la4, lc4, l4, da4, dc4, d4⟩, rfl, hv4, hi4, ho4, hb4, hou4⟩; dsimp only [T.arg, T.cells]; have r14 := row_then r1 hb4; have X14 := row_cells r14; have Y14 := row_free r14; have HV4 := Lib.hid hv4; have HI4 := Lib.hid hi4; have HO4 := Lib.hid ho4; have HU4 := Lib.hid hou4; have B4 := Lib.hid (below_then B1.out hb4); clear hv4 hi4 ho4 hou4))
  refine bodyPost_ret (v := .agg #[.int .i64 k4, .int .i64 n4, .string s4, .slice la4 l4.length lc4, .slice da4 d4.length dc4]) (by simp [results, Tryd.results33, go_sem, X14]) rfl ?_
  exact un_put HI.out (by have := lt_of_block r1; omega) B4.out HU4.out HV4.out HI4.out HO4.out (only_set5 w4 (w.heap.size + 1) _ _ _ _ _)

theorem unset_any : ∀ (ps : List ByteArray), ps ≠ [] → ∀ (t : T), t.ok → ∀ (pa : Option Addr) (pc : Nat) (w : World), t.In w → Parts w pa pc ps → Calls Tryd.prog 33 #[t.arg, .slice pa ps.length pc] w (MakesT [t] (unsetV t.val ps) w) := by
  intro ps
  induction ps with
  | nil => exact fun h => absurd rfl h
  | cons p r ih =>
    intro _ t okt pa pc w hin hps
    obtain ⟨b, o, rfl, -, -⟩ := hps.head
    rcases stand_child t p with ⟨s1, s2⟩ | ⟨j, y, s1, s2, s3⟩
    · exact unset_none_any p r t okt b o pc w hin hps s1 s2
    · by_cases hr : r = []
      · subst hr
        by_cases hk : kindV t.val = 5
        · exact unset_doc_any p t y okt b o pc j w hin hps hk s1 s2
        · exact unset_list_any p t y okt b o pc j w hin hps hk s1 s2 s3
      · exact unset_deep_any p r hr (ih hr) t y okt b o pc j w hin hps s1 s2 s3
#print axioms unset_any
end Go.Proofs.YtkklnfihjikilaaDoor
namespace Go.Proofs.YtkklnfihjikilaaDoor
open Go.RowKit
set_option maxRecDepth 100000

def unsetO (v : V) (ps : List ByteArray) : V := if ps = [] ∨ 10 < ps.length then v else unsetV v ps
theorem unset_fin {w w1 w2 : World} {v : V} {t5 : T} {a b c d e : Value} (hv : t5.val = v) (ho : t5.Own w2 w1.heap.size) (hb : Below w.heap.size w w1) (hs : w.heap.size + 2 ≤ w1.heap.size) (hb2 : Below w1.heap.size w1 w2) :
    WithTo v w (.returned t5.arg) (((((w2.setCell ⟨w.heap.size + 1, 0, none⟩ a).setCell ⟨w.heap.size + 1, 1, none⟩ b).setCell ⟨w.heap.size + 1, 2, none⟩ c).setCell ⟨w.heap.size + 1, 3, none⟩ d).setCell ⟨w.heap.size + 1, 4, none⟩ e) :=
  ⟨t5, rfl, hv, ho.keep (only_set5 w2 (w.heap.size + 1) a b c d e) (by simp; omega) (by omega), ((Only.of_below (S := []) (below_then hb hb2)).then_ (only_set5 w2 (w.heap.size + 1) a b c d e) (by simp)).below⟩
set_option maxHeartbeats 4000000 in
theorem Unset_any (t : T) (okt : t.ok) (pa : Option Addr) (pc : Nat) (ps : List ByteArray) (w : World) (hin : t.In w) (hps : Parts w pa pc ps) :
    Calls Tryd.prog 13 #[t.arg, .slice pa ps.length pc] w (WithTo (unsetO t.val ps) w) := by
  have HI := Lib.hid hin
  have HP := Lib.hid hps
  have HC := Lib.hid (clone_any t okt)
  have HU := Lib.hid (fun (h : ps ≠ []) w hin hps => unset_any ps h t okt pa pc w hin hps)
  unfold unsetO
  clear okt hin hps
  have q0 := heap_alloc2_old w (.cells t.cells.toArray 31) zeroObj
  have q1 := heap_alloc2_new w (.cells t.cells.toArray 31) zeroObj
  have hb0 := Lib.hid (below2 w (.cells t.cells.toArray 31) zeroObj)
  have hs0 := Lib.hid (show ((w.alloc (.cells t.cells.toArray 31)).alloc zeroObj).heap.size = w.heap.size + 1 + 1 by simp)
  obtain ⟨kt, nt, st, lat, lct, lt, dat, dct, dt⟩ := t
  dsimp only [T.cells] at q0 q1 hb0 hs0
  unfold zeroObj at q0 q1 hb0 hs0
  replace q0 := Lib.hid q0
  replace q1 := Lib.hid q1
  show Calls _ _ #[.agg #[.int .i64 kt, .int .i64 nt, .string st, .slice lat lt.length lct, .slice dat dt.length dct], .slice pa ps.length pc] _ _
  cases ps with
  | nil =>
    rw [if_pos (.inl rfl)]
    clear HU
    go_enter Tryd.func13, Tryd.ntmps13
    go_wp2_with (go_at_call 32; refine (HC.out _ (HI.out.then_ hb0.out)).mono ?_; rintro e w2 ⟨⟨k5, n5, s5, la5, lc5, l5, da5, dc5, d5⟩, rfl, hv2, ho2, b2⟩; dsimp only [T.arg, T.cells]; have r1 := row_then q1.out b2; have x1 := row_cells r1; have y1 := row_free r1; have HV := Lib.hid hv2; have HO := Lib.hid ho2; have HB := Lib.hid b2; clear hv2 ho2 b2)
    refine bodyPost_ret (v := .agg #[.int .i64 k5, .int .i64 n5, .string s5, .slice la5 l5.length lc5, .slice da5 d5.length dc5]) (by simp [results, Tryd.results13, go_sem, x1]) rfl ?_
    exact unset_fin HV.out HO.out hb0.out (Nat.le_of_eq hs0.out.symm) HB.out
  | cons p r =>
    by_cases h10 : 10 < (p :: r).length
    · rw [if_pos (.inr h10)]
      have h10b : decide ((10 : Int) < ((r.length + 1 : Nat) : Int)) = true := decide_eq_true (by simp at h10; omega)
      simp only [List.length_cons]
      clear HU
      go_enter Tryd.func13, Tryd.ntmps13
      go_wp2_with (first
        | (go_at_call 28; refine (tooMany_any _ _ _ _).mono ?_; rintro e w1 ⟨rfl, rfl⟩; rw [h10b])
        | (go_at_call 32; refine (HC.out _ (HI.out.then_ hb0.out)).mono ?_; rintro e w2 ⟨⟨k5, n5, s5, la5, lc5, l5, da5, dc5, d5⟩, rfl, hv2, ho2, b2⟩; dsimp only [T.arg, T.cells]; have r1 := row_then q1.out b2; have x1 := row_cells r1; have y1 := row_free r1; have HV := Lib.hid hv2; have HO := Lib.hid ho2; have HB := Lib.hid b2; clear hv2 ho2 b2))
      refine bodyPost_ret (v := .agg #[.int .i64 k5, .int .i64 n5, .string s5, .slice la5 l5.length lc5, .slice da5 d5.length dc5]) (by simp [results, Tryd.results13, go_sem, x1]) rfl ?_
      exact unset_fin HV.out HO.out hb0.out (Nat.le_of_eq hs0.out.symm) HB.out
    · rw [if_neg (by simp at h10 ⊢; omega)]
      have h10b : decide ((10 : Int) < ((r.length + 1 : Nat) : Int)) = false := decide_eq_false (by simp at h10; omega)
      replace HU := Lib.hid (HU.out (by simp))
      simp only [List.length_cons] at HU ⊢
      clear h10 HC
      go_enter Tryd.func13, Tryd.ntmps13
      go_wp2_with (go_at_call 28; refine (tooMany_any _ _ _ _).mono ?_; rintro e w1 ⟨rfl, rfl⟩; rw [h10b])
      refine (HU.out _ (HI.out.then_ hb0.out) (HP.out.then_ hb0.out)).mono ?_
      rintro e w1 ⟨⟨k4, n4, s4, la4, lc4, l4, da4, dc4, d4⟩, rfl, hv4, hi4, ho4, b4, hou4⟩
      dsimp only [T.arg, T.cells]
      have R0 := row_then q0.out b4
      have R1 := row_then q1.out b4
      have X0 := row_cells R0
      have Y0 := row_free R0
      have o5 := only_set5 w1 w.heap.size (.int .i64 k4) (.int .i64 n4) (.string s4) (.slice la4 l4.length lc4) (.slice da4 d4.length dc4)
      have HO5 := Lib.hid (hi4.only (hou4 w.heap.size (w.heap.size + 2) (Nat.le_of_eq hs0.out.symm) (fun u hu => by rw [List.mem_singleton.1 hu]; exact HI.out.out (Nat.le_refl _) _)) o5 (by simp))
      have R15 := Lib.hid ((o5.block _ (lt_of_block R1) (by simp)).trans R1)
      have B5 := Lib.hid (((Only.of_below (S := []) (below_then hb0.out b4)).then_ o5 (by simp)).below)
      have S5 := Lib.hid (show w.heap.size + 2 ≤ (((((w1.setCell ⟨w.heap.size, 0, none⟩ (.int .i64 k4)).setCell ⟨w.heap.size, 1, none⟩ (.int .i64 n4)).setCell ⟨w.heap.size, 2, none⟩ (.string s4)).setCell ⟨w.heap.size, 3, none⟩ (.slice la4 l4.length lc4)).setCell ⟨w.heap.size, 4, none⟩ (.slice da4 d4.length dc4)).heap.size by have h1 := hs0.out; have h2 := b4.size; have h3 := o5.size; omega)
      have HC4 := Lib.hid (clone_any _ ho4)
      have HV4 := Lib.hid hv4
      clear hv4 hi4 ho4 b4 hou4 o5 R0 R1 q0 q1
      go_wp2_with (go_at_call 32; refine (HC4.out _ HO5.out).mono ?_; rintro e w2 ⟨⟨k5, n5, s5, la5, lc5, l5, da5, dc5, d5⟩, rfl, hv2, ho2, b2⟩; dsimp only [T.arg, T.cells]; have r1 := row_then R15.out b2; have x1 := row_cells r1; have y1 := row_free r1; have HV := Lib.hid hv2; have HO := Lib.hid ho2; have HB := Lib.hid b2; clear hv2 ho2 b2)
      refine bodyPost_ret (v := .agg #[.int .i64 k5, .int .i64 n5, .string s5, .slice la5 l5.length lc5, .slice da5 d5.length dc5]) (by simp [results, Tryd.results13, go_sem, x1]) rfl ?_
      exact unset_fin (HV.out.trans HV4.out) HO.out B5.out S5.out HB.out
#print axioms Unset_any
end Go.Proofs.YtkklnfihjikilaaDoor
namespace Go.Proofs.YtkklnfihjikilaaDoor
open Go.RowKit
set_option maxRecDepth 100000

theorem szD_ge : ∀ (d : List (ByteArray × V)) (n : Int), (∀ f ∈ d, ∀ m : Int, m ≤ szFrom m f.2) → n ≤ 65536 → szD n d ≤ 65536 → n + d.length ≤ szD n d := by
  intro d
  induction d with
  | nil => intro n _ _ _; simp [szD]
  | cons f r ih =>
    obtain ⟨s, x⟩ := f
    intro n hx hn h
    rw [szD, if_neg (by omega)] at h ⊢
    have h1 := hx (s, x) (by simp) (n + 2 + s.size)
    simp only at h1
    by_cases hb : 65536 < szFrom (n + 2 + s.size) x
    · rw [szD_big hb] at h
      omega
    · have := ih (szFrom (n + 2 + s.size) x) (fun f hf => hx f (by simp [hf])) (by omega) h
      simp only [List.length_cons]
      omega
theorem szL_up : ∀ (l : List V) (n : Int) (i : Nat), (∀ x ∈ l, ∀ m : Int, m ≤ szFrom m x) → n ≤ szL n i l := by
  intro l
  induction l with
  | nil => intro n i _; simp [szL]
  | cons x r ih =>
    intro n i hx
    rw [szL]
    split
    · omega
    · have h1 := hx x (by simp) (n + 2 + digN i)
      have h2 := ih (szFrom (n + 2 + digN i) x) (i + 1) (fun y hy => hx y (by simp [hy]))
      omega
theorem szD_up : ∀ (d : List (ByteArray × V)) (n : Int), (∀ f ∈ d, ∀ m : Int, m ≤ szFrom m f.2) → n ≤ szD n d := by
  intro d
  induction d with
  | nil => intro n _; simp [szD]
  | cons f r ih =>
    obtain ⟨s, x⟩ := f
    intro n hx
    rw [szD]
    split
    · omega
    · have h1 := hx (s, x) (by simp) (n + 2 + s.size)
      have h2 := ih (szFrom (n + 2 + s.size) x) (fun f hf => hx f (by simp [hf]))
      simp only at h1
      omega
theorem sz_up (v : V) : ∀ m : Int, m ≤ szFrom m v := by
  induction v using V.ind with
  | h k n s l d ihl ihd =>
    intro m
    rw [szFrom]
    split; · omega
    split; · omega
    split; · omega
    split; · omega
    split
    · have := szD_up d (m + 5) ihd
      omega
    split
    · have := szL_up l (m + 5) 0 ihl
      omega
    · omega
theorem szL_kid : ∀ (l : List V) (n : Int) (i : Nat), 0 ≤ n → szL n i l ≤ 65536 → ∀ x ∈ l, ∃ m : Int, 0 ≤ m ∧ szFrom m x ≤ 65536 := by
  intro l
  induction l with
  | nil => intro n i _ _ x hx; cases hx
  | cons y r ih =>
    intro n i h0 h x hx
    have hn : ¬ 65536 < n := by
      have := szL_up (y :: r) n i (fun z _ => sz_up z)
      omega
    rw [szL, if_neg hn] at h
    have h1 := sz_up y (n + 2 + digN i)
    rcases List.mem_cons.1 hx with rfl | hx
    · have := szL_up r (szFrom (n + 2 + digN i) x) (i + 1) (fun z _ => sz_up z)
      exact ⟨n + 2 + digN i, by omega, by omega⟩
    · exact ih (szFrom (n + 2 + digN i) y) (i + 1) (by omega) h x hx
theorem szD_kid : ∀ (d : List (ByteArray × V)) (n : Int), 0 ≤ n → szD n d ≤ 65536 → ∀ f ∈ d, ∃ m : Int, 0 ≤ m ∧ szFrom m f.2 ≤ 65536 := by
  intro d
  induction d with
  | nil => intro n _ _ x hx; cases hx
  | cons y r ih =>
    obtain ⟨s, y⟩ := y
    intro n h0 h x hx
    have hn : ¬ 65536 < n := by
      have := szD_up ((s, y) :: r) n (fun z _ => sz_up z.2)
      omega
    rw [szD, if_neg hn] at h
    have h1 := sz_up y (n + 2 + s.size)
    rcases List.mem_cons.1 hx with rfl | hx
    · have := szD_up r (szFrom (n + 2 + s.size) y) (fun z _ => sz_up z.2)
      exact ⟨n + 2 + s.size, by omega, by simp only; omega⟩
    · exact ih (szFrom (n + 2 + s.size) y) (by omega) h x hx
theorem rightL_kid {deep : Int} : ∀ {l : List V}, rightL deep l = 0 → ∀ x ∈ l, rightV deep x = 0 := by
  intro l
  induction l with
  | nil => intro _ x hx; cases hx
  | cons y r ih =>
    intro h x hx
    rw [rightL] at h
    split at h
    · rcases List.mem_cons.1 hx with rfl | hx
      · assumption
      · exact ih h x hx
    · omega
theorem rightD_kid {deep : Int} : ∀ {d : List (ByteArray × V)} {ahead : List (List UInt8)}, rightD deep ahead d = 0 → ∀ f ∈ d, rightV deep f.2 = 0 := by
  intro d
  induction d with
  | nil => intro _ _ x hx; cases hx
  | cons y r ih =>
    obtain ⟨s, y⟩ := y
    intro ahead h x hx
    rw [rightD] at h
    split at h
    · omega
    · split at h
      · rcases List.mem_cons.1 hx with rfl | hx
        · assumption
        · exact ih h x hx
      · omega
theorem room_right : ∀ (ps : List ByteArray) (t : T) (m deep : Int), 0 ≤ m → szFrom m t.val ≤ 65536 → rightV deep t.val = 0 → RoomAt t ps := by
  intro ps
  induction ps with
  | nil => intro t _ _ _ _ _; exact trivial
  | cons p r ih =>
    intro t m deep h0 hs hr
    obtain ⟨k, n, s, la, lc, l, da, dc, d⟩ := t
    rw [T.val_mk] at hs hr
    rw [rightV] at hr
    split at hr
    · omega
    split at hr
    · rename_i hok
      rw [Bool.and_eq_true] at hok
      have hal := hok.1
      unfold aloneV at hal
      simp only [Bool.and_eq_true, Bool.or_eq_true, decide_eq_true_eq, beq_iff_eq, List.length_map] at hal
      obtain ⟨-, -, h6, h5⟩ := hal
      by_cases k5 : k = 5
      · subst k5
        rw [if_neg (by decide), if_pos rfl] at hr
        rw [szFrom] at hs
        simp only [show ¬ ((5 : Int) = 3 ∨ (5 : Int) = 10) by decide, show ¬ ((5 : Int) = 4 ∨ (5 : Int) = 7) by decide, show ¬ ((5 : Int) = 8) by decide, show ¬ ((5 : Int) = 9) by decide, if_false, if_true] at hs
        have hn : m + 5 ≤ 65536 := by
          have := szD_up (d.map fun f => (f.1, f.2.val)) (m + 5) (fun z _ => sz_up z.2)
          omega
        have hlen := szD_ge _ (m + 5) (fun z _ => sz_up z.2) hn hs
        rw [List.length_map] at hlen
        refine ⟨by simp only [docLen]; omega, fun j y hy => ?_⟩
        rw [kidT, if_pos rfl] at hy
        obtain ⟨f, hf, rfl⟩ := Option.map_eq_some_iff.1 hy
        have hm : (f.1, f.2.val) ∈ d.map fun f => (f.1, f.2.val) := List.mem_map.2 ⟨f, List.mem_of_getElem? hf, rfl⟩
        obtain ⟨m2, g1, g2⟩ := szD_kid _ (m + 5) (by omega) hs _ hm
        exact ih f.2 m2 (deep + 1) g1 g2 (rightD_kid hr _ hm)
      · have hd : d.length = 0 := by
          rcases h5 with h | h
          · exact absurd h k5
          · exact h
        refine ⟨by simp only [docLen, hd]; decide, fun j y hy => ?_⟩
        rw [kidT, if_neg k5] at hy
        by_cases k6 : k = 6
        · subst k6
          rw [if_pos rfl] at hr
          rw [szFrom] at hs
          simp only [show ¬ ((6 : Int) = 3 ∨ (6 : Int) = 10) by decide, show ¬ ((6 : Int) = 4 ∨ (6 : Int) = 7) by decide, show ¬ ((6 : Int) = 8) by decide, show ¬ ((6 : Int) = 9) by decide, show ¬ ((6 : Int) = 5) by decide, if_false, if_true] at hs
          have hm : y.val ∈ l.map T.val := List.mem_map.2 ⟨y, List.mem_of_getElem? hy, rfl⟩
          obtain ⟨m2, g1, g2⟩ := szL_kid _ (m + 5) 0 (by omega) hs _ hm
          exact ih y m2 (deep + 1) g1 g2 (rightL_kid hr _ hm)
        · have hl : l.length = 0 := by
            rcases h6 with h | h
            · exact absurd h k6
            · exact h
          have := lt_of_get hy
          omega
    · omega
theorem room_of_right {t : T} (h : rightOf t.val = 0) (ps : List ByteArray) : RoomAt t ps := by
  unfold rightOf at h
  split at h
  · omega
  · rename_i hs
    unfold sizeV at hs
    exact room_right ps t 0 1 (Int.le_refl _) (by split at hs <;> omega) h
#print axioms room_of_right
end Go.Proofs.YtkklnfihjikilaaDoor
namespace Go.Proofs.YtkklnfihjikilaaDoor
open Go.RowKit
set_option maxRecDepth 100000

theorem starts_step {a b : List ByteArray} {k : Nat} {x y : ByteArray} (hx : a[k]? = some x) (hy : b[k]? = some y) : startsP (a.drop k) (b.drop k) = ((x.toList == y.toList) && startsP (a.drop (k + 1)) (b.drop (k + 1))) := by
  obtain ⟨h1, rfl⟩ := List.getElem?_eq_some_iff.1 hx
  obtain ⟨h2, rfl⟩ := List.getElem?_eq_some_iff.1 hy
  rw [List.drop_eq_getElem_cons h1, List.drop_eq_getElem_cons h2, startsP]
theorem starts_done {a b : List ByteArray} {k : Nat} (h : a.length ≤ k ∨ b.length ≤ k) : startsP (a.drop k) (b.drop k) = true := by
  rcases h with h | h
  · rw [List.drop_eq_nil_of_le h, startsP]
  · rw [List.drop_eq_nil_of_le h]
    cases a.drop k with
    | nil => rw [startsP]
    | cons x r => rw [startsP]
theorem starts_any (pa : Option Addr) (pc : Nat) (ps : List ByteArray) (qa : Option Addr) (qc : Nat) (qs : List ByteArray) (w : World) (hp : Parts w pa pc ps) (hq : Parts w qa qc qs) :
    Calls Tryd.prog 20 #[.slice pa ps.length pc, .slice qa qs.length qc] w fun e w' => e = .returned (.bool (startsP ps qs)) ∧ Below w.heap.size w w' := by
  have HP := Lib.hid hp
  have HQ := Lib.hid hq
  have l1 := hp.len
  have l2 := hq.len
  clear hp hq
  go_enter Tryd.func20, Tryd.ntmps20
  go_wp2_with fail
  go_loopw [5] (fun i wr => ∃ k : Nat, k ≤ ps.length ∧ k ≤ qs.length ∧ i = .int .i64 k ∧ Below w.heap.size w wr ∧ startsP ps qs = startsP (ps.drop k) (qs.drop k)) (fun i _ => ps.length - (intOf i).toNat)
  case atStart => exact ⟨0, by omega, by omega, rfl, Below.refl _ _, by simp⟩
  case round =>
    obtain ⟨k, h1, h2, rfl, hb, heq⟩ := hrel
    have HE := Lib.hid heq
    clear heq
    by_cases g1 : k < ps.length
    · by_cases g2 : k < qs.length
      · obtain ⟨x, hx⟩ : ∃ x, ps[k]? = some x := ⟨_, List.getElem?_eq_getElem g1⟩
        obtain ⟨y, hy⟩ : ∃ y, qs[k]? = some y := ⟨_, List.getElem?_eq_getElem g2⟩
        obtain ⟨b, o, rfl, hc⟩ := (HP.out.then_ hb).in_ k x hx
        obtain ⟨b2, o2, rfl, hc2⟩ := (HQ.out.then_ hb).in_ k y hy
        have HT := Lib.hid (starts_step hx hy)
        have hk0 : ¬ ((k : Int) < 0) := by omega
        clear hx hy
        cases hxy : (x.toList == y.toList) with
        | false =>
          have hv : startsP ps qs = false := by rw [HE.out, HT.out, hxy]; rfl
          have HV := Lib.hid hv
          clear hv HE HT
          go_wp2_with fail
          go_region
          go_wp2_with fail
          go_ret
          exact ⟨ret_bool HV.out.symm, hb.drew⟩
        | true =>
          have HV := Lib.hid (show startsP ps qs = startsP (ps.drop (k + 1)) (qs.drop (k + 1)) by rw [HE.out, HT.out, hxy]; rfl)
          clear HE HT
          go_wp2_with fail
          go_region
          go_wp2_with fail
          all_goals exact ⟨⟨k + 1, by omega, by omega, by go_num, hb.drew, HV.out⟩, by simp [intOf]; omega⟩
      · go_wp2_with fail
        go_ret
        exact ⟨ret_bool (by rw [HE.out, starts_done (.inr (by omega))]), hb⟩
    · go_wp2_with fail
      go_ret
      exact ⟨ret_bool (by rw [HE.out, starts_done (.inl (by omega))]), hb⟩
#print axioms starts_any
end Go.Proofs.YtkklnfihjikilaaDoor
namespace Go.Proofs.YtkklnfihjikilaaDoor
open Go.RowKit
set_option maxRecDepth 100000

theorem sets_uni {o : Int × V} {w : World} {e : Ending} {w' : World} (h : SetsTo o w e w') : ∃ (t' : T) (er : Int), e = .returned (.tuple #[t'.arg, .int .i64 er]) ∧ t'.Own w' w.heap.size ∧ Below w.heap.size w w' ∧ (er ≠ 0 ∨ (er = 0 ∧ o = (0, t'.val))) := by
  obtain ⟨hb, ⟨hne, rfl⟩ | ⟨h0, t', rfl, h1, h2⟩⟩ := h
  · exact ⟨zeroT, o.1, rfl, zero_own _ _, hb, .inl hne⟩
  · obtain ⟨o1, o2⟩ := o
    simp only at h0 h1
    exact ⟨t', 0, rfl, h2, hb, .inr ⟨rfl, by rw [h0, h1]⟩⟩
/-- What At has told: whether something is there, and what (nothing: missing). -/
def AtIs (o : Option V) (is : Bool) (y : V) : Prop := (o = if is then some y else none) ∧ (is = false → y = zeroV)
theorem at_uni {o : Option V} {w : World} {e : Ending} {w' : World} (h : AtTo o w e w') : ∃ (t' : T) (is : Bool), e = .returned (.tuple #[t'.arg, .bool is]) ∧ AtIs o is t'.val ∧ t'.Own w' w.heap.size ∧ Below w.heap.size w w' := by
  rcases h with ⟨h1, rfl, hb⟩ | ⟨t', h1, rfl, ho, hb⟩
  · exact ⟨zeroT, false, rfl, ⟨by simpa using h1, fun _ => zero_val⟩, zero_own _ _, hb⟩
  · exact ⟨t', true, rfl, ⟨by simpa using h1, fun h => by cases h⟩, ho, hb⟩
theorem set_of {v x s : V} {ps : List ByteArray} (h : (0, s) = setO v ps x ∨ setO v ps x = (0, s)) : ¬ (10 < ps.length) ∧ setV v ps x = (0, s) := by
  have h : setO v ps x = (0, s) := by rcases h with h | h; exact h.symm; exact h
  rw [setO] at h
  split at h
  · injection h with h _; cases h
  · rename_i hn
    exact ⟨fun h' => hn (.inr h'), h⟩
theorem back_got {v x s : V} {ps : List ByteArray} {t : T} {is : Bool} (h : setO v ps x = (0, s)) (ha : AtIs (atO s ps) is t.val) : is = true ∧ t.val = x := by
  replace ha := ha.1
  obtain ⟨h10, h⟩ := set_of (.inr h)
  rw [atO, if_neg h10, at_set _ _ _ _ h] at ha
  cases is with
  | false => cases ha
  | true => injection ha with ha; exact ⟨rfl, ha.symm⟩
theorem back_kept {v x s : V} {ps qs : List ByteArray} {t y : T} {is : Bool} (h : setO v ps x = (0, s)) (hq : startsP ps qs = false) (hy : AtIs (atO v qs) true y.val) (ha : AtIs (atO s qs) is t.val) : is = true ∧ t.val = y.val := by
  replace ha := ha.1
  replace hy : atO v qs = some y.val := hy.1
  obtain ⟨h10, h⟩ := set_of (.inr h)
  rw [atO] at hy ha
  split at hy
  · cases hy
  · rename_i hn
    rw [if_neg hn, at_set_other _ _ _ _ _ _ h hq hy] at ha
    cases is with
    | false => cases ha
    | true => injection ha with ha; exact ⟨rfl, ha.symm⟩
theorem back_gone {v : V} {ps : List ByteArray} {u : V} {is : Bool} {k n : Int} {s : ByteArray} {la : Option Addr} {lc : Nat} {l : List T} {da : Option Addr} {dc : Nat} {d : List (ByteArray × T)} (hu : u = unsetO v ps) (ha : AtIs (atO u ps) is (T.val (.mk k n s la lc l da dc d))) : ¬ ((0 : Int) < (ps.length : Int)) ∨ ((0 : Int) < (ps.length : Int) ∧ is = false) ∨ ((0 : Int) < (ps.length : Int) ∧ is = true ∧ k = 2) := by
  replace ha := ha.1
  subst hu
  by_cases h0 : ps = []
  · exact .inl (by rw [h0]; decide)
  · refine .inr ?_
    have hp : (0 : Int) < (ps.length : Int) := by have := List.length_pos_iff.2 h0; omega
    by_cases h10 : 10 < ps.length
    · rw [atO, if_pos h10] at ha
      cases is with
      | false => exact .inl ⟨hp, rfl⟩
      | true => cases ha
    · rw [atO, if_neg h10, unsetO, if_neg (by rintro (h | h); exact h0 h; exact h10 h)] at ha
      cases is with
      | false => exact .inl ⟨hp, rfl⟩
      | true =>
        rcases at_unset ps v h0 with h | ⟨x, h, hk⟩
        · rw [h] at ha; cases ha
        · rw [h] at ha
          injection ha with ha
          subst ha
          rw [T.val_mk] at hk
          exact .inr ⟨hp, rfl, hk⟩
theorem back_end {v u : V} {ps qs : List ByteArray} {t y : T} {is isw : Bool} (hs : startsP ps qs = false) (hu : u = unsetO v ps) (ha : AtIs (atO u qs) is t.val) (hw : AtIs (atO v qs) isw y.val) : is = isw ∧ sameV t.val y.val = true := by
  obtain ⟨ha, hz⟩ := ha
  obtain ⟨hw, hzw⟩ := hw
  subst hu
  have e : atO (unsetO v ps) qs = atO v qs := by
    rw [unsetO]
    split
    · rfl
    · rw [atO, atO]
      split
      · rfl
      · exact at_unset_other _ _ _ hs
  rw [e, hw] at ha
  cases is <;> cases isw
  · exact ⟨rfl, (sameV_iff _ _).2 (by rw [hz rfl, hzw rfl])⟩
  · cases ha
  · cases ha
  · injection ha with ha; exact ⟨rfl, (sameV_iff _ _).2 ha.symm⟩
set_option maxHeartbeats 4000000 in
theorem back_law (t x : T) (pa : Option Addr) (pc : Nat) (ps : List ByteArray) (qa : Option Addr) (qc : Nat) (qs : List ByteArray) (w : World) (okt : t.ok) (okx : x.ok) (hin : t.In w) (hx : x.In w) (hps : Parts w pa pc ps) (hqs : Parts w qa qc qs) (hT : Tabs4 w) :
    Calls Tryd.prog 5 #[t.arg, .slice pa ps.length pc, .slice qa qs.length qc, x.arg] w fun e w' => e = .returned (.bool true) ∧ Below w.heap.size w w' := by
  have HP := Lib.hid hps
  have HQ := Lib.hid hqs
  have HI := Lib.hid hin
  have HX := Lib.hid hx
  have HO := Lib.hid okt
  have HOx := Lib.hid okx
  have HT := Lib.hid hT
  have R0 := Lib.hid (heap_alloc2_old w (.cells t.cells.toArray 31) (.cells x.cells.toArray 31))
  have R1 := Lib.hid (heap_alloc2_new w (.cells t.cells.toArray 31) (.cells x.cells.toArray 31))
  have B0 := Lib.hid (below2 w (.cells t.cells.toArray 31) (.cells x.cells.toArray 31))
  clear okt okx hin hx hps hqs hT
  obtain ⟨kt, nt, st, lat, lct, lt, dat, dct, dt⟩ := t
  obtain ⟨kx, nx, sx, lax, lcx, lx, dax, dcx, dx⟩ := x
  show Calls _ _ #[.agg #[.int .i64 kt, .int .i64 nt, .string st, .slice lat lt.length lct, .slice dat dt.length dct], .slice pa ps.length pc, .slice qa qs.length qc, .agg #[.int .i64 kx, .int .i64 nx, .string sx, .slice lax lx.length lcx, .slice dax dx.length dcx]] _ _
  go_enter Tryd.func5, Tryd.ntmps5
  go_wp2_with fail
  refine (awake04_any _ (HT.out.then_ B0.out)).mono ?_
  rintro e w1 ⟨rfl, b1⟩
  have r0 := row_then R0.out b1
  have x0 := row_cells r0
  dsimp only [T.cells] at x0
  have B1 := Lib.hid (below_then B0.out b1)
  go_wp2_with fail
  refine (right_any (.mk kt nt st lat lct lt dat dct dt) HO.out _ (HI.out.then_ B1.out) (HT.out.then_ B1.out).1).mono ?_
  rintro e w2 ⟨rfl, b2⟩
  have HR0 := Lib.hid (row_then r0 b2)
  have HR1 := Lib.hid (row_then (row_then R1.out b1) b2)
  have B2 := Lib.hid (below_then B1.out b2)
  clear r0 x0 b1 b2 B1 R0 R1 B0
  by_cases hr : rightOf (T.mk kt nt st lat lct lt dat dct dt).val = 0
  · have HRM := Lib.hid (room_of_right hr)
    rw [hr]
    have x0 := row_cells HR0.out
    have x1 := row_cells HR1.out
    dsimp only [T.cells] at x0 x1
    go_wp2_with fail
    refine (Set_any (.mk kt nt st lat lct lt dat dct dt) (.mk kx nx sx lax lcx lx dax dcx dx) HO.out HOx.out pa pc ps (HRM.out ps) _ (HI.out.then_ B2.out) (HX.out.then_ B2.out) (HP.out.then_ B2.out)).mono ?_
    rintro e w3 hst
    obtain ⟨⟨ks, ns, ss, las, lcs, ls, das, dcs, ds⟩, er, rfl, os, b3, hset⟩ := sets_uni hst
    dsimp only [T.arg, T.cells]
    have c3 := below1 w3 (.cells #[.int .i64 ks, .int .i64 ns, .string ss, .slice las ls.length lcs, .slice das ds.length dcs] 31)
    have HS := Lib.hid (heap_alloc_new w3 (.cells #[.int .i64 ks, .int .i64 ns, .string ss, .slice las ls.length lcs, .slice das ds.length dcs] 31))
    have HSI := Lib.hid ((owns_in _ os.owns).then_ c3)
    have HOs := Lib.hid os.ok
    have r3 := row_then HR0.out b3
    have x3 := row_cells r3
    have l3 := lt_of_block r3
    dsimp only [T.cells] at x3
    have HV3 := Lib.hid (row_then r3 c3)
    have HX3 := Lib.hid (row_then (row_then HR1.out b3) c3)
    have B3 := Lib.hid (below_then B2.out (below_then b3 c3))
    have HSET := Lib.hid hset
    clear hst os b3 hset c3 x0 x1 r3 HRM
    go_wp2_with fail
    refine (Unset_any (.mk kt nt st lat lct lt dat dct dt) HO.out pa pc ps _ (HI.out.then_ B3.out) (HP.out.then_ B3.out)).mono ?_
    rintro e w4 ⟨⟨ku, nu, su, lau, lcu, lu, dau, dcu, du⟩, rfl, hu, ou, b4⟩
    dsimp only [T.arg, T.cells]
    have c4 := below1 w4 (.cells #[.int .i64 ku, .int .i64 nu, .string su, .slice lau lu.length lcu, .slice dau du.length dcu] 31)
    have HU := Lib.hid (heap_alloc_new w4 (.cells #[.int .i64 ku, .int .i64 nu, .string su, .slice lau lu.length lcu, .slice dau du.length dcu] 31))
    have HUV := Lib.hid hu
    have HUI := Lib.hid ((owns_in _ ou.owns).then_ c4)
    have HOu := Lib.hid ou.ok
    have HS4 := Lib.hid (row_then HS.out (below_then b4 c4))
    have HSI4 := Lib.hid (HSI.out.then_ (below_then b4 c4))
    have HV4 := Lib.hid (row_then HV3.out (below_then b4 c4))
    have HX4 := Lib.hid (row_then HX3.out (below_then b4 c4))
    have B4 := Lib.hid (below_then B3.out (below_then b4 c4))
    clear hu ou b4 c4 x3 l3 HS HSI HV3 B3
    go_wp2_with fail
    refine (starts_any pa pc ps qa qc qs _ (HP.out.then_ B4.out) (HQ.out.then_ B4.out)).mono ?_
    rintro e w5 ⟨rfl, b5⟩
    generalize hsp : startsP ps qs = sp
    have x5 := row_cells (row_then HV4.out b5)
    dsimp only [T.cells] at x5
    have HX5 := Lib.hid (row_then HX4.out b5)
    have HS5 := Lib.hid (row_then HS4.out b5)
    have HU5 := Lib.hid (row_then HU.out b5)
    have HSI5 := Lib.hid (HSI4.out.then_ b5)
    have HUI5 := Lib.hid (HUI.out.then_ b5)
    have B5 := Lib.hid (below_then B4.out b5)
    clear b5 HX4 HX3 HS4 HU HSI4 HUI HV4 B4
    go_wp2_with fail
    refine (at_any (.mk kt nt st lat lct lt dat dct dt) HO.out qa qc qs _ (HI.out.then_ B5.out) (HQ.out.then_ B5.out)).mono ?_
    rintro e w6 ha
    obtain ⟨⟨kw, nw, sw, law, lcw, lw, daw, dcw, dw⟩, isw, rfl, hw, ow, b6⟩ := at_uni ha
    dsimp only [T.arg, T.cells]
    have c6 := below1 w6 (.cells #[.int .i64 kw, .int .i64 nw, .string sw, .slice law lw.length lcw, .slice daw dw.length dcw] 31)
    have b6' := below_then b6 c6
    have HRw6 := Lib.hid (heap_alloc_new w6 (.cells #[.int .i64 kw, .int .i64 nw, .string sw, .slice law lw.length lcw, .slice daw dw.length dcw] 31))
    have HVw := Lib.hid hw
    have HIw6 := Lib.hid ((owns_in _ ow.owns).then_ c6)
    have HOw := Lib.hid ow.ok
    have HRx6 := Lib.hid (row_then HX5.out b6')
    have HRs6 := Lib.hid (row_then HS5.out b6')
    have HRu6 := Lib.hid (row_then HU5.out b6')
    have HIs6 := Lib.hid (HSI5.out.then_ b6')
    have HIu6 := Lib.hid (HUI5.out.then_ b6')
    have B6 := Lib.hid (below_then B5.out b6')
    have xu6 := row_cells (row_then HU5.out b6)
    have lu6 := lt_of_block (row_then HU5.out b6)
    have xs6 := row_cells (row_then HS5.out b6)
    have ls6 := lt_of_block (row_then HS5.out b6)
    clear ha hw ow b6 b6' c6 x5 HX5 HS5 HU5 HSI5 HUI5 B5
    have HSP := Lib.hid hsp
    clear hsp
    rcases HSET.out with hne | ⟨rfl, hset⟩
    · have hne2 : (er == 0) = false := by simpa using hne
      clear HSET xs6 ls6 HRs6 HIs6 HOs HRx6
      rcases sp with _ | _
      · skip
        have xu := row_cells HRu6.out
        have yu := lt_of_block HRu6.out
        try dsimp only at xu
        go_wp2_with fail
        refine (at_any (.mk ku nu su lau lcu lu dau dcu du) HOu.out pa pc ps _ (HIu6.out) (HP.out.then_ B6.out)).mono ?_
        rintro e wg hag
        obtain ⟨⟨kg, ng, sg, lag, lcg, lg, dag, dcg, dg⟩, isg, rfl, hvg, owg, bg⟩ := at_uni hag
        clear hag
        dsimp only [T.arg, T.cells]
        have cg := below1 wg (.cells #[.int .i64 kg, .int .i64 ng, .string sg, .slice lag lg.length lcg, .slice dag dg.length dcg] 31)
        have bcg := below_then bg cg
        have HRgg := Lib.hid (heap_alloc_new wg (.cells #[.int .i64 kg, .int .i64 ng, .string sg, .slice lag lg.length lcg, .slice dag dg.length dcg] 31))
        have HIgg := Lib.hid ((owns_in _ owg.owns).then_ cg)
        have HOg := Lib.hid owg.ok
        have HVg := Lib.hid hvg
        have HRug := Lib.hid (row_then HRu6.out bcg)
        have HRwg := Lib.hid (row_then HRw6.out bcg)
        have HIug := Lib.hid (HIu6.out.then_ bcg)
        have HIwg := Lib.hid (HIw6.out.then_ bcg)
        have Bg := Lib.hid (below_then B6.out bcg)
        clear hvg cg bcg bg owg
        clear xu yu
        rcases back_gone HUV.out HVg.out with h2 | ⟨h2, rfl⟩ | ⟨h2, rfl, rfl⟩
        · skip
          have xu := row_cells HRug.out
          have yu := lt_of_block HRug.out
          have xg := row_cells HRgg.out
          have yg := lt_of_block HRgg.out
          try dsimp only at xu xg
          go_wp2_with fail
          refine (at_any (.mk ku nu su lau lcu lu dau dcu du) HOu.out qa qc qs _ (HIug.out) (HQ.out.then_ Bg.out)).mono ?_
          rintro e wq haq
          obtain ⟨⟨kq, nq, sq, laq, lcq, lq, daq, dcq, dq⟩, isq, rfl, hvq, owq, bq⟩ := at_uni haq
          clear haq
          dsimp only [T.arg, T.cells]
          have cq := below1 wq (.cells #[.int .i64 kq, .int .i64 nq, .string sq, .slice laq lq.length lcq, .slice daq dq.length dcq] 31)
          have bcq := below_then bq cq
          have HRqq := Lib.hid (heap_alloc_new wq (.cells #[.int .i64 kq, .int .i64 nq, .string sq, .slice laq lq.length lcq, .slice daq dq.length dcq] 31))
          have HIqq := Lib.hid ((owns_in _ owq.owns).then_ cq)
          have HOq := Lib.hid owq.ok
          have HVq := Lib.hid hvq
          have HRwq := Lib.hid (row_then HRwg.out bcq)
          have HIwq := Lib.hid (HIwg.out.then_ bcq)
          have Bq := Lib.hid (below_then Bg.out bcq)
          clear hvq cq bcq bq owq
          have xw := row_cells HRwq.out
          have yw := lt_of_block HRwq.out
          have xq := row_cells HRqq.out
          have yq := lt_of_block HRqq.out
          try dsimp only at xw xq
          clear xu yu xg yg
          go_wp2_with fail
          refine (same_any (.mk kq nq sq laq lcq lq daq dcq dq) (.mk kw nw sw law lcw lw daw dcw dw) _ HOq.out HOw.out HIqq.out HIwq.out).mono ?_
          rintro e wz ⟨rfl, bz⟩
          have Bz := Lib.hid (below_then Bq.out bz)
          have hk := back_end HSP.out HUV.out HVq.out HVw.out
          obtain ⟨hk1, hk2⟩ := hk
          rw [hk2]
          subst hk1
          clear bz xw xq yw yq
          go_wp2_with fail
          all_goals go_ret
          all_goals exact ⟨by simp, Bz.out⟩
        · skip
          have xu := row_cells HRug.out
          have yu := lt_of_block HRug.out
          have xg := row_cells HRgg.out
          have yg := lt_of_block HRgg.out
          try dsimp only at xu xg
          go_wp2_with fail
          refine (at_any (.mk ku nu su lau lcu lu dau dcu du) HOu.out qa qc qs _ (HIug.out) (HQ.out.then_ Bg.out)).mono ?_
          rintro e wq haq
          obtain ⟨⟨kq, nq, sq, laq, lcq, lq, daq, dcq, dq⟩, isq, rfl, hvq, owq, bq⟩ := at_uni haq
          clear haq
          dsimp only [T.arg, T.cells]
          have cq := below1 wq (.cells #[.int .i64 kq, .int .i64 nq, .string sq, .slice laq lq.length lcq, .slice daq dq.length dcq] 31)
          have bcq := below_then bq cq
          have HRqq := Lib.hid (heap_alloc_new wq (.cells #[.int .i64 kq, .int .i64 nq, .string sq, .slice laq lq.length lcq, .slice daq dq.length dcq] 31))
          have HIqq := Lib.hid ((owns_in _ owq.owns).then_ cq)
          have HOq := Lib.hid owq.ok
          have HVq := Lib.hid hvq
          have HRwq := Lib.hid (row_then HRwg.out bcq)
          have HIwq := Lib.hid (HIwg.out.then_ bcq)
          have Bq := Lib.hid (below_then Bg.out bcq)
          clear hvq cq bcq bq owq
          have xw := row_cells HRwq.out
          have yw := lt_of_block HRwq.out
          have xq := row_cells HRqq.out
          have yq := lt_of_block HRqq.out
          try dsimp only at xw xq
          clear xu yu xg yg
          go_wp2_with fail
          refine (same_any (.mk kq nq sq laq lcq lq daq dcq dq) (.mk kw nw sw law lcw lw daw dcw dw) _ HOq.out HOw.out HIqq.out HIwq.out).mono ?_
          rintro e wz ⟨rfl, bz⟩
          have Bz := Lib.hid (below_then Bq.out bz)
          have hk := back_end HSP.out HUV.out HVq.out HVw.out
          obtain ⟨hk1, hk2⟩ := hk
          rw [hk2]
          subst hk1
          clear bz xw xq yw yq
          go_wp2_with fail
          all_goals go_ret
          all_goals exact ⟨by simp, Bz.out⟩
        · skip
          have xu := row_cells HRug.out
          have yu := lt_of_block HRug.out
          have xg := row_cells HRgg.out
          have yg := lt_of_block HRgg.out
          try dsimp only at xu xg
          go_wp2_with fail
          refine (at_any (.mk ku nu su lau lcu lu dau dcu du) HOu.out qa qc qs _ (HIug.out) (HQ.out.then_ Bg.out)).mono ?_
          rintro e wq haq
          obtain ⟨⟨kq, nq, sq, laq, lcq, lq, daq, dcq, dq⟩, isq, rfl, hvq, owq, bq⟩ := at_uni haq
          clear haq
          dsimp only [T.arg, T.cells]
          have cq := below1 wq (.cells #[.int .i64 kq, .int .i64 nq, .string sq, .slice laq lq.length lcq, .slice daq dq.length dcq] 31)
          have bcq := below_then bq cq
          have HRqq := Lib.hid (heap_alloc_new wq (.cells #[.int .i64 kq, .int .i64 nq, .string sq, .slice laq lq.length lcq, .slice daq dq.length dcq] 31))
          have HIqq := Lib.hid ((owns_in _ owq.owns).then_ cq)
          have HOq := Lib.hid owq.ok
          have HVq := Lib.hid hvq
          have HRwq := Lib.hid (row_then HRwg.out bcq)
          have HIwq := Lib.hid (HIwg.out.then_ bcq)
          have Bq := Lib.hid (below_then Bg.out bcq)
          clear hvq cq bcq bq owq
          have xw := row_cells HRwq.out
          have yw := lt_of_block HRwq.out
          have xq := row_cells HRqq.out
          have yq := lt_of_block HRqq.out
          try dsimp only at xw xq
          clear xu yu xg yg
          go_wp2_with fail
          refine (same_any (.mk kq nq sq laq lcq lq daq dcq dq) (.mk kw nw sw law lcw lw daw dcw dw) _ HOq.out HOw.out HIqq.out HIwq.out).mono ?_
          rintro e wz ⟨rfl, bz⟩
          have Bz := Lib.hid (below_then Bq.out bz)
          have hk := back_end HSP.out HUV.out HVq.out HVw.out
          obtain ⟨hk1, hk2⟩ := hk
          rw [hk2]
          subst hk1
          clear bz xw xq yw yq
          go_wp2_with fail
          all_goals go_ret
          all_goals exact ⟨by simp, Bz.out⟩
      · skip
        have xu := row_cells HRu6.out
        have yu := lt_of_block HRu6.out
        try dsimp only at xu
        go_wp2_with fail
        refine (at_any (.mk ku nu su lau lcu lu dau dcu du) HOu.out pa pc ps _ (HIu6.out) (HP.out.then_ B6.out)).mono ?_
        rintro e wg hag
        obtain ⟨⟨kg, ng, sg, lag, lcg, lg, dag, dcg, dg⟩, isg, rfl, hvg, owg, bg⟩ := at_uni hag
        clear hag
        dsimp only [T.arg, T.cells]
        have cg := below1 wg (.cells #[.int .i64 kg, .int .i64 ng, .string sg, .slice lag lg.length lcg, .slice dag dg.length dcg] 31)
        have bcg := below_then bg cg
        have HRgg := Lib.hid (heap_alloc_new wg (.cells #[.int .i64 kg, .int .i64 ng, .string sg, .slice lag lg.length lcg, .slice dag dg.length dcg] 31))
        have HIgg := Lib.hid ((owns_in _ owg.owns).then_ cg)
        have HOg := Lib.hid owg.ok
        have HVg := Lib.hid hvg
        have HRug := Lib.hid (row_then HRu6.out bcg)
        have HRwg := Lib.hid (row_then HRw6.out bcg)
        have HIug := Lib.hid (HIu6.out.then_ bcg)
        have HIwg := Lib.hid (HIw6.out.then_ bcg)
        have Bg := Lib.hid (below_then B6.out bcg)
        clear hvg cg bcg bg owg
        clear xu yu
        rcases back_gone HUV.out HVg.out with h2 | ⟨h2, rfl⟩ | ⟨h2, rfl, rfl⟩
        · skip
          have xu := row_cells HRug.out
          have yu := lt_of_block HRug.out
          have xg := row_cells HRgg.out
          have yg := lt_of_block HRgg.out
          try dsimp only at xu xg
          go_wp2_with fail
          refine (at_any (.mk ku nu su lau lcu lu dau dcu du) HOu.out qa qc qs _ (HIug.out) (HQ.out.then_ Bg.out)).mono ?_
          rintro e wq haq
          obtain ⟨⟨kq, nq, sq, laq, lcq, lq, daq, dcq, dq⟩, isq, rfl, hvq, owq, bq⟩ := at_uni haq
          clear haq
          dsimp only [T.arg, T.cells]
          have cq := below1 wq (.cells #[.int .i64 kq, .int .i64 nq, .string sq, .slice laq lq.length lcq, .slice daq dq.length dcq] 31)
          have bcq := below_then bq cq
          have HRqq := Lib.hid (heap_alloc_new wq (.cells #[.int .i64 kq, .int .i64 nq, .string sq, .slice laq lq.length lcq, .slice daq dq.length dcq] 31))
          have HIqq := Lib.hid ((owns_in _ owq.owns).then_ cq)
          have HOq := Lib.hid owq.ok
          have HVq := Lib.hid hvq
          have HRwq := Lib.hid (row_then HRwg.out bcq)
          have HIwq := Lib.hid (HIwg.out.then_ bcq)
          have Bq := Lib.hid (below_then Bg.out bcq)
          clear hvq cq bcq bq owq
          have xw := row_cells HRwq.out
          have yw := lt_of_block HRwq.out
          have xq := row_cells HRqq.out
          have yq := lt_of_block HRqq.out
          try dsimp only at xw xq
          clear xu yu xg yg
          go_wp2_with fail
          refine (same_any (.mk kq nq sq laq lcq lq daq dcq dq) (.mk kw nw sw law lcw lw daw dcw dw) _ HOq.out HOw.out HIqq.out HIwq.out).mono ?_
          rintro e wz ⟨rfl, bz⟩
          have Bz := Lib.hid (below_then Bq.out bz)
          clear bz xw xq yw yq
          go_wp2_with fail
          all_goals go_ret
          all_goals exact ⟨by simp, Bz.out⟩
        · skip
          have xu := row_cells HRug.out
          have yu := lt_of_block HRug.out
          have xg := row_cells HRgg.out
          have yg := lt_of_block HRgg.out
          try dsimp only at xu xg
          go_wp2_with fail
          refine (at_any (.mk ku nu su lau lcu lu dau dcu du) HOu.out qa qc qs _ (HIug.out) (HQ.out.then_ Bg.out)).mono ?_
          rintro e wq haq
          obtain ⟨⟨kq, nq, sq, laq, lcq, lq, daq, dcq, dq⟩, isq, rfl, hvq, owq, bq⟩ := at_uni haq
          clear haq
          dsimp only [T.arg, T.cells]
          have cq := below1 wq (.cells #[.int .i64 kq, .int .i64 nq, .string sq, .slice laq lq.length lcq, .slice daq dq.length dcq] 31)
          have bcq := below_then bq cq
          have HRqq := Lib.hid (heap_alloc_new wq (.cells #[.int .i64 kq, .int .i64 nq, .string sq, .slice laq lq.length lcq, .slice daq dq.length dcq] 31))
          have HIqq := Lib.hid ((owns_in _ owq.owns).then_ cq)
          have HOq := Lib.hid owq.ok
          have HVq := Lib.hid hvq
          have HRwq := Lib.hid (row_then HRwg.out bcq)
          have HIwq := Lib.hid (HIwg.out.then_ bcq)
          have Bq := Lib.hid (below_then Bg.out bcq)
          clear hvq cq bcq bq owq
          have xw := row_cells HRwq.out
          have yw := lt_of_block HRwq.out
          have xq := row_cells HRqq.out
          have yq := lt_of_block HRqq.out
          try dsimp only at xw xq
          clear xu yu xg yg
          go_wp2_with fail
          refine (same_any (.mk kq nq sq laq lcq lq daq dcq dq) (.mk kw nw sw law lcw lw daw dcw dw) _ HOq.out HOw.out HIqq.out HIwq.out).mono ?_
          rintro e wz ⟨rfl, bz⟩
          have Bz := Lib.hid (below_then Bq.out bz)
          clear bz xw xq yw yq
          go_wp2_with fail
          all_goals go_ret
          all_goals exact ⟨by simp, Bz.out⟩
        · skip
          have xu := row_cells HRug.out
          have yu := lt_of_block HRug.out
          have xg := row_cells HRgg.out
          have yg := lt_of_block HRgg.out
          try dsimp only at xu xg
          go_wp2_with fail
          refine (at_any (.mk ku nu su lau lcu lu dau dcu du) HOu.out qa qc qs _ (HIug.out) (HQ.out.then_ Bg.out)).mono ?_
          rintro e wq haq
          obtain ⟨⟨kq, nq, sq, laq, lcq, lq, daq, dcq, dq⟩, isq, rfl, hvq, owq, bq⟩ := at_uni haq
          clear haq
          dsimp only [T.arg, T.cells]
          have cq := below1 wq (.cells #[.int .i64 kq, .int .i64 nq, .string sq, .slice laq lq.length lcq, .slice daq dq.length dcq] 31)
          have bcq := below_then bq cq
          have HRqq := Lib.hid (heap_alloc_new wq (.cells #[.int .i64 kq, .int .i64 nq, .string sq, .slice laq lq.length lcq, .slice daq dq.length dcq] 31))
          have HIqq := Lib.hid ((owns_in _ owq.owns).then_ cq)
          have HOq := Lib.hid owq.ok
          have HVq := Lib.hid hvq
          have HRwq := Lib.hid (row_then HRwg.out bcq)
          have HIwq := Lib.hid (HIwg.out.then_ bcq)
          have Bq := Lib.hid (below_then Bg.out bcq)
          clear hvq cq bcq bq owq
          have xw := row_cells HRwq.out
          have yw := lt_of_block HRwq.out
          have xq := row_cells HRqq.out
          have yq := lt_of_block HRqq.out
          try dsimp only at xw xq
          clear xu yu xg yg
          go_wp2_with fail
          refine (same_any (.mk kq nq sq laq lcq lq daq dcq dq) (.mk kw nw sw law lcw lw daw dcw dw) _ HOq.out HOw.out HIqq.out HIwq.out).mono ?_
          rintro e wz ⟨rfl, bz⟩
          have Bz := Lib.hid (below_then Bq.out bz)
          clear bz xw xq yw yq
          go_wp2_with fail
          all_goals go_ret
          all_goals exact ⟨by simp, Bz.out⟩
    · have HST := Lib.hid hset
      clear HSET hset xu6 lu6
      go_wp2_with fail
      refine (at_any (.mk ks ns ss las lcs ls das dcs ds) HOs.out pa pc ps _ (HIs6.out) (HP.out.then_ B6.out)).mono ?_
      rintro e wa haa
      obtain ⟨⟨ka, na, sa, laa, lca, la, daa, dca, da⟩, isa, rfl, hva, owa, ba⟩ := at_uni haa
      clear haa
      dsimp only [T.arg, T.cells]
      have ca := below1 wa (.cells #[.int .i64 ka, .int .i64 na, .string sa, .slice laa la.length lca, .slice daa da.length dca] 31)
      have bca := below_then ba ca
      have HRaa := Lib.hid (heap_alloc_new wa (.cells #[.int .i64 ka, .int .i64 na, .string sa, .slice laa la.length lca, .slice daa da.length dca] 31))
      have HIaa := Lib.hid ((owns_in _ owa.owns).then_ ca)
      have HOa := Lib.hid owa.ok
      have HVa := Lib.hid hva
      have HRxa := Lib.hid (row_then HRx6.out bca)
      have HRsa := Lib.hid (row_then HRs6.out bca)
      have HRua := Lib.hid (row_then HRu6.out bca)
      have HRwa := Lib.hid (row_then HRw6.out bca)
      have HIsa := Lib.hid (HIs6.out.then_ bca)
      have HIua := Lib.hid (HIu6.out.then_ bca)
      have HIwa := Lib.hid (HIw6.out.then_ bca)
      have Ba := Lib.hid (below_then B6.out bca)
      clear hva ca bca ba owa
      obtain ⟨rfl, hga⟩ := back_got HST.out HVa.out
      have HGA := Lib.hid hga
      clear hga xs6 ls6
      have xx := row_cells HRxa.out
      have yx := lt_of_block HRxa.out
      have xa := row_cells HRaa.out
      have ya := lt_of_block HRaa.out
      try dsimp only [T.cells] at xx xa
      have HIxa := Lib.hid (HX.out.then_ Ba.out)
      go_wp2_with fail
      refine (same_any (.mk ka na sa laa lca la daa dca da) (.mk kx nx sx lax lcx lx dax dcx dx) _ HOa.out HOx.out HIaa.out HIxa.out).mono ?_
      rintro e wb ⟨rfl, bb⟩
      rw [(sameV_iff _ _).2 HGA.out]
      have HRsb := Lib.hid (row_then HRsa.out bb)
      have HRub := Lib.hid (row_then HRua.out bb)
      have HRwb := Lib.hid (row_then HRwa.out bb)
      have HIsb := Lib.hid (HIsa.out.then_ bb)
      have HIub := Lib.hid (HIua.out.then_ bb)
      have HIwb := Lib.hid (HIwa.out.then_ bb)
      have Bb := Lib.hid (below_then Ba.out bb)
      clear bb
      clear xx yx xa ya
      have xs := row_cells HRsb.out
      have ys := lt_of_block HRsb.out
      try dsimp only at xs
      go_wp2_with fail
      refine (at_any (.mk ks ns ss las lcs ls das dcs ds) HOs.out qa qc qs _ (HIsb.out) (HQ.out.then_ Bb.out)).mono ?_
      rintro e wc hac
      obtain ⟨⟨kc, nc, sc, lac, lcc, lc, dac, dcc, dc⟩, isc, rfl, hvc, owc, bc⟩ := at_uni hac
      clear hac
      dsimp only [T.arg, T.cells]
      have cc := below1 wc (.cells #[.int .i64 kc, .int .i64 nc, .string sc, .slice lac lc.length lcc, .slice dac dc.length dcc] 31)
      have bcc := below_then bc cc
      have HRcc := Lib.hid (heap_alloc_new wc (.cells #[.int .i64 kc, .int .i64 nc, .string sc, .slice lac lc.length lcc, .slice dac dc.length dcc] 31))
      have HIcc := Lib.hid ((owns_in _ owc.owns).then_ cc)
      have HOc := Lib.hid owc.ok
      have HVc := Lib.hid hvc
      have HRuc := Lib.hid (row_then HRub.out bcc)
      have HRwc := Lib.hid (row_then HRwb.out bcc)
      have HIuc := Lib.hid (HIub.out.then_ bcc)
      have HIwc := Lib.hid (HIwb.out.then_ bcc)
      have Bc := Lib.hid (below_then Bb.out bcc)
      clear hvc cc bcc bc owc
      clear xs ys
      have xw := row_cells HRwc.out
      have yw := lt_of_block HRwc.out
      have xc := row_cells HRcc.out
      have yc := lt_of_block HRcc.out
      try dsimp only at xw xc
      go_wp2_with fail
      refine (same_any (.mk kc nc sc lac lcc lc dac dcc dc) (.mk kw nw sw law lcw lw daw dcw dw) _ HOc.out HOw.out HIcc.out HIwc.out).mono ?_
      rintro e wd ⟨rfl, bd⟩
      have HRud := Lib.hid (row_then HRuc.out bd)
      have HRwd := Lib.hid (row_then HRwc.out bd)
      have HIud := Lib.hid (HIuc.out.then_ bd)
      have HIwd := Lib.hid (HIwc.out.then_ bd)
      have Bd := Lib.hid (below_then Bc.out bd)
      clear bd
      clear xw yw xc yc
      rcases sp with _ | _
      · rcases isw with _ | _
        · skip
          have xu := row_cells HRud.out
          have yu := lt_of_block HRud.out
          try dsimp only at xu
          go_wp2_with fail
          refine (at_any (.mk ku nu su lau lcu lu dau dcu du) HOu.out pa pc ps _ (HIud.out) (HP.out.then_ Bd.out)).mono ?_
          rintro e wg hag
          obtain ⟨⟨kg, ng, sg, lag, lcg, lg, dag, dcg, dg⟩, isg, rfl, hvg, owg, bg⟩ := at_uni hag
          clear hag
          dsimp only [T.arg, T.cells]
          have cg := below1 wg (.cells #[.int .i64 kg, .int .i64 ng, .string sg, .slice lag lg.length lcg, .slice dag dg.length dcg] 31)
          have bcg := below_then bg cg
          have HRgg := Lib.hid (heap_alloc_new wg (.cells #[.int .i64 kg, .int .i64 ng, .string sg, .slice lag lg.length lcg, .slice dag dg.length dcg] 31))
          have HIgg := Lib.hid ((owns_in _ owg.owns).then_ cg)
          have HOg := Lib.hid owg.ok
          have HVg := Lib.hid hvg
          have HRug := Lib.hid (row_then HRud.out bcg)
          have HRwg := Lib.hid (row_then HRwd.out bcg)
          have HIug := Lib.hid (HIud.out.then_ bcg)
          have HIwg := Lib.hid (HIwd.out.then_ bcg)
          have Bg := Lib.hid (below_then Bd.out bcg)
          clear hvg cg bcg bg owg
          clear xu yu
          rcases back_gone HUV.out HVg.out with h2 | ⟨h2, rfl⟩ | ⟨h2, rfl, rfl⟩
          · skip
            have xu := row_cells HRug.out
            have yu := lt_of_block HRug.out
            have xg := row_cells HRgg.out
            have yg := lt_of_block HRgg.out
            try dsimp only at xu xg
            go_wp2_with fail
            refine (at_any (.mk ku nu su lau lcu lu dau dcu du) HOu.out qa qc qs _ (HIug.out) (HQ.out.then_ Bg.out)).mono ?_
            rintro e wq haq
            obtain ⟨⟨kq, nq, sq, laq, lcq, lq, daq, dcq, dq⟩, isq, rfl, hvq, owq, bq⟩ := at_uni haq
            clear haq
            dsimp only [T.arg, T.cells]
            have cq := below1 wq (.cells #[.int .i64 kq, .int .i64 nq, .string sq, .slice laq lq.length lcq, .slice daq dq.length dcq] 31)
            have bcq := below_then bq cq
            have HRqq := Lib.hid (heap_alloc_new wq (.cells #[.int .i64 kq, .int .i64 nq, .string sq, .slice laq lq.length lcq, .slice daq dq.length dcq] 31))
            have HIqq := Lib.hid ((owns_in _ owq.owns).then_ cq)
            have HOq := Lib.hid owq.ok
            have HVq := Lib.hid hvq
            have HRwq := Lib.hid (row_then HRwg.out bcq)
            have HIwq := Lib.hid (HIwg.out.then_ bcq)
            have Bq := Lib.hid (below_then Bg.out bcq)
            clear hvq cq bcq bq owq
            have xw := row_cells HRwq.out
            have yw := lt_of_block HRwq.out
            have xq := row_cells HRqq.out
            have yq := lt_of_block HRqq.out
            try dsimp only at xw xq
            clear xu yu xg yg
            go_wp2_with fail
            refine (same_any (.mk kq nq sq laq lcq lq daq dcq dq) (.mk kw nw sw law lcw lw daw dcw dw) _ HOq.out HOw.out HIqq.out HIwq.out).mono ?_
            rintro e wz ⟨rfl, bz⟩
            have Bz := Lib.hid (below_then Bq.out bz)
            have hk := back_end HSP.out HUV.out HVq.out HVw.out
            obtain ⟨hk1, hk2⟩ := hk
            rw [hk2]
            subst hk1
            clear bz xw xq yw yq
            go_wp2_with fail
            all_goals go_ret
            all_goals exact ⟨by simp, Bz.out⟩
          · skip
            have xu := row_cells HRug.out
            have yu := lt_of_block HRug.out
            have xg := row_cells HRgg.out
            have yg := lt_of_block HRgg.out
            try dsimp only at xu xg
            go_wp2_with fail
            refine (at_any (.mk ku nu su lau lcu lu dau dcu du) HOu.out qa qc qs _ (HIug.out) (HQ.out.then_ Bg.out)).mono ?_
            rintro e wq haq
            obtain ⟨⟨kq, nq, sq, laq, lcq, lq, daq, dcq, dq⟩, isq, rfl, hvq, owq, bq⟩ := at_uni haq
            clear haq
            dsimp only [T.arg, T.cells]
            have cq := below1 wq (.cells #[.int .i64 kq, .int .i64 nq, .string sq, .slice laq lq.length lcq, .slice daq dq.length dcq] 31)
            have bcq := below_then bq cq
            have HRqq := Lib.hid (heap_alloc_new wq (.cells #[.int .i64 kq, .int .i64 nq, .string sq, .slice laq lq.length lcq, .slice daq dq.length dcq] 31))
            have HIqq := Lib.hid ((owns_in _ owq.owns).then_ cq)
            have HOq := Lib.hid owq.ok
            have HVq := Lib.hid hvq
            have HRwq := Lib.hid (row_then HRwg.out bcq)
            have HIwq := Lib.hid (HIwg.out.then_ bcq)
            have Bq := Lib.hid (below_then Bg.out bcq)
            clear hvq cq bcq bq owq
            have xw := row_cells HRwq.out
            have yw := lt_of_block HRwq.out
            have xq := row_cells HRqq.out
            have yq := lt_of_block HRqq.out
            try dsimp only at xw xq
            clear xu yu xg yg
            go_wp2_with fail
            refine (same_any (.mk kq nq sq laq lcq lq daq dcq dq) (.mk kw nw sw law lcw lw daw dcw dw) _ HOq.out HOw.out HIqq.out HIwq.out).mono ?_
            rintro e wz ⟨rfl, bz⟩
            have Bz := Lib.hid (below_then Bq.out bz)
            have hk := back_end HSP.out HUV.out HVq.out HVw.out
            obtain ⟨hk1, hk2⟩ := hk
            rw [hk2]
            subst hk1
            clear bz xw xq yw yq
            go_wp2_with fail
            all_goals go_ret
            all_goals exact ⟨by simp, Bz.out⟩
          · skip
            have xu := row_cells HRug.out
            have yu := lt_of_block HRug.out
            have xg := row_cells HRgg.out
            have yg := lt_of_block HRgg.out
            try dsimp only at xu xg
            go_wp2_with fail
            refine (at_any (.mk ku nu su lau lcu lu dau dcu du) HOu.out qa qc qs _ (HIug.out) (HQ.out.then_ Bg.out)).mono ?_
            rintro e wq haq
            obtain ⟨⟨kq, nq, sq, laq, lcq, lq, daq, dcq, dq⟩, isq, rfl, hvq, owq, bq⟩ := at_uni haq
            clear haq
            dsimp only [T.arg, T.cells]
            have cq := below1 wq (.cells #[.int .i64 kq, .int .i64 nq, .string sq, .slice laq lq.length lcq, .slice daq dq.length dcq] 31)
            have bcq := below_then bq cq
            have HRqq := Lib.hid (heap_alloc_new wq (.cells #[.int .i64 kq, .int .i64 nq, .string sq, .slice laq lq.length lcq, .slice daq dq.length dcq] 31))
            have HIqq := Lib.hid ((owns_in _ owq.owns).then_ cq)
            have HOq := Lib.hid owq.ok
            have HVq := Lib.hid hvq
            have HRwq := Lib.hid (row_then HRwg.out bcq)
            have HIwq := Lib.hid (HIwg.out.then_ bcq)
            have Bq := Lib.hid (below_then Bg.out bcq)
            clear hvq cq bcq bq owq
            have xw := row_cells HRwq.out
            have yw := lt_of_block HRwq.out
            have xq := row_cells HRqq.out
            have yq := lt_of_block HRqq.out
            try dsimp only at xw xq
            clear xu yu xg yg
            go_wp2_with fail
            refine (same_any (.mk kq nq sq laq lcq lq daq dcq dq) (.mk kw nw sw law lcw lw daw dcw dw) _ HOq.out HOw.out HIqq.out HIwq.out).mono ?_
            rintro e wz ⟨rfl, bz⟩
            have Bz := Lib.hid (below_then Bq.out bz)
            have hk := back_end HSP.out HUV.out HVq.out HVw.out
            obtain ⟨hk1, hk2⟩ := hk
            rw [hk2]
            subst hk1
            clear bz xw xq yw yq
            go_wp2_with fail
            all_goals go_ret
            all_goals exact ⟨by simp, Bz.out⟩
        · obtain ⟨rfl, hkd⟩ := back_kept HST.out HSP.out HVw.out HVc.out
          rw [(sameV_iff _ _).2 hkd]
          clear hkd
          have xu := row_cells HRud.out
          have yu := lt_of_block HRud.out
          try dsimp only at xu
          go_wp2_with fail
          refine (at_any (.mk ku nu su lau lcu lu dau dcu du) HOu.out pa pc ps _ (HIud.out) (HP.out.then_ Bd.out)).mono ?_
          rintro e wg hag
          obtain ⟨⟨kg, ng, sg, lag, lcg, lg, dag, dcg, dg⟩, isg, rfl, hvg, owg, bg⟩ := at_uni hag
          clear hag
          dsimp only [T.arg, T.cells]
          have cg := below1 wg (.cells #[.int .i64 kg, .int .i64 ng, .string sg, .slice lag lg.length lcg, .slice dag dg.length dcg] 31)
          have bcg := below_then bg cg
          have HRgg := Lib.hid (heap_alloc_new wg (.cells #[.int .i64 kg, .int .i64 ng, .string sg, .slice lag lg.length lcg, .slice dag dg.length dcg] 31))
          have HIgg := Lib.hid ((owns_in _ owg.owns).then_ cg)
          have HOg := Lib.hid owg.ok
          have HVg := Lib.hid hvg
          have HRug := Lib.hid (row_then HRud.out bcg)
          have HRwg := Lib.hid (row_then HRwd.out bcg)
          have HIug := Lib.hid (HIud.out.then_ bcg)
          have HIwg := Lib.hid (HIwd.out.then_ bcg)
          have Bg := Lib.hid (below_then Bd.out bcg)
          clear hvg cg bcg bg owg
          clear xu yu
          rcases back_gone HUV.out HVg.out with h2 | ⟨h2, rfl⟩ | ⟨h2, rfl, rfl⟩
          · skip
            have xu := row_cells HRug.out
            have yu := lt_of_block HRug.out
            have xg := row_cells HRgg.out
            have yg := lt_of_block HRgg.out
            try dsimp only at xu xg
            go_wp2_with fail
            refine (at_any (.mk ku nu su lau lcu lu dau dcu du) HOu.out qa qc qs _ (HIug.out) (HQ.out.then_ Bg.out)).mono ?_
            rintro e wq haq
            obtain ⟨⟨kq, nq, sq, laq, lcq, lq, daq, dcq, dq⟩, isq, rfl, hvq, owq, bq⟩ := at_uni haq
            clear haq
            dsimp only [T.arg, T.cells]
            have cq := below1 wq (.cells #[.int .i64 kq, .int .i64 nq, .string sq, .slice laq lq.length lcq, .slice daq dq.length dcq] 31)
            have bcq := below_then bq cq
            have HRqq := Lib.hid (heap_alloc_new wq (.cells #[.int .i64 kq, .int .i64 nq, .string sq, .slice laq lq.length lcq, .slice daq dq.length dcq] 31))
            have HIqq := Lib.hid ((owns_in _ owq.owns).then_ cq)
            have HOq := Lib.hid owq.ok
            have HVq := Lib.hid hvq
            have HRwq := Lib.hid (row_then HRwg.out bcq)
            have HIwq := Lib.hid (HIwg.out.then_ bcq)
            have Bq := Lib.hid (below_then Bg.out bcq)
            clear hvq cq bcq bq owq
            have xw := row_cells HRwq.out
            have yw := lt_of_block HRwq.out
            have xq := row_cells HRqq.out
            have yq := lt_of_block HRqq.out
            try dsimp only at xw xq
            clear xu yu xg yg
            go_wp2_with fail
            refine (same_any (.mk kq nq sq laq lcq lq daq dcq dq) (.mk kw nw sw law lcw lw daw dcw dw) _ HOq.out HOw.out HIqq.out HIwq.out).mono ?_
            rintro e wz ⟨rfl, bz⟩
            have Bz := Lib.hid (below_then Bq.out bz)
            have hk := back_end HSP.out HUV.out HVq.out HVw.out
            obtain ⟨hk1, hk2⟩ := hk
            rw [hk2]
            subst hk1
            clear bz xw xq yw yq
            go_wp2_with fail
            all_goals go_ret
            all_goals exact ⟨by simp, Bz.out⟩
          · skip
            have xu := row_cells HRug.out
            have yu := lt_of_block HRug.out
            have xg := row_cells HRgg.out
            have yg := lt_of_block HRgg.out
            try dsimp only at xu xg
            go_wp2_with fail
            refine (at_any (.mk ku nu su lau lcu lu dau dcu du) HOu.out qa qc qs _ (HIug.out) (HQ.out.then_ Bg.out)).mono ?_
            rintro e wq haq
            obtain ⟨⟨kq, nq, sq, laq, lcq, lq, daq, dcq, dq⟩, isq, rfl, hvq, owq, bq⟩ := at_uni haq
            clear haq
            dsimp only [T.arg, T.cells]
            have cq := below1 wq (.cells #[.int .i64 kq, .int .i64 nq, .string sq, .slice laq lq.length lcq, .slice daq dq.length dcq] 31)
            have bcq := below_then bq cq
            have HRqq := Lib.hid (heap_alloc_new wq (.cells #[.int .i64 kq, .int .i64 nq, .string sq, .slice laq lq.length lcq, .slice daq dq.length dcq] 31))
            have HIqq := Lib.hid ((owns_in _ owq.owns).then_ cq)
            have HOq := Lib.hid owq.ok
            have HVq := Lib.hid hvq
            have HRwq := Lib.hid (row_then HRwg.out bcq)
            have HIwq := Lib.hid (HIwg.out.then_ bcq)
            have Bq := Lib.hid (below_then Bg.out bcq)
            clear hvq cq bcq bq owq
            have xw := row_cells HRwq.out
            have yw := lt_of_block HRwq.out
            have xq := row_cells HRqq.out
            have yq := lt_of_block HRqq.out
            try dsimp only at xw xq
            clear xu yu xg yg
            go_wp2_with fail
            refine (same_any (.mk kq nq sq laq lcq lq daq dcq dq) (.mk kw nw sw law lcw lw daw dcw dw) _ HOq.out HOw.out HIqq.out HIwq.out).mono ?_
            rintro e wz ⟨rfl, bz⟩
            have Bz := Lib.hid (below_then Bq.out bz)
            have hk := back_end HSP.out HUV.out HVq.out HVw.out
            obtain ⟨hk1, hk2⟩ := hk
            rw [hk2]
            subst hk1
            clear bz xw xq yw yq
            go_wp2_with fail
            all_goals go_ret
            all_goals exact ⟨by simp, Bz.out⟩
          · skip
            have xu := row_cells HRug.out
            have yu := lt_of_block HRug.out
            have xg := row_cells HRgg.out
            have yg := lt_of_block HRgg.out
            try dsimp only at xu xg
            go_wp2_with fail
            refine (at_any (.mk ku nu su lau lcu lu dau dcu du) HOu.out qa qc qs _ (HIug.out) (HQ.out.then_ Bg.out)).mono ?_
            rintro e wq haq
            obtain ⟨⟨kq, nq, sq, laq, lcq, lq, daq, dcq, dq⟩, isq, rfl, hvq, owq, bq⟩ := at_uni haq
            clear haq
            dsimp only [T.arg, T.cells]
            have cq := below1 wq (.cells #[.int .i64 kq, .int .i64 nq, .string sq, .slice laq lq.length lcq, .slice daq dq.length dcq] 31)
            have bcq := below_then bq cq
            have HRqq := Lib.hid (heap_alloc_new wq (.cells #[.int .i64 kq, .int .i64 nq, .string sq, .slice laq lq.length lcq, .slice daq dq.length dcq] 31))
            have HIqq := Lib.hid ((owns_in _ owq.owns).then_ cq)
            have HOq := Lib.hid owq.ok
            have HVq := Lib.hid hvq
            have HRwq := Lib.hid (row_then HRwg.out bcq)
            have HIwq := Lib.hid (HIwg.out.then_ bcq)
            have Bq := Lib.hid (below_then Bg.out bcq)
            clear hvq cq bcq bq owq
            have xw := row_cells HRwq.out
            have yw := lt_of_block HRwq.out
            have xq := row_cells HRqq.out
            have yq := lt_of_block HRqq.out
            try dsimp only at xw xq
            clear xu yu xg yg
            go_wp2_with fail
            refine (same_any (.mk kq nq sq laq lcq lq daq dcq dq) (.mk kw nw sw law lcw lw daw dcw dw) _ HOq.out HOw.out HIqq.out HIwq.out).mono ?_
            rintro e wz ⟨rfl, bz⟩
            have Bz := Lib.hid (below_then Bq.out bz)
            have hk := back_end HSP.out HUV.out HVq.out HVw.out
            obtain ⟨hk1, hk2⟩ := hk
            rw [hk2]
            subst hk1
            clear bz xw xq yw yq
            go_wp2_with fail
            all_goals go_ret
            all_goals exact ⟨by simp, Bz.out⟩
      · skip
        have xu := row_cells HRud.out
        have yu := lt_of_block HRud.out
        try dsimp only at xu
        go_wp2_with fail
        refine (at_any (.mk ku nu su lau lcu lu dau dcu du) HOu.out pa pc ps _ (HIud.out) (HP.out.then_ Bd.out)).mono ?_
        rintro e wg hag
        obtain ⟨⟨kg, ng, sg, lag, lcg, lg, dag, dcg, dg⟩, isg, rfl, hvg, owg, bg⟩ := at_uni hag
        clear hag
        dsimp only [T.arg, T.cells]
        have cg := below1 wg (.cells #[.int .i64 kg, .int .i64 ng, .string sg, .slice lag lg.length lcg, .slice dag dg.length dcg] 31)
        have bcg := below_then bg cg
        have HRgg := Lib.hid (heap_alloc_new wg (.cells #[.int .i64 kg, .int .i64 ng, .string sg, .slice lag lg.length lcg, .slice dag dg.length dcg] 31))
        have HIgg := Lib.hid ((owns_in _ owg.owns).then_ cg)
        have HOg := Lib.hid owg.ok
        have HVg := Lib.hid hvg
        have HRug := Lib.hid (row_then HRud.out bcg)
        have HRwg := Lib.hid (row_then HRwd.out bcg)
        have HIug := Lib.hid (HIud.out.then_ bcg)
        have HIwg := Lib.hid (HIwd.out.then_ bcg)
        have Bg := Lib.hid (below_then Bd.out bcg)
        clear hvg cg bcg bg owg
        clear xu yu
        rcases back_gone HUV.out HVg.out with h2 | ⟨h2, rfl⟩ | ⟨h2, rfl, rfl⟩
        · skip
          have xu := row_cells HRug.out
          have yu := lt_of_block HRug.out
          have xg := row_cells HRgg.out
          have yg := lt_of_block HRgg.out
          try dsimp only at xu xg
          go_wp2_with fail
          refine (at_any (.mk ku nu su lau lcu lu dau dcu du) HOu.out qa qc qs _ (HIug.out) (HQ.out.then_ Bg.out)).mono ?_
          rintro e wq haq
          obtain ⟨⟨kq, nq, sq, laq, lcq, lq, daq, dcq, dq⟩, isq, rfl, hvq, owq, bq⟩ := at_uni haq
          clear haq
          dsimp only [T.arg, T.cells]
          have cq := below1 wq (.cells #[.int .i64 kq, .int .i64 nq, .string sq, .slice laq lq.length lcq, .slice daq dq.length dcq] 31)
          have bcq := below_then bq cq
          have HRqq := Lib.hid (heap_alloc_new wq (.cells #[.int .i64 kq, .int .i64 nq, .string sq, .slice laq lq.length lcq, .slice daq dq.length dcq] 31))
          have HIqq := Lib.hid ((owns_in _ owq.owns).then_ cq)
          have HOq := Lib.hid owq.ok
          have HVq := Lib.hid hvq
          have HRwq := Lib.hid (row_then HRwg.out bcq)
          have HIwq := Lib.hid (HIwg.out.then_ bcq)
          have Bq := Lib.hid (below_then Bg.out bcq)
          clear hvq cq bcq bq owq
          have xw := row_cells HRwq.out
          have yw := lt_of_block HRwq.out
          have xq := row_cells HRqq.out
          have yq := lt_of_block HRqq.out
          try dsimp only at xw xq
          clear xu yu xg yg
          go_wp2_with fail
          refine (same_any (.mk kq nq sq laq lcq lq daq dcq dq) (.mk kw nw sw law lcw lw daw dcw dw) _ HOq.out HOw.out HIqq.out HIwq.out).mono ?_
          rintro e wz ⟨rfl, bz⟩
          have Bz := Lib.hid (below_then Bq.out bz)
          clear bz xw xq yw yq
          go_wp2_with fail
          all_goals go_ret
          all_goals exact ⟨by simp, Bz.out⟩
        · skip
          have xu := row_cells HRug.out
          have yu := lt_of_block HRug.out
          have xg := row_cells HRgg.out
          have yg := lt_of_block HRgg.out
          try dsimp only at xu xg
          go_wp2_with fail
          refine (at_any (.mk ku nu su lau lcu lu dau dcu du) HOu.out qa qc qs _ (HIug.out) (HQ.out.then_ Bg.out)).mono ?_
          rintro e wq haq
          obtain ⟨⟨kq, nq, sq, laq, lcq, lq, daq, dcq, dq⟩, isq, rfl, hvq, owq, bq⟩ := at_uni haq
          clear haq
          dsimp only [T.arg, T.cells]
          have cq := below1 wq (.cells #[.int .i64 kq, .int .i64 nq, .string sq, .slice laq lq.length lcq, .slice daq dq.length dcq] 31)
          have bcq := below_then bq cq
          have HRqq := Lib.hid (heap_alloc_new wq (.cells #[.int .i64 kq, .int .i64 nq, .string sq, .slice laq lq.length lcq, .slice daq dq.length dcq] 31))
          have HIqq := Lib.hid ((owns_in _ owq.owns).then_ cq)
          have HOq := Lib.hid owq.ok
          have HVq := Lib.hid hvq
          have HRwq := Lib.hid (row_then HRwg.out bcq)
          have HIwq := Lib.hid (HIwg.out.then_ bcq)
          have Bq := Lib.hid (below_then Bg.out bcq)
          clear hvq cq bcq bq owq
          have xw := row_cells HRwq.out
          have yw := lt_of_block HRwq.out
          have xq := row_cells HRqq.out
          have yq := lt_of_block HRqq.out
          try dsimp only at xw xq
          clear xu yu xg yg
          go_wp2_with fail
          refine (same_any (.mk kq nq sq laq lcq lq daq dcq dq) (.mk kw nw sw law lcw lw daw dcw dw) _ HOq.out HOw.out HIqq.out HIwq.out).mono ?_
          rintro e wz ⟨rfl, bz⟩
          have Bz := Lib.hid (below_then Bq.out bz)
          clear bz xw xq yw yq
          go_wp2_with fail
          all_goals go_ret
          all_goals exact ⟨by simp, Bz.out⟩
        · skip
          have xu := row_cells HRug.out
          have yu := lt_of_block HRug.out
          have xg := row_cells HRgg.out
          have yg := lt_of_block HRgg.out
          try dsimp only at xu xg
          go_wp2_with fail
          refine (at_any (.mk ku nu su lau lcu lu dau dcu du) HOu.out qa qc qs _ (HIug.out) (HQ.out.then_ Bg.out)).mono ?_
          rintro e wq haq
          obtain ⟨⟨kq, nq, sq, laq, lcq, lq, daq, dcq, dq⟩, isq, rfl, hvq, owq, bq⟩ := at_uni haq
          clear haq
          dsimp only [T.arg, T.cells]
          have cq := below1 wq (.cells #[.int .i64 kq, .int .i64 nq, .string sq, .slice laq lq.length lcq, .slice daq dq.length dcq] 31)
          have bcq := below_then bq cq
          have HRqq := Lib.hid (heap_alloc_new wq (.cells #[.int .i64 kq, .int .i64 nq, .string sq, .slice laq lq.length lcq, .slice daq dq.length dcq] 31))
          have HIqq := Lib.hid ((owns_in _ owq.owns).then_ cq)
          have HOq := Lib.hid owq.ok
          have HVq := Lib.hid hvq
          have HRwq := Lib.hid (row_then HRwg.out bcq)
          have HIwq := Lib.hid (HIwg.out.then_ bcq)
          have Bq := Lib.hid (below_then Bg.out bcq)
          clear hvq cq bcq bq owq
          have xw := row_cells HRwq.out
          have yw := lt_of_block HRwq.out
          have xq := row_cells HRqq.out
          have yq := lt_of_block HRqq.out
          try dsimp only at xw xq
          clear xu yu xg yg
          go_wp2_with fail
          refine (same_any (.mk kq nq sq laq lcq lq daq dcq dq) (.mk kw nw sw law lcw lw daw dcw dw) _ HOq.out HOw.out HIqq.out HIwq.out).mono ?_
          rintro e wz ⟨rfl, bz⟩
          have Bz := Lib.hid (below_then Bq.out bz)
          clear bz xw xq yw yq
          go_wp2_with fail
          all_goals go_ret
          all_goals exact ⟨by simp, Bz.out⟩
  · have hrb : (rightOf (T.mk kt nt st lat lct lt dat dct dt).val != 0) = true := by simpa using hr
    go_wp2_with fail
    all_goals go_ret
    all_goals exact ⟨rfl, B2.out⟩
end Go.Proofs.YtkklnfihjikilaaDoor
namespace Go.Proofs.YtkklnfihjikilaaDoor
open Go.RowKit Go.ChangeShapes Go.WideShapes Go.ChangeAt
set_option maxRecDepth 100000

theorem back_lifted (os : Os) (started : os.Started) (H : Type) (enc : TypeId × Value → H) :
    ReturnsInHanded {} Tryd.checked os 5 .any (fun w args => (Rows.pathBackSpec.pre enc Tryd.prog Tryd.f5 [] false w args ∧ laidMetH Tryd.prog laidAll w) ∧ sizedMet enc Tryd.prog Tryd.f5 (OpenSpec.ofChange Rows.pathBackSpec) false w args)
      (Rows.pathBackSpec.post enc Tryd.prog Tryd.f5 false true false false) := by
  refine handed_both (C := Tryd.checked) (X := fun w _ => laidMetH Tryd.prog laidAll w) (fun _ _ _ hh h => h.of_heap hh) own started (by kernel_rfl) Tryd.func5
    (ChangeSpec.witness_shaped (enc := enc) (C := Tryd.checked) (os := os) (X := fun w _ => laidMetH Tryd.prog laidAll w) false (World.laidAll Tryd.prog os laidAll) #[zeroArg, .slice none 0 0, .slice none 0 0, zeroArg] 8 (World.laidAll_os _ _ _)
      (World.shaped_of_ZipB (by kernel_rfl) (by kernel_rfl)) (by kernel_rfl) (by kernel_rfl) (by kernel_rfl)
      (by rw [MakeChecks.laidMetH_plain _ _ _ (by kernel_rfl)]; exact laidMet_laidAll _ (by kernel_rfl) (by kernel_rfl))) ?_
  intro W base args ds gs before hval0 hW hreach hL hsh
  have hval : ∀ (j : Nat) t v, Tryd.f5.params[j]? = some t → args[j]? = some v → Value.okWide Tryd.prog W .any base t v := hval0
  have hW' := hW
  obtain ⟨p, q, hA0, hV, rfl, _, _⟩ := hW
  have hA : DataW.TrodAll enc Tryd.prog W 0 (fun _ => true) true Tryd.f5.params.toList args.toList ds p := hA0
  rw [Tryd.params5] at hA hval
  obtain ⟨v0, v1, v2, v3, d0, d1, d2, d3, p0, p1, p2, p3, rfl, rfl, rfl, h0, h1, h2, h3⟩ := trodAll_four hA
  obtain ⟨rfl, rfl⟩ := trodVars_none hV
  have hre : reached (DataW.weightsEach Tryd.prog [31, 23, 23, 31] [d0, d1, d2, d3]) := hreach
  simp only [DataW.weightsEach, reached_append] at hre
  obtain ⟨r0, r1, r2, r3, -⟩ := hre
  obtain ⟨a, rfl, ina, oka⟩ := open_arg (hval 0 31 v0 rfl rfl) h0 r0
  obtain ⟨la, lc, l, rfl, hps, -⟩ := open_texts (hval 1 23 v1 rfl rfl) h1 r1
  obtain ⟨ma, mc, m, rfl, hqs, -⟩ := open_texts (hval 2 23 v2 rfl rfl) h2 r2
  obtain ⟨x, rfl, inx, okx⟩ := open_arg (hval 3 31 v3 rfl rfl) h3 r3
  rw [MakeChecks.laidMetH_plain _ _ _ (by kernel_rfl)] at hL
  have hlt := hW'.lt
  refine (back_law a x la lc l ma mc m W oka okx ina inx hps hqs (tabs4_of hsh hL)).mono fun e W' ⟨he, hb⟩ => ?_
  subst he
  exact ⟨_, rfl, _, _, _, [], _, [], hW', trodAll_mk1 (shut_bool Tryd.underlying4 _), trodAll_mk4 (back_arg h0 hb (fun x hx => hlt x (by simp [hx]))) (back_texts h1 hb (fun x hx => hlt x (by simp [hx]))) (back_texts h2 hb (fun x hx => hlt x (by simp [hx]))) (back_arg h3 hb (fun x hx => hlt x (by simp [hx]))), rfl, hb.frame _, fun h => by cases h⟩

theorem back_said : Rows.PathBackSaid :=
  OpenClaim.holds_of_wide 5 Tryd.f5 rfl rfl rfl rfl rfl rfl rfl ⟨rfl, rfl, rfl, rfl, rfl⟩ rfl rfl rfl rfl rfl (by kernel_rfl) Tryd.func5 (by kernel_rfl)
    (of_decide_eq_true (by kernel_rfl)) (by unfold Func.isWrapper; first | (rw [if_pos (by decide +kernel)]; kernel_rfl) | (rw [if_neg (by decide +kernel)]; exact ⟨rfl, rfl⟩))
    (fun os started H enc _ => back_lifted os started H enc)
theorem back_holds : Rows.PathBackCardSaid :=
  Claim7.holds_tied_plain_at .later [] [.data, .pinned] true (true, "39d93777f4b7a09cf6143a54ae5dc461b1e220e86226ccc4474025aced5ae450") false back_said (fun _ h => by cases h) (by kernel_rfl) (fun _ h => by cases h) pathBack_row_tie rfl ⟨rfl, rfl⟩ (by kernel_rfl) rfl
    (fun f fn hf hfn => by
      obtain rfl : f = 5 := Option.some.inj ((show Tryd.prog.funcNamed "coffret/coffretlaw04.PathBack" = some 5 by kernel_rfl).symm.trans hf) |>.symm
      obtain rfl : fn = Tryd.f5 := (Option.some.inj (Tryd.func5.symm.trans hfn)).symm
      exact ⟨by kernel_rfl, fun j t ht => by
        rw [Tryd.params5] at ht
        have hm : t ∈ [31, 23, 23, 31] := by simpa using Array.mem_of_getElem? ht
        have hall : ([31, 23, 23, 31].all fun u => !Tryd.prog.wantsStandIn u) = true := by kernel_rfl
        exact (show Tryd.prog.wantsStandIn t = false by simpa using List.all_eq_true.1 hall t hm)⟩)
    (by kernel_rfl)
#print axioms back_holds
end Go.Proofs.YtkklnfihjikilaaDoor
