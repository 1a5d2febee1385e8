/- The program's journal: may it be, New, Room, Records, Bytes. No statement is proved here. -/
import Derived.Test.YtophhnolnlbecaaDoorQ26
namespace Go.Proofs.YtophhnolnlbecaaDoor
open Go.RowKit
set_option maxRecDepth 100000

theorem jpages_any (h g : Nat) (w : World) (B : Base) (N : Nat) (d : Dk) (hh : w.heap[h]? = some (.cells #[.pointer (some ⟨g, 0, none⟩)] 86)) (hb : BoxAt w B g d N) :
    Calls Tryd.prog 68 #[.pointer (some ⟨h, 0, none⟩)] w fun e w' => e = .returned (.int .i64 ((d.many : Int) / 8)) ∧ w = w' := by
  have HS := Lib.hid (sectors_any h g w B N d (row_cells hh 0) hb)
  have hm : d.many ≤ 9223372036854775807 := by obtain ⟨-, s, h⟩ := hb; exact h.many
  have e2 : (d.many : Int).tdiv 8 = (d.many : Int) / 8 := Int.tdiv_eq_ediv_of_nonneg (by omega)
  clear hh hb
  go_enter Tryd.func68, Tryd.ntmps68
  go_wp2_with fail
  refine HS.out.mono ?_
  rintro e w' ⟨rfl, rfl⟩
  go_wp2_with fail
  go_ret
  exact ⟨rfl, rfl⟩
set_option maxHeartbeats 4000000 in
theorem pmayBe_any (h g : Nat) (fr many e : Int) (w : World) (B : Base) (N : Nat) (d : Dk) (hh : w.heap[h]? = some (.cells #[.pointer (some ⟨g, 0, none⟩)] 86)) (hb : BoxAt w B g d N) (h1 : okInt fr) (h2 : okInt many) (h3 : okInt e) :
    Calls Tryd.prog 47 #[.pointer (some ⟨h, 0, none⟩), .int .i64 fr, .int .i64 many, .int .i64 e] w fun en w' => en = .returned (.bool (decide (mayJ d fr many e))) ∧ w = w' := by
  have HP := Lib.hid (jpages_any h g w B N d hh hb)
  have HE := Lib.hid (pepoch_any e w)
  have hm : d.many ≤ 9223372036854775807 := by obtain ⟨-, s, h⟩ := hb; exact h.many
  unfold okInt at h1 h2
  obtain ⟨P, hP⟩ : ∃ P, P = (d.many : Int) / 8 := ⟨_, rfl⟩
  have hp0 : 0 ≤ P := by omega
  have hp1 : P ≤ 9223372036854775807 := by omega
  have hiff : mayJ d fr many e ↔ (jOk e ∧ 1 ≤ many ∧ 0 ≤ fr ∧ fr ≤ P - many) := by
    unfold mayJ
    rw [← hP]
    exact ⟨fun h => ⟨h.1, h.2.1, h.2.2.2.1, h.2.2.2.2⟩, fun h => ⟨h.1, h.2.1, by omega, h.2.2.1, h.2.2.2⟩⟩
  obtain ⟨r, hr⟩ : ∃ r, r = decide (mayJ d fr many e) := ⟨_, rfl⟩
  have hdec : ∀ b : Bool, ((jOk e ∧ 1 ≤ many ∧ 0 ≤ fr ∧ fr ≤ P - many) ↔ b = true) → r = b := fun b hb => by
    rw [hr]
    cases b
    · exact decide_eq_false (fun h => by cases hb.1 (hiff.1 h))
    · exact decide_eq_true (hiff.2 (hb.2 rfl))
  rw [← hr]
  rw [← hP] at HP
  clear hh hb hm hr hiff hP
  by_cases c1 : jOk e
  · rw [decide_eq_true c1] at HE
    by_cases c2 : 1 ≤ many
    · by_cases c3 : 0 ≤ fr
      · have HX := Lib.hid (hdec (decide (fr ≤ P - many)) (by rw [decide_eq_true_eq]; exact ⟨fun h => h.2.2.2, fun h => ⟨c1, c2, c3, h⟩⟩))
        clear hdec c1
        go_enter Tryd.func47, Tryd.ntmps47
        go_wp2_with (first
          | (go_at_call 34; refine HE.out.mono ?_; rintro en w' ⟨rfl, rfl⟩)
          | (go_at_call 68; refine HP.out.mono ?_; rintro en w' ⟨rfl, rfl⟩))
        go_ret
        exact ⟨by rw [HX.out]; rfl, rfl⟩
      · have HX := Lib.hid (hdec false (by simp; intros; omega))
        clear hdec c1
        go_enter Tryd.func47, Tryd.ntmps47
        go_wp2_with (first
          | (go_at_call 34; refine HE.out.mono ?_; rintro en w' ⟨rfl, rfl⟩)
          | (go_at_call 68; refine HP.out.mono ?_; rintro en w' ⟨rfl, rfl⟩))
        go_ret
        exact ⟨by rw [HX.out]; first | rfl | exact ret_bool (decide_eq_false (by omega)), rfl⟩
    · have HX := Lib.hid (hdec false (by simp; intros; omega))
      clear hdec c1
      go_enter Tryd.func47, Tryd.ntmps47
      go_wp2_with (first
        | (go_at_call 34; refine HE.out.mono ?_; rintro en w' ⟨rfl, rfl⟩)
        | (go_at_call 68; refine HP.out.mono ?_; rintro en w' ⟨rfl, rfl⟩))
      go_ret
      exact ⟨by rw [HX.out]; first | rfl | exact ret_bool (decide_eq_false (by omega)), rfl⟩
  · rw [decide_eq_false c1] at HE
    have HX := Lib.hid (hdec false ⟨fun h => absurd h.1 c1, fun h => by cases h⟩)
    clear hdec c1
    go_enter Tryd.func47, Tryd.ntmps47
    go_wp2_with (first
      | (go_at_call 34; refine HE.out.mono ?_; rintro en w' ⟨rfl, rfl⟩)
      | (go_at_call 68; refine HP.out.mono ?_; rintro en w' ⟨rfl, rfl⟩))
    go_ret
    exact ⟨by rw [HX.out]; first | rfl | exact ret_bool (decide_eq_false (by omega)), rfl⟩
theorem listener_any (w : World) : Calls Tryd.prog 48 #[] w fun en w' => en = .returned (.func (.func 69) #[] #[.pointer (some ⟨w.heap.size, 0, none⟩)]) ∧ w' = w.alloc (.cells #[.bool false] 4) := by
  go_enter Tryd.func48, Tryd.ntmps48
  go_wp2_with fail
  go_ret
  exact ⟨rfl, rfl⟩
theorem whole_nil (g f m : Nat) (e : Int) : lastL (JS.whole ⟨g, f, m, e, [], false⟩) = [] := by
  unfold JS.whole
  simp [strmK, lastL]
set_option maxHeartbeats 4000000 in
theorem pnewJ_any {W : World} (h g : Nat) (fr many e : Int) (w : World) (B : Base) (N : Nat) (d : Dk) (hW : Below W.heap.size W w) (hlow : W.heap.size ≤ h) (hh : w.heap[h]? = some (.cells #[.pointer (some ⟨g, 0, none⟩)] 86)) (hb : BoxAt w B g d N) (h1 : okInt fr) (h2 : okInt many) (h3 : okInt e) :
    Calls Tryd.prog 19 #[.pointer (some ⟨h, 0, none⟩), .int .i64 fr, .int .i64 many, .int .i64 e] w fun en w' => Below w.heap.size w w' ∧ ((¬ mayJ d fr many e ∧ en = .returned (.tuple #[.pointer none, .int .i64 1])) ∨ (mayJ d fr many e ∧ ∃ F a, en = .returned (.tuple #[.pointer (some ⟨a, 0, none⟩), .int .i64 0]) ∧ JnP W w' F a ⟨g, fr.toNat, many.toNat, e, [], false⟩ ∧ ∀ b ∈ F, b = h ∨ w.heap.size ≤ b)) := by
  have HM := Lib.hid (pmayBe_any h g fr many e w B N d hh hb h1 h2 h3)
  have HL := Lib.hid (fun W => listener_any W)
  have HH := Lib.hid (And.intro hh (And.intro hW hlow))
  unfold okInt at h1 h2
  clear hb hh hW hlow
  by_cases c : mayJ d fr many e
  rotate_left
  · rw [decide_eq_false c] at HM
    have HC := Lib.hid c
    clear c
    go_enter Tryd.func19, Tryd.ntmps19
    go_wp2_with fail
    refine HM.out.mono ?_
    rintro en w' ⟨rfl, rfl⟩
    go_wp2_with fail
    go_ret2
    exact ⟨Below.refl _ _, .inl ⟨HC.out, rfl⟩⟩
  · rw [decide_eq_true c] at HM
    have HC := Lib.hid c
    have hfr : 0 ≤ fr := c.2.2.2.1
    have hmy : 1 ≤ many := c.2.1
    obtain ⟨f, rfl⟩ := Int.eq_ofNat_of_zero_le hfr
    obtain ⟨m, rfl⟩ := Int.eq_ofNat_of_zero_le (show 0 ≤ many by omega)
    have hmin : min (m : Int) 2287542667870728 = ((min m 2287542667870728 : Nat) : Int) := by omega
    have HS := Lib.hid (show sizeJ m = ((min m 2287542667870728 : Nat) : Int) * 4032 by unfold sizeJ; omega)
    have hrng : (min m 2287542667870728 : Nat) ≤ 2287542667870728 := Nat.min_le_right _ _
    clear c hfr hmy
    obtain ⟨q, hq⟩ : ∃ q, q = min m 2287542667870728 := ⟨_, rfl⟩
    have HEND := Lib.hid (show ∀ w', w' = (w.alloc (.cells #[.bool false] 4)).alloc (.cells (jCells ⟨g, f, m, e, [], false⟩ h w.heap.size (.slice none 0 0)) 84) → Below w.heap.size w w' ∧ JnP W w' [w.heap.size + 1, h, w.heap.size] (w.heap.size + 1) ⟨g, f, m, e, [], false⟩ ∧ ∀ b ∈ [w.heap.size + 1, h, w.heap.size], b = h ∨ w.heap.size ≤ b from fun w' ew => by
      have hb2 := below2 w (.cells #[.bool false] 4) (.cells (jCells ⟨g, f, m, e, [], false⟩ h w.heap.size (.slice none 0 0)) 84)
      rw [← ew] at hb2
      have hsz := HH.out.2.1.size
      refine ⟨hb2, ⟨h, w.heap.size, .slice none 0 0, ?_, ?_, ?_, (by rw [whole_nil]; exact OwnB.nil _ _), rfl, by omega, by exact HH.out.2.2, hsz⟩, fun b hb => by simp at hb; omega⟩
      · rw [ew]; exact heap_alloc_at _ _ (w.heap.size + 1) (by simp)
      · exact row_then HH.out.1 hb2
      · rw [ew]; exact row_then (heap_alloc_new w _) (below1 _ _))
    unfold jCells at HEND
    rw [show sizeJ (JS.mk g f m e [] false).many = sizeJ m from rfl, HS.out, ← hq, show ((JS.mk g f m e [] false).len : Int) = 0 from rfl] at HEND
    rw [← hq] at hmin hrng
    have hq2 : (q : Int) ≤ 2287542667870728 := by omega
    clear hq
    go_enter Tryd.func19, Tryd.ntmps19
    go_wp2_with fail
    refine HM.out.mono ?_
    rintro en w' ⟨rfl, rfl⟩
    go_wp2_with fail
    refine (HL.out _).mono ?_
    rintro en w1 ⟨rfl, e1⟩
    have E1 := Lib.hid e1
    clear e1
    go_wp2_with fail
    go_ret2
    have e1 := E1.out
    subst e1
    obtain ⟨k1, k2, k3⟩ := HEND.out _ rfl
    refine ⟨k1, .inr ⟨HC.out, _, _, ?_, k2, k3⟩⟩
    rw [World.size_alloc]
    rfl
end Go.Proofs.YtophhnolnlbecaaDoor
