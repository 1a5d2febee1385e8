/- ExprDates over the contracts. No statement is proved here. -/
import Derived.Test.YtcpbdmgkeljkgaaGreatDoorEDi
import Derived.Test.YtcpbdmgkeljkgaaGreatDoorEDj
namespace Go.Proofs.YtcpbdmgkeljkgaaGreatDoor
open Go.RowKit
set_option maxRecDepth 100000

theorem year_small {a : Int} (ha : in64 a) : -1000000000 ≤ partF .year a ∧ partF .year a ≤ 1000000000 := by
  have hq : -106751991168 ≤ a / 86400000 ∧ a / 86400000 ≤ 106751991167 := by unfold in64 at ha; omega
  have hy := yr_range (r := (a / 86400000 + 719468) % 146097) (by omega) (by omega)
  simp only [partF]
  unfold Cal.year
  split <;> omega
theorem dates_law {a b : Int} (ha : in64 a) (hb : in64 b) (HAW : ∀ w, EnvR w → Calls Tryz.prog 5 #[] w fun e w' => e = .returned (.bool true) ∧ Below w.heap.size w w') (w : World) (henv : EnvR w) :
    Calls Tryz.prog 4 #[.int .i64 a, .int .i64 b] w fun e w' => e = .returned (.bool true) ∧ Below w.heap.size w w' := by
  obtain ⟨h, m, s, l, v, d, n, y, q, e1, e2, e3, e4, e5, e6, e7, e8, f1, f2, f3, f4, f5, f6, f7, fq⟩ := parts8 a
  have s1 : DtTo .hour a h := e1 ▸ dt_of .hour ha
  have s2 : DtTo .minute a m := e2 ▸ dt_of .minute ha
  have s3 : DtTo .second a s := e3 ▸ dt_of .second ha
  have s4 : DtTo .milli a l := e4 ▸ dt_of .milli ha
  have s5 : DtTo .weekday a v := e5 ▸ dt_of .weekday ha
  have s6 : DtTo .day a d := e6 ▸ dt_of .day ha
  have s7 : DtTo .month a n := e7 ▸ dt_of .month ha
  have s8 : DtTo .year a y := e8 ▸ dt_of .year ha
  have f8 : Int.tmod (a - (h * 3600000 + m * 60000 + s * 1000 + l)) 86400000 = 0 := by rw [fq]; exact Int.mul_tmod_right _ _
  by_cases hl : a ≤ 9223372036854775807 - 86400000
  · have ha2 : in64 (a + 86400000) := by unfold in64 at *; omega
    have hn := parts_next a
    rw [e5, e6, e7, e8] at hn
    have g0 : Int.tmod (v + 1) 7 = partF .weekday (a + 86400000) := by rw [hn.1]; exact Int.tmod_eq_emod_of_nonneg (by omega)
    have g2 : a ≤ b → y ≤ partF .year b := fun hab => e8 ▸ parts_grow hab
    have g3 : -1000000000 ≤ y ∧ y ≤ 1000000000 := e8 ▸ year_small ha
    by_cases hge : -9223372036854775808 + 86400000 ≤ a
    · exact dates_mid ha hb hl hge f8 f1 f2 f3 f4 f5 f6 f7 s1 s2 s3 s4 s5 s6 s7 s8 (dt_of .weekday ha2) (dt_of .day ha2) (dt_of .month ha2) (dt_of .year ha2) (dt_of .year hb) g0 hn.2 g2 g3 (year_small hb) HAW w henv
    · exact dates_low ha hb hl (by omega) rfl (by rw [IntKind.wrap_i64]; unfold wrap64; rfl) f1 f2 f3 f4 f5 f6 f7 s1 s2 s3 s4 s5 s6 s7 s8 (dt_of .weekday ha2) (dt_of .day ha2) (dt_of .month ha2) (dt_of .year ha2) (dt_of .year hb) g0 hn.2 g2 g3 (year_small hb) HAW w henv
  · exact dates_late ha (by omega) f1 f2 f3 f4 f5 f6 f7 f8 s1 s2 s3 s4 s5 s6 s7 s8 HAW w henv
end Go.Proofs.YtcpbdmgkeljkgaaGreatDoor
