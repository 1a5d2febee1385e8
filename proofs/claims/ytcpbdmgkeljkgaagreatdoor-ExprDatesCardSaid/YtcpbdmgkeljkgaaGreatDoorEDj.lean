/- ExprDates over the contracts: the first day of all. No statement is proved here. -/
import Derived.Test.YtcpbdmgkeljkgaaGreatDoorJ11
namespace Go.Proofs.YtcpbdmgkeljkgaaGreatDoor
open Go.RowKit
set_option maxRecDepth 100000

set_option maxHeartbeats 16000000 in
theorem dates_low {a b h m s l v d n y x e' o z cc yy : Int} (ha : in64 a) (hb : in64 b) (hl : a ≤ 9223372036854775807 - 86400000) (hlt : a < -9223372036854775808 + 86400000) (f8 : IntKind.i64.wrap (a - (h * 3600000 + m * 60000 + s * 1000 + l)) = yy) (f9 : wrap64 (a - (h * 3600000 + m * 60000 + s * 1000 + l)) = yy) (f1 : 0 ≤ h ∧ h ≤ 23) (f2 : 0 ≤ m ∧ m ≤ 59) (f3 : 0 ≤ s ∧ s ≤ 59) (f4 : 0 ≤ l ∧ l ≤ 999) (f5 : 0 ≤ v ∧ v ≤ 6) (f6 : 1 ≤ d ∧ d ≤ 31) (f7 : 1 ≤ n ∧ n ≤ 12) (s1 : DtTo .hour a h) (s2 : DtTo .minute a m) (s3 : DtTo .second a s) (s4 : DtTo .milli a l) (s5 : DtTo .weekday a v) (s6 : DtTo .day a d) (s7 : DtTo .month a n) (s8 : DtTo .year a y) (t1 : DtTo .weekday (a + 86400000) x) (t2 : DtTo .day (a + 86400000) e') (t3 : DtTo .month (a + 86400000) o) (t4 : DtTo .year (a + 86400000) z) (t5 : DtTo .year b cc) (g0 : Int.tmod (v + 1) 7 = x) (g1 : (e' = d + 1 ∧ o = n ∧ z = y) ∨ (e' = 1 ∧ 28 ≤ d ∧ o = n + 1 ∧ z = y) ∨ (e' = 1 ∧ d = 31 ∧ n = 12 ∧ o = 1 ∧ z = y + 1)) (g2 : a ≤ b → y ≤ cc) (g3 : -1000000000 ≤ y ∧ y ≤ 1000000000) (g4 : -1000000000 ≤ cc ∧ cc ≤ 1000000000) (HAW : ∀ w, EnvR w → Calls Tryz.prog 5 #[] w fun e w' => e = .returned (.bool true) ∧ Below w.heap.size w w') (w : World) (henv : EnvR w) :
    Calls Tryz.prog 4 #[.int .i64 a, .int .i64 b] w fun e w' => e = .returned (.bool true) ∧ Below w.heap.size w w' := by
  unfold in64 at ha hb
  have HA := Lib.hid (HAW w henv)
  have HE := Lib.hid (fun w' (hb : Below w.heap.size w w') => henv.then_ hb)
  have S1 := Lib.hid s1
  have S2 := Lib.hid s2
  have S3 := Lib.hid s3
  have S4 := Lib.hid s4
  have S5 := Lib.hid s5
  have S6 := Lib.hid s6
  have S7 := Lib.hid s7
  have S8 := Lib.hid s8
  have T1 := Lib.hid t1
  have T2 := Lib.hid t2
  have T3 := Lib.hid t3
  have T4 := Lib.hid t4
  have T5 := Lib.hid t5
  have G1 := Lib.hid g1
  have G2 := Lib.hid g2
  clear henv HAW s1 s2 s3 s4 s5 s6 s7 s8 t1 t2 t3 t4 t5 g1 g2
  go_enter Tryz.func4, Tryz.ntmps4
  go_wp2_with fail
  refine HA.out.mono ?_
  rintro e w1 ⟨rfl, b1⟩
  have B1 := Lib.hid b1
  clear b1
  go_wp2_with fail
  refine (S1.out w1 (HE.out _ B1.out)).mono ?_
  rintro e w2 ⟨rfl, b2⟩
  have B2 := Lib.hid (below_then B1.out b2)
  clear b2
  go_wp2_with fail
  refine (S2.out w2 (HE.out _ B2.out)).mono ?_
  rintro e w3 ⟨rfl, b3⟩
  have B3 := Lib.hid (below_then B2.out b3)
  clear b3
  go_wp2_with fail
  refine (S3.out w3 (HE.out _ B3.out)).mono ?_
  rintro e w4 ⟨rfl, b4⟩
  have B4 := Lib.hid (below_then B3.out b4)
  clear b4
  go_wp2_with fail
  refine (S4.out w4 (HE.out _ B4.out)).mono ?_
  rintro e w5 ⟨rfl, b5⟩
  have B5 := Lib.hid (below_then B4.out b5)
  clear b5
  go_wp2_with fail
  refine (S5.out w5 (HE.out _ B5.out)).mono ?_
  rintro e w6 ⟨rfl, b6⟩
  have B6 := Lib.hid (below_then B5.out b6)
  clear b6
  go_wp2_with fail
  refine (S6.out w6 (HE.out _ B6.out)).mono ?_
  rintro e w7 ⟨rfl, b7⟩
  have B7 := Lib.hid (below_then B6.out b7)
  clear b7
  go_wp2_with fail
  refine (S7.out w7 (HE.out _ B7.out)).mono ?_
  rintro e w8 ⟨rfl, b8⟩
  have B8 := Lib.hid (below_then B7.out b8)
  clear b8
  go_wp2_with fail
  refine (S8.out w8 (HE.out _ B8.out)).mono ?_
  rintro e w9 ⟨rfl, b9⟩
  have B9 := Lib.hid (below_then B8.out b9)
  clear b9
  go_wp2_with fail
  refine (T1.out w9 (HE.out _ B9.out)).mono ?_
  rintro e w10 ⟨rfl, b10⟩
  have B10 := Lib.hid (below_then B9.out b10)
  clear b10
  go_wp2_with fail
  refine (T2.out w10 (HE.out _ B10.out)).mono ?_
  rintro e w11 ⟨rfl, b11⟩
  have B11 := Lib.hid (below_then B10.out b11)
  clear b11
  go_wp2_with fail
  refine (T3.out w11 (HE.out _ B11.out)).mono ?_
  rintro e w12 ⟨rfl, b12⟩
  have B12 := Lib.hid (below_then B11.out b12)
  clear b12
  go_wp2_with fail
  refine (T4.out w12 (HE.out _ B12.out)).mono ?_
  rintro e w13 ⟨rfl, b13⟩
  have B13 := Lib.hid (below_then B12.out b13)
  clear b13
  rcases G1.out with ⟨rfl, rfl, rfl⟩ | ⟨rfl, g28, rfl, rfl⟩ | ⟨rfl, rfl, rfl, rfl, rfl⟩
  · go_wp2_with fail
    all_goals refine (T5.out w13 (HE.out _ B13.out)).mono ?_
    all_goals rintro e w14 ⟨rfl, b14⟩
    all_goals have B14 := Lib.hid (below_then B13.out b14)
    all_goals clear b14
    all_goals have g2 := G2.out
    all_goals go_wp2_with fail
    all_goals first | (go_ret; exact ⟨rfl, B14.out⟩) | (exfalso; omega)
  · go_wp2_with fail
    all_goals refine (T5.out w13 (HE.out _ B13.out)).mono ?_
    all_goals rintro e w14 ⟨rfl, b14⟩
    all_goals have B14 := Lib.hid (below_then B13.out b14)
    all_goals clear b14
    all_goals have g2 := G2.out
    all_goals go_wp2_with fail
    all_goals first | (go_ret; exact ⟨rfl, B14.out⟩) | (exfalso; omega)
  · go_wp2_with fail
    all_goals refine (T5.out w13 (HE.out _ B13.out)).mono ?_
    all_goals rintro e w14 ⟨rfl, b14⟩
    all_goals have B14 := Lib.hid (below_then B13.out b14)
    all_goals clear b14
    all_goals have g2 := G2.out
    all_goals go_wp2_with fail
    all_goals first | (go_ret; exact ⟨rfl, B14.out⟩) | (exfalso; omega)
end Go.Proofs.YtcpbdmgkeljkgaaGreatDoor
