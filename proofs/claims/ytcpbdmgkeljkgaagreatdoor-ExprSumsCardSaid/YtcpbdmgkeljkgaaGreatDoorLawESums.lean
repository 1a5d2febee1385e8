/- ExprSums over the contracts. No statement is proved here. -/
import Derived.Test.YtcpbdmgkeljkgaaGreatDoorEAw
namespace Go.Proofs.YtcpbdmgkeljkgaaGreatDoor
open Go.RowKit
set_option maxRecDepth 100000

theorem name_mul : nameOk nMul = true := by decide +kernel
theorem name_sub : nameOk nSub = true := by decide +kernel
theorem name_mod : nameOk nMod = true := by decide +kernel
/-- The number that a call of two numbers comes to. -/
def WhTo (name : ByteArray) (a b n : Int) (k : Bool) : Prop := ∀ w : World, EnvR w → Calls Tryz.prog 6 #[.string name, .int .i64 a, .int .i64 b] w fun e w' => e = .returned (.tuple #[.int .i64 n, .bool k]) ∧ Below w.heap.size w w'
theorem wh_of {o : OpX} (ho : arith o = true) {a b : Int} (ha : in64 a) (hb : in64 b) {name : ByteArray} (hop : OpName o name) (hn : nameOk name = true) (hs : name.size ≤ 20) {r : Option Int} (hr : resO o a b = r) : WhTo name a b (r.getD 0) r.isSome := fun w henv => by
  rw [← hr]; exact whole_any ho ha hb hop hn hs w henv
theorem wh_add {a b : Int} (ha : in64 a) (hb : in64 b) : ∃ n k, WhTo nAdd a b n k ∧ WhTo nAdd b a n k ∧ ((k = true ∧ n = a + b ∧ in64 (a + b)) ∨ k = false) := by
  by_cases h : in64 (a + b)
  · exact ⟨a + b, true, wh_of (r := some (a + b)) rfl ha hb op_add name_add (by decide) (by simp [resO, h]), wh_of (r := some (a + b)) rfl hb ha op_add name_add (by decide) (by simp [resO, Int.add_comm b a, h]), .inl ⟨rfl, rfl, h⟩⟩
  · exact ⟨0, false, wh_of (r := none) rfl ha hb op_add name_add (by decide) (by simp [resO, h]), wh_of (r := none) rfl hb ha op_add name_add (by decide) (by simp [resO, Int.add_comm b a, h]), .inr rfl⟩
theorem wh_sub {a b : Int} (ha : in64 a) (hb : in64 b) : ∃ n k, WhTo nSub a b n k ∧ ((k = true ∧ WhTo nAdd n b a true) ∨ k = false) := by
  by_cases h : in64 (a - b)
  · refine ⟨a - b, true, wh_of (r := some (a - b)) rfl ha hb op_sub name_sub (by decide) (by simp [resO, h]), .inl ⟨rfl, ?_⟩⟩
    have e : a - b + b = a := by omega
    exact wh_of (r := some a) rfl h hb op_add name_add (by decide) (by simp [resO, e, ha])
  · exact ⟨0, false, wh_of (r := none) rfl ha hb op_sub name_sub (by decide) (by simp [resO, h]), .inr rfl⟩
theorem wh_mul {a c : Int} (ha : in64 a) (hc : in64 c) : ∃ n k, WhTo nMul a c n k ∧ WhTo nMul c a n k := by
  by_cases h : in64 (a * c)
  · exact ⟨a * c, true, wh_of (r := some (a * c)) rfl ha hc op_mul name_mul (by decide) (by simp [resO, h]), wh_of (r := some (a * c)) rfl hc ha op_mul name_mul (by decide) (by simp [resO, Int.mul_comm c a, h])⟩
  · exact ⟨0, false, wh_of (r := none) rfl ha hc op_mul name_mul (by decide) (by simp [resO, h]), wh_of (r := none) rfl hc ha op_mul name_mul (by decide) (by simp [resO, Int.mul_comm c a, h])⟩
theorem wh_div {a b : Int} (ha : in64 a) (hb : in64 b) : (∃ q r p, WhTo nDiv a b q true ∧ WhTo nMod a b r true ∧ WhTo nMul q b p true ∧ p + r = a) ∨ (∃ r k, (b = 0 ∨ b = -1) ∧ WhTo nDiv a b 0 false ∧ WhTo nMod a b r k) := by
  by_cases h0 : b = 0
  · subst h0
    exact .inr ⟨0, false, .inl rfl, wh_of (r := none) rfl ha hb op_div name_div (by decide) (by simp [resO]), wh_of (r := none) rfl ha hb op_mod name_mod (by decide) (by simp [resO])⟩
  · by_cases hm : a = -9223372036854775808 ∧ b = -1
    · obtain ⟨rfl, rfl⟩ := hm
      exact .inr ⟨_, true, .inr rfl, wh_of (r := none) rfl ha hb op_div name_div (by decide) (by simp [resO]), wh_of (r := some ((-9223372036854775808 : Int).tmod (-1))) rfl ha hb op_mod name_mod (by decide) (by simp [resO])⟩
    · have hq := div_within ha h0 hm
      have hp := div_times_within (b := b) ha
      refine .inl ⟨a.tdiv b, a.tmod b, a.tdiv b * b, wh_of (r := some (a.tdiv b)) rfl ha hb op_div name_div (by decide) (by simp [resO, h0, hm]), wh_of (r := some (a.tmod b)) rfl ha hb op_mod name_mod (by decide) (by simp [resO, h0]), wh_of (r := some (a.tdiv b * b)) rfl hq hb op_mul name_mul (by decide) (by simp [resO, hp]), tdiv_back.symm⟩
theorem mx3 (a b c : Int) : mxK [a, b, c] 2 = max (max a b) c := by
  simp only [mxK, List.getD_cons_zero, List.getD_cons_succ, Int.max_def]
  split <;> split <;> split <;> omega
theorem work_max3 {a b c : Int} (ha : in64 a) (hb : in64 b) (hc : in64 c) (g gx : Nat) (w : World) (hin : (callT nMax (some ⟨g, 0, none⟩) 1 (some ⟨gx, 0, none⟩) 3 [intT a, intT b, intT c]).In w) (henv : EnvR w) :
    Calls Tryz.prog 7 #[.agg #[.int .i64 5, .int .i64 0, .string ⟨#[]⟩, .slice none 0 0, .slice (some ⟨g, 0, none⟩) 1 1], .agg #[.int .i64 0, .int .i64 0, .string ⟨#[]⟩, .slice none 0 0, .slice none 0 0]] w fun e w' => e = .returned (.tuple #[.agg #[.int .i64 3, .int .i64 (max (max a b) c), .string ⟨#[]⟩, .slice none 0 0, .slice none 0 0], .int .i64 0]) ∧ Below w.heap.size w w' := by
  have h := work_max ha hb hc g (some ⟨gx, 0, none⟩) 3 (by omega) (by simp) w hin henv
  rw [mx3] at h
  exact h
set_option maxHeartbeats 16000000 in
theorem sums_law {a b c : Int} (ha : in64 a) (hb : in64 b) (hc : in64 c) (HAW : ∀ w, EnvR w → Calls Tryz.prog 5 #[] w fun e w' => e = .returned (.bool true) ∧ Below w.heap.size w w') (w : World) (henv : EnvR w) :
    Calls Tryz.prog 3 #[.int .i64 a, .int .i64 b, .int .i64 c] w fun e w' => e = .returned (.bool true) ∧ Below w.heap.size w w' := by
  obtain ⟨n1, k1, s1, s2, hk1⟩ := wh_add ha hb
  obtain ⟨n2, k2, s3, hk2⟩ := wh_sub ha hb
  obtain ⟨n5, k5, s5, s6⟩ := wh_mul ha hc
  have HA := Lib.hid (HAW w henv)
  have HE := Lib.hid (fun w' (hb : Below w.heap.size w w') => henv.then_ hb)
  have HI := Lib.hid (fun n w => lint_any n w)
  unfold scal at HI
  have S1 := Lib.hid s1
  have S2 := Lib.hid s2
  have S3 := Lib.hid s3
  have S5 := Lib.hid s5
  have S6 := Lib.hid s6
  have HD := Lib.hid (wh_div ha hb)
  have hwa2 := wrap64_in ha
  have hwa : IntKind.i64.wrap a = a := by rw [IntKind.wrap_i64]; unfold wrap64 at hwa2; exact hwa2
  have HM := Lib.hid (fun g gx w hin henv => work_max3 ha hb hc g gx w hin henv)
  clear henv HAW s1 s2 s3 s5 s6
  rcases hk1 with ⟨rfl, rfl, h1⟩ | rfl
  · have hw1 : IntKind.i64.wrap (a + b) = a + b := by have := wrap64_in h1; rw [IntKind.wrap_i64]; unfold wrap64 at this; exact this
    have hw2 := wrap64_in h1
    clear h1
    rcases hk2 with ⟨rfl, s4⟩ | rfl
    · have S4 := Lib.hid s4
      clear s4
      go_enter Tryz.func3, Tryz.ntmps3
      go_wp2_with fail
      refine HA.out.mono ?_
      rintro e w1 ⟨rfl, b1⟩
      have B1 := Lib.hid b1
      clear b1
      go_wp2_with fail
      refine (S1.out w1 (HE.out _ B1.out)).mono ?_
      rintro e w2 ⟨rfl, b2⟩
      have B2 := Lib.hid (below_then B1.out b2)
      clear b2
      go_wp2_with fail
      refine (S2.out w2 (HE.out _ B2.out)).mono ?_
      rintro e w3 ⟨rfl, b3⟩
      have B3 := Lib.hid (below_then B2.out b3)
      clear b3
      go_wp2_with fail
      refine (S3.out w3 (HE.out _ B3.out)).mono ?_
      rintro e w4 ⟨rfl, b4⟩
      have B4 := Lib.hid (below_then B3.out b4)
      clear b4
      go_wp2_with fail
      refine (S4.out w4 (HE.out _ B4.out)).mono ?_
      rintro e w5 ⟨rfl, b5⟩
      have B5 := Lib.hid (below_then B4.out b5)
      clear b5
      rcases HD.out with ⟨q, r, p, t1, t2, t3, hpr⟩ | ⟨r, k, hb1, t1, t2⟩
      · have T1 := Lib.hid t1
        have T2 := Lib.hid t2
        have T3 := Lib.hid t3
        have hwp : IntKind.i64.wrap (p + r) = a := by rw [hpr]; exact hwa
        have hwp2 : wrap64 (p + r) = a := by rw [hpr]; exact hwa2
        clear t1 t2 t3
        go_wp2_with fail
        refine (T1.out w5 (HE.out _ B5.out)).mono ?_
        rintro e w6 ⟨rfl, b6⟩
        have B6 := Lib.hid (below_then B5.out b6)
        clear b6
        go_wp2_with fail
        refine (T2.out w6 (HE.out _ B6.out)).mono ?_
        rintro e w7 ⟨rfl, b7⟩
        have B7 := Lib.hid (below_then B6.out b7)
        clear b7
        go_wp2_with fail
        refine (T3.out w7 (HE.out _ B7.out)).mono ?_
        rintro e w8 ⟨rfl, b8⟩
        have B8 := Lib.hid (below_then B7.out b8)
        clear b8
        go_wp2_with fail
        refine (S5.out w8 (HE.out _ B8.out)).mono ?_
        rintro e w9 ⟨rfl, b9⟩
        have B9 := Lib.hid (below_then B8.out b9)
        clear b9
        go_wp2_with fail
        refine (S6.out w9 (HE.out _ B9.out)).mono ?_
        rintro e w10 ⟨rfl, b10⟩
        have B10 := Lib.hid (below_then B9.out b10)
        clear b10
        go_wp2_with fail
        refine (HI.out _ _).mono ?_
        rintro e w11 ⟨rfl, b11⟩
        have B11 := Lib.hid (below_then B10.out b11)
        clear b11
        go_wp2_with fail
        refine (HI.out _ _).mono ?_
        rintro e w12 ⟨rfl, b12⟩
        have B12 := Lib.hid (below_then B11.out b12)
        clear b12
        go_wp2_with fail
        refine (HI.out _ _).mono ?_
        rintro e w13 ⟨rfl, b13⟩
        have B13 := Lib.hid (below_then B12.out b13)
        clear b13
        go_wp2_with fail
        refine (acall (name := nMax) [intT a, intT b, intT c] 3 rfl _ 3 _ (vals_in (heap_alloc_at _ _ _ rfl) rfl (vin3 (intT_in _ _) (intT_in _ _) (intT_in _ _)))).mono ?_
        rintro e w14 ⟨g, gx, rfl, bb, i⟩
        have B14 := Lib.hid (below_then (below_then B13.out (below1 _ _)) bb)
        have HW := Lib.hid (HM.out g gx w14 i (HE.out _ B14.out))
        clear bb i
        go_wp2_with fail
        refine HW.out.mono ?_
        rintro e w15 ⟨rfl, bb⟩
        have B15 := Lib.hid (below_then B14.out bb)
        clear bb
        go_wp2_with fail
        all_goals go_ret
        all_goals exact ⟨ret_bool (by rw [beq_iff_eq]; omega), below_then B15.out (below1 _ _)⟩
      · have T1 := Lib.hid t1
        have T2 := Lib.hid t2
        clear t1 t2
        rcases hb1 with rfl | rfl
        · go_wp2_with fail
          refine (T1.out w5 (HE.out _ B5.out)).mono ?_
          rintro e w6 ⟨rfl, b6⟩
          have B6 := Lib.hid (below_then B5.out b6)
          clear b6
          go_wp2_with fail
          refine (T2.out w6 (HE.out _ B6.out)).mono ?_
          rintro e w7 ⟨rfl, b7⟩
          have B7 := Lib.hid (below_then B6.out b7)
          clear b7
          go_wp2_with fail
          refine (S5.out w7 (HE.out _ B7.out)).mono ?_
          rintro e w8 ⟨rfl, b8⟩
          have B8 := Lib.hid (below_then B7.out b8)
          clear b8
          go_wp2_with fail
          refine (S6.out w8 (HE.out _ B8.out)).mono ?_
          rintro e w9 ⟨rfl, b9⟩
          have B9 := Lib.hid (below_then B8.out b9)
          clear b9
          go_wp2_with fail
          refine (HI.out _ _).mono ?_
          rintro e w10 ⟨rfl, b10⟩
          have B10 := Lib.hid (below_then B9.out b10)
          clear b10
          go_wp2_with fail
          refine (HI.out _ _).mono ?_
          rintro e w11 ⟨rfl, b11⟩
          have B11 := Lib.hid (below_then B10.out b11)
          clear b11
          go_wp2_with fail
          refine (HI.out _ _).mono ?_
          rintro e w12 ⟨rfl, b12⟩
          have B12 := Lib.hid (below_then B11.out b12)
          clear b12
          go_wp2_with fail
          refine (acall (name := nMax) [intT a, intT 0, intT c] 3 rfl _ 3 _ (vals_in (heap_alloc_at _ _ _ rfl) rfl (vin3 (intT_in _ _) (intT_in _ _) (intT_in _ _)))).mono ?_
          rintro e w13 ⟨g, gx, rfl, bb, i⟩
          have B13 := Lib.hid (below_then (below_then B12.out (below1 _ _)) bb)
          have HW := Lib.hid (HM.out g gx w13 i (HE.out _ B13.out))
          clear bb i
          go_wp2_with fail
          refine HW.out.mono ?_
          rintro e w14 ⟨rfl, bb⟩
          have B14 := Lib.hid (below_then B13.out bb)
          clear bb
          go_wp2_with fail
          all_goals go_ret
          all_goals exact ⟨ret_bool (by rw [beq_iff_eq]; omega), below_then B14.out (below1 _ _)⟩
        · go_wp2_with fail
          refine (T1.out w5 (HE.out _ B5.out)).mono ?_
          rintro e w6 ⟨rfl, b6⟩
          have B6 := Lib.hid (below_then B5.out b6)
          clear b6
          go_wp2_with fail
          refine (T2.out w6 (HE.out _ B6.out)).mono ?_
          rintro e w7 ⟨rfl, b7⟩
          have B7 := Lib.hid (below_then B6.out b7)
          clear b7
          go_wp2_with fail
          refine (S5.out w7 (HE.out _ B7.out)).mono ?_
          rintro e w8 ⟨rfl, b8⟩
          have B8 := Lib.hid (below_then B7.out b8)
          clear b8
          go_wp2_with fail
          refine (S6.out w8 (HE.out _ B8.out)).mono ?_
          rintro e w9 ⟨rfl, b9⟩
          have B9 := Lib.hid (below_then B8.out b9)
          clear b9
          go_wp2_with fail
          refine (HI.out _ _).mono ?_
          rintro e w10 ⟨rfl, b10⟩
          have B10 := Lib.hid (below_then B9.out b10)
          clear b10
          go_wp2_with fail
          refine (HI.out _ _).mono ?_
          rintro e w11 ⟨rfl, b11⟩
          have B11 := Lib.hid (below_then B10.out b11)
          clear b11
          go_wp2_with fail
          refine (HI.out _ _).mono ?_
          rintro e w12 ⟨rfl, b12⟩
          have B12 := Lib.hid (below_then B11.out b12)
          clear b12
          go_wp2_with fail
          refine (acall (name := nMax) [intT a, intT (-1), intT c] 3 rfl _ 3 _ (vals_in (heap_alloc_at _ _ _ rfl) rfl (vin3 (intT_in _ _) (intT_in _ _) (intT_in _ _)))).mono ?_
          rintro e w13 ⟨g, gx, rfl, bb, i⟩
          have B13 := Lib.hid (below_then (below_then B12.out (below1 _ _)) bb)
          have HW := Lib.hid (HM.out g gx w13 i (HE.out _ B13.out))
          clear bb i
          go_wp2_with fail
          refine HW.out.mono ?_
          rintro e w14 ⟨rfl, bb⟩
          have B14 := Lib.hid (below_then B13.out bb)
          clear bb
          go_wp2_with fail
          all_goals go_ret
          all_goals exact ⟨ret_bool (by rw [beq_iff_eq]; omega), below_then B14.out (below1 _ _)⟩
    · go_enter Tryz.func3, Tryz.ntmps3
      go_wp2_with fail
      refine HA.out.mono ?_
      rintro e w1 ⟨rfl, b1⟩
      have B1 := Lib.hid b1
      clear b1
      go_wp2_with fail
      refine (S1.out w1 (HE.out _ B1.out)).mono ?_
      rintro e w2 ⟨rfl, b2⟩
      have B2 := Lib.hid (below_then B1.out b2)
      clear b2
      go_wp2_with fail
      refine (S2.out w2 (HE.out _ B2.out)).mono ?_
      rintro e w3 ⟨rfl, b3⟩
      have B3 := Lib.hid (below_then B2.out b3)
      clear b3
      go_wp2_with fail
      refine (S3.out w3 (HE.out _ B3.out)).mono ?_
      rintro e w4 ⟨rfl, b4⟩
      have B4 := Lib.hid (below_then B3.out b4)
      clear b4
      rcases HD.out with ⟨q, r, p, t1, t2, t3, hpr⟩ | ⟨r, k, hb1, t1, t2⟩
      · have T1 := Lib.hid t1
        have T2 := Lib.hid t2
        have T3 := Lib.hid t3
        have hwp : IntKind.i64.wrap (p + r) = a := by rw [hpr]; exact hwa
        have hwp2 : wrap64 (p + r) = a := by rw [hpr]; exact hwa2
        clear t1 t2 t3
        go_wp2_with fail
        refine (T1.out w4 (HE.out _ B4.out)).mono ?_
        rintro e w5 ⟨rfl, b5⟩
        have B5 := Lib.hid (below_then B4.out b5)
        clear b5
        go_wp2_with fail
        refine (T2.out w5 (HE.out _ B5.out)).mono ?_
        rintro e w6 ⟨rfl, b6⟩
        have B6 := Lib.hid (below_then B5.out b6)
        clear b6
        go_wp2_with fail
        refine (T3.out w6 (HE.out _ B6.out)).mono ?_
        rintro e w7 ⟨rfl, b7⟩
        have B7 := Lib.hid (below_then B6.out b7)
        clear b7
        go_wp2_with fail
        refine (S5.out w7 (HE.out _ B7.out)).mono ?_
        rintro e w8 ⟨rfl, b8⟩
        have B8 := Lib.hid (below_then B7.out b8)
        clear b8
        go_wp2_with fail
        refine (S6.out w8 (HE.out _ B8.out)).mono ?_
        rintro e w9 ⟨rfl, b9⟩
        have B9 := Lib.hid (below_then B8.out b9)
        clear b9
        go_wp2_with fail
        refine (HI.out _ _).mono ?_
        rintro e w10 ⟨rfl, b10⟩
        have B10 := Lib.hid (below_then B9.out b10)
        clear b10
        go_wp2_with fail
        refine (HI.out _ _).mono ?_
        rintro e w11 ⟨rfl, b11⟩
        have B11 := Lib.hid (below_then B10.out b11)
        clear b11
        go_wp2_with fail
        refine (HI.out _ _).mono ?_
        rintro e w12 ⟨rfl, b12⟩
        have B12 := Lib.hid (below_then B11.out b12)
        clear b12
        go_wp2_with fail
        refine (acall (name := nMax) [intT a, intT b, intT c] 3 rfl _ 3 _ (vals_in (heap_alloc_at _ _ _ rfl) rfl (vin3 (intT_in _ _) (intT_in _ _) (intT_in _ _)))).mono ?_
        rintro e w13 ⟨g, gx, rfl, bb, i⟩
        have B13 := Lib.hid (below_then (below_then B12.out (below1 _ _)) bb)
        have HW := Lib.hid (HM.out g gx w13 i (HE.out _ B13.out))
        clear bb i
        go_wp2_with fail
        refine HW.out.mono ?_
        rintro e w14 ⟨rfl, bb⟩
        have B14 := Lib.hid (below_then B13.out bb)
        clear bb
        go_wp2_with fail
        all_goals go_ret
        all_goals exact ⟨ret_bool (by rw [beq_iff_eq]; omega), below_then B14.out (below1 _ _)⟩
      · have T1 := Lib.hid t1
        have T2 := Lib.hid t2
        clear t1 t2
        rcases hb1 with rfl | rfl
        · go_wp2_with fail
          refine (T1.out w4 (HE.out _ B4.out)).mono ?_
          rintro e w5 ⟨rfl, b5⟩
          have B5 := Lib.hid (below_then B4.out b5)
          clear b5
          go_wp2_with fail
          refine (T2.out w5 (HE.out _ B5.out)).mono ?_
          rintro e w6 ⟨rfl, b6⟩
          have B6 := Lib.hid (below_then B5.out b6)
          clear b6
          go_wp2_with fail
          refine (S5.out w6 (HE.out _ B6.out)).mono ?_
          rintro e w7 ⟨rfl, b7⟩
          have B7 := Lib.hid (below_then B6.out b7)
          clear b7
          go_wp2_with fail
          refine (S6.out w7 (HE.out _ B7.out)).mono ?_
          rintro e w8 ⟨rfl, b8⟩
          have B8 := Lib.hid (below_then B7.out b8)
          clear b8
          go_wp2_with fail
          refine (HI.out _ _).mono ?_
          rintro e w9 ⟨rfl, b9⟩
          have B9 := Lib.hid (below_then B8.out b9)
          clear b9
          go_wp2_with fail
          refine (HI.out _ _).mono ?_
          rintro e w10 ⟨rfl, b10⟩
          have B10 := Lib.hid (below_then B9.out b10)
          clear b10
          go_wp2_with fail
          refine (HI.out _ _).mono ?_
          rintro e w11 ⟨rfl, b11⟩
          have B11 := Lib.hid (below_then B10.out b11)
          clear b11
          go_wp2_with fail
          refine (acall (name := nMax) [intT a, intT 0, intT c] 3 rfl _ 3 _ (vals_in (heap_alloc_at _ _ _ rfl) rfl (vin3 (intT_in _ _) (intT_in _ _) (intT_in _ _)))).mono ?_
          rintro e w12 ⟨g, gx, rfl, bb, i⟩
          have B12 := Lib.hid (below_then (below_then B11.out (below1 _ _)) bb)
          have HW := Lib.hid (HM.out g gx w12 i (HE.out _ B12.out))
          clear bb i
          go_wp2_with fail
          refine HW.out.mono ?_
          rintro e w13 ⟨rfl, bb⟩
          have B13 := Lib.hid (below_then B12.out bb)
          clear bb
          go_wp2_with fail
          all_goals go_ret
          all_goals exact ⟨ret_bool (by rw [beq_iff_eq]; omega), below_then B13.out (below1 _ _)⟩
        · go_wp2_with fail
          refine (T1.out w4 (HE.out _ B4.out)).mono ?_
          rintro e w5 ⟨rfl, b5⟩
          have B5 := Lib.hid (below_then B4.out b5)
          clear b5
          go_wp2_with fail
          refine (T2.out w5 (HE.out _ B5.out)).mono ?_
          rintro e w6 ⟨rfl, b6⟩
          have B6 := Lib.hid (below_then B5.out b6)
          clear b6
          go_wp2_with fail
          refine (S5.out w6 (HE.out _ B6.out)).mono ?_
          rintro e w7 ⟨rfl, b7⟩
          have B7 := Lib.hid (below_then B6.out b7)
          clear b7
          go_wp2_with fail
          refine (S6.out w7 (HE.out _ B7.out)).mono ?_
          rintro e w8 ⟨rfl, b8⟩
          have B8 := Lib.hid (below_then B7.out b8)
          clear b8
          go_wp2_with fail
          refine (HI.out _ _).mono ?_
          rintro e w9 ⟨rfl, b9⟩
          have B9 := Lib.hid (below_then B8.out b9)
          clear b9
          go_wp2_with fail
          refine (HI.out _ _).mono ?_
          rintro e w10 ⟨rfl, b10⟩
          have B10 := Lib.hid (below_then B9.out b10)
          clear b10
          go_wp2_with fail
          refine (HI.out _ _).mono ?_
          rintro e w11 ⟨rfl, b11⟩
          have B11 := Lib.hid (below_then B10.out b11)
          clear b11
          go_wp2_with fail
          refine (acall (name := nMax) [intT a, intT (-1), intT c] 3 rfl _ 3 _ (vals_in (heap_alloc_at _ _ _ rfl) rfl (vin3 (intT_in _ _) (intT_in _ _) (intT_in _ _)))).mono ?_
          rintro e w12 ⟨g, gx, rfl, bb, i⟩
          have B12 := Lib.hid (below_then (below_then B11.out (below1 _ _)) bb)
          have HW := Lib.hid (HM.out g gx w12 i (HE.out _ B12.out))
          clear bb i
          go_wp2_with fail
          refine HW.out.mono ?_
          rintro e w13 ⟨rfl, bb⟩
          have B13 := Lib.hid (below_then B12.out bb)
          clear bb
          go_wp2_with fail
          all_goals go_ret
          all_goals exact ⟨ret_bool (by rw [beq_iff_eq]; omega), below_then B13.out (below1 _ _)⟩
  · rcases hk2 with ⟨rfl, s4⟩ | rfl
    · have S4 := Lib.hid s4
      clear s4
      go_enter Tryz.func3, Tryz.ntmps3
      go_wp2_with fail
      refine HA.out.mono ?_
      rintro e w1 ⟨rfl, b1⟩
      have B1 := Lib.hid b1
      clear b1
      go_wp2_with fail
      refine (S1.out w1 (HE.out _ B1.out)).mono ?_
      rintro e w2 ⟨rfl, b2⟩
      have B2 := Lib.hid (below_then B1.out b2)
      clear b2
      go_wp2_with fail
      refine (S2.out w2 (HE.out _ B2.out)).mono ?_
      rintro e w3 ⟨rfl, b3⟩
      have B3 := Lib.hid (below_then B2.out b3)
      clear b3
      go_wp2_with fail
      refine (S3.out w3 (HE.out _ B3.out)).mono ?_
      rintro e w4 ⟨rfl, b4⟩
      have B4 := Lib.hid (below_then B3.out b4)
      clear b4
      go_wp2_with fail
      refine (S4.out w4 (HE.out _ B4.out)).mono ?_
      rintro e w5 ⟨rfl, b5⟩
      have B5 := Lib.hid (below_then B4.out b5)
      clear b5
      rcases HD.out with ⟨q, r, p, t1, t2, t3, hpr⟩ | ⟨r, k, hb1, t1, t2⟩
      · have T1 := Lib.hid t1
        have T2 := Lib.hid t2
        have T3 := Lib.hid t3
        have hwp : IntKind.i64.wrap (p + r) = a := by rw [hpr]; exact hwa
        have hwp2 : wrap64 (p + r) = a := by rw [hpr]; exact hwa2
        clear t1 t2 t3
        go_wp2_with fail
        refine (T1.out w5 (HE.out _ B5.out)).mono ?_
        rintro e w6 ⟨rfl, b6⟩
        have B6 := Lib.hid (below_then B5.out b6)
        clear b6
        go_wp2_with fail
        refine (T2.out w6 (HE.out _ B6.out)).mono ?_
        rintro e w7 ⟨rfl, b7⟩
        have B7 := Lib.hid (below_then B6.out b7)
        clear b7
        go_wp2_with fail
        refine (T3.out w7 (HE.out _ B7.out)).mono ?_
        rintro e w8 ⟨rfl, b8⟩
        have B8 := Lib.hid (below_then B7.out b8)
        clear b8
        go_wp2_with fail
        refine (S5.out w8 (HE.out _ B8.out)).mono ?_
        rintro e w9 ⟨rfl, b9⟩
        have B9 := Lib.hid (below_then B8.out b9)
        clear b9
        go_wp2_with fail
        refine (S6.out w9 (HE.out _ B9.out)).mono ?_
        rintro e w10 ⟨rfl, b10⟩
        have B10 := Lib.hid (below_then B9.out b10)
        clear b10
        go_wp2_with fail
        refine (HI.out _ _).mono ?_
        rintro e w11 ⟨rfl, b11⟩
        have B11 := Lib.hid (below_then B10.out b11)
        clear b11
        go_wp2_with fail
        refine (HI.out _ _).mono ?_
        rintro e w12 ⟨rfl, b12⟩
        have B12 := Lib.hid (below_then B11.out b12)
        clear b12
        go_wp2_with fail
        refine (HI.out _ _).mono ?_
        rintro e w13 ⟨rfl, b13⟩
        have B13 := Lib.hid (below_then B12.out b13)
        clear b13
        go_wp2_with fail
        refine (acall (name := nMax) [intT a, intT b, intT c] 3 rfl _ 3 _ (vals_in (heap_alloc_at _ _ _ rfl) rfl (vin3 (intT_in _ _) (intT_in _ _) (intT_in _ _)))).mono ?_
        rintro e w14 ⟨g, gx, rfl, bb, i⟩
        have B14 := Lib.hid (below_then (below_then B13.out (below1 _ _)) bb)
        have HW := Lib.hid (HM.out g gx w14 i (HE.out _ B14.out))
        clear bb i
        go_wp2_with fail
        refine HW.out.mono ?_
        rintro e w15 ⟨rfl, bb⟩
        have B15 := Lib.hid (below_then B14.out bb)
        clear bb
        go_wp2_with fail
        all_goals go_ret
        all_goals exact ⟨ret_bool (by rw [beq_iff_eq]; omega), below_then B15.out (below1 _ _)⟩
      · have T1 := Lib.hid t1
        have T2 := Lib.hid t2
        clear t1 t2
        rcases hb1 with rfl | rfl
        · go_wp2_with fail
          refine (T1.out w5 (HE.out _ B5.out)).mono ?_
          rintro e w6 ⟨rfl, b6⟩
          have B6 := Lib.hid (below_then B5.out b6)
          clear b6
          go_wp2_with fail
          refine (T2.out w6 (HE.out _ B6.out)).mono ?_
          rintro e w7 ⟨rfl, b7⟩
          have B7 := Lib.hid (below_then B6.out b7)
          clear b7
          go_wp2_with fail
          refine (S5.out w7 (HE.out _ B7.out)).mono ?_
          rintro e w8 ⟨rfl, b8⟩
          have B8 := Lib.hid (below_then B7.out b8)
          clear b8
          go_wp2_with fail
          refine (S6.out w8 (HE.out _ B8.out)).mono ?_
          rintro e w9 ⟨rfl, b9⟩
          have B9 := Lib.hid (below_then B8.out b9)
          clear b9
          go_wp2_with fail
          refine (HI.out _ _).mono ?_
          rintro e w10 ⟨rfl, b10⟩
          have B10 := Lib.hid (below_then B9.out b10)
          clear b10
          go_wp2_with fail
          refine (HI.out _ _).mono ?_
          rintro e w11 ⟨rfl, b11⟩
          have B11 := Lib.hid (below_then B10.out b11)
          clear b11
          go_wp2_with fail
          refine (HI.out _ _).mono ?_
          rintro e w12 ⟨rfl, b12⟩
          have B12 := Lib.hid (below_then B11.out b12)
          clear b12
          go_wp2_with fail
          refine (acall (name := nMax) [intT a, intT 0, intT c] 3 rfl _ 3 _ (vals_in (heap_alloc_at _ _ _ rfl) rfl (vin3 (intT_in _ _) (intT_in _ _) (intT_in _ _)))).mono ?_
          rintro e w13 ⟨g, gx, rfl, bb, i⟩
          have B13 := Lib.hid (below_then (below_then B12.out (below1 _ _)) bb)
          have HW := Lib.hid (HM.out g gx w13 i (HE.out _ B13.out))
          clear bb i
          go_wp2_with fail
          refine HW.out.mono ?_
          rintro e w14 ⟨rfl, bb⟩
          have B14 := Lib.hid (below_then B13.out bb)
          clear bb
          go_wp2_with fail
          all_goals go_ret
          all_goals exact ⟨ret_bool (by rw [beq_iff_eq]; omega), below_then B14.out (below1 _ _)⟩
        · go_wp2_with fail
          refine (T1.out w5 (HE.out _ B5.out)).mono ?_
          rintro e w6 ⟨rfl, b6⟩
          have B6 := Lib.hid (below_then B5.out b6)
          clear b6
          go_wp2_with fail
          refine (T2.out w6 (HE.out _ B6.out)).mono ?_
          rintro e w7 ⟨rfl, b7⟩
          have B7 := Lib.hid (below_then B6.out b7)
          clear b7
          go_wp2_with fail
          refine (S5.out w7 (HE.out _ B7.out)).mono ?_
          rintro e w8 ⟨rfl, b8⟩
          have B8 := Lib.hid (below_then B7.out b8)
          clear b8
          go_wp2_with fail
          refine (S6.out w8 (HE.out _ B8.out)).mono ?_
          rintro e w9 ⟨rfl, b9⟩
          have B9 := Lib.hid (below_then B8.out b9)
          clear b9
          go_wp2_with fail
          refine (HI.out _ _).mono ?_
          rintro e w10 ⟨rfl, b10⟩
          have B10 := Lib.hid (below_then B9.out b10)
          clear b10
          go_wp2_with fail
          refine (HI.out _ _).mono ?_
          rintro e w11 ⟨rfl, b11⟩
          have B11 := Lib.hid (below_then B10.out b11)
          clear b11
          go_wp2_with fail
          refine (HI.out _ _).mono ?_
          rintro e w12 ⟨rfl, b12⟩
          have B12 := Lib.hid (below_then B11.out b12)
          clear b12
          go_wp2_with fail
          refine (acall (name := nMax) [intT a, intT (-1), intT c] 3 rfl _ 3 _ (vals_in (heap_alloc_at _ _ _ rfl) rfl (vin3 (intT_in _ _) (intT_in _ _) (intT_in _ _)))).mono ?_
          rintro e w13 ⟨g, gx, rfl, bb, i⟩
          have B13 := Lib.hid (below_then (below_then B12.out (below1 _ _)) bb)
          have HW := Lib.hid (HM.out g gx w13 i (HE.out _ B13.out))
          clear bb i
          go_wp2_with fail
          refine HW.out.mono ?_
          rintro e w14 ⟨rfl, bb⟩
          have B14 := Lib.hid (below_then B13.out bb)
          clear bb
          go_wp2_with fail
          all_goals go_ret
          all_goals exact ⟨ret_bool (by rw [beq_iff_eq]; omega), below_then B14.out (below1 _ _)⟩
    · go_enter Tryz.func3, Tryz.ntmps3
      go_wp2_with fail
      refine HA.out.mono ?_
      rintro e w1 ⟨rfl, b1⟩
      have B1 := Lib.hid b1
      clear b1
      go_wp2_with fail
      refine (S1.out w1 (HE.out _ B1.out)).mono ?_
      rintro e w2 ⟨rfl, b2⟩
      have B2 := Lib.hid (below_then B1.out b2)
      clear b2
      go_wp2_with fail
      refine (S2.out w2 (HE.out _ B2.out)).mono ?_
      rintro e w3 ⟨rfl, b3⟩
      have B3 := Lib.hid (below_then B2.out b3)
      clear b3
      go_wp2_with fail
      refine (S3.out w3 (HE.out _ B3.out)).mono ?_
      rintro e w4 ⟨rfl, b4⟩
      have B4 := Lib.hid (below_then B3.out b4)
      clear b4
      rcases HD.out with ⟨q, r, p, t1, t2, t3, hpr⟩ | ⟨r, k, hb1, t1, t2⟩
      · have T1 := Lib.hid t1
        have T2 := Lib.hid t2
        have T3 := Lib.hid t3
        have hwp : IntKind.i64.wrap (p + r) = a := by rw [hpr]; exact hwa
        have hwp2 : wrap64 (p + r) = a := by rw [hpr]; exact hwa2
        clear t1 t2 t3
        go_wp2_with fail
        refine (T1.out w4 (HE.out _ B4.out)).mono ?_
        rintro e w5 ⟨rfl, b5⟩
        have B5 := Lib.hid (below_then B4.out b5)
        clear b5
        go_wp2_with fail
        refine (T2.out w5 (HE.out _ B5.out)).mono ?_
        rintro e w6 ⟨rfl, b6⟩
        have B6 := Lib.hid (below_then B5.out b6)
        clear b6
        go_wp2_with fail
        refine (T3.out w6 (HE.out _ B6.out)).mono ?_
        rintro e w7 ⟨rfl, b7⟩
        have B7 := Lib.hid (below_then B6.out b7)
        clear b7
        go_wp2_with fail
        refine (S5.out w7 (HE.out _ B7.out)).mono ?_
        rintro e w8 ⟨rfl, b8⟩
        have B8 := Lib.hid (below_then B7.out b8)
        clear b8
        go_wp2_with fail
        refine (S6.out w8 (HE.out _ B8.out)).mono ?_
        rintro e w9 ⟨rfl, b9⟩
        have B9 := Lib.hid (below_then B8.out b9)
        clear b9
        go_wp2_with fail
        refine (HI.out _ _).mono ?_
        rintro e w10 ⟨rfl, b10⟩
        have B10 := Lib.hid (below_then B9.out b10)
        clear b10
        go_wp2_with fail
        refine (HI.out _ _).mono ?_
        rintro e w11 ⟨rfl, b11⟩
        have B11 := Lib.hid (below_then B10.out b11)
        clear b11
        go_wp2_with fail
        refine (HI.out _ _).mono ?_
        rintro e w12 ⟨rfl, b12⟩
        have B12 := Lib.hid (below_then B11.out b12)
        clear b12
        go_wp2_with fail
        refine (acall (name := nMax) [intT a, intT b, intT c] 3 rfl _ 3 _ (vals_in (heap_alloc_at _ _ _ rfl) rfl (vin3 (intT_in _ _) (intT_in _ _) (intT_in _ _)))).mono ?_
        rintro e w13 ⟨g, gx, rfl, bb, i⟩
        have B13 := Lib.hid (below_then (below_then B12.out (below1 _ _)) bb)
        have HW := Lib.hid (HM.out g gx w13 i (HE.out _ B13.out))
        clear bb i
        go_wp2_with fail
        refine HW.out.mono ?_
        rintro e w14 ⟨rfl, bb⟩
        have B14 := Lib.hid (below_then B13.out bb)
        clear bb
        go_wp2_with fail
        all_goals go_ret
        all_goals exact ⟨ret_bool (by rw [beq_iff_eq]; omega), below_then B14.out (below1 _ _)⟩
      · have T1 := Lib.hid t1
        have T2 := Lib.hid t2
        clear t1 t2
        rcases hb1 with rfl | rfl
        · go_wp2_with fail
          refine (T1.out w4 (HE.out _ B4.out)).mono ?_
          rintro e w5 ⟨rfl, b5⟩
          have B5 := Lib.hid (below_then B4.out b5)
          clear b5
          go_wp2_with fail
          refine (T2.out w5 (HE.out _ B5.out)).mono ?_
          rintro e w6 ⟨rfl, b6⟩
          have B6 := Lib.hid (below_then B5.out b6)
          clear b6
          go_wp2_with fail
          refine (S5.out w6 (HE.out _ B6.out)).mono ?_
          rintro e w7 ⟨rfl, b7⟩
          have B7 := Lib.hid (below_then B6.out b7)
          clear b7
          go_wp2_with fail
          refine (S6.out w7 (HE.out _ B7.out)).mono ?_
          rintro e w8 ⟨rfl, b8⟩
          have B8 := Lib.hid (below_then B7.out b8)
          clear b8
          go_wp2_with fail
          refine (HI.out _ _).mono ?_
          rintro e w9 ⟨rfl, b9⟩
          have B9 := Lib.hid (below_then B8.out b9)
          clear b9
          go_wp2_with fail
          refine (HI.out _ _).mono ?_
          rintro e w10 ⟨rfl, b10⟩
          have B10 := Lib.hid (below_then B9.out b10)
          clear b10
          go_wp2_with fail
          refine (HI.out _ _).mono ?_
          rintro e w11 ⟨rfl, b11⟩
          have B11 := Lib.hid (below_then B10.out b11)
          clear b11
          go_wp2_with fail
          refine (acall (name := nMax) [intT a, intT 0, intT c] 3 rfl _ 3 _ (vals_in (heap_alloc_at _ _ _ rfl) rfl (vin3 (intT_in _ _) (intT_in _ _) (intT_in _ _)))).mono ?_
          rintro e w12 ⟨g, gx, rfl, bb, i⟩
          have B12 := Lib.hid (below_then (below_then B11.out (below1 _ _)) bb)
          have HW := Lib.hid (HM.out g gx w12 i (HE.out _ B12.out))
          clear bb i
          go_wp2_with fail
          refine HW.out.mono ?_
          rintro e w13 ⟨rfl, bb⟩
          have B13 := Lib.hid (below_then B12.out bb)
          clear bb
          go_wp2_with fail
          all_goals go_ret
          all_goals exact ⟨ret_bool (by rw [beq_iff_eq]; omega), below_then B13.out (below1 _ _)⟩
        · go_wp2_with fail
          refine (T1.out w4 (HE.out _ B4.out)).mono ?_
          rintro e w5 ⟨rfl, b5⟩
          have B5 := Lib.hid (below_then B4.out b5)
          clear b5
          go_wp2_with fail
          refine (T2.out w5 (HE.out _ B5.out)).mono ?_
          rintro e w6 ⟨rfl, b6⟩
          have B6 := Lib.hid (below_then B5.out b6)
          clear b6
          go_wp2_with fail
          refine (S5.out w6 (HE.out _ B6.out)).mono ?_
          rintro e w7 ⟨rfl, b7⟩
          have B7 := Lib.hid (below_then B6.out b7)
          clear b7
          go_wp2_with fail
          refine (S6.out w7 (HE.out _ B7.out)).mono ?_
          rintro e w8 ⟨rfl, b8⟩
          have B8 := Lib.hid (below_then B7.out b8)
          clear b8
          go_wp2_with fail
          refine (HI.out _ _).mono ?_
          rintro e w9 ⟨rfl, b9⟩
          have B9 := Lib.hid (below_then B8.out b9)
          clear b9
          go_wp2_with fail
          refine (HI.out _ _).mono ?_
          rintro e w10 ⟨rfl, b10⟩
          have B10 := Lib.hid (below_then B9.out b10)
          clear b10
          go_wp2_with fail
          refine (HI.out _ _).mono ?_
          rintro e w11 ⟨rfl, b11⟩
          have B11 := Lib.hid (below_then B10.out b11)
          clear b11
          go_wp2_with fail
          refine (acall (name := nMax) [intT a, intT (-1), intT c] 3 rfl _ 3 _ (vals_in (heap_alloc_at _ _ _ rfl) rfl (vin3 (intT_in _ _) (intT_in _ _) (intT_in _ _)))).mono ?_
          rintro e w12 ⟨g, gx, rfl, bb, i⟩
          have B12 := Lib.hid (below_then (below_then B11.out (below1 _ _)) bb)
          have HW := Lib.hid (HM.out g gx w12 i (HE.out _ B12.out))
          clear bb i
          go_wp2_with fail
          refine HW.out.mono ?_
          rintro e w13 ⟨rfl, bb⟩
          have B13 := Lib.hid (below_then B12.out bb)
          clear bb
          go_wp2_with fail
          all_goals go_ret
          all_goals exact ⟨ret_bool (by rw [beq_iff_eq]; omega), below_then B13.out (below1 _ _)⟩
end Go.Proofs.YtcpbdmgkeljkgaaGreatDoor
