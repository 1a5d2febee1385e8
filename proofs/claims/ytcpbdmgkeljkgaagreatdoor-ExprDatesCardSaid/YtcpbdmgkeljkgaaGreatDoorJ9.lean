/- The calendar, in numbers. Parts of a date. The parts of a date: what each is, its operator. operatorOf at the names of a date's parts. No statement is proved here. -/
import Derived.Test.YtcpbdmgkeljkgaaGreatDoorProg
import Derived.OwnWalk
import Derived.Test.YtcpbdmgkeljkgaaGreatDoorEAr
import Derived.Test.YtcpbdmgkeljkgaaGreatDoorEOp
import Derived.Test.YtcpbdmgkeljkgaaGreatDoorGet
namespace Go.Proofs.YtcpbdmgkeljkgaaGreatDoor.Cal
def cC (r : Int) : Int := if r / 36524 < 3 then r / 36524 else 3
def cY (t : Int) : Int := if t / 365 < 3 then t / 365 else 3
/-- Years and days of the year out of the day of four hundred years. -/
def r1 (r : Int) : Int := r - cC r * 36524
def r2 (s : Int) : Int := s - s / 1461 * 1461
def doy (r : Int) : Int := r2 (r1 r) - cY (r2 (r1 r)) * 365
def yr (r : Int) : Int := 100 * cC r + 4 * (r1 r / 1461) + cY (r2 (r1 r))
theorem c_range {r : Int} (h0 : 0 ≤ r) (h1 : r < 146097) : 0 ≤ r1 r ∧ r1 r ≤ 36524 ∧ (r1 r = 36524 → cC r = 3) := by
  unfold r1 cC; split <;> omega
theorem c_step {r : Int} (h0 : 0 ≤ r) (h1 : r + 1 < 146097) : (cC (r + 1) = cC r ∧ r1 (r + 1) = r1 r + 1) ∨ (cC (r + 1) = cC r + 1 ∧ r1 r = 36523 ∧ r1 (r + 1) = 0) := by
  unfold r1 cC; split <;> split <;> omega
theorem f_range (s : Int) : 0 ≤ r2 s ∧ r2 s ≤ 1460 := by unfold r2; omega
theorem f_step (s : Int) : ((s + 1) / 1461 = s / 1461 ∧ r2 (s + 1) = r2 s + 1) ∨ ((s + 1) / 1461 = s / 1461 + 1 ∧ r2 s = 1460 ∧ r2 (s + 1) = 0) := by unfold r2; omega
theorem y_range {t : Int} (h0 : 0 ≤ t) (h1 : t ≤ 1460) : 0 ≤ t - cY t * 365 ∧ t - cY t * 365 ≤ 365 ∧ 0 ≤ cY t ∧ cY t ≤ 3 := by unfold cY; split <;> omega
theorem y_step {t : Int} (h0 : 0 ≤ t) (h1 : t < 1460) : (cY (t + 1) = cY t) ∨ (cY (t + 1) = cY t + 1 ∧ t - cY t * 365 = 364 ∧ (t + 1) - cY (t + 1) * 365 = 0) := by
  unfold cY; split <;> split <;> omega
theorem doy_range (r : Int) : 0 ≤ doy r ∧ doy r ≤ 365 := by
  have h := f_range (r1 r)
  have := y_range h.1 h.2
  unfold doy; omega
theorem step {r : Int} (h0 : 0 ≤ r) (h1 : r + 1 < 146097) : (doy (r + 1) = doy r + 1 ∧ yr (r + 1) = yr r) ∨ (364 ≤ doy r ∧ doy (r + 1) = 0 ∧ yr (r + 1) = yr r + 1) := by
  rcases c_step h0 h1 with ⟨a1, a2⟩ | ⟨a1, a2, a3⟩
  · have hf := f_range (r1 r)
    rcases f_step (r1 r) with ⟨b1, b2⟩ | ⟨b1, b2, b3⟩
    · rcases y_step hf.1 (by have := f_range (r1 r + 1); omega) with c1 | ⟨c1, c2, c3⟩
      · left
        unfold doy yr
        rw [a1, a2, b1, b2, c1]
        omega
      · right
        unfold doy yr
        rw [a1, a2, b1, b2, c3, c1, c2]
        omega
    · right
      unfold doy yr
      rw [a1, a2, b1, b2, b3, show cY 1460 = 3 from rfl, show cY 0 = 0 from rfl]
      omega
  · right
    unfold doy yr
    rw [a1, a2, a3, show r2 36523 = 1459 from rfl, show r2 0 = 0 from rfl, show cY 1459 = 3 from rfl, show cY 0 = 0 from rfl]
    omega
theorem last : doy 146096 = 365 ∧ yr 146096 = 399 ∧ doy 0 = 0 ∧ yr 0 = 0 := by decide
/-- The month (0: March) and the day of a day of the year. -/
def mon (k : Int) : Int := (5 * k + 2) / 153
def dom (k : Int) : Int := k - (153 * mon k + 2) / 5 + 1
theorem mon_range {k : Int} (h0 : 0 ≤ k) (h1 : k ≤ 365) : 0 ≤ mon k ∧ mon k ≤ 11 ∧ 1 ≤ dom k ∧ dom k ≤ 31 := by unfold dom mon; omega
theorem mon_step {k : Int} (h0 : 0 ≤ k) (h1 : k ≤ 364) : (mon (k + 1) = mon k ∧ dom (k + 1) = dom k + 1) ∨ (mon (k + 1) = mon k + 1 ∧ dom (k + 1) = 1 ∧ 30 ≤ dom k ∧ (mon k = 9 → dom k = 31)) := by
  have key : ∀ i : Fin 365, (mon ((i.val : Int) + 1) = mon (i.val : Int) ∧ dom ((i.val : Int) + 1) = dom (i.val : Int) + 1) ∨ (mon ((i.val : Int) + 1) = mon (i.val : Int) + 1 ∧ dom ((i.val : Int) + 1) = 1 ∧ 30 ≤ dom (i.val : Int) ∧ (mon (i.val : Int) = 9 → dom (i.val : Int) = 31)) := by decide +kernel
  have := key ⟨k.toNat, by omega⟩
  rw [show ((k.toNat : Nat) : Int) = k by omega] at this
  exact this
theorem mon_end {k : Int} (h0 : 364 ≤ k) (h1 : k ≤ 365) : mon k = 11 ∧ 28 ≤ dom k := by
  rcases (show k = 364 ∨ k = 365 by omega) with rfl | rfl <;> decide
/-- The calendar of a number of days since March 1 of the year 0. -/
def year (n : Int) : Int := 400 * (n / 146097) + yr (n % 146097) + (if 10 ≤ mon (doy (n % 146097)) then 1 else 0)
def month (n : Int) : Int := if 10 ≤ mon (doy (n % 146097)) then mon (doy (n % 146097)) - 9 else mon (doy (n % 146097)) + 3
def day (n : Int) : Int := dom (doy (n % 146097))
theorem months (n : Int) : 1 ≤ month n ∧ month n ≤ 12 ∧ 1 ≤ day n ∧ day n ≤ 31 := by
  have h := doy_range (n % 146097)
  have := mon_range h.1 h.2
  unfold month day
  split <;> omega
theorem next (n : Int) : (day (n + 1) = day n + 1 ∧ month (n + 1) = month n ∧ year (n + 1) = year n) ∨ (day (n + 1) = 1 ∧ 28 ≤ day n ∧ month (n + 1) = month n + 1 ∧ year (n + 1) = year n) ∨ (day (n + 1) = 1 ∧ day n = 31 ∧ month n = 12 ∧ month (n + 1) = 1 ∧ year (n + 1) = year n + 1) := by
  have hr := doy_range (n % 146097)
  have hm := mon_range hr.1 hr.2
  by_cases hl : n % 146097 = 146096
  · have e1 : (n + 1) % 146097 = 0 := by omega
    have e2 : (n + 1) / 146097 = n / 146097 + 1 := by omega
    unfold year month day
    rw [e1, e2, hl, last.1, last.2.1, last.2.2.1, last.2.2.2, show mon 365 = 11 from rfl, show mon 0 = 0 from rfl, show dom 0 = 1 from rfl, show dom 365 = 29 from rfl]
    simp
    omega
  · have e1 : (n + 1) % 146097 = n % 146097 + 1 := by omega
    have e2 : (n + 1) / 146097 = n / 146097 := by omega
    unfold year month day
    rw [e1, e2]
    rcases step (r := n % 146097) (by omega) (by omega) with ⟨s1, s2⟩ | ⟨s0, s1, s2⟩
    · rw [s1, s2]
      have hr2 := doy_range (n % 146097 + 1)
      rw [s1] at hr2
      generalize doy (n % 146097) = k at *
      rcases mon_step hr.1 (by omega) with ⟨t1, t2⟩ | ⟨t1, t2, t3, t4⟩
      · left; rw [t1, t2]; simp
      · rw [t1, t2]
        by_cases h9 : mon k = 9
        · right; right; rw [h9]; simp; exact t4 h9
        · right; left
          refine ⟨rfl, by omega, ?_, ?_⟩
          · split <;> split <;> omega
          · split <;> split <;> omega
    · rw [s1, s2]
      generalize doy (n % 146097) = k at *
      obtain ⟨u1, u2⟩ := mon_end s0 hr.2
      right; left
      rw [u1, show mon 0 = 0 from rfl, show dom 0 = 1 from rfl]
      simp
      omega
theorem year_le {n m : Int} (h : n ≤ m) : year n ≤ year m := by
  obtain ⟨d, hd⟩ : ∃ d : Nat, m = n + d := ⟨(m - n).toNat, by omega⟩
  subst hd
  clear h
  induction d with
  | zero => simp
  | succ d ih =>
    have := next (n + d)
    rw [show n + ((d + 1 : Nat) : Int) = n + d + 1 by omega]
    omega
end Go.Proofs.YtcpbdmgkeljkgaaGreatDoor.Cal
namespace Go.Proofs.YtcpbdmgkeljkgaaGreatDoor
open Go.RowKit
set_option maxRecDepth 100000

/-- Rounded down, and what is left. -/
theorem floor_div {a b : Int} (hb : 0 < b) : (if a.tmod b < 0 then a.tdiv b - 1 else a.tdiv b) = a / b := by
  have h1 := Int.tdiv_eq_ediv (a := a) (b := b)
  have h2 := Int.tmod_eq_emod (a := a) (b := b)
  have h3 := Int.emod_nonneg a (show b ≠ 0 by omega)
  have h4 := Int.emod_lt_of_pos a hb
  have h6 : ((b.natAbs : Nat) : Int) = b := by omega
  by_cases hc : 0 ≤ a ∨ b ∣ a
  · rw [if_pos hc] at h1 h2
    simp only [Int.natCast_zero] at h2
    rw [if_neg (by omega)]
    omega
  · rw [if_neg hc] at h1 h2
    rw [h6] at h2
    rw [if_pos (by omega), h1]
    simp [Int.sign_eq_one_of_pos hb] <;> omega
theorem floor_mod {a b : Int} (hb : 0 < b) : (a.tmod b + b).tmod b = a % b := by
  have h2 := Int.tmod_eq_emod (a := a) (b := b)
  have h3 := Int.emod_nonneg a (show b ≠ 0 by omega)
  have h4 := Int.emod_lt_of_pos a hb
  have h6 : ((b.natAbs : Nat) : Int) = b := by omega
  by_cases hc : 0 ≤ a ∨ b ∣ a
  · rw [if_pos hc] at h2
    simp only [Int.natCast_zero, Int.sub_zero] at h2
    rw [h2, Int.tmod_eq_emod_of_nonneg (by omega), Int.add_emod_right, Int.emod_emod]
  · rw [if_neg hc, h6] at h2
    rw [h2, show a % b - b + b = a % b by omega, Int.tmod_eq_emod_of_nonneg h3, Int.emod_emod]
theorem wholeD_any {a b : Int} (ha : in64 a) (hb : 1 < b) (hb2 : b ≤ 86400000) (w : World) : Calls Tryz.prog 168 #[.int .i64 a, .int .i64 b] w fun e w' => e = .returned (.int .i64 (a / b)) ∧ w' = w := by
  have hf := floor_div (a := a) (b := b) (by omega)
  have hd := div_within ha (show b ≠ 0 by omega) (by omega)
  have hw : IntKind.i64.wrap (a.tdiv b) = a.tdiv b := by have := wrap64_in hd; rw [IntKind.wrap_i64]; unfold wrap64 at this; exact this
  have hw2 := wrap64_in hd
  have hb0 : (b == 0) = false := by simp; omega
  have hq : in64 (a / b) := by
    have h : (a.tdiv b).natAbs ≤ a.natAbs / 2 := by
      rw [Int.natAbs_tdiv]
      exact Nat.div_le_div_left (by omega) (by omega)
    unfold in64 at ha ⊢
    split at hf <;> omega
  have hq2 := wrap64_in hq
  go_enter Tryz.func168, Tryz.ntmps168
  by_cases hm : a.tmod b < 0
  · rw [if_pos hm] at hf
    go_wp2_with fail
    go_ret
    exact ⟨by simp [hq2], rfl⟩
  · rw [if_neg hm] at hf
    go_wp2_with fail
    go_ret
    exact ⟨by simp [hq2], rfl⟩
theorem withinD_any {a b : Int} (ha : in64 a) (hb : 1 < b) (hb2 : b ≤ 86400000) (w : World) : Calls Tryz.prog 163 #[.int .i64 a, .int .i64 b] w fun e w' => e = .returned (.int .i64 (a % b)) ∧ w' = w := by
  have hf := floor_mod (a := a) (b := b) (by omega)
  have hb0 : (b == 0) = false := by simp; omega
  have h1 : (a.tmod b).natAbs < b.natAbs := by rw [Int.natAbs_tmod]; exact Nat.mod_lt _ (by omega)
  have hw : IntKind.i64.wrap (a.tmod b + b) = a.tmod b + b := by rw [IntKind.wrap_i64]; omega
  have hw2 : wrap64 (a.tmod b + b) = a.tmod b + b := wrap64_in (by unfold in64; omega)
  go_enter Tryz.func163, Tryz.ntmps163
  go_wp2_with fail
  go_ret
  exact ⟨rfl, rfl⟩
theorem tup3 {a b c a' b' c' : Int} (h1 : a = a') (h2 : b = b') (h3 : c = c') : Ending.returned (.tuple #[.int .i64 a, .int .i64 b, .int .i64 c]) = Ending.returned (.tuple #[.int .i64 a', .int .i64 b', .int .i64 c']) := by subst h1 h2 h3; rfl
set_option maxHeartbeats 4000000 in
theorem calendar_any {ms : Int} (hm : in64 ms) (w : World) : Calls Tryz.prog 159 #[.int .i64 ms] w fun e w' => e = .returned (.tuple #[.int .i64 (Cal.year (ms / 86400000 + 719468)), .int .i64 (Cal.month (ms / 86400000 + 719468)), .int .i64 (Cal.day (ms / 86400000 + 719468))]) ∧ w' = w := by
  have hd : -106751991168 ≤ ms / 86400000 ∧ ms / 86400000 ≤ 106751991167 := by unfold in64 at hm; omega
  have HW := Lib.hid (fun w => wholeD_any hm (b := 86400000) (by omega) (by omega) w)
  generalize ms / 86400000 = q at hd HW ⊢
  have hN : in64 (q + 719468) := by unfold in64; omega
  obtain ⟨n, hn⟩ : ∃ n, q + 719468 = n := ⟨_, rfl⟩
  rw [hn] at hN ⊢
  have HN := Lib.hid (fun w => withinD_any hN (b := 146097) (by omega) (by omega) w)
  have HQ := Lib.hid (fun w => wholeD_any hN (b := 146097) (by omega) (by omega) w)
  go_enter Tryz.func159, Tryz.ntmps159
  go_wp2_with fail
  refine (HW.out _).mono ?_
  rintro e w1 ⟨rfl, rfl⟩
  go_wp2_with fail
  refine (HN.out _).mono ?_
  rintro e w1 ⟨rfl, rfl⟩
  obtain ⟨r, hr⟩ : ∃ r, n % 146097 = r := ⟨_, rfl⟩
  have hr0 : 0 ≤ r ∧ r < 146097 := by omega
  have hQ : -800000 ≤ n / 146097 ∧ n / 146097 ≤ 800000 := by omega
  obtain ⟨c, hc⟩ : ∃ c, n / 146097 = c := ⟨_, rfl⟩
  rw [hc] at HQ hQ
  rw [hr]
  go_wp2_with fail
  all_goals
    refine (HQ.out _).mono ?_
    rintro e w1 ⟨rfl, rfl⟩
    go_wp2_with fail
  all_goals
    first
    | have e1 : Cal.cC r = 3 := by unfold Cal.cC; split <;> omega
    | have e1 : Cal.cC r = r / 36524 := by unfold Cal.cC; split <;> omega
    first
    | have e2 : Cal.cY (Cal.r2 (Cal.r1 r)) = 3 := by unfold Cal.r2 Cal.r1 Cal.cY; rw [e1]; split <;> omega
    | have e2 : Cal.cY (Cal.r2 (Cal.r1 r)) = Cal.r2 (Cal.r1 r) / 365 := by unfold Cal.r2 Cal.r1 Cal.cY; rw [e1]; split <;> omega
    go_ret3
    refine ⟨?_, rfl⟩
    apply tup3
    · unfold Cal.year Cal.mon Cal.yr Cal.doy
      rw [hr, hc, e2]
      unfold Cal.r2 Cal.r1
      rw [e1]
      split <;> omega
    · unfold Cal.month Cal.mon Cal.doy
      rw [hr, e2]
      unfold Cal.r2 Cal.r1
      rw [e1]
      split <;> omega
    · unfold Cal.day Cal.dom Cal.mon Cal.doy
      rw [hr, e2]
      unfold Cal.r2 Cal.r1
      rw [e1]
      first | done | omega
end Go.Proofs.YtcpbdmgkeljkgaaGreatDoor
namespace Go.Proofs.YtcpbdmgkeljkgaaGreatDoor
open Go.RowKit
set_option maxRecDepth 100000

inductive DateX | year | month | day | hour | minute | second | milli | weekday
def partF : DateX → Int → Int
  | .year, ms => Cal.year (ms / 86400000 + 719468)
  | .month, ms => Cal.month (ms / 86400000 + 719468)
  | .day, ms => Cal.day (ms / 86400000 + 719468)
  | .hour, ms => ms % 86400000 / 3600000
  | .minute, ms => ms % 3600000 / 60000
  | .second, ms => ms % 60000 / 1000
  | .milli, ms => ms % 1000
  | .weekday, ms => (ms / 86400000 + 4) % 7
def partFn : DateX → FuncId
  | .year => 158
  | .month => 160
  | .day => 161
  | .hour => 162
  | .minute => 164
  | .second => 165
  | .milli => 166
  | .weekday => 167
def nameD : DateX → ByteArray
  | .year => ⟨#[36, 121, 101, 97, 114]⟩
  | .month => ⟨#[36, 109, 111, 110, 116, 104]⟩
  | .day => ⟨#[36, 100, 97, 121]⟩
  | .hour => ⟨#[36, 104, 111, 117, 114]⟩
  | .minute => ⟨#[36, 109, 105, 110, 117, 116, 101]⟩
  | .second => ⟨#[36, 115, 101, 99, 111, 110, 100]⟩
  | .milli => ⟨#[36, 109, 105, 108, 108, 105]⟩
  | .weekday => ⟨#[36, 119, 101, 101, 107, 100, 97, 121]⟩
set_option maxHeartbeats 1000000 in
theorem part_year {ms : Int} (hm : in64 ms) (w : World) : Calls Tryz.prog 158 #[.int .i64 ms] w fun e w' => e = .returned (.int .i64 (partF .year ms)) ∧ w' = w := by
  have HC := Lib.hid (fun w => calendar_any hm w)
  go_enter Tryz.func158, Tryz.ntmps158
  go_wp2_with fail
  refine (HC.out _).mono ?_
  rintro e w1 ⟨rfl, rfl⟩
  go_wp2_with fail
  go_ret
  exact ⟨rfl, rfl⟩
set_option maxHeartbeats 1000000 in
theorem part_month {ms : Int} (hm : in64 ms) (w : World) : Calls Tryz.prog 160 #[.int .i64 ms] w fun e w' => e = .returned (.int .i64 (partF .month ms)) ∧ w' = w := by
  have HC := Lib.hid (fun w => calendar_any hm w)
  go_enter Tryz.func160, Tryz.ntmps160
  go_wp2_with fail
  refine (HC.out _).mono ?_
  rintro e w1 ⟨rfl, rfl⟩
  go_wp2_with fail
  go_ret
  exact ⟨rfl, rfl⟩
set_option maxHeartbeats 1000000 in
theorem part_day {ms : Int} (hm : in64 ms) (w : World) : Calls Tryz.prog 161 #[.int .i64 ms] w fun e w' => e = .returned (.int .i64 (partF .day ms)) ∧ w' = w := by
  have HC := Lib.hid (fun w => calendar_any hm w)
  go_enter Tryz.func161, Tryz.ntmps161
  go_wp2_with fail
  refine (HC.out _).mono ?_
  rintro e w1 ⟨rfl, rfl⟩
  go_wp2_with fail
  go_ret
  exact ⟨rfl, rfl⟩
set_option maxHeartbeats 1000000 in
theorem part_hour {ms : Int} (hm : in64 ms) (w : World) : Calls Tryz.prog 162 #[.int .i64 ms] w fun e w' => e = .returned (.int .i64 (partF .hour ms)) ∧ w' = w := by
  have HC := Lib.hid (fun w => withinD_any hm (b := 86400000) (by omega) (by omega) w)
  have hr : 0 ≤ ms % 86400000 ∧ ms % 86400000 < 86400000 := by omega
  simp only [partF]
  generalize ms % 86400000 = r at hr HC ⊢
  go_enter Tryz.func162, Tryz.ntmps162
  go_wp2_with fail
  refine (HC.out _).mono ?_
  rintro e w1 ⟨rfl, rfl⟩
  go_wp2_with fail
  go_ret
  exact ⟨rfl, rfl⟩
set_option maxHeartbeats 1000000 in
theorem part_minute {ms : Int} (hm : in64 ms) (w : World) : Calls Tryz.prog 164 #[.int .i64 ms] w fun e w' => e = .returned (.int .i64 (partF .minute ms)) ∧ w' = w := by
  have HC := Lib.hid (fun w => withinD_any hm (b := 3600000) (by omega) (by omega) w)
  have hr : 0 ≤ ms % 3600000 ∧ ms % 3600000 < 3600000 := by omega
  simp only [partF]
  generalize ms % 3600000 = r at hr HC ⊢
  go_enter Tryz.func164, Tryz.ntmps164
  go_wp2_with fail
  refine (HC.out _).mono ?_
  rintro e w1 ⟨rfl, rfl⟩
  go_wp2_with fail
  go_ret
  exact ⟨rfl, rfl⟩
set_option maxHeartbeats 1000000 in
theorem part_second {ms : Int} (hm : in64 ms) (w : World) : Calls Tryz.prog 165 #[.int .i64 ms] w fun e w' => e = .returned (.int .i64 (partF .second ms)) ∧ w' = w := by
  have HC := Lib.hid (fun w => withinD_any hm (b := 60000) (by omega) (by omega) w)
  have hr : 0 ≤ ms % 60000 ∧ ms % 60000 < 60000 := by omega
  simp only [partF]
  generalize ms % 60000 = r at hr HC ⊢
  go_enter Tryz.func165, Tryz.ntmps165
  go_wp2_with fail
  refine (HC.out _).mono ?_
  rintro e w1 ⟨rfl, rfl⟩
  go_wp2_with fail
  go_ret
  exact ⟨rfl, rfl⟩
set_option maxHeartbeats 1000000 in
theorem part_milli {ms : Int} (hm : in64 ms) (w : World) : Calls Tryz.prog 166 #[.int .i64 ms] w fun e w' => e = .returned (.int .i64 (partF .milli ms)) ∧ w' = w := by
  have HC := Lib.hid (fun w => withinD_any hm (b := 1000) (by omega) (by omega) w)
  have hr : 0 ≤ ms % 1000 ∧ ms % 1000 < 1000 := by omega
  simp only [partF]
  generalize ms % 1000 = r at hr HC ⊢
  go_enter Tryz.func166, Tryz.ntmps166
  go_wp2_with fail
  refine (HC.out _).mono ?_
  rintro e w1 ⟨rfl, rfl⟩
  go_wp2_with fail
  go_ret
  exact ⟨rfl, rfl⟩
set_option maxHeartbeats 1000000 in
theorem part_weekday {ms : Int} (hm : in64 ms) (w : World) : Calls Tryz.prog 167 #[.int .i64 ms] w fun e w' => e = .returned (.int .i64 (partF .weekday ms)) ∧ w' = w := by
  have hd : -106751991168 ≤ ms / 86400000 ∧ ms / 86400000 ≤ 106751991167 := by unfold in64 at hm; omega
  have HW := Lib.hid (fun w => wholeD_any hm (b := 86400000) (by omega) (by omega) w)
  simp only [partF]
  generalize ms / 86400000 = q at hd HW ⊢
  have hN : in64 (q + 4) := by unfold in64; omega
  have HN := Lib.hid (fun w => withinD_any hN (b := 7) (by omega) (by omega) w)
  go_enter Tryz.func167, Tryz.ntmps167
  go_wp2_with fail
  refine (HW.out _).mono ?_
  rintro e w1 ⟨rfl, rfl⟩
  go_wp2_with fail
  refine (HN.out _).mono ?_
  rintro e w1 ⟨rfl, rfl⟩
  go_wp2_with fail
  go_ret
  exact ⟨rfl, rfl⟩
theorem partD_any (o : DateX) {ms : Int} (hm : in64 ms) (w : World) : Calls Tryz.prog (partFn o) #[.int .i64 ms] w fun e w' => e = .returned (.int .i64 (partF o ms)) ∧ w' = w := by
  cases o
  · exact part_year hm w
  · exact part_month hm w
  · exact part_day hm w
  · exact part_hour hm w
  · exact part_minute hm w
  · exact part_second hm w
  · exact part_milli hm w
  · exact part_weekday hm w
theorem datePart_year (w : World) : Calls Tryz.prog 108 #[.string (nameD .year)] w fun e w' => e = .returned (fOf (partFn .year)) ∧ w' = w := by
  unfold nameD
  go_enter Tryz.func108, Tryz.ntmps108
  go_wp2_with fail
  go_ret
  exact ⟨rfl, rfl⟩
theorem datePart_month (w : World) : Calls Tryz.prog 108 #[.string (nameD .month)] w fun e w' => e = .returned (fOf (partFn .month)) ∧ w' = w := by
  unfold nameD
  go_enter Tryz.func108, Tryz.ntmps108
  go_wp2_with fail
  go_ret
  exact ⟨rfl, rfl⟩
theorem datePart_day (w : World) : Calls Tryz.prog 108 #[.string (nameD .day)] w fun e w' => e = .returned (fOf (partFn .day)) ∧ w' = w := by
  unfold nameD
  go_enter Tryz.func108, Tryz.ntmps108
  go_wp2_with fail
  go_ret
  exact ⟨rfl, rfl⟩
theorem datePart_hour (w : World) : Calls Tryz.prog 108 #[.string (nameD .hour)] w fun e w' => e = .returned (fOf (partFn .hour)) ∧ w' = w := by
  unfold nameD
  go_enter Tryz.func108, Tryz.ntmps108
  go_wp2_with fail
  go_ret
  exact ⟨rfl, rfl⟩
theorem datePart_minute (w : World) : Calls Tryz.prog 108 #[.string (nameD .minute)] w fun e w' => e = .returned (fOf (partFn .minute)) ∧ w' = w := by
  unfold nameD
  go_enter Tryz.func108, Tryz.ntmps108
  go_wp2_with fail
  go_ret
  exact ⟨rfl, rfl⟩
theorem datePart_second (w : World) : Calls Tryz.prog 108 #[.string (nameD .second)] w fun e w' => e = .returned (fOf (partFn .second)) ∧ w' = w := by
  unfold nameD
  go_enter Tryz.func108, Tryz.ntmps108
  go_wp2_with fail
  go_ret
  exact ⟨rfl, rfl⟩
theorem datePart_milli (w : World) : Calls Tryz.prog 108 #[.string (nameD .milli)] w fun e w' => e = .returned (fOf (partFn .milli)) ∧ w' = w := by
  unfold nameD
  go_enter Tryz.func108, Tryz.ntmps108
  go_wp2_with fail
  go_ret
  exact ⟨rfl, rfl⟩
theorem datePart_weekday (w : World) : Calls Tryz.prog 108 #[.string (nameD .weekday)] w fun e w' => e = .returned (fOf (partFn .weekday)) ∧ w' = w := by
  unfold nameD
  go_enter Tryz.func108, Tryz.ntmps108
  go_wp2_with fail
  go_ret
  exact ⟨rfl, rfl⟩
theorem datePart_any (o : DateX) (w : World) : Calls Tryz.prog 108 #[.string (nameD o)] w fun e w' => e = .returned (fOf (partFn o)) ∧ w' = w := by
  cases o
  · exact datePart_year w
  · exact datePart_month w
  · exact datePart_day w
  · exact datePart_hour w
  · exact datePart_minute w
  · exact datePart_second w
  · exact datePart_milli w
  · exact datePart_weekday w
/-- The operator of a date's part, as it lies. -/
def OpD (B : Nat) (W : World) (o : DateX) (v : Value) : Prop :=
  ∃ g b, B ≤ g ∧ B ≤ b ∧ v = sOp 1 false g 1 1 (.func (.func 109) #[] #[.pointer (some ⟨b, 0, none⟩)]) ∧ W.heap[g]? = some (.cells #[.int .i64 1024] 128 (0, 0)) ∧ W.heap[b]? = some (.cells #[fOf (partFn o)] 99 (0, 0))
theorem OpD.then_ {B : Nat} {w w' : World} {o : DateX} {v : Value} (h : OpD B w o v) (hb : Below w.heap.size w w') : OpD B w' o v := by
  obtain ⟨g, b, h0, h1, h2, h3, h4⟩ := h
  exact ⟨g, b, h0, h1, h2, row_thenE h3 hb, row_thenE h4 hb⟩
theorem OpD.base {B B' : Nat} {w : World} {o : DateX} {v : Value} (h : OpD B w o v) (hB : B' ≤ B) : OpD B' w o v := by
  obtain ⟨g, b, h0, h1, h2, h3, h4⟩ := h
  exact ⟨g, b, Nat.le_trans hB h0, Nat.le_trans hB h1, h2, h3, h4⟩
theorem OpD.onlyS {B : Nat} {w w' : World} {S : List Nat} {o : DateX} {v : Value} (h : OpD B w o v) (ho : Only S w w') (hS : ∀ b ∈ S, b < B) : OpD B w' o v := by
  obtain ⟨g, b, h0, h1, h2, h3, h4⟩ := h
  exact ⟨g, b, h0, h1, h2, (ho.block g (Array.getElem?_eq_some_iff.1 h3).1 (fun hc => by have := hS g hc; omega)).trans h3, (ho.block b (Array.getElem?_eq_some_iff.1 h4).1 (fun hc => by have := hS b hc; omega)).trans h4⟩
theorem date_op (o : DateX) (w : World) : Calls Tryz.prog 65 #[.string (nameD o)] w fun e w' => Below w.heap.size w w' ∧ ∃ t x, e = .returned (.iface t x) ∧ OpD w.heap.size w' o (.iface t x) := by
  have HD := Lib.hid (fun w => datePart_any o w)
  obtain ⟨f, hf⟩ : ∃ f, partFn o = f := ⟨_, rfl⟩
  obtain ⟨s, hs⟩ : ∃ s, nameD o = s := ⟨_, rfl⟩
  unfold OpD
  rw [hs] at HD ⊢
  rw [hf] at HD ⊢
  clear hs hf
  go_enter Tryz.func65, Tryz.ntmps65
  go_wp2_with fail
  refine (HD.out _).mono ?_
  rintro e w1 ⟨rfl, rfl⟩
  dsimp only [fOf]
  have hst := fun (a : Addr) (W : World) => run_store Tryz.prog W a (.func (.func f) #[] #[]) .plain rfl
  have heq := fun (W : World) => (show (Sem.run Tryz.prog (binOp .eql 99 (.func (.func f) #[] #[]) .nilFunc) W) = .ok (.bool false) W from rfl)
  go_wp2_with fail
  refine (just_any _ 1 1 (by decide) _ _).mono ?_
  rintro e w2 ⟨rfl, rfl⟩
  go_wp2_with fail
  go_ret
  refine ⟨below_then (below1 w1 _) (below1 _ _), _, _, rfl, w1.heap.size + 1, w1.heap.size, Nat.le_succ _, Nat.le_refl _, rfl, ?_, row_thenE (heap_alloc_new _ _) (below1 _ _)⟩
  have h := heap_alloc_new (w1.alloc (.cells #[.func (.func f) #[] #[]] 99)) (.cells #[.int .i64 1024] 128)
  rwa [show (w1.alloc (.cells #[.func (.func f) #[] #[]] 99)).heap.size = w1.heap.size + 1 by simp] at h
end Go.Proofs.YtcpbdmgkeljkgaaGreatDoor
namespace Go.Proofs.YtcpbdmgkeljkgaaGreatDoor
open Go.RowKit
set_option maxRecDepth 100000

set_option maxHeartbeats 2000000 in
theorem nilD_number (o : DateX) (w : World) : Calls Tryz.prog 59 #[.string (nameD o)] w fun e w' => e = .returned .nilIface ∧ w' = w := by
  cases o <;> simp only [nameD]
  all_goals
    go_enter Tryz.func59, Tryz.ntmps59
    go_wp2_with fail
    go_ret
    exact ⟨rfl, rfl⟩
set_option maxHeartbeats 2000000 in
theorem nilD_text (o : DateX) (w : World) : Calls Tryz.prog 60 #[.string (nameD o)] w fun e w' => e = .returned .nilIface ∧ w' = w := by
  cases o <;> simp only [nameD]
  all_goals
    go_enter Tryz.func60, Tryz.ntmps60
    go_wp2_with fail
    go_ret
    exact ⟨rfl, rfl⟩
set_option maxHeartbeats 2000000 in
theorem nilD_list (o : DateX) (w : World) : Calls Tryz.prog 61 #[.string (nameD o)] w fun e w' => e = .returned .nilIface ∧ w' = w := by
  cases o <;> simp only [nameD]
  all_goals
    go_enter Tryz.func61, Tryz.ntmps61
    go_wp2_with fail
    go_ret
    exact ⟨rfl, rfl⟩
set_option maxHeartbeats 2000000 in
theorem nilD_bool (o : DateX) (w : World) : Calls Tryz.prog 62 #[.string (nameD o)] w fun e w' => e = .returned .nilIface ∧ w' = w := by
  cases o <;> simp only [nameD]
  all_goals
    go_enter Tryz.func62, Tryz.ntmps62
    go_wp2_with fail
    go_ret
    exact ⟨rfl, rfl⟩
set_option maxHeartbeats 2000000 in
theorem nilD_kind (o : DateX) (w : World) : Calls Tryz.prog 64 #[.string (nameD o)] w fun e w' => e = .returned .nilIface ∧ w' = w := by
  cases o <;> simp only [nameD]
  all_goals
    go_enter Tryz.func64, Tryz.ntmps64
    go_wp2_with fail
    go_ret
    exact ⟨rfl, rfl⟩
set_option maxHeartbeats 2000000 in
theorem nilD_test (o : DateX) (w : World) : Calls Tryz.prog 101 #[.string (nameD o)] w fun e w' => e = .returned .nilFunc ∧ w' = w := by
  cases o <;> simp only [nameD]
  all_goals
    go_enter Tryz.func101, Tryz.ntmps101
    go_wp2_with fail
    go_ret
    exact ⟨rfl, rfl⟩
set_option maxHeartbeats 2000000 in
theorem nilD_order (o : DateX) (w : World) : Calls Tryz.prog 63 #[.string (nameD o)] w fun e w' => e = .returned .nilIface ∧ Below w.heap.size w w' := by
  have HT := Lib.hid (fun w => nilD_test o w)
  have hst := fun (a : Addr) (W : World) => run_store Tryz.prog W a .nilFunc .plain rfl
  have heq := fun (W : World) => (show (Sem.run Tryz.prog (binOp .eql 96 .nilFunc .nilFunc) W) = .ok (.bool true) W from rfl)
  cases o <;> simp only [nameD] at HT ⊢
  all_goals
    go_enter Tryz.func63, Tryz.ntmps63
    go_wp2_with fail
    refine (HT.out _).mono ?_
    rintro e w1 ⟨rfl, rfl⟩
    go_wp2_with fail
    go_ret
    exact ⟨rfl, below1 _ _⟩
set_option maxHeartbeats 4000000 in
theorem operatorD (o : DateX) (w : World) : Calls Tryz.prog 48 #[.string (nameD o)] w fun e w' => Below w.heap.size w w' ∧ ∃ t x, e = .returned (.iface t x) ∧ OpD w.heap.size w' o (.iface t x) := by
  have hc := row_cells (heap_alloc_new w (.cells #[.func (.func 59) #[] #[], .func (.func 60) #[] #[], .func (.func 61) #[] #[], .func (.func 62) #[] #[], .func (.func 63) #[] #[], .func (.func 64) #[] #[], .func (.func 65) #[] #[]] 94))
  have HB := Lib.hid (below1 w (.cells #[.func (.func 59) #[] #[], .func (.func 60) #[] #[], .func (.func 61) #[] #[], .func (.func 62) #[] #[], .func (.func 63) #[] #[], .func (.func 64) #[] #[], .func (.func 65) #[] #[]] 94))
  have HR := Lib.hid (heap_alloc_new w (.cells #[.func (.func 59) #[] #[], .func (.func 60) #[] #[], .func (.func 61) #[] #[], .func (.func 62) #[] #[], .func (.func 63) #[] #[], .func (.func 64) #[] #[], .func (.func 65) #[] #[]] 94))
  have Hnumber := Lib.hid (fun w => nilD_number o w)
  have Htext := Lib.hid (fun w => nilD_text o w)
  have Hlist := Lib.hid (fun w => nilD_list o w)
  have Hbool := Lib.hid (fun w => nilD_bool o w)
  have Hkind := Lib.hid (fun w => nilD_kind o w)
  have Horder := Lib.hid (fun w => nilD_order o w)
  have Hdate := Lib.hid (fun w => date_op o w)
  generalize nameD o = s at *
  go_enter Tryz.func48, Tryz.ntmps48
  go_wp2_with fail
  generalize w.alloc _ = U at hc HB HR ⊢
  go_loopw [8] (fun x W => ∃ k : Nat, k ≤ 6 ∧ x = .int .i64 k ∧ Below U.heap.size U W) (fun x _ => 7 - (intOf x).toNat)
  case atStart => exact ⟨0, by omega, rfl, Below.refl _ _⟩
  case round =>
    obtain ⟨k, hk, rfl, hbel⟩ := hrel
    have c1 := row_cells (row_then HR.out hbel)
    have HL := Lib.hid hbel
    clear hbel hc
    have hcs : k = 0 ∨ k = 1 ∨ k = 2 ∨ k = 3 ∨ k = 4 ∨ k = 5 ∨ k = 6 := by omega
    rcases hcs with rfl | rfl | rfl | rfl | rfl | rfl | rfl
    · go_wp2_with fail
      refine (Hnumber.out _).mono ?_
      rintro e w1 ⟨rfl, rfl⟩
      go_wp2_with fail
      go_roundw
      case rel => exact ⟨1, by omega, rfl, HL.out⟩
      case measure => decide
    · go_wp2_with fail
      refine (Htext.out _).mono ?_
      rintro e w1 ⟨rfl, rfl⟩
      go_wp2_with fail
      go_roundw
      case rel => exact ⟨2, by omega, rfl, HL.out⟩
      case measure => decide
    · go_wp2_with fail
      refine (Hlist.out _).mono ?_
      rintro e w1 ⟨rfl, rfl⟩
      go_wp2_with fail
      go_roundw
      case rel => exact ⟨3, by omega, rfl, HL.out⟩
      case measure => decide
    · go_wp2_with fail
      refine (Hbool.out _).mono ?_
      rintro e w1 ⟨rfl, rfl⟩
      go_wp2_with fail
      go_roundw
      case rel => exact ⟨4, by omega, rfl, HL.out⟩
      case measure => decide
    · go_wp2_with fail
      refine (Horder.out _).mono ?_
      rintro e w1 ⟨rfl, hb1⟩
      have HB1 := Lib.hid hb1
      clear hb1
      go_wp2_with fail
      go_roundw
      case rel => exact ⟨5, by omega, rfl, below_then HL.out HB1.out⟩
      case measure => decide
    · go_wp2_with fail
      refine (Hkind.out _).mono ?_
      rintro e w1 ⟨rfl, rfl⟩
      go_wp2_with fail
      go_roundw
      case rel => exact ⟨6, by omega, rfl, HL.out⟩
      case measure => decide
    · go_wp2_with fail
      refine (Hdate.out _).mono ?_
      rintro e w1 ⟨b1, t, x, rfl, hop⟩
      have HO := Lib.hid (And.intro b1 hop)
      clear b1 hop c1
      go_wp2_with fail
      go_ret
      exact ⟨below_then HB.out (below_then HL.out HO.out.1), _, _, rfl, HO.out.2.base (Nat.le_trans HB.out.size HL.out.size)⟩
end Go.Proofs.YtcpbdmgkeljkgaaGreatDoor
