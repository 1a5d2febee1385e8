/- A part of a date, as the law asks for it. ExprDates: the parts of a date, the next day; the law at the last day. No statement is proved here. -/
import Derived.Test.YtcpbdmgkeljkgaaGreatDoorJ10
import Derived.Test.YtcpbdmgkeljkgaaGreatDoorEDf
import Derived.Test.YtcpbdmgkeljkgaaGreatDoorJ4
namespace Go.Proofs.YtcpbdmgkeljkgaaGreatDoor
open Go.RowKit
set_option maxRecDepth 100000

def rdD (n : Int) : Rd := ⟨dateT n, 0, fun r => r = dateT n, 0⟩
theorem dateT_ok {n : Int} (h : in64 n) : (dateT n).ok := by
  unfold in64 at h
  simp [dateT, T.ok, T.okL, T.okD, okInt, okLen, okFar, h]
  decide
theorem dateT_places (n : Int) : (dateT n).places = [] := by simp [dateT, T.places, T.placesL, T.placesD]
theorem one_ns {ns : List (TypeId × Value)} (h : ns.length = 1) : ∃ p, ns = [p] := by
  match ns, h with
  | [p], _ => exact ⟨p, rfl⟩
theorem op1 {d : T} (o : DateX) {a : Int} (ha : in64 a) (B : Nat) (W : World) (u : TypeId) (x : Value) (ga c : Nat) (ns : List (TypeId × Value)) (hop : OpD B W o (.iface u x)) (hlen : ns.length = 1)
    (hE : ∀ (i : Nat) (a' : TypeId × Value) (r : Rd), ns[i]? = some a' → [rdD a][i]? = some r → Ev W d a'.1 a'.2 r.k r.R r.err ∧ W.cell? ⟨ga, i, none⟩ = some (.iface a'.1 a'.2)) : OpTo W d u x ga 1 c 1 (fun r => r = intT (partF o a)) 0 := by
  obtain ⟨p, rfl⟩ := one_ns hlen
  obtain ⟨e1, c1⟩ := hE 0 p (rdD a) rfl rfl
  obtain ⟨gk, gb, -, -, hv, hk, hbx⟩ := hop
  injection hv with hv1 hv2
  subst hv1 hv2
  have hM := date_made o (W := W) (x := ⟨p.1, p.2, 0, fun r => r = dateT a⟩) (gp := gb) ha (fun r h => h) hbx
  have := strictC_op (W := W) (d := d) (least := 1) (more := false) (gk := gk) (nk := 1) (ck := 1) (gM := 109) (caps := #[.pointer (some ⟨gb, 0, none⟩)]) [1024] rfl (by omega) (by omega) (kinds_cells (kms := [1024]) hk) [⟨p.1, p.2, 0, fun r => r = dateT a⟩] (by simp) (by simp) (by
      intro n hn
      rw [List.mem_singleton.1 hn]; exact e1) ga c (by
      intro i n hn
      match i, hn with
      | 0, hn => simp at hn; subst hn; exact c1) (by
      intro n hn r hr
      rw [List.mem_singleton.1 hn] at hr; exact ⟨a, hr⟩) (by simp) (fun args w => by kernel_rfl) hM
  exact this
theorem reads1 {d : T} (o : DateX) {a : Int} (ha : in64 a) (da : Option Addr) (dc : Nat) (la : Option Addr) (lc : Nat) : Reads d (callT (nameD o) da dc la lc [dateT a]) 1 (fun r => r = intT (partF o a)) 0 := by
  refine reads_callD d (opNameD o) [rdD a] rfl ?_ (fun _ r hr => by rw [hr]; exact intT_size _) (fun h => absurd rfl h) (fun B W u x ga c ns h1 h2 h3 => op1 o ha B W u x ga c ns h1 h2 h3) da dc la lc
  intro r hr
  rw [List.mem_singleton.1 hr]
  exact reads_plain d (dateT a) (dateT_ok ha) (by intro k m s la lc l da dc f h; unfold dateT at h; injection h with h; subst h; decide)
theorem nameD_ok (o : DateX) : nameOk (nameD o) = true ∧ (nameD o).size ≤ 20 := by cases o <;> decide +kernel
theorem right1 (name : ByteArray) (hn : nameOk name = true) (hs : name.size ≤ 20) (da : Option Addr) (dc : Nat) (la : Option Addr) (lc : Nat) (a : Int) : rightOf (callT name da dc la lc [dateT a]).val = 0 := by
  simp only [callT, T.val_mk, dateT, List.map_cons, List.map_nil]
  have hsz : szFrom 0 (.mk 5 0 ⟨#[]⟩ [] [(name, .mk 6 0 ⟨#[]⟩ [.mk 10 a ⟨#[]⟩ [] []] [])]) = 5 + 2 + name.size + 5 + 2 + 1 + 8 := by
    simp [szFrom, szD, szL, digN]
    omega
  unfold rightOf sizeV
  rw [hsz, if_neg (by split <;> omega)]
  simp [rightV, rightD, rightL, aloneV, fitsV, hn]
theorem work1 (o : DateX) {a : Int} (ha : in64 a) (g : Nat) (la : Option Addr) (lc : Nat) (hlc : 1 ≤ lc ∧ lc ≤ 1000) (hla : la = none → lc = 0) (w : World) (hin : (callT (nameD o) (some ⟨g, 0, none⟩) 1 la lc [dateT a]).In w) (henv : EnvR w) :
    Calls Tryz.prog 7 #[(callT (nameD o) (some ⟨g, 0, none⟩) 1 la lc [dateT a]).arg, voidT.arg] w fun e w' => e = .returned (.tuple #[(intT (partF o a)).arg, .int .i64 0]) ∧ Below w.heap.size w w' := by
  obtain ⟨n1, n2⟩ := nameD_ok o
  refine work_val voidT_ok (callT_ok (by unfold okLen; omega) (by
    intro x hx
    rw [List.mem_singleton.1 hx]; exact dateT_ok ha) hlc hla) (right1 _ n1 n2 _ _ _ _ a) (k := 1) (by omega) ⟨3, partF o a, _, rfl⟩ ?_ w hin (voidT_in w) henv
  intro t' hv htd hok'
  obtain ⟨da', dc', la', lc', l', rfl, hl, htl, -⟩ := callT_inv hv htd hok'
  have e1 := tidy_eq hl htl (by
    intro x hx
    rw [List.mem_singleton.1 hx]; exact ⟨10, a, _, rfl⟩)
  subst e1
  exact reads1 o ha _ _ _ _
theorem oneD_in {w : World} {g : Nat} {a : Int} (h : w.heap[g]? = some (.cells (oneD a) 28 (0, 0))) : InL w (some ⟨g, 0, none⟩) [dateT a] := by
  intro p hp
  obtain ⟨i, x, hx, hp⟩ := (T.mem_placesL _ _ _ _).1 hp
  rcases hp with hp | hp
  · obtain ⟨j, c, hc, rfl⟩ := mem_laid.1 hp
    have hj := lt_of_get hc
    rw [cells_len] at hj
    have hg := (flatMap_get T.cells 5 cells_len [dateT a] i x hx j hj).trans hc
    have := row_cells h (i * 5 + j)
    simp only [at_, Nat.zero_add]
    rw [this, ← hg, show oneD a = ([dateT a].flatMap T.cells).toArray from rfl, List.getElem?_toArray]
  · exfalso
    match i, hx with
    | 0, hx => simp at hx; subst hx; rw [dateT_places] at hp; simp at hp
set_option maxHeartbeats 4000000 in
theorem date_any (o : DateX) {a : Int} (ha : in64 a) (w : World) (henv : EnvR w) :
    Calls Tryz.prog 10 #[.string (nameD o), .int .i64 a] w fun e w' => e = .returned (.tuple #[.int .i64 (partF o a), .bool true]) ∧ Below w.heap.size w w' := by
  have HC := Lib.hid (fun la lc w hin => lcall_any (nameD o) la lc [dateT a] w hin)
  have HW := Lib.hid (fun g la lc h1 h2 w hin henv => work1 o ha g la lc h1 h2 w hin henv)
  have HE := Lib.hid henv
  have HR := Lib.hid (And.intro (oneD_in (heap_alloc_new w (.cells (oneD a) 28))) (below1 w (.cells (oneD a) 28)))
  unfold oneD at HR
  clear henv
  generalize partF o a = n at HW ⊢
  generalize nameD o = name at HC HW ⊢
  rw [show (intT n).arg = .agg #[.int .i64 3, .int .i64 n, .string ⟨#[]⟩, .slice none 0 0, .slice none 0 0] from rfl] at HW
  go_enter Tryz.func10, Tryz.ntmps10
  go_wp2_with fail
  refine (HC.out _ 1 _ HR.out.1).mono ?_
  rintro e w3 ⟨b3, g, hg, rfl, hin⟩
  have HB3 := Lib.hid (And.intro (below_then HR.out.2 b3) hin)
  clear b3 hin hg
  have HWW := HW.out g (some ⟨w.heap.size, 0, none⟩) 1 (by omega) (by simp) w3 HB3.out.2 (HE.out.then_ HB3.out.1)
  rw [show (callT name (some ⟨g, 0, none⟩) 1 (some ⟨w.heap.size, 0, none⟩) 1 [dateT a]).arg = .agg #[.int .i64 5, .int .i64 0, .string ⟨#[]⟩, .slice none 0 0, .slice (some ⟨g, 0, none⟩) 1 1] from rfl, show voidT.arg = .agg #[.int .i64 0, .int .i64 0, .string ⟨#[]⟩, .slice none 0 0, .slice none 0 0] from rfl] at HWW
  rw [show (callT name (some ⟨g, 0, none⟩) 1 (some ⟨w.heap.size, 0, none⟩) 1 [dateT a]).arg = .agg #[.int .i64 5, .int .i64 0, .string ⟨#[]⟩, .slice none 0 0, .slice (some ⟨g, 0, none⟩) 1 1] from rfl]
  have HW2 := Lib.hid HWW
  clear HWW
  go_wp2_with fail
  refine HW2.out.mono ?_
  rintro e w4 ⟨rfl, b4⟩
  have HB4 := Lib.hid (below_then HB3.out.1 b4)
  clear b4
  go_wp2_with fail
  go_region
  go_wp2_with fail
  go_ret2
  exact ⟨by simp, (below_then HB4.out (below1 _ _)).drew⟩
end Go.Proofs.YtcpbdmgkeljkgaaGreatDoor
namespace Go.Proofs.YtcpbdmgkeljkgaaGreatDoor
open Go.RowKit
set_option maxRecDepth 100000

/-- The part of a date, as the law gets it. -/
def DtTo (o : DateX) (a n : Int) : Prop := ∀ w : World, EnvR w → Calls Tryz.prog 10 #[.string (nameD o), .int .i64 a] w fun e w' => e = .returned (.tuple #[.int .i64 n, .bool true]) ∧ Below w.heap.size w w'
theorem dt_of (o : DateX) {a : Int} (ha : in64 a) : DtTo o a (partF o a) := fun w henv => date_any o ha w henv
theorem parts8 (a : Int) : ∃ h m s l v d n y q : Int, partF .hour a = h ∧ partF .minute a = m ∧ partF .second a = s ∧ partF .milli a = l ∧ partF .weekday a = v ∧ partF .day a = d ∧ partF .month a = n ∧ partF .year a = y ∧
    (0 ≤ h ∧ h ≤ 23) ∧ (0 ≤ m ∧ m ≤ 59) ∧ (0 ≤ s ∧ s ≤ 59) ∧ (0 ≤ l ∧ l ≤ 999) ∧ (0 ≤ v ∧ v ≤ 6) ∧ (1 ≤ d ∧ d ≤ 31) ∧ (1 ≤ n ∧ n ≤ 12) ∧ a - (h * 3600000 + m * 60000 + s * 1000 + l) = 86400000 * q := by
  have hc := Cal.months (a / 86400000 + 719468)
  refine ⟨_, _, _, _, _, _, _, _, a / 86400000, rfl, rfl, rfl, rfl, rfl, rfl, rfl, rfl, ?_, ?_, ?_, ?_, ?_, ?_, ?_, ?_⟩
  all_goals simp only [partF]
  all_goals omega
theorem parts_next (a : Int) : partF .weekday (a + 86400000) = (partF .weekday a + 1) % 7 ∧
    ((partF .day (a + 86400000) = partF .day a + 1 ∧ partF .month (a + 86400000) = partF .month a ∧ partF .year (a + 86400000) = partF .year a) ∨
     (partF .day (a + 86400000) = 1 ∧ 28 ≤ partF .day a ∧ partF .month (a + 86400000) = partF .month a + 1 ∧ partF .year (a + 86400000) = partF .year a) ∨
     (partF .day (a + 86400000) = 1 ∧ partF .day a = 31 ∧ partF .month a = 12 ∧ partF .month (a + 86400000) = 1 ∧ partF .year (a + 86400000) = partF .year a + 1)) := by
  have e : (a + 86400000) / 86400000 + 719468 = a / 86400000 + 719468 + 1 := by omega
  simp only [partF]
  rw [e]
  exact ⟨by omega, Cal.next _⟩
theorem parts_grow {a b : Int} (h : a ≤ b) : partF .year a ≤ partF .year b := by
  simp only [partF]
  exact Cal.year_le (by omega)
set_option maxHeartbeats 8000000 in
theorem dates_late {a b h m s l v d n y : Int} (ha : in64 a) (hl : 9223372036854775807 - 86400000 < a) (f1 : 0 ≤ h ∧ h ≤ 23) (f2 : 0 ≤ m ∧ m ≤ 59) (f3 : 0 ≤ s ∧ s ≤ 59) (f4 : 0 ≤ l ∧ l ≤ 999) (f5 : 0 ≤ v ∧ v ≤ 6) (f6 : 1 ≤ d ∧ d ≤ 31) (f7 : 1 ≤ n ∧ n ≤ 12) (f8 : Int.tmod (a - (h * 3600000 + m * 60000 + s * 1000 + l)) 86400000 = 0) (s1 : DtTo .hour a h) (s2 : DtTo .minute a m) (s3 : DtTo .second a s) (s4 : DtTo .milli a l) (s5 : DtTo .weekday a v) (s6 : DtTo .day a d) (s7 : DtTo .month a n) (s8 : DtTo .year a y) (HAW : ∀ w, EnvR w → Calls Tryz.prog 5 #[] w fun e w' => e = .returned (.bool true) ∧ Below w.heap.size w w') (w : World) (henv : EnvR w) :
    Calls Tryz.prog 4 #[.int .i64 a, .int .i64 b] w fun e w' => e = .returned (.bool true) ∧ Below w.heap.size w w' := by
  unfold in64 at ha
  have HA := Lib.hid (HAW w henv)
  have HE := Lib.hid (fun w' (hb : Below w.heap.size w w') => henv.then_ hb)
  have S1 := Lib.hid s1
  have S2 := Lib.hid s2
  have S3 := Lib.hid s3
  have S4 := Lib.hid s4
  have S5 := Lib.hid s5
  have S6 := Lib.hid s6
  have S7 := Lib.hid s7
  have S8 := Lib.hid s8
  clear henv HAW s1 s2 s3 s4 s5 s6 s7 s8
  go_enter Tryz.func4, Tryz.ntmps4
  go_wp2_with fail
  refine HA.out.mono ?_
  rintro e w1 ⟨rfl, b1⟩
  have B1 := Lib.hid b1
  clear b1
  go_wp2_with fail
  refine (S1.out w1 (HE.out _ B1.out)).mono ?_
  rintro e w2 ⟨rfl, b2⟩
  have B2 := Lib.hid (below_then B1.out b2)
  clear b2
  go_wp2_with fail
  refine (S2.out w2 (HE.out _ B2.out)).mono ?_
  rintro e w3 ⟨rfl, b3⟩
  have B3 := Lib.hid (below_then B2.out b3)
  clear b3
  go_wp2_with fail
  refine (S3.out w3 (HE.out _ B3.out)).mono ?_
  rintro e w4 ⟨rfl, b4⟩
  have B4 := Lib.hid (below_then B3.out b4)
  clear b4
  go_wp2_with fail
  refine (S4.out w4 (HE.out _ B4.out)).mono ?_
  rintro e w5 ⟨rfl, b5⟩
  have B5 := Lib.hid (below_then B4.out b5)
  clear b5
  go_wp2_with fail
  refine (S5.out w5 (HE.out _ B5.out)).mono ?_
  rintro e w6 ⟨rfl, b6⟩
  have B6 := Lib.hid (below_then B5.out b6)
  clear b6
  go_wp2_with fail
  refine (S6.out w6 (HE.out _ B6.out)).mono ?_
  rintro e w7 ⟨rfl, b7⟩
  have B7 := Lib.hid (below_then B6.out b7)
  clear b7
  go_wp2_with fail
  refine (S7.out w7 (HE.out _ B7.out)).mono ?_
  rintro e w8 ⟨rfl, b8⟩
  have B8 := Lib.hid (below_then B7.out b8)
  clear b8
  go_wp2_with fail
  refine (S8.out w8 (HE.out _ B8.out)).mono ?_
  rintro e w9 ⟨rfl, b9⟩
  have B9 := Lib.hid (below_then B8.out b9)
  clear b9
  go_wp2_with fail
  go_ret
  exact ⟨rfl, B9.out⟩
end Go.Proofs.YtcpbdmgkeljkgaaGreatDoor
