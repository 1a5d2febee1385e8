/- The contracts of Compare and of what it calls: no statement is proved here. The contract of Compare: no statement is proved here. No statement is proved here. -/
import Derived.Test.YtcpbdmgkeljkgaaGreatDoorTree
namespace Go.Proofs.YtcpbdmgkeljkgaaGreatDoor
open Go.RowKit
set_option maxRecDepth 100000

/-- -1, 0 or 1 of two numbers. -/
def cmpI (a b : Int) : Int := if a < b then -1 else if b < a then 1 else 0

theorem cmpInt_any (a b : Int) (w : World) : Calls Tryz.prog 182 #[.int .i64 a, .int .i64 b] w fun e w' => e = .returned (.int .i64 (cmpI a b)) ∧ w = w' := by
  unfold cmpI
  by_cases h : a < b
  · go_enter Tryz.func182, Tryz.ntmps182
    go_wp2
    go_ret
    simp
  · by_cases h2 : b < a
    · go_enter Tryz.func182, Tryz.ntmps182
      go_wp2
      go_ret
      exact ⟨by simp, rfl⟩
    · go_enter Tryz.func182, Tryz.ntmps182
      go_wp2
      go_ret
      exact ⟨by simp, rfl⟩

def ltS (a b : ByteArray) : Bool := Op.bytesLess a.toList b.toList
def cmpS (a b : ByteArray) : Int := if ltS a b then -1 else if a.toList == b.toList then 0 else 1
theorem cmpStr_any (a b : ByteArray) (w : World) : Calls Tryz.prog 183 #[.string a, .string b] w fun e w' => e = .returned (.int .i64 (cmpS a b)) ∧ w = w' := by
  unfold cmpS ltS
  go_enter Tryz.func183, Tryz.ntmps183
  go_wp2
  all_goals (go_ret; exact ⟨by simp_all, rfl⟩)

mutual
/-- Compare. -/
def cmpV : V → V → Int
  | .mk k n s l d, .mk k' n' s' l' d' =>
    if k ≠ k' then cmpI k k' else
    if k = 3 ∨ k = 9 ∨ k = 10 then cmpI n n' else
    if k = 4 ∨ k = 7 ∨ k = 8 then cmpS s s' else
    if k = 6 then cmpL l l' else
    if k = 5 then cmpD d d' else 0
def cmpL : List V → List V → Int
  | [], [] => 0
  | [], _ :: _ => -1
  | _ :: _, [] => 1
  | x :: r, y :: r' => if cmpV x y = 0 then cmpL r r' else cmpV x y
def cmpD : List (ByteArray × V) → List (ByteArray × V) → Int
  | [], [] => 0
  | [], _ :: _ => -1
  | _ :: _, [] => 1
  | (s, x) :: r, (s', y) :: r' => if cmpF s x s' y = 0 then cmpD r r' else cmpF s x s' y
def cmpF (s : ByteArray) : V → ByteArray → V → Int
  | x, s', y => if s.toList == s'.toList then cmpV x y else cmpS s s'
end

theorem cmpL_step {l l' : List V} {k : Nat} {x y : V} (hx : l[k]? = some x) (hy : l'[k]? = some y) :
    cmpL (l.drop k) (l'.drop k) = if cmpV x y = 0 then cmpL (l.drop (k + 1)) (l'.drop (k + 1)) else cmpV x y := by
  obtain ⟨h1, rfl⟩ := List.getElem?_eq_some_iff.1 hx
  obtain ⟨h2, rfl⟩ := List.getElem?_eq_some_iff.1 hy
  rw [List.drop_eq_getElem_cons h1, List.drop_eq_getElem_cons h2, cmpL]
theorem cmpL_end {l l' : List V} {k : Nat} (h1 : k ≤ l.length) (h2 : k ≤ l'.length) (h : ¬ (k < l.length ∧ k < l'.length)) : cmpL (l.drop k) (l'.drop k) = cmpI l.length l'.length := by
  unfold cmpI
  by_cases e1 : k < l.length
  · have e2 : k = l'.length := by omega
    rw [List.drop_eq_getElem_cons e1, List.drop_eq_nil_of_le (by omega : l'.length ≤ k), cmpL, if_neg (by omega), if_pos (by omega)]
  · by_cases e2 : k < l'.length
    · rw [List.drop_eq_getElem_cons e2, List.drop_eq_nil_of_le (by omega : l.length ≤ k), cmpL, if_pos (by omega)]
    · rw [List.drop_eq_nil_of_le (by omega : l.length ≤ k), List.drop_eq_nil_of_le (by omega : l'.length ≤ k), cmpL, if_neg (by omega), if_neg (by omega)]
theorem cmpD_step {l l' : List (ByteArray × V)} {k : Nat} {x y : ByteArray × V} (hx : l[k]? = some x) (hy : l'[k]? = some y) :
    cmpD (l.drop k) (l'.drop k) = if cmpF x.1 x.2 y.1 y.2 = 0 then cmpD (l.drop (k + 1)) (l'.drop (k + 1)) else cmpF x.1 x.2 y.1 y.2 := by
  obtain ⟨h1, rfl⟩ := List.getElem?_eq_some_iff.1 hx
  obtain ⟨h2, rfl⟩ := List.getElem?_eq_some_iff.1 hy
  rw [List.drop_eq_getElem_cons h1, List.drop_eq_getElem_cons h2, cmpD]
theorem cmpD_end {l l' : List (ByteArray × V)} {k : Nat} (h1 : k ≤ l.length) (h2 : k ≤ l'.length) (h : ¬ (k < l.length ∧ k < l'.length)) : cmpD (l.drop k) (l'.drop k) = cmpI l.length l'.length := by
  unfold cmpI
  by_cases e1 : k < l.length
  · have e2 : k = l'.length := by omega
    rw [List.drop_eq_getElem_cons e1, List.drop_eq_nil_of_le (by omega : l'.length ≤ k), cmpD, if_neg (by omega), if_pos (by omega)]
  · by_cases e2 : k < l'.length
    · rw [List.drop_eq_getElem_cons e2, List.drop_eq_nil_of_le (by omega : l.length ≤ k), cmpD, if_pos (by omega)]
    · rw [List.drop_eq_nil_of_le (by omega : l.length ≤ k), List.drop_eq_nil_of_le (by omega : l'.length ≤ k), cmpD, if_neg (by omega), if_neg (by omega)]

theorem rowsL_any (la lb : Option Addr) (ca cb : Nat) (a b : List T) (w : World) (ha : InL w la a) (hb : InL w lb b) (hla : a.length ≤ 9223372036854775807) (hlb : b.length ≤ 9223372036854775807)
    (ih : ∀ x ∈ a, ∀ y ∈ b, ∀ w : World, x.In w → y.In w → Calls Tryz.prog 142 #[x.arg, y.arg] w fun e w' => e = .returned (.int .i64 (cmpV x.val y.val)) ∧ Below w.heap.size w w') :
    Calls Tryz.prog 184 #[.slice la a.length ca, .slice lb b.length cb, .func (.func 142) #[] #[]] w fun e w' => e = .returned (.int .i64 (cmpL (a.map T.val) (b.map T.val))) ∧ Below w.heap.size w w' := by
  go_enter Tryz.func184, Tryz.ntmps184
  go_wp2_with fail
  all_goals
    go_loopw [7, 8, 14] (fun s7 s8 i wr => ∃ k : Nat, k ≤ a.length ∧ k ≤ b.length ∧ i = .int .i64 k ∧ Below w.heap.size w wr ∧ cmpL (a.map T.val) (b.map T.val) = cmpL ((a.map T.val).drop k) ((b.map T.val).drop k)) (fun _ _ i _ => a.length - (intOf i).toNat)
    case atStart => exact ⟨0, by omega, by omega, rfl, Below.refl _ _, by simp⟩
    case round =>
      obtain ⟨k, hka, hkb, rfl, hbel, heq⟩ := hrel
      by_cases hlt : k < a.length ∧ k < b.length
      · obtain ⟨h1, h2⟩ := hlt
        obtain ⟨bx, ox, kx, nx, sx, lax, lcx, lx, dax, dcx, dx, rfl, hx, hix, x0, x1, x2, x3, x4⟩ := (ha.below (Nat.le_refl _) hbel).five h1
        obtain ⟨by_, oy, ky, ny, sy, lay, lcy, ly, day, dcy, dy, rfl, hy, hiy, y0, y1, y2, y3, y4⟩ := (hb.below (Nat.le_refl _) hbel).five h2
        have H := Lib.hid (ih _ (List.mem_of_getElem? hx) _ (List.mem_of_getElem? hy))
        have HH := Lib.hid (And.intro heq (cmpL_step (l := a.map T.val) (l' := b.map T.val) (k := k) (by rw [List.getElem?_map, hx]; rfl) (by rw [List.getElem?_map, hy]; rfl)))
        clear ih heq hx hy ha hb
        go_wp2_with fail
        go_still_tail 9, (by kernel_rfl)
        change wpList _ _ _ _ _ wr.drew
        go_wp2_with (go_at_call 142; refine (H.out wr.drew hix hiy).mono ?_; rintro e w' ⟨rfl, hb1⟩)
        · have hb2 : Below w.heap.size w w' := hbel.drew.trans (hb1.mono hbel.size)
          go_ret
          obtain ⟨e1, e2⟩ := HH.out
          have hne := bne_iff_ne.1 ‹(_ != _) = true›
          exact ⟨ret_int (by rw [e1, e2, if_neg hne]), hb2⟩
        · have hb2 : Below w.heap.size w w' := hbel.drew.trans (hb1.mono hbel.size)
          obtain ⟨e1, e2⟩ := HH.out
          go_roundw
          case rel => exact ⟨k + 1, by omega, by omega, by go_num, hb2, by rw [e1, e2, if_pos (bne_eq_false_iff_eq.1 ‹(_ != _) = false›)]⟩
          case measure => simp [intOf]; omega
      · have HH := Lib.hid (heq.trans (cmpL_end (by simpa using hka) (by simpa using hkb) (by simpa using hlt)))
        clear heq
        go_wp2_with (go_at_call 182; refine (cmpInt_any _ _ _).mono ?_; rintro e w' ⟨rfl, rfl⟩)
        go_ret
        exact ⟨ret_int (by rw [HH.out]; simp), hbel⟩

set_option maxHeartbeats 1000000 in
theorem rowsD_any (la lb : Option Addr) (ca cb : Nat) (a b : List (ByteArray × T)) (w : World) (ha : InD w la a) (hb : InD w lb b) (hla : a.length ≤ 9223372036854775807) (hlb : b.length ≤ 9223372036854775807)
    (ih : ∀ x ∈ a, ∀ y ∈ b, ∀ w : World, x.2.In w → y.2.In w → Calls Tryz.prog 186 #[farg x, farg y] w fun e w' => e = .returned (.int .i64 (cmpF x.1 x.2.val y.1 y.2.val)) ∧ Below w.heap.size w w') :
    Calls Tryz.prog 185 #[.slice la a.length ca, .slice lb b.length cb, .func (.func 186) #[] #[]] w fun e w' => e = .returned (.int .i64 (cmpD (a.map fun f => (f.1, f.2.val)) (b.map fun f => (f.1, f.2.val)))) ∧ Below w.heap.size w w' := by
  go_enter Tryz.func185, Tryz.ntmps185
  go_wp2_with fail
  all_goals
    go_loopw [7, 8, 14] (fun s7 s8 i wr => ∃ k : Nat, k ≤ a.length ∧ k ≤ b.length ∧ i = .int .i64 k ∧ Below w.heap.size w wr ∧ cmpD (a.map fun f => (f.1, f.2.val)) (b.map fun f => (f.1, f.2.val)) = cmpD ((a.map fun f => (f.1, f.2.val)).drop k) ((b.map fun f => (f.1, f.2.val)).drop k)) (fun _ _ i _ => a.length - (intOf i).toNat)
    case atStart => exact ⟨0, by omega, by omega, rfl, Below.refl _ _, by simp⟩
    case round =>
      obtain ⟨k, hka, hkb, rfl, hbel, heq⟩ := hrel
      by_cases hlt : k < a.length ∧ k < b.length
      · obtain ⟨h1, h2⟩ := hlt
        obtain ⟨bx, ox, fx, kx, nx, sx, lax, lcx, lx, dax, dcx, dx, rfl, hx, hix, x0, x1, x2, x3, x4, x5⟩ := (ha.below (Nat.le_refl _) hbel).six h1
        obtain ⟨by_, oy, fy, ky, ny, sy, lay, lcy, ly, day, dcy, dy, rfl, hy, hiy, y0, y1, y2, y3, y4, y5⟩ := (hb.below (Nat.le_refl _) hbel).six h2
        have H := Lib.hid (ih _ (List.mem_of_getElem? hx) _ (List.mem_of_getElem? hy))
        have HH := Lib.hid (And.intro heq (cmpD_step (l := a.map fun f => (f.1, f.2.val)) (l' := b.map fun f => (f.1, f.2.val)) (k := k) (by rw [List.getElem?_map, hx]; rfl) (by rw [List.getElem?_map, hy]; rfl)))
        clear ih heq hx hy ha hb
        go_wp2_with fail
        go_still_tail 9, (by kernel_rfl)
        change wpList _ _ _ _ _ wr.drew
        go_wp2_with (go_at_call 186; refine (H.out wr.drew hix hiy).mono ?_; rintro e w' ⟨rfl, hb1⟩)
        · have hb2 : Below w.heap.size w w' := hbel.drew.trans (hb1.mono hbel.size)
          go_ret
          obtain ⟨e1, e2⟩ := HH.out
          have hne := bne_iff_ne.1 ‹(_ != _) = true›
          exact ⟨ret_int (by rw [e1, e2, if_neg hne]), hb2⟩
        · have hb2 : Below w.heap.size w w' := hbel.drew.trans (hb1.mono hbel.size)
          obtain ⟨e1, e2⟩ := HH.out
          go_roundw
          case rel => exact ⟨k + 1, by omega, by omega, by go_num, hb2, by rw [e1, e2, if_pos (bne_eq_false_iff_eq.1 ‹(_ != _) = false›)]⟩
          case measure => simp [intOf]; omega
      · have HH := Lib.hid (heq.trans (cmpD_end (by simpa using hka) (by simpa using hkb) (by simpa using hlt)))
        clear heq
        go_wp2_with (go_at_call 182; refine (cmpInt_any _ _ _).mono ?_; rintro e w' ⟨rfl, rfl⟩)
        go_ret
        exact ⟨ret_int (by rw [HH.out]; simp), hbel⟩

theorem fields_any (f g : ByteArray × T) (w : World) (ih : ∀ w : World, f.2.In w → g.2.In w → Calls Tryz.prog 142 #[f.2.arg, g.2.arg] w fun e w' => e = .returned (.int .i64 (cmpV f.2.val g.2.val)) ∧ Below w.heap.size w w') (hf : f.2.In w) (hg : g.2.In w) :
    Calls Tryz.prog 186 #[farg f, farg g] w fun e w' => e = .returned (.int .i64 (cmpF f.1 f.2.val g.1 g.2.val)) ∧ Below w.heap.size w w' := by
  obtain ⟨fx, kx, nx, sx, lax, lcx, lx, dax, dcx, dx⟩ := f
  obtain ⟨fy, ky, ny, sy, lay, lcy, ly, day, dcy, dy⟩ := g
  have H := Lib.hid ih
  clear ih
  show Calls _ _ #[.agg #[.string fx, .int .i64 kx, .int .i64 nx, .string sx, .slice lax lx.length lcx, .slice dax dx.length dcx], .agg #[.string fy, .int .i64 ky, .int .i64 ny, .string sy, .slice lay ly.length lcy, .slice day dy.length dcy]] _ _
  by_cases h : fx.toList = fy.toList
  · have h2 : (fx.toList == fy.toList) = true := by simp [h]
    have h3 : (!(fx.toList == fy.toList)) = false := by simp [h]
    have HF : Hid (cmpF fx (T.mk kx nx sx lax lcx lx dax dcx dx).val fy (T.mk ky ny sy lay lcy ly day dcy dy).val = cmpV (T.mk kx nx sx lax lcx lx dax dcx dx).val (T.mk ky ny sy lay lcy ly day dcy dy).val) := by
      show _ = _
      rw [cmpF, if_pos h2]
    clear h h2
    go_enter Tryz.func186, Tryz.ntmps186
    go_wp2_with (go_at_call 142; refine (H.out _ (hf.then_ (below2 _ _ _)) (hg.then_ (below2 _ _ _))).mono ?_; rintro e w' ⟨rfl, hb1⟩)
    go_ret
    exact ⟨ret_int (by rw [HF.out]), below_then (below2 _ _ _) hb1⟩
  · have h2 : (fx.toList == fy.toList) = false := by simp [h]
    have h3 : (!(fx.toList == fy.toList)) = true := by simp [h]
    have HF : Hid (cmpF fx (T.mk kx nx sx lax lcx lx dax dcx dx).val fy (T.mk ky ny sy lay lcy ly day dcy dy).val = cmpS fx fy) := by
      show _ = _
      rw [cmpF, if_neg (by simp [h2])]
    clear h h2
    go_enter Tryz.func186, Tryz.ntmps186
    go_wp2_with (go_at_call 183; refine (cmpStr_any _ _ _).mono ?_; rintro e w' ⟨rfl, rfl⟩)
    go_ret
    exact ⟨ret_int (by rw [HF.out]), below2 _ _ _⟩

end Go.Proofs.YtcpbdmgkeljkgaaGreatDoor
namespace Go.Proofs.YtcpbdmgkeljkgaaGreatDoor
open Go.RowKit
set_option maxRecDepth 100000

set_option maxHeartbeats 4000000 in
theorem compare_any (a : T) : ∀ (b : T) (w : World), a.ok → b.ok → a.In w → b.In w →
    Calls Tryz.prog 142 #[a.arg, b.arg] w fun e w' => e = .returned (.int .i64 (cmpV a.val b.val)) ∧ Below w.heap.size w w' := by
  induction a using T.ind with
  | h kx nx sx lax lcx lx dax dcx dx ihl ihd =>
  intro b w oka okb ha hb
  obtain ⟨ky, ny, sy, lay, lcy, ly, day, dcy, dy⟩ := b
  show Calls _ _ #[.agg #[.int .i64 kx, .int .i64 nx, .string sx, .slice lax lx.length lcx, .slice dax dx.length dcx], .agg #[.int .i64 ky, .int .i64 ny, .string sy, .slice lay ly.length lcy, .slice day dy.length dcy]] _ _
  obtain ⟨-, -, -, -, -, ol1, ol2, od1, od2, ol3, od3⟩ := oka.parts
  obtain ⟨-, -, -, -, -, pl1, pl2, pd1, pd2, pl3, pd3⟩ := okb.parts
  have HL : ∀ w1, Below w.heap.size w w1 → Calls Tryz.prog 184 #[.slice lax lx.length lcx, .slice lay ly.length lcy, .func (.func 142) #[] #[]] w1 fun e w' => e = .returned (.int .i64 (cmpL (lx.map T.val) (ly.map T.val))) ∧ Below w1.heap.size w1 w' := fun w1 hw =>
    rowsL_any _ _ _ _ _ _ _ (ha.parts.1.then_ hw) (hb.parts.1.then_ hw) (by omega) (by omega) fun x hx y hy w hxi hyi => ihl x hx y w (ol3 x hx) (pl3 y hy) hxi hyi
  have HD : ∀ w1, Below w.heap.size w w1 → Calls Tryz.prog 185 #[.slice dax dx.length dcx, .slice day dy.length dcy, .func (.func 186) #[] #[]] w1 fun e w' => e = .returned (.int .i64 (cmpD (dx.map fun f => (f.1, f.2.val)) (dy.map fun f => (f.1, f.2.val)))) ∧ Below w1.heap.size w1 w' := fun w1 hw =>
    rowsD_any _ _ _ _ _ _ _ (ha.parts.2.then_ hw) (hb.parts.2.then_ hw) (by omega) (by omega) fun x hx y hy w hxi hyi => fields_any x y w (fun w hxi hyi => ihd x hx y.2 w (od3 x hx).2 (pd3 y hy).2 hxi hyi) hxi hyi
  replace HL := Lib.hid HL
  replace HD := Lib.hid HD
  have HV := Lib.hid (show cmpV (T.mk kx nx sx lax lcx lx dax dcx dx).val (T.mk ky ny sy lay lcy ly day dcy dy).val = _ by rw [T.val_mk, T.val_mk, cmpV])
  clear ihl ihd ha hb ol3 od3 pl3 pd3
  by_cases hk : kx = ky
  · subst hk
    by_cases k3 : kx = 3
    · subst k3
      go_enter Tryz.func142, Tryz.ntmps142
      go_wp2_with (go_at_call 182; refine (cmpInt_any _ _ _).mono ?_; rintro e w' ⟨rfl, rfl⟩)
      go_ret
      exact ⟨ret_int (by rw [HV.out]; simp), below2 _ _ _⟩
    by_cases k9 : kx = 9
    · subst k9
      go_enter Tryz.func142, Tryz.ntmps142
      go_wp2_with (go_at_call 182; refine (cmpInt_any _ _ _).mono ?_; rintro e w' ⟨rfl, rfl⟩)
      go_ret
      exact ⟨ret_int (by rw [HV.out]; simp), below2 _ _ _⟩
    by_cases k10 : kx = 10
    · subst k10
      go_enter Tryz.func142, Tryz.ntmps142
      go_wp2_with (go_at_call 182; refine (cmpInt_any _ _ _).mono ?_; rintro e w' ⟨rfl, rfl⟩)
      go_ret
      exact ⟨ret_int (by rw [HV.out]; simp), below2 _ _ _⟩
    by_cases k4 : kx = 4
    · subst k4
      go_enter Tryz.func142, Tryz.ntmps142
      go_wp2_with (go_at_call 183; refine (cmpStr_any _ _ _).mono ?_; rintro e w' ⟨rfl, rfl⟩)
      go_ret
      exact ⟨ret_int (by rw [HV.out]; simp), below2 _ _ _⟩
    by_cases k7 : kx = 7
    · subst k7
      go_enter Tryz.func142, Tryz.ntmps142
      go_wp2_with (go_at_call 183; refine (cmpStr_any _ _ _).mono ?_; rintro e w' ⟨rfl, rfl⟩)
      go_ret
      exact ⟨ret_int (by rw [HV.out]; simp), below2 _ _ _⟩
    by_cases k8 : kx = 8
    · subst k8
      go_enter Tryz.func142, Tryz.ntmps142
      go_wp2_with (go_at_call 183; refine (cmpStr_any _ _ _).mono ?_; rintro e w' ⟨rfl, rfl⟩)
      go_ret
      exact ⟨ret_int (by rw [HV.out]; simp), below2 _ _ _⟩
    by_cases k6 : kx = 6
    · subst k6
      go_enter Tryz.func142, Tryz.ntmps142
      go_wp2_with (go_at_call 184; refine (HL.out _ (below2 _ _ _)).mono ?_; rintro e w' ⟨rfl, hb1⟩)
      go_ret
      exact ⟨ret_int (by rw [HV.out]; simp), below_then (below2 _ _ _) hb1⟩
    by_cases k5 : kx = 5
    · subst k5
      go_enter Tryz.func142, Tryz.ntmps142
      go_wp2_with (go_at_call 185; refine (HD.out _ (below2 _ _ _)).mono ?_; rintro e w' ⟨rfl, hb1⟩)
      go_ret
      exact ⟨ret_int (by rw [HV.out]; simp), below_then (below2 _ _ _) hb1⟩
    have hz : cmpV (T.mk kx nx sx lax lcx lx dax dcx dx).val (T.mk kx ny sy lay lcy ly day dcy dy).val = 0 := by rw [HV.out]; simp [k3, k4, k5, k6, k7, k8, k9, k10]
    replace hz := Lib.hid hz
    have b3 : ((kx : Int) == 3) = false := by simp [k3]
    have b4 : ((kx : Int) == 4) = false := by simp [k4]
    have b5 : ((kx : Int) == 5) = false := by simp [k5]
    have b6 : ((kx : Int) == 6) = false := by simp [k6]
    have b7 : ((kx : Int) == 7) = false := by simp [k7]
    have b8 : ((kx : Int) == 8) = false := by simp [k8]
    have b9 : ((kx : Int) == 9) = false := by simp [k9]
    have b10 : ((kx : Int) == 10) = false := by simp [k10]
    clear k3 k4 k5 k6 k7 k8 k9 k10
    go_enter Tryz.func142, Tryz.ntmps142
    go_wp2_with fail
    go_ret
    exact ⟨ret_int (by rw [hz.out]), below2 _ _ _⟩
  · have hn : ((kx : Int) != ky) = true := by simp [hk]
    go_enter Tryz.func142, Tryz.ntmps142
    go_wp2_with (go_at_call 182; refine (cmpInt_any _ _ _).mono ?_; rintro e w' ⟨rfl, rfl⟩)
    go_ret
    exact ⟨ret_int (by rw [HV.out]; simp [hk]), below2 _ _ _⟩
end Go.Proofs.YtcpbdmgkeljkgaaGreatDoor
