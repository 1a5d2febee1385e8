/- The contracts of Compare and of what it calls: no statement is proved here. -/
import Derived.Test.YtdlgngnibbaamaaDoorTree
namespace Go.Proofs.YtdlgngnibbaamaaDoor
open Go.RowKit
set_option maxRecDepth 100000

/-- -1, 0 or 1 of two numbers. -/
def cmpI (a b : Int) : Int := if a < b then -1 else if b < a then 1 else 0

theorem cmpInt_any (a b : Int) (w : World) : Calls Tryd.prog 55 #[.int .i64 a, .int .i64 b] w fun e w' => e = .returned (.int .i64 (cmpI a b)) ∧ w = w' := by
  unfold cmpI
  by_cases h : a < b
  · go_enter Tryd.func55, Tryd.ntmps55
    go_wp2
    go_ret
    simp
  · by_cases h2 : b < a
    · go_enter Tryd.func55, Tryd.ntmps55
      go_wp2
      go_ret
      exact ⟨by simp, rfl⟩
    · go_enter Tryd.func55, Tryd.ntmps55
      go_wp2
      go_ret
      exact ⟨by simp, rfl⟩

def ltS (a b : ByteArray) : Bool := Op.bytesLess a.toList b.toList
def cmpS (a b : ByteArray) : Int := if ltS a b then -1 else if a.toList == b.toList then 0 else 1
theorem cmpStr_any (a b : ByteArray) (w : World) : Calls Tryd.prog 56 #[.string a, .string b] w fun e w' => e = .returned (.int .i64 (cmpS a b)) ∧ w = w' := by
  unfold cmpS ltS
  go_enter Tryd.func56, Tryd.ntmps56
  go_wp2
  all_goals (go_ret; exact ⟨by simp_all, rfl⟩)

mutual
/-- Compare. -/
def cmpV : V → V → Int
  | .mk k n s l d, .mk k' n' s' l' d' =>
    if k ≠ k' then cmpI k k' else
    if k = 3 ∨ k = 9 ∨ k = 10 then cmpI n n' else
    if k = 4 ∨ k = 7 ∨ k = 8 then cmpS s s' else
    if k = 6 then cmpL l l' else
    if k = 5 then cmpD d d' else 0
def cmpL : List V → List V → Int
  | [], [] => 0
  | [], _ :: _ => -1
  | _ :: _, [] => 1
  | x :: r, y :: r' => if cmpV x y = 0 then cmpL r r' else cmpV x y
def cmpD : List (ByteArray × V) → List (ByteArray × V) → Int
  | [], [] => 0
  | [], _ :: _ => -1
  | _ :: _, [] => 1
  | (s, x) :: r, (s', y) :: r' => if cmpF s x s' y = 0 then cmpD r r' else cmpF s x s' y
def cmpF (s : ByteArray) : V → ByteArray → V → Int
  | x, s', y => if s.toList == s'.toList then cmpV x y else cmpS s s'
end

theorem cmpL_step {l l' : List V} {k : Nat} {x y : V} (hx : l[k]? = some x) (hy : l'[k]? = some y) :
    cmpL (l.drop k) (l'.drop k) = if cmpV x y = 0 then cmpL (l.drop (k + 1)) (l'.drop (k + 1)) else cmpV x y := by
  obtain ⟨h1, rfl⟩ := List.getElem?_eq_some_iff.1 hx
  obtain ⟨h2, rfl⟩ := List.getElem?_eq_some_iff.1 hy
  rw [List.drop_eq_getElem_cons h1, List.drop_eq_getElem_cons h2, cmpL]
theorem cmpL_end {l l' : List V} {k : Nat} (h1 : k ≤ l.length) (h2 : k ≤ l'.length) (h : ¬ (k < l.length ∧ k < l'.length)) : cmpL (l.drop k) (l'.drop k) = cmpI l.length l'.length := by
  unfold cmpI
  by_cases e1 : k < l.length
  · have e2 : k = l'.length := by omega
    rw [List.drop_eq_getElem_cons e1, List.drop_eq_nil_of_le (by omega : l'.length ≤ k), cmpL, if_neg (by omega), if_pos (by omega)]
  · by_cases e2 : k < l'.length
    · rw [List.drop_eq_getElem_cons e2, List.drop_eq_nil_of_le (by omega : l.length ≤ k), cmpL, if_pos (by omega)]
    · rw [List.drop_eq_nil_of_le (by omega : l.length ≤ k), List.drop_eq_nil_of_le (by omega : l'.length ≤ k), cmpL, if_neg (by omega), if_neg (by omega)]
theorem cmpD_step {l l' : List (ByteArray × V)} {k : Nat} {x y : ByteArray × V} (hx : l[k]? = some x) (hy : l'[k]? = some y) :
    cmpD (l.drop k) (l'.drop k) = if cmpF x.1 x.2 y.1 y.2 = 0 then cmpD (l.drop (k + 1)) (l'.drop (k + 1)) else cmpF x.1 x.2 y.1 y.2 := by
  obtain ⟨h1, rfl⟩ := List.getElem?_eq_some_iff.1 hx
  obtain ⟨h2, rfl⟩ := List.getElem?_eq_some_iff.1 hy
  rw [List.drop_eq_getElem_cons h1, List.drop_eq_getElem_cons h2, cmpD]
theorem cmpD_end {l l' : List (ByteArray × V)} {k : Nat} (h1 : k ≤ l.length) (h2 : k ≤ l'.length) (h : ¬ (k < l.length ∧ k < l'.length)) : cmpD (l.drop k) (l'.drop k) = cmpI l.length l'.length := by
  unfold cmpI
  by_cases e1 : k < l.length
  · have e2 : k = l'.length := by omega
    rw [List.drop_eq_getElem_cons e1, List.drop_eq_nil_of_le (by omega : l'.length ≤ k), cmpD, if_neg (by omega), if_pos (by omega)]
  · by_cases e2 : k < l'.length
    · rw [List.drop_eq_getElem_cons e2, List.drop_eq_nil_of_le (by omega : l.length ≤ k), cmpD, if_pos (by omega)]
    · rw [List.drop_eq_nil_of_le (by omega : l.length ≤ k), List.drop_eq_nil_of_le (by omega : l'.length ≤ k), cmpD, if_neg (by omega), if_neg (by omega)]

theorem rowsL_any (la lb : Option Addr) (ca cb : Nat) (a b : List T) (w : World) (ha : InL w la a) (hb : InL w lb b) (hla : a.length ≤ 9223372036854775807) (hlb : b.length ≤ 9223372036854775807)
    (ih : ∀ x ∈ a, ∀ y ∈ b, ∀ w : World, x.In w → y.In w → Calls Tryd.prog 38 #[x.arg, y.arg] w fun e w' => e = .returned (.int .i64 (cmpV x.val y.val)) ∧ Below w.heap.size w w') :
    Calls Tryd.prog 57 #[.slice la a.length ca, .slice lb b.length cb, .func (.func 38) #[] #[]] w fun e w' => e = .returned (.int .i64 (cmpL (a.map T.val) (b.map T.val))) ∧ Below w.heap.size w w' := by
  go_enter Tryd.func57, Tryd.ntmps57
  go_wp2_with fail
  all_goals
    go_loopw [7, 8, 14] (fun s7 s8 i wr => ∃ k : Nat, k ≤ a.length ∧ k ≤ b.length ∧ i = .int .i64 k ∧ Below w.heap.size w wr ∧ cmpL (a.map T.val) (b.map T.val) = cmpL ((a.map T.val).drop k) ((b.map T.val).drop k)) (fun _ _ i _ => a.length - (intOf i).toNat)
    case atStart => exact ⟨0, by omega, by omega, rfl, Below.refl _ _, by simp⟩
    case round =>
      obtain ⟨k, hka, hkb, rfl, hbel, heq⟩ := hrel
      by_cases hlt : k < a.length ∧ k < b.length
      · obtain ⟨h1, h2⟩ := hlt
        obtain ⟨bx, ox, kx, nx, sx, lax, lcx, lx, dax, dcx, dx, rfl, hx, hix, x0, x1, x2, x3, x4⟩ := (ha.below (Nat.le_refl _) hbel).five h1
        obtain ⟨by_, oy, ky, ny, sy, lay, lcy, ly, day, dcy, dy, rfl, hy, hiy, y0, y1, y2, y3, y4⟩ := (hb.below (Nat.le_refl _) hbel).five h2
        have H := Lib.hid (ih _ (List.mem_of_getElem? hx) _ (List.mem_of_getElem? hy))
        have HH := Lib.hid (And.intro heq (cmpL_step (l := a.map T.val) (l' := b.map T.val) (k := k) (by rw [List.getElem?_map, hx]; rfl) (by rw [List.getElem?_map, hy]; rfl)))
        clear ih heq hx hy ha hb
        go_wp2_with fail
        go_still_tail 9, (by kernel_rfl)
        change wpList _ _ _ _ _ wr.drew
        go_wp2_with (go_at_call 38; refine (H.out wr.drew hix hiy).mono ?_; rintro e w' ⟨rfl, hb1⟩)
        · have hb2 : Below w.heap.size w w' := hbel.drew.trans (hb1.mono hbel.size)
          go_ret
          obtain ⟨e1, e2⟩ := HH.out
          have hne := bne_iff_ne.1 ‹(_ != _) = true›
          exact ⟨ret_int (by rw [e1, e2, if_neg hne]), hb2⟩
        · have hb2 : Below w.heap.size w w' := hbel.drew.trans (hb1.mono hbel.size)
          obtain ⟨e1, e2⟩ := HH.out
          go_roundw
          case rel => exact ⟨k + 1, by omega, by omega, by go_num, hb2, by rw [e1, e2, if_pos (bne_eq_false_iff_eq.1 ‹(_ != _) = false›)]⟩
          case measure => simp [intOf]; omega
      · have HH := Lib.hid (heq.trans (cmpL_end (by simpa using hka) (by simpa using hkb) (by simpa using hlt)))
        clear heq
        go_wp2_with (go_at_call 55; refine (cmpInt_any _ _ _).mono ?_; rintro e w' ⟨rfl, rfl⟩)
        go_ret
        exact ⟨ret_int (by rw [HH.out]; simp), hbel⟩

set_option maxHeartbeats 1000000 in
theorem rowsD_any (la lb : Option Addr) (ca cb : Nat) (a b : List (ByteArray × T)) (w : World) (ha : InD w la a) (hb : InD w lb b) (hla : a.length ≤ 9223372036854775807) (hlb : b.length ≤ 9223372036854775807)
    (ih : ∀ x ∈ a, ∀ y ∈ b, ∀ w : World, x.2.In w → y.2.In w → Calls Tryd.prog 59 #[farg x, farg y] w fun e w' => e = .returned (.int .i64 (cmpF x.1 x.2.val y.1 y.2.val)) ∧ Below w.heap.size w w') :
    Calls Tryd.prog 58 #[.slice la a.length ca, .slice lb b.length cb, .func (.func 59) #[] #[]] w fun e w' => e = .returned (.int .i64 (cmpD (a.map fun f => (f.1, f.2.val)) (b.map fun f => (f.1, f.2.val)))) ∧ Below w.heap.size w w' := by
  go_enter Tryd.func58, Tryd.ntmps58
  go_wp2_with fail
  all_goals
    go_loopw [7, 8, 14] (fun s7 s8 i wr => ∃ k : Nat, k ≤ a.length ∧ k ≤ b.length ∧ i = .int .i64 k ∧ Below w.heap.size w wr ∧ cmpD (a.map fun f => (f.1, f.2.val)) (b.map fun f => (f.1, f.2.val)) = cmpD ((a.map fun f => (f.1, f.2.val)).drop k) ((b.map fun f => (f.1, f.2.val)).drop k)) (fun _ _ i _ => a.length - (intOf i).toNat)
    case atStart => exact ⟨0, by omega, by omega, rfl, Below.refl _ _, by simp⟩
    case round =>
      obtain ⟨k, hka, hkb, rfl, hbel, heq⟩ := hrel
      by_cases hlt : k < a.length ∧ k < b.length
      · obtain ⟨h1, h2⟩ := hlt
        obtain ⟨bx, ox, fx, kx, nx, sx, lax, lcx, lx, dax, dcx, dx, rfl, hx, hix, x0, x1, x2, x3, x4, x5⟩ := (ha.below (Nat.le_refl _) hbel).six h1
        obtain ⟨by_, oy, fy, ky, ny, sy, lay, lcy, ly, day, dcy, dy, rfl, hy, hiy, y0, y1, y2, y3, y4, y5⟩ := (hb.below (Nat.le_refl _) hbel).six h2
        have H := Lib.hid (ih _ (List.mem_of_getElem? hx) _ (List.mem_of_getElem? hy))
        have HH := Lib.hid (And.intro heq (cmpD_step (l := a.map fun f => (f.1, f.2.val)) (l' := b.map fun f => (f.1, f.2.val)) (k := k) (by rw [List.getElem?_map, hx]; rfl) (by rw [List.getElem?_map, hy]; rfl)))
        clear ih heq hx hy ha hb
        go_wp2_with fail
        go_still_tail 9, (by kernel_rfl)
        change wpList _ _ _ _ _ wr.drew
        go_wp2_with (go_at_call 59; refine (H.out wr.drew hix hiy).mono ?_; rintro e w' ⟨rfl, hb1⟩)
        · have hb2 : Below w.heap.size w w' := hbel.drew.trans (hb1.mono hbel.size)
          go_ret
          obtain ⟨e1, e2⟩ := HH.out
          have hne := bne_iff_ne.1 ‹(_ != _) = true›
          exact ⟨ret_int (by rw [e1, e2, if_neg hne]), hb2⟩
        · have hb2 : Below w.heap.size w w' := hbel.drew.trans (hb1.mono hbel.size)
          obtain ⟨e1, e2⟩ := HH.out
          go_roundw
          case rel => exact ⟨k + 1, by omega, by omega, by go_num, hb2, by rw [e1, e2, if_pos (bne_eq_false_iff_eq.1 ‹(_ != _) = false›)]⟩
          case measure => simp [intOf]; omega
      · have HH := Lib.hid (heq.trans (cmpD_end (by simpa using hka) (by simpa using hkb) (by simpa using hlt)))
        clear heq
        go_wp2_with (go_at_call 55; refine (cmpInt_any _ _ _).mono ?_; rintro e w' ⟨rfl, rfl⟩)
        go_ret
        exact ⟨ret_int (by rw [HH.out]; simp), hbel⟩

theorem fields_any (f g : ByteArray × T) (w : World) (ih : ∀ w : World, f.2.In w → g.2.In w → Calls Tryd.prog 38 #[f.2.arg, g.2.arg] w fun e w' => e = .returned (.int .i64 (cmpV f.2.val g.2.val)) ∧ Below w.heap.size w w') (hf : f.2.In w) (hg : g.2.In w) :
    Calls Tryd.prog 59 #[farg f, farg g] w fun e w' => e = .returned (.int .i64 (cmpF f.1 f.2.val g.1 g.2.val)) ∧ Below w.heap.size w w' := by
  obtain ⟨fx, kx, nx, sx, lax, lcx, lx, dax, dcx, dx⟩ := f
  obtain ⟨fy, ky, ny, sy, lay, lcy, ly, day, dcy, dy⟩ := g
  have H := Lib.hid ih
  clear ih
  show Calls _ _ #[.agg #[.string fx, .int .i64 kx, .int .i64 nx, .string sx, .slice lax lx.length lcx, .slice dax dx.length dcx], .agg #[.string fy, .int .i64 ky, .int .i64 ny, .string sy, .slice lay ly.length lcy, .slice day dy.length dcy]] _ _
  by_cases h : fx.toList = fy.toList
  · have h2 : (fx.toList == fy.toList) = true := by simp [h]
    have h3 : (!(fx.toList == fy.toList)) = false := by simp [h]
    have HF : Hid (cmpF fx (T.mk kx nx sx lax lcx lx dax dcx dx).val fy (T.mk ky ny sy lay lcy ly day dcy dy).val = cmpV (T.mk kx nx sx lax lcx lx dax dcx dx).val (T.mk ky ny sy lay lcy ly day dcy dy).val) := by
      show _ = _
      rw [cmpF, if_pos h2]
    clear h h2
    go_enter Tryd.func59, Tryd.ntmps59
    go_wp2_with (go_at_call 38; refine (H.out _ (hf.then_ (below2 _ _ _)) (hg.then_ (below2 _ _ _))).mono ?_; rintro e w' ⟨rfl, hb1⟩)
    go_ret
    exact ⟨ret_int (by rw [HF.out]), below_then (below2 _ _ _) hb1⟩
  · have h2 : (fx.toList == fy.toList) = false := by simp [h]
    have h3 : (!(fx.toList == fy.toList)) = true := by simp [h]
    have HF : Hid (cmpF fx (T.mk kx nx sx lax lcx lx dax dcx dx).val fy (T.mk ky ny sy lay lcy ly day dcy dy).val = cmpS fx fy) := by
      show _ = _
      rw [cmpF, if_neg (by simp [h2])]
    clear h h2
    go_enter Tryd.func59, Tryd.ntmps59
    go_wp2_with (go_at_call 56; refine (cmpStr_any _ _ _).mono ?_; rintro e w' ⟨rfl, rfl⟩)
    go_ret
    exact ⟨ret_int (by rw [HF.out]), below2 _ _ _⟩

end Go.Proofs.YtdlgngnibbaamaaDoor
