/- The contracts of Size and of what it calls: no statement is proved here. -/
import Derived.Test.YtcpbdmgkeljkgaaGreatDoorTree
namespace Go.Proofs.YtcpbdmgkeljkgaaGreatDoor
open Go.RowKit
set_option maxRecDepth 100000

/-- How many digits a number has. -/
def digN (n : Nat) : Nat := if n < 10 then 1 else digN (n / 10) + 1
termination_by n
decreasing_by omega
theorem digN_pos (n : Nat) : 1 ≤ digN n := by unfold digN; split <;> omega
theorem digN_le (n : Nat) : digN n ≤ n + 1 := by
  induction n using Nat.strongRecOn with
  | ind n ih =>
    unfold digN
    split
    · omega
    · have := ih (n / 10) (by omega); omega
theorem digN_small (k : Nat) : ∀ n : Nat, n < 10 ^ (k + 1) → digN n ≤ k + 1 := by
  induction k with
  | zero => intro n h; unfold digN; rw [if_pos (by simpa using h)]; omega
  | succ k ih =>
    intro n h
    unfold digN
    split
    · omega
    · have := ih (n / 10) (by rw [Nat.pow_succ] at h; omega); omega

theorem digits_any (n : Nat) (hn : n ≤ 140737488351232) (w : World) : Calls Tryz.prog 50 #[.int .i64 n] w fun e w' => e = .returned (.int .i64 (digN n)) ∧ w = w' := by
  go_enter Tryz.func50, Tryz.ntmps50
  go_wp2_with fail
  go_loop [0, 3] (fun i q => ∃ m c : Nat, m ≤ 140737488351232 ∧ i = .int .i64 m ∧ q = .int .i64 c ∧ c + digN m = digN n + 1) (fun i _ => (intOf i).toNat)
  case atStart => exact ⟨n, 1, hn, rfl, rfl, by omega⟩
  case round =>
    obtain ⟨m, c, hm, rfl, rfl, hrel⟩ := hrel
    have hc : c ≤ 140737488351234 := by have := digN_pos m; have := digN_le n; omega
    have HR := Lib.hid hrel
    clear hrel
    by_cases h : 10 ≤ m
    · go_wp2_with fail
      go_round
      case rel => exact ⟨m / 10, c + 1, by omega, by go_num, by go_num, by have := HR.out; rw [digN, if_neg (by omega)] at this; omega⟩
      case measure => simp [intOf]; omega
    · go_wp2_with fail
      go_ret
      exact ⟨ret_int (by have := HR.out; rw [digN, if_pos (by omega)] at this; omega), rfl⟩

mutual
/-- n and the bytes of a value, as the program counts them: no further where that is above 65536. -/
def szFrom (n : Int) : V → Int
  | .mk k _ s l d =>
    if k = 3 ∨ k = 10 then n + 8 else
    if k = 4 ∨ k = 7 then n + 5 + s.size else
    if k = 8 then n + 12 else
    if k = 9 then n + 1 else
    if k = 5 then szD (n + 5) d else
    if k = 6 then szL (n + 5) 0 l else n
def szL (n : Int) (i : Nat) : List V → Int
  | [] => n
  | x :: r => if 65536 < n then n else szL (szFrom (n + 2 + digN i) x) (i + 1) r
def szD (n : Int) : List (ByteArray × V) → Int
  | [] => n
  | (s, x) :: r => if 65536 < n then n else szD (szFrom (n + 2 + s.size) x) r
end

theorem szL_big {n : Int} (h : 65536 < n) (i : Nat) (l : List V) : szL n i l = n := by cases l <;> simp [szL, h]
theorem szD_big {n : Int} (h : 65536 < n) (l : List (ByteArray × V)) : szD n l = n := by cases l <;> simp [szD, h]
theorem szL_step {n : Int} (h : ¬ 65536 < n) {l : List V} {k : Nat} {x : V} (hx : l[k]? = some x) : szL n k (l.drop k) = szL (szFrom (n + 2 + digN k) x) (k + 1) (l.drop (k + 1)) := by
  obtain ⟨h1, rfl⟩ := List.getElem?_eq_some_iff.1 hx
  rw [List.drop_eq_getElem_cons h1, szL, if_neg h]
theorem szD_step {n : Int} (h : ¬ 65536 < n) {l : List (ByteArray × V)} {k : Nat} {x : ByteArray × V} (hx : l[k]? = some x) : szD n (l.drop k) = szD (szFrom (n + 2 + x.1.size) x.2) (l.drop (k + 1)) := by
  obtain ⟨h1, rfl⟩ := List.getElem?_eq_some_iff.1 hx
  rw [List.drop_eq_getElem_cons h1, szD, if_neg h]
theorem szL_done {n : Int} {k : Nat} {l : List V} (h : l.length ≤ k) : szL n k (l.drop k) = n := by rw [List.drop_eq_nil_of_le h, szL]
theorem szD_done {n : Int} {k : Nat} {l : List (ByteArray × V)} (h : l.length ≤ k) : szD n (l.drop k) = n := by rw [List.drop_eq_nil_of_le h, szD]

/-- How far the count may come. -/
def far : Int := 281474976800000
theorem szL_le {l : List V} (ih : ∀ x ∈ l, ∀ n : Int, 0 ≤ n → n ≤ 140737488420900 → n ≤ szFrom n x ∧ szFrom n x ≤ far) : ∀ (i : Nat) (n : Int), 0 ≤ n → n ≤ far → i + l.length ≤ 140737488351232 → n ≤ szL n i l ∧ szL n i l ≤ far := by
  induction l with
  | nil => intro i n h0 h _; exact ⟨by rw [szL]; omega, by rw [szL]; omega⟩
  | cons x r ihr =>
    intro i n h0 h hi
    rw [szL]
    split
    · exact ⟨by omega, h⟩
    · have hd : (digN i : Int) ≤ 15 := by
        have := digN_small 14 i (by simp at hi ⊢; omega)
        omega
      simp at hi
      obtain ⟨g1, g2⟩ := ih x (by simp) (n + 2 + digN i) (by omega) (by omega)
      obtain ⟨g3, g4⟩ := ihr (fun y hy => ih y (by simp [hy])) (i + 1) _ (by omega) g2 (by omega)
      exact ⟨by omega, g4⟩
theorem szD_le {l : List (ByteArray × V)} (hs : ∀ f ∈ l, f.1.size ≤ 140737488351232) (ih : ∀ f ∈ l, ∀ n : Int, 0 ≤ n → n ≤ 140737488420900 → n ≤ szFrom n f.2 ∧ szFrom n f.2 ≤ far) : ∀ (n : Int), 0 ≤ n → n ≤ far → n ≤ szD n l ∧ szD n l ≤ far := by
  induction l with
  | nil => intro n h0 h; exact ⟨by rw [szD]; omega, by rw [szD]; omega⟩
  | cons x r ihr =>
    intro n h0 h
    obtain ⟨s, x⟩ := x
    rw [szD]
    split
    · exact ⟨by omega, h⟩
    · have h1 := hs (s, x) (by simp)
      simp only at h1
      obtain ⟨g1, g2⟩ := ih (s, x) (by simp) (n + 2 + s.size) (by omega) (by omega)
      simp only at g1 g2
      obtain ⟨g3, g4⟩ := ihr (fun f hf => hs f (by simp [hf])) (fun y hy => ih y (by simp [hy])) _ (by omega) g2
      exact ⟨by omega, g4⟩
theorem szFrom_le (t : T) : t.ok → ∀ n : Int, 0 ≤ n → n ≤ 140737488420900 → n ≤ szFrom n t.val ∧ szFrom n t.val ≤ far := by
  induction t using T.ind with
  | h k m s la lc l da dc d ihl ihd =>
  intro ok n h0 hn
  obtain ⟨-, -, -, -, hs, hl1, hl2, hd1, hd2, okl, okd⟩ := ok.parts
  rw [T.val_mk, szFrom]
  unfold far at *
  split; · omega
  split; · omega
  split; · omega
  split; · omega
  split
  · have := szD_le (l := d.map fun f => (f.1, f.2.val)) (by intro f hf; obtain ⟨g, hg, rfl⟩ := List.mem_map.1 hf; exact (okd g hg).1) (by intro f hf; obtain ⟨g, hg, rfl⟩ := List.mem_map.1 hf; exact ihd g hg (okd g hg).2) (n + 5) (by omega) (by unfold far; omega)
    unfold far at this
    omega
  split
  · have := szL_le (l := l.map T.val) (by intro x hx; obtain ⟨y, hy, rfl⟩ := List.mem_map.1 hx; exact ihl y hy (okl y hy)) 0 (n + 5) (by omega) (by unfold far; omega) (by simp; omega)
    unfold far at this
    omega
  · omega

/-- What a recursion over values needs of its own contract. -/
def SizeAt (t : T) : Prop := ∀ (n : Int) (w : World), 0 ≤ n → n ≤ 140737488420900 → t.In w →
    Calls Tryz.prog 27 #[.int .i64 n, t.arg] w fun e w' => e = .returned (.int .i64 (szFrom n t.val)) ∧ Below w.heap.size w w'

set_option maxHeartbeats 1000000 in
theorem elementsFrom_any (la : Option Addr) (ca : Nat) (l : List T) (n : Int) (w : World) (h0 : 0 ≤ n) (hn : n ≤ 140737488420910) (ha : InL w la l) (hl : l.length ≤ 1759218604390) (hok : ∀ x ∈ l, x.ok) (ih : ∀ x ∈ l, SizeAt x) :
    Calls Tryz.prog 38 #[.int .i64 n, .slice la l.length ca] w fun e w' => e = .returned (.int .i64 (szL n 0 (l.map T.val))) ∧ Below w.heap.size w w' := by
  go_enter Tryz.func38, Tryz.ntmps38
  go_wp2_with fail
  go_loopw [0, 5, 6, 9] (fun s0 _ _ i wr => ∃ (k : Nat) (m : Int), k ≤ l.length ∧ 0 ≤ m ∧ m ≤ far ∧ i = .int .i64 k ∧ s0 = .int .i64 m ∧ Below w.heap.size w wr ∧ szL n 0 (l.map T.val) = szL m k ((l.map T.val).drop k)) (fun _ _ _ i _ => l.length - (intOf i).toNat)
  case atStart => exact ⟨0, n, by omega, h0, by unfold far; omega, rfl, rfl, Below.refl _ _, by simp⟩
  case round =>
    obtain ⟨k, m, hk, hm0, hm, rfl, rfl, hbel, heq⟩ := hrel
    have hm2 : m ≤ 281474976800000 := hm
    have HH := Lib.hid heq
    clear heq hm
    by_cases h1 : k < l.length
    · obtain ⟨b, o, kx, nx, sx, lax, lcx, lx, dax, dcx, dx, rfl, hx, hix, x0, x1, x2, x3, x4⟩ := (ha.then_ hbel).five h1
      have hx2 : (l.map T.val)[k]? = some (T.mk kx nx sx lax lcx lx dax dcx dx).val := by rw [List.getElem?_map, hx]; rfl
      by_cases hbig : 65536 < m
      · go_wp2_with fail
        go_ret
        exact ⟨ret_int (by rw [HH.out, szL_big hbig]), below_then hbel (below1 _ _)⟩
      · have hdd := digN_small 14 k (by simp; omega)
        have hd1 := digN_pos k
        have HD := fun w => (digits_any k (by omega) w).mono (fun e w' h => (⟨h.1, h.2.symm⟩ : e = .returned (.int .i64 (digN k)) ∧ w' = w))
        replace HD := Lib.hid HD
        have H := Lib.hid (ih _ (List.mem_of_getElem? hx))
        have HS := Lib.hid (szFrom_le _ (hok _ (List.mem_of_getElem? hx)) (m + 2 + digN k) (by omega) (by omega))
        have HT := Lib.hid (szL_step (n := m) (by omega) hx2)
        have W1 := Lib.hid (IntWalk.i64_in (m + 2) (by omega))
        have W2 := Lib.hid (IntWalk.i64_in (m + 2 + digN k) (by omega))
        clear hx hx2 ih hok ha
        go_wp2_with fail
        refine wp_region_still_tail 6 (by kernel_rfl) (by kernel_rfl) ?_
        change wpStill _ _ (wr.alloc _).drew (fun a' => wpList _ _ _ _ a' (wr.alloc _).drew) _ _
        simp only [List.take_succ_cons, List.take_zero, List.drop_succ_cons, List.drop_zero]
        still_step
        still_step
        still_step
        still_call (HD.out _)
        still_step
        still_step
        refine wpStill_nil ?_
        simp only [W1.out, W2.out]
        go_wp2_with (go_at_call 27; refine (H.out _ _ (by omega) (by omega) (by exact (hix.then_ (below1 _ _)).drew')).mono ?_; rintro e w' ⟨rfl, hb1⟩)
        have hb2 : Below w.heap.size w w' := below_then (below_then hbel (below1 _ _)).drew hb1
        obtain ⟨g1, g2⟩ := HS.out
        go_roundw
        case rel => exact ⟨k + 1, _, by omega, by omega, g2, by go_num, rfl, hb2, HH.out.trans HT.out⟩
        case measure => simp [intOf]; omega

    · go_wp2_with fail
      go_ret
      exact ⟨ret_int (by rw [HH.out, szL_done (by simp; omega)]), hbel⟩

set_option maxHeartbeats 1000000 in
theorem fieldsFrom_any (la : Option Addr) (ca : Nat) (l : List (ByteArray × T)) (n : Int) (w : World) (h0 : 0 ≤ n) (hn : n ≤ 140737488420910) (ha : InD w la l) (hl : l.length ≤ 1759218604390) (hok : ∀ f ∈ l, okLen f.1.size ∧ f.2.ok) (ih : ∀ x ∈ l, SizeAt x.2) :
    Calls Tryz.prog 37 #[.int .i64 n, .slice la l.length ca] w fun e w' => e = .returned (.int .i64 (szD n (l.map fun f => (f.1, f.2.val)))) ∧ Below w.heap.size w w' := by
  go_enter Tryz.func37, Tryz.ntmps37
  go_wp2_with fail
  go_loopw [0, 6, 9] (fun s0 _ i wr => ∃ (k : Nat) (m : Int), k ≤ l.length ∧ 0 ≤ m ∧ m ≤ far ∧ i = .int .i64 k ∧ s0 = .int .i64 m ∧ Below w.heap.size w wr ∧ szD n (l.map fun f => (f.1, f.2.val)) = szD m ((l.map fun f => (f.1, f.2.val)).drop k)) (fun _ _ i _ => l.length - (intOf i).toNat)
  case atStart => exact ⟨0, n, by omega, h0, by unfold far; omega, rfl, rfl, Below.refl _ _, by simp⟩
  case round =>
    obtain ⟨k, m, hk, hm0, hm, rfl, rfl, hbel, heq⟩ := hrel
    have hm2 : m ≤ 281474976800000 := hm
    have HH := Lib.hid heq
    clear heq hm
    by_cases h1 : k < l.length
    · obtain ⟨b, o, f, kx, nx, sx, lax, lcx, lx, dax, dcx, dx, rfl, hx, hix, x0, x1, x2, x3, x4, x5⟩ := (ha.then_ hbel).six h1
      have hx2 : (l.map fun f => (f.1, f.2.val))[k]? = some (f, (T.mk kx nx sx lax lcx lx dax dcx dx).val) := by rw [List.getElem?_map, hx]; rfl
      by_cases hbig : 65536 < m
      · go_wp2_with fail
        go_ret
        exact ⟨ret_int (by rw [HH.out, szD_big hbig]), below_then hbel (below1 _ _)⟩
      · have hfs : f.size ≤ 140737488351232 := (hok _ (List.mem_of_getElem? hx)).1
        have H := Lib.hid (ih _ (List.mem_of_getElem? hx))
        have HS := Lib.hid (szFrom_le _ (hok _ (List.mem_of_getElem? hx)).2 (m + 2 + f.size) (by omega) (by omega))
        have HT := Lib.hid (szD_step (n := m) (by omega) hx2)
        clear hx hx2 ih hok ha
        go_wp2_with (go_at_call 27; refine (H.out _ _ (by omega) (by omega) (by exact (hix.then_ (below1 _ _)))).mono ?_; rintro e w' ⟨rfl, hb1⟩)
        have hb2 : Below w.heap.size w w' := below_then (below_then hbel (below1 _ _)) hb1
        obtain ⟨g1, g2⟩ := HS.out
        go_roundw
        case rel => exact ⟨k + 1, _, by omega, by omega, g2, by go_num, rfl, hb2, HH.out.trans HT.out⟩
        case measure => simp [intOf]; omega
    · go_wp2_with fail
      go_ret
      exact ⟨ret_int (by rw [HH.out, szD_done (by simp; omega)]), hbel⟩

set_option maxHeartbeats 2000000 in
theorem sizeFrom_any (t : T) : t.ok → SizeAt t := by
  induction t using T.ind with
  | h kx nx sx lax lcx lx dax dcx dx ihl ihd =>
  intro ok n w h0 hn hin
  show Calls _ _ #[.int .i64 n, .agg #[.int .i64 kx, .int .i64 nx, .string sx, .slice lax lx.length lcx, .slice dax dx.length dcx]] _ _
  obtain ⟨-, -, -, -, hs, hl1, hl2, hd1, hd2, okl, okd⟩ := ok.parts
  have HL : ∀ w1, Below w.heap.size w w1 → Calls Tryz.prog 38 #[.int .i64 (n + 5), .slice lax lx.length lcx] w1 fun e w' => e = .returned (.int .i64 (szL (n + 5) 0 (lx.map T.val))) ∧ Below w1.heap.size w1 w' := fun w1 hw =>
    elementsFrom_any _ _ _ _ _ (by omega) (by omega) (hin.parts.1.then_ hw) (by omega) okl fun x hx => ihl x hx (okl x hx)
  have HD : ∀ w1, Below w.heap.size w w1 → Calls Tryz.prog 37 #[.int .i64 (n + 5), .slice dax dx.length dcx] w1 fun e w' => e = .returned (.int .i64 (szD (n + 5) (dx.map fun f => (f.1, f.2.val)))) ∧ Below w1.heap.size w1 w' := fun w1 hw =>
    fieldsFrom_any _ _ _ _ _ (by omega) (by omega) (hin.parts.2.then_ hw) (by omega) okd fun x hx => ihd x hx (okd x hx).2
  replace HL := Lib.hid HL
  replace HD := Lib.hid HD
  have HV := Lib.hid (show szFrom n (T.mk kx nx sx lax lcx lx dax dcx dx).val = _ by rw [T.val_mk, szFrom])
  clear ihl ihd okl okd hin ok hl1 hl2 hd1 hd2
  by_cases k3 : kx = 3
  · subst k3
    go_enter Tryz.func27, Tryz.ntmps27
    go_wp2_with fail
    go_ret
    exact ⟨ret_int (by rw [HV.out]; simp), below1 _ _⟩
  by_cases k10 : kx = 10
  · subst k10
    go_enter Tryz.func27, Tryz.ntmps27
    go_wp2_with fail
    go_ret
    exact ⟨ret_int (by rw [HV.out]; simp), below1 _ _⟩
  by_cases k4 : kx = 4
  · subst k4
    go_enter Tryz.func27, Tryz.ntmps27
    go_wp2_with fail
    go_ret
    exact ⟨ret_int (by rw [HV.out]; simp), below1 _ _⟩
  by_cases k7 : kx = 7
  · subst k7
    go_enter Tryz.func27, Tryz.ntmps27
    go_wp2_with fail
    go_ret
    exact ⟨ret_int (by rw [HV.out]; simp), below1 _ _⟩
  by_cases k8 : kx = 8
  · subst k8
    go_enter Tryz.func27, Tryz.ntmps27
    go_wp2_with fail
    go_ret
    exact ⟨ret_int (by rw [HV.out]; simp), below1 _ _⟩
  by_cases k9 : kx = 9
  · subst k9
    go_enter Tryz.func27, Tryz.ntmps27
    go_wp2_with fail
    go_ret
    exact ⟨ret_int (by rw [HV.out]; simp), below1 _ _⟩
  by_cases k5 : kx = 5
  · subst k5
    go_enter Tryz.func27, Tryz.ntmps27
    go_wp2_with (go_at_call 37; refine (HD.out _ (below1 _ _)).mono ?_; rintro e w' ⟨rfl, hb1⟩)
    go_ret
    exact ⟨ret_int (by rw [HV.out]; simp), below_then (below1 _ _) hb1⟩
  by_cases k6 : kx = 6
  · subst k6
    go_enter Tryz.func27, Tryz.ntmps27
    go_wp2_with (go_at_call 38; refine (HL.out _ (below1 _ _)).mono ?_; rintro e w' ⟨rfl, hb1⟩)
    go_ret
    exact ⟨ret_int (by rw [HV.out]; simp), below_then (below1 _ _) hb1⟩
  have hz : szFrom n (T.mk kx nx sx lax lcx lx dax dcx dx).val = n := by rw [HV.out]; simp [k3, k4, k5, k6, k7, k8, k9, k10]
  replace hz := Lib.hid hz
  have b3 : ((kx : Int) == 3) = false := by simp [k3]
  have b4 : ((kx : Int) == 4) = false := by simp [k4]
  have b5 : ((kx : Int) == 5) = false := by simp [k5]
  have b6 : ((kx : Int) == 6) = false := by simp [k6]
  have b7 : ((kx : Int) == 7) = false := by simp [k7]
  have b8 : ((kx : Int) == 8) = false := by simp [k8]
  have b9 : ((kx : Int) == 9) = false := by simp [k9]
  have b10 : ((kx : Int) == 10) = false := by simp [k10]
  clear k3 k4 k5 k6 k7 k8 k9 k10
  go_enter Tryz.func27, Tryz.ntmps27
  go_wp2_with fail
  go_ret
  exact ⟨ret_int (by rw [hz.out]), below1 _ _⟩

/-- Size. -/
def sizeV (v : V) : Int := if 65537 < szFrom 0 v then 65537 else szFrom 0 v
theorem size_any (t : T) (ok : t.ok) (w : World) (hin : t.In w) : Calls Tryz.prog 19 #[t.arg] w fun e w' => e = .returned (.int .i64 (sizeV t.val)) ∧ Below w.heap.size w w' := by
  have H := Lib.hid (sizeFrom_any t ok)
  have HS := Lib.hid (szFrom_le t ok 0 (by omega) (by omega))
  obtain ⟨kx, nx, sx, lax, lcx, lx, dax, dcx, dx⟩ := t
  show Calls _ _ #[.agg #[.int .i64 kx, .int .i64 nx, .string sx, .slice lax lx.length lcx, .slice dax dx.length dcx]] _ _
  clear ok
  go_enter Tryz.func19, Tryz.ntmps19
  go_wp2_with (go_at_call 27; refine (H.out _ _ (by omega) (by omega) (by exact (hin.then_ (below1 _ _)))).mono ?_; rintro e w' ⟨rfl, hb1⟩)
  all_goals (go_ret; exact ⟨ret_int (by unfold sizeV; split <;> omega), below_then (below1 _ _) hb1⟩)
end Go.Proofs.YtcpbdmgkeljkgaaGreatDoor
