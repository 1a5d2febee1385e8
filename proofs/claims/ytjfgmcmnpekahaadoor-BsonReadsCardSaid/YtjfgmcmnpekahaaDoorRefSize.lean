/- The contract of the document's own Size: no statement is proved here. -/
import Derived.Test.YtjfgmcmnpekahaaDoorSize
import Derived.Test.YtjfgmcmnpekahaaDoorSame
namespace Go.Proofs.YtjfgmcmnpekahaaDoor
open Go.RowKit
set_option maxRecDepth 100000

theorem refDigits_any (n : Nat) (hn : n ≤ 140737488351232) (w : World) : Calls Tryd.prog 69 #[.int .i64 n] w fun e w' => e = .returned (.int .i64 (digN n)) ∧ w = w' := by
  go_enter Tryd.func69, Tryd.ntmps69
  go_wp2_with fail
  go_loop [0, 3] (fun i q => ∃ m c : Nat, m ≤ 140737488351232 ∧ i = .int .i64 m ∧ q = .int .i64 c ∧ c + digN m = digN n + 1) (fun i _ => (intOf i).toNat)
  case atStart => exact ⟨n, 1, hn, rfl, rfl, by omega⟩
  case round =>
    obtain ⟨m, c, hm, rfl, rfl, hrel⟩ := hrel
    have hc : c ≤ 140737488351234 := by have := digN_pos m; have := digN_le n; omega
    have HR := Lib.hid hrel
    clear hrel
    by_cases h : 10 ≤ m
    · go_wp2_with fail
      go_round
      case rel => exact ⟨m / 10, c + 1, by omega, by go_num, by go_num, by have := HR.out; rw [digN, if_neg (by omega)] at this; omega⟩
      case measure => simp [intOf]; omega
    · go_wp2_with fail
      go_ret
      exact ⟨ret_int (by have := HR.out; rw [digN, if_pos (by omega)] at this; omega), rfl⟩

mutual
/-- How much is left of some bytes behind a value's. -/
def leftV (room : Int) : V → Int
  | .mk k _ s l d =>
    if k = 3 ∨ k = 10 then room - 8 else
    if k = 4 ∨ k = 7 then (if 65536 < (s.size : Int) then -1 else room - 5 - s.size) else
    if k = 8 then room - 12 else
    if k = 9 then room - 1 else
    if k = 5 then leftD (room - 5) d else
    if k = 6 then leftL (room - 5) 0 l else room
def leftL (room : Int) (i : Nat) : List V → Int
  | [] => room
  | x :: r => if room < 0 then room else leftL (leftV (room - 2 - digN i) x) (i + 1) r
def leftD (room : Int) : List (ByteArray × V) → Int
  | [] => room
  | (s, x) :: r => if room < 0 then room else if 65536 < (s.size : Int) then -1 else leftD (leftV (room - 2 - s.size) x) r
end
theorem leftL_neg {n : Int} (h : n < 0) (i : Nat) (l : List V) : leftL n i l = n := by cases l <;> simp [leftL, h]
theorem leftD_neg {n : Int} (h : n < 0) (l : List (ByteArray × V)) : leftD n l = n := by cases l <;> simp [leftD, h]
theorem leftL_step {n : Int} (h : ¬ n < 0) {l : List V} {k : Nat} {x : V} (hx : l[k]? = some x) : leftL n k (l.drop k) = leftL (leftV (n - 2 - digN k) x) (k + 1) (l.drop (k + 1)) := by
  obtain ⟨h1, rfl⟩ := List.getElem?_eq_some_iff.1 hx
  rw [List.drop_eq_getElem_cons h1, leftL, if_neg h]
theorem leftD_step {n : Int} (h : ¬ n < 0) {l : List (ByteArray × V)} {k : Nat} {x : ByteArray × V} (hx : l[k]? = some x) : leftD n (l.drop k) = if 65536 < (x.1.size : Int) then -1 else leftD (leftV (n - 2 - x.1.size) x.2) (l.drop (k + 1)) := by
  obtain ⟨h1, rfl⟩ := List.getElem?_eq_some_iff.1 hx
  rw [List.drop_eq_getElem_cons h1, leftD, if_neg h]
theorem leftL_done {n : Int} {k : Nat} {l : List V} (h : l.length ≤ k) : leftL n k (l.drop k) = n := by rw [List.drop_eq_nil_of_le h, leftL]
theorem leftD_done {n : Int} {k : Nat} {l : List (ByteArray × V)} (h : l.length ≤ k) : leftD n (l.drop k) = n := by rw [List.drop_eq_nil_of_le h, leftD]

/-- What is left never comes far below 0. -/
def Low (v : V) : Prop := ∀ room : Int, -65600 ≤ room → room ≤ 65536 → -131200 ≤ leftV room v ∧ leftV room v ≤ 65536
theorem lowL {l : List V} (ih : ∀ x ∈ l, Low x) : ∀ (i : Nat) (n : Int), -131200 ≤ n → n ≤ 65536 → i + l.length ≤ 1000000000000000 → -131200 ≤ leftL n i l ∧ leftL n i l ≤ 65536 := by
  induction l with
  | nil => intro i n h0 h _; rw [leftL]; exact ⟨h0, h⟩
  | cons x r ihr =>
    intro i n h0 h hi
    rw [leftL]
    split
    · exact ⟨by omega, h⟩
    · simp at hi
      have hd := digN_small 15 i (by simp; omega)
      obtain ⟨g1, g2⟩ := ih x (by simp) (n - 2 - digN i) (by omega) (by omega)
      exact ihr (fun y hy => ih y (by simp [hy])) (i + 1) _ g1 g2 (by omega)
theorem lowD {l : List (ByteArray × V)} (ih : ∀ f ∈ l, Low f.2) : ∀ (n : Int), -131200 ≤ n → n ≤ 65536 → -131200 ≤ leftD n l ∧ leftD n l ≤ 65536 := by
  induction l with
  | nil => intro n h0 h; rw [leftD]; exact ⟨h0, h⟩
  | cons x r ihr =>
    intro n h0 h
    obtain ⟨s, x⟩ := x
    rw [leftD]
    split
    · exact ⟨by omega, h⟩
    · split
      · exact ⟨by omega, by omega⟩
      · obtain ⟨g1, g2⟩ := ih (s, x) (by simp) (n - 2 - s.size) (by omega) (by omega)
        exact ihr (fun y hy => ih y (by simp [hy])) _ g1 g2
theorem low_any (t : T) : t.ok → Low t.val := by
  induction t using T.ind with
  | h k m s la lc l da dc d ihl ihd =>
  intro ok n h0 hn
  obtain ⟨-, -, -, -, hs, hl1, hl2, hd1, hd2, okl, okd⟩ := ok.parts
  rw [T.val_mk, leftV]
  split; · omega
  split
  · split <;> omega
  split; · omega
  split; · omega
  split
  · exact lowD (by intro f hf; obtain ⟨g, hg, rfl⟩ := List.mem_map.1 hf; exact ihd g hg (okd g hg).2) (n - 5) (by omega) (by omega)
  split
  · exact lowL (by intro x hx; obtain ⟨y, hy, rfl⟩ := List.mem_map.1 hx; exact ihl y hy (okl y hy)) 0 (n - 5) (by omega) (by omega) (by simp; omega)
  · omega

/-- The program's count, and what is left. -/
def Fit (n f g : Int) : Prop := n ≤ f ∧ (f ≤ 65536 → g = 65536 - f) ∧ (65536 < f → g < 0)
theorem fitL {l : List V} (ih : ∀ x ∈ l, ∀ n : Int, 0 ≤ n → Fit n (szFrom n x) (leftV (65536 - n) x)) : ∀ (i : Nat) (n : Int), 0 ≤ n → ∀ g, (n ≤ 65536 → g = 65536 - n) → (65536 < n → g < 0) → Fit n (szL n i l) (leftL g i l) := by
  induction l with
  | nil => intro i n h0 g h1 h2; rw [szL, leftL]; exact ⟨by omega, h1, h2⟩
  | cons x r ihr =>
    intro i n h0 g h1 h2
    by_cases hb : 65536 < n
    · rw [szL_big hb, leftL_neg (h2 hb)]; exact ⟨by omega, h1, h2⟩
    · have hg := h1 (by omega)
      subst hg
      rw [szL, if_neg hb, leftL, if_neg (by omega)]
      have hd := digN_pos i
      obtain ⟨f1, f2, f3⟩ := ih x (by simp) (n + 2 + digN i) (by omega)
      rw [show (65536 : Int) - (n + 2 + digN i) = 65536 - n - 2 - digN i by omega] at f2 f3
      obtain ⟨g1, g2, g3⟩ := ihr (fun y hy => ih y (by simp [hy])) (i + 1) (szFrom (n + 2 + digN i) x) (by omega) _ f2 f3
      exact ⟨by omega, g2, g3⟩
theorem fitD {l : List (ByteArray × V)} (ih : ∀ f ∈ l, ∀ n : Int, 0 ≤ n → Fit n (szFrom n f.2) (leftV (65536 - n) f.2)) : ∀ (n : Int), 0 ≤ n → ∀ g, (n ≤ 65536 → g = 65536 - n) → (65536 < n → g < 0) → Fit n (szD n l) (leftD g l) := by
  induction l with
  | nil => intro n h0 g h1 h2; rw [szD, leftD]; exact ⟨by omega, h1, h2⟩
  | cons x r ihr =>
    intro n h0 g h1 h2
    obtain ⟨s, x⟩ := x
    by_cases hb : 65536 < n
    · rw [szD_big hb, leftD_neg (h2 hb)]; exact ⟨by omega, h1, h2⟩
    · have hg := h1 (by omega)
      subst hg
      rw [szD, if_neg hb, leftD, if_neg (by omega)]
      obtain ⟨f1, f2, f3⟩ := ih (s, x) (by simp) (n + 2 + s.size) (by omega)
      simp only at f1 f2 f3
      rw [show (65536 : Int) - (n + 2 + s.size) = 65536 - n - 2 - s.size by omega] at f2 f3
      obtain ⟨g1, g2, g3⟩ := ihr (fun y hy => ih y (by simp [hy])) (szFrom (n + 2 + s.size) x) (by omega) _ f2 f3
      by_cases hs : 65536 < (s.size : Int)
      · rw [if_pos hs]; exact ⟨by omega, by omega, by omega⟩
      · rw [if_neg hs]; exact ⟨by omega, g2, g3⟩
theorem fit_any (v : V) : ∀ n : Int, 0 ≤ n → Fit n (szFrom n v) (leftV (65536 - n) v) := by
  induction v using V.ind with
  | h k m s l d ihl ihd =>
  intro n h0
  rw [szFrom, leftV]
  by_cases c1 : k = 3 ∨ k = 10
  · rw [if_pos c1, if_pos c1]; exact ⟨by omega, by omega, by omega⟩
  rw [if_neg c1, if_neg c1]
  by_cases c2 : k = 4 ∨ k = 7
  · rw [if_pos c2, if_pos c2]
    by_cases hs : 65536 < (s.size : Int)
    · rw [if_pos hs]; exact ⟨by omega, by omega, by omega⟩
    · rw [if_neg hs]; exact ⟨by omega, by omega, by omega⟩
  rw [if_neg c2, if_neg c2]
  by_cases c3 : k = 8
  · rw [if_pos c3, if_pos c3]; exact ⟨by omega, by omega, by omega⟩
  rw [if_neg c3, if_neg c3]
  by_cases c4 : k = 9
  · rw [if_pos c4, if_pos c4]; exact ⟨by omega, by omega, by omega⟩
  rw [if_neg c4, if_neg c4]
  by_cases c5 : k = 5
  · rw [if_pos c5, if_pos c5]
    obtain ⟨g1, g2, g3⟩ := fitD ihd (n + 5) (by omega) (65536 - n - 5) (by omega) (by omega)
    exact ⟨by omega, g2, g3⟩
  rw [if_neg c5, if_neg c5]
  by_cases c6 : k = 6
  · rw [if_pos c6, if_pos c6]
    obtain ⟨g1, g2, g3⟩ := fitL ihl 0 (n + 5) (by omega) (65536 - n - 5) (by omega) (by omega)
    exact ⟨by omega, g2, g3⟩
  rw [if_neg c6, if_neg c6]
  exact ⟨by omega, by omega, by omega⟩
theorem size_left (v : V) : sizeV v = if leftV 65536 v < 0 then 65537 else 65536 - leftV 65536 v := by
  obtain ⟨g1, g2, g3⟩ := fit_any v 0 (by omega)
  rw [show (65536 : Int) - 0 = 65536 by omega] at g2 g3
  unfold sizeV
  by_cases h : 65536 < szFrom 0 v
  · have := g3 h
    rw [if_pos this]
    split <;> omega
  · have := g2 (by omega)
    rw [if_neg (by omega), if_neg (by omega)]
    omega

def LeftAt (t : T) : Prop := ∀ (room : Int) (w : World), -65600 ≤ room → room ≤ 65536 → t.In w → Calls Tryd.prog 54 #[t.arg, .int .i64 room] w fun e w' => e = .returned (.int .i64 (leftV room t.val)) ∧ Below w.heap.size w w'
def Box1 (w wr : World) (a : T) : Prop := Below w.heap.size w wr ∧ wr.heap[w.heap.size]? = some (.cells a.cells.toArray 25 (0, 0))
theorem Box1.then_ {w wr w' : World} {a : T} (h : Box1 w wr a) (hb : Below wr.heap.size wr w') : Box1 w w' a := ⟨below_then h.1 hb, row_then h.2 hb⟩
theorem Box1.start (w : World) (a : T) : Box1 w (w.alloc (.cells a.cells.toArray 25)) a := ⟨below1 _ _, heap_alloc_new _ _⟩

set_option maxHeartbeats 4000000 in
theorem left_any (t : T) : t.ok → LeftAt t := by
  induction t using T.ind with
  | h kx nx sx lax lcx lx dax dcx dx ihl ihd =>
  intro ok room w h0 hn hin
  show Calls _ _ #[.agg #[.int .i64 kx, .int .i64 nx, .string sx, .slice lax lx.length lcx, .slice dax dx.length dcx], .int .i64 room] _ _
  obtain ⟨-, -, -, -, hs, hl1, hl2, hd1, hd2, okl, okd⟩ := ok.parts
  have HV := Lib.hid (show leftV room (T.mk kx nx sx lax lcx lx dax dcx dx).val = _ by rw [T.val_mk, leftV])
  have IHL := Lib.hid (fun x hx => ihl x hx (okl x hx))
  have IHD := Lib.hid (fun x hx => ihd x hx (okd x hx).2)
  have LL := Lib.hid (fun x hx => low_any x (okl x hx))
  have LD := Lib.hid (fun x hx => low_any x.2 (okd x hx).2)
  have SD := Lib.hid (fun x hx => (okd x hx).1)
  have HIN := Lib.hid hin.parts
  clear ihl ihd okl okd hin ok hl1 hd1
  by_cases k3 : kx = 3
  · subst k3
    go_enter Tryd.func54, Tryd.ntmps54
    go_wp2_with fail
    go_ret
    exact ⟨ret_int (by rw [HV.out]; simp), below1 _ _⟩
  by_cases k10 : kx = 10
  · subst k10
    go_enter Tryd.func54, Tryd.ntmps54
    go_wp2_with fail
    go_ret
    exact ⟨ret_int (by rw [HV.out]; simp), below1 _ _⟩
  by_cases k4 : kx = 4
  · subst k4
    by_cases hb : 65536 < (sx.size : Int)
    · go_enter Tryd.func54, Tryd.ntmps54
      go_wp2_with fail
      go_ret
      exact ⟨ret_int (by rw [HV.out]; simp [hb]), below1 _ _⟩
    · go_enter Tryd.func54, Tryd.ntmps54
      go_wp2_with fail
      go_ret
      exact ⟨ret_int (by rw [HV.out]; simp; omega), below1 _ _⟩
  by_cases k7 : kx = 7
  · subst k7
    by_cases hb : 65536 < (sx.size : Int)
    · go_enter Tryd.func54, Tryd.ntmps54
      go_wp2_with fail
      go_ret
      exact ⟨ret_int (by rw [HV.out]; simp [hb]), below1 _ _⟩
    · go_enter Tryd.func54, Tryd.ntmps54
      go_wp2_with fail
      go_ret
      exact ⟨ret_int (by rw [HV.out]; simp; omega), below1 _ _⟩
  by_cases k8 : kx = 8
  · subst k8
    go_enter Tryd.func54, Tryd.ntmps54
    go_wp2_with fail
    go_ret
    exact ⟨ret_int (by rw [HV.out]; simp), below1 _ _⟩
  by_cases k9 : kx = 9
  · subst k9
    go_enter Tryd.func54, Tryd.ntmps54
    go_wp2_with fail
    go_ret
    exact ⟨ret_int (by rw [HV.out]; simp), below1 _ _⟩
  by_cases k5 : kx = 5
  · subst k5
    replace HV := Lib.hid (show leftV room (T.mk 5 nx sx lax lcx lx dax dcx dx).val = leftD (room - 5) (dx.map fun f => (f.1, f.2.val)) by rw [HV.out]; simp)
    go_enter Tryd.func54, Tryd.ntmps54
    go_wp2_with fail
    go_loopw [1, 5] (fun r i wr => ∃ (k : Nat) (m : Int), k ≤ dx.length ∧ -131200 ≤ m ∧ m ≤ 65536 ∧ r = .int .i64 m ∧ i = .int .i64 k ∧ Box1 w wr (.mk 5 nx sx lax lcx lx dax dcx dx) ∧ leftD (room - 5) (dx.map fun f => (f.1, f.2.val)) = leftD m ((dx.map fun f => (f.1, f.2.val)).drop k)) (fun _ i _ => dx.length - (intOf i).toNat)
    case atStart => exact ⟨0, room - 5, by omega, by omega, by omega, rfl, rfl, Box1.start w (.mk 5 nx sx lax lcx lx dax dcx dx), by simp⟩
    case round =>
      obtain ⟨k, m, hk, hm0, hm, rfl, rfl, ⟨hbel, qa⟩, heq⟩ := hrel
      have HH := Lib.hid heq
      have QA := Lib.hid qa
      have ka : ∀ o, wr.cell? ⟨w.heap.size, o, none⟩ = (#[.int .i64 5, .int .i64 nx, .string sx, .slice lax lx.length lcx, .slice dax dx.length dcx] : Array Value)[o]? := row_cells qa
      clear heq qa
      by_cases h1 : k < dx.length
      · by_cases hneg : m < 0
        · go_wp2_with fail
          go_ret
          exact ⟨ret_int (by rw [HV.out, HH.out, leftD_neg hneg]), hbel⟩
        · obtain ⟨b, o, f, k1, n1, s1, la1, lc1, l1, da1, dc1, d1, rfl, hx, hix, x0, x1, x2, x3, x4, x5⟩ := (HIN.out.2.then_ hbel).six h1
          have hfs : f.size ≤ 140737488351232 := SD.out _ (List.mem_of_getElem? hx)
          have H := Lib.hid (IHD.out _ (List.mem_of_getElem? hx))
          have HL := Lib.hid (LD.out _ (List.mem_of_getElem? hx))
          have HT := Lib.hid (leftD_step (n := m) (by omega) (l := dx.map fun f => (f.1, f.2.val)) (k := k) (x := (f, (T.mk k1 n1 s1 la1 lc1 l1 da1 dc1 d1).val)) (by rw [List.getElem?_map, hx]; rfl))
          clear hx
          simp only at H HL HT
          have hm1 : 0 ≤ m := by omega
          by_cases hb : 65536 < (f.size : Int)
          · go_wp2_with fail
            go_ret
            exact ⟨ret_int (by rw [HV.out, HH.out, HT.out, if_pos hb]), hbel⟩
          · have W1 := Lib.hid (IntWalk.i64_in (m - 2) (by omega))
            have W2 := Lib.hid (IntWalk.i64_in (m - 2 - f.size) (by omega))
            obtain ⟨g1, g2⟩ := HL.out (m - 2 - f.size) (by omega) (by omega)
            go_wp2_with fail
            go_still_tail 16, (by kernel_rfl)
            change wpList _ _ _ _ _ wr.drew
            go_wp2_with (go_at_call 54; refine (H.out _ wr.drew (by omega) (by omega) hix).mono ?_; rintro e w1 ⟨rfl, b0⟩; have b1 : Below wr.heap.size wr w1 := ⟨b0.os, b0.tape, b0.output, b0.size, b0.block⟩; clear b0)
            go_roundw
            case rel => exact ⟨k + 1, _, by omega, g1, g2, rfl, by go_num, Box1.then_ ⟨hbel, QA.out⟩ b1, by rw [HH.out, HT.out, if_neg (by omega)]⟩
            case measure => simp [intOf]; omega
      · go_wp2_with fail
        go_ret
        exact ⟨ret_int (by rw [HV.out, HH.out, leftD_done (by simp; omega)]), hbel⟩
  by_cases k6 : kx = 6
  · subst k6
    replace HV := Lib.hid (show leftV room (T.mk 6 nx sx lax lcx lx dax dcx dx).val = leftL (room - 5) 0 (lx.map T.val) by rw [HV.out]; simp)
    go_enter Tryd.func54, Tryd.ntmps54
    go_wp2_with fail
    go_loopw [1, 6] (fun r i wr => ∃ (k : Nat) (m : Int), k ≤ lx.length ∧ -131200 ≤ m ∧ m ≤ 65536 ∧ r = .int .i64 m ∧ i = .int .i64 k ∧ Box1 w wr (.mk 6 nx sx lax lcx lx dax dcx dx) ∧ leftL (room - 5) 0 (lx.map T.val) = leftL m k ((lx.map T.val).drop k)) (fun _ i _ => lx.length - (intOf i).toNat)
    case atStart => exact ⟨0, room - 5, by omega, by omega, by omega, rfl, rfl, Box1.start w (.mk 6 nx sx lax lcx lx dax dcx dx), by simp⟩
    case round =>
      obtain ⟨k, m, hk, hm0, hm, rfl, rfl, ⟨hbel, qa⟩, heq⟩ := hrel
      have HH := Lib.hid heq
      have QA := Lib.hid qa
      have ka : ∀ o, wr.cell? ⟨w.heap.size, o, none⟩ = (#[.int .i64 6, .int .i64 nx, .string sx, .slice lax lx.length lcx, .slice dax dx.length dcx] : Array Value)[o]? := row_cells qa
      clear heq qa
      by_cases h1 : k < lx.length
      · by_cases hneg : m < 0
        · go_wp2_with fail
          go_ret
          exact ⟨ret_int (by rw [HV.out, HH.out, leftL_neg hneg]), hbel⟩
        · obtain ⟨b, o, k1, n1, s1, la1, lc1, l1, da1, dc1, d1, rfl, hx, hix, x0, x1, x2, x3, x4⟩ := (HIN.out.1.then_ hbel).five h1
          have H := Lib.hid (IHL.out _ (List.mem_of_getElem? hx))
          have HL := Lib.hid (LL.out _ (List.mem_of_getElem? hx))
          have HT := Lib.hid (leftL_step (n := m) (by omega) (l := lx.map T.val) (k := k) (x := (T.mk k1 n1 s1 la1 lc1 l1 da1 dc1 d1).val) (by rw [List.getElem?_map, hx]; rfl))
          clear hx
          have hm1 : 0 ≤ m := by omega
          have hdd := digN_small 14 k (by simp; omega)
          have hd1 := digN_pos k
          have HD := Lib.hid (fun w => (refDigits_any k (by omega) w).mono (fun e w' h => (⟨h.1, h.2.symm⟩ : e = .returned (.int .i64 (digN k)) ∧ w' = w)))
          have W1 := Lib.hid (IntWalk.i64_in (m - 2) (by omega))
          have W2 := Lib.hid (IntWalk.i64_in (m - 2 - digN k) (by omega))
          obtain ⟨g1, g2⟩ := HL.out (m - 2 - digN k) (by omega) (by omega)
          go_wp2_with fail
          refine wp_region_still_tail 10 (by kernel_rfl) (by kernel_rfl) ?_
          change wpStill _ _ wr.drew (fun a' => wpList _ _ _ _ a' wr.drew) _ _
          simp only [List.take_succ_cons, List.take_zero, List.drop_succ_cons, List.drop_zero]
          still_step
          still_step
          still_step
          still_step
          still_step
          still_step
          still_step
          still_step
          still_call (HD.out _)
          still_step
          refine wpStill_nil ?_
          simp only [W1.out, W2.out]
          go_wp2_with (go_at_call 54; refine (H.out _ wr.drew (by omega) (by omega) hix).mono ?_; rintro e w1 ⟨rfl, b0⟩; have b1 : Below wr.heap.size wr w1 := ⟨b0.os, b0.tape, b0.output, b0.size, b0.block⟩; clear b0)
          go_roundw
          case rel => exact ⟨k + 1, _, by omega, g1, g2, rfl, by go_num, Box1.then_ ⟨hbel, QA.out⟩ b1, by rw [HH.out, HT.out]⟩
          case measure => simp [intOf]; omega
      · go_wp2_with fail
        go_ret
        exact ⟨ret_int (by rw [HV.out, HH.out, leftL_done (by simp; omega)]), hbel⟩
  have hz : leftV room (T.mk kx nx sx lax lcx lx dax dcx dx).val = room := by rw [HV.out]; simp [k3, k4, k5, k6, k7, k8, k9, k10]
  replace hz := Lib.hid hz
  have b3 : ((kx : Int) == 3) = false := by simp [k3]
  have b4 : ((kx : Int) == 4) = false := by simp [k4]
  have b5 : ((kx : Int) == 5) = false := by simp [k5]
  have b6 : ((kx : Int) == 6) = false := by simp [k6]
  have b7 : ((kx : Int) == 7) = false := by simp [k7]
  have b8 : ((kx : Int) == 8) = false := by simp [k8]
  have b9 : ((kx : Int) == 9) = false := by simp [k9]
  have b10 : ((kx : Int) == 10) = false := by simp [k10]
  clear k3 k4 k5 k6 k7 k8 k9 k10
  go_enter Tryd.func54, Tryd.ntmps54
  go_wp2_with fail
  go_ret
  exact ⟨ret_int (by rw [hz.out]), below1 _ _⟩

/-- The document's Size. -/
theorem refSize_any (t : T) (ok : t.ok) (w : World) (hin : t.In w) : Calls Tryd.prog 36 #[t.arg] w fun e w' => e = .returned (.int .i64 (sizeV t.val)) ∧ Below w.heap.size w w' := by
  have H := Lib.hid (fun w h => left_any t ok 65536 w (by omega) (by omega) h)
  obtain ⟨g1, g2⟩ := low_any t ok 65536 (by omega) (by omega)
  rw [size_left]
  obtain ⟨kx, nx, sx, lax, lcx, lx, dax, dcx, dx⟩ := t
  show Calls _ _ #[.agg #[.int .i64 kx, .int .i64 nx, .string sx, .slice lax lx.length lcx, .slice dax dx.length dcx]] _ _
  clear ok
  generalize leftV 65536 (T.mk kx nx sx lax lcx lx dax dcx dx).val = left at H g1 g2 ⊢
  go_enter Tryd.func36, Tryd.ntmps36
  go_wp2_with (go_at_call 54; refine (H.out _ (hin.then_ (below1 _ _))).mono ?_; rintro e w1 ⟨rfl, b1⟩)
  · go_ret
    exact ⟨rfl, below_then (below1 _ _) b1⟩
  · go_ret
    exact ⟨rfl, below_then (below1 _ _) b1⟩
end Go.Proofs.YtjfgmcmnpekahaaDoor
