/- Small pieces, joined: the reference's sizes and its Right. No statement is proved here. -/
import Derived.Test.YtdlgngnibbaamaaDoorSize
import Derived.Test.YtdlgngnibbaamaaDoorSame
import Derived.Test.YtdlgngnibbaamaaDoorRight2
namespace Go.Proofs.YtdlgngnibbaamaaDoor
open Go.RowKit
set_option maxRecDepth 100000

theorem refDigits_any (n : Nat) (hn : n ≤ 140737488351232) (w : World) : Calls Tryd.prog 117 #[.int .i64 n] w fun e w' => e = .returned (.int .i64 (digN n)) ∧ w = w' := by
  go_enter Tryd.func117, Tryd.ntmps117
  go_wp2_with fail
  go_loop [0, 3] (fun i q => ∃ m c : Nat, m ≤ 140737488351232 ∧ i = .int .i64 m ∧ q = .int .i64 c ∧ c + digN m = digN n + 1) (fun i _ => (intOf i).toNat)
  case atStart => exact ⟨n, 1, hn, rfl, rfl, by omega⟩
  case round =>
    obtain ⟨m, c, hm, rfl, rfl, hrel⟩ := hrel
    have hc : c ≤ 140737488351234 := by have := digN_pos m; have := digN_le n; omega
    have HR := Lib.hid hrel
    clear hrel
    by_cases h : 10 ≤ m
    · go_wp2_with fail
      go_round
      case rel => exact ⟨m / 10, c + 1, by omega, by go_num, by go_num, by have := HR.out; rw [digN, if_neg (by omega)] at this; omega⟩
      case measure => simp [intOf]; omega
    · go_wp2_with fail
      go_ret
      exact ⟨ret_int (by have := HR.out; rw [digN, if_pos (by omega)] at this; omega), rfl⟩

mutual
/-- How much is left of some bytes behind a value's. -/
def leftV (room : Int) : V → Int
  | .mk k _ s l d =>
    if k = 3 ∨ k = 10 then room - 8 else
    if k = 4 ∨ k = 7 then (if 65536 < (s.size : Int) then -1 else room - 5 - s.size) else
    if k = 8 then room - 12 else
    if k = 9 then room - 1 else
    if k = 5 then leftD (room - 5) d else
    if k = 6 then leftL (room - 5) 0 l else room
def leftL (room : Int) (i : Nat) : List V → Int
  | [] => room
  | x :: r => if room < 0 then room else leftL (leftV (room - 2 - digN i) x) (i + 1) r
def leftD (room : Int) : List (ByteArray × V) → Int
  | [] => room
  | (s, x) :: r => if room < 0 then room else if 65536 < (s.size : Int) then -1 else leftD (leftV (room - 2 - s.size) x) r
end
theorem leftL_neg {n : Int} (h : n < 0) (i : Nat) (l : List V) : leftL n i l = n := by cases l <;> simp [leftL, h]
theorem leftD_neg {n : Int} (h : n < 0) (l : List (ByteArray × V)) : leftD n l = n := by cases l <;> simp [leftD, h]
theorem leftL_step {n : Int} (h : ¬ n < 0) {l : List V} {k : Nat} {x : V} (hx : l[k]? = some x) : leftL n k (l.drop k) = leftL (leftV (n - 2 - digN k) x) (k + 1) (l.drop (k + 1)) := by
  obtain ⟨h1, rfl⟩ := List.getElem?_eq_some_iff.1 hx
  rw [List.drop_eq_getElem_cons h1, leftL, if_neg h]
theorem leftD_step {n : Int} (h : ¬ n < 0) {l : List (ByteArray × V)} {k : Nat} {x : ByteArray × V} (hx : l[k]? = some x) : leftD n (l.drop k) = if 65536 < (x.1.size : Int) then -1 else leftD (leftV (n - 2 - x.1.size) x.2) (l.drop (k + 1)) := by
  obtain ⟨h1, rfl⟩ := List.getElem?_eq_some_iff.1 hx
  rw [List.drop_eq_getElem_cons h1, leftD, if_neg h]
theorem leftL_done {n : Int} {k : Nat} {l : List V} (h : l.length ≤ k) : leftL n k (l.drop k) = n := by rw [List.drop_eq_nil_of_le h, leftL]
theorem leftD_done {n : Int} {k : Nat} {l : List (ByteArray × V)} (h : l.length ≤ k) : leftD n (l.drop k) = n := by rw [List.drop_eq_nil_of_le h, leftD]

/-- What is left never comes far below 0. -/
def Low (v : V) : Prop := ∀ room : Int, -65600 ≤ room → room ≤ 65536 → -131200 ≤ leftV room v ∧ leftV room v ≤ 65536
theorem lowL {l : List V} (ih : ∀ x ∈ l, Low x) : ∀ (i : Nat) (n : Int), -131200 ≤ n → n ≤ 65536 → i + l.length ≤ 1000000000000000 → -131200 ≤ leftL n i l ∧ leftL n i l ≤ 65536 := by
  induction l with
  | nil => intro i n h0 h _; rw [leftL]; exact ⟨h0, h⟩
  | cons x r ihr =>
    intro i n h0 h hi
    rw [leftL]
    split
    · exact ⟨by omega, h⟩
    · simp at hi
      have hd := digN_small 15 i (by simp; omega)
      obtain ⟨g1, g2⟩ := ih x (by simp) (n - 2 - digN i) (by omega) (by omega)
      exact ihr (fun y hy => ih y (by simp [hy])) (i + 1) _ g1 g2 (by omega)
theorem lowD {l : List (ByteArray × V)} (ih : ∀ f ∈ l, Low f.2) : ∀ (n : Int), -131200 ≤ n → n ≤ 65536 → -131200 ≤ leftD n l ∧ leftD n l ≤ 65536 := by
  induction l with
  | nil => intro n h0 h; rw [leftD]; exact ⟨h0, h⟩
  | cons x r ihr =>
    intro n h0 h
    obtain ⟨s, x⟩ := x
    rw [leftD]
    split
    · exact ⟨by omega, h⟩
    · split
      · exact ⟨by omega, by omega⟩
      · obtain ⟨g1, g2⟩ := ih (s, x) (by simp) (n - 2 - s.size) (by omega) (by omega)
        exact ihr (fun y hy => ih y (by simp [hy])) _ g1 g2
theorem low_any (t : T) : t.ok → Low t.val := by
  induction t using T.ind with
  | h k m s la lc l da dc d ihl ihd =>
  intro ok n h0 hn
  obtain ⟨-, -, -, -, hs, hl1, hl2, hd1, hd2, okl, okd⟩ := ok.parts
  rw [T.val_mk, leftV]
  split; · omega
  split
  · split <;> omega
  split; · omega
  split; · omega
  split
  · exact lowD (by intro f hf; obtain ⟨g, hg, rfl⟩ := List.mem_map.1 hf; exact ihd g hg (okd g hg).2) (n - 5) (by omega) (by omega)
  split
  · exact lowL (by intro x hx; obtain ⟨y, hy, rfl⟩ := List.mem_map.1 hx; exact ihl y hy (okl y hy)) 0 (n - 5) (by omega) (by omega) (by simp; omega)
  · omega

/-- The program's count, and what is left. -/
def Fit (n f g : Int) : Prop := n ≤ f ∧ (f ≤ 65536 → g = 65536 - f) ∧ (65536 < f → g < 0)
theorem fitL {l : List V} (ih : ∀ x ∈ l, ∀ n : Int, 0 ≤ n → Fit n (szFrom n x) (leftV (65536 - n) x)) : ∀ (i : Nat) (n : Int), 0 ≤ n → ∀ g, (n ≤ 65536 → g = 65536 - n) → (65536 < n → g < 0) → Fit n (szL n i l) (leftL g i l) := by
  induction l with
  | nil => intro i n h0 g h1 h2; rw [szL, leftL]; exact ⟨by omega, h1, h2⟩
  | cons x r ihr =>
    intro i n h0 g h1 h2
    by_cases hb : 65536 < n
    · rw [szL_big hb, leftL_neg (h2 hb)]; exact ⟨by omega, h1, h2⟩
    · have hg := h1 (by omega)
      subst hg
      rw [szL, if_neg hb, leftL, if_neg (by omega)]
      have hd := digN_pos i
      obtain ⟨f1, f2, f3⟩ := ih x (by simp) (n + 2 + digN i) (by omega)
      rw [show (65536 : Int) - (n + 2 + digN i) = 65536 - n - 2 - digN i by omega] at f2 f3
      obtain ⟨g1, g2, g3⟩ := ihr (fun y hy => ih y (by simp [hy])) (i + 1) (szFrom (n + 2 + digN i) x) (by omega) _ f2 f3
      exact ⟨by omega, g2, g3⟩
theorem fitD {l : List (ByteArray × V)} (ih : ∀ f ∈ l, ∀ n : Int, 0 ≤ n → Fit n (szFrom n f.2) (leftV (65536 - n) f.2)) : ∀ (n : Int), 0 ≤ n → ∀ g, (n ≤ 65536 → g = 65536 - n) → (65536 < n → g < 0) → Fit n (szD n l) (leftD g l) := by
  induction l with
  | nil => intro n h0 g h1 h2; rw [szD, leftD]; exact ⟨by omega, h1, h2⟩
  | cons x r ihr =>
    intro n h0 g h1 h2
    obtain ⟨s, x⟩ := x
    by_cases hb : 65536 < n
    · rw [szD_big hb, leftD_neg (h2 hb)]; exact ⟨by omega, h1, h2⟩
    · have hg := h1 (by omega)
      subst hg
      rw [szD, if_neg hb, leftD, if_neg (by omega)]
      obtain ⟨f1, f2, f3⟩ := ih (s, x) (by simp) (n + 2 + s.size) (by omega)
      simp only at f1 f2 f3
      rw [show (65536 : Int) - (n + 2 + s.size) = 65536 - n - 2 - s.size by omega] at f2 f3
      obtain ⟨g1, g2, g3⟩ := ihr (fun y hy => ih y (by simp [hy])) (szFrom (n + 2 + s.size) x) (by omega) _ f2 f3
      by_cases hs : 65536 < (s.size : Int)
      · rw [if_pos hs]; exact ⟨by omega, by omega, by omega⟩
      · rw [if_neg hs]; exact ⟨by omega, g2, g3⟩
theorem fit_any (v : V) : ∀ n : Int, 0 ≤ n → Fit n (szFrom n v) (leftV (65536 - n) v) := by
  induction v using V.ind with
  | h k m s l d ihl ihd =>
  intro n h0
  rw [szFrom, leftV]
  by_cases c1 : k = 3 ∨ k = 10
  · rw [if_pos c1, if_pos c1]; exact ⟨by omega, by omega, by omega⟩
  rw [if_neg c1, if_neg c1]
  by_cases c2 : k = 4 ∨ k = 7
  · rw [if_pos c2, if_pos c2]
    by_cases hs : 65536 < (s.size : Int)
    · rw [if_pos hs]; exact ⟨by omega, by omega, by omega⟩
    · rw [if_neg hs]; exact ⟨by omega, by omega, by omega⟩
  rw [if_neg c2, if_neg c2]
  by_cases c3 : k = 8
  · rw [if_pos c3, if_pos c3]; exact ⟨by omega, by omega, by omega⟩
  rw [if_neg c3, if_neg c3]
  by_cases c4 : k = 9
  · rw [if_pos c4, if_pos c4]; exact ⟨by omega, by omega, by omega⟩
  rw [if_neg c4, if_neg c4]
  by_cases c5 : k = 5
  · rw [if_pos c5, if_pos c5]
    obtain ⟨g1, g2, g3⟩ := fitD ihd (n + 5) (by omega) (65536 - n - 5) (by omega) (by omega)
    exact ⟨by omega, g2, g3⟩
  rw [if_neg c5, if_neg c5]
  by_cases c6 : k = 6
  · rw [if_pos c6, if_pos c6]
    obtain ⟨g1, g2, g3⟩ := fitL ihl 0 (n + 5) (by omega) (65536 - n - 5) (by omega) (by omega)
    exact ⟨by omega, g2, g3⟩
  rw [if_neg c6, if_neg c6]
  exact ⟨by omega, by omega, by omega⟩
theorem size_left (v : V) : sizeV v = if leftV 65536 v < 0 then 65537 else 65536 - leftV 65536 v := by
  obtain ⟨g1, g2, g3⟩ := fit_any v 0 (by omega)
  rw [show (65536 : Int) - 0 = 65536 by omega] at g2 g3
  unfold sizeV
  by_cases h : 65536 < szFrom 0 v
  · have := g3 h
    rw [if_pos this]
    split <;> omega
  · have := g2 (by omega)
    rw [if_neg (by omega), if_neg (by omega)]
    omega

def LeftAt (t : T) : Prop := ∀ (room : Int) (w : World), -65600 ≤ room → room ≤ 65536 → t.In w → Calls Tryd.prog 92 #[t.arg, .int .i64 room] w fun e w' => e = .returned (.int .i64 (leftV room t.val)) ∧ Below w.heap.size w w'
def Box1 (w wr : World) (a : T) : Prop := Below w.heap.size w wr ∧ wr.heap[w.heap.size]? = some (.cells a.cells.toArray 25 (0, 0))
theorem Box1.then_ {w wr w' : World} {a : T} (h : Box1 w wr a) (hb : Below wr.heap.size wr w') : Box1 w w' a := ⟨below_then h.1 hb, row_then h.2 hb⟩
theorem Box1.start (w : World) (a : T) : Box1 w (w.alloc (.cells a.cells.toArray 25)) a := ⟨below1 _ _, heap_alloc_new _ _⟩

set_option maxHeartbeats 4000000 in
theorem left_any (t : T) : t.ok → LeftAt t := by
  induction t using T.ind with
  | h kx nx sx lax lcx lx dax dcx dx ihl ihd =>
  intro ok room w h0 hn hin
  show Calls _ _ #[.agg #[.int .i64 kx, .int .i64 nx, .string sx, .slice lax lx.length lcx, .slice dax dx.length dcx], .int .i64 room] _ _
  obtain ⟨-, -, -, -, hs, hl1, hl2, hd1, hd2, okl, okd⟩ := ok.parts
  have HV := Lib.hid (show leftV room (T.mk kx nx sx lax lcx lx dax dcx dx).val = _ by rw [T.val_mk, leftV])
  have IHL := Lib.hid (fun x hx => ihl x hx (okl x hx))
  have IHD := Lib.hid (fun x hx => ihd x hx (okd x hx).2)
  have LL := Lib.hid (fun x hx => low_any x (okl x hx))
  have LD := Lib.hid (fun x hx => low_any x.2 (okd x hx).2)
  have SD := Lib.hid (fun x hx => (okd x hx).1)
  have HIN := Lib.hid hin.parts
  clear ihl ihd okl okd hin ok hl1 hd1
  by_cases k3 : kx = 3
  · subst k3
    go_enter Tryd.func92, Tryd.ntmps92
    go_wp2_with fail
    go_ret
    exact ⟨ret_int (by rw [HV.out]; simp), below1 _ _⟩
  by_cases k10 : kx = 10
  · subst k10
    go_enter Tryd.func92, Tryd.ntmps92
    go_wp2_with fail
    go_ret
    exact ⟨ret_int (by rw [HV.out]; simp), below1 _ _⟩
  by_cases k4 : kx = 4
  · subst k4
    by_cases hb : 65536 < (sx.size : Int)
    · go_enter Tryd.func92, Tryd.ntmps92
      go_wp2_with fail
      go_ret
      exact ⟨ret_int (by rw [HV.out]; simp [hb]), below1 _ _⟩
    · go_enter Tryd.func92, Tryd.ntmps92
      go_wp2_with fail
      go_ret
      exact ⟨ret_int (by rw [HV.out]; simp; omega), below1 _ _⟩
  by_cases k7 : kx = 7
  · subst k7
    by_cases hb : 65536 < (sx.size : Int)
    · go_enter Tryd.func92, Tryd.ntmps92
      go_wp2_with fail
      go_ret
      exact ⟨ret_int (by rw [HV.out]; simp [hb]), below1 _ _⟩
    · go_enter Tryd.func92, Tryd.ntmps92
      go_wp2_with fail
      go_ret
      exact ⟨ret_int (by rw [HV.out]; simp; omega), below1 _ _⟩
  by_cases k8 : kx = 8
  · subst k8
    go_enter Tryd.func92, Tryd.ntmps92
    go_wp2_with fail
    go_ret
    exact ⟨ret_int (by rw [HV.out]; simp), below1 _ _⟩
  by_cases k9 : kx = 9
  · subst k9
    go_enter Tryd.func92, Tryd.ntmps92
    go_wp2_with fail
    go_ret
    exact ⟨ret_int (by rw [HV.out]; simp), below1 _ _⟩
  by_cases k5 : kx = 5
  · subst k5
    replace HV := Lib.hid (show leftV room (T.mk 5 nx sx lax lcx lx dax dcx dx).val = leftD (room - 5) (dx.map fun f => (f.1, f.2.val)) by rw [HV.out]; simp)
    go_enter Tryd.func92, Tryd.ntmps92
    go_wp2_with fail
    go_loopw [1, 5] (fun r i wr => ∃ (k : Nat) (m : Int), k ≤ dx.length ∧ -131200 ≤ m ∧ m ≤ 65536 ∧ r = .int .i64 m ∧ i = .int .i64 k ∧ Box1 w wr (.mk 5 nx sx lax lcx lx dax dcx dx) ∧ leftD (room - 5) (dx.map fun f => (f.1, f.2.val)) = leftD m ((dx.map fun f => (f.1, f.2.val)).drop k)) (fun _ i _ => dx.length - (intOf i).toNat)
    case atStart => exact ⟨0, room - 5, by omega, by omega, by omega, rfl, rfl, Box1.start w (.mk 5 nx sx lax lcx lx dax dcx dx), by simp⟩
    case round =>
      obtain ⟨k, m, hk, hm0, hm, rfl, rfl, ⟨hbel, qa⟩, heq⟩ := hrel
      have HH := Lib.hid heq
      have QA := Lib.hid qa
      have ka : ∀ o, wr.cell? ⟨w.heap.size, o, none⟩ = (#[.int .i64 5, .int .i64 nx, .string sx, .slice lax lx.length lcx, .slice dax dx.length dcx] : Array Value)[o]? := row_cells qa
      clear heq qa
      by_cases h1 : k < dx.length
      · by_cases hneg : m < 0
        · go_wp2_with fail
          go_ret
          exact ⟨ret_int (by rw [HV.out, HH.out, leftD_neg hneg]), hbel⟩
        · obtain ⟨b, o, f, k1, n1, s1, la1, lc1, l1, da1, dc1, d1, rfl, hx, hix, x0, x1, x2, x3, x4, x5⟩ := (HIN.out.2.then_ hbel).six h1
          have hfs : f.size ≤ 140737488351232 := SD.out _ (List.mem_of_getElem? hx)
          have H := Lib.hid (IHD.out _ (List.mem_of_getElem? hx))
          have HL := Lib.hid (LD.out _ (List.mem_of_getElem? hx))
          have HT := Lib.hid (leftD_step (n := m) (by omega) (l := dx.map fun f => (f.1, f.2.val)) (k := k) (x := (f, (T.mk k1 n1 s1 la1 lc1 l1 da1 dc1 d1).val)) (by rw [List.getElem?_map, hx]; rfl))
          clear hx
          simp only at H HL HT
          have hm1 : 0 ≤ m := by omega
          by_cases hb : 65536 < (f.size : Int)
          · go_wp2_with fail
            go_ret
            exact ⟨ret_int (by rw [HV.out, HH.out, HT.out, if_pos hb]), hbel⟩
          · have W1 := Lib.hid (IntWalk.i64_in (m - 2) (by omega))
            have W2 := Lib.hid (IntWalk.i64_in (m - 2 - f.size) (by omega))
            obtain ⟨g1, g2⟩ := HL.out (m - 2 - f.size) (by omega) (by omega)
            go_wp2_with fail
            go_still_tail 16, (by kernel_rfl)
            change wpList _ _ _ _ _ wr.drew
            go_wp2_with (go_at_call 92; refine (H.out _ wr.drew (by omega) (by omega) hix).mono ?_; rintro e w1 ⟨rfl, b0⟩; have b1 : Below wr.heap.size wr w1 := ⟨b0.os, b0.tape, b0.output, b0.size, b0.block⟩; clear b0)
            go_roundw
            case rel => exact ⟨k + 1, _, by omega, g1, g2, rfl, by go_num, Box1.then_ ⟨hbel, QA.out⟩ b1, by rw [HH.out, HT.out, if_neg (by omega)]⟩
            case measure => simp [intOf]; omega
      · go_wp2_with fail
        go_ret
        exact ⟨ret_int (by rw [HV.out, HH.out, leftD_done (by simp; omega)]), hbel⟩
  by_cases k6 : kx = 6
  · subst k6
    replace HV := Lib.hid (show leftV room (T.mk 6 nx sx lax lcx lx dax dcx dx).val = leftL (room - 5) 0 (lx.map T.val) by rw [HV.out]; simp)
    go_enter Tryd.func92, Tryd.ntmps92
    go_wp2_with fail
    go_loopw [1, 6] (fun r i wr => ∃ (k : Nat) (m : Int), k ≤ lx.length ∧ -131200 ≤ m ∧ m ≤ 65536 ∧ r = .int .i64 m ∧ i = .int .i64 k ∧ Box1 w wr (.mk 6 nx sx lax lcx lx dax dcx dx) ∧ leftL (room - 5) 0 (lx.map T.val) = leftL m k ((lx.map T.val).drop k)) (fun _ i _ => lx.length - (intOf i).toNat)
    case atStart => exact ⟨0, room - 5, by omega, by omega, by omega, rfl, rfl, Box1.start w (.mk 6 nx sx lax lcx lx dax dcx dx), by simp⟩
    case round =>
      obtain ⟨k, m, hk, hm0, hm, rfl, rfl, ⟨hbel, qa⟩, heq⟩ := hrel
      have HH := Lib.hid heq
      have QA := Lib.hid qa
      have ka : ∀ o, wr.cell? ⟨w.heap.size, o, none⟩ = (#[.int .i64 6, .int .i64 nx, .string sx, .slice lax lx.length lcx, .slice dax dx.length dcx] : Array Value)[o]? := row_cells qa
      clear heq qa
      by_cases h1 : k < lx.length
      · by_cases hneg : m < 0
        · go_wp2_with fail
          go_ret
          exact ⟨ret_int (by rw [HV.out, HH.out, leftL_neg hneg]), hbel⟩
        · obtain ⟨b, o, k1, n1, s1, la1, lc1, l1, da1, dc1, d1, rfl, hx, hix, x0, x1, x2, x3, x4⟩ := (HIN.out.1.then_ hbel).five h1
          have H := Lib.hid (IHL.out _ (List.mem_of_getElem? hx))
          have HL := Lib.hid (LL.out _ (List.mem_of_getElem? hx))
          have HT := Lib.hid (leftL_step (n := m) (by omega) (l := lx.map T.val) (k := k) (x := (T.mk k1 n1 s1 la1 lc1 l1 da1 dc1 d1).val) (by rw [List.getElem?_map, hx]; rfl))
          clear hx
          have hm1 : 0 ≤ m := by omega
          have hdd := digN_small 14 k (by simp; omega)
          have hd1 := digN_pos k
          have HD := Lib.hid (fun w => (refDigits_any k (by omega) w).mono (fun e w' h => (⟨h.1, h.2.symm⟩ : e = .returned (.int .i64 (digN k)) ∧ w' = w)))
          have W1 := Lib.hid (IntWalk.i64_in (m - 2) (by omega))
          have W2 := Lib.hid (IntWalk.i64_in (m - 2 - digN k) (by omega))
          obtain ⟨g1, g2⟩ := HL.out (m - 2 - digN k) (by omega) (by omega)
          go_wp2_with fail
          refine wp_region_still_tail 10 (by kernel_rfl) (by kernel_rfl) ?_
          change wpStill _ _ wr.drew (fun a' => wpList _ _ _ _ a' wr.drew) _ _
          simp only [List.take_succ_cons, List.take_zero, List.drop_succ_cons, List.drop_zero]
          still_step
          still_step
          still_step
          still_step
          still_step
          still_step
          still_step
          still_step
          still_call (HD.out _)
          still_step
          refine wpStill_nil ?_
          simp only [W1.out, W2.out]
          go_wp2_with (go_at_call 92; refine (H.out _ wr.drew (by omega) (by omega) hix).mono ?_; rintro e w1 ⟨rfl, b0⟩; have b1 : Below wr.heap.size wr w1 := ⟨b0.os, b0.tape, b0.output, b0.size, b0.block⟩; clear b0)
          go_roundw
          case rel => exact ⟨k + 1, _, by omega, g1, g2, rfl, by go_num, Box1.then_ ⟨hbel, QA.out⟩ b1, by rw [HH.out, HT.out]⟩
          case measure => simp [intOf]; omega
      · go_wp2_with fail
        go_ret
        exact ⟨ret_int (by rw [HV.out, HH.out, leftL_done (by simp; omega)]), hbel⟩
  have hz : leftV room (T.mk kx nx sx lax lcx lx dax dcx dx).val = room := by rw [HV.out]; simp [k3, k4, k5, k6, k7, k8, k9, k10]
  replace hz := Lib.hid hz
  have b3 : ((kx : Int) == 3) = false := by simp [k3]
  have b4 : ((kx : Int) == 4) = false := by simp [k4]
  have b5 : ((kx : Int) == 5) = false := by simp [k5]
  have b6 : ((kx : Int) == 6) = false := by simp [k6]
  have b7 : ((kx : Int) == 7) = false := by simp [k7]
  have b8 : ((kx : Int) == 8) = false := by simp [k8]
  have b9 : ((kx : Int) == 9) = false := by simp [k9]
  have b10 : ((kx : Int) == 10) = false := by simp [k10]
  clear k3 k4 k5 k6 k7 k8 k9 k10
  go_enter Tryd.func92, Tryd.ntmps92
  go_wp2_with fail
  go_ret
  exact ⟨ret_int (by rw [hz.out]), below1 _ _⟩

/-- The document's Size. -/
theorem refSize_any (t : T) (ok : t.ok) (w : World) (hin : t.In w) : Calls Tryd.prog 63 #[t.arg] w fun e w' => e = .returned (.int .i64 (sizeV t.val)) ∧ Below w.heap.size w w' := by
  have H := Lib.hid (fun w h => left_any t ok 65536 w (by omega) (by omega) h)
  obtain ⟨g1, g2⟩ := low_any t ok 65536 (by omega) (by omega)
  rw [size_left]
  obtain ⟨kx, nx, sx, lax, lcx, lx, dax, dcx, dx⟩ := t
  show Calls _ _ #[.agg #[.int .i64 kx, .int .i64 nx, .string sx, .slice lax lx.length lcx, .slice dax dx.length dcx]] _ _
  clear ok
  generalize leftV 65536 (T.mk kx nx sx lax lcx lx dax dcx dx).val = left at H g1 g2 ⊢
  go_enter Tryd.func63, Tryd.ntmps63
  go_wp2_with (go_at_call 92; refine (H.out _ (hin.then_ (below1 _ _))).mono ?_; rintro e w1 ⟨rfl, b1⟩)
  · go_ret
    exact ⟨rfl, below_then (below1 _ _) b1⟩
  · go_ret
    exact ⟨rfl, below_then (below1 _ _) b1⟩
end Go.Proofs.YtdlgngnibbaamaaDoor
namespace Go.Proofs.YtdlgngnibbaamaaDoor
open Go.RowKit
set_option maxRecDepth 100000

theorem index_neg (l : List UInt8) : (Lib.indexByte l 0 < 0) ↔ ∀ c ∈ l, c ≠ 0 := by
  induction l with
  | nil => simp [Lib.indexByte]
  | cons x r ih =>
    have hge := Lib.indexByte_ge r 0
    rw [Lib.indexByte]
    by_cases hx : x = 0
    · subst hx; simp
    · have hb : (x == 0) = false := by simpa using hx
      rw [if_neg (by simp [hb])]
      constructor
      · intro h c hc
        rcases List.mem_cons.1 hc with rfl | hc
        · exact hx
        · refine ih.1 ?_ c hc
          split at h
          · rename_i h2; have := eq_of_beq h2; omega
          · omega
      · intro h
        have := ih.2 (fun c hc => h c (by simp [hc]))
        have h3 : Lib.indexByte r 0 = -1 := by omega
        rw [if_pos (by simp [h3])]
        omega
set_option maxHeartbeats 1000000 in
theorem refName_any (s : ByteArray) (w : World) (hs : s.size ≤ 140737488351232) (hT : Tabs w) : Calls Tryd.prog 94 #[.string s] w fun e w' => e = .returned (.bool (nameOk s)) ∧ Below w.heap.size w w' := by
  have HN := Lib.hid (show nameOk s = _ by unfold nameOk; rfl)
  have HV := Lib.hid (fun w h => valid_any s w (by omega) h)
  have HZ : (s.toList == []) = (s.size == 0) := by
    rw [Lib.toList_data, Bool.eq_iff_iff]
    rw [show s.size = s.data.toList.length by rfl]
    cases s.data.toList <;> simp
  rw [HZ] at HN
  clear HZ
  generalize hv : Lib.validD s.data.toList = valid at HN HV
  clear hv
  go_enter Tryd.func94, Tryd.ntmps94
  by_cases h1 : s.size < 1
  · have HF := Lib.hid (show nameOk s = false by rw [HN.out, show s.size = 0 by omega]; simp)
    clear HN
    go_wp2_with (go_at_call 103; refine (HV.out _ hT).mono ?_; rintro e w1 ⟨rfl, b1⟩)
    go_ret
    exact ⟨ret_bool (by rw [HF.out]), b1⟩
  by_cases h2 : 100 < s.size
  · have HF := Lib.hid (show nameOk s = false by rw [HN.out]; simp; omega)
    clear HN
    go_wp2_with (go_at_call 103; refine (HV.out _ hT).mono ?_; rintro e w1 ⟨rfl, b1⟩)
    go_ret
    exact ⟨ret_bool (by rw [HF.out]), b1⟩
  cases valid
  · have HF := Lib.hid (show nameOk s = false by rw [HN.out]; simp)
    clear HN
    go_wp2_with (go_at_call 103; refine (HV.out _ hT).mono ?_; rintro e w1 ⟨rfl, b1⟩)
    go_ret
    exact ⟨ret_bool (by rw [HF.out]), b1⟩
  · have HF := Lib.hid (show nameOk s = decide (Lib.indexByte s.data.toList 0 < 0) by
      rw [HN.out, show (s.size == 0) = false from beq_eq_false_iff_ne.2 (by omega), show decide (s.size ≤ 100) = true from decide_eq_true (by omega)]; simp)
    clear HN
    go_wp2_with (go_at_call 103; refine (HV.out _ hT).mono ?_; rintro e w1 ⟨rfl, b1⟩)
    go_loop [4] (fun i => ∃ k : Nat, k ≤ s.size ∧ i = .int .i64 k ∧ ∀ c ∈ s.data.toList.take k, c ≠ 0) (fun i => s.size - (intOf i).toNat)
    case atStart => exact ⟨0, by omega, rfl, by simp⟩
    case round =>
      obtain ⟨k, hk, rfl, hz⟩ := hrel
      have HZ := Lib.hid hz
      clear hz
      by_cases hlt : k < s.size
      · have HS := Lib.hid (show s.data.toList.take (k + 1) = s.data.toList.take k ++ [s[k]] by rw [List.take_succ_eq_append_getElem (by simpa using hlt)]; rfl)
        go_wp2_with fail
        · have hz := ‹((_ : Int) == 0) = true›
          go_ret
          refine ⟨ret_bool ?_, b1⟩
          rw [HF.out]
          have h0 : s[k] = 0 := by
            have := eq_of_beq hz
            exact UInt8.toNat_inj.1 (by simpa using this)
          have hm : s[k] ∈ s.data.toList := List.mem_of_mem_take (i := k + 1) (by rw [HS.out]; simp)
          exact (decide_eq_false (fun hc => (index_neg _).1 hc _ hm h0)).symm
        · have hz := ‹((_ : Int) == 0) = false›
          go_round
          case rel =>
            refine ⟨k + 1, by omega, by go_num, fun c hc => ?_⟩
            rw [HS.out] at hc
            rcases List.mem_append.1 hc with hc | hc
            · exact HZ.out c hc
            · simp at hc
              subst hc
              intro h0
              rw [h0] at hz
              simp at hz
          case measure => simp [intOf]; omega
      · go_wp2_with fail
        go_ret
        refine ⟨ret_bool ?_, b1⟩
        rw [HF.out]
        have := HZ.out
        rw [List.take_of_length_le (by simp; omega)] at this
        simpa using (index_neg _).2 this
end Go.Proofs.YtdlgngnibbaamaaDoor
namespace Go.Proofs.YtdlgngnibbaamaaDoor
open Go.RowKit
set_option maxRecDepth 100000

def PlainAt (t : T) (w : World) : Prop := Calls Tryd.prog 93 #[t.arg] w fun e w' => e = .returned (.bool (aloneV t.val && fitsV t.val)) ∧ Below w.heap.size w w'
set_option maxHeartbeats 8000000 in
theorem plain_any (t : T) (ok : t.ok) (w : World) (hT : Tabs w) : PlainAt t w := by
  obtain ⟨kx, nx, sx, lax, lcx, lx, dax, dcx, dx⟩ := t
  show Calls _ _ #[.agg #[.int .i64 kx, .int .i64 nx, .string sx, .slice lax lx.length lcx, .slice dax dx.length dcx]] _ _
  obtain ⟨-, -, -, -, hs, hl1, hl2, hd1, hd2, okl, okd⟩ := ok.parts
  clear okl okd ok
  have HV := Lib.hid (fun w h => valid_any sx w (by omega) h)
  have HW := Lib.hid (show (aloneV (T.mk kx nx sx lax lcx lx dax dcx dx).val && fitsV (T.mk kx nx sx lax lcx lx dax dcx dx).val) = _ by rw [T.val_mk, aloneV, fitsV, List.length_map, List.length_map])
  generalize hv : Lib.validD sx.data.toList = valid at HV HW
  generalize hq : (aloneV (T.mk kx nx sx lax lcx lx dax dcx dx).val && fitsV (T.mk kx nx sx lax lcx lx dax dcx dx).val) = q at HW ⊢
  clear hv hq hl1 hl2 hd1 hd2
  generalize lx.length = ll at HW ⊢
  generalize dx.length = dl at HW ⊢
  by_cases k3 : kx = 3
  · subst k3
    rcases Nat.eq_zero_or_pos ll with hl | hl <;> rcases Nat.eq_zero_or_pos dl with hd | hd
    all_goals
      try subst hl
      try subst hd
      go_enter Tryd.func93, Tryd.ntmps93
      go_wp2_with (go_at_call 103; refine (HV.out _ (hT.then_ (below1 _ _))).mono ?_; rintro e w1 ⟨rfl, b1⟩; have fa : ∀ o, w1.cell? ⟨w.heap.size, o, none⟩ = _ := row_cells (row_then (heap_alloc_new w (.cells _ 25)) b1))
      all_goals
        go_ret
        refine ⟨ret_bool ?_, by first | exact below1 _ _ | exact below_then (below1 _ _) b1⟩
        rw [HW.out]
        go_light
        first | (simp; done) | (simp_all; done) | (simp; omega) | (simp_all; omega)
  by_cases k10 : kx = 10
  · subst k10
    rcases Nat.eq_zero_or_pos ll with hl | hl <;> rcases Nat.eq_zero_or_pos dl with hd | hd
    all_goals
      try subst hl
      try subst hd
      go_enter Tryd.func93, Tryd.ntmps93
      go_wp2_with (go_at_call 103; refine (HV.out _ (hT.then_ (below1 _ _))).mono ?_; rintro e w1 ⟨rfl, b1⟩; have fa : ∀ o, w1.cell? ⟨w.heap.size, o, none⟩ = _ := row_cells (row_then (heap_alloc_new w (.cells _ 25)) b1))
      all_goals
        go_ret
        refine ⟨ret_bool ?_, by first | exact below1 _ _ | exact below_then (below1 _ _) b1⟩
        rw [HW.out]
        go_light
        first | (simp; done) | (simp_all; done) | (simp; omega) | (simp_all; omega)
  by_cases k9 : kx = 9
  · subst k9
    rcases Nat.eq_zero_or_pos ll with hl | hl <;> rcases Nat.eq_zero_or_pos dl with hd | hd
    all_goals
      try subst hl
      try subst hd
      go_enter Tryd.func93, Tryd.ntmps93
      go_wp2_with (go_at_call 103; refine (HV.out _ (hT.then_ (below1 _ _))).mono ?_; rintro e w1 ⟨rfl, b1⟩; have fa : ∀ o, w1.cell? ⟨w.heap.size, o, none⟩ = _ := row_cells (row_then (heap_alloc_new w (.cells _ 25)) b1))
      all_goals
        go_ret
        refine ⟨ret_bool ?_, by first | exact below1 _ _ | exact below_then (below1 _ _) b1⟩
        rw [HW.out]
        go_light
        first | (simp; done) | (simp_all; done) | (simp; omega) | (simp_all; omega)
  by_cases k4 : kx = 4
  · subst k4
    rcases Nat.eq_zero_or_pos ll with hl | hl <;> rcases Nat.eq_zero_or_pos dl with hd | hd
    all_goals
      try subst hl
      try subst hd
      go_enter Tryd.func93, Tryd.ntmps93
      go_wp2_with (go_at_call 103; refine (HV.out _ (hT.then_ (below1 _ _))).mono ?_; rintro e w1 ⟨rfl, b1⟩; have fa : ∀ o, w1.cell? ⟨w.heap.size, o, none⟩ = _ := row_cells (row_then (heap_alloc_new w (.cells _ 25)) b1))
      all_goals
        go_ret
        refine ⟨ret_bool ?_, by first | exact below1 _ _ | exact below_then (below1 _ _) b1⟩
        rw [HW.out]
        go_light
        first | (simp; done) | (simp_all; done) | (simp; omega) | (simp_all; omega)
  by_cases k7 : kx = 7
  · subst k7
    rcases Nat.eq_zero_or_pos ll with hl | hl <;> rcases Nat.eq_zero_or_pos dl with hd | hd
    all_goals
      try subst hl
      try subst hd
      go_enter Tryd.func93, Tryd.ntmps93
      go_wp2_with (go_at_call 103; refine (HV.out _ (hT.then_ (below1 _ _))).mono ?_; rintro e w1 ⟨rfl, b1⟩; have fa : ∀ o, w1.cell? ⟨w.heap.size, o, none⟩ = _ := row_cells (row_then (heap_alloc_new w (.cells _ 25)) b1))
      all_goals
        go_ret
        refine ⟨ret_bool ?_, by first | exact below1 _ _ | exact below_then (below1 _ _) b1⟩
        rw [HW.out]
        go_light
        first | (simp; done) | (simp_all; done) | (simp; omega) | (simp_all; omega)
  by_cases k8 : kx = 8
  · subst k8
    rcases Nat.eq_zero_or_pos ll with hl | hl <;> rcases Nat.eq_zero_or_pos dl with hd | hd
    all_goals
      try subst hl
      try subst hd
      go_enter Tryd.func93, Tryd.ntmps93
      go_wp2_with (go_at_call 103; refine (HV.out _ (hT.then_ (below1 _ _))).mono ?_; rintro e w1 ⟨rfl, b1⟩; have fa : ∀ o, w1.cell? ⟨w.heap.size, o, none⟩ = _ := row_cells (row_then (heap_alloc_new w (.cells _ 25)) b1))
      all_goals
        go_ret
        refine ⟨ret_bool ?_, by first | exact below1 _ _ | exact below_then (below1 _ _) b1⟩
        rw [HW.out]
        go_light
        first | (simp; done) | (simp_all; done) | (simp; omega) | (simp_all; omega)
  by_cases k6 : kx = 6
  · subst k6
    rcases Nat.eq_zero_or_pos ll with hl | hl <;> rcases Nat.eq_zero_or_pos dl with hd | hd
    all_goals
      try subst hl
      try subst hd
      go_enter Tryd.func93, Tryd.ntmps93
      go_wp2_with (go_at_call 103; refine (HV.out _ (hT.then_ (below1 _ _))).mono ?_; rintro e w1 ⟨rfl, b1⟩; have fa : ∀ o, w1.cell? ⟨w.heap.size, o, none⟩ = _ := row_cells (row_then (heap_alloc_new w (.cells _ 25)) b1))
      all_goals
        go_ret
        refine ⟨ret_bool ?_, by first | exact below1 _ _ | exact below_then (below1 _ _) b1⟩
        rw [HW.out]
        go_light
        first | (simp; done) | (simp_all; done) | (simp; omega) | (simp_all; omega)
  by_cases k5 : kx = 5
  · subst k5
    rcases Nat.eq_zero_or_pos ll with hl | hl <;> rcases Nat.eq_zero_or_pos dl with hd | hd
    all_goals
      try subst hl
      try subst hd
      go_enter Tryd.func93, Tryd.ntmps93
      go_wp2_with (go_at_call 103; refine (HV.out _ (hT.then_ (below1 _ _))).mono ?_; rintro e w1 ⟨rfl, b1⟩; have fa : ∀ o, w1.cell? ⟨w.heap.size, o, none⟩ = _ := row_cells (row_then (heap_alloc_new w (.cells _ 25)) b1))
      all_goals
        go_ret
        refine ⟨ret_bool ?_, by first | exact below1 _ _ | exact below_then (below1 _ _) b1⟩
        rw [HW.out]
        go_light
        first | (simp; done) | (simp_all; done) | (simp; omega) | (simp_all; omega)
  have b3 : ((kx : Int) == 3) = false := by simp [k3]
  have b4 : ((kx : Int) == 4) = false := by simp [k4]
  have b5 : ((kx : Int) == 5) = false := by simp [k5]
  have b6 : ((kx : Int) == 6) = false := by simp [k6]
  have b7 : ((kx : Int) == 7) = false := by simp [k7]
  have b8 : ((kx : Int) == 8) = false := by simp [k8]
  have b9 : ((kx : Int) == 9) = false := by simp [k9]
  have b10 : ((kx : Int) == 10) = false := by simp [k10]
  have c5 : ((kx : Int) != 5) = true := by simp [k5]
  have c6 : ((kx : Int) != 6) = true := by simp [k6]
  replace HW := Lib.hid (show q = ((nx == 0) && ((sx.toList == []) && ((ll == 0) && (dl == 0))) && (decide (1 ≤ kx) && decide (kx ≤ 11))) by rw [HW.out]; simp [k3, k4, k5, k6, k7, k8, k9, k10])
  clear k3 k4 k5 k6 k7 k8 k9 k10
  rcases Nat.eq_zero_or_pos ll with hl | hl <;> rcases Nat.eq_zero_or_pos dl with hd | hd
  all_goals
      try subst hl
      try subst hd
      go_enter Tryd.func93, Tryd.ntmps93
      go_wp2_with (go_at_call 103; refine (HV.out _ (hT.then_ (below1 _ _))).mono ?_; rintro e w1 ⟨rfl, b1⟩; have fa : ∀ o, w1.cell? ⟨w.heap.size, o, none⟩ = _ := row_cells (row_then (heap_alloc_new w (.cells _ 25)) b1))
      all_goals
        go_ret
        refine ⟨ret_bool ?_, by first | exact below1 _ _ | exact below_then (below1 _ _) b1⟩
        rw [HW.out]
        go_light
        first | (simp; done) | (simp_all; done) | (simp; omega) | (simp_all; omega)
end Go.Proofs.YtdlgngnibbaamaaDoor
namespace Go.Proofs.YtdlgngnibbaamaaDoor
open Go.RowKit
set_option maxRecDepth 100000

theorem alone_split {k n : Int} {s : ByteArray} {l : List V} {d : List (ByteArray × V)} (h : aloneV (.mk k n s l d) = true) : (k = 6 ∨ l = []) ∧ (k = 5 ∨ d = []) := by
  simp only [aloneV, Bool.and_eq_true, Bool.or_eq_true, decide_eq_true_eq, beq_iff_eq] at h
  obtain ⟨-, -, h1, h2⟩ := h
  exact ⟨h1.imp id List.eq_nil_of_length_eq_zero, h2.imp id List.eq_nil_of_length_eq_zero⟩
def mayV (f : ByteArray) (l : List (ByteArray × T)) (k : Nat) : Bool := nameOk f && !((l.take k).map fun g => g.1.data.toList).contains f.data.toList
theorem may_zero (f : ByteArray) (l : List (ByteArray × T)) : mayV f l 0 = nameOk f := by simp [mayV]
theorem may_step {f : ByteArray} {l : List (ByteArray × T)} {k : Nat} {x : ByteArray × T} (hx : l[k]? = some x) : mayV f l (k + 1) = (mayV f l k && !(x.1.toList == f.toList)) := by
  unfold mayV
  rw [List.take_add_one, hx, List.map_append, Bool.and_assoc]
  congr 1
  rw [← Bool.not_or]
  congr 1
  rw [List.contains_append, Lib.toList_data, Lib.toList_data]
  congr 1
  simp only [Option.toList_some, List.map_cons, List.map_nil, List.contains_cons, List.contains_nil, Bool.or_false]
  exact BEq.comm
theorem may_done (f : ByteArray) (l : List (ByteArray × T)) (k : Nat) : (((l.take k).map fun g => g.1.data.toList).contains f.data.toList || !nameOk f) = !mayV f l k := by
  unfold mayV
  cases nameOk f <;> cases ((l.take k).map fun g => g.1.data.toList).contains f.data.toList <;> rfl

def WalkAt (t : T) : Prop := ∀ (deep : Int) (w : World), 0 ≤ deep → deep ≤ 100 → t.In w → Tabs w →
    Calls Tryd.prog 64 #[t.arg, .int .i64 deep] w fun e w' => e = .returned (.int .i64 (rightV deep t.val)) ∧ Below w.heap.size w w'
set_option maxHeartbeats 4000000 in
theorem walk_any (t : T) : t.ok → WalkAt t := by
  induction t using T.ind with
  | h kx nx sx lax lcx lx dax dcx dx ihl ihd =>
  intro ok deep w h0 hn hin hT
  have HP := Lib.hid (fun w h => plain_any (.mk kx nx sx lax lcx lx dax dcx dx) ok w h)
  unfold PlainAt at HP
  have HV := Lib.hid (show rightV deep (T.mk kx nx sx lax lcx lx dax dcx dx).val = _ by rw [T.val_mk, rightV, ← T.val_mk kx nx sx lax lcx lx dax dcx dx])
  have HQ := Lib.hid (fun h => alone_split (k := kx) (n := nx) (s := sx) (l := lx.map T.val) (d := dx.map fun f => (f.1, f.2.val)) h)
  rw [← T.val_mk kx nx sx lax lcx lx dax dcx dx] at HQ
  obtain ⟨-, -, -, -, hs, hl1, hl2, hd1, hd2, okl, okd⟩ := ok.parts
  show Calls _ _ #[.agg #[.int .i64 kx, .int .i64 nx, .string sx, .slice lax lx.length lcx, .slice dax dx.length dcx], .int .i64 deep] _ _
  have IHL := Lib.hid (fun x hx => ihl x hx (okl x hx))
  have IHD := Lib.hid (fun x hx => ihd x hx (okd x hx).2)
  have SD := Lib.hid (fun x hx => (okd x hx).1)
  have HIN := Lib.hid hin
  have HT := Lib.hid hT
  have HB := Lib.hid (Box1.start w (.mk kx nx sx lax lcx lx dax dcx dx))
  clear ihl ihd okl okd hin ok hl1 hd1 hT
  generalize (T.mk kx nx sx lax lcx lx dax dcx dx).val = v at HP HV HQ ⊢
  generalize hA : aloneV v = av at HP HV HQ
  generalize hF : fitsV v = fv at HP HV
  clear hA hF
  by_cases k6 : kx = 6
  · subst k6
    by_cases hd : 20 < deep
    · replace HV := Lib.hid (show rightV deep v = 12 by rw [HV.out]; simp [hd])
      go_enter Tryd.func64, Tryd.ntmps64
      go_wp2_with fail
      go_ret
      exact ⟨ret_int (by rw [HV.out]), below1 _ _⟩
    · by_cases hq : (av && fv) = true
      · have hav : av = true := by cases av <;> simp_all
        have e1 : dx = [] := by simpa using (HQ.out hav).2
        replace HV := Lib.hid (show rightV deep v = rightL (deep + 1) (lx.map T.val) by rw [HV.out]; simp [hd, hq])
        rw [hq] at HP
        subst e1
        clear hq hav HQ IHD SD
        go_enter Tryd.func64, Tryd.ntmps64
        go_wp2_with fail
        refine (HP.out _ (HT.out.then_ (below1 _ _))).mono ?_
        rintro e w1 ⟨rfl, b1⟩
        go_wp2_with fail
        go_loopw [6, 7] (fun i _ wr => ∃ k : Nat, k ≤ lx.length ∧ i = .int .i64 k ∧ Box1 w wr (.mk 6 nx sx lax lcx lx dax dcx []) ∧ rightL (deep + 1) (lx.map T.val) = rightL (deep + 1) ((lx.map T.val).drop k)) (fun i _ _ => lx.length - (intOf i).toNat)
        case atStart => exact ⟨0, by omega, rfl, HB.out.then_ b1, by simp⟩
        case round =>
          clear b1
          obtain ⟨k, hk, rfl, ⟨hbel, qa⟩, heq⟩ := hrel
          have HH := Lib.hid heq
          have QA := Lib.hid qa
          have ka : ∀ o, wr.cell? ⟨w.heap.size, o, none⟩ = (#[.int .i64 6, .int .i64 nx, .string sx, .slice lax lx.length lcx, .slice dax 0 dcx] : Array Value)[o]? := row_cells qa
          clear heq qa
          by_cases h1 : k < lx.length
          · obtain ⟨b, o, k1, n1, s1, la1, lc1, l1, da1, dc1, d1, rfl, hx, hix, x0, x1, x2, x3, x4⟩ := (HIN.out.parts.1.then_ hbel).five h1
            have H := Lib.hid (IHL.out _ (List.mem_of_getElem? hx))
            have HT2 := Lib.hid (rightL_step (deep := deep + 1) (l := lx.map T.val) (k := k) (x := (T.mk k1 n1 s1 la1 lc1 l1 da1 dc1 d1).val) (by rw [List.getElem?_map, hx]; rfl))
            clear hx
            go_wp2_with (go_at_call 64; refine (H.out _ _ (by omega) (by omega) hix (HT.out.then_ hbel)).mono ?_; rintro e w2 ⟨rfl, b2⟩)
            · go_ret
              have hne := bne_iff_ne.1 ‹(_ != _) = true›
              exact ⟨ret_int (by rw [HV.out, HH.out, HT2.out, if_neg hne]), below_then hbel b2⟩
            · go_roundw
              case rel => exact ⟨k + 1, by omega, by go_num, Box1.then_ ⟨hbel, QA.out⟩ b2, by rw [HH.out, HT2.out, if_pos (bne_eq_false_iff_eq.1 ‹(_ != _) = false›)]⟩
              case measure => simp [intOf]; omega
          · replace HH := Lib.hid (HH.out.trans (rightL_done (by simp; omega)))
            go_wp2_with fail
            obtain ⟨wo, rfl⟩ : ∃ wo : World, wo = wr := ⟨_, rfl⟩
            go_loopw [8] (fun i wr => i = .int .i64 0 ∧ wr = wo) (fun _ _ => 0)
            case atStart => exact ⟨rfl, rfl⟩
            case round =>
              obtain ⟨rfl, rfl⟩ := hrel
              go_wp2_with fail
              go_ret
              exact ⟨ret_int (by rw [HV.out, HH.out]), hbel⟩
      · have hq2 : (av && fv) = false := by simpa using hq
        replace HV := Lib.hid (show rightV deep v = 10 by rw [HV.out]; simp [hd, hq2])
        rw [hq2] at HP
        clear hq hq2 HQ
        go_enter Tryd.func64, Tryd.ntmps64
        go_wp2_with fail
        refine (HP.out _ (HT.out.then_ (below1 _ _))).mono ?_
        rintro e w1 ⟨rfl, b1⟩
        go_wp2_with fail
        go_ret
        exact ⟨ret_int (by rw [HV.out]), (HB.out.then_ b1).1⟩
  by_cases k5 : kx = 5
  · subst k5
    by_cases hd : 20 < deep
    · replace HV := Lib.hid (show rightV deep v = 12 by rw [HV.out]; simp [hd])
      go_enter Tryd.func64, Tryd.ntmps64
      go_wp2_with fail
      go_ret
      exact ⟨ret_int (by rw [HV.out]), below1 _ _⟩
    · by_cases hq : (av && fv) = true
      · have hav : av = true := by cases av <;> simp_all
        have e1 : lx = [] := by simpa using (HQ.out hav).1
        replace HV := Lib.hid (show rightV deep v = rightD (deep + 1) [] (dx.map fun f => (f.1, f.2.val)) by rw [HV.out]; simp [hd, hq])
        rw [hq] at HP
        subst e1
        clear hq hav HQ IHL
        go_enter Tryd.func64, Tryd.ntmps64
        go_wp2_with fail
        refine (HP.out _ (HT.out.then_ (below1 _ _))).mono ?_
        rintro e w1 ⟨rfl, b1⟩
        replace HB := Lib.hid (HB.out.then_ b1)
        have ka : ∀ o, w1.cell? ⟨w.heap.size, o, none⟩ = (#[.int .i64 5, .int .i64 nx, .string sx, .slice lax 0 lcx, .slice dax dx.length dcx] : Array Value)[o]? := row_cells HB.out.2
        go_wp2_with fail
        go_loopw [6] (fun i wr => i = .int .i64 0 ∧ wr = w1) (fun _ _ => 0)
        case atStart => exact ⟨rfl, rfl⟩
        case round =>
          obtain ⟨rfl, rfl⟩ := hrel
          go_wp2_with fail
          clear ka
          obtain ⟨wo, rfl⟩ : ∃ wo : World, wo = wr := ⟨_, rfl⟩
          go_loopw [8, 9, 10, 11] (fun i _ _ _ wr => ∃ j : Nat, j ≤ dx.length ∧ i = .int .i64 j ∧ Box1 w wr (.mk 5 nx sx lax lcx [] dax dcx dx) ∧ FieldsOf (deep + 1) dx j) (fun i _ _ _ _ => dx.length - (intOf i).toNat)
          case atStart => exact ⟨0, by omega, rfl, HB.out, by simp [FieldsOf]⟩
          case round =>
            clear HB b1
            obtain ⟨j, hj, rfl, ⟨hbel, qa⟩, heq⟩ := hrel
            have HH := Lib.hid heq
            have QA := Lib.hid qa
            have ka : ∀ o, wr.cell? ⟨w.heap.size, o, none⟩ = (#[.int .i64 5, .int .i64 nx, .string sx, .slice lax 0 lcx, .slice dax dx.length dcx] : Array Value)[o]? := row_cells qa
            clear heq qa
            by_cases h1 : j < dx.length
            · obtain ⟨b, o, f1, k1, n1, s1, la1, lc1, l1, da1, dc1, d1, rfl, hx, hix, x0, x1, x2, x3, x4, x5⟩ := (HIN.out.parts.2.then_ hbel).six h1
              have hfs : f1.size ≤ 140737488351232 := SD.out _ (List.mem_of_getElem? hx)
              have H := Lib.hid (IHD.out _ (List.mem_of_getElem? hx))
              have hx2 : (dx.map fun f => (f.1, f.2.val))[j]? = some (f1, (T.mk k1 n1 s1 la1 lc1 l1 da1 dc1 d1).val) := by rw [List.getElem?_map, hx]; rfl
              have HT2 := Lib.hid (rightD_step (deep := deep + 1) hx2 ((dx.take j).map fun f => f.1.data.toList))
              have HX := Lib.hid hx
              have hlb : b < wr.heap.size := cell_lt x0
              clear hx hx2
              simp only at H HT2
              rw [may_done] at HT2
              go_wp2_with fail
              refine (refName_any f1 _ hfs (HT.out.then_ hbel)).mono ?_
              rintro e w2 ⟨rfl, b2⟩
              replace QA := Lib.hid (row_then QA.out b2)
              replace hbel := below_then hbel b2
              have XC := Lib.hid (And.intro x0 (And.intro x1 (And.intro x2 (And.intro x3 (And.intro x4 x5)))))
              clear ka x0 x1 x2 x3 x4 x5
              go_wp2_with fail
              go_loopw [9, 10] (fun m i wr => ∃ k : Nat, k ≤ j ∧ m = .bool (mayV f1 dx k) ∧ i = .int .i64 k ∧ Below w2.heap.size w2 wr) (fun _ i _ => j - (intOf i).toNat)
              case atStart => exact ⟨0, by omega, by rw [may_zero], rfl, Below.refl _ _⟩
              case round =>
                obtain ⟨k, hk, rfl, rfl, b3⟩ := hrel
                replace QA := Lib.hid (row_then QA.out b3)
                replace hbel := below_then hbel b3
                have b23 := below_then b2 b3
                have hix2 := hix.then_ b23
                have ka : ∀ i, wr.cell? ⟨w.heap.size, i, none⟩ = (#[.int .i64 5, .int .i64 nx, .string sx, .slice lax 0 lcx, .slice (some ⟨b, o, none⟩) dx.length dcx] : Array Value)[i]? := row_cells QA.out
                have y0 := (b23.cell hlb).trans XC.out.1
                by_cases hlt : k < j
                · obtain ⟨b', o', f2, k2, n2, s2, la2, lc2, l2, da2, dc2, d2, hbo, hx2, -, z0, -, -, -, -, -⟩ := (HIN.out.parts.2.then_ hbel).six (i := k) (by omega)
                  simp only [Option.some.injEq, Addr.mk.injEq] at hbo
                  obtain ⟨rfl, rfl, -⟩ := hbo
                  have hkd : k < dx.length := by omega
                  have HM := Lib.hid (may_step (f := f1) hx2)
                  clear hx2
                  by_cases hm : mayV f1 dx k = true
                  · have HMM := Lib.hid hm
                    go_wp2_with fail
                    go_quiet (fail)
                    go_wp2_with fail
                    go_roundw
                    case rel => exact ⟨k + 1, by omega, by rw [HM.out, HMM.out, Bool.true_and], by go_num, below_drewN b3 _⟩
                    case measure => simp [intOf]; omega
                  · have hm2 : mayV f1 dx k = false := by simpa using hm
                    have HMM := Lib.hid hm2
                    clear hm
                    go_wp2_with fail
                    go_quiet (fail)
                    go_wp2_with fail
                    go_roundw
                    case rel => exact ⟨k + 1, by omega, by rw [HM.out, HMM.out, Bool.false_and], by go_num, below_drewN b3 _⟩
                    case measure => simp [intOf]; omega
                · have hkj : k = j := by omega
                  subst hkj
                  by_cases hm : mayV f1 dx k = true
                  · have HMM := Lib.hid hm
                    have y1 := (b23.cell (cell_lt XC.out.2.1)).trans XC.out.2.1
                    have y2 := (b23.cell (cell_lt XC.out.2.2.1)).trans XC.out.2.2.1
                    have y3 := (b23.cell (cell_lt XC.out.2.2.2.1)).trans XC.out.2.2.2.1
                    have y4 := (b23.cell (cell_lt XC.out.2.2.2.2.1)).trans XC.out.2.2.2.2.1
                    have y5 := (b23.cell (cell_lt XC.out.2.2.2.2.2)).trans XC.out.2.2.2.2.2
                    replace HT2 := Lib.hid (HT2.out.trans (by rw [hm, Bool.not_true, if_neg (by simp)]))
                    go_wp2_with (go_at_call 64; refine (H.out _ _ (by omega) (by omega) hix2 (HT.out.then_ hbel)).mono ?_; rintro e w4 ⟨rfl, b4⟩)
                    · go_ret
                      have hne := bne_iff_ne.1 ‹(_ != _) = true›
                      exact ⟨ret_int (by rw [HV.out, HH.out, HT2.out, if_neg hne]), below_then hbel b4⟩
                    · have heq := bne_eq_false_iff_eq.1 ‹(_ != _) = false›
                      go_roundw
                      case rel => exact ⟨k + 1, by omega, by go_num, Box1.then_ ⟨hbel, QA.out⟩ b4, fields_next HX.out HH.out (HT2.out.trans (by rw [if_pos heq]))⟩
                      case measure => simp [intOf]; omega
                  · have hm2 : mayV f1 dx k = false := by simpa using hm
                    replace HT2 := Lib.hid (HT2.out.trans (by rw [hm2, Bool.not_false, if_pos rfl]))
                    clear hm
                    go_wp2_with fail
                    go_ret
                    exact ⟨ret_int (by rw [HV.out, HH.out, HT2.out]), hbel⟩
            · replace HH := Lib.hid (HH.out.trans (rightD_done (by simp; omega) _))
              go_wp2_with fail
              go_ret
              exact ⟨ret_int (by rw [HV.out, HH.out]), hbel⟩
      · have hq2 : (av && fv) = false := by simpa using hq
        replace HV := Lib.hid (show rightV deep v = 10 by rw [HV.out]; simp [hd, hq2])
        rw [hq2] at HP
        clear hq hq2 HQ
        go_enter Tryd.func64, Tryd.ntmps64
        go_wp2_with fail
        refine (HP.out _ (HT.out.then_ (below1 _ _))).mono ?_
        rintro e w1 ⟨rfl, b1⟩
        go_wp2_with fail
        go_ret
        exact ⟨ret_int (by rw [HV.out]), (HB.out.then_ b1).1⟩
  have b5 : ((kx : Int) == 5) = false := by simp [k5]
  have b6 : ((kx : Int) == 6) = false := by simp [k6]
  replace HV := Lib.hid (show rightV deep v = if av && fv then 0 else 10 by rw [HV.out, if_neg (by omega), if_neg k6, if_neg k5])
  by_cases hq : (av && fv) = true
  · have hav : av = true := by cases av <;> simp_all
    have e1 : lx = [] := by simpa [k6] using (HQ.out hav).1
    have e2 : dx = [] := by simpa [k5] using (HQ.out hav).2
    replace HV := Lib.hid (show rightV deep v = 0 by rw [HV.out]; simp [hq])
    rw [hq] at HP
    subst e1 e2
    clear hq hav HQ IHL IHD SD k5 k6
    go_enter Tryd.func64, Tryd.ntmps64
    go_wp2_with fail
    refine (HP.out _ (HT.out.then_ (below1 _ _))).mono ?_
    rintro e w1 ⟨rfl, b1⟩
    replace HB := Lib.hid (HB.out.then_ b1)
    have ka : ∀ o, w1.cell? ⟨w.heap.size, o, none⟩ = (#[.int .i64 kx, .int .i64 nx, .string sx, .slice lax 0 lcx, .slice dax 0 dcx] : Array Value)[o]? := row_cells HB.out.2
    go_wp2_with fail
    go_loopw [6] (fun i wr => i = .int .i64 0 ∧ wr = w1) (fun _ _ => 0)
    case atStart => exact ⟨rfl, rfl⟩
    case round =>
      obtain ⟨rfl, rfl⟩ := hrel
      go_wp2_with fail
      obtain ⟨wo, rfl⟩ : ∃ wo : World, wo = wr := ⟨_, rfl⟩
      go_loopw [8] (fun i wr => i = .int .i64 0 ∧ wr = wo) (fun _ _ => 0)
      case atStart => exact ⟨rfl, rfl⟩
      case round =>
        obtain ⟨rfl, rfl⟩ := hrel
        go_wp2_with fail
        go_ret
        exact ⟨ret_int (by rw [HV.out]), HB.out.1⟩
  · have hq2 : (av && fv) = false := by simpa using hq
    replace HV := Lib.hid (show rightV deep v = 10 by rw [HV.out]; simp [hq2])
    rw [hq2] at HP
    clear hq hq2 HQ k5 k6
    go_enter Tryd.func64, Tryd.ntmps64
    go_wp2_with fail
    refine (HP.out _ (HT.out.then_ (below1 _ _))).mono ?_
    rintro e w1 ⟨rfl, b1⟩
    go_wp2_with fail
    go_ret
    exact ⟨ret_int (by rw [HV.out]), (HB.out.then_ b1).1⟩

/-- The document's Right. -/
theorem refRight_any (t : T) (ok : t.ok) (w : World) (hin : t.In w) (hT : Tabs w) : Calls Tryd.prog 42 #[t.arg] w fun e w' => e = .returned (.int .i64 (rightOf t.val)) ∧ Below w.heap.size w w' := by
  have HS := Lib.hid (fun w h => refSize_any t ok w h)
  have HR := Lib.hid (walk_any t ok)
  obtain ⟨kx, nx, sx, lax, lcx, lx, dax, dcx, dx⟩ := t
  show Calls _ _ #[.agg #[.int .i64 kx, .int .i64 nx, .string sx, .slice lax lx.length lcx, .slice dax dx.length dcx]] _ _
  clear ok
  go_enter Tryd.func42, Tryd.ntmps42
  go_wp2_with (first
    | (go_at_call 63; refine (HS.out _ (hin.then_ (below1 _ _))).mono ?_; rintro e w1 ⟨rfl, hb1⟩; have hc1 : ∀ b o, b < w.heap.size + 1 → w1.cell? ⟨b, o, none⟩ = _ := fun b o h => hb1.cell (p := ⟨b, o, none⟩) (by simpa using h); have hb01 : Below w.heap.size w w1 := below_then (below1 _ _) hb1)
    | (go_at_call 64; refine (HR.out _ _ (by omega) (by omega) (by exact hin.then_ hb01) (by exact hT.then_ hb01)).mono ?_; rintro e w2 ⟨rfl, hb2⟩))
  · go_ret
    exact ⟨ret_int (by rw [rightOf, if_pos ‹_›]), hb01⟩
  · go_ret
    exact ⟨ret_int (by rw [rightOf, if_neg (by omega)]), below_then hb01 hb2⟩
end Go.Proofs.YtdlgngnibbaamaaDoor
