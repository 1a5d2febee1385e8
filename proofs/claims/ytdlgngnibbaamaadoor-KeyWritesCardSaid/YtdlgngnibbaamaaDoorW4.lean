/- Small pieces, joined: the reference's Key. No statement is proved here. -/
import Derived.Test.YtdlgngnibbaamaaDoorKKey
import Derived.Test.YtdlgngnibbaamaaDoorW2
namespace Go.Proofs.YtdlgngnibbaamaaDoor
open Go.RowKit
set_option maxRecDepth 100000

/-- A value's own box, and the kind's byte in a row behind it. -/
structure Start (w w0 : World) (cs : Array Value) (v0 : Value) (k : Int) : Prop where
  box : w0.heap[w.heap.size]? = some (.cells cs 25 (0, 0))
  own : OwnB w0 w.heap.size v0 [k % 256]
  off : ∀ b, v0.ownBlock = some b → b ≠ w.heap.size
  below : Below w.heap.size w w0
theorem Start.mk' (w : World) (cs : Array Value) (k : Int) : Start w ((w.alloc (.cells cs 25)).alloc (.cells #[.int .u8 (k % 256)] 5)) cs (.slice (some ⟨w.heap.size + 1, 0, none⟩) 1 1) k := by
  refine ⟨heap_alloc2_old _ _ _, ?_, ?_, below2 _ _ _⟩
  · have h := (OwnB.lit (w.alloc (.cells cs 25)) [k % 256] (by simp [maxLen])).base (B' := w.heap.size) (below1 _ _).size
    simpa [btV] using h
  · intro b hb
    simp [Value.ownBlock] at hb
    omega
theorem Start.size {w w0 : World} {cs : Array Value} {v0 : Value} {k : Int} (h : Start w w0 cs v0 k) : w.heap.size ≤ w0.heap.size := h.below.size
theorem Start.makes {w w0 w' : World} {cs : Array Value} {v0 v' : Value} {k : Int} {l : List Int} (h : Start w w0 cs v0 k) (g : Grew w.heap.size w0 w' v0 v' l) : Makes l w (.returned v') w' :=
  ⟨v', rfl, g.own, g.below h.own h.below (Nat.le_refl _) h.below.size⟩
/-- The box, while the row grows. -/
theorem Start.box' {w w0 wr : World} {cs : Array Value} {v0 v' : Value} {k : Int} {l : List Int} (h : Start w w0 cs v0 k) (g : Grew w.heap.size w0 wr v0 v' l) : wr.heap[w.heap.size]? = some (.cells cs 25 (0, 0)) := g.row h.box h.off
theorem Start.grown {w w0 wr : World} {cs : Array Value} {v0 v' : Value} {k : Int} {l : List Int} (h : Start w w0 cs v0 k) (g : Grew w.heap.size w0 wr v0 v' l) : Below w.heap.size w wr := g.below h.own h.below (Nat.le_refl _) h.below.size

set_option maxHeartbeats 4000000 in
theorem refNum_case (k n : Int) (s : ByteArray) (la : Option Addr) (lc ln : Nat) (da : Option Addr) (dc dn : Nat) (hk : k = 3 ∨ k = 10) (hn : okInt n) (w : World) :
    Calls Tryd.prog 50 #[.agg #[.int .i64 k, .int .i64 n, .string s, .slice la ln lc, .slice da dn dc]] w (Makes (k % 256 :: beB 8 (n + 9223372036854775808)) w) := by
  have HW := Lib.hid (refNumber_any n hn)
  have hbl : (beB 8 (n + 9223372036854775808)).length ≤ 8 := Nat.le_of_eq (beB_len 8 _)
  generalize beB 8 (n + 9223372036854775808) = q at HW hbl ⊢
  have ST := Lib.hid (Start.mk' w #[.int .i64 k, .int .i64 n, .string s, .slice la ln lc, .slice da dn dc] k)
  rcases hk with rfl | rfl
  all_goals (
    go_enter Tryd.func50, Tryd.ntmps50
    go_wp2_with (first
      | (go_at_call 82; refine (HW.out _).mono ?_; rintro e w2 ⟨v2, rfl, ho2, hb2⟩; obtain ⟨a2, c2, rfl, hi2, h02, -, -⟩ := ho2.shape; have HO := Lib.hid (And.intro hi2 (And.intro h02 hb2)); clear ho2 hi2 h02 hb2)
      | (at_builtin; refine apR rfl (.tmp 15) (.tmp 18) rfl w.heap.size _ _ rfl (ST.out.own.then_ HO.out.2.2) a2 _ c2 q rfl rfl HO.out.1 HO.out.2.1 (by simp; omega) (Nat.le_trans ST.out.size HO.out.2.2.size) ?_; intro v3 w3 hg3; have G3 := Lib.hid (Grew.pre HO.out.2.2 hg3); clear hg3))
    go_ret
    exact ST.out.makes G3.out)
set_option maxHeartbeats 4000000 in
theorem refBool_case (k n : Int) (s : ByteArray) (la : Option Addr) (lc ln : Nat) (da : Option Addr) (dc dn : Nat) (hk : k = 9) (w : World) :
    Calls Tryd.prog 50 #[.agg #[.int .i64 k, .int .i64 n, .string s, .slice la ln lc, .slice da dn dc]] w (Makes (k % 256 :: [n % 256]) w) := by
  have ST := Lib.hid (Start.mk' w #[.int .i64 k, .int .i64 n, .string s, .slice la ln lc, .slice da dn dc] k)
  rcases hk with rfl
  all_goals (
    go_enter Tryd.func50, Tryd.ntmps50
    go_wp2_with (first
      | (at_builtin; refine apL _ rfl (.tmp 22) (.tmp 26) rfl w.heap.size _ _ rfl ST.out.own [_] _ 1 1 rfl (by simp) rfl rfl (by simp) ST.out.size ?_; intro v3 w3 hg3; have G3 := Lib.hid hg3; clear hg3))
    go_ret
    exact ST.out.makes G3.out)
set_option maxHeartbeats 4000000 in
theorem refText_case (k n : Int) (s : ByteArray) (la : Option Addr) (lc ln : Nat) (da : Option Addr) (dc dn : Nat) (hk : k = 4 ∨ k = 7) (hl : (keyT (bsI s)).length + 1 ≤ 140737488355328) (w : World) :
    Calls Tryd.prog 50 #[.agg #[.int .i64 k, .int .i64 n, .string s, .slice la ln lc, .slice da dn dc]] w (Makes (k % 256 :: keyT (bsI s)) w) := by
  have HW := Lib.hid (fun w => refText_any s w (by omega))
  have ST := Lib.hid (Start.mk' w #[.int .i64 k, .int .i64 n, .string s, .slice la ln lc, .slice da dn dc] k)
  rcases hk with rfl | rfl
  all_goals (
    go_enter Tryd.func50, Tryd.ntmps50
    go_wp2_with (first
      | (go_at_call 83; refine (HW.out _).mono ?_; rintro e w2 ⟨v2, rfl, ho2, hb2⟩; obtain ⟨a2, c2, rfl, hi2, h02, -, -⟩ := ho2.shape; have HO := Lib.hid (And.intro hi2 (And.intro h02 hb2)); clear ho2 hi2 h02 hb2)
      | (at_builtin; refine apR rfl (.tmp 31) (.tmp 34) rfl w.heap.size _ _ rfl (ST.out.own.then_ HO.out.2.2) a2 _ c2 (keyT (bsI s)) rfl rfl HO.out.1 HO.out.2.1 (by simp; omega) (Nat.le_trans ST.out.size HO.out.2.2.size) ?_; intro v3 w3 hg3; have G3 := Lib.hid (Grew.pre HO.out.2.2 hg3); clear hg3))
    go_ret
    exact ST.out.makes G3.out)
set_option maxHeartbeats 4000000 in
theorem refId_case (k n : Int) (s : ByteArray) (la : Option Addr) (lc ln : Nat) (da : Option Addr) (dc dn : Nat) (hk : k = 8) (hl : s.size + 1 ≤ 140737488355328) (w : World) :
    Calls Tryd.prog 50 #[.agg #[.int .i64 k, .int .i64 n, .string s, .slice la ln lc, .slice da dn dc]] w (Makes (k % 256 :: bsI s) w) := by
  have ST := Lib.hid (Start.mk' w #[.int .i64 k, .int .i64 n, .string s, .slice la ln lc, .slice da dn dc] k)
  rcases hk with rfl
  all_goals (
    go_enter Tryd.func50, Tryd.ntmps50
    go_wp2_with (first
      | (at_builtin; refine apS rfl (.tmp 38) (.tmp 40) rfl w.heap.size _ _ rfl ST.out.own s rfl (by simp; omega) ST.out.size ?_; intro v3 w3 hg3; have G3 := Lib.hid hg3; clear hg3))
    go_ret
    exact ST.out.makes G3.out)
set_option maxHeartbeats 4000000 in
theorem refOther_case (k n : Int) (s : ByteArray) (la : Option Addr) (lc ln : Nat) (da : Option Addr) (dc dn : Nat) (hk : ¬ (k = 3 ∨ k = 10) ∧ k ≠ 9 ∧ ¬ (k = 4 ∨ k = 7) ∧ k ≠ 8 ∧ k ≠ 6 ∧ k ≠ 5) (w : World) :
    Calls Tryd.prog 50 #[.agg #[.int .i64 k, .int .i64 n, .string s, .slice la ln lc, .slice da dn dc]] w (Makes [k % 256] w) := by
  have ST := Lib.hid (Start.mk' w #[.int .i64 k, .int .i64 n, .string s, .slice la ln lc, .slice da dn dc] k)
  have b3 : ((k : Int) == 3) = false := by simp; omega
  have b4 : ((k : Int) == 4) = false := by simp; omega
  have b5 : ((k : Int) == 5) = false := by simp; omega
  have b6 : ((k : Int) == 6) = false := by simp; omega
  have b7 : ((k : Int) == 7) = false := by simp; omega
  have b8 : ((k : Int) == 8) = false := by simp; omega
  have b9 : ((k : Int) == 9) = false := by simp; omega
  have b10 : ((k : Int) == 10) = false := by simp; omega
  clear hk
  go_enter Tryd.func50, Tryd.ntmps50
  go_wp2_with fail
  go_ret
  exact ST.out.makes (Grew.refl ST.out.own)
end Go.Proofs.YtdlgngnibbaamaaDoor
namespace Go.Proofs.YtdlgngnibbaamaaDoor
open Go.RowKit
set_option maxRecDepth 100000

theorem InL.cells5 {w : World} {b o : Nat} {l : List T} (h : InL w (some ⟨b, o, none⟩) l) {i : Nat} {k n : Int} {s : ByteArray} {la : Option Addr} {lc : Nat} {l' : List T} {da : Option Addr} {dc : Nat} {d' : List (ByteArray × T)} (hx : l[i]? = some (.mk k n s la lc l' da dc d')) :
    T.In w (.mk k n s la lc l' da dc d') ∧ w.cell? ⟨b, o + i * 5, none⟩ = some (.int .i64 k) ∧ w.cell? ⟨b, o + i * 5 + 1, none⟩ = some (.int .i64 n) ∧ w.cell? ⟨b, o + i * 5 + 2, none⟩ = some (.string s) ∧
      w.cell? ⟨b, o + i * 5 + 3, none⟩ = some (.slice la l'.length lc) ∧ w.cell? ⟨b, o + i * 5 + 4, none⟩ = some (.slice da d'.length dc) := by
  obtain ⟨b', o', e, hc, hin⟩ := h.elem hx
  injection e with e
  injection e with e1 e2
  subst e1 e2
  exact ⟨hin, hc 0 _ rfl, hc 1 _ rfl, hc 2 _ rfl, hc 3 _ rfl, hc 4 _ rfl⟩
theorem InD.cells6 {w : World} {b o : Nat} {l : List (ByteArray × T)} (h : InD w (some ⟨b, o, none⟩) l) {i : Nat} {f : ByteArray} {k n : Int} {s : ByteArray} {la : Option Addr} {lc : Nat} {l' : List T} {da : Option Addr} {dc : Nat} {d' : List (ByteArray × T)} (hx : l[i]? = some (f, .mk k n s la lc l' da dc d')) :
    T.In w (.mk k n s la lc l' da dc d') ∧ w.cell? ⟨b, o + i * 6, none⟩ = some (.string f) ∧ w.cell? ⟨b, o + i * 6 + 1, none⟩ = some (.int .i64 k) ∧ w.cell? ⟨b, o + i * 6 + 2, none⟩ = some (.int .i64 n) ∧ w.cell? ⟨b, o + i * 6 + 3, none⟩ = some (.string s) ∧
      w.cell? ⟨b, o + i * 6 + 4, none⟩ = some (.slice la l'.length lc) ∧ w.cell? ⟨b, o + i * 6 + 5, none⟩ = some (.slice da d'.length dc) := by
  obtain ⟨b', o', e, hc, hin⟩ := h.elem hx
  injection e with e
  injection e with e1 e2
  subst e1 e2
  exact ⟨hin, hc 0 _ rfl, hc 1 _ rfl, hc 2 _ rfl, hc 3 _ rfl, hc 4 _ rfl, hc 5 _ rfl⟩
def RefAt (t : T) : Prop := ∀ w : World, t.In w → (keyV t.val).length ≤ 140737488355328 → Calls Tryd.prog 50 #[t.arg] w (Makes (keyV t.val) w)

set_option maxHeartbeats 4000000 in
theorem refL_case (n : Int) (s : ByteArray) (la : Option Addr) (lc : Nat) (l : List T) (da : Option Addr) (dc dn : Nat) (w : World) (hl : (keyL (l.map T.val)).length + 1 ≤ 140737488355328) (ha : InL w la l) (hn : l.length ≤ 1759218604390) (ih : ∀ x ∈ l, RefAt x) :
    Calls Tryd.prog 50 #[.agg #[.int .i64 6, .int .i64 n, .string s, .slice la l.length lc, .slice da dn dc]] w (Makes (6 % 256 :: keyL (l.map T.val)) w) := by
  have ST := Lib.hid (Start.mk' w #[.int .i64 6, .int .i64 n, .string s, .slice la l.length lc, .slice da dn dc] 6)
  have HA := Lib.hid ha
  have IH := Lib.hid ih
  have HL := Lib.hid hl
  clear ha ih hl
  go_enter Tryd.func50, Tryd.ntmps50
  go_wp2_with fail
  go_loopw [3, 4] (fun u i wr => ∃ k : Nat, k ≤ l.length ∧ i = .int .i64 k ∧ Grew w.heap.size ((w.alloc (.cells #[.int .i64 6, .int .i64 n, .string s, .slice la l.length lc, .slice da dn dc] 25)).alloc (.cells #[.int .u8 (6 % 256)] 5)) wr (.slice (some ⟨w.heap.size + 1, 0, none⟩) 1 1) u ([6 % 256] ++ pL ((l.map T.val).take k))) (fun _ i _ => l.length - (intOf i).toNat)
  case atStart => exact ⟨0, by omega, rfl, by simpa [pL] using Grew.refl ST.out.own⟩
  case round =>
    obtain ⟨k, hk, rfl, hg⟩ := hrel
    have HG := Lib.hid hg
    have hz := Nat.le_trans ST.out.size hg.size
    have cb := row_cells (ST.out.box' hg)
    have hin := HA.out.then_ (ST.out.grown hg)
    clear hg
    by_cases h1 : k < l.length
    · obtain ⟨b, o, k1, n1, s1, la1, lc1, l1, da1, dc1, d1, rfl, hx, -, -, -, -, -, -⟩ := hin.five h1
      have hvx : (l.map T.val)[k]? = some (T.val (.mk k1 n1 s1 la1 lc1 l1 da1 dc1 d1)) := by rw [List.getElem?_map, hx]; rfl
      have HR := Lib.hid (pL_room hvx)
      have HS := Lib.hid (pL_step hvx)
      have hap : RefAt (.mk k1 n1 s1 la1 lc1 l1 da1 dc1 d1) := IH.out _ (List.mem_of_getElem? hx)
      unfold RefAt at hap
      have HX := Lib.hid hx
      generalize keyV (T.val (.mk k1 n1 s1 la1 lc1 l1 da1 dc1 d1)) = q at *
      have H := Lib.hid hap
      clear hx hin hvx hap
      go_wp2_with (first
        | (at_builtin; refine apL _ rfl (.tmp 51) (.tmp 52) rfl w.heap.size _ _ rfl HG.out.own [1] _ 1 1 rfl rfl rfl rfl (by have := HL.out; have := HR.out; rw [List.length_append, List.length_singleton]; omega) hz ?_; intro v1 w1 hg1; have e1 := HG.out.trans hg1; have cb1 := row_cells (ST.out.box' e1); obtain ⟨hi1, y0, y1, y2, y3, y4⟩ := (HA.out.then_ (ST.out.grown e1)).cells5 HX.out; have HI := Lib.hid hi1; have G1 := Lib.hid e1; clear hg1 e1 hi1)
        | (go_at_call 50; refine (H.out w1 HI.out (by have := HL.out; have := HR.out; omega)).mono ?_; rintro e w2 ⟨v2, rfl, ho2, hb2⟩; obtain ⟨a2, c2, rfl, hi2, h02, -, -⟩ := ho2.shape; have HO := Lib.hid (And.intro hi2 (And.intro h02 hb2)); clear ho2 hi2 h02 hb2)
        | (at_builtin; refine apR rfl (.tmp 54) (.tmp 60) rfl w.heap.size _ _ rfl (G1.out.own.then_ HO.out.2.2) a2 _ c2 q rfl rfl HO.out.1 HO.out.2.1 (by have := HL.out; have := HR.out; rw [List.length_append, List.length_append, List.length_singleton]; simp; omega) (Nat.le_trans (Nat.le_trans ST.out.size G1.out.size) HO.out.2.2.size) ?_; intro v3 w3 hg3; have G3 := Lib.hid (G1.out.trans (Grew.pre HO.out.2.2 hg3)); clear hg3))
      go_roundw
      case rel =>
        refine ⟨k + 1, by omega, by go_num, ?_⟩
        have h := G3.out
        rw [List.append_assoc, List.append_assoc] at h
        rw [HS.out]
        exact h
      case measure => simp [intOf]; omega
    · go_wp2_with (first | (at_builtin; refine apL _ rfl (.tmp 62) (.tmp 63) rfl w.heap.size _ _ rfl HG.out.own [0] _ 1 1 rfl rfl rfl rfl (by have := HL.out; rw [← pL_all _ (k := k) (by rw [List.length_map]; omega), List.length_append] at this; rw [List.length_append, List.length_singleton]; simp at this; omega) hz ?_; intro v1 w1 hg1; have G1 := Lib.hid (HG.out.trans hg1); clear hg1))
      go_ret
      have h := G1.out
      rw [List.append_assoc, pL_all _ (by rw [List.length_map]; omega)] at h
      exact ST.out.makes h

set_option maxHeartbeats 4000000 in
theorem refD_case (n : Int) (s : ByteArray) (la : Option Addr) (lc : Nat) (l : List (ByteArray × T)) (da : Option Addr) (dc dn : Nat) (w : World) (hl : (keyD (l.map fun f => (f.1, f.2.val))).length + 1 ≤ 140737488355328) (ha : InD w la l) (hn : l.length ≤ 1759218604390) (ih : ∀ x ∈ l, RefAt x.2) :
    Calls Tryd.prog 50 #[.agg #[.int .i64 5, .int .i64 n, .string s, .slice da dn dc, .slice la l.length lc]] w (Makes (5 % 256 :: keyD (l.map fun f => (f.1, f.2.val))) w) := by
  have ST := Lib.hid (Start.mk' w #[.int .i64 5, .int .i64 n, .string s, .slice da dn dc, .slice la l.length lc] 5)
  have HA := Lib.hid ha
  have IH := Lib.hid ih
  have HL := Lib.hid hl
  clear ha ih hl
  go_enter Tryd.func50, Tryd.ntmps50
  go_wp2_with fail
  go_loopw [3, 5] (fun u i wr => ∃ k : Nat, k ≤ l.length ∧ i = .int .i64 k ∧ Grew w.heap.size ((w.alloc (.cells #[.int .i64 5, .int .i64 n, .string s, .slice da dn dc, .slice la l.length lc] 25)).alloc (.cells #[.int .u8 (5 % 256)] 5)) wr (.slice (some ⟨w.heap.size + 1, 0, none⟩) 1 1) u ([5 % 256] ++ pD ((l.map fun f => (f.1, f.2.val)).take k))) (fun _ i _ => l.length - (intOf i).toNat)
  case atStart => exact ⟨0, by omega, rfl, by simpa [pD] using Grew.refl ST.out.own⟩
  case round =>
    obtain ⟨k, hk, rfl, hg⟩ := hrel
    have HG := Lib.hid hg
    have hz := Nat.le_trans ST.out.size hg.size
    have cb := row_cells (ST.out.box' hg)
    have hin := HA.out.then_ (ST.out.grown hg)
    clear hg
    by_cases h1 : k < l.length
    · obtain ⟨b, o, f1, k1, n1, s1, la1, lc1, l1, da1, dc1, d1, rfl, hx, -, -, -, -, -, -, -⟩ := hin.six h1
      have hvx : (l.map fun f => (f.1, f.2.val))[k]? = some (f1, T.val (.mk k1 n1 s1 la1 lc1 l1 da1 dc1 d1)) := by rw [List.getElem?_map, hx]; rfl
      have HR := Lib.hid (show (pD ((l.map fun f => (f.1, f.2.val)).take k)).length + 1 + (keyT (bsI f1)).length + (keyV (T.val (.mk k1 n1 s1 la1 lc1 l1 da1 dc1 d1))).length + 1 ≤ (keyD (l.map fun f => (f.1, f.2.val))).length from pD_room hvx)
      have HS := Lib.hid (show pD ((l.map fun f => (f.1, f.2.val)).take (k + 1)) = pD ((l.map fun f => (f.1, f.2.val)).take k) ++ (1 :: (keyT (bsI f1) ++ keyV (T.val (.mk k1 n1 s1 la1 lc1 l1 da1 dc1 d1)))) from pD_step hvx)
      have hap : RefAt (.mk k1 n1 s1 la1 lc1 l1 da1 dc1 d1) := IH.out _ (List.mem_of_getElem? hx)
      unfold RefAt at hap
      have HX := Lib.hid hx
      generalize keyV (T.val (.mk k1 n1 s1 la1 lc1 l1 da1 dc1 d1)) = q at *
      have H := Lib.hid hap
      have HW := Lib.hid (fun w => refText_any f1 w (by have := HL.out; have := HR.out; omega))
      generalize keyT (bsI f1) = q2 at *
      clear hx hin hvx hap
      go_wp2_with (first
        | (at_builtin; refine apL _ rfl (.tmp 74) (.tmp 75) rfl w.heap.size _ _ rfl HG.out.own [1] _ 1 1 rfl rfl rfl rfl (by have := HL.out; have := HR.out; rw [List.length_append, List.length_singleton]; omega) hz ?_; intro v1 w1 hg1; have e1 := HG.out.trans hg1; have cb1 := row_cells (ST.out.box' e1); obtain ⟨-, y0, -, -, -, -, -⟩ := (HA.out.then_ (ST.out.grown e1)).cells6 HX.out; have G1 := Lib.hid e1; clear hg1 e1)
        | (go_at_call 83; refine (HW.out w1).mono ?_; rintro e w2 ⟨v2, rfl, ho2, hb2⟩; obtain ⟨a2, c2, rfl, hi2, h02, -, -⟩ := ho2.shape; have HO := Lib.hid (And.intro hi2 (And.intro h02 hb2)); clear ho2 hi2 h02 hb2)
        | (at_builtin; refine apR rfl (.tmp 77) (.tmp 84) rfl w.heap.size _ _ rfl (G1.out.own.then_ HO.out.2.2) a2 _ c2 q2 rfl rfl HO.out.1 HO.out.2.1 (by have := HL.out; have := HR.out; rw [List.length_append, List.length_append, List.length_singleton]; simp; omega) (Nat.le_trans (Nat.le_trans ST.out.size G1.out.size) HO.out.2.2.size) ?_; intro v3 w3 hg3; have e3 := G1.out.trans (Grew.pre HO.out.2.2 hg3); have cb3 := row_cells (ST.out.box' e3); obtain ⟨hi1, -, y1, y2, y3, y4, y5⟩ := (HA.out.then_ (ST.out.grown e3)).cells6 HX.out; have HI := Lib.hid hi1; have G3 := Lib.hid e3; clear hg3 e3 hi1)
        | (go_at_call 50; refine (H.out w3 HI.out (by have := HL.out; have := HR.out; omega)).mono ?_; rintro e w4 ⟨v4, rfl, ho4, hb4⟩; obtain ⟨a4, c4, rfl, hi4, h04, -, -⟩ := ho4.shape; have HP := Lib.hid (And.intro hi4 (And.intro h04 hb4)); clear ho4 hi4 h04 hb4)
        | (at_builtin; refine apR rfl (.tmp 86) (.tmp 93) rfl w.heap.size _ _ rfl (G3.out.own.then_ HP.out.2.2) a4 _ c4 q rfl rfl HP.out.1 HP.out.2.1 (by have := HL.out; have := HR.out; rw [List.length_append, List.length_append, List.length_append, List.length_singleton]; simp; omega) (Nat.le_trans (Nat.le_trans ST.out.size G3.out.size) HP.out.2.2.size) ?_; intro v5 w5 hg5; have G5 := Lib.hid (G3.out.trans (Grew.pre HP.out.2.2 hg5)); clear hg5))
      go_roundw
      case rel =>
        refine ⟨k + 1, by omega, by go_num, ?_⟩
        have h := G5.out
        rw [List.append_assoc, List.append_assoc, List.append_assoc] at h
        rw [HS.out]
        simpa using h
      case measure => simp [intOf]; omega
    · go_wp2_with (first | (at_builtin; refine apL _ rfl (.tmp 95) (.tmp 96) rfl w.heap.size _ _ rfl HG.out.own [0] _ 1 1 rfl rfl rfl rfl (by have := HL.out; rw [← pD_all _ (k := k) (by rw [List.length_map]; omega), List.length_append] at this; rw [List.length_append, List.length_singleton]; simp at this; omega) hz ?_; intro v1 w1 hg1; have G1 := Lib.hid (HG.out.trans hg1); clear hg1))
      go_ret
      have h := G1.out
      rw [List.append_assoc, pD_all _ (by rw [List.length_map]; omega)] at h
      exact ST.out.makes h

theorem refBytes_any (t : T) : t.ok → RefAt t := by
  induction t using T.ind with
  | h k n s la lc l da dc d ihl ihd =>
  intro ok w hin hl
  obtain ⟨k0, k1, n0, n1, hs, hl1, hl2, hd1, hd2, okl, okd⟩ := ok.parts
  obtain ⟨inl, ind⟩ := hin.parts
  rw [T.val_mk, keyV, List.length_cons] at hl
  rw [T.val_mk, keyV]
  show Calls _ _ #[.agg #[.int .i64 k, .int .i64 n, .string s, .slice la l.length lc, .slice da d.length dc]] _ _
  by_cases h3 : k = 3 ∨ k = 10
  · rw [if_pos h3] at hl ⊢
    exact refNum_case k n s la lc l.length da dc d.length h3 ⟨n0, n1⟩ w
  rw [if_neg h3] at hl ⊢
  by_cases h9 : k = 9
  · rw [if_pos h9] at hl ⊢
    exact refBool_case k n s la lc l.length da dc d.length h9 w
  rw [if_neg h9] at hl ⊢
  by_cases h4 : k = 4 ∨ k = 7
  · rw [if_pos h4] at hl ⊢
    exact refText_case k n s la lc l.length da dc d.length h4 hl w
  rw [if_neg h4] at hl ⊢
  by_cases h8 : k = 8
  · rw [if_pos h8] at hl ⊢
    rw [bsI_len] at hl
    exact refId_case k n s la lc l.length da dc d.length h8 hl w
  rw [if_neg h8] at hl ⊢
  by_cases h6 : k = 6
  · rw [if_pos h6] at hl ⊢
    subst h6
    exact refL_case n s la lc l da dc d.length w hl inl (by omega) fun x hx => ihl x hx (okl x hx)
  rw [if_neg h6] at hl ⊢
  by_cases h5 : k = 5
  · rw [if_pos h5] at hl ⊢
    subst h5
    exact refD_case n s da dc d la lc l.length w hl ind (by omega) fun x hx => ihd x hx (okd x hx).2
  rw [if_neg h5] at hl ⊢
  exact refOther_case k n s la lc l.length da dc d.length ⟨h3, h9, h4, h8, h6, h5⟩ w
#print axioms refBytes_any
end Go.Proofs.YtdlgngnibbaamaaDoor
namespace Go.Proofs.YtdlgngnibbaamaaDoor
open Go.RowKit
set_option maxRecDepth 100000

theorem flip_take {q : List Int} {k : Nat} {x : Int} (hx : q[k]? = some x) : flip (q.take (k + 1)) = flip (q.take k) ++ [255 - x] := by
  rw [List.take_add_one, hx, flip, List.map_append]; rfl
set_option maxHeartbeats 2000000 in
theorem turned_any (a : Option Addr) (c : Nat) (q : List Int) (w : World) (ha : InB w a q) (hq : isB q) (hl : q.length ≤ 140737488355328) :
    Calls Tryd.prog 51 #[.slice a q.length c] w (Makes (flip q) w) := by
  have HA := Lib.hid ha
  have HQ := Lib.hid hq
  clear ha hq
  go_enter Tryd.func51, Tryd.ntmps51
  go_wp2_with fail
  go_loopw [3, 4] (fun u i wr => ∃ k : Nat, k ≤ q.length ∧ i = .int .i64 k ∧ Grew w.heap.size w wr (.slice none 0 0) u (flip (q.take k))) (fun _ i _ => q.length - (intOf i).toNat)
  case atStart => exact ⟨0, by omega, rfl, by simpa [flip] using Grew.refl (OwnB.nil _ _)⟩
  case round =>
    obtain ⟨k, hk, rfl, hg⟩ := hrel
    have HG := Lib.hid hg
    have hz := hg.size
    have hin := HA.out.then_ (hg.below0 (OwnB.nil _ _) (Nat.le_refl _))
    clear hg
    by_cases h1 : k < q.length
    · obtain ⟨b, o, x, rfl, hx, x0⟩ := hin.one h1
      obtain ⟨r0, r1⟩ := HQ.out x (List.mem_of_getElem? hx)
      have HS := Lib.hid (flip_take hx)
      have hw : (255 - x) % 256 = 255 - x := by omega
      have HLEN := Lib.hid (show (flip (q.take k)).length = k by rw [flip_len, List.length_take]; omega)
      clear hx hin
      go_wp2_with (first
        | (at_builtin; refine apL _ rfl (.tmp 11) (.tmp 17) rfl w.heap.size _ _ rfl HG.out.own [255 - x] _ 1 1 rfl rfl rfl rfl (by rw [HLEN.out]; omega) hz ?_; intro v1 w1 hg1; have G1 := Lib.hid (HG.out.trans hg1); clear hg1))
      go_roundw
      case rel => exact ⟨k + 1, by omega, by go_num, by rw [HS.out]; exact G1.out⟩
      case measure => simp [intOf]; omega
    · go_wp2_with fail
      go_ret
      have h := HG.out
      rw [List.take_of_length_le (by omega)] at h
      exact h.makes

theorem wrongL_take {l : List V} {k : Nat} (h : ∀ x ∈ l.take k, rightOf x = 0) : wrongL l = wrongL (l.drop k) := by
  induction k generalizing l with
  | zero => rfl
  | succ k ih =>
    cases l with
    | nil => rfl
    | cons x r =>
      rw [List.drop_succ_cons, wrongL, if_pos (h x (by simp))]
      exact ih fun y hy => h y (by rw [List.take_succ_cons]; simp [hy])
structure RefRel (w wr : World) (l : List V) (d : List Bool) (u : Value) (k : Nat) : Prop where
  grew : Grew w.heap.size w wr (.slice none 0 0) u (keyR (l.take k) (d.take k))
  right : ∀ x ∈ l.take k, rightOf x = 0
set_option maxHeartbeats 4000000 in
theorem refKey_any (la : Option Addr) (ca : Nat) (l : List T) (lb : Option Addr) (cb : Nat) (d : List Bool) (w : World) (ha : InL w la l) (hf : InF w lb d) (hn : l.length ≤ 1759218604390) (hok : ∀ x ∈ l, x.ok) (hT : Tabs w) :
    Calls Tryd.prog 31 #[.slice la l.length ca, .slice lb d.length cb] w (KeyTo (keyOf (l.map T.val) d) w) := by
  have HA := Lib.hid (And.intro ha hf)
  have OK := Lib.hid hok
  have HT := Lib.hid hT
  clear ha hf hok hT
  by_cases h1 : 1 ≤ l.length
  · by_cases h2 : l.length ≤ 4
    · by_cases h3 : d.length = l.length
      · rw [h3]
        have HK := Lib.hid (show keyOf (l.map T.val) d = _ by unfold keyOf; rw [List.length_map, if_neg (by simp [h1, h2, h3])])
        have HD := Lib.hid h3
        clear h3
        go_enter Tryd.func31, Tryd.ntmps31
        go_wp2_with fail
        go_loopw [6, 7] (fun u i wr => ∃ k : Nat, k ≤ l.length ∧ i = .int .i64 k ∧ RefRel w wr (l.map T.val) d u k) (fun _ i _ => l.length - (intOf i).toNat)
        case atStart => exact ⟨0, by omega, rfl, by simpa [keyR] using Grew.refl (OwnB.nil _ _), by simp⟩
        case round =>
          obtain ⟨k, hk, rfl, hR⟩ := hrel
          have HG := Lib.hid hR.grew
          have HW := Lib.hid (And.intro (wrongL_take hR.right) hR.right)
          have hz := hR.grew.size
          have hbel := hR.grew.below0 (OwnB.nil _ _) (Nat.le_refl _)
          by_cases hkl : k < l.length
          · obtain ⟨b, o, k1, n1, s1, la1, lc1, l1, da1, dc1, d1, rfl, hx, hix, x0, x1, x2, x3, x4⟩ := (HA.out.1.then_ hbel).five hkl
            obtain ⟨f, hfx⟩ : ∃ f, d[k]? = some f := ⟨_, List.getElem?_eq_getElem (by have := HD.out; omega)⟩
            obtain ⟨b2, o2, rfl, hc2⟩ := HA.out.2 k f hfx
            have hvx : (l.map T.val)[k]? = some (T.val (.mk k1 n1 s1 la1 lc1 l1 da1 dc1 d1)) := by rw [List.getElem?_map, hx]; rfl
            have HS := Lib.hid (keyR_step hvx hfx)
            have HV := Lib.hid ((wrongL_take hR.right).trans (wrongL_step hvx))
            have HR := Lib.hid (refRight_any _ (OK.out _ (List.mem_of_getElem? hx)) wr hix (HT.out.then_ hbel))
            have hap : RefAt (.mk k1 n1 s1 la1 lc1 l1 da1 dc1 d1) := refBytes_any _ (OK.out _ (List.mem_of_getElem? hx))
            unfold RefAt at hap
            have HX := Lib.hid (And.intro hx hbel)
            have HQ := Lib.hid (isB_keyV (T.val (.mk k1 n1 s1 la1 lc1 l1 da1 dc1 d1)))
            have HKS := Lib.hid (fun (h : rightOf (T.val (.mk k1 n1 s1 la1 lc1 l1 da1 dc1 d1)) = 0) => key_short h)
            have HKL := Lib.hid (show (keyR ((l.map T.val).take k) (d.take k)).length ≤ k * 196611 from by
              have h := keyR_le ((l.map T.val).take k) (fun x hx => key_short (hR.right x hx)) (d.take k)
              rw [List.length_take, List.length_map, Nat.min_eq_left hk] at h
              exact h)
            have HN := Lib.hid (show ∀ x ∈ (l.map T.val).take (k + 1), x ∈ (l.map T.val).take k ∨ x = T.val (.mk k1 n1 s1 la1 lc1 l1 da1 dc1 d1) from fun x hx => by
              rw [List.take_add_one, hvx] at hx
              simpa using hx)
            generalize hrv : rightOf (T.val (.mk k1 n1 s1 la1 lc1 l1 da1 dc1 d1)) = rv at HV HR HKS
            have HRV := Lib.hid hrv
            have hcd : ∀ w1, Below w.heap.size w w1 → w1.cell? ⟨b2, o2 + k, none⟩ = some (.bool f) := fun w1 h => (HA.out.2.then_ h k f hfx).elim fun _ h => h.elim fun _ h => by obtain ⟨h1, h2⟩ := h; injection h1 with h1; injection h1 with h1 h3; subst h1 h3; exact h2
            clear hR hbel hx hix hvx hrv hfx hc2
            by_cases hr0 : rv = 0
            · subst hr0
              have hks := HKS.out rfl
              have hkl2 := HKL.out
              generalize keyV (T.val (.mk k1 n1 s1 la1 lc1 l1 da1 dc1 d1)) = q at *
              generalize keyR ((l.map T.val).take k) (d.take k) = p at *
              have H := Lib.hid hap
              clear hap
              cases f
              · go_wp2_with (first
                  | (go_at_call 42; refine HR.out.mono ?_; rintro e w2 ⟨rfl, hb2⟩; have e2 := HG.out.post hb2; obtain ⟨hi2, y0, y1, y2, y3, y4⟩ := (HA.out.1.then_ (e2.below0 (OwnB.nil _ _) (Nat.le_refl _))).cells5 HX.out.1; have HI := Lib.hid hi2; have G2 := Lib.hid e2; clear hb2 e2 hi2)
                  | (go_at_call 50; refine (H.out w2 HI.out (by omega)).mono ?_; rintro e w4 ⟨v4, rfl, ho4, hb4⟩; have e4 := G2.out.post hb4; have cd := hcd _ (e4.below0 (OwnB.nil _ _) (Nat.le_refl _)); obtain ⟨a4, c4, rfl, hi4, h04, -, -⟩ := ho4.shape; have HO := Lib.hid (And.intro hi4 h04); have G4 := Lib.hid e4; clear ho4 hi4 h04 hb4 e4)
                  | (at_builtin; refine apR rfl (.tmp 50) (.tmp 51) rfl w.heap.size _ _ rfl G4.out.own a4 _ c4 q rfl rfl HO.out.1 HO.out.2 (by omega) G4.out.size ?_; intro v5 w5 hg5; have G5 := Lib.hid (G4.out.trans hg5); clear hg5))
                go_roundw
                case rel => exact ⟨k + 1, by omega, by go_num, by rw [HS.out]; simpa using G5.out, fun x hx => (HN.out x hx).elim (HW.out.2 x) (fun e => by rw [e]; exact HRV.out)⟩
                case measure => simp [intOf]; omega
              · go_wp2_with (first
                  | (go_at_call 42; refine HR.out.mono ?_; rintro e w2 ⟨rfl, hb2⟩; have e2 := HG.out.post hb2; obtain ⟨hi2, y0, y1, y2, y3, y4⟩ := (HA.out.1.then_ (e2.below0 (OwnB.nil _ _) (Nat.le_refl _))).cells5 HX.out.1; have HI := Lib.hid hi2; have G2 := Lib.hid e2; clear hb2 e2 hi2)
                  | (go_at_call 50; refine (H.out w2 HI.out (by omega)).mono ?_; rintro e w4 ⟨v4, rfl, ho4, hb4⟩; have e4 := G2.out.post hb4; have cd := hcd _ (e4.below0 (OwnB.nil _ _) (Nat.le_refl _)); obtain ⟨a4, c4, rfl, hi4, h04, -, -⟩ := ho4.shape; have HO := Lib.hid (And.intro hi4 h04); have G4 := Lib.hid e4; clear ho4 hi4 h04 hb4 e4)
                  | (go_at_call 51; refine (turned_any a4 c4 q w4 HO.out.1 HQ.out (by omega)).mono ?_; rintro e w6 ⟨v6, rfl, ho6, hb6⟩; have e6 := G4.out.post hb6; obtain ⟨a6, c6, rfl, hi6, h06, -, -⟩ := ho6.shape; rw [flip_len]; have HO6 := Lib.hid (And.intro hi6 h06); have G6 := Lib.hid e6; clear ho6 hi6 h06 hb6 e6)
                  | (at_builtin; refine apR rfl (.tmp 50) (.tmp 51) rfl w.heap.size _ _ rfl G6.out.own a6 _ c6 (flip q) rfl (flip_len q) HO6.out.1 HO6.out.2 (by omega) G6.out.size ?_; intro v5 w5 hg5; have G5 := Lib.hid (G6.out.trans hg5); clear hg5))
                go_roundw
                case rel => exact ⟨k + 1, by omega, by go_num, by rw [HS.out]; simpa using G5.out, fun x hx => (HN.out x hx).elim (HW.out.2 x) (fun e => by rw [e]; exact HRV.out)⟩
                case measure => simp [intOf]; omega
            · have hne : ((rv : Int) != 0) = true := by simp [hr0]
              have HS2 := Lib.hid (HV.out.trans (if_neg hr0))
              have HNE := Lib.hid hr0
              clear hr0
              go_wp2_with (first
                  | (go_at_call 42; refine HR.out.mono ?_; rintro e w2 ⟨rfl, hb2⟩; have G2 := Lib.hid (HG.out.post hb2); clear hb2))
              go_ret2
              rw [HK.out, HS2.out, if_neg HNE.out]
              exact ⟨_, rfl, OwnB.nil _ _, G2.out.below0 (OwnB.nil _ _) (Nat.le_refl _)⟩
          · have h0 : wrongL (l.map T.val) = 0 := by rw [HW.out.1, List.drop_eq_nil_of_le (by rw [List.length_map]; omega), wrongL]
            have HK2 := Lib.hid (HK.out.trans (if_pos h0))
            have e := HG.out
            rw [List.take_of_length_le (by rw [List.length_map]; omega), List.take_of_length_le (by have := HD.out; omega)] at e
            generalize keyR (l.map T.val) d = q at e HK2
            obtain ⟨a, c, rfl, -, -, -, -⟩ := e.own.shape
            have E := Lib.hid e
            clear hbel h0 e hR HG
            by_cases hq : 1000 < q.length
            · go_wp2_with fail
              go_ret2
              rw [HK2.out, if_pos hq]
              exact ⟨_, rfl, OwnB.nil _ _, E.out.below0 (OwnB.nil _ _) (Nat.le_refl _)⟩
            · go_wp2_with fail
              go_ret2
              rw [HK2.out, if_neg hq]
              exact ⟨_, rfl, E.out.own, E.out.below0 (OwnB.nil _ _) (Nat.le_refl _)⟩
      · have hne : ((d.length : Int) != (l.length : Int)) = true := by simp; omega
        rw [show keyOf (l.map T.val) d = (1, []) by unfold keyOf; rw [List.length_map, if_pos (Or.inr h3)]]
        go_enter Tryd.func31, Tryd.ntmps31
        go_wp2_with fail
        go_ret2
        exact ⟨_, rfl, OwnB.nil _ _, Below.refl _ _⟩
    · rw [show keyOf (l.map T.val) d = (1, []) by unfold keyOf; rw [List.length_map, if_pos (Or.inl (by omega))]]
      go_enter Tryd.func31, Tryd.ntmps31
      go_wp2_with fail
      go_ret2
      exact ⟨_, rfl, OwnB.nil _ _, Below.refl _ _⟩
  · rw [show keyOf (l.map T.val) d = (1, []) by unfold keyOf; rw [List.length_map, if_pos (Or.inl (by omega))]]
    go_enter Tryd.func31, Tryd.ntmps31
    go_wp2_with fail
    go_ret2
    exact ⟨_, rfl, OwnB.nil _ _, Below.refl _ _⟩
#print axioms refKey_any
end Go.Proofs.YtdlgngnibbaamaaDoor
