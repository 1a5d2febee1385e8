/- How many words of a value a text has, by the document: contract. Over XYT. No statement is proved here. -/
import Derived.Test.YtgcbcmhdlgklgaaDoorWAll
import Derived.Test.YtgcbcmhdlgklgaaDoorWScoreP
namespace Go.Proofs.YtgcbcmhdlgklgaaDoor
open Go.RowKit Go.Lib
set_option maxRecDepth 100000

set_option maxHeartbeats 8000000 in
theorem rscore_any (t : T) (ok : t.ok) (s : ByteArray) (hs : s.size ≤ 140737488351232) (w : World) (hin : t.In w) (hT : TabsW w) (hm : (allW t.val).length ≤ 1000000000000) :
    Calls Tryd.prog 14 #[t.arg, .string s] w fun e w' => e = .returned (.int .i64 (scoreW (allW t.val) (splitL (bsI s)) : Nat)) ∧ Below w.heap.size w w' := by
  obtain ⟨k, n, q, la, lc, l, da, dc, d⟩ := t
  have AA := Lib.hid (all_any _ ok (w.alloc (.cells #[.int .i64 k, .int .i64 n, .string q, .slice la l.length lc, .slice da d.length dc] 30)) (hin.then_ (below1 _ _)) (hT.then_ (below1 _ _)) hm)
  have HW := Lib.hid (below1 w (.cells #[.int .i64 k, .int .i64 n, .string q, .slice la l.length lc, .slice da d.length dc] 30))
  have HT := Lib.hid (hT.then_ (below1 w (.cells #[.int .i64 k, .int .i64 n, .string q, .slice la l.length lc, .slice da d.length dc] 30)))
  have hare : ∀ x ∈ allW (T.val (.mk k n q la lc l da dc d)), isWord x := allW_are _
  have hare2 : ∀ x ∈ splitL (bsI s), isWord x := splitL_are
  have hl2 := splitL_len (bsI s)
  have hsp := fun w (h : TabsW w) => rsplit_any s hs w h
  show Calls _ _ #[.agg #[.int .i64 k, .int .i64 n, .string q, .slice la l.length lc, .slice da d.length dc], .string s] _ _
  generalize allW (T.val (.mk k n q la lc l da dc d)) = us at *
  generalize splitL (bsI s) = ws at *
  have HARE := Lib.hid (And.intro hare (And.intro hare2 hsp))
  clear ok hin hT hare hare2 hsp
  go_enter Tryd.func14, Tryd.ntmps14
  go_wp2_with fail
  refine AA.out.mono ?_
  rintro e w1 ⟨v1, rfl, o1, b1⟩
  obtain ⟨a1, c1, rfl, i1, -, -, z1⟩ := o1.shape
  have B1 := Lib.hid (below_then HW.out b1)
  have T1 := Lib.hid (HT.out.then_ b1)
  have I1 := Lib.hid i1
  clear o1 b1 i1 z1 AA HT
  go_wp2_with fail
  refine (HARE.out.2.2 w1 T1.out).mono ?_
  rintro e w2 ⟨v2, rfl, o2, b2⟩
  obtain ⟨a2, c2, rfl, i2, -, -, z2⟩ := o2.shape
  have I2 := Lib.hid (And.intro (I1.out.then_ b2) i2)
  have B2 := Lib.hid (below_then B1.out b2)
  clear o2 b2 i2 z2 I1 B1 T1 HW
  obtain ⟨nu, hnu⟩ : ∃ nu, us.length = nu := ⟨_, rfl⟩
  obtain ⟨nw, hnw⟩ : ∃ nw, ws.length = nw := ⟨_, rfl⟩
  rw [hnu] at hm ⊢
  rw [hnw] at hl2 ⊢
  have HN := Lib.hid (And.intro hnu hnw)
  clear hnu hnw
  go_wp2_with fail
  go_loopw [7, 8, 9, 10] (fun c i is kk wr => ∃ k : Nat, k ≤ nu ∧ i = .int .i64 k ∧ c = .int .i64 (scoreW (us.take k) ws : Nat) ∧ Hid (Below w2.heap.size w2 wr)) (fun _ i _ _ _ => nu - (intOf i).toNat)
  case atStart => exact ⟨0, by omega, rfl, rfl, Lib.hid (Below.refl _ _)⟩
  case round =>
    obtain ⟨k, hk, rfl, rfl, HB⟩ := hrel
    have hc := scoreW_le (us.take k) ws
    have hc2 : scoreW (us.take k) ws ≤ k := Nat.le_trans hc (by rw [List.length_take]; omega)
    clear hc
    by_cases hlt : k < nu
    · obtain ⟨x, hx⟩ : ∃ x, us[k]? = some x := ⟨_, List.getElem?_eq_getElem (by rw [HN.out.1]; exact hlt)⟩
      have HX := Lib.hid (And.intro hx (scoreW_step (ws := ws) hx))
      have i0 : (0 : Int) ≤ (k : Int) := by omega
      have i1 : (k : Int) < (nu : Int) := by omega
      clear hx
      go_wp2_with fail
      go_loopw [9, 10] (fun is kk wr => ∃ j : Nat, j ≤ nw ∧ kk = .int .i64 j ∧ is = .bool (decide (x ∈ ws.take j)) ∧ Hid (Below w2.heap.size w2 wr)) (fun _ kk _ => nw - (intOf kk).toNat)
      case atStart => exact ⟨0, by omega, rfl, by simp, HB⟩
      case round =>
        clear HB
        obtain ⟨j, hj, rfl, rfl, HB⟩ := hrel
        by_cases hjl : j < nw
        · obtain ⟨y, hy⟩ : ∃ y, ws[j]? = some y := ⟨_, List.getElem?_eq_getElem (by rw [HN.out.2]; exact hjl)⟩
          obtain ⟨g1, p1, rfl, c1⟩ := (I2.out.1.then_ HB.out) k x HX.out.1
          obtain ⟨g2, p2, rfl, c2⟩ := (I2.out.2.then_ HB.out) j y hy
          have j0 : (0 : Int) ≤ (j : Int) := by omega
          have j1 : (j : Int) < (nw : Int) := by omega
          have HY := Lib.hid (mem_step (x := x) hy)
          have hsame := fun n => word_same (HARE.out.2.1 y (List.mem_of_getElem? hy)) (HARE.out.1 x (List.mem_of_getElem? HX.out.1)) n
          clear hy
          cases hd : decide (x ∈ ws.take j)
          · have HD := Lib.hid hd
            clear hd
            cases he : decide (y = x)
            all_goals
              have hs1 := hsame _ he
              have HE := Lib.hid he
              clear hsame he
              go_wp2_with fail
              go_quiet (fail)
              go_wp2_with fail
              go_roundw
              case rel => exact ⟨j + 1, by omega, by go_num, by rw [HY.out, HD.out, HE.out]; rfl, Lib.hid ⟨HB.out.os, HB.out.tape, HB.out.output, HB.out.size, HB.out.block⟩⟩
              case measure => simp [intOf]; omega
          · have HD := Lib.hid hd
            clear hd hsame
            go_wp2_with fail
            go_quiet (fail)
            go_wp2_with fail
            go_roundw
            case rel => exact ⟨j + 1, by omega, by go_num, by rw [HY.out, HD.out]; rfl, Lib.hid ⟨HB.out.os, HB.out.tape, HB.out.output, HB.out.size, HB.out.block⟩⟩
            case measure => simp [intOf]; omega
        · have e : ws.take j = ws := List.take_of_length_le (by rw [HN.out.2]; omega)
          rw [e]
          clear e
          cases hd : decide (x ∈ ws)
          · have HS : Hid (scoreW (us.take (k + 1)) ws = scoreW (us.take k) ws) := Lib.hid (by rw [HX.out.2, if_neg (of_decide_eq_false hd)]; rfl)
            clear hd
            go_wp2_with fail
            go_roundw
            case rel => exact ⟨k + 1, by omega, by go_num, by rw [HS.out], HB⟩
            case measure => simp [intOf]; omega
          · have HS : Hid (scoreW (us.take (k + 1)) ws = scoreW (us.take k) ws + 1) := Lib.hid (by rw [HX.out.2, if_pos (of_decide_eq_true hd)])
            clear hd
            go_wp2_with fail
            go_roundw
            case rel => exact ⟨k + 1, by omega, by go_num, by rw [HS.out]; go_num, HB⟩
            case measure => simp [intOf]; omega
    · go_wp2_with fail
      go_ret
      have e : us.take k = us := List.take_of_length_le (by rw [HN.out.1]; omega)
      exact ⟨ret_int (by rw [e]), below_then B2.out HB.out⟩

end Go.Proofs.YtgcbcmhdlgklgaaDoor
