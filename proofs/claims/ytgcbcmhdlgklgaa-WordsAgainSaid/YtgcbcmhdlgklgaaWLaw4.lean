/- The law WordsSums over the contracts. For the seat without the document's functions: fill it with gen_wplain.py's texts. No statement is proved here. -/
import Derived.Test.YtgcbcmhdlgklgaaWTTo
import Derived.Test.YtgcbcmhdlgklgaaWSums
import Derived.Laws.Cover1
namespace Go.Proofs.Ytgcbcmhdlgklgaa
open Go.RowKit Go.Lib
set_option maxRecDepth 100000

/-- The program's calls answer so, in every world that has grown out of W. -/
structure P9s (W : World) : Prop where
  awake : ∀ w : World, Below W.heap.size W w → Calls Try.prog 5 #[] w fun e w' => e = .returned (.bool true) ∧ Below w.heap.size w w'
  terms : ∀ (x : T) (w : World), Below W.heap.size W w → x.ok → x.In w → (allW x.val).length ≤ 1000000000000 → Calls Try.prog 10 #[x.arg] w (TermsTo w (termsF (allW x.val) []))
  split : ∀ (s : ByteArray) (w : World), s.size ≤ 140737488351232 → Below W.heap.size W w → Calls Try.prog 6 #[.string s] w fun e w' => ∃ v, e = .returned v ∧ OwnS w' w.heap.size v (splitL (bsI s)) ∧ Below w.heap.size w w'
  score : ∀ (x : T) (s : ByteArray) (w : World), Below W.heap.size W w → x.ok → x.In w → s.size ≤ 140737488351232 → (allW x.val).length ≤ 1000000000000 → Calls Try.prog 8 #[x.arg, .string s] w fun e w' => e = .returned (.int .i64 (scoreW (allW x.val) (splitL (bsI s)) : Nat)) ∧ Below w.heap.size w w'
set_option maxHeartbeats 8000000 in
theorem wsums_law {w : World} (P : P9s w) (t : T) (s : ByteArray) (ok : t.ok) (hin : t.In w) (hs : s.size ≤ 140737488351232) (hm : (allW t.val).length ≤ 1000000000000) :
    Calls Try.prog 4 #[t.arg, .string s] w fun e w' => e = .returned (.bool true) ∧ Below w.heap.size w w' := by
  have HP := Lib.hid P
  have HA := Lib.hid hin
  have OA := Lib.hid ok
  have HM := Lib.hid (And.intro hm hs)
  have hus : ∀ x ∈ allW t.val, isWord x := allW_are _
  obtain ⟨us, husE⟩ : ∃ us, allW t.val = us := ⟨_, rfl⟩
  obtain ⟨ws, hwsE⟩ : ∃ ws, splitL (bsI s) = ws := ⟨_, rfl⟩
  have hws : ∀ x ∈ ws, isWord x := by rw [← hwsE]; exact splitL_are
  have hwl : ws.length ≤ 200 := by rw [← hwsE]; exact splitL_len _
  rw [husE] at hm hus
  have HE := Lib.hid (And.intro husE hwsE)
  have HW := Lib.hid (And.intro hus hws)
  clear husE hwsE hus hws
  obtain ⟨k, n, q, la, lc, l, da, dc, d⟩ := t
  show Calls _ _ #[.agg #[.int .i64 k, .int .i64 n, .string q, .slice la l.length lc, .slice da d.length dc], .string s] _ _
  have b0 := below1 w (.cells #[.int .i64 k, .int .i64 n, .string q, .slice la l.length lc, .slice da d.length dc] 30)
  have r0 := heap_alloc_new w (.cells #[.int .i64 k, .int .i64 n, .string q, .slice la l.length lc, .slice da d.length dc] 30)
  have H0 := Lib.hid (And.intro b0 r0)
  clear ok hin P b0 r0
  go_enter Try.func4, Try.ntmps4
  go_wp2_with fail
  refine (HP.out.awake _ H0.out.1).mono ?_
  rintro e w1 ⟨rfl, b1⟩
  have r1 := row_then H0.out.2 b1
  have fa := row_cells r1
  have H1 := Lib.hid (And.intro (below_then H0.out.1 b1) r1)
  clear b1 r1 H0
  go_wp2_with fail
  have K2 := HP.out.terms (.mk k n q la lc l da dc d) w1 H1.out.1 OA.out (HA.out.then_ H1.out.1) HM.out.1
  rw [HE.out.1] at K2
  refine K2.mono ?_
  clear K2
  intro e w2 h2
  cases hR : termsF us [] with
  | none =>
    rw [hR] at h2
    obtain ⟨rfl, b2⟩ := h2
    have B2 := Lib.hid (below_then H1.out.1 b2)
    clear b2 hR fa
    go_wp2_with fail
    go_ret
    exact ⟨ret_bool (by simp), B2.out⟩
  | some L =>
    rw [hR] at h2
    have HC := Lib.hid (termsF_counted (fun x hx => word_isB (HW.out.1 x hx)) hR)
    obtain ⟨a2, c2, rfl, ho2, b2⟩ := h2.both
    have A2 := Lib.hid (show OwnT w2 w1.heap.size (.slice a2 L.length c2) L from ho2)
    have B2 := Lib.hid (below_then H1.out.1 b2)
    have R2 := Lib.hid (row_then H1.out.2 b2)
    dsimp only [listT, codeT]
    clear b2 hR fa h2 ho2
    have few := HC.out.few
    go_wp2_with fail
    refine (HP.out.split s w2 HM.out.2 B2.out).mono ?_
    rintro e w3 ⟨v3, rfl, o3, b3⟩
    rw [HE.out.2] at o3
    obtain ⟨a3, c3, rfl, i3, -, -, z3⟩ := o3.shape
    have A3 := Lib.hid (And.intro (A2.out.then_ b3) i3)
    have B3 := Lib.hid (below_then B2.out b3)
    have R3 := Lib.hid (row_then R2.out b3)
    clear o3 b3 i3 z3 A2
    obtain ⟨nL, hnL⟩ : ∃ nL, L.length = nL := ⟨_, rfl⟩
    obtain ⟨nw, hnw⟩ : ∃ nw, ws.length = nw := ⟨_, rfl⟩
    rw [hnL] at few A3 ⊢
    rw [hnw] at hwl ⊢
    have HN := Lib.hid (And.intro hnL hnw)
    have HT := Lib.hid (HC.out.score ws)
    have htot : sumT ws L ≤ 1000000000000 := by rw [HT.out]; exact Nat.le_trans (scoreW_le us ws) hm
    clear hnL hnw
    go_wp2_with fail
    go_loopw [9, 10, 11] (fun sm i kk wr => ∃ j : Nat, j ≤ nL ∧ i = .int .i64 j ∧ sm = .int .i64 (sumT ws (L.take j) : Nat) ∧ Hid (Below w3.heap.size w3 wr)) (fun _ i _ _ => nL - (RowKit.intOf i).toNat)
    case atStart => exact ⟨0, by omega, rfl, rfl, Lib.hid (Below.refl _ _)⟩
    case round =>
      obtain ⟨j, hj, rfl, rfl, HB⟩ := hrel
      by_cases hlt : j < nL
      · obtain ⟨p, hp⟩ : ∃ p, L[j]? = some p := ⟨_, List.getElem?_eq_getElem (by rw [HN.out.1]; exact hlt)⟩
        have HPJ := Lib.hid hp
        have HST := Lib.hid (sumT_step (ws := ws) hp)
        have hroom := sumT_room (ws := ws) hp
        obtain ⟨g1, rfl, x0, x1, -⟩ := OwnT.at_ (A3.out.1.then_ HB.out) hp
        have hpos : 1 ≤ p.2 := by
          rw [HC.out.count p (List.mem_of_getElem? hp)]
          exact List.count_pos_iff.2 ((HC.out.keys p.1).1 (List.mem_map.2 ⟨p, List.mem_of_getElem? hp, rfl⟩))
        have hmx : p.2 ≤ 1000000000000 := by
          rw [HC.out.count p (List.mem_of_getElem? hp)]
          exact Nat.le_trans List.count_le_length hm
        have hpw : isWord p.1 := HW.out.1 p.1 ((HC.out.keys p.1).1 (List.mem_map.2 ⟨p, List.mem_of_getElem? hp, rfl⟩))
        have HPW := Lib.hid hpw
        have j0 : (0 : Int) ≤ (j : Int) := by omega
        have j1 : (j : Int) < (nL : Int) := by omega
        have cnt1 : ¬ ((p.2 : Nat) : Int) < 1 := by omega
        have cnt2 : decide (((p.2 : Nat) : Int) < 1) = false := by simp; omega
        clear hp hpw
        by_cases hj0 : j = 0
        · have hkf : decide ((0 : Int) < (j : Int)) = false := by simp; omega
          have hkg : decide (0 < j) = false := by simp; omega
          have HJ0 := Lib.hid hj0
          clear hj0
          go_wp2_with fail
          go_quiet (fail)
          go_wp2_with fail
          go_loopw [9, 11] (fun sm kk wq => ∃ r : Nat, r ≤ nw ∧ kk = .int .i64 r ∧ sm = .int .i64 (sumT ws (L.take j) : Nat) ∧ Hid (Below w3.heap.size w3 wq) ∧ Hid (p.1 ∉ ws.take r)) (fun _ kk _ => nw - (RowKit.intOf kk).toNat)
          case atStart => exact ⟨0, by omega, rfl, rfl, Lib.hid ⟨HB.out.os, HB.out.tape, HB.out.output, HB.out.size, HB.out.block⟩, Lib.hid (by simp)⟩
          case round =>
            clear x0 x1
            obtain ⟨r, hr, rfl, rfl, HB2, HNO⟩ := hrel
            obtain ⟨gg, eg, x0, x1, -⟩ := OwnT.at_ (A3.out.1.then_ HB2.out) HPJ.out
            injection eg with eg
            injection eg with eg
            subst eg
            by_cases hrl : r < nw
            · obtain ⟨y, hy⟩ : ∃ y, ws[r]? = some y := ⟨_, List.getElem?_eq_getElem (by rw [HN.out.2]; exact hrl)⟩
              obtain ⟨g2, p2, rfl, c2⟩ := (A3.out.2.then_ HB2.out) r y hy
              have r0 : (0 : Int) ≤ (r : Int) := by omega
              have r1 : (r : Int) < (nw : Int) := by omega
              have hsame := fun n => word_same (HW.out.2 y (List.mem_of_getElem? hy)) HPW.out n
              have HY := Lib.hid hy
              clear hy
              cases he : decide (y = p.1)
              · have hs1 := hsame false he
                have HNE := Lib.hid (of_decide_eq_false he)
                clear hsame he
                go_wp2_with fail
                go_quiet (fail)
                go_wp2_with fail
                go_roundw
                case rel => exact ⟨r + 1, by omega, by go_num, rfl, Lib.hid ⟨HB2.out.os, HB2.out.tape, HB2.out.output, HB2.out.size, HB2.out.block⟩, Lib.hid (by
                  intro hmem
                  rw [List.take_add_one, HY.out, Option.toList_some] at hmem
                  rcases List.mem_append.1 hmem with h | h
                  · exact HNO.out h
                  · exact HNE.out (List.mem_singleton.1 h).symm)⟩
                case measure => simp [RowKit.intOf]; omega
              · have hs1 := hsame true he
                have HEQ := Lib.hid (of_decide_eq_true he)
                have HS : Hid (sumT ws (L.take (j + 1)) = sumT ws (L.take j) + p.2) := Lib.hid (by rw [HST.out, if_pos (by rw [← HEQ.out]; exact List.mem_of_getElem? HY.out)])
                rw [if_pos (show p.1 ∈ ws by rw [← HEQ.out]; exact List.mem_of_getElem? HY.out)] at hroom
                clear hsame he
                go_wp2_with fail
                go_quiet (fail)
                go_wp2_with fail
                go_roundw
                case rel => exact ⟨j + 1, by omega, by go_num, by rw [HS.out]; go_num, Lib.hid ⟨HB2.out.os, HB2.out.tape, HB2.out.output, HB2.out.size, HB2.out.block⟩⟩
                case measure => simp [RowKit.intOf]; omega
            · have HS : Hid (sumT ws (L.take (j + 1)) = sumT ws (L.take j)) := Lib.hid (by
                have e : ws.take r = ws := List.take_of_length_le (by rw [HN.out.2]; omega)
                have h := HNO.out
                rw [e] at h
                rw [HST.out, if_neg h]; rfl)
              go_wp2_with fail
              go_roundw
              case rel => exact ⟨j + 1, by omega, by go_num, by rw [HS.out], HB2⟩
              case measure => simp [RowKit.intOf]; omega
        · obtain ⟨j, rfl⟩ : ∃ i, j = i + 1 := ⟨j - 1, by omega⟩
          obtain ⟨p', hp'⟩ : ∃ p', L[j]? = some p' := ⟨_, List.getElem?_eq_getElem (by rw [HN.out.1]; omega)⟩
          obtain ⟨g9, e9, y0, y1, -⟩ := OwnT.at_ (A3.out.1.then_ HB.out) hp'
          injection e9 with e9
          injection e9 with e9
          subst e9
          have hlt' : Op.bytesLess (strOfNums p'.1).toList (strOfNums p.1).toList = true := by
            obtain ⟨p1, e1⟩ := List.getElem?_eq_some_iff.1 hp'
            obtain ⟨p2, e2⟩ := List.getElem?_eq_some_iff.1 HPJ.out
            have h3 := List.pairwise_iff_getElem.1 HC.out.sorted j (j + 1) p1 p2 (by omega)
            rw [e1, e2] at h3
            exact h3
          have W1 := IntWalk.i64_in (j : Int) (by omega)
          have W3 : (0 : Int) ≤ (j : Int) := by omega
          have W4 : (j : Int) < (nL : Int) := by omega
          clear hp'
          go_wp2_with fail
          go_quiet (fail)
          go_wp2_with fail
          go_loopw [9, 11] (fun sm kk wq => ∃ r : Nat, r ≤ nw ∧ kk = .int .i64 r ∧ sm = .int .i64 (sumT ws (L.take (j + 1)) : Nat) ∧ Hid (Below w3.heap.size w3 wq) ∧ Hid (p.1 ∉ ws.take r)) (fun _ kk _ => nw - (RowKit.intOf kk).toNat)
          case atStart => exact ⟨0, by omega, rfl, rfl, Lib.hid ⟨HB.out.os, HB.out.tape, HB.out.output, HB.out.size, HB.out.block⟩, Lib.hid (by simp)⟩
          case round =>
            clear x0 x1
            obtain ⟨r, hr, rfl, rfl, HB2, HNO⟩ := hrel
            obtain ⟨gg, eg, x0, x1, -⟩ := OwnT.at_ (A3.out.1.then_ HB2.out) HPJ.out
            injection eg with eg
            injection eg with eg
            subst eg
            by_cases hrl : r < nw
            · obtain ⟨y, hy⟩ : ∃ y, ws[r]? = some y := ⟨_, List.getElem?_eq_getElem (by rw [HN.out.2]; exact hrl)⟩
              obtain ⟨g2, p2, rfl, c2⟩ := (A3.out.2.then_ HB2.out) r y hy
              have r0 : (0 : Int) ≤ (r : Int) := by omega
              have r1 : (r : Int) < (nw : Int) := by omega
              have hsame := fun n => word_same (HW.out.2 y (List.mem_of_getElem? hy)) HPW.out n
              have HY := Lib.hid hy
              clear hy
              cases he : decide (y = p.1)
              · have hs1 := hsame false he
                have HNE := Lib.hid (of_decide_eq_false he)
                clear hsame he
                go_wp2_with fail
                go_quiet (fail)
                go_wp2_with fail
                go_roundw
                case rel => exact ⟨r + 1, by omega, by go_num, rfl, Lib.hid ⟨HB2.out.os, HB2.out.tape, HB2.out.output, HB2.out.size, HB2.out.block⟩, Lib.hid (by
                  intro hmem
                  rw [List.take_add_one, HY.out, Option.toList_some] at hmem
                  rcases List.mem_append.1 hmem with h | h
                  · exact HNO.out h
                  · exact HNE.out (List.mem_singleton.1 h).symm)⟩
                case measure => simp [RowKit.intOf]; omega
              · have hs1 := hsame true he
                have HEQ := Lib.hid (of_decide_eq_true he)
                have HS : Hid (sumT ws (L.take (j + 1 + 1)) = sumT ws (L.take (j + 1)) + p.2) := Lib.hid (by rw [HST.out, if_pos (by rw [← HEQ.out]; exact List.mem_of_getElem? HY.out)])
                rw [if_pos (show p.1 ∈ ws by rw [← HEQ.out]; exact List.mem_of_getElem? HY.out)] at hroom
                clear hsame he
                go_wp2_with fail
                go_quiet (fail)
                go_wp2_with fail
                go_roundw
                case rel => exact ⟨j + 1 + 1, by omega, by go_num, by rw [HS.out]; go_num, Lib.hid ⟨HB2.out.os, HB2.out.tape, HB2.out.output, HB2.out.size, HB2.out.block⟩⟩
                case measure => simp [RowKit.intOf]; omega
            · have HS : Hid (sumT ws (L.take (j + 1 + 1)) = sumT ws (L.take (j + 1))) := Lib.hid (by
                have e : ws.take r = ws := List.take_of_length_le (by rw [HN.out.2]; omega)
                have h := HNO.out
                rw [e] at h
                rw [HST.out, if_neg h]; rfl)
              go_wp2_with fail
              go_roundw
              case rel => exact ⟨j + 1 + 1, by omega, by go_num, by rw [HS.out], HB2⟩
              case measure => simp [RowKit.intOf]; omega
      · have e : L.take j = L := List.take_of_length_le (by rw [HN.out.1]; omega)
        rw [e, HT.out]
        have fa := row_cells (row_then R3.out HB.out)
        clear e
        go_wp2_with fail
        have K5 := HP.out.score (.mk k n q la lc l da dc d) s wr (below_then B3.out HB.out) OA.out (HA.out.then_ (below_then B3.out HB.out)) HM.out.2 HM.out.1
        rw [HE.out.1, HE.out.2] at K5
        refine K5.mono ?_
        clear K5
        rintro e w5 ⟨rfl, b5⟩
        have B5 := Lib.hid (below_then (below_then B3.out HB.out) b5)
        clear b5
        go_wp2_with fail
        go_ret
        exact ⟨ret_bool (by simp), B5.out⟩
end Go.Proofs.Ytgcbcmhdlgklgaa
