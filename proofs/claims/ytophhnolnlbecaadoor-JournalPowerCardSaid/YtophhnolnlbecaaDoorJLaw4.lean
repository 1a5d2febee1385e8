/- The law JournalGrows over the contracts. No statement is proved here. -/
import Derived.Test.YtophhnolnlbecaaDoorJGst
namespace Go.Proofs.YtophhnolnlbecaaDoor
open Go.RowKit
set_option maxRecDepth 100000

theorem mayJ_40 {fr many e : Int} (h1 : 1 ≤ many) (h2 : 0 ≤ fr) (h3 : fr + many ≤ 5) : mayJ (Dk.new 40) fr many e ↔ jOk e := by
  have h : ((Dk.new 40).many : Int) / 8 = 5 := by decide
  unfold mayJ
  rw [h]
  constructor
  · exact fun k => k.1
  · exact fun k => ⟨k, h1, by omega, h2, by omega⟩
set_option maxHeartbeats 16000000 in
theorem grows_law {W : World} {Jn : World → List Nat → Nat → JS → Prop} (PF : P15F W) (PJ : P15J W Jn) (e : Int) (he : okInt e) (ra : Option Addr) (rn rc : Nat) (rl : List (List Int)) (oa : Option Addr) (on oc : Nat) (ol : List (List Int)) (hr : InRR W ra rl) (hrn : rl.length = rn) (hrc : rn ≤ rc ∧ rc ≤ maxLen) (ho : InRR W oa ol) (hon : ol.length = on) (hoc : on ≤ oc ∧ oc ≤ maxLen) :
    Calls Tryd.prog 8 #[.int .i64 e, .slice ra rn rc, .slice oa on oc] W fun e w' => e = .returned (.bool true) ∧ Below W.heap.size W w' := by
  have HP := Lib.hid PF
  have HJ := Lib.hid PJ
  have HI := Lib.hid (And.intro hr (And.intro hrn (And.intro ho (And.intro hon he))))
  obtain ⟨hrc1, hrc2⟩ := hrc
  obtain ⟨hoc1, hoc2⟩ := hoc
  clear PF PJ hr hrn ho hon he
  go_enter Tryd.func8, Tryd.ntmps8
  go_wp2_with fail
  refine (awake15_any HP.out W (Below.refl _ _)).mono ?_
  rintro e' w1 ⟨rfl, b1⟩
  have B1 := Lib.hid b1
  clear b1
  go_wp2_with fail
  refine (new_any 40 (by omega) w1).mono ?_
  rintro e' w2 ⟨h, g, rfl, hh, hlt, hbx, b2⟩
  have B2 := Lib.hid (below_then B1.out b2)
  have H2 := Lib.hid (And.intro hh hbx)
  clear hh hbx hlt b2
  go_wp2_with fail
  refine (disk_any h g w2 (row_cells H2.out.1 0)).mono ?_
  rintro e' w3 ⟨rfl, hw3⟩
  have H3 := Lib.hid (show Below w2.heap.size w2 w3 ∧ w3.heap[w2.heap.size]? = some (.cells #[.pointer (some ⟨g, 0, none⟩)] 86) from ⟨by rw [hw3]; exact below1 _ _, by rw [hw3]; exact heap_alloc_new _ _⟩)
  clear hw3
  have B3 := Lib.hid (below_then B2.out H3.out.1)
  go_wp2_with fail
  refine (HJ.out.new w2.heap.size g 1 2 e w3 _ 0 (Dk.new 40) B3.out (B2.out.size) H3.out.2 (H2.out.2.then_ H3.out.1) (by unfold okInt; omega) (by unfold okInt; omega) HI.out.2.2.2.2).mono ?_
  rintro e' w4 ⟨b4, h4⟩
  have B4 := Lib.hid (below_then B3.out b4)
  have H4 := Lib.hid (And.intro b4 (show w4.heap[h]? = some (.cells #[.pointer (some ⟨g, 0, none⟩)] 79) from (b4.block _ (Nat.lt_of_lt_of_le (lt_of_block H2.out.1) H3.out.1.size)).trans ((H3.out.1.block _ (lt_of_block H2.out.1)).trans H2.out.1)))
  rw [mayJ_40 (by omega) (by omega) (by omega)] at h4
  rcases h4 with ⟨hne, rfl⟩ | ⟨hok, F1, a1, rfl, j1, f1⟩
  · clear b4
    go_wp2_with fail
    refine (disk_any h g w4 (row_cells H4.out.2 0)).mono ?_
    rintro e' w5 ⟨rfl, hw5⟩
    have H5 := Lib.hid (show Below w4.heap.size w4 w5 ∧ w5.heap[w4.heap.size]? = some (.cells #[.pointer (some ⟨g, 0, none⟩)] 86) from ⟨by rw [hw5]; exact below1 _ _, by rw [hw5]; exact heap_alloc_new _ _⟩)
    clear hw5
    have B5 := Lib.hid (below_then B4.out H5.out.1)
    go_wp2_with fail
    refine (HJ.out.new w4.heap.size g 3 1 e w5 _ 0 (Dk.new 40) B5.out (B4.out.size) H5.out.2 (((H2.out.2.then_ H3.out.1).then_ H4.out.1).then_ H5.out.1) (by unfold okInt; omega) (by unfold okInt; omega) HI.out.2.2.2.2).mono ?_
    rintro e' w6 ⟨b6, h6⟩
    have B6 := Lib.hid (below_then B5.out b6)
    rw [mayJ_40 (by omega) (by omega) (by omega)] at h6
    rcases h6 with ⟨-, rfl⟩ | ⟨hok, -⟩
    rotate_left
    · exact absurd hok hne
    clear b6
    go_wp2_with fail
    go_ret
    exact ⟨rfl, B6.out⟩
  · have J1 := Lib.hid (And.intro j1 f1)
    have OK := Lib.hid hok
    clear j1 f1 b4
    go_wp2_with fail
    refine (disk_any h g w4 (row_cells H4.out.2 0)).mono ?_
    rintro e' w5 ⟨rfl, hw5⟩
    have H5 := Lib.hid (show Below w4.heap.size w4 w5 ∧ w5.heap[w4.heap.size]? = some (.cells #[.pointer (some ⟨g, 0, none⟩)] 86) from ⟨by rw [hw5]; exact below1 _ _, by rw [hw5]; exact heap_alloc_new _ _⟩)
    clear hw5
    have B5 := Lib.hid (below_then B4.out H5.out.1)
    go_wp2_with fail
    refine (HJ.out.new w4.heap.size g 3 1 e w5 _ 0 (Dk.new 40) B5.out (B4.out.size) H5.out.2 (((H2.out.2.then_ H3.out.1).then_ H4.out.1).then_ H5.out.1) (by unfold okInt; omega) (by unfold okInt; omega) HI.out.2.2.2.2).mono ?_
    rintro e' w6 ⟨b6, h6⟩
    rw [mayJ_40 (by omega) (by omega) (by omega)] at h6
    rcases h6 with ⟨hne, -⟩ | ⟨-, F2, a2, rfl, j2, f2⟩
    · exact absurd hok hne
    have S0 := Lib.hid (GSt.start HJ.out OK.out B1.out.size B2.out H2.out.1 H2.out.2 (Nat.le_refl _) (below_then H3.out.1 H4.out.1) J1.out.1 (fun b k => by
      rcases J1.out.2 b k with k1 | k1
      · exact .inl k1
      · exact .inr (Nat.le_trans H3.out.1.size k1)) H5.out.1 (Nat.le_refl _) b6 j2 f2)
    have hW1 : W.heap.size ≤ w1.heap.size := B1.out.size
    clear b6 j2 f2 hok J1 H5 H4 H3 H2 B1 B2 B3 B4 B5
    generalize w1.heap.size = lo at *
    go_wp2_with fail
    go_loopw [13, 14, 15] (fun pv av i wr => ∃ k n1 n2 pa pc qa qc, k ≤ 20 ∧ i = .int .i64 ((k : Nat) : Int) ∧ pv = .slice pa n1 pc ∧ av = .slice qa n2 qc ∧ n1 ≤ k ∧ n2 ≤ k ∧ Hid (GSt Jn W lo h g e a1 a2 (32 * k) (.slice pa n1 pc) (.slice qa n2 qc) n1 n2 [] [] wr)) (fun _ _ i _ => 20 - (intOf i).toNat)
    case atStart => exact ⟨0, 0, 0, none, 0, none, 0, by omega, rfl, rfl, rfl, by omega, by omega, S0⟩
    case round =>
      obtain ⟨k, n1, n2, pa, pc, qa, qc, hk, rfl, rfl, rfl, hn1, hn2, HS⟩ := hrel
      by_cases hlt : k < rn ∧ k < 20
      · obtain ⟨hl1, hl2⟩ := hlt
        have j1 : (k : Int) < (rn : Int) := by omega
        have j2 : (k : Int) < 20 := by omega
        obtain ⟨x, hx⟩ : ∃ x, rl[k]? = some x := ⟨_, List.getElem?_eq_getElem (by rw [HI.out.2.1]; exact hl1)⟩
        obtain ⟨b, o, ax, cx, rfl, hc, hi, hnil, hxc, hxm, hB⟩ := HI.out.1 k x hx
        have HX := Lib.hid (And.intro hi (And.intro hnil (And.intro hxc (And.intro hxm hB))))
        have HC := Lib.hid hc
        have c1 : wr.cell? ⟨b, o + k, none⟩ = some (.slice ax x.length cx) := (HS.out.below.cell (p := ⟨b, o + k, none⟩) (cell_lt hc)).trans hc
        clear hi hnil hxc hxm hB hx hc
        go_wp2_with fail
        refine (HS.out.app1 HJ.out (HX.out.1.then_ HS.out.below) HX.out.2.2.2.2 rfl HX.out.2.2.1 HX.out.2.2.2.1 HX.out.2.1 (by omega)).mono ?_
        rintro e' wA hA0
        obtain ⟨er, rfl, hA⟩ : ∃ er, e' = .returned (errV er) ∧ ((er = 150 ∧ GSt Jn W lo h g e a1 a2 (32 * k) (.slice pa n1 pc) (.slice qa n2 qc) n1 n2 [] [] wA) ∨ (er = 0 ∧ GSt Jn W lo h g e a1 a2 (32 * k + 16) (.slice pa n1 pc) (.slice qa n2 qc) n1 n2 [x] [] wA)) := by
          rcases hA0 with ⟨q, s⟩ | ⟨q, s⟩
          · exact ⟨150, q, .inl ⟨rfl, s⟩⟩
          · exact ⟨0, q, .inr ⟨rfl, s⟩⟩
        clear c1 hA0
        go_upto_region 13 with fail
        go_cut [72] from 55 to 146 (fun v wx => v = .bool (decide (er = 0)) ∧ wx = wA)
        case first =>
          rcases hA with ⟨rfl, -⟩ | ⟨rfl, -⟩
          · rw [errV_mk (by decide)]
            go_wp2_with fail
            all_goals go_meet
            exact ⟨rfl, rfl⟩
          · rw [errV_zero]
            go_wp2_with fail
            all_goals go_meet
            exact ⟨rfl, rfl⟩
        case rest =>
          obtain ⟨rfl, hw⟩ := hcut
          subst hw
          go_upto_if 72 with fail
          go_cut [13] from 55 to 146 (fun v wx => ∃ n pa' pc', n ≤ k + 1 ∧ v = .slice pa' n pc' ∧ Hid (GSt Jn W lo h g e a1 a2 (32 * k + 16) (.slice pa' n pc') (.slice qa n2 qc) n n2 [] [] wx))
          case first =>
            rcases hA with ⟨rfl, hA⟩ | ⟨rfl, hA⟩
            · obtain ⟨N, d, F1, F2, l1, l2, q1, q2, q3, q4⟩ := hA
              have HA := Lib.hid (show GSt Jn W lo h g e a1 a2 (32 * k + 16) (.slice pa n1 pc) (.slice qa n2 qc) n1 n2 [] [] wc from ⟨N, d, F1, F2, l1, l2, q1, q2, by omega, q4⟩)
              clear q1 q2 q3 q4
              go_wp2_with fail
              all_goals go_meet
              exact ⟨n1, pa, pc, by omega, rfl, HA⟩
            · have c1 : wc.cell? ⟨b, o + k, none⟩ = some (.slice ax x.length cx) := (hA.below.cell (p := ⟨b, o + k, none⟩) (cell_lt HC.out)).trans HC.out
              obtain ⟨N, d, F1, F2, l1, l2, q1, q2, q3, q4⟩ := hA
              have HB := Lib.hid (below1 wc (.cells #[.slice ax x.length cx] 22))
              have HA := Lib.hid (And.intro q1 (And.intro q2 (And.intro q3 (q4.then_ HJ.out HB.out))))
              have hlt := q4.box.lt
              have hlo : lo ≤ wc.heap.size := by have := hlt.1; have := hlt.2; dsimp only at *; omega
              clear q1 q2 q3 q4 hlt
              go_wp2_with (first | (show wpList _ _ _ (⟨some 79, _, _, _, _, _⟩ :: _) _ _; refine apPut rfl (.tmp 73) (.tmp 78) rfl lo _ l1 rfl HA.out.2.2.2.put1 (.slice ax x.length cx) x ⟨ax, cx, rfl, HX.out.1, HX.out.2.1, HX.out.2.2.1, HX.out.2.2.2.1, HX.out.2.2.2.2⟩ ⟨wc.heap.size, 0, none⟩ rfl (row_cells (heap_alloc_new _ _) 0) (by rw [HA.out.1]; omega) (Nat.le_trans hlo HB.out.size) ?_; intro v7 w7 h7) | fail)
              all_goals go_meet
              obtain ⟨pb, pd, hpf⟩ := h7.out.1.form
              rw [List.length_append, List.length_singleton, HA.out.1] at hpf
              have hpv := hpf.1
              subst hpv
              exact ⟨n1 + 1, pb, pd, by omega, rfl, Lib.hid ⟨N, d, F1, F2, l1 ++ [(.slice ax x.length cx, x)], l2, by rw [List.length_append, List.length_singleton, HA.out.1], HA.out.2.1, HA.out.2.2.1, by
                have hs := HA.out.2.2.2.grow HJ.out h7.out.1 h7.out.2.1 h7.out.2.2
                rw [List.map_append]
                simpa using hs⟩⟩
          case rest =>
            obtain ⟨n, pa', pc', hn, rfl, HA⟩ := hcut
            clear hn1 HX HC HS hA
            go_upto_if 83 with fail
            go_cut [14, 16] from 55 to 146 (fun v _ wx => ∃ m qa' qc', m ≤ k + 1 ∧ v = .slice qa' m qc' ∧ Hid (GSt Jn W lo h g e a1 a2 (32 * (k + 1)) (.slice pa' n pc') (.slice qa' m qc') n m [] [] wx))
            case first =>
              by_cases hko : k < on
              · have j3 : (k : Int) < (on : Int) := by omega
                obtain ⟨y, hy⟩ : ∃ y, ol[k]? = some y := ⟨_, List.getElem?_eq_getElem (by rw [HI.out.2.2.2.1]; exact hko)⟩
                obtain ⟨b', o', ay, cy, rfl, hc, hi, hnil, hxc, hxm, hB⟩ := HI.out.2.2.1 k y hy
                have HX := Lib.hid (And.intro hi (And.intro hnil (And.intro hxc (And.intro hxm hB))))
                have HC := Lib.hid hc
                have c1 := (HA.out.below.cell (p := ⟨b', o' + k, none⟩) (cell_lt hc)).trans hc
                clear hi hnil hxc hxm hB hy hc
                go_wp2_with fail
                refine (HA.out.app2 HJ.out (HX.out.1.then_ HA.out.below) HX.out.2.2.2.2 rfl HX.out.2.2.1 HX.out.2.2.2.1 HX.out.2.1 (by omega)).mono ?_
                rintro e' wB hA
                clear c1
                rcases hA with ⟨rfl, hA⟩ | ⟨rfl, hA⟩
                · rw [errV_mk (by decide)]
                  obtain ⟨N, d, F1, F2, l1, l2, q1, q2, q3, q4⟩ := hA
                  have HA2 := Lib.hid (show GSt Jn W lo h g e a1 a2 (32 * (k + 1)) (.slice pa' n pc') (.slice qa n2 qc) n n2 [] [] wB from ⟨N, d, F1, F2, l1, l2, q1, q2, by omega, q4⟩)
                  clear q1 q2 q3 q4
                  go_wp2_with fail
                  all_goals go_meet
                  exact ⟨n2, qa, qc, by omega, rfl, HA2⟩
                · have c1 : wB.cell? ⟨b', o' + k, none⟩ = some (.slice ay y.length cy) := (hA.below.cell (p := ⟨b', o' + k, none⟩) (cell_lt HC.out)).trans HC.out
                  obtain ⟨N, d, F1, F2, l1, l2, q1, q2, q3, q4⟩ := hA
                  have HB := Lib.hid (below1 wB (.cells #[.slice ay y.length cy] 22))
                  have HA2 := Lib.hid (And.intro q1 (And.intro q2 (And.intro q3 (q4.then_ HJ.out HB.out))))
                  have hlt := q4.box.lt
                  have hlo : lo ≤ wB.heap.size := by have := hlt.1; have := hlt.2; dsimp only at *; omega
                  clear q1 q2 q3 q4 hlt
                  go_wp2_with (first | (show wpList _ _ _ (⟨some 98, _, _, _, _, _⟩ :: _) _ _; refine apPut rfl (.tmp 92) (.tmp 97) rfl lo _ l2 rfl HA2.out.2.2.2.put2 (.slice ay y.length cy) y ⟨ay, cy, rfl, HX.out.1, HX.out.2.1, HX.out.2.2.1, HX.out.2.2.2.1, HX.out.2.2.2.2⟩ ⟨wB.heap.size, 0, none⟩ rfl (row_cells (heap_alloc_new _ _) 0) (by rw [HA2.out.2.1]; omega) (Nat.le_trans hlo HB.out.size) ?_; intro v7 w7 h7) | fail)
                  all_goals go_meet
                  obtain ⟨pb, pd, hpf⟩ := h7.out.1.form
                  rw [List.length_append, List.length_singleton, HA2.out.2.1] at hpf
                  have hpv := hpf.1
                  subst hpv
                  exact ⟨n2 + 1, pb, pd, by omega, rfl, Lib.hid ⟨N, d, F1, F2, l1, l2 ++ [(.slice ay y.length cy, y)], HA2.out.1, by rw [List.length_append, List.length_singleton, HA2.out.2.1], by have := HA2.out.2.2.1; omega, by
                    have hs := (HA2.out.2.2.2.swap.grow HJ.out h7.out.1 h7.out.2.1 h7.out.2.2).swap
                    rw [List.map_append]
                    simpa using hs⟩⟩
              · have j3 : ¬ (k : Int) < (on : Int) := by omega
                have HA2 := Lib.hid (HA.out.weak (K' := 32 * (k + 1)) (by omega))
                go_wp2_with fail
                all_goals go_meet
                exact ⟨n2, qa, qc, by omega, rfl, HA2⟩
            case rest =>
              obtain ⟨m, qa', qc', hm, rfl, HT⟩ := hcut
              clear hn2 HA
              go_wp2_with fail
              refine (HT.out.disk HJ.out).mono ?_
              rintro e' wC ⟨hd, rfl, hh, -, hs⟩
              have HD := Lib.hid (And.intro hh hs)
              clear hh hs HT
              go_wp2_with fail
              refine (HD.out.2.read1 HJ.out HD.out.1 rfl).mono ?_
              rintro e' wD ⟨ra1, rc1, rs1, rfl, i1, i2, hl1, b1⟩
              have HS1 := Lib.hid (HD.out.2.then_ HJ.out b1)
              have HR1 := Lib.hid (And.intro i1 (And.intro i2 hl1))
              clear i1 i2 hl1 b1 HD
              go_wp2_with fail
              refine (HS1.out.disk HJ.out).mono ?_
              rintro e' wE ⟨hd2, rfl, hh, bE, hs⟩
              have HD := Lib.hid (And.intro hh (And.intro hs bE))
              clear hh hs HS1 bE
              go_wp2_with fail
              refine (HD.out.2.1.read2 HJ.out HD.out.1 rfl).mono ?_
              rintro e' wF ⟨ra2, rc2, rs2, rfl, i1, i2, hl1, b1⟩
              have HS2 := Lib.hid (HD.out.2.1.then_ HJ.out b1)
              have HR2 := Lib.hid (And.intro i1 (And.intro i2 hl1))
              have HB2 := Lib.hid (below_then HD.out.2.2 b1)
              clear i1 i2 hl1 b1 HD
              go_wp2_with fail
              refine (same_any ra1 n rc1 rs1 pa' n pc' rs1 wF (HR1.out.1.then_ HB2.out) HR1.out.2.2 (HR1.out.2.1.then_ HB2.out) HR1.out.2.2 (by omega)).mono ?_
              rintro e' wG ⟨rfl, b1⟩
              have HS3 := Lib.hid (HS2.out.then_ HJ.out b1)
              have HR3 := Lib.hid (And.intro (HR2.out.1.then_ b1) (And.intro (HR2.out.2.1.then_ b1) HR2.out.2.2))
              clear b1 HS2 HR2 HR1 HB2
              rw [decide_eq_true rfl]
              go_wp2_with fail
              refine (same_any ra2 m rc2 rs2 qa' m qc' rs2 wG HR3.out.1 HR3.out.2.2 HR3.out.2.1 HR3.out.2.2 (by omega)).mono ?_
              rintro e' wH ⟨rfl, b1⟩
              have HS4 := Lib.hid (HS3.out.then_ HJ.out b1)
              clear b1 HS3 HR3
              rw [decide_eq_true rfl]
              go_wp2_with fail
              refine (HS4.out.rec1 HJ.out).mono ?_
              rintro e' wI ⟨rfl, b1⟩
              have HS5 := Lib.hid (HS4.out.then_ HJ.out b1)
              clear b1 HS4
              go_wp2_with fail
              refine (HS5.out.rec2 HJ.out).mono ?_
              rintro e' wK ⟨rfl, b1⟩
              have HS6 := Lib.hid (HS5.out.then_ HJ.out b1)
              clear b1 HS5
              go_wp2_with fail
              go_roundw
              case rel =>
                exact ⟨k + 1, n, m, pa', pc', qa', qc', by omega, by go_num, rfl, rfl, hn, hm, HS6⟩
              case measure => simp [intOf]; omega
      · by_cases h20 : k < rn
        · have j1 : (k : Int) < (rn : Int) := by omega
          have j2 : ¬ (k : Int) < 20 := by omega
          clear hlt
          go_wp2_with fail
          go_ret
          exact ⟨rfl, HS.out.below⟩
        · have j1 : ¬ (k : Int) < (rn : Int) := by omega
          clear hlt
          go_wp2_with fail
          go_ret
          exact ⟨rfl, HS.out.below⟩
end Go.Proofs.YtophhnolnlbecaaDoor
