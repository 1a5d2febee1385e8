/- The law JournalPower over the contracts. No statement is proved here. -/
import Derived.Test.YtophhnolnlbecaaDoorJPst
import Derived.Test.YtophhnolnlbecaaDoorJLaw5
namespace Go.Proofs.YtophhnolnlbecaaDoor
open Go.RowKit
set_option maxRecDepth 100000

set_option maxHeartbeats 32000000 in
theorem jpower_law {W : World} {Jn : World → List Nat → Nat → JS → Prop} (PF : P15F W) (PJ : P15J W Jn) (hE : ErrT W) (e : Int) (he : okInt e) (oa : Option Addr) (on oc : Nat) (ol : List (List Int)) (ho : InRR W oa ol) (hon : ol.length = on) (hoc : on ≤ oc ∧ oc ≤ maxLen) (ra : Option Addr) (rn rc : Nat) (rl : List (List Int)) (hr : InRR W ra rl) (hrn : rl.length = rn) (hrc : rn ≤ rc ∧ rc ≤ maxLen)
    (sa : Option Addr) (sn sc : Nat) (sb : List Bool) (hs : InK W W.heap.size sa sb) (hsn : sb.length = sn) (hsc : sn ≤ sc ∧ sc ≤ maxLen) (acts : Int) (ha : okInt acts) (done : Bool) (ka : Option Addr) (kn kc : Nat) (kb : List Bool) (hk : InK W W.heap.size ka kb) (hkn : kb.length = kn) (hkc : kn ≤ kc ∧ kc ≤ maxLen) (h47 : on ≤ 140737488351232 ∧ rn ≤ 140737488351232 ∧ kn ≤ 140737488351232) :
    Calls Tryd.prog 7 #[.int .i64 e, .slice oa on oc, .slice ra rn rc, .slice sa sn sc, .int .i64 acts, .bool done, .slice ka kn kc] W fun e w' => e = .returned (.bool true) ∧ Below W.heap.size W w' := by
  have HP := Lib.hid PF
  have HJ := Lib.hid PJ
  have HO := Lib.hid (And.intro ho hon)
  have HR := Lib.hid (And.intro hr hrn)
  have HSY := Lib.hid (And.intro hs hsn)
  have HKE := Lib.hid (And.intro hk hkn)
  have HI := Lib.hid (And.intro hE (And.intro he ha))
  obtain ⟨hoc1, hoc2⟩ := hoc
  obtain ⟨hrc1, hrc2⟩ := hrc
  obtain ⟨hsc1, hsc2⟩ := hsc
  obtain ⟨hkc1, hkc2⟩ := hkc
  obtain ⟨h471, h472, h473⟩ := h47
  clear PF PJ hr hrn ho hon he hE hs hsn hk hkn ha
  go_enter Tryd.func7, Tryd.ntmps7
  go_wp2_with fail
  refine (awake15_any HP.out W (Below.refl _ _)).mono ?_
  rintro e' w1 ⟨rfl, b1⟩
  have B1 := Lib.hid b1
  clear b1
  go_wp2_with fail
  refine (new_any 40 (by omega) w1).mono ?_
  rintro e' w2 ⟨h, g, rfl, hh, hlt, hbx, b2⟩
  have B2 := Lib.hid (below_then B1.out b2)
  have H2 := Lib.hid (And.intro hh hbx)
  clear hh hbx hlt b2
  go_wp2_with fail
  refine (disk_any h g w2 (row_cells H2.out.1 0)).mono ?_
  rintro e' w3 ⟨rfl, hw3⟩
  have H3 := Lib.hid (show Below w2.heap.size w2 w3 ∧ w3.heap[w2.heap.size]? = some (.cells #[.pointer (some ⟨g, 0, none⟩)] 86) from ⟨by rw [hw3]; exact below1 _ _, by rw [hw3]; exact heap_alloc_new _ _⟩)
  clear hw3
  have B3 := Lib.hid (below_then B2.out H3.out.1)
  go_wp2_with fail
  refine (HJ.out.new w2.heap.size g 1 3 e w3 _ 0 (Dk.new 40) B3.out (B2.out.size) H3.out.2 (H2.out.2.then_ H3.out.1) (by unfold okInt; omega) (by unfold okInt; omega) HI.out.2.1).mono ?_
  rintro e' w4 ⟨b4, h4⟩
  have B4 := Lib.hid (below_then B3.out b4)
  have H4 := Lib.hid (And.intro b4 (show w4.heap[h]? = some (.cells #[.pointer (some ⟨g, 0, none⟩)] 79) from (b4.block _ (Nat.lt_of_lt_of_le (lt_of_block H2.out.1) H3.out.1.size)).trans ((H3.out.1.block _ (lt_of_block H2.out.1)).trans H2.out.1)))
  rw [mayJ_40 (by omega) (by omega) (by omega)] at h4
  have hwe : okInt (IntKind.i64.wrap (e + 1)) := by unfold okInt; rw [IntKind.wrap_i64]; omega
  have HWE := Lib.hid (And.intro hwe (show jOk e → IntKind.i64.wrap (e + 1) = e + 1 from fun k => by unfold jOk at k; exact IntWalk.i64_in _ (by omega)))
  clear hwe
  rw [IntWalk.i64_left] at HWE
  obtain ⟨f, hf⟩ : ∃ f, f = wrap64 (e + 1) := ⟨_, rfl⟩
  rw [← hf] at HWE
  have HF := Lib.hid hf
  clear hf
  clear b4
  rcases h4 with ⟨hne, rfl⟩ | ⟨hok, F1, a1, rfl, j1, f1⟩
  · go_wp2_with fail
    refine (disk_any h g w4 (row_cells H4.out.2 0)).mono ?_
    rintro e' w5 ⟨rfl, hw5⟩
    have H5 := Lib.hid (show Below w4.heap.size w4 w5 ∧ w5.heap[w4.heap.size]? = some (.cells #[.pointer (some ⟨g, 0, none⟩)] 86) from ⟨by rw [hw5]; exact below1 _ _, by rw [hw5]; exact heap_alloc_new _ _⟩)
    clear hw5
    have B5 := Lib.hid (below_then B4.out H5.out.1)
    go_wp2_with fail
    rw [← HF.out]
    refine (HJ.out.new w4.heap.size g 1 3 f w5 _ 0 (Dk.new 40) B5.out (B4.out.size) H5.out.2 (((H2.out.2.then_ H3.out.1).then_ H4.out.1).then_ H5.out.1) (by unfold okInt; omega) (by unfold okInt; omega) HWE.out.1).mono ?_
    rintro e' w6 ⟨b6, h6⟩
    have B6 := Lib.hid (below_then B5.out b6)
    rcases h6 with ⟨-, rfl⟩ | ⟨-, F2, a2, rfl, -⟩
    · clear b6
      go_wp2_with fail
      go_ret
      exact ⟨rfl, B6.out⟩
    · clear b6
      go_wp2_with fail
      go_ret
      exact ⟨rfl, B6.out⟩
  · have J1 := Lib.hid (And.intro j1 (And.intro f1 hok))
    have hfe : f = e + 1 := HWE.out.2 hok
    clear j1 f1 hok
    go_wp2_with fail
    refine (disk_any h g w4 (row_cells H4.out.2 0)).mono ?_
    rintro e' w5 ⟨rfl, hw5⟩
    have H5 := Lib.hid (show Below w4.heap.size w4 w5 ∧ w5.heap[w4.heap.size]? = some (.cells #[.pointer (some ⟨g, 0, none⟩)] 86) from ⟨by rw [hw5]; exact below1 _ _, by rw [hw5]; exact heap_alloc_new _ _⟩)
    clear hw5
    have B5 := Lib.hid (below_then B4.out H5.out.1)
    have HFE := Lib.hid hfe
    clear hfe
    go_wp2_with fail
    rw [← HF.out]
    refine (HJ.out.new w4.heap.size g 1 3 f w5 _ 0 (Dk.new 40) B5.out (B4.out.size) H5.out.2 (((H2.out.2.then_ H3.out.1).then_ H4.out.1).then_ H5.out.1) (by unfold okInt; omega) (by unfold okInt; omega) HWE.out.1).mono ?_
    rintro e' w6 ⟨b6, h6⟩
    have B6 := Lib.hid (below_then B5.out b6)
    rw [mayJ_40 (by omega) (by omega) (by omega)] at h6
    rcases h6 with ⟨-, rfl⟩ | ⟨hok2, F2, a2, rfl, j2, f2⟩
    · clear b6
      go_wp2_with fail
      go_ret
      exact ⟨rfl, B6.out⟩
    have S0 : Hid (PSt1 Jn W w1.heap.size h g e a1 a2 w6) := Lib.hid (PSt1.start HJ.out J1.out.2.2 (by rw [← HFE.out]; exact hok2) B1.out.size B2.out H2.out.1 H2.out.2 (Nat.le_refl _) (below_then H3.out.1 H4.out.1) J1.out.1 (fun b k => by
      rcases J1.out.2.1 b k with k1 | k1
      · exact .inl k1
      · exact .inr (Nat.le_trans H3.out.1.size k1)) H5.out.1 (Nat.le_refl _) b6 (by rw [← HFE.out]; exact j2) f2)
    have hlo : W.heap.size ≤ w1.heap.size := B1.out.size
    clear b6 j2 f2 hok2 J1 H5 H4 H3 H2 B1 B2 B3 B4 B5 B6
    generalize w1.heap.size = lo at *
    go_wp2_with fail
    go_loopw [21] (fun i wr => ∃ k : Nat, k ≤ on ∧ i = .int .i64 ((k : Nat) : Int) ∧ Hid (PSt1 Jn W lo h g e a1 a2 wr)) (fun i _ => on - (intOf i).toNat)
    case atStart => exact ⟨0, by omega, rfl, S0⟩
    case round =>
      rename_i iv wr
      obtain ⟨k, hk, rfl, HS⟩ := hrel
      by_cases hlt : k < on
      · have j1 : (k : Int) < (on : Int) := by omega
        obtain ⟨x, hx⟩ : ∃ x, ol[k]? = some x := ⟨_, List.getElem?_eq_getElem (by rw [HO.out.2]; exact hlt)⟩
        obtain ⟨b, o, ax, cx, rfl, hc, hi, hnil, hxc, hxm, hB⟩ := HO.out.1 k x hx
        have HX := Lib.hid (And.intro hi (And.intro hnil (And.intro hxc (And.intro hxm hB))))
        have c1 : wr.cell? ⟨b, o + k, none⟩ = some (.slice ax x.length cx) := (HS.out.below.cell (p := ⟨b, o + k, none⟩) (cell_lt hc)).trans hc
        clear hi hnil hxc hxm hB hx hc
        go_wp2_with fail
        refine (HS.out.app HJ.out (HX.out.1.then_ HS.out.below) HX.out.2.2.2.2 rfl HX.out.2.2.1 HX.out.2.2.2.1 HX.out.2.1).mono ?_
        rintro e' wA ⟨er, rfl, hs⟩
        have HS1 := Lib.hid hs
        clear hs HS c1
        go_wp2_with fail
        go_roundw
        case rel => exact ⟨k + 1, by omega, by go_num, HS1⟩
        case measure => simp [intOf]; omega
      · obtain rfl : k = on := by omega
        clear hlt S0
        go_wp2_with fail
        refine (disk_any h g wr (row_cells HS.out.hand 0)).mono ?_
        rintro e' wA ⟨rfl, hwA⟩
        have HD := Lib.hid (show PSt1 Jn W lo h g e a1 a2 wA ∧ wA.heap[wr.heap.size]? = some (.cells #[.pointer (some ⟨g, 0, none⟩)] 86) from ⟨by rw [hwA]; exact HS.out.then_ HJ.out (below1 _ _), by rw [hwA]; exact heap_alloc_new _ _⟩)
        clear hwA
        go_wp2_with fail
        refine (HD.out.1.sync HJ.out HD.out.2).mono ?_
        rintro e' wB ⟨rfl, N, d, F, hs⟩
        rw [← HFE.out] at hs
        have HS2 := Lib.hid hs
        clear hs HD HS
        go_wp2_with fail
        refine (HS2.out.arm HJ.out HI.out.2.2 done).mono ?_
        rintro e' wC ⟨rfl, hs⟩
        have HS3 := Lib.hid hs
        clear hs HS2
        go_wp2_with fail
        go_loopw [23, 24, 25] (fun pv sv i wr => ∃ (j n sf : Nat) (pa : Option Addr) (pc : Nat), j ≤ rn ∧ i = .int .i64 (j : Int) ∧ pv = .slice pa n pc ∧ sv = .int .i64 (sf : Int) ∧ n ≤ 605 ∧ sf ≤ n ∧ Hid (∃ N d F J l rs, PSt2 Jn W lo h g f a2 (.slice pa n pc) n sf N wr d F J l rs [])) (fun _ _ i _ => rn - (intOf i).toNat)
        case atStart => exact ⟨0, 0, 0, none, 0, by omega, rfl, rfl, rfl, by omega, by omega, Lib.hid ⟨_, _, _, _, _, _, HS3.out⟩⟩
        case round =>
          clear HS3
          rename_i pv2 sv2 iv2 wq
          obtain ⟨j, n, sf, pa, pc, hj, rfl, rfl, rfl, hn, hsf, HK⟩ := hrel
          obtain ⟨N, d, F, J, l, rs, hq⟩ := HK.out
          have HQ := Lib.hid hq
          clear hq HK
          by_cases hlt : j < rn
          · have j1 : (j : Int) < (rn : Int) := by omega
            go_wp2_with fail
            refine (down_any h g _ _ N d (row_cells HQ.out.hand 0) HQ.out.box).mono ?_
            rintro e' wz ⟨rfl, hwz⟩
            subst hwz
            cases hdn : d.down with
            | true =>
              go_wp2_with fail
              refine (HQ.out.crash HJ.out (InKJ.up (HKE.out.1.then_ HQ.out.mem.below) hlo) HKE.out.2 (by omega)).mono ?_
              rintro e' wA ⟨rfl, ls, hl1, hl2, hs⟩
              obtain ⟨m, hm⟩ : ∃ m, m = ls.length := ⟨_, rfl⟩
              rw [← hm] at hl1 hl2
              have HS4 := Lib.hid (And.intro hs hm)
              clear hs hm HQ
              go_wp2_with fail
              refine (HS4.out.1.disk HJ.out).mono ?_
              rintro e' wB ⟨hd, rfl, hh, hs⟩
              have HD := Lib.hid (And.intro hh (And.intro hs HS4.out.2))
              clear hh hs HS4
              go_wp2_with fail
              rw [← HF.out]
              refine (HD.out.2.1.read HJ.out HD.out.1 rfl).mono ?_
              rintro e' wC ⟨fa, fc, rfl, i1, i2, hnp, b1⟩
              have HR1 := Lib.hid (And.intro i1 (And.intro i2 (And.intro HD.out.2.2 b1)))
              rw [← HD.out.2.2]
              clear i1 i2 b1 HD
              have hmp : m ≤ pc := by omega
              go_wp2_with fail
              refine (same_any fa m fc ls pa m pc ls wC HR1.out.1 HR1.out.2.2.1.symm HR1.out.2.1 HR1.out.2.2.1.symm (by omega)).mono ?_
              rintro e' wD ⟨rfl, b1⟩
              have B9 := Lib.hid (below_then HR1.out.2.2.2 b1)
              clear b1 HR1
              rw [decide_eq_true rfl]
              go_wp2_with fail
              go_ret
              exact ⟨rfl, B9.out⟩
            | false =>
              obtain ⟨x, hx⟩ : ∃ x, rl[j]? = some x := ⟨_, List.getElem?_eq_getElem (by rw [HR.out.2]; exact hlt)⟩
              obtain ⟨b, o, ax, cx, rfl, hc, hi, hnil, hxc, hxm, hB⟩ := HR.out.1 j x hx
              have HX := Lib.hid (And.intro hi (And.intro hnil (And.intro hxc (And.intro hxm hB))))
              have HC := Lib.hid hc
              have HAP := Lib.hid (HQ.out.app HJ.out hdn (hi.then_ HQ.out.mem.below) hB rfl hxc hxm hnil)
              have c1 := (HQ.out.mem.below.cell (p := ⟨b, o + j, none⟩) (cell_lt hc)).trans hc
              clear hi hnil hxc hxm hB hx hc
              go_wp2_with fail
              refine HAP.out.mono ?_
              rintro e' wA ⟨er, rfl, hs⟩
              clear HAP c1
              rcases hs with ⟨rfl, hs⟩ | ⟨rfl | rfl, N', d', F', J', hq1, hs⟩
              · have HQ2 := Lib.hid hs
                have HNU := Lib.hid (number_any 150 wA (ErrJ.then_ HI.out.1 hs.mem.below))
                rw [errV_mk (by decide)] at HNU ⊢
                clear hs
                go_wp2_with fail
                refine HNU.out.mono ?_
                rintro e' wB ⟨rfl, b1⟩
                have HQ3 := Lib.hid (HQ2.out.then_ HJ.out b1)
                clear b1 HQ2 HNU
                go_wp2_with fail
                go_roundw
                case rel => exact ⟨j + 1, n, sf, pa, pc, by omega, by go_num, rfl, rfl, hn, hsf, Lib.hid ⟨_, _, _, _, _, _, HQ3.out⟩⟩
                case measure => simp [intOf]; omega
              · have HQ2 := Lib.hid hs
                have HQJ := Lib.hid (hq1 rfl)
                rw [errV_zero]
                clear hs hq1
                have c1 : wA.cell? ⟨b, o + j, none⟩ = some (.slice ax x.length cx) := (HQ2.out.mem.below.cell (p := ⟨b, o + j, none⟩) (cell_lt HC.out)).trans HC.out
                have hlo2 : lo ≤ wA.heap.size := by have := HQ2.out.box.lt; dsimp only at this; omega
                have HB := Lib.hid (below1 wA (.cells #[.slice ax x.length cx] 22))
                have HQ3 := Lib.hid (HQ2.out.then_ HJ.out HB.out)
                have hn1 : n + 1 ≤ 605 := by have h1 := HQ2.out.few; rw [HQ2.out.all, List.length_append, List.length_map, HQ2.out.len, List.length_singleton] at h1; exact h1
                by_cases hjs : j < sn
                · have j3 : (j : Int) < (sn : Int) := by omega
                  obtain ⟨y, hy⟩ : ∃ y, sb[j]? = some y := ⟨_, List.getElem?_eq_getElem (by rw [HSY.out.2]; exact hjs)⟩
                  obtain ⟨bs, os, rfl, -, hyc⟩ := HSY.out.1 j y hy
                  have HYC : Hid (∀ w, Below W.heap.size W w → w.cell? ⟨bs, os + j, none⟩ = some (.bool y)) := Lib.hid fun w hb => (hb.cell (p := ⟨bs, os + j, none⟩) (cell_lt hyc)).trans hyc
                  clear hy hyc
                  cases y
                  · go_wp2_with (first | (show wpList _ _ _ (⟨some 115, _, _, _, _, _⟩ :: _) _ _; refine apPut rfl (.tmp 109) (.tmp 114) rfl lo _ l rfl HQ3.out.mem.put (.slice ax x.length cx) x ⟨ax, cx, rfl, HX.out.1, HX.out.2.1, HX.out.2.2.1, HX.out.2.2.2.1, HX.out.2.2.2.2⟩ ⟨wA.heap.size, 0, none⟩ rfl (row_cells (heap_alloc_new _ _) 0) (by rw [HQ3.out.len]; omega) (Nat.le_trans hlo2 HB.out.size) ?_; intro v7 w7 h7; have HQ4 := Lib.hid (HQ3.out.putAt HJ.out _ _ _ h7.out.1 h7.out.2.1 h7.out.2.2); obtain ⟨pb, pd, hpf⟩ := h7.out.1.form; have HPF := Lib.hid hpf.1; clear hpf h7; have y1 := HYC.out _ HQ4.out.mem.below) | fail)
                    go_roundw
                    case rel =>
                      have hpv := HPF.out
                      rw [List.length_append, List.length_singleton, HQ3.out.len] at hpv
                      subst hpv
                      exact ⟨j + 1, n + 1, sf, pb, pd, by omega, by go_num, rfl, rfl, hn1, by omega, Lib.hid ⟨_, _, _, _, _, _, HQ4.out⟩⟩
                    case measure => simp [intOf]; omega
                  · go_wp2_with (first | (show wpList _ _ _ (⟨some 115, _, _, _, _, _⟩ :: _) _ _; refine apPut rfl (.tmp 109) (.tmp 114) rfl lo _ l rfl HQ3.out.mem.put (.slice ax x.length cx) x ⟨ax, cx, rfl, HX.out.1, HX.out.2.1, HX.out.2.2.1, HX.out.2.2.2.1, HX.out.2.2.2.2⟩ ⟨wA.heap.size, 0, none⟩ rfl (row_cells (heap_alloc_new _ _) 0) (by rw [HQ3.out.len]; omega) (Nat.le_trans hlo2 HB.out.size) ?_; intro v7 w7 h7; have HQ4 := Lib.hid (HQ3.out.putAt HJ.out _ _ _ h7.out.1 h7.out.2.1 h7.out.2.2); obtain ⟨pb, pd, hpf⟩ := h7.out.1.form; have HPF := Lib.hid hpf.1; clear hpf h7; have y1 := HYC.out _ HQ4.out.mem.below) | fail)
                    obtain ⟨z1, z2, z3, z4⟩ := HQJ.out
                    refine (HQ4.out.sync HJ.out z2 z3 z4 (by
                      have h1 := HQ4.out.mem.ok.len
                      unfold JS.len at h1
                      rw [HQ4.out.je, HQ4.out.jm, z3] at h1
                      omega)).mono ?_
                    rintro e' wE ⟨er2, rfl, hs⟩
                    clear y1 z1 z2 z3 z4
                    rcases hs with ⟨hne, d2, F2', J2, hs⟩ | ⟨rfl, d2, F2', J2, hs, hj2⟩
                    · rw [errV_mk hne]
                      have HQ4 := Lib.hid hs
                      clear hs
                      go_wp2_with fail
                      go_roundw
                      case rel =>
                        have hpv := HPF.out
                        rw [List.length_append, List.length_singleton, HQ3.out.len] at hpv
                        subst hpv
                        exact ⟨j + 1, n + 1, sf, pb, pd, by omega, by go_num, rfl, rfl, hn1, by omega, Lib.hid ⟨_, _, _, _, _, _, HQ4.out⟩⟩
                      case measure => simp [intOf]; omega
                    · rw [errV_zero]
                      have HQ5 := Lib.hid (And.intro hs hj2)
                      have HRC := Lib.hid (HJ.out.records _ _ _ _ _ hs.mem.below hs.mem.one hs.mem.ok)
                      have hlen : J2.rs.length = n + 1 := by rw [hj2, hs.all, List.append_nil, List.length_map, hs.len]
                      rw [hlen] at HRC
                      have hl3 : (rs ++ [x]).length = n + 1 := by rw [← hj2]; exact hlen
                      rw [hl3] at HQ5
                      clear hs hj2 hlen hl3
                      go_wp2_with fail
                      refine HRC.out.mono ?_
                      rintro e' wG ⟨rfl, b1⟩
                      have HQ6 := Lib.hid (HQ5.out.1.then_ HJ.out b1)
                      clear b1 HRC
                      go_wp2_with fail
                      go_roundw
                      case rel =>
                        have hpv := HPF.out
                        rw [List.length_append, List.length_singleton, HQ3.out.len] at hpv
                        subst hpv
                        exact ⟨j + 1, n + 1, n + 1, pb, pd, by omega, by go_num, rfl, by go_num, hn1, by omega, Lib.hid ⟨_, _, _, _, _, _, HQ6.out⟩⟩
                      case measure => simp [intOf]; omega
                · have j3 : ¬ (j : Int) < (sn : Int) := by omega
                  go_wp2_with (first | (show wpList _ _ _ (⟨some 115, _, _, _, _, _⟩ :: _) _ _; refine apPut rfl (.tmp 109) (.tmp 114) rfl lo _ l rfl HQ3.out.mem.put (.slice ax x.length cx) x ⟨ax, cx, rfl, HX.out.1, HX.out.2.1, HX.out.2.2.1, HX.out.2.2.2.1, HX.out.2.2.2.2⟩ ⟨wA.heap.size, 0, none⟩ rfl (row_cells (heap_alloc_new _ _) 0) (by rw [HQ3.out.len]; omega) (Nat.le_trans hlo2 HB.out.size) ?_; intro v7 w7 h7; have HQ4 := Lib.hid (HQ3.out.putAt HJ.out _ _ _ h7.out.1 h7.out.2.1 h7.out.2.2); obtain ⟨pb, pd, hpf⟩ := h7.out.1.form; have HPF := Lib.hid hpf.1; clear hpf h7) | fail)
                  go_roundw
                  case rel =>
                    have hpv := HPF.out
                    rw [List.length_append, List.length_singleton, HQ3.out.len] at hpv
                    subst hpv
                    exact ⟨j + 1, n + 1, sf, pb, pd, by omega, by go_num, rfl, rfl, hn1, by omega, Lib.hid ⟨_, _, _, _, _, _, HQ4.out⟩⟩
                  case measure => simp [intOf]; omega
              · have HQ2 := Lib.hid hs
                have HNU := Lib.hid (number_any 5 wA (ErrJ.then_ HI.out.1 hs.mem.below))
                rw [errV_mk (by decide)] at HNU ⊢
                clear hs hq1
                go_wp2_with fail
                refine HNU.out.mono ?_
                rintro e' wB ⟨rfl, b1⟩
                have HQ2b := Lib.hid (HQ2.out.then_ HJ.out b1)
                clear b1 HQ2 HNU
                have c1 : wB.cell? ⟨b, o + j, none⟩ = some (.slice ax x.length cx) := (HQ2b.out.mem.below.cell (p := ⟨b, o + j, none⟩) (cell_lt HC.out)).trans HC.out
                have hlo2 : lo ≤ wB.heap.size := by have := HQ2b.out.box.lt; dsimp only at this; omega
                have HB := Lib.hid (below1 wB (.cells #[.slice ax x.length cx] 22))
                have HQ3 := Lib.hid (HQ2b.out.then_ HJ.out HB.out)
                have hn1 : n + 1 ≤ 605 := by have h1 := HQ2b.out.few; rw [HQ2b.out.all, List.length_append, List.length_map, HQ2b.out.len, List.length_singleton] at h1; exact h1
                go_wp2_with (first | (show wpList _ _ _ (⟨some 115, _, _, _, _, _⟩ :: _) _ _; refine apPut rfl (.tmp 109) (.tmp 114) rfl lo _ l rfl HQ3.out.mem.put (.slice ax x.length cx) x ⟨ax, cx, rfl, HX.out.1, HX.out.2.1, HX.out.2.2.1, HX.out.2.2.2.1, HX.out.2.2.2.2⟩ ⟨wB.heap.size, 0, none⟩ rfl (row_cells (heap_alloc_new _ _) 0) (by rw [HQ3.out.len]; omega) (Nat.le_trans hlo2 HB.out.size) ?_; intro v7 w7 h7; have HQ4 := Lib.hid (HQ3.out.putAt HJ.out _ _ _ h7.out.1 h7.out.2.1 h7.out.2.2); obtain ⟨pb, pd, hpf⟩ := h7.out.1.form; have HPF := Lib.hid hpf.1; clear hpf h7) | fail)
                go_roundw
                case rel =>
                  have hpv := HPF.out
                  rw [List.length_append, List.length_singleton, HQ3.out.len] at hpv
                  subst hpv
                  exact ⟨j + 1, n + 1, sf, pb, pd, by omega, by go_num, rfl, rfl, hn1, by omega, Lib.hid ⟨_, _, _, _, _, _, HQ4.out⟩⟩
                case measure => simp [intOf]; omega
          · have j1 : ¬ (j : Int) < (rn : Int) := by omega
            go_wp2_with fail
            refine (HQ.out.crash HJ.out (InKJ.up (HKE.out.1.then_ HQ.out.mem.below) hlo) HKE.out.2 (by omega)).mono ?_
            rintro e' wA ⟨rfl, ls, hl1, hl2, hs⟩
            obtain ⟨m, hm⟩ : ∃ m, m = ls.length := ⟨_, rfl⟩
            rw [← hm] at hl1 hl2
            have HS4 := Lib.hid (And.intro hs hm)
            clear hs hm HQ
            go_wp2_with fail
            refine (HS4.out.1.disk HJ.out).mono ?_
            rintro e' wB ⟨hd, rfl, hh, hs⟩
            have HD := Lib.hid (And.intro hh (And.intro hs HS4.out.2))
            clear hh hs HS4
            go_wp2_with fail
            rw [← HF.out]
            refine (HD.out.2.1.read HJ.out HD.out.1 rfl).mono ?_
            rintro e' wC ⟨fa, fc, rfl, i1, i2, hnp, b1⟩
            have HR1 := Lib.hid (And.intro i1 (And.intro i2 (And.intro HD.out.2.2 b1)))
            rw [← HD.out.2.2]
            clear i1 i2 b1 HD
            have hmp : m ≤ pc := by omega
            go_wp2_with fail
            refine (same_any fa m fc ls pa m pc ls wC HR1.out.1 HR1.out.2.2.1.symm HR1.out.2.1 HR1.out.2.2.1.symm (by omega)).mono ?_
            rintro e' wD ⟨rfl, b1⟩
            have B9 := Lib.hid (below_then HR1.out.2.2.2 b1)
            clear b1 HR1
            rw [decide_eq_true rfl]
            go_wp2_with fail
            go_ret
            exact ⟨rfl, B9.out⟩
end Go.Proofs.YtophhnolnlbecaaDoor
