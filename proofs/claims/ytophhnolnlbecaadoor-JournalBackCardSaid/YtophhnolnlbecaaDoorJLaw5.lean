/- The law JournalBack over the contracts. No statement is proved here. -/
import Derived.Test.YtophhnolnlbecaaDoorJBst
import Derived.Test.YtophhnolnlbecaaDoorJLaw4
import Derived.Test.YtophhnolnlbecaaDoorJLaw3
import Derived.Test.YtophhnolnlbecaaDoorNum
namespace Go.Proofs.YtophhnolnlbecaaDoor
open Go.RowKit
set_option maxRecDepth 100000

theorem ErrJ.then_ {W w : World} (h : ErrT W) (hb : Below W.heap.size W w) : ErrT w := (hb.cell (p := ⟨0, 0, none⟩) (cell_lt h)).trans h
/-- A journal has just been made. -/
theorem BSt.start {Jn : World → List Nat → Nat → JS → Prop} {W : World} {lo h g a : Nat} {e : Int} (P : P15J W Jn) (he : jOk e) {w2 w3 : World} {F : List Nat} {hd : Nat} (hlo : W.heap.size ≤ lo) (hW : Below W.heap.size W w2) (hx : w2.heap[h]? = some (.cells #[.pointer (some ⟨g, 0, none⟩)] 79)) (hbx : BoxAt w2 lo g (Dk.new 40) 0) (hd1 : w2.heap.size ≤ hd)
    (h23 : Below w2.heap.size w2 w3) (j : Jn w3 F a ⟨g, 1, 3, e, [], false⟩) (f : ∀ b ∈ F, b = hd ∨ w2.heap.size ≤ b) : BSt Jn W lo h g e a (.slice none 0 0) 0 (.slice none 0 0) [] [] [] w3 := by
  have g1 : ∀ b ∈ F, w2.heap.size ≤ b := fun b k => by rcases f b k with k1 | k1 <;> omega
  refine ⟨0, Dk.new 40, F, [], rfl, rfl, Nat.zero_le _, ⟨Dk.new_ok 40, rfl, rfl⟩, JN.new fun q _ => zero_stamp he, ?_⟩
  exact { box := (((hbx.off (fun y => w2.heap.size ≤ y) (fun y k => k)).offs (fun y k => .inl (by rcases k with k | k; exact g1 y k; cases k))).then_ h23)
          hand := (h23.block _ (lt_of_block hx)).trans hx
          one := j
          two := fun x hx => by cases hx
          two0 := fun _ => rfl
          apart := fun b k1 k2 => by cases k2
          nh := ⟨fun k => by
            have := g1 _ k
            have := lt_of_block hx
            omega, fun k => by cases k⟩
          below := hW.trans (h23.mono hW.size)
          hlo := hlo
          allB := Dk.allB.new 40
          ok := ⟨he, by show 8 * 1 + 8 * 3 ≤ 40; omega, by show 40 ≤ 524288; omega, by show 0 ≤ _; omega, fun r hr => by simp at hr⟩
          put := Put.nil _ _ _
          offP := fun y hy => by cases hy
          ints := OwnI.nil _ _
          offQ := fun y hy => by cases hy }
set_option maxHeartbeats 16000000 in
theorem back_law {W : World} {Jn : World → List Nat → Nat → JS → Prop} (PF : P15F W) (PJ : P15J W Jn) (hE : ErrT W) (e : Int) (he : okInt e) (ra : Option Addr) (rn rc : Nat) (rl : List (List Int)) (hr : InRR W ra rl) (hrn : rl.length = rn) (hrc : rn ≤ rc ∧ rc ≤ maxLen) (hr47 : rn ≤ 140737488351232) (cut : Int) (hcut : okInt cut) :
    Calls Tryd.prog 5 #[.int .i64 e, .slice ra rn rc, .int .i64 cut] W fun e w' => e = .returned (.bool true) ∧ Below W.heap.size W w' := by
  have HP := Lib.hid PF
  have HJ := Lib.hid PJ
  have HI := Lib.hid (And.intro hr (And.intro hrn (And.intro hE he)))
  obtain ⟨hrc1, hrc2⟩ := hrc
  unfold okInt at hcut
  obtain ⟨t1, t2⟩ := hcut
  clear PF PJ hr hrn hE he
  go_enter Tryd.func5, Tryd.ntmps5
  go_wp2_with fail
  refine (awake15_any HP.out W (Below.refl _ _)).mono ?_
  rintro e' w1 ⟨rfl, b1⟩
  have B1 := Lib.hid b1
  clear b1
  go_wp2_with fail
  refine (new_any 40 (by omega) w1).mono ?_
  rintro e' w2 ⟨h, g, rfl, hh, hlt, hbx, b2⟩
  have B2 := Lib.hid (below_then B1.out b2)
  have H2 := Lib.hid (And.intro hh hbx)
  clear hh hbx hlt b2
  go_wp2_with fail
  refine (disk_any h g w2 (row_cells H2.out.1 0)).mono ?_
  rintro e' w3 ⟨rfl, hw3⟩
  have H3 := Lib.hid (show Below w2.heap.size w2 w3 ∧ w3.heap[w2.heap.size]? = some (.cells #[.pointer (some ⟨g, 0, none⟩)] 86) from ⟨by rw [hw3]; exact below1 _ _, by rw [hw3]; exact heap_alloc_new _ _⟩)
  clear hw3
  have B3 := Lib.hid (below_then B2.out H3.out.1)
  go_wp2_with fail
  refine (HJ.out.new w2.heap.size g 1 3 e w3 _ 0 (Dk.new 40) B3.out (B2.out.size) H3.out.2 (H2.out.2.then_ H3.out.1) (by unfold okInt; omega) (by unfold okInt; omega) HI.out.2.2.2).mono ?_
  rintro e' w4 ⟨b4, h4⟩
  have B4 := Lib.hid (below_then B3.out b4)
  rw [mayJ_40 (by omega) (by omega) (by omega)] at h4
  rcases h4 with ⟨hne, rfl⟩ | ⟨hok, F1, a1, rfl, j1, f1⟩
  · have HNE := Lib.hid hne
    clear b4 hne
    by_cases h1 : e < 1
    · go_wp2_with fail
      go_ret
      exact ⟨rfl, B4.out⟩
    · have h2 : 1099511627776 < e := by
        have := HNE.out
        unfold jOk at this
        omega
      go_wp2_with fail
      go_ret
      exact ⟨rfl, B4.out⟩
  have S0 := Lib.hid (BSt.start HJ.out hok B1.out.size B2.out H2.out.1 H2.out.2 (Nat.le_refl _) (below_then H3.out.1 b4) j1 (fun b k => by
    rcases f1 b k with k1 | k1
    · exact .inl k1
    · exact .inr (Nat.le_trans H3.out.1.size k1)))
  clear b4 j1 f1 hok H3 H2 B1 B2 B3 B4
  generalize w1.heap.size = lo at *
  go_wp2_with fail
  go_loopw [11, 12, 13] (fun pv ev i wr => ∃ k n pa pc ea ec, k ≤ rn ∧ i = .int .i64 ((k : Nat) : Int) ∧ pv = .slice pa n pc ∧ ev = .slice ea n ec ∧ n ≤ 604 ∧ Hid (∃ rs, BSt Jn W lo h g e a1 (.slice pa n pc) n (.slice ea n ec) (endsOf e rs) rs [] wr)) (fun _ _ i _ => rn - (intOf i).toNat)
  case atStart => exact ⟨0, 0, none, 0, none, 0, by omega, rfl, rfl, rfl, by omega, Lib.hid ⟨[], S0.out⟩⟩
  case round =>
    obtain ⟨k, n, pa, pc, ea, ec, hk, rfl, rfl, rfl, hn, HK⟩ := hrel
    obtain ⟨rs, hs⟩ := HK.out
    have HS := Lib.hid hs
    clear hs HK
    by_cases hlt : k < rn
    · have j1 : (k : Int) < (rn : Int) := by omega
      obtain ⟨x, hx⟩ : ∃ x, rl[k]? = some x := ⟨_, List.getElem?_eq_getElem (by rw [HI.out.2.1]; exact hlt)⟩
      obtain ⟨b, o, ax, cx, rfl, hc, hi, hnil, hxc, hxm, hB⟩ := HI.out.1 k x hx
      have HX := Lib.hid (And.intro hi (And.intro hnil (And.intro hxc (And.intro hxm hB))))
      have HC := Lib.hid hc
      clear hi hnil hxc hxm hB hx hc
      go_wp2_with fail
      refine (HS.out.room HJ.out).mono ?_
      rintro e' wA ⟨rfl, b1⟩
      have HS1 := Lib.hid (HS.out.then_ HJ.out b1)
      have HA1 := Lib.hid (HS1.out.app HJ.out (HX.out.1.then_ HS1.out.below) HX.out.2.2.2.2 rfl HX.out.2.2.1 HX.out.2.2.2.1 HX.out.2.1)
      obtain ⟨R, hR⟩ : ∃ R, R = JS.room ⟨g, 1, 3, e, rs, false⟩ := ⟨_, rfl⟩
      rw [← hR] at HA1 ⊢
      have c1 : wA.cell? ⟨b, o + k, none⟩ = some (.slice ax x.length cx) := (HS1.out.below.cell (p := ⟨b, o + k, none⟩) (cell_lt HC.out)).trans HC.out
      clear b1 HS hR
      go_wp2_with fail
      refine HA1.out.mono ?_
      rintro e' wB hB
      clear HA1 HS1 c1
      rcases hB with ⟨hRn, rfl, hs⟩ | ⟨rfl, hs⟩
      · have c1 : wB.cell? ⟨b, o + k, none⟩ = some (.slice ax x.length cx) := (hs.below.cell (p := ⟨b, o + k, none⟩) (cell_lt HC.out)).trans HC.out
        have HS2 := Lib.hid hs
        have HNU := Lib.hid (number_any 150 wB (ErrJ.then_ HI.out.2.2.1 hs.below))
        rw [errV_mk (by decide)] at HNU ⊢
        clear hs
        go_wp2_with fail
        refine HNU.out.mono ?_
        rintro e' wC ⟨rfl, b1⟩
        have HS3 := Lib.hid (HS2.out.then_ HJ.out b1)
        have c2 : wC.cell? ⟨b, o + k, none⟩ = some (.slice ax x.length cx) := (b1.cell (p := ⟨b, o + k, none⟩) (cell_lt c1)).trans c1
        clear b1 HS2 HNU c1
        go_wp2_with fail
        go_roundw
        case rel => exact ⟨k + 1, n, pa, pc, ea, ec, by omega, by go_num, rfl, rfl, hn, Lib.hid ⟨rs, HS3.out⟩⟩
        case measure => simp [intOf]; omega
      · have c1 : wB.cell? ⟨b, o + k, none⟩ = some (.slice ax x.length cx) := (hs.below.cell (p := ⟨b, o + k, none⟩) (cell_lt HC.out)).trans HC.out
        have hs0 := hs.then_ HJ.out (below1 wB (.cells #[.slice ax x.length cx] 22))
        obtain ⟨l, hp1, hp2, hp3⟩ := hs0.putAt HJ.out
        have HPA := Lib.hid (And.intro hp1 (And.intro hp2 (And.intro hp3 hs0.few.2.2.1)))
        have hes : (endsOf e (rs ++ [x])).length ≤ 604 := by rw [endsOf_len]; exact hs.few.1
        clear hs hs0 hp1 hp2 hp3
        go_wp2_with (first | (show wpList _ _ _ (⟨some 88, _, _, _, _, _⟩ :: _) _ _; refine apPut rfl (.tmp 82) (.tmp 87) rfl lo _ l rfl HPA.out.1 (.slice ax x.length cx) x ⟨ax, cx, rfl, HX.out.1, HX.out.2.1, HX.out.2.2.1, HX.out.2.2.2.1, HX.out.2.2.2.2⟩ ⟨wB.heap.size, 0, none⟩ rfl (row_cells (heap_alloc_new _ _) 0) (by rw [HPA.out.2.1]; omega) HPA.out.2.2.2 ?_; intro v7 w7 h7; have HS2 := Lib.hid (HPA.out.2.2.1 _ _ _ h7.out.1 h7.out.2.1 h7.out.2.2); obtain ⟨pb, pd, hpf⟩ := h7.out.1.form; have HPF := Lib.hid hpf; clear hpf h7) | fail)
        have hpv := HPF.out.1
        rw [List.length_append, List.length_singleton, HPA.out.2.1] at hpv
        subst hpv
        clear HPF HPA c1
        refine (HS2.out.bytes HJ.out).mono ?_
        rintro e' wC ⟨rfl, b1⟩
        have HS3 := Lib.hid (HS2.out.then_ HJ.out b1)
        clear b1 HS2
        have hM2 := HS3.out.few.2.2.2
        have HM := Lib.hid (endsOf_snoc e rs x)
        generalize (strmK e (rs ++ [x]) (rs ++ [x]).length).length = M at *
        have hs0 := HS3.out.then_ HJ.out (below1 wC (.cells #[.int .i64 (((M : Int) + 503) / 504)] 3))
        have HGQ := Lib.hid (And.intro (hs0.intsAt HJ.out) hs0.few.2.2.1)
        have HMV := Lib.hid (show (((M + 503) / 504 : Nat) : Int) = ((M : Int) + 503) / 504 by omega)
        rw [HMV.out] at HM
        have HL := Lib.hid (show (endsOf e rs).length + 1 ≤ 604 by have h := hes; rw [endsOf_len, List.length_append, List.length_singleton] at h; rw [endsOf_len]; exact h)
        have hn1 : n + 1 ≤ 604 := by have h := HS3.out.few; omega
        clear hs0
        go_wp2_with (first | (show wpList _ _ _ (⟨some 95, _, _, _, _, _⟩ :: _) _ _; refine apIR rfl (.tmp 89) (.tmp 94) rfl lo _ _ rfl HGQ.out.1.1 (some ⟨wC.heap.size, 0, none⟩) 1 1 [((M : Int) + 503) / 504] rfl rfl (InI.one1 wC _) (fun e => by cases e) (by have := HL.out; omega) HGQ.out.2 ?_; intro v8 w8 h8; have HS4 := Lib.hid (HGQ.out.1.2 _ _ _ h8); have HF := Lib.hid (h8.own.shape); clear h8) | fail)
        obtain ⟨eb, ed, hev, -⟩ := HF.out
        rw [← HM.out, endsOf_len, (HS3.out.kept rfl).2.1] at hev
        subst hev
        have HS5 := Lib.hid (show BSt Jn W lo h g e a1 (.slice pb (n + 1) pd) (n + 1) (.slice eb (n + 1) ed) (endsOf e (rs ++ [x])) (rs ++ [x]) [] w8 from by rw [HM.out]; exact HS4.out)
        clear HF HS4 HGQ HS3
        go_roundw
        case rel => exact ⟨k + 1, n + 1, pb, pd, eb, ed, by omega, by go_num, rfl, rfl, hn1, Lib.hid ⟨_, HS5.out⟩⟩
        case measure => simp [intOf]; omega
    · obtain rfl : k = rn := by omega
      clear hlt
      have HRS := Lib.hid ((HS.out.kept rfl).2.1)
      go_wp2_with fail
      refine (HS.out.disk HJ.out).mono ?_
      rintro e' wA ⟨hd, rfl, hh, hs⟩
      have HD := Lib.hid (And.intro hh hs)
      clear hh hs HS
      go_wp2_with fail
      refine (HD.out.2.read HJ.out HD.out.1).mono ?_
      rintro e' wB ⟨ra1, rc1, rfl, i1, b1⟩
      have HS1 := Lib.hid (HD.out.2.then_ HJ.out b1)
      have HR1 := Lib.hid i1
      rw [HRS.out]
      clear i1 b1 HD
      go_wp2_with fail
      refine (same_any ra1 n rc1 rs pa n pc rs wB HR1.out HRS.out (HS1.out.kept rfl).1 HRS.out (by omega)).mono ?_
      rintro e' wC ⟨rfl, b1⟩
      have HS2 := Lib.hid (HS1.out.then_ HJ.out b1)
      clear b1 HS1 HR1
      rw [decide_eq_true rfl]
      go_wp2_with fail
      refine HS2.out.area.mono ?_
      rintro e' wD ⟨v, A, rfl, ho, hA, hAb, hsc, b1⟩
      have HS3 := Lib.hid (HS2.out.then_ HJ.out b1)
      obtain ⟨g9, c9, rfl, hc9⟩ := ho.form (by omega)
      have hcm9 : c9 ≤ maxLen := by obtain ⟨a2, c2, e2, -, -, -, h2⟩ := ho.shape; injection e2 with _ _ e3; subst e3; exact h2
      rw [hA]
      rw [hA] at hc9
      have HA := Lib.hid (And.intro ho (And.intro hA (And.intro hAb hsc)))
      clear b1 HS2 ho hA hAb hsc
      go_upto_if 109 with fail
      go_cut [2] from 108 to 112 (fun v wx => ∃ C : Nat, C ≤ 9223372036854775807 ∧ v = .int .i64 (C : Int) ∧ wx = wD)
      case first =>
        by_cases hneg : cut < 0
        · go_wp2_with fail
          all_goals go_meet
          all_goals exact ⟨(-(cut + 1)).toNat, by omega, by rw [Int.toNat_of_nonneg (by omega)], rfl⟩
        · go_wp2_with fail
          all_goals go_meet
          all_goals exact ⟨cut.toNat, by omega, by rw [Int.toNat_of_nonneg (by omega)], rfl⟩
      case rest =>
        obtain ⟨C, hC, rfl, rfl⟩ := hcut
        obtain ⟨m, hm⟩ : ∃ m : Nat, m = C % 25 := ⟨_, rfl⟩
        have hmi : (C : Int) % 25 = (m : Int) := by omega
        have hm24 : m ≤ 24 := by omega
        clear hm
        go_wp2_with fail
        try rw [hmi]
        have HT := Lib.hid (show InB wc (some ⟨g9, 0, none⟩) (A.take (512 * m)) ∧ isB (A.take (512 * m)) ∧ (A.take (512 * m)).length = 512 * m from ⟨fun i x hx => HA.out.1.inB i x (by
          rw [List.getElem?_take] at hx
          split at hx
          · exact hx
          · cases hx), HA.out.2.2.1.take' _, by rw [List.length_take, HA.out.2.1]; omega⟩)
        refine (HP.out.scan e (some ⟨g9, 0, none⟩) (512 * m) c9 _ wc HS3.out.below HI.out.2.2.2 HT.out.1 HT.out.2.1 HT.out.2.2 (by omega) hcm9 (by omega) (fun e => by cases e)).mono ?_
        rintro e' wE ⟨v, rf, rfl, hf, ho, b1⟩
        obtain ⟨fa, fc, rfl, -⟩ := ho.form
        have HS4 := Lib.hid (HS3.out.then_ HJ.out b1)
        have HO := Lib.hid (HS4.out.intsAt HJ.out).1
        have HSC := Lib.hid (show ∀ j, j ≤ rs.length → (strmK e rs j).length ≤ 504 * m → (j = rs.length ∨ 504 * m < (strmK e rs (j + 1)).length) → rf.length = j ∧ InRR wE fa (rs.take j) from fun j h1 h2 h3 => by
          have hq := HA.out.2.2.2 m j hm24 h1 h2 h3
          rw [HT.out.2.2, show 512 * m / 512 = m by omega, hq] at hf
          have hl : rf.length = j := by
            have := congrArg List.length hf
            rw [List.length_map, List.length_take] at this
            omega
          obtain ⟨a2, c2, hv2, hi2⟩ := ho.inRR (fun p hp => by
            have h4 : p.2 ∈ rs := by
              have : p.2 ∈ rf.map Prod.snd := List.mem_map_of_mem hp
              rw [hf] at this
              exact List.mem_of_mem_take this
            obtain ⟨i, hi⟩ := List.mem_iff_getElem?.1 h4
            obtain ⟨-, -, -, -, -, -, -, -, -, -, hB⟩ := (HS4.out.kept rfl).1 i p.2 hi
            exact hB)
          injection hv2 with hv2
          subst hv2
          rw [hf] at hi2
          exact ⟨hl, hi2⟩)
        generalize rf.length = fn at *
        generalize (scanN (streamN e ((A.take (512 * m)).length / 512) (A.take (512 * m))) e).2 = sN
        clear hf ho b1 HT HA HS3 hcm9 hc9 hmi hC
        go_wp2_with fail
        go_loopw [23, 24] (fun wv iv wr => ∃ j : Nat, j ≤ n ∧ iv = .int .i64 (j : Int) ∧ wv = .int .i64 (j : Int) ∧ wr = wE ∧ Hid ((strmK e rs j).length ≤ 504 * m)) (fun _ iv _ => n - (intOf iv).toNat)
        case atStart => exact ⟨0, by omega, rfl, rfl, rfl, Lib.hid (Nat.zero_le _)⟩
        case round =>
          obtain ⟨j, hj, rfl, rfl, rfl, HM⟩ := hrel
          by_cases hjn : j < n
          · have j1 : (j : Int) < (n : Int) := by omega
            obtain ⟨gE, cE, hvE, hcE⟩ := HO.out.form (by rw [endsOf_len, HRS.out]; omega)
            rw [endsOf_len, HRS.out] at hvE
            injection hvE with hv1 hv2 hv3
            subst hv1
            have HEA := Lib.hid (endsOf_at (e := e) (rs := rs) (i := j) (by rw [HRS.out]; exact hjn))
            have k0 := (HO.out.at_ HEA.out).1
            obtain ⟨E, hE⟩ : ∃ E, E = ((strmK e rs (j + 1)).length + 503) / 504 := ⟨_, rfl⟩
            have HEE := Lib.hid hE
            rw [← hE] at k0
            clear hE HEA hcE hv3
            by_cases hEm : E ≤ m
            · have j2 : (E : Int) ≤ (m : Int) := by omega
              go_wp2_with fail
              go_roundw
              case rel => exact ⟨j + 1, by omega, by go_num, by go_num, by first | rfl | trivial, Lib.hid (by have := HEE.out; omega)⟩
              case measure => simp [intOf]; omega
            · have j2 : ¬ (E : Int) ≤ (m : Int) := by omega
              have HEX : Hid (j = rs.length ∨ 504 * m < (strmK e rs (j + 1)).length) := Lib.hid (.inr (by have := HEE.out; omega))
              obtain ⟨hfn, hir⟩ := HSC.out j (by rw [HRS.out]; omega) HM.out HEX.out
              have HFR := Lib.hid hir
              subst hfn
              have hjc : fn ≤ pc := by have := (HS4.out.kept rfl).2.2; omega
              clear hir
              go_wp2_with fail
              refine (same_any fa fn fc (rs.take fn) pa fn pc (rs.take fn) wr HFR.out (by rw [List.length_take, HRS.out]; omega) ((HS4.out.kept rfl).1.take fn) (by rw [List.length_take, HRS.out]; omega) (by omega)).mono ?_
              rintro e' wG ⟨rfl, b1⟩
              have B9 := Lib.hid (below_then HS4.out.below b1)
              clear b1
              rw [decide_eq_true rfl]
              go_wp2_with fail
              go_ret
              exact ⟨rfl, B9.out⟩
          · have j1 : ¬ (j : Int) < (n : Int) := by omega
            have HEX : Hid (j = rs.length ∨ 504 * m < (strmK e rs (j + 1)).length) := Lib.hid (.inl (by rw [HRS.out]; omega))
            obtain ⟨hfn, hir⟩ := HSC.out j (by rw [HRS.out]; omega) HM.out HEX.out
            have HFR := Lib.hid hir
            subst hfn
            have hjc : fn ≤ pc := by have := (HS4.out.kept rfl).2.2; omega
            clear hir
            go_wp2_with fail
            refine (same_any fa fn fc (rs.take fn) pa fn pc (rs.take fn) wr HFR.out (by rw [List.length_take, HRS.out]; omega) ((HS4.out.kept rfl).1.take fn) (by rw [List.length_take, HRS.out]; omega) (by omega)).mono ?_
            rintro e' wG ⟨rfl, b1⟩
            have B9 := Lib.hid (below_then HS4.out.below b1)
            clear b1
            rw [decide_eq_true rfl]
            go_wp2_with fail
            go_ret
            exact ⟨rfl, B9.out⟩
end Go.Proofs.YtophhnolnlbecaaDoor
